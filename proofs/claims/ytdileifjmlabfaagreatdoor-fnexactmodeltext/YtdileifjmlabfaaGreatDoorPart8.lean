/-
  Contracts that the proof leans on, put together in the order in which they build.
-/
import Derived.Test.YtdileifjmlabfaaGreatDoorPart7
import Derived.Test.YtdileifjmlabfaaGreatDoorPart1
import Derived.Deep.DeepMust
import Derived.Maps.AppendAt
import Derived.Deep.RegionLaw
import Derived.Deep.AppendLies
import Derived.Test.YtdileifjmlabfaaGreatDoorPart4
import Derived.Deep.RegionWith
import Derived.Test.YtdileifjmlabfaaGreatDoorPart5
import Derived.ProofKit
import Derived.ChangeSame
import Derived.Deep.Strs
import Derived.Deep.Slices
import Derived.ChangeMaps5
/-
  The words of a table: contracts of Words, of the program and of its model, over a plain function of lists.
-/
namespace Go.Proofs.YtdileifjmlabfaaGreatDoor.Co
set_option maxRecDepth 20000
open Go.RowKit
open Go.Proofs.YtdileifjmlabfaaGreatDoor.Tb
open Go.Proofs.YtdileifjmlabfaaGreatDoor.Tk
open Go.Proofs.YtdileifjmlabfaaGreatDoor.Li (ret_bool grown_refl grown_trans grown_set below_none btw between_any)

theorem sone_cell (w : World) (T : TypeId) (x : ByteArray) : ∀ j u, ([Value.string x] : List Value)[j]? = some u → (w.alloc (.cells #[.string x] T)).cell? ((⟨w.heap.size, 0, none⟩ : Addr).add j) = some u := by
  intro j u hj
  match j, hj with
  | 0, hj => simp at hj; subst hj; simp [Addr.add]
theorem sone_one (x : ByteArray) : ∀ u ∈ ([Value.string x] : List Value), u.oneCell' = true := by
  intro u hu; simp at hu; subst hu; rfl
theorem sown_snoc {w : World} {base n : Nat} {v : Value} {l : List ByteArray} {x : ByteArray} (hn : l.length = n) (h : w.ownsRow base 9 1 v (n + 1) (Ls.sv l ++ [.string x])) : Ls.Own w base v (l ++ [x]) := by
  subst hn
  unfold Ls.Own
  rw [← Ls.sv_append, List.length_append]
  exact h
theorem sown_empty (w : World) (base : Nat) (hb : base ≤ w.heap.size) : Ls.Own (w.alloc (.cells #[] 9)) base (.slice (some ⟨w.heap.size, 0, none⟩) 0 0) [] :=
  World.ownsRow_made w #[] 0 hb (by unfold maxLen; omega) (by simp)
/-- The words at a place of the rows. -/
def cat (rs : List Row) (p : Nat) : List ByteArray := rs.map fun r => r.cats.getD p ⟨#[]⟩
def words (n c : Int) (rs : List Row) (num : Int) : List ByteArray := if tok n c rs = true ∧ 0 ≤ num ∧ num < c then cat rs num.toNat else []
theorem cat_length (rs : List Row) (p : Nat) : (cat rs p).length = rs.length := by simp [cat]
theorem words_le (n c : Int) (rs : List Row) (num : Int) : (words n c rs num).length ≤ rs.length := by
  unfold words; split
  · rw [cat_length]; exact Nat.le_refl _
  · simp
theorem cat_get (rs : List Row) (p j : Nat) (h : j < rs.length) (hp : p < rs[j].cats.length) : (cat rs p)[j]'(by rw [cat_length]; exact h) = rs[j].cats[p] := by simp [cat, hp]
set_option maxHeartbeats 400000 in
theorem clone (w : World) (s : ByteArray) (hs : s.size ≤ 281474976710656) :
    Calls Tryz.prog 82 #[.string s] w fun e w' => e = .returned (.string s) ∧ Below w.heap.size w w' := by
  go_enter Tryz.func82, Tryz.ntmps82
  go_wp2_with (go_at_call 90; refine (Tryz.stringslite_Clone _ _ hs).mono ?_; rintro e w1 ⟨rfl, hB⟩)
  go_ret
  exact ⟨rfl, hB⟩
set_option maxHeartbeats 2000000 in
theorem iwords (w : World) (n c : Int) (a : Option Addr) (cap : Nat) (rs : List Row) (num : Int) (hx : IsR w a rs) (hl : rs.length + szR rs ≤ 1048576) :
    Calls Tryz.prog 72 #[.agg #[.int .i64 n, .int .i64 c, .slice a rs.length cap], .int .i64 num] w fun e w' => ∃ v, e = .returned v ∧ Ls.Own w' w.heap.size v (words n c rs num) ∧ Below w.heap.size w w' := by
  obtain ⟨i0, hi, hz0, hz1, hz2⟩ := info_parts Ls.info_str
  obtain ⟨W, hW, hsz, hB, bx⟩ := box3_new' w (.int .i64 n) (.int .i64 c) (.slice a rs.length cap) 106
  have HW : Hid (w.alloc (.cells #[.int .i64 n, .int .i64 c, .slice a rs.length cap] 106) = W) := hW
  clear hW
  go_enter Tryz.func72, Tryz.ntmps72
  go_wp2_with fail
  rw [HW.out]
  clear HW
  refine (itab _ _ _ _ _ rs (hx.below hB) hl).mono ?_
  rintro e w1 ⟨rfl, hB1⟩
  have bx := bx.below hB1
  have hB := hB.trans (hB1.mono hB.size)
  clear hB1 hsz
  obtain ⟨hbx, ⟨cx0, cx1, cx2⟩, _⟩ := id bx
  cases ht : tok n c rs
  · have HR : Hid (words n c rs num = []) := by show _ = _; unfold words; rw [if_neg (by rw [ht]; simp)]
    go_wp2
    go_ret
    exact ⟨_, rfl, by rw [HR.out]; exact Ls.Own.nil _ _, hB⟩
  by_cases h0 : num < 0
  · have HR : Hid (words n c rs num = []) := by show _ = _; unfold words; rw [if_neg (by omega)]
    clear ht
    go_wp2
    go_ret
    exact ⟨_, rfl, by rw [HR.out]; exact Ls.Own.nil _ _, hB⟩
  by_cases h1 : c ≤ num
  · have HR : Hid (words n c rs num = []) := by show _ = _; unfold words; rw [if_neg (by omega)]
    clear ht
    go_wp2
    go_ret
    exact ⟨_, rfl, by rw [HR.out]; exact Ls.Own.nil _ _, hB⟩
  · have HR : Hid (words n c rs num = cat rs num.toNat) := by show _ = _; unfold words; rw [if_pos ⟨ht, by omega, by omega⟩]
    have HT : Hid (tok n c rs = true) := ht
    have hle := hB.size
    clear ht
    go_wp2_with (at_make; refine wpList_make_full _ rfl _ _ 44 rfl w.heap.size 9 i0 (.string ⟨#[]⟩) 1 Tryz.underlying44 hi hz0 hz1 _ _ _ _ rs.length rfl rfl (by omega) (by omega) (by rw [hz2]; omega) (by unfold maxLen; omega) (by omega) ?_; intro w2 hown hgrow; have bx2 := bx.below (below_none hgrow); obtain ⟨_, ⟨dx0, dx1, dx2⟩, _⟩ := id bx2)
    have hown' := Ls.own_made hown
    have hB1 := below_none hgrow
    have hB := hB.trans (hB1.mono hB.size)
    clear hown hgrow hB1
    go_loopw [29] (fun i wr => ∃ k : Nat, k ≤ rs.length ∧ i = .int .i64 k ∧ ∃ l : List ByteArray, l.length = rs.length ∧ Ls.Like l (cat rs num.toNat) k ∧ Ls.Own wr w.heap.size (.slice (some ⟨w1.heap.size, 0, none⟩) rs.length rs.length) l ∧ Below w.heap.size w wr) (fun i _ => rs.length - (intOf i).toNat)
    case atStart => exact ⟨0, Nat.zero_le _, rfl, _, by simp, fun j hj => by omega, hown', hB⟩
    case round =>
      obtain ⟨k, hk, rfl, l, hll, hlike, hown, hBr⟩ := hrel
      have hlen := cat_length rs num.toNat
      by_cases hlt : k < rs.length
      · rcases hx.below hBr with h0' | ⟨xb, xo, rfl, hxb, hxc⟩
        · rw [h0'] at hlt; simp at hlt
        · obtain ⟨v0, v1, v2, ⟨d0, d1, d2⟩, hr⟩ := hxc k hlt
          clear hxc
          obtain ⟨a0, q0, a1, q1, rfl, rfl, rfl, _, j0⟩ := hr
          have hnl := (tok_nums HT.out k hlt).2
          have hp : num.toNat < rs[k].cats.length := by omega
          have hp' : num < (rs[k].cats.length : Int) := by omega
          have hBa : Below wr.heap.size wr (wr.alloc (.cells #[.slice a0 rs[k].nums.length q0, .slice a1 rs[k].cats.length q1, .int .i64 rs[k].label] 126)) := (Below.refl _ _).alloc (Nat.le_refl _) _
          rcases j0.below hBa with h0' | ⟨yb, yo, rfl, hyb, hyc⟩
          · rw [h0'] at hp; simp at hp
          have hcy := hyc num.toNat hp
          have HL : Hid (Ls.Like (l.set k (rs[k].cats[num.toNat]'hp)) (cat rs num.toNat) (k + 1)) := by
            have := Ls.like_set hlike (by omega) (by omega)
            rwa [cat_get rs num.toNat k hlt hp] at this
          have hwl := word_le rs[k].cats num.toNat hp
          have hz := szR_at rs k hlt
          unfold Row.sz at hz
          have hxs : (rs[k].cats[num.toNat]'hp).size ≤ 1048576 := by omega
          obtain ⟨x, hx'⟩ : ∃ x, rs[k].cats[num.toNat]'hp = x := ⟨_, rfl⟩
          rw [hx'] at hcy HL hxs
          clear hx' hyc hwl hz
          have hBr' := hBr.trans (hBa.mono hBr.size)
          have hown1 := hown.below hBa
          have HNL : Hid ((rs[k].cats.length : Int) = c) := hnl
          clear hown hlike hBa hlen dx0 dx1 dx2 cx0 cx1 cx2 hnl
          go_wp2_with fail
          refine (clone _ _ (by omega)).mono ?_
          rintro e w4 ⟨rfl, hB4⟩
          have hBr' := hBr'.trans (hB4.mono hBr'.size)
          have hown1 := hown1.below hB4
          have hkl : k < l.length := by rw [hll]; exact hlt
          have hcl := hown1.cell hll k hkl
          have hcf := hown1.frozen hll k
          have hg1 := (hown1.ge w1.heap.size rfl).2
          have HO : Hid _ := hown1.set hll k x
          have HBn : Hid _ := hBr'.setCell (p := ⟨w1.heap.size, k, none⟩) (by exact hle) (.string x)
          clear hown1 hBr' hB4 d0 d1 d2 hcy
          go_wp2
          go_roundw
          case rel => exact ⟨k + 1, by omega, by go_num, l.set k x, by simpa using hll, HL.out, HO.out, HBn.out⟩
          case measure => simp [intOf]; omega
      · have e := Ls.like_all (xs := cat rs num.toNat) (ys := l) (by rw [hlen, show rs.length = k by omega]; exact hlike) (by omega)
        have HO : Hid (Ls.Own wr w.heap.size (.slice (some ⟨w1.heap.size, 0, none⟩) rs.length rs.length) (words n c rs num)) := by show Ls.Own _ _ _ _; rw [HR.out, ← e]; exact hown
        clear e hown hlike hlen hll
        go_wp2
        go_ret
        exact ⟨_, rfl, HO.out, hBr⟩
end Go.Proofs.YtdileifjmlabfaaGreatDoor.Co
/-
  Pairs of words: contracts of Paired, of the program and of its model, over one plain function.
-/
namespace Go.Proofs.YtdileifjmlabfaaGreatDoor.Pa
open Go.RowKit
open Go.Proofs.YtdileifjmlabfaaGreatDoor.Wd
open Go.Proofs.YtdileifjmlabfaaGreatDoor.Li (below_none)

theorem pr_size (a b : ByteArray) : (pr a b).size = a.size + 1 + b.size := by
  unfold pr; simp [ByteArray.size_append]; rfl
theorem paired_no {xs ys : List ByteArray} (h : ¬ xs.length = ys.length) : paired xs ys = [] := by unfold paired; rw [if_neg h]
theorem paired_yes {xs ys : List ByteArray} (h : xs.length = ys.length) : paired xs ys = List.zipWith pr xs ys := by unfold paired; rw [if_pos h]
theorem paired_len {xs ys : List ByteArray} (h : xs.length = ys.length) : (paired xs ys).length = xs.length := by rw [paired_yes h]; simp; omega
theorem paired_get {xs ys : List ByteArray} (h : xs.length = ys.length) (k : Nat) (hk : k < (paired xs ys).length) : (paired xs ys)[k] = pr (xs[k]'(by rw [paired_len h] at hk; exact hk)) (ys[k]'(by rw [paired_len h] at hk; omega)) := by
  simp [paired_yes h]
set_option maxHeartbeats 2000000 in
theorem ipair (w : World) (a b : Option Addr) (ca cb : Nat) (xs ys : List ByteArray) (hx : Ls.IsS w a xs) (hy : Ls.IsS w b ys) (hl : xs.length ≤ 1048576) (hl' : ys.length ≤ 1048576) (hz : ∀ j (h : j < xs.length), xs[j].size ≤ 1048576) (hz' : ∀ j (h : j < ys.length), ys[j].size ≤ 1048576) :
    Calls Tryz.prog 73 #[.slice a xs.length ca, .slice b ys.length cb] w fun e w' => ∃ v, e = .returned v ∧ Ls.Own w' w.heap.size v (paired xs ys) ∧ Below w.heap.size w w' := by
  by_cases he : xs.length = ys.length
  rotate_left
  · rw [paired_no he]
    have he' : ((xs.length : Int) != (ys.length : Int)) = true := by simp; omega
    go_enter Tryz.func73, Tryz.ntmps73
    go_wp2
    go_ret
    exact ⟨_, rfl, Ls.Own.nil _ _, Below.refl _ _⟩
  have he' : ((xs.length : Int) != (ys.length : Int)) = false := by simp; omega
  have hpl := paired_len he
  have HPL : Hid ((paired xs ys).length = xs.length) := hpl
  have HE : Hid (xs.length = ys.length) := he
  clear he hpl
  obtain ⟨i0, hi, hz0, hz1, hz2⟩ := info_parts Ls.info_str
  go_enter Tryz.func73, Tryz.ntmps73
  go_wp2_with (at_make; refine wpList_make_full _ rfl _ _ 44 rfl w.heap.size 9 i0 (.string ⟨#[]⟩) 1 Tryz.underlying44 hi hz0 hz1 _ _ _ _ xs.length rfl rfl (by omega) (by omega) (by rw [hz2]; omega) (by unfold maxLen; omega) (Nat.le_refl _) ?_; intro w1 hown hgrow)
  have hown' := Ls.own_made hown
  have hB1 := below_none hgrow
  clear hown hgrow
  go_loopw [18] (fun i wr => ∃ k : Nat, k ≤ xs.length ∧ i = .int .i64 k ∧ ∃ l : List ByteArray, l.length = xs.length ∧ Ls.Like l (paired xs ys) k ∧ Ls.Own wr w.heap.size (.slice (some ⟨w.heap.size, 0, none⟩) xs.length xs.length) l ∧ Below w.heap.size w wr) (fun i _ => xs.length - (intOf i).toNat)
  case atStart => exact ⟨0, Nat.zero_le _, rfl, _, by simp, fun j hj => by omega, hown', hB1⟩
  case round =>
    obtain ⟨k, hk, rfl, l, hll, hlike, hown, hB⟩ := hrel
    by_cases hlt : k < xs.length
    · have hly : k < ys.length := by have := HE.out; omega
      rcases hx with rfl | ⟨xb, xo, rfl, hxb, hxc⟩
      · simp at hlt
      rcases hy with rfl | ⟨yb, yo, rfl, hyb, hyc⟩
      · simp at hly
      have hcx : wr.cell? ⟨xb, xo + k, none⟩ = some (.string xs[k]) := (hB.cell (by exact hxb)).trans (hxc k hlt)
      have hcy : wr.cell? ⟨yb, yo + k, none⟩ = some (.string ys[k]) := (hB.cell (by exact hyb)).trans (hyc k hly)
      obtain ⟨cv, hcl⟩ : ∃ cv, wr.cell? ⟨w.heap.size, k, none⟩ = some (.string cv) := ⟨_, hown.cell hll k (by omega)⟩
      have hcf := hown.frozen hll k
      have HO : Hid (Ls.Own wr w.heap.size (.slice (some ⟨w.heap.size, 0, none⟩) xs.length xs.length) l) := hown
      have hkp : k < (paired xs ys).length := by rw [HPL.out]; exact hlt
      have HL : Hid (Ls.Like (l.set k (pr xs[k] ys[k])) (paired xs ys) (k + 1)) := by
        have := Ls.like_set hlike hkp (by rw [HPL.out]; exact hll)
        rwa [paired_get HE.out] at this
      have z1 := hz k hlt
      have z2 := hz' k hly
      have HLL : Hid (l.length = xs.length) := hll
      obtain ⟨x, ex⟩ : ∃ x, xs[k] = x := ⟨_, rfl⟩
      obtain ⟨y, ey⟩ : ∃ y, ys[k] = y := ⟨_, rfl⟩
      rw [ex] at hcx z1 HL
      rw [ey] at hcy z2 HL
      clear hown hlike hxc hyc ex ey hz hz' hll
      go_wp2
      go_roundw
      case rel => exact ⟨k + 1, by omega, by go_num, l.set k (pr x y), by simpa using HLL.out, HL.out, HO.out.set HLL.out k _, hB.setCell (p := ⟨w.heap.size, k, none⟩) (Nat.le_refl _) _⟩
      case measure => simp [intOf]; omega
    · obtain rfl : k = xs.length := by omega
      have HO : Hid (Ls.Own wr w.heap.size (.slice (some ⟨w.heap.size, 0, none⟩) xs.length xs.length) (paired xs ys)) := by
        have e := Ls.like_all (xs := paired xs ys) (by rw [HPL.out]; exact hlike) (by rw [HPL.out]; exact hll)
        rw [← e]; exact hown
      clear hown hlike hll
      go_wp2
      go_ret
      exact ⟨_, rfl, HO.out, hB⟩
end Go.Proofs.YtdileifjmlabfaaGreatDoor.Pa
/-
  The columns of words of a table, as both texts hold them: a list of lists of texts; contracts of what makes them.
-/
namespace Go.Proofs.YtdileifjmlabfaaGreatDoor.Wc
set_option maxRecDepth 20000
open Go.RowKit
open Go.Proofs.YtdileifjmlabfaaGreatDoor.Tb
open Go.Proofs.YtdileifjmlabfaaGreatDoor.Tk
open Go.Proofs.YtdileifjmlabfaaGreatDoor.Co
open Go.Proofs.YtdileifjmlabfaaGreatDoor.Wd (paired)
open Go.Proofs.YtdileifjmlabfaaGreatDoor.Li (below_none)
set_option linter.unusedVariables false

theorem row_below {w w1 : World} {base n : Nat} {T : TypeId} {v : Value} {vs : List Value} (h : w.ownsRow base T 1 v n vs) (hb : Below w.heap.size w w1) : w1.ownsRow base T 1 v n vs :=
  World.ownsRow.kept (row := none) h ⟨hb.os, hb.tape, hb.output, hb.size, fun k hk _ => hb.block k hk⟩ (by cases hv : v.ownBlock <;> simp)
theorem row_mono {w : World} {base base' n : Nat} {T : TypeId} {v : Value} {vs : List Value} (h : w.ownsRow base T 1 v n vs) (hb : base' ≤ base) : w.ownsRow base' T 1 v n vs := by
  refine ⟨h.1, ?_⟩
  rcases h.2 with h | ⟨g, cap, cur, e, hb', r⟩
  · exact .inl h
  · exact .inr ⟨g, cap, cur, e, by omega, r⟩
/-- A list that may be read, in a block from lo on, and in another block than B. -/
def El (w : World) (lo : Nat) (B : Option Nat) (u : Value) (xs : List ByteArray) : Prop := ∃ a cap, u = .slice a xs.length cap ∧ Ls.IsS w a xs ∧ ∀ ad, a = some ad → (lo ≤ ad.block ∧ ad.block < w.heap.size) ∧ some ad.block ≠ B
theorem El.grown {w w1 : World} {lo : Nat} {B B' : Option Nat} {u : Value} {xs : List ByteArray} (h : El w lo B u xs) (hg : w.grownBy w1 B) (hB : B' = B ∨ B' = some w.heap.size) : El w1 lo B' u xs := by
  obtain ⟨a, cap, e, hi, hb⟩ := h
  refine ⟨a, cap, e, hi.keptAt hg.size (fun x hx hl => hg.block _ hl (hb x hx).2), fun ad hd => ⟨⟨(hb ad hd).1.1, Nat.lt_of_lt_of_le (hb ad hd).1.2 hg.size⟩, ?_⟩⟩
  rcases hB with rfl | rfl
  · exact (hb ad hd).2
  · intro e'; injection e' with e'; have := (hb ad hd).1; omega
theorem El.below {w w1 : World} {lo : Nat} {B : Option Nat} {u : Value} {xs : List ByteArray} (h : El w lo B u xs) (hb : Below w.heap.size w w1) : El w1 lo B u xs := by
  obtain ⟨a, cap, e, hi, hd⟩ := h
  exact ⟨a, cap, e, hi.below hb, fun ad h => ⟨⟨(hd ad h).1.1, Nat.lt_of_lt_of_le (hd ad h).1.2 hb.size⟩, (hd ad h).2⟩⟩
theorem El.mono {w : World} {lo lo' : Nat} {B : Option Nat} {u : Value} {xs : List ByteArray} (h : El w lo B u xs) (hl : lo' ≤ lo) : El w lo' B u xs := by
  obtain ⟨a, cap, e, hi, hd⟩ := h
  exact ⟨a, cap, e, hi, fun ad h => ⟨⟨Nat.le_trans hl (hd ad h).1.1, (hd ad h).1.2⟩, (hd ad h).2⟩⟩
theorem el_own {w : World} {base lo : Nat} {u : Value} {xs : List ByteArray} {B : Option Nat} (h : Ls.Own w base u xs) (hB : ∀ k, B = some k → k < base) (hlo : lo ≤ base) : El w lo B u xs := by
  obtain ⟨a, cap, e, hi⟩ := h.iss
  refine ⟨a, cap, e, hi, fun ad hd => ?_⟩
  subst hd
  have := h.ge ad.block (by rw [e]; rfl)
  refine ⟨⟨by omega, this.2⟩, fun e' => ?_⟩
  have := hB _ e'.symm
  omega
/-- Lists of texts, one behind the other, in a block of their own. -/
structure OC (T : TypeId) (w : World) (base : Nat) (v : Value) (cs : List (List ByteArray)) : Prop where
  ex : ∃ vs : List Value, vs.length = cs.length ∧ w.ownsRow base T 1 v cs.length vs ∧ ∀ j (h : j < cs.length) (h' : j < vs.length), El w base v.ownBlock vs[j] cs[j]
variable {T : TypeId} {w w1 : World} {base : Nat} {v : Value} {cs : List (List ByteArray)}
theorem OC.below (h : OC T w base v cs) (hb : Below w.heap.size w w1) : OC T w1 base v cs := by
  obtain ⟨vs, hl, ho, he⟩ := h.ex
  exact ⟨vs, hl, row_below ho hb, fun j h h' => (he j h h').below hb⟩
theorem OC.mono {base' : Nat} (h : OC T w base v cs) (hb : base' ≤ base) : OC T w base' v cs := by
  obtain ⟨vs, hl, ho, he⟩ := h.ex
  exact ⟨vs, hl, row_mono ho hb, fun j h h' => (he j h h').mono hb⟩
theorem OC.nil (T : TypeId) (w : World) (base : Nat) : OC T w base (.slice none 0 0) [] := ⟨[], rfl, World.ownsRow_nil _ _ _ _, fun j h => by simp at h⟩
theorem OC.lt (h : OC T w base v cs) : ∀ k, v.ownBlock = some k → base ≤ k ∧ k < w.heap.size := by
  obtain ⟨vs, hl, ho, he⟩ := h.ex
  exact World.ownsRow.lt ho
theorem oc_snoc {v5 u : Value} {xs : List ByteArray} {vs : List Value} (hl : vs.length = cs.length) (he : ∀ j (h : j < cs.length) (h' : j < vs.length), El w base v.ownBlock vs[j] cs[j]) (hu : El w base v.ownBlock u xs)
    (ho : w1.ownsRow base T 1 v5 (cs.length + 1) (vs ++ [u])) (hg : w.grownBy w1 v.ownBlock) (hloc : v5.ownBlock = v.ownBlock ∨ v5.ownBlock = some w.heap.size) : OC T w1 base v5 (cs ++ [xs]) := by
  refine ⟨vs ++ [u], by simp [hl], by simpa using ho, fun j h h' => ?_⟩
  by_cases hj : j < cs.length
  · rw [List.getElem_append_left (by omega), List.getElem_append_left hj]
    exact (he j hj (by omega)).grown hg hloc
  · have e1 : j = cs.length := by simp at h; omega
    subst e1
    rw [List.getElem_append_right (by omega), List.getElem_append_right (by omega)]
    simp only [hl, Nat.sub_self, List.getElem_cons_zero]
    exact hu.grown hg hloc
/-- What is read of them. -/
def IsC (w : World) (a : Option Addr) (cs : List (List ByteArray)) : Prop :=
  cs = [] ∨ ∃ b off, a = some ⟨b, off, none⟩ ∧ b < w.heap.size ∧ ∀ j (hj : j < cs.length), ∃ a' c', w.cell? ⟨b, off + j, none⟩ = some (.slice a' cs[j].length c') ∧ Ls.IsS w a' cs[j]
theorem IsC.below {a : Option Addr} (h : IsC w a cs) (hB : Below w.heap.size w w1) : IsC w1 a cs := by
  rcases h with h | ⟨b, off, rfl, hb, hc⟩
  · exact .inl h
  · refine .inr ⟨b, off, rfl, Nat.lt_of_lt_of_le hb hB.size, fun j hj => ?_⟩
    obtain ⟨a', c', hx, hi⟩ := hc j hj
    exact ⟨a', c', (hB.cell (by exact hb)).trans hx, hi.below hB⟩
theorem OC.isc (h : OC T w base v cs) : ∃ a cap, v = .slice a cs.length cap ∧ IsC w a cs := by
  obtain ⟨vs, hl, ho, he⟩ := h.ex
  have h' := ho
  rcases ho.2 with ⟨rfl, h0⟩ | ⟨g, cap, cur, rfl, hb, hh, _⟩
  · obtain rfl := List.length_eq_zero_iff.1 h0
    exact ⟨none, 0, rfl, .inl rfl⟩
  · refine ⟨_, cap, rfl, .inr ⟨g, 0, rfl, (Array.getElem?_eq_some_iff.1 hh).1, fun j hj => ?_⟩⟩
    obtain ⟨a, c, e, hi, _⟩ := he j hj (by omega)
    refine ⟨a, c, ?_, hi⟩
    rw [Nat.zero_add, World.ownsRow.cellAt h' j (by omega), List.getElem?_eq_getElem (by omega), e]
/-- What is read of them, in blocks from lo on. -/
def IsCb (w : World) (lo : Nat) (a : Option Addr) (cs : List (List ByteArray)) : Prop :=
  cs = [] ∨ ∃ b off, a = some ⟨b, off, none⟩ ∧ (lo ≤ b ∧ b < w.heap.size) ∧ ∀ j (hj : j < cs.length), ∃ a' c', w.cell? ⟨b, off + j, none⟩ = some (.slice a' cs[j].length c') ∧ Ls.IsS w a' cs[j] ∧ ∀ ad, a' = some ad → lo ≤ ad.block ∧ ad.block < w.heap.size
theorem IsCb.same {lo : Nat} {a : Option Addr} (h : IsCb w lo a cs) (hs : w.heap.size ≤ w1.heap.size) (hk : ∀ y, lo ≤ y → y < w.heap.size → w1.heap[y]? = w.heap[y]?) : IsCb w1 lo a cs := by
  rcases h with h | ⟨b, off, rfl, hb, hc⟩
  · exact .inl h
  · refine .inr ⟨b, off, rfl, ⟨hb.1, by omega⟩, fun j hj => ?_⟩
    obtain ⟨a', c', hx, hi, hd⟩ := hc j hj
    refine ⟨a', c', ?_, hi.keptAt hs (fun x hx hl => hk _ (hd x hx).1 hl), fun ad h => ⟨(hd ad h).1, by have := (hd ad h).2; omega⟩⟩
    rw [World.cell?_of_block (w := w) (a := ⟨b, off + j, none⟩) (hk b hb.1 hb.2)]; exact hx
theorem OC.iscb (h : OC T w base v cs) : ∃ a cap, v = .slice a cs.length cap ∧ IsCb w base a cs := by
  obtain ⟨vs, hl, ho, he⟩ := h.ex
  have h' := ho
  rcases ho.2 with ⟨rfl, h0⟩ | ⟨g, cap, cur, rfl, hb, hh, _⟩
  · obtain rfl := List.length_eq_zero_iff.1 h0
    exact ⟨none, 0, rfl, .inl rfl⟩
  · refine ⟨_, cap, rfl, .inr ⟨g, 0, rfl, ⟨hb, (Array.getElem?_eq_some_iff.1 hh).1⟩, fun j hj => ?_⟩⟩
    obtain ⟨a, c, e, hi, hd⟩ := he j hj (by omega)
    refine ⟨a, c, ?_, hi, fun ad h => (hd ad h).1⟩
    rw [Nat.zero_add, World.ownsRow.cellAt h' j (by omega), List.getElem?_eq_getElem (by omega), e]
/-- The columns of words: each of the words, and where they are two, both together. -/
def cats (k : Nat) (rs : List Row) : List (List ByteArray) := (List.range k).map (cat rs)
def wcols (c : Int) (rs : List Row) : List (List ByteArray) := if c = 2 then cats 2 rs ++ [paired (cat rs 0) (cat rs 1)] else cats c.toNat rs
theorem cats_length (k : Nat) (rs : List Row) : (cats k rs).length = k := by simp [cats]
theorem cats_snoc (k : Nat) (rs : List Row) : cats (k + 1) rs = cats k rs ++ [cat rs k] := by simp [cats, List.range_succ]
theorem cats_get (k : Nat) (rs : List Row) (j : Nat) (h : j < (cats k rs).length) : (cats k rs)[j] = cat rs j := by simp [cats]
theorem tok_c {n c : Int} {rs : List Row} (h : tok n c rs = true) : (0 ≤ n ∧ n ≤ 3) ∧ (0 ≤ c ∧ c ≤ 2) ∧ rs.length ≤ 40 := by
  obtain ⟨h1, h2, _⟩ := tok_iff.1 h
  have : (0 ≤ n ∧ n ≤ 3) ∧ (0 ≤ c ∧ c ≤ 2) := by simpa [sok] using h1
  exact ⟨this.1, this.2, h2⟩
theorem words_yes {n c : Int} {rs : List Row} (h : tok n c rs = true) (k : Nat) (hk : (k : Int) < c) : words n c rs k = cat rs k := by
  unfold words
  rw [if_pos ⟨h, by omega, hk⟩]
  simp
theorem tok_word {n c : Int} {rs : List Row} (h : tok n c rs = true) (p j : Nat) (hp : (p : Int) < c) (hj : j < (cat rs p).length) : (cat rs p)[j].size ≤ 12 := by
  have hj' : j < rs.length := by simpa [cat] using hj
  have hc := (tok_nums h j hj').2
  have hp' : p < rs[j].cats.length := by omega
  rw [cat_get rs p j hj' hp']
  have h2 := (tok_iff.1 h).2.2
  have h3 := rok_iff.1 (List.all_eq_true.1 h2 _ (List.getElem_mem hj'))
  have h4 : cok rs[j].cats = true := h3.2.2.2.2.1
  have h5 := List.all_eq_true.1 h4 _ (List.getElem_mem hp')
  unfold wok wlen at h5
  simp at h5
  exact h5.1.2
theorem info_strs : (Tryz.prog.info? 44).map (fun i => (i.zero, i.size, i.bytes)) = some (some (.slice none 0 0), 1, 24) := by kernel_rfl
theorem one_cell (w : World) (T : TypeId) (x : Value) : ∀ j u, ([x] : List Value)[j]? = some u → (w.alloc (.cells #[x] T)).cell? ((⟨w.heap.size, 0, none⟩ : Addr).add j) = some u := by
  intro j u hj
  match j, hj with
  | 0, hj => simp at hj; subst hj; simp [Addr.add]
theorem one_at {w : World} {T : TypeId} {x : Value} {H : Nat} (h : w.heap.size = H) : ∀ j u, ([x] : List Value)[j]? = some u → (w.alloc (.cells #[x] T)).cell? ((⟨H, 0, none⟩ : Addr).add j) = some u := by
  subst h; exact one_cell w T x
theorem one_one {a : Option Addr} {n c : Nat} : ∀ u ∈ ([.slice a n c] : List Value), u.oneCell' = true := by
  intro u hu; simp at hu; subst hu; rfl
set_option maxHeartbeats 4000000 in
theorem iwc (w : World) (n c : Int) (a : Option Addr) (cap : Nat) (rs : List Row) (hx : IsR w a rs) (hl : rs.length + szR rs ≤ 1048576) (ht : tok n c rs = true) :
    Calls Tryz.prog 61 #[.agg #[.int .i64 n, .int .i64 c, .slice a rs.length cap]] w fun e w' => ∃ v, e = .returned v ∧ OC 44 w' w.heap.size v (wcols c rs) ∧ Below w.heap.size w w' := by
  obtain ⟨⟨n0, n3⟩, ⟨c0, c2⟩, h40⟩ := tok_c ht
  obtain ⟨cn, rfl⟩ : ∃ cn : Nat, c = (cn : Int) := ⟨c.toNat, by omega⟩
  have HT : Hid (tok n (cn : Int) rs = true) := ht
  have HW2 : Hid (∀ k, k < cn → words n (cn : Int) rs (k : Int) = cat rs k) := fun k hk => words_yes ht k (by omega)
  have HC : Hid (∀ p j (hj : j < (cat rs p).length), p < cn → (cat rs p)[j].size ≤ 12) := fun p j hj hp => tok_word ht p j (by omega) hj
  have HE : Hid (¬ cn = 2 → wcols (cn : Int) rs = cats cn rs) := fun h => by unfold wcols; rw [if_neg (by omega)]; simp
  have HE2 : Hid (cn = 2 → wcols (cn : Int) rs = cats 2 rs ++ [paired (cat rs 0) (cat rs 1)]) := fun h => by unfold wcols; rw [if_pos (by omega)]
  clear ht
  obtain ⟨i0, hi, hz0, hz1, hz2⟩ := info_parts info_strs
  go_enter Tryz.func61, Tryz.ntmps61
  obtain ⟨W, hW, hsz, hB, bx⟩ := box3_new' w (.int .i64 n) (.int .i64 (cn : Int)) (.slice a rs.length cap) 106
  have HW : Hid (w.alloc (.cells #[.int .i64 n, .int .i64 (cn : Int), .slice a rs.length cap] 106) = W) := hW
  clear hW
  go_wp2
  rw [HW.out]
  clear HW
  have hszW : w.heap.size < W.heap.size := by omega
  clear hsz
  go_loopw [3, 8] (fun v i wr => ∃ k : Nat, k ≤ cn ∧ i = .int .i64 k ∧ OC 44 wr W.heap.size v (cats k rs) ∧ Below W.heap.size W wr) (fun _ i _ => cn - (intOf i).toNat)
  case atStart => exact ⟨0, Nat.zero_le _, rfl, OC.nil _ _ _, Below.refl _ _⟩
  case round =>
    obtain ⟨k, hk, rfl, oc, hBr⟩ := hrel
    have bxr := bx.below hBr
    obtain ⟨hbx, ⟨cx0, cx1, cx2⟩, _⟩ := id bxr
    have hxr := (hx.below hB).below hBr
    have hsr := hBr.size
    by_cases hlt : k < cn
    · go_wp2_with fail
      refine (iwords _ _ _ _ _ rs _ hxr hl).mono ?_
      rintro e w1 ⟨u, rfl, ou, hb⟩
      rw [HW2.out k hlt] at ou
      have oc1 := oc.below hb
      have hul := el_own (B := u3.ownBlock) (lo := W.heap.size) ou (fun j hj => (oc.lt j hj).2) hsr
      have hBr := hBr.trans (hb.mono hBr.size)
      have hs1 := hBr.size
      clear hb cx0 cx1 cx2 bxr hxr hbx oc
      obtain ⟨vs, hvl, ho, he⟩ := oc1.ex
      have hcl := cats_length k rs
      obtain ⟨ua, uc, rfl, _⟩ := id hul
      have hBa : Below w1.heap.size w1 (w1.alloc (.cells #[.slice ua (cat rs k).length uc] 44)) := (Below.refl _ _).alloc (Nat.le_refl _) _
      have HCL : Hid ((cats k rs).length = k) := hcl
      have hcl3 : (cats k rs).length ≤ 2 := by omega
      clear hcl
      go_wp2_with (at_builtin; refine wpList_append_own_at _ rfl _ _ 102 rfl W.heap.size 44 i0 (.slice none 0 0) 1 24 Tryz.underlying102 hi hz0 hz1 hz2 rfl (by decide) _ _ _ rfl (row_below ho hBa) ⟨w1.heap.size, 0, none⟩ 1 1 [.slice ua (cat rs k).length uc] rfl rfl (one_cell _ _ _) one_one (by unfold maxLen; omega) (by omega) (by simp; omega) ?_; intro v3 w3 hown3 hgrow3 hnn3 hloc3)
      have oc3 := oc_snoc hvl (fun j h h' => (he j h h').below hBa) (hul.below hBa) hown3 hgrow3 hloc3
      rw [← cats_snoc] at oc3
      have hB3 : Below W.heap.size W w3 := hBr.trans (by
        have hh : Below W.heap.size (w1.alloc (.cells #[.slice ua (cat rs k).length uc] 44)) w3 := ⟨hgrow3.os, hgrow3.tape, hgrow3.output, hgrow3.size, fun q hq => hgrow3.block q (by simp; omega) (fun e => by have := (oc1.lt q e.symm).1; omega)⟩
        exact (hBa.mono hs1).trans hh)
      clear hown3 hgrow3 hnn3 hloc3 hBa ho he hul oc1 hBr ou
      go_wp2
      go_roundw
      case rel => exact ⟨k + 1, by omega, by go_num, oc3, hB3⟩
      case measure => simp [intOf]; omega
    · obtain rfl : k = cn := by omega
      obtain ⟨av, cv, rfl, ic⟩ := oc.isc
      have hcl := cats_length k rs
      by_cases h2 : k = 2
      rotate_left
      · have hne : (((cats k rs).length : Int) == 2) = false := by rw [beq_eq_false_iff_ne, hcl]; omega
        have HR : Hid (wcols (k : Int) rs = cats k rs) := HE.out h2
        clear hcl h2
        go_wp2
        go_ret
        exact ⟨_, rfl, by rw [HR.out]; exact oc.mono (by omega), hB.trans (hBr.mono hB.size)⟩
      · subst h2
        have hne : (((cats 2 rs).length : Int) == 2) = true := by rw [beq_iff_eq, hcl]; rfl
        have HR : Hid (wcols ((2 : Nat) : Int) rs = cats 2 rs ++ [paired (cat rs 0) (cat rs 1)]) := HE2.out rfl
        have HCL : Hid ((cats 2 rs).length = 2) := hcl
        rcases ic with h0 | ⟨cb, co, rfl, hcb, hcc⟩
        · rw [h0] at hcl; simp at hcl
        obtain ⟨a0, q0, d0, i_0⟩ := hcc 0 (by omega)
        obtain ⟨a1, q1, d1, i_1⟩ := hcc 1 (by omega)
        rw [cats_get] at d0 d1 i_0 i_1
        rw [Nat.add_zero] at d0
        have hlt2 : (0 : Int) < ((cats 2 rs).length : Int) := by omega
        have hlt3 : (1 : Int) < ((cats 2 rs).length : Int) := by omega
        have hln2 : 0 < (cats 2 rs).length := by omega
        have hln3 : 1 < (cats 2 rs).length := by omega
        have hz0' : ∀ j (h : j < (cat rs 0).length), (cat rs 0)[j].size ≤ 1048576 := fun j h => by have := HC.out 0 j h (by omega); omega
        have hz1' : ∀ j (h : j < (cat rs 1).length), (cat rs 1)[j].size ≤ 1048576 := fun j h => by have := HC.out 1 j h (by omega); omega
        have hl0 : (cat rs 0).length ≤ 1048576 := by rw [cat_length]; omega
        have hl1 : (cat rs 1).length ≤ 1048576 := by rw [cat_length]; omega
        have hcl3 : (cats 2 rs).length ≤ 2 := by omega
        clear hcl hcc
        go_wp2
        go_region_law (first
          | (refine step_append_lies _ rfl _ _ 102 rfl W.heap.size 44 i0 (.slice none 0 0) 1 24 Tryz.underlying102 hi hz0 hz1 hz2 rfl (by decide) _ (cats 2 rs).length vs rfl (by first | exact row_below ho ((Below.refl _ _).alloc (Nat.le_refl _) _) | exact row_below ho ((Below.refl _ _).drew.alloc (Nat.le_refl _) _)) _ 1 1 [.slice ua _ uc] rfl rfl (one_at (by first | rfl | simp)) one_one (by decide) (by unfold maxLen; omega) (by omega) (by simp; omega) _ rfl ?_
             intro g cap' w6 hown' hgrow hpos hglt
             have oc6 := oc_snoc hvl (fun j h h' => (he j h h').below ((Below.refl _ _).alloc (Nat.le_refl _) _)) (hul.below ((Below.refl _ _).alloc (Nat.le_refl _) _)) hown' hgrow (Or.elim hpos (fun e => .inl e.symm) (fun e => .inr (by rw [e]; rfl)))
             have hB6 : Below W.heap.size W w6 := hBp.trans (by
               have hh := (Below.refl w1.heap.size w1).alloc (Nat.le_refl _) (.cells #[.slice ua (paired (cat rs 0) (cat rs 1)).length uc] 44)
               exact (hh.mono hs1).trans ⟨hgrow.os, hgrow.tape, hgrow.output, hgrow.size, fun q hq => hgrow.block q (by simp; omega) (fun e => by have := (oc1.lt q e.symm).1; omega)⟩)
             clear hown' hgrow hpos hglt)
          | (go_simp
             go_wp2_with (go_at_call 73
                          refine (Pa.ipair _ _ _ _ _ (cat rs 0) (cat rs 1) (by exact i_0) (by exact i_1) hl0 hl1 hz0' hz1').mono ?_
                          rintro e w1 ⟨u, rfl, ou, hb⟩
                          have hb : Below wr.heap.size wr w1 := ((Below.refl wr.heap.size wr).drew).trans hb
                          have oc1 := oc.below hb
                          have hul := el_own (lo := W.heap.size) (B := (Value.slice (some ⟨cb, co, none⟩) (cats 2 rs).length cv).ownBlock) ou (fun j hj => (oc.lt j hj).2) hsr
                          have hBp := hBr.trans (hb.mono hBr.size)
                          have hs1 := hBp.size
                          obtain ⟨vs, hvl, ho, he⟩ := oc1.ex
                          obtain ⟨ua, uc, rfl, _⟩ := id hul
                          clear hb)))
        all_goals
          clear oc oc1 ho he hul
          go_wp2
          go_ret
          exact ⟨_, rfl, by rw [HR.out]; exact oc6.mono (by omega), hB.trans (hB6.mono hB.size)⟩
end Go.Proofs.YtdileifjmlabfaaGreatDoor.Wc
/-
  BordersOk, BinOf, BinsOf of the program and of the model: each answers what Bor says; old memory stays.
-/
namespace Go.Proofs.YtdileifjmlabfaaGreatDoor.Bw
open Go.RowKit
open Go.Proofs.YtdileifjmlabfaaGreatDoor.Li Go.Proofs.YtdileifjmlabfaaGreatDoor.Bo

set_option maxHeartbeats 400000 in
theorem iok_m (x : Int) (w : World) :
    Calls Tryz.prog 59 #[.int .i64 x] w fun e w' => e = .returned (.bool (fok x)) ∧ w' = w := by
  go_enter Tryz.func59, Tryz.ntmps59
  go_wp2
  all_goals go_ret
  all_goals refine ⟨ret_bool ?_, rfl⟩
  all_goals unfold fok
  all_goals simp
  all_goals omega
set_option maxHeartbeats 400000 in
theorem iok (x : Int) (w : World) :
    Calls Tryz.prog 39 #[.int .i64 x] w fun e w' => e = .returned (.bool (fok x)) ∧ w' = w := by
  go_enter Tryz.func39, Tryz.ntmps39
  go_wp2_with (go_at_call 59; refine (iok_m _ _).mono ?_; rintro e w' ⟨rfl, hw⟩; subst w')
  go_ret
  exact ⟨rfl, rfl⟩
set_option maxHeartbeats 400000 in
theorem sok (x : Int) (w : World) :
    Calls Tryz.prog 31 #[.int .i64 x] w fun e w' => e = .returned (.bool (fok x)) ∧ w' = w := by
  go_enter Tryz.func31, Tryz.ntmps31
  go_wp2_with (go_at_call 30; refine (between_any _ _ _ _).mono ?_; rintro e w' ⟨rfl, hw⟩; subst w')
  go_ret
  exact ⟨rfl, rfl⟩
theorem sokv (x : Int) (v : Bool) (h : fok x = v) (w : World) :
    Calls Tryz.prog 31 #[.int .i64 x] w fun e w' => e = .returned (.bool v) ∧ w' = w := by subst h; exact sok x w
set_option maxHeartbeats 1000000 in
theorem iall (w : World) (a : Option Addr) (cap : Nat) (xs : List Int) (hx : IsL w a xs) (hl : xs.length ≤ 1048576) :
    Calls Tryz.prog 71 #[.slice a xs.length cap] w fun e w' => e = .returned (.bool (aok xs)) ∧ w' = w := by
  go_enter Tryz.func71, Tryz.ntmps71
  go_wp2
  go_loop [7] (fun i => ∃ k : Nat, k ≤ xs.length ∧ i = .int .i64 k ∧ ∀ j (hj : j < xs.length), j < k → fok xs[j] = true) (fun i => xs.length - (intOf i).toNat)
  case atStart => exact ⟨0, Nat.zero_le _, rfl, fun j hj h => by omega⟩
  case round =>
    obtain ⟨k, hk, rfl, hn⟩ := hrel
    have HN : Hid (∀ j (hj : j < xs.length), j < k → fok xs[j] = true) := hn
    clear hn
    by_cases hlt : k < xs.length
    · rcases hx with rfl | ⟨b, off, rfl, hb, hc⟩
      · simp at hlt
      have hcx := hc k hlt
      clear hc
      cases hv : fok xs[k] with
      | false =>
        have HR : Hid (aok xs = false) := aok_no hlt hv
        go_wp2_with (go_at_call 39; refine (iok _ _).mono ?_; rintro e w' ⟨rfl, hw⟩; subst w'; rw [hv])
        go_ret
        exact ⟨ret_bool HR.out.symm, rfl⟩
      | true =>
        have HR : Hid (∀ j (hj : j < xs.length), j < k + 1 → fok xs[j] = true) := fun j hj h => by
          by_cases e : j = k
          · subst e; exact hv
          · exact HN.out j hj (by omega)
        go_wp2_with (go_at_call 39; refine (iok _ _).mono ?_; rintro e w' ⟨rfl, hw⟩; subst w'; rw [hv])
        go_round
        case rel => exact ⟨k + 1, by omega, by go_num, HR.out⟩
        case measure => simp [intOf]; omega
    · have HR : Hid (aok xs = true) := aok_to (fun j hj => HN.out j hj (by omega))
      go_wp2
      go_ret
      exact ⟨ret_bool HR.out.symm, rfl⟩
end Go.Proofs.YtdileifjmlabfaaGreatDoor.Bw
/-
  TreeOk, LeafOf, Eval of the program and of the model.
-/
namespace Go.Proofs.YtdileifjmlabfaaGreatDoor.Tw
open Go.RowKit
open Go.Proofs.YtdileifjmlabfaaGreatDoor.Li (ret_bool ret_int below_none)
open Go.Proofs.YtdileifjmlabfaaGreatDoor.Tr Go.Proofs.YtdileifjmlabfaaGreatDoor.Tm Go.Proofs.YtdileifjmlabfaaGreatDoor.Bo Go.Proofs.YtdileifjmlabfaaGreatDoor.Bw

theorem pow_d (d : Nat) (hd : d ≤ 5) : wrap64 (2 ^ d) = ((2 ^ d : Nat) : Int) := by
  match d, hd with
  | 0, _ => decide +kernel
  | 1, _ => decide +kernel
  | 2, _ => decide +kernel
  | 3, _ => decide +kernel
  | 4, _ => decide +kernel
  | 5, _ => decide +kernel
theorem below_box {w : World} {o : Obj} {n : Nat} : Below w.heap.size w ((w.alloc o).drewN n) := ((Below.refl _ _).alloc (Nat.le_refl _) _).trans ((below_drewN' _ _).mono (by simp))
theorem btw5 (x : Int) (y : Int) : spok (x, y) = (Li.btw x 0 5 && fok y) := by simp [spok, Li.btw]
set_option maxHeartbeats 1000000 in
theorem stok (w : World) (a a' : Option Addr) (c c' : Nat) (t : T) (hp : IsP w a t.sp) (hx : Li.IsL w a' t.lv) (hl : t.sp.length + t.lv.length ≤ 1048576) :
    Calls Tryz.prog 33 #[.agg #[.slice a t.sp.length c, .slice a' t.lv.length c']] w fun e w' => e = .returned (.bool (tok t)) ∧ Below w.heap.size w w' := by
  by_cases h4 : 4 < t.sp.length
  · have hd : decide (4 < (t.sp.length : Int)) = true := by simp; omega
    rw [tok_long h4]
    go_enter Tryz.func33, Tryz.ntmps33
    go_wp2
    go_quiet (fail)
    go_wp2
    go_ret
    exact ⟨rfl, below_box⟩
  have hd : decide (4 < (t.sp.length : Int)) = false := by simp; omega
  have hpw := pow_d t.sp.length (by omega)
  by_cases h2 : t.lv.length = 2 ^ t.sp.length
  · have hne : ((t.lv.length : Int) != wrap64 (2 ^ t.sp.length)) = false := by rw [hpw, h2]; simp
    have H2 : Hid (t.lv.length = 2 ^ t.sp.length) := h2
    clear hpw h2
    go_enter Tryz.func33, Tryz.ntmps33
    go_wp2
    go_quiet (fail)
    go_wp2
    have hB0 : Below w.heap.size w ((w.alloc (.cells #[.slice a t.sp.length c, .slice a' t.lv.length c'] 51)).drewN nq) := below_box
    have bx : Box2 ((w.alloc (.cells #[.slice a t.sp.length c, .slice a' t.lv.length c'] 51)).drewN nq) w.heap.size _ _ := (box2_new w (.slice a t.sp.length c) (.slice a' t.lv.length c') 51).drewN nq
    have hp := hp.below hB0
    have hx := hx.below hB0
    obtain ⟨W, hW⟩ : ∃ W, (w.alloc (.cells #[.slice a t.sp.length c, .slice a' t.lv.length c'] 51)).drewN nq = W := ⟨_, rfl⟩
    rw [hW] at hB0 bx hp hx ⊢
    obtain ⟨hbl, ⟨cx0, cx1⟩, _⟩ := bx
    clear hW
    go_loop [3] (fun i => ∃ k : Nat, k ≤ t.sp.length ∧ i = .int .i64 k ∧ ∀ j (hj : j < t.sp.length), j < k → spok t.sp[j] = true) (fun i => t.sp.length - (intOf i).toNat)
    case atStart => exact ⟨0, Nat.zero_le _, rfl, fun j hj h => by omega⟩
    case round =>
      obtain ⟨k, hk, rfl, hn⟩ := hrel
      have HN : Hid (∀ j (hj : j < t.sp.length), j < k → spok t.sp[j] = true) := hn
      clear hn
      by_cases hlt : k < t.sp.length
      · rcases hp with h0 | ⟨b, off, rfl, hb, hc⟩
        · rw [h0] at hlt; simp at hlt
        obtain ⟨cy0, cy1⟩ := hc k hlt
        clear hc
        have hbt := btw5 t.sp[k].1 t.sp[k].2
        cases hv1 : Li.btw t.sp[k].1 0 5 with
        | false =>
          have HR : Hid (tok t = false) := tok_bad hlt (by rw [hv1] at hbt; exact hbt)
          clear hbt
          go_wp2_with (go_at_call 30; refine (Li.between_any _ _ _ _).mono ?_; rintro e w' ⟨rfl, hw⟩; subst w'; rw [hv1])
          go_ret
          exact ⟨ret_bool HR.out.symm, hB0⟩
        | true =>
          cases hv2 : fok t.sp[k].2 with
          | false =>
            have HR : Hid (tok t = false) := tok_bad hlt (by rw [hv1, hv2] at hbt; exact hbt)
            clear hbt
            go_wp2_with (first | (go_at_call 30; refine (Li.between_any _ _ _ _).mono ?_; rintro e w' ⟨rfl, hw⟩; subst w'; rw [hv1]) | (go_at_call 31; refine (sok _ _).mono ?_; rintro e w' ⟨rfl, hw⟩; subst w'; rw [hv2]))
            go_ret
            exact ⟨ret_bool HR.out.symm, hB0⟩
          | true =>
            have HR : Hid (∀ j (hj : j < t.sp.length), j < k + 1 → spok t.sp[j] = true) := fun j hj h => by
              by_cases e : j = k
              · subst e; rw [hv1, hv2] at hbt; exact hbt
              · exact HN.out j hj (by omega)
            clear hbt
            go_wp2_with (first | (go_at_call 30; refine (Li.between_any _ _ _ _).mono ?_; rintro e w' ⟨rfl, hw⟩; subst w'; rw [hv1]) | (go_at_call 31; refine (sok _ _).mono ?_; rintro e w' ⟨rfl, hw⟩; subst w'; rw [hv2]))
            go_round
            case rel => exact ⟨k + 1, by omega, by go_num, HR.out⟩
            case measure => simp [intOf]; omega
      · have HS : Hid (∀ j (hj : j < t.sp.length), spok t.sp[j] = true) := fun j hj => HN.out j hj (by omega)
        clear HN
        go_wp2
        go_loop [4] (fun i => ∃ k : Nat, k ≤ t.lv.length ∧ i = .int .i64 k ∧ ∀ j (hj : j < t.lv.length), j < k → fok t.lv[j] = true) (fun i => t.lv.length - (intOf i).toNat)
        case atStart => exact ⟨0, Nat.zero_le _, rfl, fun j hj h => by omega⟩
        case round =>
          obtain ⟨k, hk, rfl, hn⟩ := hrel
          have HN : Hid (∀ j (hj : j < t.lv.length), j < k → fok t.lv[j] = true) := hn
          clear hn
          by_cases hlt : k < t.lv.length
          · rcases hx with h0 | ⟨b, off, rfl, hb, hc⟩
            · rw [h0] at hlt; simp at hlt
            have hcx := hc k hlt
            clear hc
            cases hv : fok t.lv[k] with
            | false =>
              have HR : Hid (tok t = false) := tok_leaf (aok_no hlt hv)
              go_wp2_with (go_at_call 31; refine (sok _ _).mono ?_; rintro e w' ⟨rfl, hw⟩; subst w'; rw [hv])
              go_ret
              exact ⟨ret_bool HR.out.symm, hB0⟩
            | true =>
              have HR : Hid (∀ j (hj : j < t.lv.length), j < k + 1 → fok t.lv[j] = true) := fun j hj h => by
                by_cases e : j = k
                · subst e; exact hv
                · exact HN.out j hj (by omega)
              go_wp2_with (go_at_call 31; refine (sok _ _).mono ?_; rintro e w' ⟨rfl, hw⟩; subst w'; rw [hv])
              go_round
              case rel => exact ⟨k + 1, by omega, by go_num, HR.out⟩
              case measure => simp [intOf]; omega
          · have HR : Hid (tok t = true) := tok_all (by omega) H2.out HS.out (aok_to (fun j hj => HN.out j hj (by omega)))
            go_wp2
            go_ret
            exact ⟨ret_bool HR.out.symm, hB0⟩
  · have hne : ((t.lv.length : Int) != wrap64 (2 ^ t.sp.length)) = true := by rw [hpw]; exact bne_iff_ne.2 (fun e => h2 (Int.ofNat_inj.1 e))
    rw [tok_leaves h2]
    clear hpw h2
    go_enter Tryz.func33, Tryz.ntmps33
    go_wp2
    go_quiet (fail)
    go_wp2
    go_ret
    exact ⟨rfl, below_box⟩
set_option maxHeartbeats 400000 in
theorem ifeat (x : Int) (w : World) : Calls Tryz.prog 80 #[.int .i64 x] w fun e w' => e = .returned (.bool (Li.btw x 0 5)) ∧ w' = w := by
  go_enter Tryz.func80, Tryz.ntmps80
  go_wp2
  all_goals go_ret
  all_goals refine ⟨ret_bool ?_, rfl⟩
  all_goals unfold Li.btw
  all_goals simp
  all_goals first | omega | (rw [Bool.eq_iff_iff]; simp; omega)
set_option maxHeartbeats 400000 in
theorem isplit (x y : Int) (w : World) : Calls Tryz.prog 70 #[.agg #[.int .i64 x, .int .i64 y]] w fun e w' => e = .returned (.bool (spok (x, y))) ∧ Below w.heap.size w w' := by
  rw [btw5]
  cases h1 : Li.btw x 0 5 with
  | false =>
    go_enter Tryz.func70, Tryz.ntmps70
    go_wp2_with (first | (go_at_call 80; refine (ifeat _ _).mono ?_; rintro e w' ⟨rfl, hw⟩; subst w'; rw [h1]) | (go_at_call 39; refine (iok _ _).mono ?_; rintro e w' ⟨rfl, hw⟩; subst w'))
    go_ret
    exact ⟨rfl, (Below.refl _ _).alloc (Nat.le_refl _) _⟩
  | true =>
    go_enter Tryz.func70, Tryz.ntmps70
    go_wp2_with (first | (go_at_call 80; refine (ifeat _ _).mono ?_; rintro e w' ⟨rfl, hw⟩; subst w'; rw [h1]) | (go_at_call 39; refine (iok _ _).mono ?_; rintro e w' ⟨rfl, hw⟩; subst w'))
    go_ret
    exact ⟨rfl, (Below.refl _ _).alloc (Nat.le_refl _) _⟩
set_option maxHeartbeats 1000000 in
theorem itok (w : World) (a a' : Option Addr) (c c' : Nat) (t : T) (hp : IsP w a t.sp) (hx : Li.IsL w a' t.lv) (hl : t.sp.length + t.lv.length ≤ 1048576) :
    Calls Tryz.prog 60 #[.agg #[.slice a t.sp.length c, .slice a' t.lv.length c']] w fun e w' => e = .returned (.bool (tok t)) ∧ Below w.heap.size w w' := by
  by_cases h4 : 4 < t.sp.length
  · have hd : decide (4 < (t.sp.length : Int)) = true := by simp; omega
    rw [tok_long h4]
    go_enter Tryz.func60, Tryz.ntmps60
    go_wp2
    go_quiet (fail)
    go_wp2
    go_ret
    exact ⟨rfl, below_box⟩
  have hd : decide (4 < (t.sp.length : Int)) = false := by simp; omega
  have hpw := pow_d t.sp.length (by omega)
  by_cases h2 : t.lv.length = 2 ^ t.sp.length
  · have hne : ((t.lv.length : Int) != wrap64 (2 ^ t.sp.length)) = false := by rw [hpw, h2]; simp
    have H2 : Hid (t.lv.length = 2 ^ t.sp.length) := h2
    clear hpw h2
    go_enter Tryz.func60, Tryz.ntmps60
    go_wp2
    go_quiet (fail)
    go_wp2
    have hB0 : Below w.heap.size w ((w.alloc (.cells #[.slice a t.sp.length c, .slice a' t.lv.length c'] 51)).drewN nq) := below_box
    have bx : Box2 ((w.alloc (.cells #[.slice a t.sp.length c, .slice a' t.lv.length c'] 51)).drewN nq) w.heap.size _ _ := (box2_new w (.slice a t.sp.length c) (.slice a' t.lv.length c') 51).drewN nq
    have hp := hp.below hB0
    have hx := hx.below hB0
    obtain ⟨W, hW⟩ : ∃ W, (w.alloc (.cells #[.slice a t.sp.length c, .slice a' t.lv.length c'] 51)).drewN nq = W := ⟨_, rfl⟩
    rw [hW] at hB0 bx hp hx ⊢
    clear hW
    go_loopw [22] (fun i wr => ∃ k : Nat, k ≤ t.sp.length ∧ i = .int .i64 k ∧ (∀ j (hj : j < t.sp.length), j < k → spok t.sp[j] = true) ∧ Below W.heap.size W wr) (fun i _ => t.sp.length - (intOf i).toNat)
    case atStart => exact ⟨0, Nat.zero_le _, rfl, fun j hj h => by omega, Below.refl _ _⟩
    case round =>
      obtain ⟨k, hk, rfl, hn, hB⟩ := hrel
      have HN : Hid (∀ j (hj : j < t.sp.length), j < k → spok t.sp[j] = true) := hn
      clear hn
      have hbw := hB0.trans (hB.mono hB0.size)
      by_cases hlt : k < t.sp.length
      · rcases hp.below hB with h0 | ⟨b, off, rfl, hb, hc⟩
        · rw [h0] at hlt; simp at hlt
        obtain ⟨cy0, cy1⟩ := hc k hlt
        clear hc
        have hs := hbw.size
        have hs' := hB.size
        go_wp2_with fail
        refine (isplit _ _ _).mono ?_
        rintro e w2 ⟨rfl, hB2⟩
        have hB2 : Below W.heap.size W w2 := (hB.alloc hB.size _).trans (hB2.mono (by simp; omega))
        have hbw := hB0.trans (hB2.mono hB0.size)
        cases hv : spok t.sp[k] with
        | false =>
          have HR : Hid (tok t = false) := tok_bad hlt hv
          go_wp2
          go_ret
          exact ⟨ret_bool HR.out.symm, hbw⟩
        | true =>
          have HR : Hid (∀ j (hj : j < t.sp.length), j < k + 1 → spok t.sp[j] = true) := fun j hj h => by
            by_cases e : j = k
            · subst e; exact hv
            · exact HN.out j hj (by omega)
          go_wp2
          go_roundw
          case rel => exact ⟨k + 1, by omega, by go_num, HR.out, hB2⟩
          case measure => simp [intOf]; omega
      · have HS : Hid (∀ j (hj : j < t.sp.length), spok t.sp[j] = true) := fun j hj => HN.out j hj (by omega)
        obtain ⟨hbl, ⟨cx0, cx1⟩, _⟩ := bx.below hB
        clear HN
        go_wp2_with fail
        refine (iall _ _ _ t.lv (hx.below hB) (by omega)).mono ?_
        rintro e w2 ⟨rfl, hw⟩
        subst w2
        have HR : Hid (tok t = aok t.lv) := by
          show _ = _
          cases e : aok t.lv with
          | false => exact tok_leaf e
          | true => exact tok_all (by omega) H2.out HS.out e
        go_wp2
        go_ret
        exact ⟨ret_bool HR.out.symm, hbw⟩
  · have hne : ((t.lv.length : Int) != wrap64 (2 ^ t.sp.length)) = true := by rw [hpw]; exact bne_iff_ne.2 (fun e => h2 (Int.ofNat_inj.1 e))
    rw [tok_leaves h2]
    clear hpw h2
    go_enter Tryz.func60, Tryz.ntmps60
    go_wp2
    go_quiet (fail)
    go_wp2
    go_ret
    exact ⟨rfl, below_box⟩
end Go.Proofs.YtdileifjmlabfaaGreatDoor.Tw
/-
  LeafOf and Eval of the program and of the model.
-/
namespace Go.Proofs.YtdileifjmlabfaaGreatDoor.Tw
set_option linter.unusedVariables false
open Go.RowKit
open Go.Proofs.YtdileifjmlabfaaGreatDoor.Li (ret_bool ret_int below_none)
open Go.Proofs.YtdileifjmlabfaaGreatDoor.Tr Go.Proofs.YtdileifjmlabfaaGreatDoor.Tm Go.Proofs.YtdileifjmlabfaaGreatDoor.Bo Go.Proofs.YtdileifjmlabfaaGreatDoor.Bw

theorem or_fin : ∀ k : Fin 4, ∀ l : Fin 8, l.val < 2 ^ k.val → bits .or .i64 ((l.val : Nat) : Int) ((2 ^ k.val : Nat) : Int) = ((l.val + 2 ^ k.val : Nat) : Int) := by decide +kernel
theorem or_all (k l : Nat) (hk : k ≤ 3) (hl : l < 2 ^ k) : bits .or .i64 (l : Int) ((2 ^ k : Nat) : Int) = ((l + 2 ^ k : Nat) : Int) := by
  have h8 : 2 ^ k ≤ 2 ^ 3 := Nat.pow_le_pow_right (by decide) hk
  exact or_fin ⟨k, by omega⟩ ⟨l, by omega⟩ hl
theorem isl_pos {w : World} {a : Option Addr} {xs : List Int} {k : Nat} (h : Li.IsL w a xs) (hk : k < xs.length) : ∃ b off, a = some ⟨b, off, none⟩ ∧ b < w.heap.size ∧ ∀ j (hj : j < xs.length), w.cell? ⟨b, off + j, none⟩ = some (.int .i64 xs[j]) := by
  rcases h with h0 | h
  · rw [h0] at hk; simp at hk
  · exact h
end Go.Proofs.YtdileifjmlabfaaGreatDoor.Tw
/-
  Sums of fixed numbers, of the program and of the model.
-/
namespace Go.Proofs.YtdileifjmlabfaaGreatDoor.Ad
open Go.RowKit
open Go.Proofs.YtdileifjmlabfaaGreatDoor.Li (ret_int)

def clip (x : Int) : Int := if x < -1000000000 then -1000000000 else if 1000000000 < x then 1000000000 else x
theorem clip_bd (x : Int) : -1000000000 ≤ clip x ∧ clip x ≤ 1000000000 := by unfold clip; split <;> (try split) <;> omega
theorem clip_id (x : Int) (h : -1000000000 ≤ x) (h' : x ≤ 1000000000) : clip x = x := by unfold clip; rw [if_neg (by omega), if_neg (by omega)]
theorem clip_clip (x : Int) : clip (clip x) = clip x := clip_id _ (clip_bd x).1 (clip_bd x).2
def fadd (a b : Int) : Int := clip (clip a + clip b)
theorem fadd_zero (a : Int) : fadd a 0 = clip a := by
  unfold fadd
  rw [show clip 0 = 0 by decide, Int.add_zero, clip_clip]
theorem fadd_bd (a b : Int) : -1000000000 ≤ fadd a b ∧ fadd a b ≤ 1000000000 := clip_bd _
end Go.Proofs.YtdileifjmlabfaaGreatDoor.Ad
/-
  Sum of the program and of the model: what trees say, one behind the other.
-/
namespace Go.Proofs.YtdileifjmlabfaaGreatDoor.Sw
open Go.RowKit
open Go.Proofs.YtdileifjmlabfaaGreatDoor.Li (ret_bool ret_int below_none)
open Go.Proofs.YtdileifjmlabfaaGreatDoor.Tr Go.Proofs.YtdileifjmlabfaaGreatDoor.Tm Go.Proofs.YtdileifjmlabfaaGreatDoor.Ad
set_option linter.unusedVariables false

def fd (x : List Int) (z : Int) (ts : List T) : Int := ts.foldl (fun s t => fadd s (eval t x)) z
theorem fd_take {x : List Int} {z : Int} {ts : List T} {k : Nat} (h : k < ts.length) : fd x z (ts.take (k + 1)) = fadd (fd x z (ts.take k)) (eval ts[k] x) := by
  unfold fd
  rw [List.take_succ_eq_append_getElem h, List.foldl_append]
  rfl
def allok (ts : List T) : Bool := ts.all tok
theorem allok_no {ts : List T} {k : Nat} (hk : k < ts.length) (h : tok ts[k] = false) : allok ts = false := by
  cases e : allok ts with
  | false => rfl
  | true =>
    unfold allok at e
    rw [List.all_eq_true] at e
    rw [e _ (List.getElem_mem hk)] at h
    cases h
theorem allok_all {ts : List T} (h : ∀ j (hj : j < ts.length), tok ts[j] = true) : allok ts = true := by
  unfold allok
  rw [List.all_eq_true]
  intro t ht
  obtain ⟨j, hj, rfl⟩ := List.getElem_of_mem ht
  exact h j hj
def sm (ts : List T) (x : List Int) (base : Int) : Int := if allok ts then fd x (clip base) ts else 0
theorem sm_no {ts : List T} {x : List Int} {base : Int} (h : allok ts = false) : sm ts x base = 0 := by simp [sm, h]
theorem sm_yes {ts : List T} {x : List Int} {base : Int} (h : allok ts = true) : sm ts x base = fd x (clip base) ts := by simp [sm, h]
theorem fd_bd (x : List Int) (base : Int) (ts : List T) : -1000000000 ≤ fd x (clip base) ts ∧ fd x (clip base) ts ≤ 1000000000 := by
  unfold fd
  have : ∀ (us : List T) z, (-1000000000 ≤ z ∧ z ≤ 1000000000) → -1000000000 ≤ us.foldl (fun s t => fadd s (eval t x)) z ∧ us.foldl (fun s t => fadd s (eval t x)) z ≤ 1000000000 := by
    intro us
    induction us with
    | nil => intro z h; exact h
    | cons u us ih => intro z _; exact ih _ (fadd_bd _ _)
  exact this ts _ (clip_bd _)
/-- What trees say is said one behind the other. -/
theorem sm_append {ts us : List T} {x : List Int} {base : Int} (h : allok ts = true) (h' : allok us = true) : sm (ts ++ us) x base = sm us x (sm ts x base) := by
  have ha : allok (ts ++ us) = true := by unfold allok at *; rw [List.all_append, h, h']; rfl
  rw [sm_yes ha, sm_yes h', sm_yes h]
  have hb := fd_bd x base ts
  rw [clip_id _ hb.1 hb.2]
  unfold fd
  rw [List.foldl_append]
end Go.Proofs.YtdileifjmlabfaaGreatDoor.Sw
/-
  The plain arguments of the laws, opened: a number, a text, a list of numbers, of texts, out of what the row's reader read of them.
-/
namespace Go.Proofs.YtdileifjmlabfaaGreatDoor.Op
open Go.ChangeShapes Go.WideShapes Go.Deep Go.RowKit
open Go.Proofs.YtdileifjmlabfaaGreatDoor.Tb
set_option maxRecDepth 10000

theorem agg2 {cs : Array Value} (h : cs.size = 2) : ∃ a b, cs = #[a, b] := by
  obtain ⟨l⟩ := cs
  match l, h with
  | [a, b], _ => exact ⟨a, b, rfl⟩
theorem agg3 {cs : Array Value} (h : cs.size = 3) : ∃ a b c, cs = #[a, b, c] := by
  obtain ⟨l⟩ := cs
  match l, h with
  | [a, b, c], _ => exact ⟨a, b, c, rfl⟩
theorem wf64 {n : Int} (h : (Lit.int .i64 n).wf = true) : -9223372036854775808 ≤ n ∧ n ≤ 9223372036854775807 := by
  simpa [Lit.wf, IntKind.min, IntKind.signed, IntKind.bits] using h
section
variable {H : Type} {enc : TypeId × Value → H} {W : World}
theorem ints_cell {n : Nat} {v : Value} {x : DataW H × List MemPlace} (h : DataW.trod enc Tryz.prog W 0 (fun _ => true) true n 43 [v] = some x) :
    ∃ a xs cap, v = .slice a (xs : List Int).length cap ∧ Li.IsL W a xs ∧ xs.length ≤ maxLen := by
  rcases open_ints Tryz.underlying43 Tryz.underlying3 (by kernel_rfl) h with ⟨hcs, _⟩ | ⟨x, l, c, zs, hcs, _, hl, hm, hz, _, hcell, hwz⟩
  · obtain rfl : v = _ := List.singleton_inj.1 hcs
    exact ⟨none, [], 0, rfl, .inl rfl, by simp⟩
  · obtain rfl : v = _ := List.singleton_inj.1 hcs
    obtain ⟨xs, hxl, hx⟩ := Li.isl_of (w := W) (a := some x) (len := l) (cap := c) (zs := zs) (.inr ⟨x, rfl, hl, hm, by simpa using hz, hcell, hwz⟩)
    subst hxl
    exact ⟨some x, xs, c, rfl, hx, by omega⟩
theorem strs_cell {n : Nat} {v : Value} {x : DataW H × List MemPlace} (h : DataW.trod enc Tryz.prog W 0 (fun _ => true) true n 44 [v] = some x) :
    ∃ a xs cap, v = .slice a (xs : List ByteArray).length cap ∧ Ls.IsS W a xs ∧ xs.length ≤ maxLen ∧ Fits xs := by
  rcases open_strs Tryz.underlying44 Tryz.underlying9 (by kernel_rfl) h with ⟨hcs, _⟩ | ⟨x, l, c, m, Sx, hcs, _, hl, hm, hmm, _, hcell⟩
  · obtain rfl : v = _ := List.singleton_inj.1 hcs
    exact ⟨none, [], 0, rfl, .inl rfl, by simp, fun j hj => by simp at hj⟩
  · obtain rfl : v = _ := List.singleton_inj.1 hcs
    have hmc : m = c := by simpa using hmm
    subst hmc
    refine ⟨some x, (List.range l).map Sx, m, by simp, ?_, by simp; omega, fun j hj => ?_⟩
    · by_cases h0 : l = 0
      · subst h0; exact .inl rfl
      · obtain ⟨cb, off, spot⟩ := x
        have hs : spot = none := by simpa [Addr.add] using World.cell?_spot (hcell 0 (by omega)).1
        subst hs
        have hlt : cb < W.heap.size := World.block_lt_of_cell? W _ (hcell 0 (by omega)).1
        refine .inr ⟨cb, off, rfl, hlt, fun j hj => ?_⟩
        have hj' : j < l := by simpa using hj
        rw [← Go.WideShapes.add_plain, (hcell j (by omega)).1]
        simp
    · have hj' : j < l := by simpa using hj
      have := (hcell j (by omega)).2
      simp only [List.getElem_map, List.getElem_range]
      unfold maxLen at this
      omega
theorem int_cell {n : Nat} {v : Value} {x : DataW H × List MemPlace} (h : DataW.trod enc Tryz.prog W 0 (fun _ => true) true n 3 [v] = some x) :
    ∃ i, v = .int .i64 i ∧ -9223372036854775808 ≤ i ∧ i ≤ 9223372036854775807 := by
  obtain ⟨i, h1, _, h3⟩ := DataW.trod_int Tryz.underlying3 h
  obtain rfl : v = _ := List.singleton_inj.1 h1
  exact ⟨i, rfl, wf64 h3⟩
theorem int_open {base : Nat} {v : Value} {d : DataW H} {p : List MemPlace} (hv : Value.okWide Tryz.prog W .any base 3 v) (h : DataW.Trod enc Tryz.prog W 0 (fun _ => true) true 3 v d p) :
    ∃ i, v = .int .i64 i ∧ -9223372036854775808 ≤ i ∧ i ≤ 9223372036854775807 := by
  obtain ⟨i, rfl⟩ := okWide_int Tryz.underlying3 hv
  obtain ⟨n, hn⟩ := h
  obtain ⟨j, e, hj⟩ := int_cell (by simpa [Value.cells] using hn)
  exact ⟨i, rfl, by cases e; exact hj⟩
theorem ints_open {base : Nat} {v : Value} {d : DataW H} {p : List MemPlace} (hv : Value.okWide Tryz.prog W .any base 43 v) (h : DataW.Trod enc Tryz.prog W 0 (fun _ => true) true 43 v d p) :
    ∃ a xs cap, v = .slice a (xs : List Int).length cap ∧ Li.IsL W a xs ∧ xs.length ≤ maxLen := by
  obtain ⟨a0, l0, c0, rfl⟩ := okWide_slice Tryz.underlying43 hv
  obtain ⟨n, hn⟩ := h
  exact ints_cell (by simpa [Value.cells] using hn)
theorem strs_open {base : Nat} {v : Value} {d : DataW H} {p : List MemPlace} (hv : Value.okWide Tryz.prog W .any base 44 v) (h : DataW.Trod enc Tryz.prog W 0 (fun _ => true) true 44 v d p) :
    ∃ a xs cap, v = .slice a (xs : List ByteArray).length cap ∧ Ls.IsS W a xs ∧ xs.length ≤ maxLen ∧ Fits xs := by
  obtain ⟨a0, l0, c0, rfl⟩ := okWide_slice Tryz.underlying44 hv
  obtain ⟨n, hn⟩ := h
  exact strs_cell (by simpa [Value.cells] using hn)
theorem str_open {base : Nat} {v : Value} {d : DataW H} {p : List MemPlace} (hv : Value.okWide Tryz.prog W .any base 9 v) (h : DataW.Trod enc Tryz.prog W 0 (fun _ => true) true 9 v d p) :
    ∃ s, v = .string s ∧ s.size ≤ maxLen := by
  obtain ⟨s, rfl, _, _, hs⟩ := Go.ChangeMaps.open_string Tryz.underlying9 hv h
  exact ⟨s, rfl, hs⟩
end
end Go.Proofs.YtdileifjmlabfaaGreatDoor.Op
