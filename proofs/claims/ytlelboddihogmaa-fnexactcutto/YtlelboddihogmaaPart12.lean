/-
  Contracts that the proof leans on, put together in the order in which they build.
-/
import Derived.Test.YtlelboddihogmaaPart10
import Derived.Test.YtlelboddihogmaaPart11
import Derived.Maps.AppendAt
import Derived.Deep.RegionLaw
import Derived.Deep.AppendLies
import Derived.Test.YtlelboddihogmaaPart9
import Derived.Test.YtlelboddihogmaaPart1
import Derived.Test.YtlelboddihogmaaPart6
import Derived.Test.YtlelboddihogmaaPart7
import Derived.BigQuiet
import Derived.Deep.QuietTactic
import Derived.Test.YtlelboddihogmaaRows
import Derived.Deep.RegionHeld
/-
  The columns of words of a table, as both texts hold them: a list of lists of texts; contracts of what makes them.
-/
namespace Go.Proofs.Ytlelboddihogmaa.Wc
set_option maxRecDepth 20000
open Go.RowKit
open Go.Proofs.Ytlelboddihogmaa.Tb
open Go.Proofs.Ytlelboddihogmaa.Tk
open Go.Proofs.Ytlelboddihogmaa.Co
open Go.Proofs.Ytlelboddihogmaa.Wd (paired)
open Go.Proofs.Ytlelboddihogmaa.Li (below_none)
set_option linter.unusedVariables false

theorem row_below {w w1 : World} {base n : Nat} {T : TypeId} {v : Value} {vs : List Value} (h : w.ownsRow base T 1 v n vs) (hb : Below w.heap.size w w1) : w1.ownsRow base T 1 v n vs :=
  World.ownsRow.kept (row := none) h ⟨hb.os, hb.tape, hb.output, hb.size, fun k hk _ => hb.block k hk⟩ (by cases hv : v.ownBlock <;> simp)
theorem row_mono {w : World} {base base' n : Nat} {T : TypeId} {v : Value} {vs : List Value} (h : w.ownsRow base T 1 v n vs) (hb : base' ≤ base) : w.ownsRow base' T 1 v n vs := by
  refine ⟨h.1, ?_⟩
  rcases h.2 with h | ⟨g, cap, cur, e, hb', r⟩
  · exact .inl h
  · exact .inr ⟨g, cap, cur, e, by omega, r⟩
/-- A list that may be read, in a block from lo on, and in another block than B. -/
def El (w : World) (lo : Nat) (B : Option Nat) (u : Value) (xs : List ByteArray) : Prop := ∃ a cap, u = .slice a xs.length cap ∧ Ls.IsS w a xs ∧ ∀ ad, a = some ad → (lo ≤ ad.block ∧ ad.block < w.heap.size) ∧ some ad.block ≠ B
theorem El.grown {w w1 : World} {lo : Nat} {B B' : Option Nat} {u : Value} {xs : List ByteArray} (h : El w lo B u xs) (hg : w.grownBy w1 B) (hB : B' = B ∨ B' = some w.heap.size) : El w1 lo B' u xs := by
  obtain ⟨a, cap, e, hi, hb⟩ := h
  refine ⟨a, cap, e, hi.keptAt hg.size (fun x hx hl => hg.block _ hl (hb x hx).2), fun ad hd => ⟨⟨(hb ad hd).1.1, Nat.lt_of_lt_of_le (hb ad hd).1.2 hg.size⟩, ?_⟩⟩
  rcases hB with rfl | rfl
  · exact (hb ad hd).2
  · intro e'; injection e' with e'; have := (hb ad hd).1; omega
theorem El.below {w w1 : World} {lo : Nat} {B : Option Nat} {u : Value} {xs : List ByteArray} (h : El w lo B u xs) (hb : Below w.heap.size w w1) : El w1 lo B u xs := by
  obtain ⟨a, cap, e, hi, hd⟩ := h
  exact ⟨a, cap, e, hi.below hb, fun ad h => ⟨⟨(hd ad h).1.1, Nat.lt_of_lt_of_le (hd ad h).1.2 hb.size⟩, (hd ad h).2⟩⟩
theorem El.mono {w : World} {lo lo' : Nat} {B : Option Nat} {u : Value} {xs : List ByteArray} (h : El w lo B u xs) (hl : lo' ≤ lo) : El w lo' B u xs := by
  obtain ⟨a, cap, e, hi, hd⟩ := h
  exact ⟨a, cap, e, hi, fun ad h => ⟨⟨Nat.le_trans hl (hd ad h).1.1, (hd ad h).1.2⟩, (hd ad h).2⟩⟩
theorem el_own {w : World} {base lo : Nat} {u : Value} {xs : List ByteArray} {B : Option Nat} (h : Ls.Own w base u xs) (hB : ∀ k, B = some k → k < base) (hlo : lo ≤ base) : El w lo B u xs := by
  obtain ⟨a, cap, e, hi⟩ := h.iss
  refine ⟨a, cap, e, hi, fun ad hd => ?_⟩
  subst hd
  have := h.ge ad.block (by rw [e]; rfl)
  refine ⟨⟨by omega, this.2⟩, fun e' => ?_⟩
  have := hB _ e'.symm
  omega
/-- Lists of texts, one behind the other, in a block of their own. -/
structure OC (T : TypeId) (w : World) (base : Nat) (v : Value) (cs : List (List ByteArray)) : Prop where
  ex : ∃ vs : List Value, vs.length = cs.length ∧ w.ownsRow base T 1 v cs.length vs ∧ ∀ j (h : j < cs.length) (h' : j < vs.length), El w base v.ownBlock vs[j] cs[j]
variable {T : TypeId} {w w1 : World} {base : Nat} {v : Value} {cs : List (List ByteArray)}
theorem OC.below (h : OC T w base v cs) (hb : Below w.heap.size w w1) : OC T w1 base v cs := by
  obtain ⟨vs, hl, ho, he⟩ := h.ex
  exact ⟨vs, hl, row_below ho hb, fun j h h' => (he j h h').below hb⟩
theorem OC.mono {base' : Nat} (h : OC T w base v cs) (hb : base' ≤ base) : OC T w base' v cs := by
  obtain ⟨vs, hl, ho, he⟩ := h.ex
  exact ⟨vs, hl, row_mono ho hb, fun j h h' => (he j h h').mono hb⟩
theorem OC.nil (T : TypeId) (w : World) (base : Nat) : OC T w base (.slice none 0 0) [] := ⟨[], rfl, World.ownsRow_nil _ _ _ _, fun j h => by simp at h⟩
theorem OC.lt (h : OC T w base v cs) : ∀ k, v.ownBlock = some k → base ≤ k ∧ k < w.heap.size := by
  obtain ⟨vs, hl, ho, he⟩ := h.ex
  exact World.ownsRow.lt ho
theorem oc_snoc {v5 u : Value} {xs : List ByteArray} {vs : List Value} (hl : vs.length = cs.length) (he : ∀ j (h : j < cs.length) (h' : j < vs.length), El w base v.ownBlock vs[j] cs[j]) (hu : El w base v.ownBlock u xs)
    (ho : w1.ownsRow base T 1 v5 (cs.length + 1) (vs ++ [u])) (hg : w.grownBy w1 v.ownBlock) (hloc : v5.ownBlock = v.ownBlock ∨ v5.ownBlock = some w.heap.size) : OC T w1 base v5 (cs ++ [xs]) := by
  refine ⟨vs ++ [u], by simp [hl], by simpa using ho, fun j h h' => ?_⟩
  by_cases hj : j < cs.length
  · rw [List.getElem_append_left (by omega), List.getElem_append_left hj]
    exact (he j hj (by omega)).grown hg hloc
  · have e1 : j = cs.length := by simp at h; omega
    subst e1
    rw [List.getElem_append_right (by omega), List.getElem_append_right (by omega)]
    simp only [hl, Nat.sub_self, List.getElem_cons_zero]
    exact hu.grown hg hloc
/-- What is read of them. -/
def IsC (w : World) (a : Option Addr) (cs : List (List ByteArray)) : Prop :=
  cs = [] ∨ ∃ b off, a = some ⟨b, off, none⟩ ∧ b < w.heap.size ∧ ∀ j (hj : j < cs.length), ∃ a' c', w.cell? ⟨b, off + j, none⟩ = some (.slice a' cs[j].length c') ∧ Ls.IsS w a' cs[j]
theorem IsC.below {a : Option Addr} (h : IsC w a cs) (hB : Below w.heap.size w w1) : IsC w1 a cs := by
  rcases h with h | ⟨b, off, rfl, hb, hc⟩
  · exact .inl h
  · refine .inr ⟨b, off, rfl, Nat.lt_of_lt_of_le hb hB.size, fun j hj => ?_⟩
    obtain ⟨a', c', hx, hi⟩ := hc j hj
    exact ⟨a', c', (hB.cell (by exact hb)).trans hx, hi.below hB⟩
theorem OC.isc (h : OC T w base v cs) : ∃ a cap, v = .slice a cs.length cap ∧ IsC w a cs := by
  obtain ⟨vs, hl, ho, he⟩ := h.ex
  have h' := ho
  rcases ho.2 with ⟨rfl, h0⟩ | ⟨g, cap, cur, rfl, hb, hh, _⟩
  · obtain rfl := List.length_eq_zero_iff.1 h0
    exact ⟨none, 0, rfl, .inl rfl⟩
  · refine ⟨_, cap, rfl, .inr ⟨g, 0, rfl, (Array.getElem?_eq_some_iff.1 hh).1, fun j hj => ?_⟩⟩
    obtain ⟨a, c, e, hi, _⟩ := he j hj (by omega)
    refine ⟨a, c, ?_, hi⟩
    rw [Nat.zero_add, World.ownsRow.cellAt h' j (by omega), List.getElem?_eq_getElem (by omega), e]
/-- What is read of them, in blocks from lo on. -/
def IsCb (w : World) (lo : Nat) (a : Option Addr) (cs : List (List ByteArray)) : Prop :=
  cs = [] ∨ ∃ b off, a = some ⟨b, off, none⟩ ∧ (lo ≤ b ∧ b < w.heap.size) ∧ ∀ j (hj : j < cs.length), ∃ a' c', w.cell? ⟨b, off + j, none⟩ = some (.slice a' cs[j].length c') ∧ Ls.IsS w a' cs[j] ∧ ∀ ad, a' = some ad → lo ≤ ad.block ∧ ad.block < w.heap.size
theorem IsCb.same {lo : Nat} {a : Option Addr} (h : IsCb w lo a cs) (hs : w.heap.size ≤ w1.heap.size) (hk : ∀ y, lo ≤ y → y < w.heap.size → w1.heap[y]? = w.heap[y]?) : IsCb w1 lo a cs := by
  rcases h with h | ⟨b, off, rfl, hb, hc⟩
  · exact .inl h
  · refine .inr ⟨b, off, rfl, ⟨hb.1, by omega⟩, fun j hj => ?_⟩
    obtain ⟨a', c', hx, hi, hd⟩ := hc j hj
    refine ⟨a', c', ?_, hi.keptAt hs (fun x hx hl => hk _ (hd x hx).1 hl), fun ad h => ⟨(hd ad h).1, by have := (hd ad h).2; omega⟩⟩
    rw [World.cell?_of_block (w := w) (a := ⟨b, off + j, none⟩) (hk b hb.1 hb.2)]; exact hx
theorem OC.iscb (h : OC T w base v cs) : ∃ a cap, v = .slice a cs.length cap ∧ IsCb w base a cs := by
  obtain ⟨vs, hl, ho, he⟩ := h.ex
  have h' := ho
  rcases ho.2 with ⟨rfl, h0⟩ | ⟨g, cap, cur, rfl, hb, hh, _⟩
  · obtain rfl := List.length_eq_zero_iff.1 h0
    exact ⟨none, 0, rfl, .inl rfl⟩
  · refine ⟨_, cap, rfl, .inr ⟨g, 0, rfl, ⟨hb, (Array.getElem?_eq_some_iff.1 hh).1⟩, fun j hj => ?_⟩⟩
    obtain ⟨a, c, e, hi, hd⟩ := he j hj (by omega)
    refine ⟨a, c, ?_, hi, fun ad h => (hd ad h).1⟩
    rw [Nat.zero_add, World.ownsRow.cellAt h' j (by omega), List.getElem?_eq_getElem (by omega), e]
/-- The columns of words: each of the words, and where they are two, both together. -/
def cats (k : Nat) (rs : List Row) : List (List ByteArray) := (List.range k).map (cat rs)
def wcols (c : Int) (rs : List Row) : List (List ByteArray) := if c = 2 then cats 2 rs ++ [paired (cat rs 0) (cat rs 1)] else cats c.toNat rs
theorem cats_length (k : Nat) (rs : List Row) : (cats k rs).length = k := by simp [cats]
theorem cats_snoc (k : Nat) (rs : List Row) : cats (k + 1) rs = cats k rs ++ [cat rs k] := by simp [cats, List.range_succ]
theorem cats_get (k : Nat) (rs : List Row) (j : Nat) (h : j < (cats k rs).length) : (cats k rs)[j] = cat rs j := by simp [cats]
theorem tok_c {n c : Int} {rs : List Row} (h : tok n c rs = true) : (0 ≤ n ∧ n ≤ 3) ∧ (0 ≤ c ∧ c ≤ 2) ∧ rs.length ≤ 40 := by
  obtain ⟨h1, h2, _⟩ := tok_iff.1 h
  have : (0 ≤ n ∧ n ≤ 3) ∧ (0 ≤ c ∧ c ≤ 2) := by simpa [sok] using h1
  exact ⟨this.1, this.2, h2⟩
theorem words_yes {n c : Int} {rs : List Row} (h : tok n c rs = true) (k : Nat) (hk : (k : Int) < c) : words n c rs k = cat rs k := by
  unfold words
  rw [if_pos ⟨h, by omega, hk⟩]
  simp
theorem tok_word {n c : Int} {rs : List Row} (h : tok n c rs = true) (p j : Nat) (hp : (p : Int) < c) (hj : j < (cat rs p).length) : (cat rs p)[j].size ≤ 12 := by
  have hj' : j < rs.length := by simpa [cat] using hj
  have hc := (tok_nums h j hj').2
  have hp' : p < rs[j].cats.length := by omega
  rw [cat_get rs p j hj' hp']
  have h2 := (tok_iff.1 h).2.2
  have h3 := rok_iff.1 (List.all_eq_true.1 h2 _ (List.getElem_mem hj'))
  have h4 : cok rs[j].cats = true := h3.2.2.2.2.1
  have h5 := List.all_eq_true.1 h4 _ (List.getElem_mem hp')
  unfold wok wlen at h5
  simp at h5
  exact h5.1.2
theorem info_strs : (Try.prog.info? 46).map (fun i => (i.zero, i.size, i.bytes)) = some (some (.slice none 0 0), 1, 24) := by kernel_rfl
theorem one_cell (w : World) (T : TypeId) (x : Value) : ∀ j u, ([x] : List Value)[j]? = some u → (w.alloc (.cells #[x] T)).cell? ((⟨w.heap.size, 0, none⟩ : Addr).add j) = some u := by
  intro j u hj
  match j, hj with
  | 0, hj => simp at hj; subst hj; simp [Addr.add]
theorem one_at {w : World} {T : TypeId} {x : Value} {H : Nat} (h : w.heap.size = H) : ∀ j u, ([x] : List Value)[j]? = some u → (w.alloc (.cells #[x] T)).cell? ((⟨H, 0, none⟩ : Addr).add j) = some u := by
  subst h; exact one_cell w T x
theorem one_one {a : Option Addr} {n c : Nat} : ∀ u ∈ ([.slice a n c] : List Value), u.oneCell' = true := by
  intro u hu; simp at hu; subst hu; rfl
set_option maxHeartbeats 4000000 in
theorem iwc (w : World) (n c : Int) (a : Option Addr) (cap : Nat) (rs : List Row) (hx : IsR w a rs) (hl : rs.length + szR rs ≤ 1048576) (ht : tok n c rs = true) :
    Calls Try.prog 64 #[.agg #[.int .i64 n, .int .i64 c, .slice a rs.length cap]] w fun e w' => ∃ v, e = .returned v ∧ OC 46 w' w.heap.size v (wcols c rs) ∧ Below w.heap.size w w' := by
  obtain ⟨⟨n0, n3⟩, ⟨c0, c2⟩, h40⟩ := tok_c ht
  obtain ⟨cn, rfl⟩ : ∃ cn : Nat, c = (cn : Int) := ⟨c.toNat, by omega⟩
  have HT : Hid (tok n (cn : Int) rs = true) := ht
  have HW2 : Hid (∀ k, k < cn → words n (cn : Int) rs (k : Int) = cat rs k) := fun k hk => words_yes ht k (by omega)
  have HC : Hid (∀ p j (hj : j < (cat rs p).length), p < cn → (cat rs p)[j].size ≤ 12) := fun p j hj hp => tok_word ht p j (by omega) hj
  have HE : Hid (¬ cn = 2 → wcols (cn : Int) rs = cats cn rs) := fun h => by unfold wcols; rw [if_neg (by omega)]; simp
  have HE2 : Hid (cn = 2 → wcols (cn : Int) rs = cats 2 rs ++ [paired (cat rs 0) (cat rs 1)]) := fun h => by unfold wcols; rw [if_pos (by omega)]
  clear ht
  obtain ⟨i0, hi, hz0, hz1, hz2⟩ := info_parts info_strs
  go_enter Try.func64, Try.ntmps64
  obtain ⟨W, hW, hsz, hB, bx⟩ := box3_new' w (.int .i64 n) (.int .i64 (cn : Int)) (.slice a rs.length cap) 95
  have HW : Hid (w.alloc (.cells #[.int .i64 n, .int .i64 (cn : Int), .slice a rs.length cap] 95) = W) := hW
  clear hW
  go_wp2
  rw [HW.out]
  clear HW
  have hszW : w.heap.size < W.heap.size := by omega
  clear hsz
  go_loopw [3, 8] (fun v i wr => ∃ k : Nat, k ≤ cn ∧ i = .int .i64 k ∧ OC 46 wr W.heap.size v (cats k rs) ∧ Below W.heap.size W wr) (fun _ i _ => cn - (intOf i).toNat)
  case atStart => exact ⟨0, Nat.zero_le _, rfl, OC.nil _ _ _, Below.refl _ _⟩
  case round =>
    obtain ⟨k, hk, rfl, oc, hBr⟩ := hrel
    have bxr := bx.below hBr
    obtain ⟨hbx, ⟨cx0, cx1, cx2⟩, _⟩ := id bxr
    have hxr := (hx.below hB).below hBr
    have hsr := hBr.size
    by_cases hlt : k < cn
    · go_wp2_with fail
      refine (iwords _ _ _ _ _ rs _ hxr hl).mono ?_
      rintro e w1 ⟨u, rfl, ou, hb⟩
      rw [HW2.out k hlt] at ou
      have oc1 := oc.below hb
      have hul := el_own (B := u3.ownBlock) (lo := W.heap.size) ou (fun j hj => (oc.lt j hj).2) hsr
      have hBr := hBr.trans (hb.mono hBr.size)
      have hs1 := hBr.size
      clear hb cx0 cx1 cx2 bxr hxr hbx oc
      obtain ⟨vs, hvl, ho, he⟩ := oc1.ex
      have hcl := cats_length k rs
      obtain ⟨ua, uc, rfl, _⟩ := id hul
      have hBa : Below w1.heap.size w1 (w1.alloc (.cells #[.slice ua (cat rs k).length uc] 46)) := (Below.refl _ _).alloc (Nat.le_refl _) _
      have HCL : Hid ((cats k rs).length = k) := hcl
      have hcl3 : (cats k rs).length ≤ 2 := by omega
      clear hcl
      go_wp2_with (at_builtin; refine wpList_append_own_at _ rfl _ _ 91 rfl W.heap.size 46 i0 (.slice none 0 0) 1 24 Try.underlying91 hi hz0 hz1 hz2 rfl (by decide) _ _ _ rfl (row_below ho hBa) ⟨w1.heap.size, 0, none⟩ 1 1 [.slice ua (cat rs k).length uc] rfl rfl (one_cell _ _ _) one_one (by unfold maxLen; omega) (by omega) (by simp; omega) ?_; intro v3 w3 hown3 hgrow3 hnn3 hloc3)
      have oc3 := oc_snoc hvl (fun j h h' => (he j h h').below hBa) (hul.below hBa) hown3 hgrow3 hloc3
      rw [← cats_snoc] at oc3
      have hB3 : Below W.heap.size W w3 := hBr.trans (by
        have hh : Below W.heap.size (w1.alloc (.cells #[.slice ua (cat rs k).length uc] 46)) w3 := ⟨hgrow3.os, hgrow3.tape, hgrow3.output, hgrow3.size, fun q hq => hgrow3.block q (by simp; omega) (fun e => by have := (oc1.lt q e.symm).1; omega)⟩
        exact (hBa.mono hs1).trans hh)
      clear hown3 hgrow3 hnn3 hloc3 hBa ho he hul oc1 hBr ou
      go_wp2
      go_roundw
      case rel => exact ⟨k + 1, by omega, by go_num, oc3, hB3⟩
      case measure => simp [intOf]; omega
    · obtain rfl : k = cn := by omega
      obtain ⟨av, cv, rfl, ic⟩ := oc.isc
      have hcl := cats_length k rs
      by_cases h2 : k = 2
      rotate_left
      · have hne : (((cats k rs).length : Int) == 2) = false := by rw [beq_eq_false_iff_ne, hcl]; omega
        have HR : Hid (wcols (k : Int) rs = cats k rs) := HE.out h2
        clear hcl h2
        go_wp2
        go_ret
        exact ⟨_, rfl, by rw [HR.out]; exact oc.mono (by omega), hB.trans (hBr.mono hB.size)⟩
      · subst h2
        have hne : (((cats 2 rs).length : Int) == 2) = true := by rw [beq_iff_eq, hcl]; rfl
        have HR : Hid (wcols ((2 : Nat) : Int) rs = cats 2 rs ++ [paired (cat rs 0) (cat rs 1)]) := HE2.out rfl
        have HCL : Hid ((cats 2 rs).length = 2) := hcl
        rcases ic with h0 | ⟨cb, co, rfl, hcb, hcc⟩
        · rw [h0] at hcl; simp at hcl
        obtain ⟨a0, q0, d0, i_0⟩ := hcc 0 (by omega)
        obtain ⟨a1, q1, d1, i_1⟩ := hcc 1 (by omega)
        rw [cats_get] at d0 d1 i_0 i_1
        rw [Nat.add_zero] at d0
        have hlt2 : (0 : Int) < ((cats 2 rs).length : Int) := by omega
        have hlt3 : (1 : Int) < ((cats 2 rs).length : Int) := by omega
        have hln2 : 0 < (cats 2 rs).length := by omega
        have hln3 : 1 < (cats 2 rs).length := by omega
        have hz0' : ∀ j (h : j < (cat rs 0).length), (cat rs 0)[j].size ≤ 1048576 := fun j h => by have := HC.out 0 j h (by omega); omega
        have hz1' : ∀ j (h : j < (cat rs 1).length), (cat rs 1)[j].size ≤ 1048576 := fun j h => by have := HC.out 1 j h (by omega); omega
        have hl0 : (cat rs 0).length ≤ 1048576 := by rw [cat_length]; omega
        have hl1 : (cat rs 1).length ≤ 1048576 := by rw [cat_length]; omega
        have hcl3 : (cats 2 rs).length ≤ 2 := by omega
        clear hcl hcc
        go_wp2
        go_region_law (first
          | (refine step_append_lies _ rfl _ _ 91 rfl W.heap.size 46 i0 (.slice none 0 0) 1 24 Try.underlying91 hi hz0 hz1 hz2 rfl (by decide) _ (cats 2 rs).length vs rfl (by first | exact row_below ho ((Below.refl _ _).alloc (Nat.le_refl _) _) | exact row_below ho ((Below.refl _ _).drew.alloc (Nat.le_refl _) _)) _ 1 1 [.slice ua _ uc] rfl rfl (one_at (by first | rfl | simp)) one_one (by decide) (by unfold maxLen; omega) (by omega) (by simp; omega) _ rfl ?_
             intro g cap' w6 hown' hgrow hpos hglt
             have oc6 := oc_snoc hvl (fun j h h' => (he j h h').below ((Below.refl _ _).alloc (Nat.le_refl _) _)) (hul.below ((Below.refl _ _).alloc (Nat.le_refl _) _)) hown' hgrow (Or.elim hpos (fun e => .inl e.symm) (fun e => .inr (by rw [e]; rfl)))
             have hB6 : Below W.heap.size W w6 := hBp.trans (by
               have hh := (Below.refl w1.heap.size w1).alloc (Nat.le_refl _) (.cells #[.slice ua (paired (cat rs 0) (cat rs 1)).length uc] 46)
               exact (hh.mono hs1).trans ⟨hgrow.os, hgrow.tape, hgrow.output, hgrow.size, fun q hq => hgrow.block q (by simp; omega) (fun e => by have := (oc1.lt q e.symm).1; omega)⟩)
             clear hown' hgrow hpos hglt)
          | (go_simp
             go_wp2_with (go_at_call 75
                          refine (Pa.ipair _ _ _ _ _ (cat rs 0) (cat rs 1) (by exact i_0) (by exact i_1) hl0 hl1 hz0' hz1').mono ?_
                          rintro e w1 ⟨u, rfl, ou, hb⟩
                          have hb : Below wr.heap.size wr w1 := ((Below.refl wr.heap.size wr).drew).trans hb
                          have oc1 := oc.below hb
                          have hul := el_own (lo := W.heap.size) (B := (Value.slice (some ⟨cb, co, none⟩) (cats 2 rs).length cv).ownBlock) ou (fun j hj => (oc.lt j hj).2) hsr
                          have hBp := hBr.trans (hb.mono hBr.size)
                          have hs1 := hBp.size
                          obtain ⟨vs, hvl, ho, he⟩ := oc1.ex
                          obtain ⟨ua, uc, rfl, _⟩ := id hul
                          clear hb)))
        all_goals
          clear oc oc1 ho he hul
          go_wp2
          go_ret
          exact ⟨_, rfl, by rw [HR.out]; exact oc6.mono (by omega), hB.trans (hB6.mono hB.size)⟩
end Go.Proofs.Ytlelboddihogmaa.Wc
/-
  LeafOf and Eval of the program and of the model.
-/
namespace Go.Proofs.Ytlelboddihogmaa.Tw
set_option linter.unusedVariables false
open Go.RowKit
open Go.Proofs.Ytlelboddihogmaa.Li (ret_bool ret_int below_none)
open Go.Proofs.Ytlelboddihogmaa.Tr Go.Proofs.Ytlelboddihogmaa.Tm Go.Proofs.Ytlelboddihogmaa.Bo Go.Proofs.Ytlelboddihogmaa.Bw

theorem or_fin : ∀ k : Fin 4, ∀ l : Fin 8, l.val < 2 ^ k.val → bits .or .i64 ((l.val : Nat) : Int) ((2 ^ k.val : Nat) : Int) = ((l.val + 2 ^ k.val : Nat) : Int) := by decide +kernel
theorem or_all (k l : Nat) (hk : k ≤ 3) (hl : l < 2 ^ k) : bits .or .i64 (l : Int) ((2 ^ k : Nat) : Int) = ((l + 2 ^ k : Nat) : Int) := by
  have h8 : 2 ^ k ≤ 2 ^ 3 := Nat.pow_le_pow_right (by decide) hk
  exact or_fin ⟨k, by omega⟩ ⟨l, by omega⟩ hl
theorem isl_pos {w : World} {a : Option Addr} {xs : List Int} {k : Nat} (h : Li.IsL w a xs) (hk : k < xs.length) : ∃ b off, a = some ⟨b, off, none⟩ ∧ b < w.heap.size ∧ ∀ j (hj : j < xs.length), w.cell? ⟨b, off + j, none⟩ = some (.int .i64 xs[j]) := by
  rcases h with h0 | h
  · rw [h0] at hk; simp at hk
  · exact h
end Go.Proofs.Ytlelboddihogmaa.Tw
/-
  Sums of fixed numbers, of the program and of the model.
-/
namespace Go.Proofs.Ytlelboddihogmaa.Ad
open Go.RowKit
open Go.Proofs.Ytlelboddihogmaa.Li (ret_int)

def clip (x : Int) : Int := if x < -1000000000 then -1000000000 else if 1000000000 < x then 1000000000 else x
theorem clip_bd (x : Int) : -1000000000 ≤ clip x ∧ clip x ≤ 1000000000 := by unfold clip; split <;> (try split) <;> omega
theorem clip_id (x : Int) (h : -1000000000 ≤ x) (h' : x ≤ 1000000000) : clip x = x := by unfold clip; rw [if_neg (by omega), if_neg (by omega)]
theorem clip_clip (x : Int) : clip (clip x) = clip x := clip_id _ (clip_bd x).1 (clip_bd x).2
def fadd (a b : Int) : Int := clip (clip a + clip b)
theorem fadd_zero (a : Int) : fadd a 0 = clip a := by
  unfold fadd
  rw [show clip 0 = 0 by decide, Int.add_zero, clip_clip]
theorem fadd_bd (a b : Int) : -1000000000 ≤ fadd a b ∧ fadd a b ≤ 1000000000 := clip_bd _
end Go.Proofs.Ytlelboddihogmaa.Ad
/-
  Sum of the program and of the model: what trees say, one behind the other.
-/
namespace Go.Proofs.Ytlelboddihogmaa.Sw
open Go.RowKit
open Go.Proofs.Ytlelboddihogmaa.Li (ret_bool ret_int below_none)
open Go.Proofs.Ytlelboddihogmaa.Tr Go.Proofs.Ytlelboddihogmaa.Tm Go.Proofs.Ytlelboddihogmaa.Ad
set_option linter.unusedVariables false

def fd (x : List Int) (z : Int) (ts : List T) : Int := ts.foldl (fun s t => fadd s (eval t x)) z
theorem fd_take {x : List Int} {z : Int} {ts : List T} {k : Nat} (h : k < ts.length) : fd x z (ts.take (k + 1)) = fadd (fd x z (ts.take k)) (eval ts[k] x) := by
  unfold fd
  rw [List.take_succ_eq_append_getElem h, List.foldl_append]
  rfl
def allok (ts : List T) : Bool := ts.all tok
theorem allok_no {ts : List T} {k : Nat} (hk : k < ts.length) (h : tok ts[k] = false) : allok ts = false := by
  cases e : allok ts with
  | false => rfl
  | true =>
    unfold allok at e
    rw [List.all_eq_true] at e
    rw [e _ (List.getElem_mem hk)] at h
    cases h
theorem allok_all {ts : List T} (h : ∀ j (hj : j < ts.length), tok ts[j] = true) : allok ts = true := by
  unfold allok
  rw [List.all_eq_true]
  intro t ht
  obtain ⟨j, hj, rfl⟩ := List.getElem_of_mem ht
  exact h j hj
def sm (ts : List T) (x : List Int) (base : Int) : Int := if allok ts then fd x (clip base) ts else 0
theorem sm_no {ts : List T} {x : List Int} {base : Int} (h : allok ts = false) : sm ts x base = 0 := by simp [sm, h]
theorem sm_yes {ts : List T} {x : List Int} {base : Int} (h : allok ts = true) : sm ts x base = fd x (clip base) ts := by simp [sm, h]
theorem fd_bd (x : List Int) (base : Int) (ts : List T) : -1000000000 ≤ fd x (clip base) ts ∧ fd x (clip base) ts ≤ 1000000000 := by
  unfold fd
  have : ∀ (us : List T) z, (-1000000000 ≤ z ∧ z ≤ 1000000000) → -1000000000 ≤ us.foldl (fun s t => fadd s (eval t x)) z ∧ us.foldl (fun s t => fadd s (eval t x)) z ≤ 1000000000 := by
    intro us
    induction us with
    | nil => intro z h; exact h
    | cons u us ih => intro z _; exact ih _ (fadd_bd _ _)
  exact this ts _ (clip_bd _)
/-- What trees say is said one behind the other. -/
theorem sm_append {ts us : List T} {x : List Int} {base : Int} (h : allok ts = true) (h' : allok us = true) : sm (ts ++ us) x base = sm us x (sm ts x base) := by
  have ha : allok (ts ++ us) = true := by unfold allok at *; rw [List.all_append, h, h']; rfl
  rw [sm_yes ha, sm_yes h', sm_yes h]
  have hb := fd_bd x base ts
  rw [clip_id _ hb.1 hb.2]
  unfold fd
  rw [List.foldl_append]
end Go.Proofs.Ytlelboddihogmaa.Sw
/-
  Settings: ConfOk of the program and of the model; the laws' own copy of a Conf; a Conf that was read, opened.
-/
namespace Go.Proofs.Ytlelboddihogmaa.Cf
open Go.RowKit
open Go.Proofs.Ytlelboddihogmaa.Li (ret_bool ret_int below_none IsL btw)
set_option linter.unusedVariables false

/-- A Conf, field by field. -/
structure C where
  trees : Int
  depth : Int
  most : Int
  rate : Int
  l2 : Int
  prior : Int
  seed : Int
def C.cells (c : C) : List Value := [.int .i64 c.trees, .int .i64 c.depth, .int .i64 c.most, .int .i64 c.rate, .int .i64 c.l2, .int .i64 c.prior, .int .i64 c.seed]
def C.val (c : C) : Value := .agg #[.int .i64 c.trees, .int .i64 c.depth, .int .i64 c.most, .int .i64 c.rate, .int .i64 c.l2, .int .i64 c.prior, .int .i64 c.seed]
def cok (c : C) : Bool := btw c.trees 0 12 && (btw c.depth 0 4 && (btw c.most 1 12 && (btw c.rate 1 1000 && (btw c.l2 1 1000 && (btw c.prior (-1000000) 1000000 && btw c.seed 1 2147483646)))))
theorem results_cell {fn : Func} {p : Tmp} {ty : TypeId} (h : fn.results = #[.cell p ty]) (tmps : Array Value) (P : Program) (w : World) :
    (results fn tmps).run P w = ((asAddr (tmps.getD p undef)).run P w).andThen fun a w₁ => (loadVar ty a).run P w₁ := by
  simp only [results, h]
  simp [Sem.run_bind, Result.andThen]
theorem dec_btw {x lo hi : Int} (h : btw x lo hi = true) : lo ≤ x ∧ x ≤ hi := by simpa [btw] using h
/-- A variable that holds a Conf. -/
def Bx (w : World) (b : Nat) (c : C) : Prop := b < w.heap.size ∧ w.cell? ⟨b, 0, none⟩ = some (.int .i64 c.trees) ∧ w.cell? ⟨b, 1, none⟩ = some (.int .i64 c.depth) ∧ w.cell? ⟨b, 2, none⟩ = some (.int .i64 c.most) ∧ w.cell? ⟨b, 3, none⟩ = some (.int .i64 c.rate) ∧ w.cell? ⟨b, 4, none⟩ = some (.int .i64 c.l2) ∧ w.cell? ⟨b, 5, none⟩ = some (.int .i64 c.prior) ∧ w.cell? ⟨b, 6, none⟩ = some (.int .i64 c.seed)
theorem Bx.below {w w1 : World} {b B : Nat} {c : C} (h : Bx w b c) (hB : Below B w w1) (hb : b < B) : Bx w1 b c := by
  obtain ⟨h0, h⟩ := h
  have k : w1.heap[b]? = w.heap[b]? := hB.block b hb
  have q : ∀ j v, w.cell? ⟨b, j, none⟩ = some v → w1.cell? ⟨b, j, none⟩ = some v := fun j v hv => by rw [World.cell?_of_block (w := w) (a := ⟨b, j, none⟩) k]; exact hv
  exact ⟨by have := hB.size; omega, q 0 _ h.1, q 1 _ h.2.1, q 2 _ h.2.2.1, q 3 _ h.2.2.2.1, q 4 _ h.2.2.2.2.1, q 5 _ h.2.2.2.2.2.1, q 6 _ h.2.2.2.2.2.2⟩
theorem Bx.kept {w w1 : World} {b : Nat} {c : C} (h : Bx w b c) (hs : w.heap.size ≤ w1.heap.size) (k : w1.heap[b]? = w.heap[b]?) : Bx w1 b c := by
  obtain ⟨h0, h⟩ := h
  have q : ∀ j v, w.cell? ⟨b, j, none⟩ = some v → w1.cell? ⟨b, j, none⟩ = some v := fun j v hv => by rw [World.cell?_of_block (w := w) (a := ⟨b, j, none⟩) k]; exact hv
  exact ⟨by omega, q 0 _ h.1, q 1 _ h.2.1, q 2 _ h.2.2.1, q 3 _ h.2.2.2.1, q 4 _ h.2.2.2.2.1, q 5 _ h.2.2.2.2.2.1, q 6 _ h.2.2.2.2.2.2⟩
theorem bx_new (w : World) (c : C) (T : TypeId) : ∃ W, w.alloc (.cells #[.int .i64 c.trees, .int .i64 c.depth, .int .i64 c.most, .int .i64 c.rate, .int .i64 c.l2, .int .i64 c.prior, .int .i64 c.seed] T) = W ∧ W.heap.size = w.heap.size + 1 ∧ Below w.heap.size w W ∧ Bx W w.heap.size c :=
  ⟨_, rfl, by simp, (Below.refl _ _).alloc (Nat.le_refl _) _, by simp, by simp [World.cell?_alloc_new], by simp [World.cell?_alloc_new], by simp [World.cell?_alloc_new], by simp [World.cell?_alloc_new], by simp [World.cell?_alloc_new], by simp [World.cell?_alloc_new], by simp [World.cell?_alloc_new]⟩
set_option maxHeartbeats 400000 in
theorem iprior (x : Int) (w : World) : Calls Try.prog 40 #[.int .i64 x] w fun e w' => e = .returned (.bool (btw x (-1000000) 1000000)) ∧ w' = w := by
  go_enter Try.func40, Try.ntmps40
  go_wp2
  all_goals go_ret
  all_goals refine ⟨ret_bool ?_, rfl⟩
  all_goals unfold btw
  all_goals simp
  all_goals first | omega | (rw [Bool.eq_iff_iff]; simp; omega)
end Go.Proofs.Ytlelboddihogmaa.Cf
/-
  Which models are right: ModelOk of the program and of the model.
-/
namespace Go.Proofs.Ytlelboddihogmaa.Md
set_option maxRecDepth 20000
open Go.RowKit
open Go.Proofs.Ytlelboddihogmaa.Li (ret_bool btw below_none)
open Go.Proofs.Ytlelboddihogmaa.Tk (sok)
open Go.Proofs.Ytlelboddihogmaa.Bo (fok aok)
open Go.Proofs.Ytlelboddihogmaa.Wd (dictOf dictOf_len)
open Go.Proofs.Ytlelboddihogmaa.Tb (lets)
open Go.Proofs.Ytlelboddihogmaa.Tm (IsT szT)
open Go.Proofs.Ytlelboddihogmaa.Kt (Kv IsK ksz)
open Go.Proofs.Ytlelboddihogmaa.Sw (allok)
open Go.Proofs.Ytlelboddihogmaa.Sv (new1 Wr wr2)
set_option linter.unusedVariables false
def cwok (s : ByteArray) : Bool := decide (1 ≤ s.size ∧ s.size ≤ 25)
def kok (t : Kv) : Bool := decide (t.ws.length ≤ 40) && (decide (t.vs.length = t.ws.length) && (aok t.vs && (t.ws.all cwok && decide ((dictOf t.ws).length = t.ws.length))))
def ncol (c : Int) : Int := if c = 2 then 3 else c
def mok (m : M) : Bool := sok m.n m.c && (btw m.prior (-1000000) 1000000 && (fok m.base && (decide (m.ts.length ≤ 12) && (decide ((m.ks.length : Int) = ncol m.c) && (allok m.ts && m.ks.all kok)))))
theorem all_no {α : Type} {p : α → Bool} {xs : List α} {k : Nat} (hk : k < xs.length) (h : p xs[k] = false) : xs.all p = false := by
  rw [List.all_eq_false]; exact ⟨xs[k], List.getElem_mem hk, by simp [h]⟩
theorem all_yes {α : Type} {p : α → Bool} {xs : List α} (h : ∀ j (hj : j < xs.length), p xs[j] = true) : xs.all p = true := by
  rw [List.all_eq_true]; intro x hx; obtain ⟨j, hj, rfl⟩ := List.getElem_of_mem hx; exact h j hj
theorem cwok_btw (s : ByteArray) : btw (s.size : Int) 1 25 = cwok s := by
  unfold btw cwok; congr 1; apply propext; omega
theorem mok_parts {m : M} (h : mok m = true) : sok m.n m.c = true ∧ btw m.prior (-1000000) 1000000 = true ∧ fok m.base = true ∧ m.ts.length ≤ 12 ∧ (m.ks.length : Int) = ncol m.c ∧ allok m.ts = true ∧ m.ks.all kok = true := by
  simpa [mok] using h
theorem kok_parts {t : Kv} (h : kok t = true) : t.ws.length ≤ 40 ∧ t.vs.length = t.ws.length ∧ aok t.vs = true ∧ t.ws.all cwok = true ∧ (dictOf t.ws).length = t.ws.length := by
  simpa [kok] using h
theorem ks_at {m : M} (hl : m.sz ≤ 1048576) (k : Nat) (hk : k < m.ks.length) : m.ks[k].ws.length + lets m.ks[k].ws + m.ks[k].vs.length ≤ 1048576 := by
  have := Kt.ksz_at m.ks k hk
  unfold M.sz at hl
  omega
theorem ts_at {m : M} (hl : m.sz ≤ 1048576) (k : Nat) (hk : k < m.ts.length) : m.ts[k].sp.length + m.ts[k].lv.length ≤ 1048576 := by
  have := Tm.szT_at m.ts k hk
  unfold Tm.szt at this
  unfold M.sz at hl
  omega
set_option maxHeartbeats 400000 in
theorem scol (w : World) (n c : Int) : Calls Try.prog 33 #[.agg #[.int .i64 n, .int .i64 c]] w fun e w' => e = .returned (.int .i64 (ncol c)) ∧ Below w.heap.size w w' := by
  by_cases h : c = 2
  · subst h
    go_enter Try.func33, Try.ntmps33
    go_wp2
    go_ret
    exact ⟨rfl, (Below.refl _ _).alloc (Nat.le_refl _) _⟩
  · have HN : Hid (ncol c = c) := if_neg h
    have hb : (c == 2) = false := by simp [h]
    go_enter Try.func33, Try.ntmps33
    go_wp2
    go_ret
    exact ⟨by rw [HN.out]; rfl, (Below.refl _ _).alloc (Nat.le_refl _) _⟩
set_option maxHeartbeats 400000 in
theorem icw (w : World) (s : ByteArray) (hs : s.size ≤ 9223372036854775807) : Calls Try.prog 76 #[.string s] w fun e w' => e = .returned (.bool (cwok s)) ∧ w' = w := by
  go_enter Try.func76, Try.ntmps76
  go_wp2
  all_goals go_ret
  all_goals refine ⟨ret_bool ?_, rfl⟩
  all_goals unfold cwok
  all_goals first | (symm; simp; omega) | (rw [Bool.eq_iff_iff]; simp; omega)
set_option maxHeartbeats 4000000 in
theorem ikok (w : World) (a0 a1 : Option Addr) (c0 c1 : Nat) (t : Kv) (h0 : Ls.IsS w a0 t.ws) (h1 : Li.IsL w a1 t.vs) (hl : t.ws.length + lets t.ws + t.vs.length ≤ 1048576) :
    Calls Try.prog 65 #[.agg #[.slice a0 t.ws.length c0, .slice a1 t.vs.length c1]] w fun e w' => e = .returned (.bool (kok t)) ∧ Below w.heap.size w w' := by
  have hz : ∀ j (hj : j < t.ws.length), t.ws[j].size ≤ 1048576 := fun j hj => by have := Tb.lets_at t.ws j hj; omega
  obtain ⟨n, hn⟩ : ∃ n, t.ws.length = n := ⟨_, rfl⟩
  obtain ⟨q, hq⟩ : ∃ n, t.vs.length = n := ⟨_, rfl⟩
  by_cases g1 : n ≤ 40
  rotate_left
  · have HR : Hid (kok t = false) := by show _ = _; simp [kok, hn, g1]
    have g1' : (40 : Int) < n := by omega
    rw [hn, hq] at hl ⊢
    clear hz
    go_enter Try.func65, Try.ntmps65
    go_wp2
    go_ret
    exact ⟨ret_bool HR.out.symm, (Below.refl _ _).alloc (Nat.le_refl _) _⟩
  by_cases g2 : q = n
  rotate_left
  · have HR : Hid (kok t = false) := by show _ = _; simp [kok, hn, hq, g2]
    have g2' : ((q : Int) != (n : Int)) = true := by simp; omega
    have g1' : ¬ (40 : Int) < n := by omega
    rw [hn, hq] at hl ⊢
    clear hz
    go_enter Try.func65, Try.ntmps65
    go_wp2
    go_ret
    exact ⟨ret_bool HR.out.symm, (Below.refl _ _).alloc (Nat.le_refl _) _⟩
  have hqn : t.vs.length = t.ws.length := by omega
  have HQN : Hid (t.vs.length = t.ws.length) := hqn
  have g2' : ((n : Int) != (n : Int)) = false := by simp
  have g1' : ¬ (40 : Int) < n := by omega
  have HN : Hid (t.ws.length = n) := hn
  have HLL : Hid (t.vs.length ≤ 1048576) := by show _ ≤ _; omega
  have hl' : n ≤ 40 := g1
  rw [hqn, hn]
  clear hqn g2 hq hn hl
  go_enter Try.func65, Try.ntmps65
  go_wp2_with fail
  obtain ⟨W, hW, hsz, hB, bx⟩ := new1 w [.slice a0 n c0, .slice a1 n c1] 49
  rw [hW]
  clear hW hsz
  have hc := Bw.iall W a1 c1 t.vs (h1.below hB) HLL.out
  rw [HQN.out, HN.out] at hc
  refine hc.mono ?_
  rintro e w' ⟨rfl, hw⟩
  subst w'
  clear hc
  obtain ⟨hbl, ⟨x0, x1⟩, _⟩ := wr2 bx
  cases ha : aok t.vs with
  | false =>
    have HR : Hid (kok t = false) := by show _ = _; simp [kok, ha]
    go_wp2
    go_ret
    exact ⟨ret_bool HR.out.symm, hB⟩
  | true =>
  have HA : Hid (aok t.vs = true) := ha
  clear ha
  go_wp2
  go_loopw [27] (fun i wr => ∃ k : Nat, k ≤ n ∧ i = .int .i64 k ∧ (∀ j (hj : j < t.ws.length), j < k → cwok t.ws[j] = true) ∧ wr = W) (fun i _ => n - (intOf i).toNat)
  case atStart => exact ⟨0, Nat.zero_le _, rfl, fun j hj h => by omega, rfl⟩
  case round =>
    obtain ⟨k, hk, rfl, hall, hwr⟩ := hrel
    subst wr
    by_cases hlt : k < n
    · have hkl : k < t.ws.length := by rw [HN.out]; exact hlt
      rcases h0.below hB with e0 | ⟨sb, so, rfl, hsb, hsc⟩
      · rw [e0] at hkl; simp at hkl
      have d := hsc k hkl
      have hzk := hz k hkl
      have HALL : Hid (∀ j (hj : j < t.ws.length), j < k → cwok t.ws[j] = true) := hall
      have HNO : Hid (cwok t.ws[k] = false → kok t = false) := fun e => by simp [kok, all_no hkl e]
      have HYE : Hid (cwok t.ws[k] = true → ∀ j (hj : j < t.ws.length), j < k + 1 → cwok t.ws[j] = true) := fun e j hj h => by
        by_cases e' : j = k
        · subst e'; exact e
        · exact HALL.out j hj (by omega)
      obtain ⟨s, hs⟩ : ∃ s, t.ws[k] = s := ⟨_, rfl⟩
      rw [hs] at d hzk HNO HYE
      clear hsc hall hs
      go_wp2_with fail
      refine (icw _ s (by omega)).mono ?_
      rintro e w' ⟨rfl, hw⟩
      subst w'
      cases hcw : cwok s with
      | false =>
        have HR : Hid (kok t = false) := HNO.out hcw
        go_wp2
        go_ret
        exact ⟨ret_bool HR.out.symm, hB⟩
      | true =>
        have HR := HYE.out hcw
        have HR' : Hid (∀ j (hj : j < t.ws.length), j < k + 1 → cwok t.ws[j] = true) := HR
        clear HR
        go_wp2
        go_roundw
        case rel => exact ⟨k + 1, by omega, by go_num, HR'.out, by simp⟩
        case measure => simp [intOf]; omega
    · have hcw : t.ws.all cwok = true := all_yes (fun j hj => hall j hj (by have := HN.out; omega))
      have HV : Hid (kok t = decide ((dictOf t.ws).length = n)) := by
        show _ = _
        have e1 := HN.out
        have e2 := HQN.out
        simp [kok, HA.out, hcw, e1, e2, g1]
      have hdl : (dictOf t.ws).length ≤ 40 := by have := dictOf_len t.ws; have := HN.out; omega
      have hx := h0.below hB
      have HX : Hid (Ls.IsS W a0 t.ws) := hx
      have HZ : Hid (∀ j (hj : j < t.ws.length), t.ws[j].size ≤ 1048576) := hz
      have HB : Hid (Below w.heap.size w W) := hB
      have HBX : Hid (Wr W w.heap.size 0 [.slice a0 n c0, .slice a1 n c1]) := bx
      have HBD : Hid (Below W.heap.size W W.drew) := (Below.refl W.heap.size W).drew
      clear hall hcw hx h0 h1 hz hB bx
      go_wp2_with fail
      go_region_held3 (fun w' => w'.cell? ⟨w.heap.size, 0, none⟩ = some (.slice a0 n c0)) (go_keep) (first
        | (go_at_call 77
           have hc := Di.idict W.drew a0 c0 t.ws (HX.out.below HBD.out) (by have := HN.out; omega) HZ.out
           rw [HN.out] at hc
           refine hc.mono ?_
           rintro e w1 ⟨vd, rfl, od, hb⟩
           obtain ⟨ad, cd, rfl, _⟩ := od.iss
           have HY : Hid (Below W.heap.size W w1) := HBD.out.trans hb
           obtain ⟨_, ⟨y0, y1⟩, _⟩ := wr2 (HBX.out.below HY.out)
           clear hb hc od y1))
      have hB := HB.out.trans (HY.out.mono HB.out.size)
      clear HY
      go_wp2
      go_ret
      refine ⟨?_, hB⟩
      rw [HV.out]
      exact ret_bool (by rw [Bool.eq_iff_iff]; simp; omega)
set_option maxHeartbeats 2000000 in
theorem itrees (w : World) (a : Option Addr) (c : Nat) (ts : List Tr.T) (h : IsT w a ts) (hl : ts.length + szT ts ≤ 1048576) :
    Calls Try.prog 42 #[.slice a ts.length c] w fun e w' => e = .returned (.bool (decide (ts.length ≤ 12) && allok ts)) ∧ Below w.heap.size w w' := by
  by_cases g1 : ts.length ≤ 12
  rotate_left
  · have HR : Hid ((decide (ts.length ≤ 12) && allok ts) = false) := by show _ = _; simp [g1]
    have g1' : (12 : Int) < ts.length := by omega
    go_enter Try.func42, Try.ntmps42
    go_wp2
    go_ret
    exact ⟨ret_bool HR.out.symm, Below.refl _ _⟩
  have HD : Hid ((decide (ts.length ≤ 12) && allok ts) = allok ts) := by show _ = _; simp [g1]
  have g1' : ¬ (12 : Int) < ts.length := by omega
  go_enter Try.func42, Try.ntmps42
  go_wp2
  go_loopw [10] (fun i wr => ∃ k : Nat, k ≤ ts.length ∧ i = .int .i64 k ∧ (∀ j (hj : j < ts.length), j < k → Tr.tok ts[j] = true) ∧ Below w.heap.size w wr) (fun i _ => ts.length - (intOf i).toNat)
  case atStart => exact ⟨0, Nat.zero_le _, rfl, fun j hj h => by omega, Below.refl _ _⟩
  case round =>
    obtain ⟨k, hk, rfl, hall, hB⟩ := hrel
    by_cases hlt : k < ts.length
    · rcases h.below hB with e0 | ⟨b, off, rfl, hb, hc⟩
      · rw [e0] at hlt; simp at hlt
      obtain ⟨_, _, ⟨x0, x1⟩, a0, c0, a1, c1, rfl, rfl, i0, i1⟩ := hc k hlt
      have hz : ts[k].sp.length + ts[k].lv.length ≤ szT ts := Tm.szT_at ts k hlt
      have HNO : Hid (Tr.tok ts[k] = false → allok ts = false) := fun e => Sw.allok_no hlt e
      have HYE : Hid (Tr.tok ts[k] = true → ∀ j (hj : j < ts.length), j < k + 1 → Tr.tok ts[j] = true) := fun e j hj h => by
        by_cases e' : j = k
        · subst e'; exact e
        · exact hall j hj (by omega)
      obtain ⟨t, ht⟩ : ∃ t, ts[k] = t := ⟨_, rfl⟩
      rw [ht] at x0 x1 i0 i1 hz HNO HYE
      clear hc ht hall
      go_wp2_with fail
      obtain ⟨W, hW⟩ : ∃ W, wr.alloc (.cells #[.slice a0 t.sp.length c0, .slice a1 t.lv.length c1] 53) = W := ⟨_, rfl⟩
      have hbW : Below wr.heap.size wr W := by
        rw [← hW]; exact (Below.refl _ _).alloc (Nat.le_refl _) _
      rw [hW]
      clear hW
      refine (Tw.itok _ _ _ _ _ t (i0.below hbW) (i1.below hbW) (by omega)).mono ?_
      rintro e w1 ⟨rfl, hb1⟩
      have hB := hB.trans ((hbW.trans (hb1.mono hbW.size)).mono hB.size)
      clear hb1 hbW x0 x1 i0 i1
      cases htok : Tr.tok t with
      | false =>
        have HR : Hid (allok ts = false) := HNO.out htok
        go_wp2
        go_ret
        exact ⟨ret_bool (by rw [HD.out, HR.out]), hB⟩
      | true =>
        have HR := HYE.out htok
        have HR' : Hid (∀ j (hj : j < ts.length), j < k + 1 → Tr.tok ts[j] = true) := HR
        clear HR
        go_wp2
        go_roundw
        case rel => exact ⟨k + 1, by omega, by go_num, HR'.out, hB⟩
        case measure => simp [intOf]; omega
    · have HR : Hid (allok ts = true) := Sw.allok_all (fun j hj => hall j hj (by omega))
      clear hall
      go_wp2
      go_ret
      exact ⟨ret_bool (by rw [HD.out, HR.out]), hB⟩
theorem wcols_n {n c : Int} (h : sok n c = true) : ((Wc.wcols c []).length : Int) = ncol c := by
  obtain ⟨_, h1, h2⟩ := Tk.sok_iff.1 h
  unfold Wc.wcols ncol
  by_cases e : c = 2
  · simp [e, Wc.cats]
  · simp [e, Wc.cats]; omega
set_option maxHeartbeats 4000000 in
theorem ictrs (w : World) (n c : Int) (a : Option Addr) (ca : Nat) (ks : List Kv) (h : IsK w a ks) (hl : ks.length + ksz ks ≤ 1048576) (hs : sok n c = true) :
    Calls Try.prog 43 #[.agg #[.int .i64 n, .int .i64 c], .slice a ks.length ca] w fun e w' => e = .returned (.bool (decide ((ks.length : Int) = ncol c) && ks.all kok)) ∧ Below w.heap.size w w' := by
  have ht : Tk.tok n c [] = true := by simp [Tk.tok, hs]
  have HWN := wcols_n hs
  have HWN' : Hid (((Wc.wcols c []).length : Int) = ncol c) := HWN
  have hwl : (Wc.wcols c []).length ≤ 3 := by have := Tk.sok_iff.1 hs; unfold ncol at HWN; split at HWN <;> omega
  have HT : Hid (Tk.tok n c [] = true) := ht
  clear ht HWN hs
  go_enter Try.func43, Try.ntmps43
  go_wp2_with fail
  obtain ⟨W, hW, hsz, hB, bx⟩ := new1 w [.int .i64 n, .int .i64 c] 29
  rw [hW]
  clear hW hsz
  refine (Wc.iwc W n c none 0 [] (.inl rfl) (by simp [Tb.szR]) HT.out).mono ?_
  rintro e w1 ⟨v, rfl, ov, hb⟩
  obtain ⟨av, cv, rfl, _⟩ := ov.isc
  have hB := hB.trans (hb.mono hB.size)
  clear hb ov bx
  obtain ⟨L, hL⟩ : ∃ L, (Wc.wcols c []).length = L := ⟨_, rfl⟩
  rw [hL] at HWN' hwl ⊢
  clear hL
  by_cases g : ks.length = L
  rotate_left
  · have HR : Hid ((decide ((ks.length : Int) = ncol c) && ks.all kok) = false) := by
      show _ = _
      rw [← HWN'.out, decide_eq_false (by omega)]; rfl
    have g' : ((ks.length : Int) != (L : Int)) = true := by simp; omega
    clear g
    go_wp2
    go_ret
    exact ⟨ret_bool HR.out.symm, hB⟩
  have HD : Hid ((decide ((ks.length : Int) = ncol c) && ks.all kok) = ks.all kok) := by
    show _ = _
    rw [← HWN'.out, decide_eq_true (by omega)]; rfl
  have g' : ((ks.length : Int) != (L : Int)) = false := by simp; omega
  clear g
  go_wp2
  go_loopw [16] (fun i wr => ∃ k : Nat, k ≤ ks.length ∧ i = .int .i64 k ∧ (∀ j (hj : j < ks.length), j < k → kok ks[j] = true) ∧ Below w.heap.size w wr) (fun i _ => ks.length - (intOf i).toNat)
  case atStart => exact ⟨0, Nat.zero_le _, rfl, fun j hj h => by omega, hB⟩
  case round =>
    obtain ⟨k, hk, rfl, hall, hB⟩ := hrel
    clear g'
    by_cases hlt : k < ks.length
    · rcases h.below hB with e0 | ⟨b, off, rfl, hb, hc⟩
      · rw [e0] at hlt; simp at hlt
      obtain ⟨a0, c0, a1, c1, ⟨x0, x1⟩, i0, i1⟩ := hc k hlt
      have hz := Kt.ksz_at ks k hlt
      have HNO : Hid (kok ks[k] = false → ks.all kok = false) := fun e => all_no hlt e
      have HYE : Hid (kok ks[k] = true → ∀ j (hj : j < ks.length), j < k + 1 → kok ks[j] = true) := fun e j hj h => by
        by_cases e' : j = k
        · subst e'; exact e
        · exact hall j hj (by omega)
      obtain ⟨t, ht⟩ : ∃ t, ks[k] = t := ⟨_, rfl⟩
      rw [ht] at x0 x1 i0 i1 hz HNO HYE
      clear hc ht hall
      go_wp2_with fail
      obtain ⟨W, hW⟩ : ∃ W, wr.alloc (.cells #[.slice a0 t.ws.length c0, .slice a1 t.vs.length c1] 49) = W := ⟨_, rfl⟩
      have hbW : Below wr.heap.size wr W := by
        rw [← hW]; exact (Below.refl _ _).alloc (Nat.le_refl _) _
      rw [hW]
      clear hW
      refine (ikok _ _ _ _ _ t (i0.below hbW) (i1.below hbW) (by omega)).mono ?_
      rintro e w2 ⟨rfl, hb1⟩
      have hB := hB.trans ((hbW.trans (hb1.mono hbW.size)).mono hB.size)
      clear hb1 hbW x0 x1 i0 i1
      cases htok : kok t with
      | false =>
        have HR : Hid (ks.all kok = false) := HNO.out htok
        go_wp2
        go_ret
        exact ⟨ret_bool (by rw [HD.out, HR.out]), hB⟩
      | true =>
        have HR := HYE.out htok
        have HR' : Hid (∀ j (hj : j < ks.length), j < k + 1 → kok ks[j] = true) := HR
        clear HR
        go_wp2
        go_roundw
        case rel => exact ⟨k + 1, by omega, by go_num, HR'.out, hB⟩
        case measure => simp [intOf]; omega
    · have HR : Hid (ks.all kok = true) := all_yes (fun j hj => hall j hj (by omega))
      clear hall
      go_wp2
      go_ret
      exact ⟨ret_bool (by rw [HD.out, HR.out]), hB⟩
set_option maxHeartbeats 4000000 in
theorem imok (w : World) (ak ax : Option Addr) (ck ct : Nat) (m : M) (h : Rm w ak ax m) (hl : m.sz ≤ 1048576) :
    Calls Try.prog 18 #[.agg #[.int .i64 m.n, .int .i64 m.c, .int .i64 m.prior, .int .i64 m.base, .slice ak m.ks.length ck, .slice ax m.ts.length ct]] w fun e w' => e = .returned (.bool (mok m)) ∧ Below w.heap.size w w' := by
  have HL : Hid (m.ks.length + ksz m.ks ≤ 1048576 ∧ m.ts.length + szT m.ts ≤ 1048576) := by unfold M.sz at hl; exact ⟨by omega, by omega⟩
  clear hl
  go_enter Try.func18, Try.ntmps18
  go_wp2_with fail
  obtain ⟨W, hW, hsz, hB, bx⟩ := new1 w [.int .i64 m.n, .int .i64 m.c, .int .i64 m.prior, .int .i64 m.base, .slice ak m.ks.length ck, .slice ax m.ts.length ct] 33
  rw [hW]
  clear hW hsz
  refine (Tk.isch _ _ _).mono ?_
  rintro e w1 ⟨rfl, hb⟩
  have bx := bx.below hb
  have hB := hB.trans (hb.mono hB.size)
  clear hb
  obtain ⟨_, ⟨x0, x1, x2, x3, x4, x5⟩, _⟩ := wr6 bx
  cases h1 : sok m.n m.c with
  | false =>
    have HR : Hid (mok m = false) := by show _ = _; simp [mok, h1]
    go_wp2
    go_ret
    exact ⟨ret_bool HR.out.symm, hB⟩
  | true =>
  have H1 : Hid (sok m.n m.c = true) := h1
  clear h1
  go_wp2_with fail
  refine (Cf.iprior _ _).mono ?_
  rintro e w' ⟨rfl, hw⟩
  subst w'
  cases h2 : btw m.prior (-1000000) 1000000 with
  | false =>
    have HR : Hid (mok m = false) := by show _ = _; simp [mok, h2]
    go_wp2
    go_ret
    exact ⟨ret_bool HR.out.symm, hB⟩
  | true =>
  have H2 : Hid (btw m.prior (-1000000) 1000000 = true) := h2
  clear h2
  go_wp2_with fail
  refine (Bw.iok _ _).mono ?_
  rintro e w' ⟨rfl, hw⟩
  subst w'
  cases h3 : fok m.base with
  | false =>
    have HR : Hid (mok m = false) := by show _ = _; simp [mok, h3]
    go_wp2
    go_ret
    exact ⟨ret_bool HR.out.symm, hB⟩
  | true =>
  have H3 : Hid (fok m.base = true) := h3
  clear h3
  go_wp2_with fail
  refine (itrees _ _ _ m.ts (h.t.below hB) HL.out.2).mono ?_
  rintro e w2 ⟨rfl, hb⟩
  have bx := bx.below hb
  have hB := hB.trans (hb.mono hB.size)
  clear hb x0 x1 x2 x3 x4 x5
  obtain ⟨_, ⟨x0, x1, x2, x3, x4, x5⟩, _⟩ := wr6 bx
  cases h4 : (decide (m.ts.length ≤ 12) && allok m.ts) with
  | false =>
    have HR : Hid (mok m = false) := by
      show _ = _
      unfold mok
      rw [Bool.and_eq_false_iff] at h4
      rcases h4 with h4 | h4 <;> simp [h4] 
    go_wp2
    go_ret
    exact ⟨ret_bool HR.out.symm, hB⟩
  | true =>
  have HR : Hid (mok m = (decide ((m.ks.length : Int) = ncol m.c) && m.ks.all kok)) := by
    show _ = _
    rw [Bool.and_eq_true] at h4
    unfold mok
    rw [H1.out, H2.out, H3.out, h4.1, h4.2]
    simp
  clear h4
  go_wp2_with fail
  refine (ictrs _ _ _ _ _ m.ks (h.k.below hB) HL.out.1 H1.out).mono ?_
  rintro e w3 ⟨rfl, hb⟩
  have hB := hB.trans (hb.mono hB.size)
  clear hb x0 x1 x2 x3 x4 x5
  go_wp2
  go_ret
  exact ⟨ret_bool HR.out.symm, hB⟩
end Go.Proofs.Ytlelboddihogmaa.Md
/-
  A region that draws its order, under a condition on the world that may grow stronger on the way.
-/
namespace Go.Proofs.Ytlelboddihogmaa.Hs
variable {P : Program} {ops : Array Oper} {Q : Exit → Act → World → Prop} {md : Region.Mode} {S : World → Prop}

/-- From here on a stronger condition may be asked. -/
theorem more {S' : World → Prop} (hs : ∀ w, S' w → S w) : ∀ {n : Nat} {l : Array Bool} {a : Act} {w : World}, wpAnyH P md ops Q S' n l a w → wpAnyH P md ops Q S n l a w
  | 0, _, _, _, h => h
  | _ + 1, _, _, _, h => ⟨h.1, fun j hj => wpOp_mono (fun _ _ h' => ⟨hs _ h'.1, more hs h'.2⟩) (h.2 j hj)⟩
/-- One that yields its value wherever the condition holds is taken first. -/
theorem take {i : Nat} {oi : Oper} (v : Value) {n : Nat} {l : Array Bool} {a : Act} {w : World} (hi : ops[i]? = some oi) (hs : Region.noSelect ops = true) (hf : Region.free md ops l i = true) (hr : (Region.ready md ops l).contains i = true)
    (hQ : ∀ c a w, Q (.panic c) (a.put oi.dst v) w → Q (.panic c) a w) (hS : S w) (hy : YieldsIf P ops S oi v a) (h : wpAnyH P md ops Q S n (l.setIfInBounds i true) (a.put oi.dst v) w) : wpAnyH P md ops Q S (n + 1) l a w :=
  wpAnyH_take hi hs hf hr hQ hy hS h
/-- The same, the slot written out. -/
theorem takeD {i : Nat} {oi : Oper} (d : Option Tmp) (v : Value) {n : Nat} {l : Array Bool} {a : Act} {w : World} (hi : ops[i]? = some oi) (hd : oi.dst = d) (hs : Region.noSelect ops = true) (hf : Region.free md ops l i = true) (hr : (Region.ready md ops l).contains i = true)
    (hQ : ∀ c a w, Q (.panic c) (a.put oi.dst v) w → Q (.panic c) a w) (hS : S w) (hy : YieldsIf P ops S oi v a) (h : wpAnyH P md ops Q S n (l.setIfInBounds i true) (a.put d v) w) : wpAnyH P md ops Q S (n + 1) l a w := by
  subst hd
  exact wpAnyH_take hi hs hf hr hQ hy hS h
/-- One alone may come up; what follows is a letter. -/
theorem one {i : Nat} {o : Oper} {n : Nat} {l : Array Bool} {a : Act} {w : World} (hr : Region.ready md ops l = [i]) (hi : ops[i]? = some o) (hg : o.guard = none)
    (h : ∀ K : Act → World → Prop, (∀ a' w', S w' → wpAnyH P md ops Q S n (l.setIfInBounds i true) a' w' → K a' w') → o.wp P a w K Q) : wpAnyH P md ops Q S (n + 1) l a w := by
  refine ⟨fun h0 => (by rw [hr] at h0; simp at h0), fun j hj => ?_⟩
  rw [hr] at hj
  obtain rfl := List.mem_singleton.1 hj
  unfold wpOp
  rw [hi]
  have hw : Region.wanted o (yielded ops a.tmps) = true := by simp [Region.wanted, hg]
  simp only [hw, if_true]
  exact .inl (h _ fun _ _ h1 h2 => ⟨h1, h2⟩)
/-- The same for one that is guarded, where the guard lets it. -/
theorem oneG {i : Nat} {o : Oper} {n : Nat} {l : Array Bool} {a : Act} {w : World} (hr : Region.ready md ops l = [i]) (hi : ops[i]? = some o) (hw : Region.wanted o (yielded ops a.tmps) = true)
    (h : ∀ K : Act → World → Prop, (∀ a' w', S w' → wpAnyH P md ops Q S n (l.setIfInBounds i true) a' w' → K a' w') → o.wp P a w K Q) : wpAnyH P md ops Q S (n + 1) l a w := by
  refine ⟨fun h0 => (by rw [hr] at h0; simp at h0), fun j hj => ?_⟩
  rw [hr] at hj
  obtain rfl := List.mem_singleton.1 hj
  unfold wpOp
  rw [hi]
  simp only [hw, if_true]
  exact .inl (h _ fun _ _ h1 h2 => ⟨h1, h2⟩)
/-- One that its guard does not let is passed over first. -/
theorem passD {i : Nat} {oi : Oper} (d : Option Tmp) {n : Nat} {l : Array Bool} {a : Act} {w : World} (hi : ops[i]? = some oi) (hd : oi.dst = d) (hs : Region.noSelect ops = true) (hf : Region.free md ops l i = true) (hr : (Region.ready md ops l).contains i = true)
    (hQ : ∀ c a w, Q (.panic c) (a.put oi.dst undef) w → Q (.panic c) a w) (hS : S w) (hw : Region.wanted oi (yielded ops a.tmps) = false) (h : wpAnyH P md ops Q S n (l.setIfInBounds i true) (a.put d undef) w) : wpAnyH P md ops Q S (n + 1) l a w := by
  subst hd
  exact wpAnyH_take hi hs hf hr hQ (.inr ⟨hw, rfl⟩) hS h
theorem two {i j : Nat} {oi oj : Oper} {n : Nat} {l : Array Bool} {a : Act} {w : World} (hr : Region.ready md ops l = [i, j]) (hi : ops[i]? = some oi) (hj : ops[j]? = some oj) (hg : oi.guard = none) (hg' : oj.guard = none)
    (h : ∀ K : Act → World → Prop, (∀ a' w', S w' → wpAnyH P md ops Q S n (l.setIfInBounds i true) a' w' → K a' w') → oi.wp P a w K Q)
    (h' : ∀ K : Act → World → Prop, (∀ a' w', S w' → wpAnyH P md ops Q S n (l.setIfInBounds j true) a' w' → K a' w') → oj.wp P a w K Q) : wpAnyH P md ops Q S (n + 1) l a w := by
  refine ⟨fun h0 => (by rw [hr] at h0; simp at h0), fun k hk => ?_⟩
  rw [hr] at hk
  have hwi : Region.wanted oi (yielded ops a.tmps) = true := by simp [Region.wanted, hg]
  have hwj : Region.wanted oj (yielded ops a.tmps) = true := by simp [Region.wanted, hg']
  unfold wpOp
  rcases List.mem_cons.1 hk with rfl | hk
  · rw [hi]
    simp only [hwi, if_true]
    exact .inl (h _ fun _ _ h1 h2 => ⟨h1, h2⟩)
  · obtain rfl := List.mem_singleton.1 hk
    rw [hj]
    simp only [hwj, if_true]
    exact .inl (h' _ fun _ _ h1 h2 => ⟨h1, h2⟩)
theorem start {id : Nat} {a : Act} {w : World} (S : World → Prop) (hm : P.follows .mixedOrders = true) (h : wpAnyH P .any ops Q S ops.size (Array.replicate ops.size false) a w.drew) : (Code.region id ops true).wp P Q a w :=
  wp_region_held hm h
end Go.Proofs.Ytlelboddihogmaa.Hs
