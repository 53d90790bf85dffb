/-
  Contracts that the proof leans on, put together in the order in which they build.
-/
import Derived.Test.YtkfjlldlbknepaaGreatPart10
import Derived.Maps.AppendAt
import Derived.Deep.RegionLaw
import Derived.Deep.AppendLies
import Derived.Test.YtkfjlldlbknepaaGreatPart5
import Derived.Test.YtkfjlldlbknepaaGreatPart1
import Derived.Deep.RegionWith
import Derived.Test.YtkfjlldlbknepaaGreatPart7
/-
  The columns of words of a table, as both texts hold them: a list of lists of texts; contracts of what makes them.
-/
namespace Go.Proofs.YtkfjlldlbknepaaGreat.Wc
set_option maxRecDepth 20000
open Go.RowKit
open Go.Proofs.YtkfjlldlbknepaaGreat.Tb
open Go.Proofs.YtkfjlldlbknepaaGreat.Tk
open Go.Proofs.YtkfjlldlbknepaaGreat.Co
open Go.Proofs.YtkfjlldlbknepaaGreat.Wd (paired)
open Go.Proofs.YtkfjlldlbknepaaGreat.Li (below_none)
set_option linter.unusedVariables false

theorem row_below {w w1 : World} {base n : Nat} {T : TypeId} {v : Value} {vs : List Value} (h : w.ownsRow base T 1 v n vs) (hb : Below w.heap.size w w1) : w1.ownsRow base T 1 v n vs :=
  World.ownsRow.kept (row := none) h ⟨hb.os, hb.tape, hb.output, hb.size, fun k hk _ => hb.block k hk⟩ (by cases hv : v.ownBlock <;> simp)
theorem row_mono {w : World} {base base' n : Nat} {T : TypeId} {v : Value} {vs : List Value} (h : w.ownsRow base T 1 v n vs) (hb : base' ≤ base) : w.ownsRow base' T 1 v n vs := by
  refine ⟨h.1, ?_⟩
  rcases h.2 with h | ⟨g, cap, cur, e, hb', r⟩
  · exact .inl h
  · exact .inr ⟨g, cap, cur, e, by omega, r⟩
/-- A list that may be read, in a block from lo on, and in another block than B. -/
def El (w : World) (lo : Nat) (B : Option Nat) (u : Value) (xs : List ByteArray) : Prop := ∃ a cap, u = .slice a xs.length cap ∧ Ls.IsS w a xs ∧ ∀ ad, a = some ad → (lo ≤ ad.block ∧ ad.block < w.heap.size) ∧ some ad.block ≠ B
theorem El.grown {w w1 : World} {lo : Nat} {B B' : Option Nat} {u : Value} {xs : List ByteArray} (h : El w lo B u xs) (hg : w.grownBy w1 B) (hB : B' = B ∨ B' = some w.heap.size) : El w1 lo B' u xs := by
  obtain ⟨a, cap, e, hi, hb⟩ := h
  refine ⟨a, cap, e, hi.keptAt hg.size (fun x hx hl => hg.block _ hl (hb x hx).2), fun ad hd => ⟨⟨(hb ad hd).1.1, Nat.lt_of_lt_of_le (hb ad hd).1.2 hg.size⟩, ?_⟩⟩
  rcases hB with rfl | rfl
  · exact (hb ad hd).2
  · intro e'; injection e' with e'; have := (hb ad hd).1; omega
theorem El.below {w w1 : World} {lo : Nat} {B : Option Nat} {u : Value} {xs : List ByteArray} (h : El w lo B u xs) (hb : Below w.heap.size w w1) : El w1 lo B u xs := by
  obtain ⟨a, cap, e, hi, hd⟩ := h
  exact ⟨a, cap, e, hi.below hb, fun ad h => ⟨⟨(hd ad h).1.1, Nat.lt_of_lt_of_le (hd ad h).1.2 hb.size⟩, (hd ad h).2⟩⟩
theorem El.mono {w : World} {lo lo' : Nat} {B : Option Nat} {u : Value} {xs : List ByteArray} (h : El w lo B u xs) (hl : lo' ≤ lo) : El w lo' B u xs := by
  obtain ⟨a, cap, e, hi, hd⟩ := h
  exact ⟨a, cap, e, hi, fun ad h => ⟨⟨Nat.le_trans hl (hd ad h).1.1, (hd ad h).1.2⟩, (hd ad h).2⟩⟩
theorem el_own {w : World} {base lo : Nat} {u : Value} {xs : List ByteArray} {B : Option Nat} (h : Ls.Own w base u xs) (hB : ∀ k, B = some k → k < base) (hlo : lo ≤ base) : El w lo B u xs := by
  obtain ⟨a, cap, e, hi⟩ := h.iss
  refine ⟨a, cap, e, hi, fun ad hd => ?_⟩
  subst hd
  have := h.ge ad.block (by rw [e]; rfl)
  refine ⟨⟨by omega, this.2⟩, fun e' => ?_⟩
  have := hB _ e'.symm
  omega
/-- Lists of texts, one behind the other, in a block of their own. -/
structure OC (T : TypeId) (w : World) (base : Nat) (v : Value) (cs : List (List ByteArray)) : Prop where
  ex : ∃ vs : List Value, vs.length = cs.length ∧ w.ownsRow base T 1 v cs.length vs ∧ ∀ j (h : j < cs.length) (h' : j < vs.length), El w base v.ownBlock vs[j] cs[j]
variable {T : TypeId} {w w1 : World} {base : Nat} {v : Value} {cs : List (List ByteArray)}
theorem OC.below (h : OC T w base v cs) (hb : Below w.heap.size w w1) : OC T w1 base v cs := by
  obtain ⟨vs, hl, ho, he⟩ := h.ex
  exact ⟨vs, hl, row_below ho hb, fun j h h' => (he j h h').below hb⟩
theorem OC.mono {base' : Nat} (h : OC T w base v cs) (hb : base' ≤ base) : OC T w base' v cs := by
  obtain ⟨vs, hl, ho, he⟩ := h.ex
  exact ⟨vs, hl, row_mono ho hb, fun j h h' => (he j h h').mono hb⟩
theorem OC.nil (T : TypeId) (w : World) (base : Nat) : OC T w base (.slice none 0 0) [] := ⟨[], rfl, World.ownsRow_nil _ _ _ _, fun j h => by simp at h⟩
theorem OC.lt (h : OC T w base v cs) : ∀ k, v.ownBlock = some k → base ≤ k ∧ k < w.heap.size := by
  obtain ⟨vs, hl, ho, he⟩ := h.ex
  exact World.ownsRow.lt ho
theorem oc_snoc {v5 u : Value} {xs : List ByteArray} {vs : List Value} (hl : vs.length = cs.length) (he : ∀ j (h : j < cs.length) (h' : j < vs.length), El w base v.ownBlock vs[j] cs[j]) (hu : El w base v.ownBlock u xs)
    (ho : w1.ownsRow base T 1 v5 (cs.length + 1) (vs ++ [u])) (hg : w.grownBy w1 v.ownBlock) (hloc : v5.ownBlock = v.ownBlock ∨ v5.ownBlock = some w.heap.size) : OC T w1 base v5 (cs ++ [xs]) := by
  refine ⟨vs ++ [u], by simp [hl], by simpa using ho, fun j h h' => ?_⟩
  by_cases hj : j < cs.length
  · rw [List.getElem_append_left (by omega), List.getElem_append_left hj]
    exact (he j hj (by omega)).grown hg hloc
  · have e1 : j = cs.length := by simp at h; omega
    subst e1
    rw [List.getElem_append_right (by omega), List.getElem_append_right (by omega)]
    simp only [hl, Nat.sub_self, List.getElem_cons_zero]
    exact hu.grown hg hloc
/-- What is read of them. -/
def IsC (w : World) (a : Option Addr) (cs : List (List ByteArray)) : Prop :=
  cs = [] ∨ ∃ b off, a = some ⟨b, off, none⟩ ∧ b < w.heap.size ∧ ∀ j (hj : j < cs.length), ∃ a' c', w.cell? ⟨b, off + j, none⟩ = some (.slice a' cs[j].length c') ∧ Ls.IsS w a' cs[j]
theorem IsC.below {a : Option Addr} (h : IsC w a cs) (hB : Below w.heap.size w w1) : IsC w1 a cs := by
  rcases h with h | ⟨b, off, rfl, hb, hc⟩
  · exact .inl h
  · refine .inr ⟨b, off, rfl, Nat.lt_of_lt_of_le hb hB.size, fun j hj => ?_⟩
    obtain ⟨a', c', hx, hi⟩ := hc j hj
    exact ⟨a', c', (hB.cell (by exact hb)).trans hx, hi.below hB⟩
theorem OC.isc (h : OC T w base v cs) : ∃ a cap, v = .slice a cs.length cap ∧ IsC w a cs := by
  obtain ⟨vs, hl, ho, he⟩ := h.ex
  have h' := ho
  rcases ho.2 with ⟨rfl, h0⟩ | ⟨g, cap, cur, rfl, hb, hh, _⟩
  · obtain rfl := List.length_eq_zero_iff.1 h0
    exact ⟨none, 0, rfl, .inl rfl⟩
  · refine ⟨_, cap, rfl, .inr ⟨g, 0, rfl, (Array.getElem?_eq_some_iff.1 hh).1, fun j hj => ?_⟩⟩
    obtain ⟨a, c, e, hi, _⟩ := he j hj (by omega)
    refine ⟨a, c, ?_, hi⟩
    rw [Nat.zero_add, World.ownsRow.cellAt h' j (by omega), List.getElem?_eq_getElem (by omega), e]
/-- What is read of them, in blocks from lo on. -/
def IsCb (w : World) (lo : Nat) (a : Option Addr) (cs : List (List ByteArray)) : Prop :=
  cs = [] ∨ ∃ b off, a = some ⟨b, off, none⟩ ∧ (lo ≤ b ∧ b < w.heap.size) ∧ ∀ j (hj : j < cs.length), ∃ a' c', w.cell? ⟨b, off + j, none⟩ = some (.slice a' cs[j].length c') ∧ Ls.IsS w a' cs[j] ∧ ∀ ad, a' = some ad → lo ≤ ad.block ∧ ad.block < w.heap.size
theorem IsCb.same {lo : Nat} {a : Option Addr} (h : IsCb w lo a cs) (hs : w.heap.size ≤ w1.heap.size) (hk : ∀ y, lo ≤ y → y < w.heap.size → w1.heap[y]? = w.heap[y]?) : IsCb w1 lo a cs := by
  rcases h with h | ⟨b, off, rfl, hb, hc⟩
  · exact .inl h
  · refine .inr ⟨b, off, rfl, ⟨hb.1, by omega⟩, fun j hj => ?_⟩
    obtain ⟨a', c', hx, hi, hd⟩ := hc j hj
    refine ⟨a', c', ?_, hi.keptAt hs (fun x hx hl => hk _ (hd x hx).1 hl), fun ad h => ⟨(hd ad h).1, by have := (hd ad h).2; omega⟩⟩
    rw [World.cell?_of_block (w := w) (a := ⟨b, off + j, none⟩) (hk b hb.1 hb.2)]; exact hx
theorem OC.iscb (h : OC T w base v cs) : ∃ a cap, v = .slice a cs.length cap ∧ IsCb w base a cs := by
  obtain ⟨vs, hl, ho, he⟩ := h.ex
  have h' := ho
  rcases ho.2 with ⟨rfl, h0⟩ | ⟨g, cap, cur, rfl, hb, hh, _⟩
  · obtain rfl := List.length_eq_zero_iff.1 h0
    exact ⟨none, 0, rfl, .inl rfl⟩
  · refine ⟨_, cap, rfl, .inr ⟨g, 0, rfl, ⟨hb, (Array.getElem?_eq_some_iff.1 hh).1⟩, fun j hj => ?_⟩⟩
    obtain ⟨a, c, e, hi, hd⟩ := he j hj (by omega)
    refine ⟨a, c, ?_, hi, fun ad h => (hd ad h).1⟩
    rw [Nat.zero_add, World.ownsRow.cellAt h' j (by omega), List.getElem?_eq_getElem (by omega), e]
/-- The columns of words: each of the words, and where they are two, both together. -/
def cats (k : Nat) (rs : List Row) : List (List ByteArray) := (List.range k).map (cat rs)
def wcols (c : Int) (rs : List Row) : List (List ByteArray) := if c = 2 then cats 2 rs ++ [paired (cat rs 0) (cat rs 1)] else cats c.toNat rs
theorem cats_length (k : Nat) (rs : List Row) : (cats k rs).length = k := by simp [cats]
theorem cats_snoc (k : Nat) (rs : List Row) : cats (k + 1) rs = cats k rs ++ [cat rs k] := by simp [cats, List.range_succ]
theorem cats_get (k : Nat) (rs : List Row) (j : Nat) (h : j < (cats k rs).length) : (cats k rs)[j] = cat rs j := by simp [cats]
theorem tok_c {n c : Int} {rs : List Row} (h : tok n c rs = true) : (0 ≤ n ∧ n ≤ 3) ∧ (0 ≤ c ∧ c ≤ 2) ∧ rs.length ≤ 40 := by
  obtain ⟨h1, h2, _⟩ := tok_iff.1 h
  have : (0 ≤ n ∧ n ≤ 3) ∧ (0 ≤ c ∧ c ≤ 2) := by simpa [sok] using h1
  exact ⟨this.1, this.2, h2⟩
theorem words_yes {n c : Int} {rs : List Row} (h : tok n c rs = true) (k : Nat) (hk : (k : Int) < c) : words n c rs k = cat rs k := by
  unfold words
  rw [if_pos ⟨h, by omega, hk⟩]
  simp
theorem tok_word {n c : Int} {rs : List Row} (h : tok n c rs = true) (p j : Nat) (hp : (p : Int) < c) (hj : j < (cat rs p).length) : (cat rs p)[j].size ≤ 12 := by
  have hj' : j < rs.length := by simpa [cat] using hj
  have hc := (tok_nums h j hj').2
  have hp' : p < rs[j].cats.length := by omega
  rw [cat_get rs p j hj' hp']
  have h2 := (tok_iff.1 h).2.2
  have h3 := rok_iff.1 (List.all_eq_true.1 h2 _ (List.getElem_mem hj'))
  have h4 : cok rs[j].cats = true := h3.2.2.2.2.1
  have h5 := List.all_eq_true.1 h4 _ (List.getElem_mem hp')
  unfold wok wlen at h5
  simp at h5
  exact h5.1.2
theorem info_strs : (Tryz.prog.info? 74).map (fun i => (i.zero, i.size, i.bytes)) = some (some (.slice none 0 0), 1, 24) := by kernel_rfl
theorem one_cell (w : World) (T : TypeId) (x : Value) : ∀ j u, ([x] : List Value)[j]? = some u → (w.alloc (.cells #[x] T)).cell? ((⟨w.heap.size, 0, none⟩ : Addr).add j) = some u := by
  intro j u hj
  match j, hj with
  | 0, hj => simp at hj; subst hj; simp [Addr.add]
theorem one_at {w : World} {T : TypeId} {x : Value} {H : Nat} (h : w.heap.size = H) : ∀ j u, ([x] : List Value)[j]? = some u → (w.alloc (.cells #[x] T)).cell? ((⟨H, 0, none⟩ : Addr).add j) = some u := by
  subst h; exact one_cell w T x
theorem one_one {a : Option Addr} {n c : Nat} : ∀ u ∈ ([.slice a n c] : List Value), u.oneCell' = true := by
  intro u hu; simp at hu; subst hu; rfl
set_option maxHeartbeats 4000000 in
theorem iwc (w : World) (n c : Int) (a : Option Addr) (cap : Nat) (rs : List Row) (hx : IsR w a rs) (hl : rs.length + szR rs ≤ 1048576) (ht : tok n c rs = true) :
    Calls Tryz.prog 111 #[.agg #[.int .i64 n, .int .i64 c, .slice a rs.length cap]] w fun e w' => ∃ v, e = .returned v ∧ OC 74 w' w.heap.size v (wcols c rs) ∧ Below w.heap.size w w' := by
  obtain ⟨⟨n0, n3⟩, ⟨c0, c2⟩, h40⟩ := tok_c ht
  obtain ⟨cn, rfl⟩ : ∃ cn : Nat, c = (cn : Int) := ⟨c.toNat, by omega⟩
  have HT : Hid (tok n (cn : Int) rs = true) := ht
  have HW2 : Hid (∀ k, k < cn → words n (cn : Int) rs (k : Int) = cat rs k) := fun k hk => words_yes ht k (by omega)
  have HC : Hid (∀ p j (hj : j < (cat rs p).length), p < cn → (cat rs p)[j].size ≤ 12) := fun p j hj hp => tok_word ht p j (by omega) hj
  have HE : Hid (¬ cn = 2 → wcols (cn : Int) rs = cats cn rs) := fun h => by unfold wcols; rw [if_neg (by omega)]; simp
  have HE2 : Hid (cn = 2 → wcols (cn : Int) rs = cats 2 rs ++ [paired (cat rs 0) (cat rs 1)]) := fun h => by unfold wcols; rw [if_pos (by omega)]
  clear ht
  obtain ⟨i0, hi, hz0, hz1, hz2⟩ := info_parts info_strs
  go_enter Tryz.func111, Tryz.ntmps111
  obtain ⟨W, hW, hsz, hB, bx⟩ := box3_new' w (.int .i64 n) (.int .i64 (cn : Int)) (.slice a rs.length cap) 43
  have HW : Hid (w.alloc (.cells #[.int .i64 n, .int .i64 (cn : Int), .slice a rs.length cap] 43) = W) := hW
  clear hW
  go_wp2
  rw [HW.out]
  clear HW
  have hszW : w.heap.size < W.heap.size := by omega
  clear hsz
  go_loopw [3, 8] (fun v i wr => ∃ k : Nat, k ≤ cn ∧ i = .int .i64 k ∧ OC 74 wr W.heap.size v (cats k rs) ∧ Below W.heap.size W wr) (fun _ i _ => cn - (intOf i).toNat)
  case atStart => exact ⟨0, Nat.zero_le _, rfl, OC.nil _ _ _, Below.refl _ _⟩
  case round =>
    obtain ⟨k, hk, rfl, oc, hBr⟩ := hrel
    have bxr := bx.below hBr
    obtain ⟨hbx, ⟨cx0, cx1, cx2⟩, _⟩ := id bxr
    have hxr := (hx.below hB).below hBr
    have hsr := hBr.size
    by_cases hlt : k < cn
    · go_wp2_with fail
      refine (iwords _ _ _ _ _ rs _ hxr hl).mono ?_
      rintro e w1 ⟨u, rfl, ou, hb⟩
      rw [HW2.out k hlt] at ou
      have oc1 := oc.below hb
      have hul := el_own (B := u3.ownBlock) (lo := W.heap.size) ou (fun j hj => (oc.lt j hj).2) hsr
      have hBr := hBr.trans (hb.mono hBr.size)
      have hs1 := hBr.size
      clear hb cx0 cx1 cx2 bxr hxr hbx oc
      obtain ⟨vs, hvl, ho, he⟩ := oc1.ex
      have hcl := cats_length k rs
      obtain ⟨ua, uc, rfl, _⟩ := id hul
      have hBa : Below w1.heap.size w1 (w1.alloc (.cells #[.slice ua (cat rs k).length uc] 74)) := (Below.refl _ _).alloc (Nat.le_refl _) _
      have HCL : Hid ((cats k rs).length = k) := hcl
      have hcl3 : (cats k rs).length ≤ 2 := by omega
      clear hcl
      go_wp2_with (at_builtin; refine wpList_append_own_at _ rfl _ _ 136 rfl W.heap.size 74 i0 (.slice none 0 0) 1 24 Tryz.underlying136 hi hz0 hz1 hz2 rfl (by decide) _ _ _ rfl (row_below ho hBa) ⟨w1.heap.size, 0, none⟩ 1 1 [.slice ua (cat rs k).length uc] rfl rfl (one_cell _ _ _) one_one (by unfold maxLen; omega) (by omega) (by simp; omega) ?_; intro v3 w3 hown3 hgrow3 hnn3 hloc3)
      have oc3 := oc_snoc hvl (fun j h h' => (he j h h').below hBa) (hul.below hBa) hown3 hgrow3 hloc3
      rw [← cats_snoc] at oc3
      have hB3 : Below W.heap.size W w3 := hBr.trans (by
        have hh : Below W.heap.size (w1.alloc (.cells #[.slice ua (cat rs k).length uc] 74)) w3 := ⟨hgrow3.os, hgrow3.tape, hgrow3.output, hgrow3.size, fun q hq => hgrow3.block q (by simp; omega) (fun e => by have := (oc1.lt q e.symm).1; omega)⟩
        exact (hBa.mono hs1).trans hh)
      clear hown3 hgrow3 hnn3 hloc3 hBa ho he hul oc1 hBr ou
      go_wp2
      go_roundw
      case rel => exact ⟨k + 1, by omega, by go_num, oc3, hB3⟩
      case measure => simp [intOf]; omega
    · obtain rfl : k = cn := by omega
      obtain ⟨av, cv, rfl, ic⟩ := oc.isc
      have hcl := cats_length k rs
      by_cases h2 : k = 2
      rotate_left
      · have hne : (((cats k rs).length : Int) == 2) = false := by rw [beq_eq_false_iff_ne, hcl]; omega
        have HR : Hid (wcols (k : Int) rs = cats k rs) := HE.out h2
        clear hcl h2
        go_wp2
        go_ret
        exact ⟨_, rfl, by rw [HR.out]; exact oc.mono (by omega), hB.trans (hBr.mono hB.size)⟩
      · subst h2
        have hne : (((cats 2 rs).length : Int) == 2) = true := by rw [beq_iff_eq, hcl]; rfl
        have HR : Hid (wcols ((2 : Nat) : Int) rs = cats 2 rs ++ [paired (cat rs 0) (cat rs 1)]) := HE2.out rfl
        have HCL : Hid ((cats 2 rs).length = 2) := hcl
        rcases ic with h0 | ⟨cb, co, rfl, hcb, hcc⟩
        · rw [h0] at hcl; simp at hcl
        obtain ⟨a0, q0, d0, i_0⟩ := hcc 0 (by omega)
        obtain ⟨a1, q1, d1, i_1⟩ := hcc 1 (by omega)
        rw [cats_get] at d0 d1 i_0 i_1
        rw [Nat.add_zero] at d0
        have hlt2 : (0 : Int) < ((cats 2 rs).length : Int) := by omega
        have hlt3 : (1 : Int) < ((cats 2 rs).length : Int) := by omega
        have hln2 : 0 < (cats 2 rs).length := by omega
        have hln3 : 1 < (cats 2 rs).length := by omega
        have hz0' : ∀ j (h : j < (cat rs 0).length), (cat rs 0)[j].size ≤ 1048576 := fun j h => by have := HC.out 0 j h (by omega); omega
        have hz1' : ∀ j (h : j < (cat rs 1).length), (cat rs 1)[j].size ≤ 1048576 := fun j h => by have := HC.out 1 j h (by omega); omega
        have hl0 : (cat rs 0).length ≤ 1048576 := by rw [cat_length]; omega
        have hl1 : (cat rs 1).length ≤ 1048576 := by rw [cat_length]; omega
        have hcl3 : (cats 2 rs).length ≤ 2 := by omega
        clear hcl hcc
        go_wp2
        go_region_law (first
          | (refine step_append_lies _ rfl _ _ 136 rfl W.heap.size 74 i0 (.slice none 0 0) 1 24 Tryz.underlying136 hi hz0 hz1 hz2 rfl (by decide) _ (cats 2 rs).length vs rfl (by first | exact row_below ho ((Below.refl _ _).alloc (Nat.le_refl _) _) | exact row_below ho ((Below.refl _ _).drew.alloc (Nat.le_refl _) _)) _ 1 1 [.slice ua _ uc] rfl rfl (one_at (by first | rfl | simp)) one_one (by decide) (by unfold maxLen; omega) (by omega) (by simp; omega) _ rfl ?_
             intro g cap' w6 hown' hgrow hpos hglt
             have oc6 := oc_snoc hvl (fun j h h' => (he j h h').below ((Below.refl _ _).alloc (Nat.le_refl _) _)) (hul.below ((Below.refl _ _).alloc (Nat.le_refl _) _)) hown' hgrow (Or.elim hpos (fun e => .inl e.symm) (fun e => .inr (by rw [e]; rfl)))
             have hB6 : Below W.heap.size W w6 := hBp.trans (by
               have hh := (Below.refl w1.heap.size w1).alloc (Nat.le_refl _) (.cells #[.slice ua (paired (cat rs 0) (cat rs 1)).length uc] 74)
               exact (hh.mono hs1).trans ⟨hgrow.os, hgrow.tape, hgrow.output, hgrow.size, fun q hq => hgrow.block q (by simp; omega) (fun e => by have := (oc1.lt q e.symm).1; omega)⟩)
             clear hown' hgrow hpos hglt)
          | (go_simp
             go_wp2_with (go_at_call 121
                          refine (Pa.ipair _ _ _ _ _ (cat rs 0) (cat rs 1) (by exact i_0) (by exact i_1) hl0 hl1 hz0' hz1').mono ?_
                          rintro e w1 ⟨u, rfl, ou, hb⟩
                          have hb : Below wr.heap.size wr w1 := ((Below.refl wr.heap.size wr).drew).trans hb
                          have oc1 := oc.below hb
                          have hul := el_own (lo := W.heap.size) (B := (Value.slice (some ⟨cb, co, none⟩) (cats 2 rs).length cv).ownBlock) ou (fun j hj => (oc.lt j hj).2) hsr
                          have hBp := hBr.trans (hb.mono hBr.size)
                          have hs1 := hBp.size
                          obtain ⟨vs, hvl, ho, he⟩ := oc1.ex
                          obtain ⟨ua, uc, rfl, _⟩ := id hul
                          clear hb)))
        all_goals
          clear oc oc1 ho he hul
          go_wp2
          go_ret
          exact ⟨_, rfl, by rw [HR.out]; exact oc6.mono (by omega), hB.trans (hB6.mono hB.size)⟩
end Go.Proofs.YtkfjlldlbknepaaGreat.Wc
/-
  BordersOk, BinOf, BinsOf of the program and of the model: each answers what Bor says; old memory stays.
-/
namespace Go.Proofs.YtkfjlldlbknepaaGreat.Bw
open Go.RowKit
open Go.Proofs.YtkfjlldlbknepaaGreat.Li Go.Proofs.YtkfjlldlbknepaaGreat.Bo

set_option maxHeartbeats 400000 in
theorem iok_m (x : Int) (w : World) :
    Calls Tryz.prog 110 #[.int .i64 x] w fun e w' => e = .returned (.bool (fok x)) ∧ w' = w := by
  go_enter Tryz.func110, Tryz.ntmps110
  go_wp2
  all_goals go_ret
  all_goals refine ⟨ret_bool ?_, rfl⟩
  all_goals unfold fok
  all_goals simp
  all_goals omega
set_option maxHeartbeats 400000 in
theorem iok (x : Int) (w : World) :
    Calls Tryz.prog 87 #[.int .i64 x] w fun e w' => e = .returned (.bool (fok x)) ∧ w' = w := by
  go_enter Tryz.func87, Tryz.ntmps87
  go_wp2_with (go_at_call 110; refine (iok_m _ _).mono ?_; rintro e w' ⟨rfl, hw⟩; subst w')
  go_ret
  exact ⟨rfl, rfl⟩
set_option maxHeartbeats 400000 in
theorem sok (x : Int) (w : World) :
    Calls Tryz.prog 75 #[.int .i64 x] w fun e w' => e = .returned (.bool (fok x)) ∧ w' = w := by
  go_enter Tryz.func75, Tryz.ntmps75
  go_wp2_with (go_at_call 74; refine (between_any _ _ _ _).mono ?_; rintro e w' ⟨rfl, hw⟩; subst w')
  go_ret
  exact ⟨rfl, rfl⟩
theorem sokv (x : Int) (v : Bool) (h : fok x = v) (w : World) :
    Calls Tryz.prog 75 #[.int .i64 x] w fun e w' => e = .returned (.bool v) ∧ w' = w := by subst h; exact sok x w
set_option maxHeartbeats 1000000 in
theorem iall (w : World) (a : Option Addr) (cap : Nat) (xs : List Int) (hx : IsL w a xs) (hl : xs.length ≤ 1048576) :
    Calls Tryz.prog 117 #[.slice a xs.length cap] w fun e w' => e = .returned (.bool (aok xs)) ∧ w' = w := by
  go_enter Tryz.func117, Tryz.ntmps117
  go_wp2
  go_loop [7] (fun i => ∃ k : Nat, k ≤ xs.length ∧ i = .int .i64 k ∧ ∀ j (hj : j < xs.length), j < k → fok xs[j] = true) (fun i => xs.length - (intOf i).toNat)
  case atStart => exact ⟨0, Nat.zero_le _, rfl, fun j hj h => by omega⟩
  case round =>
    obtain ⟨k, hk, rfl, hn⟩ := hrel
    have HN : Hid (∀ j (hj : j < xs.length), j < k → fok xs[j] = true) := hn
    clear hn
    by_cases hlt : k < xs.length
    · rcases hx with rfl | ⟨b, off, rfl, hb, hc⟩
      · simp at hlt
      have hcx := hc k hlt
      clear hc
      cases hv : fok xs[k] with
      | false =>
        have HR : Hid (aok xs = false) := aok_no hlt hv
        go_wp2_with (go_at_call 87; refine (iok _ _).mono ?_; rintro e w' ⟨rfl, hw⟩; subst w'; rw [hv])
        go_ret
        exact ⟨ret_bool HR.out.symm, rfl⟩
      | true =>
        have HR : Hid (∀ j (hj : j < xs.length), j < k + 1 → fok xs[j] = true) := fun j hj h => by
          by_cases e : j = k
          · subst e; exact hv
          · exact HN.out j hj (by omega)
        go_wp2_with (go_at_call 87; refine (iok _ _).mono ?_; rintro e w' ⟨rfl, hw⟩; subst w'; rw [hv])
        go_round
        case rel => exact ⟨k + 1, by omega, by go_num, HR.out⟩
        case measure => simp [intOf]; omega
    · have HR : Hid (aok xs = true) := aok_to (fun j hj => HN.out j hj (by omega))
      go_wp2
      go_ret
      exact ⟨ret_bool HR.out.symm, rfl⟩
end Go.Proofs.YtkfjlldlbknepaaGreat.Bw
/-
  TreeOk, LeafOf, Eval of the program and of the model.
-/
namespace Go.Proofs.YtkfjlldlbknepaaGreat.Tw
open Go.RowKit
open Go.Proofs.YtkfjlldlbknepaaGreat.Li (ret_bool ret_int below_none)
open Go.Proofs.YtkfjlldlbknepaaGreat.Tr Go.Proofs.YtkfjlldlbknepaaGreat.Tm Go.Proofs.YtkfjlldlbknepaaGreat.Bo Go.Proofs.YtkfjlldlbknepaaGreat.Bw

theorem pow_d (d : Nat) (hd : d ≤ 5) : wrap64 (2 ^ d) = ((2 ^ d : Nat) : Int) := by
  match d, hd with
  | 0, _ => decide +kernel
  | 1, _ => decide +kernel
  | 2, _ => decide +kernel
  | 3, _ => decide +kernel
  | 4, _ => decide +kernel
  | 5, _ => decide +kernel
theorem below_box {w : World} {o : Obj} {n : Nat} : Below w.heap.size w ((w.alloc o).drewN n) := ((Below.refl _ _).alloc (Nat.le_refl _) _).trans ((below_drewN' _ _).mono (by simp))
theorem btw5 (x : Int) (y : Int) : spok (x, y) = (Li.btw x 0 5 && fok y) := by simp [spok, Li.btw]
set_option maxHeartbeats 1000000 in
theorem stok (w : World) (a a' : Option Addr) (c c' : Nat) (t : T) (hp : IsP w a t.sp) (hx : Li.IsL w a' t.lv) (hl : t.sp.length + t.lv.length ≤ 1048576) :
    Calls Tryz.prog 77 #[.agg #[.slice a t.sp.length c, .slice a' t.lv.length c']] w fun e w' => e = .returned (.bool (tok t)) ∧ Below w.heap.size w w' := by
  by_cases h4 : 4 < t.sp.length
  · have hd : decide (4 < (t.sp.length : Int)) = true := by simp; omega
    rw [tok_long h4]
    go_enter Tryz.func77, Tryz.ntmps77
    go_wp2
    go_quiet (fail)
    go_wp2
    go_ret
    exact ⟨rfl, below_box⟩
  have hd : decide (4 < (t.sp.length : Int)) = false := by simp; omega
  have hpw := pow_d t.sp.length (by omega)
  by_cases h2 : t.lv.length = 2 ^ t.sp.length
  · have hne : ((t.lv.length : Int) != wrap64 (2 ^ t.sp.length)) = false := by rw [hpw, h2]; simp
    have H2 : Hid (t.lv.length = 2 ^ t.sp.length) := h2
    clear hpw h2
    go_enter Tryz.func77, Tryz.ntmps77
    go_wp2
    go_quiet (fail)
    go_wp2
    have hB0 : Below w.heap.size w ((w.alloc (.cells #[.slice a t.sp.length c, .slice a' t.lv.length c'] 93)).drewN nq) := below_box
    have bx : Box2 ((w.alloc (.cells #[.slice a t.sp.length c, .slice a' t.lv.length c'] 93)).drewN nq) w.heap.size _ _ := (box2_new w (.slice a t.sp.length c) (.slice a' t.lv.length c') 93).drewN nq
    have hp := hp.below hB0
    have hx := hx.below hB0
    obtain ⟨W, hW⟩ : ∃ W, (w.alloc (.cells #[.slice a t.sp.length c, .slice a' t.lv.length c'] 93)).drewN nq = W := ⟨_, rfl⟩
    rw [hW] at hB0 bx hp hx ⊢
    obtain ⟨hbl, ⟨cx0, cx1⟩, _⟩ := bx
    clear hW
    go_loop [3] (fun i => ∃ k : Nat, k ≤ t.sp.length ∧ i = .int .i64 k ∧ ∀ j (hj : j < t.sp.length), j < k → spok t.sp[j] = true) (fun i => t.sp.length - (intOf i).toNat)
    case atStart => exact ⟨0, Nat.zero_le _, rfl, fun j hj h => by omega⟩
    case round =>
      obtain ⟨k, hk, rfl, hn⟩ := hrel
      have HN : Hid (∀ j (hj : j < t.sp.length), j < k → spok t.sp[j] = true) := hn
      clear hn
      by_cases hlt : k < t.sp.length
      · rcases hp with h0 | ⟨b, off, rfl, hb, hc⟩
        · rw [h0] at hlt; simp at hlt
        obtain ⟨cy0, cy1⟩ := hc k hlt
        clear hc
        have hbt := btw5 t.sp[k].1 t.sp[k].2
        cases hv1 : Li.btw t.sp[k].1 0 5 with
        | false =>
          have HR : Hid (tok t = false) := tok_bad hlt (by rw [hv1] at hbt; exact hbt)
          clear hbt
          go_wp2_with (go_at_call 74; refine (Li.between_any _ _ _ _).mono ?_; rintro e w' ⟨rfl, hw⟩; subst w'; rw [hv1])
          go_ret
          exact ⟨ret_bool HR.out.symm, hB0⟩
        | true =>
          cases hv2 : fok t.sp[k].2 with
          | false =>
            have HR : Hid (tok t = false) := tok_bad hlt (by rw [hv1, hv2] at hbt; exact hbt)
            clear hbt
            go_wp2_with (first | (go_at_call 74; refine (Li.between_any _ _ _ _).mono ?_; rintro e w' ⟨rfl, hw⟩; subst w'; rw [hv1]) | (go_at_call 75; refine (sok _ _).mono ?_; rintro e w' ⟨rfl, hw⟩; subst w'; rw [hv2]))
            go_ret
            exact ⟨ret_bool HR.out.symm, hB0⟩
          | true =>
            have HR : Hid (∀ j (hj : j < t.sp.length), j < k + 1 → spok t.sp[j] = true) := fun j hj h => by
              by_cases e : j = k
              · subst e; rw [hv1, hv2] at hbt; exact hbt
              · exact HN.out j hj (by omega)
            clear hbt
            go_wp2_with (first | (go_at_call 74; refine (Li.between_any _ _ _ _).mono ?_; rintro e w' ⟨rfl, hw⟩; subst w'; rw [hv1]) | (go_at_call 75; refine (sok _ _).mono ?_; rintro e w' ⟨rfl, hw⟩; subst w'; rw [hv2]))
            go_round
            case rel => exact ⟨k + 1, by omega, by go_num, HR.out⟩
            case measure => simp [intOf]; omega
      · have HS : Hid (∀ j (hj : j < t.sp.length), spok t.sp[j] = true) := fun j hj => HN.out j hj (by omega)
        clear HN
        go_wp2
        go_loop [4] (fun i => ∃ k : Nat, k ≤ t.lv.length ∧ i = .int .i64 k ∧ ∀ j (hj : j < t.lv.length), j < k → fok t.lv[j] = true) (fun i => t.lv.length - (intOf i).toNat)
        case atStart => exact ⟨0, Nat.zero_le _, rfl, fun j hj h => by omega⟩
        case round =>
          obtain ⟨k, hk, rfl, hn⟩ := hrel
          have HN : Hid (∀ j (hj : j < t.lv.length), j < k → fok t.lv[j] = true) := hn
          clear hn
          by_cases hlt : k < t.lv.length
          · rcases hx with h0 | ⟨b, off, rfl, hb, hc⟩
            · rw [h0] at hlt; simp at hlt
            have hcx := hc k hlt
            clear hc
            cases hv : fok t.lv[k] with
            | false =>
              have HR : Hid (tok t = false) := tok_leaf (aok_no hlt hv)
              go_wp2_with (go_at_call 75; refine (sok _ _).mono ?_; rintro e w' ⟨rfl, hw⟩; subst w'; rw [hv])
              go_ret
              exact ⟨ret_bool HR.out.symm, hB0⟩
            | true =>
              have HR : Hid (∀ j (hj : j < t.lv.length), j < k + 1 → fok t.lv[j] = true) := fun j hj h => by
                by_cases e : j = k
                · subst e; exact hv
                · exact HN.out j hj (by omega)
              go_wp2_with (go_at_call 75; refine (sok _ _).mono ?_; rintro e w' ⟨rfl, hw⟩; subst w'; rw [hv])
              go_round
              case rel => exact ⟨k + 1, by omega, by go_num, HR.out⟩
              case measure => simp [intOf]; omega
          · have HR : Hid (tok t = true) := tok_all (by omega) H2.out HS.out (aok_to (fun j hj => HN.out j hj (by omega)))
            go_wp2
            go_ret
            exact ⟨ret_bool HR.out.symm, hB0⟩
  · have hne : ((t.lv.length : Int) != wrap64 (2 ^ t.sp.length)) = true := by rw [hpw]; exact bne_iff_ne.2 (fun e => h2 (Int.ofNat_inj.1 e))
    rw [tok_leaves h2]
    clear hpw h2
    go_enter Tryz.func77, Tryz.ntmps77
    go_wp2
    go_quiet (fail)
    go_wp2
    go_ret
    exact ⟨rfl, below_box⟩
set_option maxHeartbeats 400000 in
theorem ifeat (x : Int) (w : World) : Calls Tryz.prog 130 #[.int .i64 x] w fun e w' => e = .returned (.bool (Li.btw x 0 5)) ∧ w' = w := by
  go_enter Tryz.func130, Tryz.ntmps130
  go_wp2
  all_goals go_ret
  all_goals refine ⟨ret_bool ?_, rfl⟩
  all_goals unfold Li.btw
  all_goals simp
  all_goals first | omega | (rw [Bool.eq_iff_iff]; simp; omega)
set_option maxHeartbeats 400000 in
theorem isplit (x y : Int) (w : World) : Calls Tryz.prog 116 #[.agg #[.int .i64 x, .int .i64 y]] w fun e w' => e = .returned (.bool (spok (x, y))) ∧ Below w.heap.size w w' := by
  rw [btw5]
  cases h1 : Li.btw x 0 5 with
  | false =>
    go_enter Tryz.func116, Tryz.ntmps116
    go_wp2_with (first | (go_at_call 130; refine (ifeat _ _).mono ?_; rintro e w' ⟨rfl, hw⟩; subst w'; rw [h1]) | (go_at_call 87; refine (iok _ _).mono ?_; rintro e w' ⟨rfl, hw⟩; subst w'))
    go_ret
    exact ⟨rfl, (Below.refl _ _).alloc (Nat.le_refl _) _⟩
  | true =>
    go_enter Tryz.func116, Tryz.ntmps116
    go_wp2_with (first | (go_at_call 130; refine (ifeat _ _).mono ?_; rintro e w' ⟨rfl, hw⟩; subst w'; rw [h1]) | (go_at_call 87; refine (iok _ _).mono ?_; rintro e w' ⟨rfl, hw⟩; subst w'))
    go_ret
    exact ⟨rfl, (Below.refl _ _).alloc (Nat.le_refl _) _⟩
set_option maxHeartbeats 1000000 in
theorem itok (w : World) (a a' : Option Addr) (c c' : Nat) (t : T) (hp : IsP w a t.sp) (hx : Li.IsL w a' t.lv) (hl : t.sp.length + t.lv.length ≤ 1048576) :
    Calls Tryz.prog 92 #[.agg #[.slice a t.sp.length c, .slice a' t.lv.length c']] w fun e w' => e = .returned (.bool (tok t)) ∧ Below w.heap.size w w' := by
  by_cases h4 : 4 < t.sp.length
  · have hd : decide (4 < (t.sp.length : Int)) = true := by simp; omega
    rw [tok_long h4]
    go_enter Tryz.func92, Tryz.ntmps92
    go_wp2
    go_quiet (fail)
    go_wp2
    go_ret
    exact ⟨rfl, below_box⟩
  have hd : decide (4 < (t.sp.length : Int)) = false := by simp; omega
  have hpw := pow_d t.sp.length (by omega)
  by_cases h2 : t.lv.length = 2 ^ t.sp.length
  · have hne : ((t.lv.length : Int) != wrap64 (2 ^ t.sp.length)) = false := by rw [hpw, h2]; simp
    have H2 : Hid (t.lv.length = 2 ^ t.sp.length) := h2
    clear hpw h2
    go_enter Tryz.func92, Tryz.ntmps92
    go_wp2
    go_quiet (fail)
    go_wp2
    have hB0 : Below w.heap.size w ((w.alloc (.cells #[.slice a t.sp.length c, .slice a' t.lv.length c'] 93)).drewN nq) := below_box
    have bx : Box2 ((w.alloc (.cells #[.slice a t.sp.length c, .slice a' t.lv.length c'] 93)).drewN nq) w.heap.size _ _ := (box2_new w (.slice a t.sp.length c) (.slice a' t.lv.length c') 93).drewN nq
    have hp := hp.below hB0
    have hx := hx.below hB0
    obtain ⟨W, hW⟩ : ∃ W, (w.alloc (.cells #[.slice a t.sp.length c, .slice a' t.lv.length c'] 93)).drewN nq = W := ⟨_, rfl⟩
    rw [hW] at hB0 bx hp hx ⊢
    clear hW
    go_loopw [22] (fun i wr => ∃ k : Nat, k ≤ t.sp.length ∧ i = .int .i64 k ∧ (∀ j (hj : j < t.sp.length), j < k → spok t.sp[j] = true) ∧ Below W.heap.size W wr) (fun i _ => t.sp.length - (intOf i).toNat)
    case atStart => exact ⟨0, Nat.zero_le _, rfl, fun j hj h => by omega, Below.refl _ _⟩
    case round =>
      obtain ⟨k, hk, rfl, hn, hB⟩ := hrel
      have HN : Hid (∀ j (hj : j < t.sp.length), j < k → spok t.sp[j] = true) := hn
      clear hn
      have hbw := hB0.trans (hB.mono hB0.size)
      by_cases hlt : k < t.sp.length
      · rcases hp.below hB with h0 | ⟨b, off, rfl, hb, hc⟩
        · rw [h0] at hlt; simp at hlt
        obtain ⟨cy0, cy1⟩ := hc k hlt
        clear hc
        have hs := hbw.size
        have hs' := hB.size
        go_wp2_with fail
        refine (isplit _ _ _).mono ?_
        rintro e w2 ⟨rfl, hB2⟩
        have hB2 : Below W.heap.size W w2 := (hB.alloc hB.size _).trans (hB2.mono (by simp; omega))
        have hbw := hB0.trans (hB2.mono hB0.size)
        cases hv : spok t.sp[k] with
        | false =>
          have HR : Hid (tok t = false) := tok_bad hlt hv
          go_wp2
          go_ret
          exact ⟨ret_bool HR.out.symm, hbw⟩
        | true =>
          have HR : Hid (∀ j (hj : j < t.sp.length), j < k + 1 → spok t.sp[j] = true) := fun j hj h => by
            by_cases e : j = k
            · subst e; exact hv
            · exact HN.out j hj (by omega)
          go_wp2
          go_roundw
          case rel => exact ⟨k + 1, by omega, by go_num, HR.out, hB2⟩
          case measure => simp [intOf]; omega
      · have HS : Hid (∀ j (hj : j < t.sp.length), spok t.sp[j] = true) := fun j hj => HN.out j hj (by omega)
        obtain ⟨hbl, ⟨cx0, cx1⟩, _⟩ := bx.below hB
        clear HN
        go_wp2_with fail
        refine (iall _ _ _ t.lv (hx.below hB) (by omega)).mono ?_
        rintro e w2 ⟨rfl, hw⟩
        subst w2
        have HR : Hid (tok t = aok t.lv) := by
          show _ = _
          cases e : aok t.lv with
          | false => exact tok_leaf e
          | true => exact tok_all (by omega) H2.out HS.out e
        go_wp2
        go_ret
        exact ⟨ret_bool HR.out.symm, hbw⟩
  · have hne : ((t.lv.length : Int) != wrap64 (2 ^ t.sp.length)) = true := by rw [hpw]; exact bne_iff_ne.2 (fun e => h2 (Int.ofNat_inj.1 e))
    rw [tok_leaves h2]
    clear hpw h2
    go_enter Tryz.func92, Tryz.ntmps92
    go_wp2
    go_quiet (fail)
    go_wp2
    go_ret
    exact ⟨rfl, below_box⟩
end Go.Proofs.YtkfjlldlbknepaaGreat.Tw
/-
  LeafOf and Eval of the program and of the model.
-/
namespace Go.Proofs.YtkfjlldlbknepaaGreat.Tw
set_option linter.unusedVariables false
open Go.RowKit
open Go.Proofs.YtkfjlldlbknepaaGreat.Li (ret_bool ret_int below_none)
open Go.Proofs.YtkfjlldlbknepaaGreat.Tr Go.Proofs.YtkfjlldlbknepaaGreat.Tm Go.Proofs.YtkfjlldlbknepaaGreat.Bo Go.Proofs.YtkfjlldlbknepaaGreat.Bw

theorem or_fin : ∀ k : Fin 4, ∀ l : Fin 8, l.val < 2 ^ k.val → bits .or .i64 ((l.val : Nat) : Int) ((2 ^ k.val : Nat) : Int) = ((l.val + 2 ^ k.val : Nat) : Int) := by decide +kernel
theorem or_all (k l : Nat) (hk : k ≤ 3) (hl : l < 2 ^ k) : bits .or .i64 (l : Int) ((2 ^ k : Nat) : Int) = ((l + 2 ^ k : Nat) : Int) := by
  have h8 : 2 ^ k ≤ 2 ^ 3 := Nat.pow_le_pow_right (by decide) hk
  exact or_fin ⟨k, by omega⟩ ⟨l, by omega⟩ hl
theorem isl_pos {w : World} {a : Option Addr} {xs : List Int} {k : Nat} (h : Li.IsL w a xs) (hk : k < xs.length) : ∃ b off, a = some ⟨b, off, none⟩ ∧ b < w.heap.size ∧ ∀ j (hj : j < xs.length), w.cell? ⟨b, off + j, none⟩ = some (.int .i64 xs[j]) := by
  rcases h with h0 | h
  · rw [h0] at hk; simp at hk
  · exact h
set_option maxHeartbeats 2000000 in
theorem sleaf (w : World) (a a' ax : Option Addr) (c c' cx : Nat) (t : T) (x : List Int) (hp : IsP w a t.sp) (hx : Li.IsL w a' t.lv) (hy : Li.IsL w ax x) (hl : t.sp.length + t.lv.length ≤ 1048576) (hl' : x.length ≤ 1048576) :
    Calls Tryz.prog 125 #[.agg #[.slice a t.sp.length c, .slice a' t.lv.length c'], .slice ax x.length cx] w fun e w' => e = .returned (.int .i64 (leafOf t x)) ∧ Below w.heap.size w w' := by
  go_enter Tryz.func125, Tryz.ntmps125
  go_wp2_with fail
  obtain ⟨W, hW, hsz, hB, bx⟩ := boxes1 w (.slice a t.sp.length c) (.slice a' t.lv.length c') 93
  rw [hW]
  clear hW
  refine (stok _ _ _ _ _ t (hp.below hB) (hx.below hB) hl).mono ?_
  rintro e w1 ⟨rfl, hB1⟩
  have bx := bx.below hB1
  have hB := hB.trans (hB1.mono hB.size)
  clear hB1 hsz
  obtain ⟨hbl, ⟨cx0, cx1⟩, _⟩ := bx
  have hp := hp.below hB
  have hy := hy.below hB
  cases ht : tok t with
  | false =>
    have HR : Hid (leafOf t x = 0) := leafOf_no (askb_tok ht)
    go_wp2
    go_ret
    exact ⟨by rw [HR.out]; rfl, hB⟩
  | true =>
    by_cases h6 : x.length = 6
    · have h6' : ((x.length : Int) != 6) = false := by simp; omega
      have HR : Hid (leafOf t x = lf (yes t.sp x) t.sp.length) := leafOf_yes (askb_iff.2 ⟨ht, h6⟩)
      have H6 : Hid (x.length = 6) := h6
      have HT : Hid (tok t = true) := ht
      have h4 := (tok_iff.1 ht).1.1
      clear h6 ht
      go_wp2
      go_loopw [5, 6] (fun q i wr => ∃ k : Nat, k ≤ t.sp.length ∧ i = .int .i64 k ∧ q = .int .i64 (lf (yes t.sp x) k) ∧ ∃ n, wr = w1.drewN n) (fun _ i _ => t.sp.length - (intOf i).toNat)
      case atStart => exact ⟨0, Nat.zero_le _, rfl, rfl, 0, rfl⟩
      case round =>
        obtain ⟨k, hk, rfl, rfl, n, hw⟩ := hrel
        have HW : Hid (wr = w1.drewN n) := hw
        have hBr : Below w.heap.size w wr := by rw [hw]; exact hB.trans ((below_drewN' _ _).mono hB.size)
        have cx0 : wr.cell? ⟨w.heap.size, 0, none⟩ = some (.slice a t.sp.length c) := by rw [hw]; exact cx0
        have hbl : w.heap.size < wr.heap.size := by rw [hw]; exact hbl
        have hp : IsP wr a t.sp := by rw [hw]; exact hp.drewN n
        have hy : Li.IsL wr ax x := by rw [hw]; exact hy.drewN n
        clear hw
        by_cases hlt : k < t.sp.length
        · rcases hp with h0 | ⟨b, off, rfl, hb, hc⟩
          · rw [h0] at hlt; simp at hlt
          rcases hy with h0 | ⟨yb, yo, rfl, hyb, hyc⟩
          · have := H6.out; rw [h0] at this; simp at this
          obtain ⟨cy0, cy1⟩ := hc k hlt
          have hF := (spok_iff.1 (tok_sp HT.out k hlt)).1
          have hFl : t.sp[k].1.toNat < x.length := by have := H6.out; omega
          have hcz := hyc t.sp[k].1.toNat hFl
          have HY : Hid (yes t.sp x k = decide (t.sp[k].2 < x[t.sp[k].1.toNat])) := yes_at hlt hFl
          have hl1 := lf_lt (yes t.sp x) k
          have hpk : 2 ^ k ≤ 8 := Nat.pow_le_pow_right (n := 2) (j := 3) (by decide) (by omega)
          have hL8 : lf (yes t.sp x) k ≤ 8 := Nat.le_trans (Nat.le_of_lt hl1) hpk
          have hpw := pow_d k (by omega)
          have HLy : yes t.sp x k = true → Hid (lf (yes t.sp x) (k + 1) = lf (yes t.sp x) k + 2 ^ k) := fun h => lf_yes h
          have HLn : yes t.sp x k = false → Hid (lf (yes t.sp x) (k + 1) = lf (yes t.sp x) k) := fun h => lf_no h
          obtain ⟨p, hp2⟩ : ∃ p, 2 ^ k = p := ⟨_, rfl⟩
          rw [hp2] at hpw hl1 hpk
          have hpv : Value.int .i64 (wrap64 (2 ^ k)) = .int .i64 (p : Int) := by rw [hpw]
          clear hpw
          obtain ⟨L, hL⟩ : ∃ L, lf (yes t.sp x) k = L := ⟨_, rfl⟩
          rw [hL] at hl1 hL8 ⊢
          obtain ⟨v, hv⟩ : ∃ v, x[t.sp[k].1.toNat] = v := ⟨_, rfl⟩
          rw [hv] at hcz HY
          obtain ⟨f, hf⟩ : ∃ f, t.sp[k].1 = f := ⟨_, rfl⟩
          obtain ⟨g, hg⟩ : ∃ g, t.sp[k].2 = g := ⟨_, rfl⟩
          rw [hf] at cy0 hF hcz hFl
          rw [hg] at cy1 HY
          have hF0 : 0 ≤ f := hF.1
          have hF1 : f < (x.length : Int) := by omega
          have HL : Hid (lf (yes t.sp x) k = L ∧ 2 ^ k = p) := ⟨hL, hp2⟩
          clear hc hyc hv hf hg hF hFl hp2 hL
          by_cases hgt : g < v
          · have HN : Hid (lf (yes t.sp x) (k + 1) = L + p) := by
              have h1 := (HLy (by rw [HY.out]; simpa using hgt)).out
              rw [HL.out.1, HL.out.2] at h1; exact h1
            clear HLy HLn
            go_wp2
            go_quiet (fail)
            go_wp2
            go_roundw
            case rel => exact ⟨k + 1, by omega, by go_num, by rw [HN.out]; go_num, _, by rw [HW.out, World.drewN_drewN]⟩
            case measure => simp [intOf]; omega
          · have HN : Hid (lf (yes t.sp x) (k + 1) = L) := by
              have h1 := (HLn (by rw [HY.out]; simpa using hgt)).out
              rw [HL.out.1] at h1; exact h1
            clear HLy HLn
            go_wp2
            go_quiet (fail)
            go_wp2
            go_roundw
            case rel => exact ⟨k + 1, by omega, by go_num, by rw [HN.out], _, by rw [HW.out, World.drewN_drewN]⟩
            case measure => simp [intOf]; omega
        · obtain rfl : k = t.sp.length := by omega
          go_wp2
          go_ret
          exact ⟨by rw [HR.out]; rfl, hBr⟩
    · have h6' : ((x.length : Int) != 6) = true := by simp; omega
      have HR : Hid (leafOf t x = 0) := leafOf_no (askb_len h6)
      clear h6
      go_wp2
      go_ret
      exact ⟨by rw [HR.out]; rfl, hB⟩
set_option maxHeartbeats 2000000 in
theorem seval (w : World) (a a' ax : Option Addr) (c c' cx : Nat) (t : T) (x : List Int) (hp : IsP w a t.sp) (hx : Li.IsL w a' t.lv) (hy : Li.IsL w ax x) (hl : t.sp.length + t.lv.length ≤ 1048576) (hl' : x.length ≤ 1048576) :
    Calls Tryz.prog 108 #[.agg #[.slice a t.sp.length c, .slice a' t.lv.length c'], .slice ax x.length cx] w fun e w' => e = .returned (.int .i64 (eval t x)) ∧ Below w.heap.size w w' := by
  go_enter Tryz.func108, Tryz.ntmps108
  go_wp2_with fail
  obtain ⟨W, hW, hsz, hB, bx⟩ := boxes1 w (.slice a t.sp.length c) (.slice a' t.lv.length c') 93
  rw [hW]
  clear hW
  refine (stok _ _ _ _ _ t (hp.below hB) (hx.below hB) hl).mono ?_
  rintro e w1 ⟨rfl, hB1⟩
  have bx := bx.below hB1
  have hB := hB.trans (hB1.mono hB.size)
  clear hB1 hsz
  have bx' := bx
  obtain ⟨hbl, ⟨cx0, cx1⟩, _⟩ := bx
  have hp := hp.below hB
  have hx := hx.below hB
  have hy := hy.below hB
  cases ht : tok t with
  | false =>
    have HR : Hid (eval t x = 0) := eval_no (askb_tok ht)
    go_wp2
    go_ret
    exact ⟨by rw [HR.out]; rfl, hB⟩
  | true =>
    by_cases h6 : x.length = 6
    · have h6' : ((x.length : Int) != 6) = false := by simp; omega
      have hle := leaf_le t x ht
      have HR : Hid (eval t x = t.lv[leafOf t x]'hle) := by
        show _ = _
        have ha := askb_iff.2 ⟨ht, h6⟩
        rw [eval_at ha]
        congr 1
        exact (leafOf_yes ha).symm
      clear h6 ht
      go_wp2
      go_region_with (go_at_call 125; refine (sleaf _ _ _ _ _ _ _ t x (by exact hp) (by exact hx) (by exact hy) hl hl').mono ?_; rintro e w2 ⟨rfl, hB2⟩; have bx2 := Box2.below (by exact bx') hB2; obtain ⟨hbl2, ⟨cz0, cz1⟩, _⟩ := bx2; have hx2 := Li.IsL.below (by exact hx) hB2; obtain ⟨b2, off2, e2, hb2, hc2⟩ := isl_pos hx2 hle; subst e2; have hcl := hc2 _ hle; clear hc2)
      all_goals go_wp2
      all_goals go_ret
      all_goals exact ⟨by rw [HR.out]; rfl, by first | exact hB.trans (hB2.mono hB.size) | exact (hB.trans (hB2.mono hB.size)).drew | exact hB.drew.trans (hB2.mono hB.size) | exact (hB.drew.trans (hB2.mono hB.size)).drew⟩
    · have h6' : ((x.length : Int) != 6) = true := by simp; omega
      have HR : Hid (eval t x = 0) := eval_no (askb_len h6)
      clear h6
      go_wp2
      go_ret
      exact ⟨by rw [HR.out]; rfl, hB⟩
set_option maxHeartbeats 1000000 in
theorem isays (w : World) (f g v : Int) (ax : Option Addr) (cx : Nat) (x : List Int) (hy : Li.IsL w ax x) (h0 : 0 ≤ f) (h1 : f.toNat < x.length) (hl : x.length ≤ 1048576) (hv : x[f.toNat] = v) :
    Calls Tryz.prog 131 #[.agg #[.int .i64 f, .int .i64 g], .slice ax x.length cx] w fun e w' => e = .returned (.bool (decide (g < v))) ∧ Below w.heap.size w w' := by
  obtain ⟨b, off, rfl, hb, hc⟩ := isl_pos hy h1
  have hcz := hc _ h1
  rw [hv] at hcz
  have h1' : f < (x.length : Int) := by omega
  clear hc hv h1
  go_enter Tryz.func131, Tryz.ntmps131
  go_wp2
  try go_quiet (fail)
  try go_wp2
  go_ret
  exact ⟨rfl, by first | exact below_box | exact (Below.refl _ _).alloc (Nat.le_refl _) _⟩
set_option maxHeartbeats 1000000 in
theorem iask (w : World) (a a' ax : Option Addr) (c c' cx : Nat) (t : T) (x : List Int) (hp : IsP w a t.sp) (hx : Li.IsL w a' t.lv) (hl : t.sp.length + t.lv.length ≤ 1048576) (hl' : x.length ≤ 1048576) :
    Calls Tryz.prog 118 #[.agg #[.slice a t.sp.length c, .slice a' t.lv.length c'], .slice ax x.length cx] w fun e w' => e = .returned (.bool (askb t x)) ∧ Below w.heap.size w w' := by
  have hB0 : Below w.heap.size w (w.alloc (.cells #[.slice a t.sp.length c, .slice a' t.lv.length c'] 93)) := (Below.refl _ _).alloc (Nat.le_refl _) _
  go_enter Tryz.func118, Tryz.ntmps118
  go_wp2_with fail
  refine (itok _ _ _ _ _ t (hp.below hB0) (hx.below hB0) hl).mono ?_
  rintro e w1 ⟨rfl, hB1⟩
  have hB := hB0.trans (hB1.mono hB0.size)
  clear hB1
  cases ht : tok t with
  | false =>
    have HR : Hid (askb t x = false) := askb_tok ht
    go_wp2
    go_ret
    exact ⟨by rw [HR.out]; rfl, hB⟩
  | true =>
    by_cases h6 : x.length = 6
    · have h6' : ((x.length : Int) == 6) = true := by simp; omega
      have HR : Hid (askb t x = true) := askb_iff.2 ⟨ht, h6⟩
      clear h6
      go_wp2
      go_ret
      exact ⟨by rw [HR.out]; rfl, hB⟩
    · have h6' : ((x.length : Int) == 6) = false := by simp; omega
      have HR : Hid (askb t x = false) := askb_len h6
      clear h6
      go_wp2
      go_ret
      exact ⟨by rw [HR.out]; rfl, hB⟩
set_option maxHeartbeats 2000000 in
theorem ileaf (w : World) (a a' ax : Option Addr) (c c' cx : Nat) (t : T) (x : List Int) (hp : IsP w a t.sp) (hx : Li.IsL w a' t.lv) (hy : Li.IsL w ax x) (hl : t.sp.length + t.lv.length ≤ 1048576) (hl' : x.length ≤ 1048576) :
    Calls Tryz.prog 119 #[.agg #[.slice a t.sp.length c, .slice a' t.lv.length c'], .slice ax x.length cx] w fun e w' => e = .returned (.int .i64 (leafOf t x)) ∧ Below w.heap.size w w' := by
  go_enter Tryz.func119, Tryz.ntmps119
  go_wp2_with fail
  obtain ⟨W, hW, hsz, hB, bx⟩ := boxes1 w (.slice a t.sp.length c) (.slice a' t.lv.length c') 93
  rw [hW]
  clear hW
  refine (iask _ _ _ _ _ _ _ t x (hp.below hB) (hx.below hB) hl hl').mono ?_
  rintro e w1 ⟨rfl, hB1⟩
  have bx := bx.below hB1
  have hB := hB.trans (hB1.mono hB.size)
  clear hB1 hsz
  obtain ⟨hbl, ⟨cx0, cx1⟩, _⟩ := bx
  have hp := hp.below hB
  have hy := hy.below hB
  cases ht : askb t x with
  | false =>
    have HR : Hid (leafOf t x = 0) := leafOf_no ht
    go_wp2
    go_ret
    exact ⟨by rw [HR.out]; rfl, hB⟩
  | true =>
    have HR : Hid (leafOf t x = lf (yes t.sp x) t.sp.length) := leafOf_yes ht
    have H6 : Hid (x.length = 6) := (askb_iff.1 ht).2
    have HT : Hid (tok t = true) := (askb_iff.1 ht).1
    have h4 := (tok_iff.1 (askb_iff.1 ht).1).1.1
    clear ht
    go_wp2
    go_loopw [5, 15] (fun q i wr => ∃ k : Nat, k ≤ t.sp.length ∧ i = .int .i64 k ∧ q = .int .i64 (lf (yes t.sp x) k) ∧ Below w1.heap.size w1 wr) (fun _ i _ => t.sp.length - (intOf i).toNat)
    case atStart => exact ⟨0, Nat.zero_le _, rfl, rfl, Below.refl _ _⟩
    case round =>
      obtain ⟨k, hk, rfl, rfl, hBr⟩ := hrel
      have hBw := hB.trans (hBr.mono hB.size)
      by_cases hlt : k < t.sp.length
      · rcases hp.below hBr with h0 | ⟨b, off, rfl, hb, hc⟩
        · rw [h0] at hlt; simp at hlt
        obtain ⟨cy0, cy1⟩ := hc k hlt
        have hF := (spok_iff.1 (tok_sp HT.out k hlt)).1
        have hFl : t.sp[k].1.toNat < x.length := by have := H6.out; omega
        have HY : Hid (yes t.sp x k = decide (t.sp[k].2 < x[t.sp[k].1.toNat])) := yes_at hlt hFl
        have hl1 := lf_lt (yes t.sp x) k
        have hpk : 2 ^ k ≤ 8 := Nat.pow_le_pow_right (n := 2) (j := 3) (by decide) (by omega)
        have hL8 : lf (yes t.sp x) k ≤ 8 := Nat.le_trans (Nat.le_of_lt hl1) hpk
        have hpw := pow_d k (by omega)
        have hor := or_all k (lf (yes t.sp x) k) (by omega) hl1
        have HLy : yes t.sp x k = true → Hid (lf (yes t.sp x) (k + 1) = lf (yes t.sp x) k + 2 ^ k) := fun h => lf_yes h
        have HLn : yes t.sp x k = false → Hid (lf (yes t.sp x) (k + 1) = lf (yes t.sp x) k) := fun h => lf_no h
        obtain ⟨p, hp2⟩ : ∃ p, 2 ^ k = p := ⟨_, rfl⟩
        rw [hp2] at hpw hl1 hpk hor
        have hpv : Value.int .i64 (wrap64 (2 ^ k)) = .int .i64 (p : Int) := by rw [hpw]
        clear hpw
        obtain ⟨L, hL⟩ : ∃ L, lf (yes t.sp x) k = L := ⟨_, rfl⟩
        rw [hL] at hl1 hL8 hor ⊢
        have HL : Hid (lf (yes t.sp x) k = L ∧ 2 ^ k = p) := ⟨hL, hp2⟩
        obtain ⟨v, hv⟩ : ∃ v, x[t.sp[k].1.toNat] = v := ⟨_, rfl⟩
        have HV : Hid (x[t.sp[k].1.toNat] = v) := hv
        rw [hv] at HY
        have hs := hBr.size
        have HF : Hid ((0 ≤ t.sp[k].1 ∧ t.sp[k].1 ≤ 5) ∧ t.sp[k].1.toNat < x.length) := ⟨hF, hFl⟩
        clear hc hF hp2 hL hv
        go_wp2_with fail
        refine (isays _ _ _ v _ _ x (hy.below (hBr.alloc hs _)) HF.out.1.1 hFl hl' HV.out).mono ?_
        rintro e w2 ⟨rfl, hB2⟩
        have hBr := (hBr.alloc hs _).trans (hB2.mono (by simp; omega))
        clear hB2 cy0 cy1 hs
        by_cases hgt : t.sp[k].2 < v
        · have HN : Hid (lf (yes t.sp x) (k + 1) = L + p) := by
            have h1 := (HLy (by rw [HY.out]; simpa using hgt)).out
            rw [HL.out.1, HL.out.2] at h1; exact h1
          clear HLy HLn
          go_wp2
          go_roundw
          case rel => exact ⟨k + 1, by omega, by go_num, by rw [HN.out]; go_num, hBr⟩
          case measure => simp [intOf]; omega
        · have HN : Hid (lf (yes t.sp x) (k + 1) = L) := by
            have h1 := (HLn (by rw [HY.out]; simpa using hgt)).out
            rw [HL.out.1] at h1; exact h1
          clear HLy HLn
          go_wp2
          go_roundw
          case rel => exact ⟨k + 1, by omega, by go_num, by rw [HN.out], hBr⟩
          case measure => simp [intOf]; omega
      · obtain rfl : k = t.sp.length := by omega
        go_wp2
        go_ret
        exact ⟨by rw [HR.out]; rfl, hBw⟩
set_option maxHeartbeats 2000000 in
theorem ieval (w : World) (a a' ax : Option Addr) (c c' cx : Nat) (t : T) (x : List Int) (hp : IsP w a t.sp) (hx : Li.IsL w a' t.lv) (hy : Li.IsL w ax x) (hl : t.sp.length + t.lv.length ≤ 1048576) (hl' : x.length ≤ 1048576) :
    Calls Tryz.prog 93 #[.agg #[.slice a t.sp.length c, .slice a' t.lv.length c'], .slice ax x.length cx] w fun e w' => e = .returned (.int .i64 (eval t x)) ∧ Below w.heap.size w w' := by
  go_enter Tryz.func93, Tryz.ntmps93
  go_wp2_with fail
  obtain ⟨W, hW, hsz, hB, bx⟩ := boxes1 w (.slice a t.sp.length c) (.slice a' t.lv.length c') 93
  rw [hW]
  clear hW
  refine (iask _ _ _ _ _ _ _ t x (hp.below hB) (hx.below hB) hl hl').mono ?_
  rintro e w1 ⟨rfl, hB1⟩
  have bx := bx.below hB1
  have hB := hB.trans (hB1.mono hB.size)
  clear hB1 hsz
  have bx' := bx
  obtain ⟨hbl, ⟨cx0, cx1⟩, _⟩ := bx
  have hp := hp.below hB
  have hx := hx.below hB
  have hy := hy.below hB
  cases ha : askb t x with
  | false =>
    have HR : Hid (eval t x = 0) := eval_no ha
    go_wp2
    go_ret
    exact ⟨by rw [HR.out]; rfl, hB⟩
  | true =>
    have hle := leaf_le t x (askb_iff.1 ha).1
    have HR : Hid (eval t x = t.lv[leafOf t x]'hle) := by
      show _ = _
      rw [eval_at ha]
      congr 1
      exact (leafOf_yes ha).symm
    clear ha
    go_wp2
    go_region_with (go_at_call 119; refine (ileaf _ _ _ _ _ _ _ t x (by exact hp) (by exact hx) (by exact hy) hl hl').mono ?_; rintro e w2 ⟨rfl, hB2⟩; have bx2 := Box2.below (by exact bx') hB2; obtain ⟨hbl2, ⟨cz0, cz1⟩, _⟩ := bx2; have hx2 := Li.IsL.below (by exact hx) hB2; obtain ⟨b2, off2, e2, hb2, hc2⟩ := isl_pos hx2 hle; subst e2; have hcl := hc2 _ hle; clear hc2)
    all_goals go_wp2
    all_goals go_ret
    all_goals exact ⟨by rw [HR.out]; rfl, by first | exact hB.trans (hB2.mono hB.size) | exact (hB.trans (hB2.mono hB.size)).drew | exact hB.drew.trans (hB2.mono hB.size) | exact (hB.drew.trans (hB2.mono hB.size)).drew⟩
end Go.Proofs.YtkfjlldlbknepaaGreat.Tw
/-
  Sums of fixed numbers, of the program and of the model.
-/
namespace Go.Proofs.YtkfjlldlbknepaaGreat.Ad
open Go.RowKit
open Go.Proofs.YtkfjlldlbknepaaGreat.Li (ret_int)

def clip (x : Int) : Int := if x < -1000000000 then -1000000000 else if 1000000000 < x then 1000000000 else x
theorem clip_bd (x : Int) : -1000000000 ≤ clip x ∧ clip x ≤ 1000000000 := by unfold clip; split <;> (try split) <;> omega
theorem clip_id (x : Int) (h : -1000000000 ≤ x) (h' : x ≤ 1000000000) : clip x = x := by unfold clip; rw [if_neg (by omega), if_neg (by omega)]
theorem clip_clip (x : Int) : clip (clip x) = clip x := clip_id _ (clip_bd x).1 (clip_bd x).2
def fadd (a b : Int) : Int := clip (clip a + clip b)
theorem fadd_zero (a : Int) : fadd a 0 = clip a := by
  unfold fadd
  rw [show clip 0 = 0 by decide, Int.add_zero, clip_clip]
theorem fadd_bd (a b : Int) : -1000000000 ≤ fadd a b ∧ fadd a b ≤ 1000000000 := clip_bd _
set_option maxHeartbeats 400000 in
theorem bounded_any (x : Int) (w : World) :
    Calls Tryz.prog 94 #[.int .i64 x] w fun e w' => e = .returned (.int .i64 (clip x)) ∧ w' = w := by
  go_enter Tryz.func94, Tryz.ntmps94
  go_wp2
  all_goals go_ret
  all_goals refine ⟨ret_int ?_, rfl⟩
  all_goals unfold clip; (repeat' split) <;> (try split at *) <;> omega
set_option maxHeartbeats 400000 in
theorem clip_any (x : Int) (w : World) :
    Calls Tryz.prog 52 #[.int .i64 x] w fun e w' => e = .returned (.int .i64 (clip x)) ∧ w' = w := by
  go_enter Tryz.func52, Tryz.ntmps52
  go_wp2
  all_goals go_ret
  all_goals refine ⟨ret_int ?_, rfl⟩
  all_goals unfold clip; (repeat' split) <;> (try split at *) <;> omega
set_option maxHeartbeats 400000 in
theorem plus_any (a b : Int) (w : World) :
    Calls Tryz.prog 115 #[.int .i64 a, .int .i64 b] w fun e w' => e = .returned (.int .i64 (fadd a b)) ∧ w' = w := by
  have ha := clip_bd a
  have hb := clip_bd b
  go_enter Tryz.func115, Tryz.ntmps115
  go_wp2_with (go_at_call 94; refine (bounded_any _ _).mono ?_; rintro e w' ⟨rfl, rfl⟩)
  go_ret
  exact ⟨rfl, rfl⟩
set_option maxHeartbeats 400000 in
theorem sadd_any (a b : Int) (w : World) :
    Calls Tryz.prog 107 #[.int .i64 a, .int .i64 b] w fun e w' => e = .returned (.int .i64 (fadd a b)) ∧ w' = w := by
  have ha := clip_bd a
  have hb := clip_bd b
  go_enter Tryz.func107, Tryz.ntmps107
  go_wp2_with (go_at_call 52; refine (clip_any _ _).mono ?_; rintro e w' ⟨rfl, rfl⟩)
  go_ret
  exact ⟨rfl, rfl⟩
set_option maxHeartbeats 400000 in
theorem iadd_any (a b : Int) (w : World) :
    Calls Tryz.prog 91 #[.int .i64 a, .int .i64 b] w fun e w' => e = .returned (.int .i64 (fadd a b)) ∧ w' = w := by
  go_enter Tryz.func91, Tryz.ntmps91
  go_wp2_with (go_at_call 115; refine (plus_any _ _ _).mono ?_; rintro e w' ⟨rfl, rfl⟩)
  go_ret
  exact ⟨rfl, rfl⟩
end Go.Proofs.YtkfjlldlbknepaaGreat.Ad
