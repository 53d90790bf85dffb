/-
  The columns of words of a table, as both texts hold them: a list of lists of texts; contracts of what makes them.
-/
import Derived.Test.YtkiddmbenepfjaaColsW
import Derived.Test.YtkiddmbenepfjaaPair
import Derived.Maps.AppendAt
import Derived.Deep.RegionLaw
import Derived.Deep.AppendLies
namespace Go.Proofs.Ytkiddmbenepfjaa.Wc
set_option maxRecDepth 20000
open Go.RowKit
open Go.Proofs.Ytkiddmbenepfjaa.Tb
open Go.Proofs.Ytkiddmbenepfjaa.Tk
open Go.Proofs.Ytkiddmbenepfjaa.Co
open Go.Proofs.Ytkiddmbenepfjaa.Wd (paired)
open Go.Proofs.Ytkiddmbenepfjaa.Li (below_none)
set_option linter.unusedVariables false

theorem row_below {w w1 : World} {base n : Nat} {T : TypeId} {v : Value} {vs : List Value} (h : w.ownsRow base T 1 v n vs) (hb : Below w.heap.size w w1) : w1.ownsRow base T 1 v n vs :=
  World.ownsRow.kept (row := none) h ⟨hb.os, hb.tape, hb.output, hb.size, fun k hk _ => hb.block k hk⟩ (by cases hv : v.ownBlock <;> simp)
theorem row_mono {w : World} {base base' n : Nat} {T : TypeId} {v : Value} {vs : List Value} (h : w.ownsRow base T 1 v n vs) (hb : base' ≤ base) : w.ownsRow base' T 1 v n vs := by
  refine ⟨h.1, ?_⟩
  rcases h.2 with h | ⟨g, cap, cur, e, hb', r⟩
  · exact .inl h
  · exact .inr ⟨g, cap, cur, e, by omega, r⟩
/-- A list that may be read, in a block from lo on, and in another block than B. -/
def El (w : World) (lo : Nat) (B : Option Nat) (u : Value) (xs : List ByteArray) : Prop := ∃ a cap, u = .slice a xs.length cap ∧ Ls.IsS w a xs ∧ ∀ ad, a = some ad → (lo ≤ ad.block ∧ ad.block < w.heap.size) ∧ some ad.block ≠ B
theorem El.grown {w w1 : World} {lo : Nat} {B B' : Option Nat} {u : Value} {xs : List ByteArray} (h : El w lo B u xs) (hg : w.grownBy w1 B) (hB : B' = B ∨ B' = some w.heap.size) : El w1 lo B' u xs := by
  obtain ⟨a, cap, e, hi, hb⟩ := h
  refine ⟨a, cap, e, hi.keptAt hg.size (fun x hx hl => hg.block _ hl (hb x hx).2), fun ad hd => ⟨⟨(hb ad hd).1.1, Nat.lt_of_lt_of_le (hb ad hd).1.2 hg.size⟩, ?_⟩⟩
  rcases hB with rfl | rfl
  · exact (hb ad hd).2
  · intro e'; injection e' with e'; have := (hb ad hd).1; omega
theorem El.below {w w1 : World} {lo : Nat} {B : Option Nat} {u : Value} {xs : List ByteArray} (h : El w lo B u xs) (hb : Below w.heap.size w w1) : El w1 lo B u xs := by
  obtain ⟨a, cap, e, hi, hd⟩ := h
  exact ⟨a, cap, e, hi.below hb, fun ad h => ⟨⟨(hd ad h).1.1, Nat.lt_of_lt_of_le (hd ad h).1.2 hb.size⟩, (hd ad h).2⟩⟩
theorem El.mono {w : World} {lo lo' : Nat} {B : Option Nat} {u : Value} {xs : List ByteArray} (h : El w lo B u xs) (hl : lo' ≤ lo) : El w lo' B u xs := by
  obtain ⟨a, cap, e, hi, hd⟩ := h
  exact ⟨a, cap, e, hi, fun ad h => ⟨⟨Nat.le_trans hl (hd ad h).1.1, (hd ad h).1.2⟩, (hd ad h).2⟩⟩
theorem el_own {w : World} {base lo : Nat} {u : Value} {xs : List ByteArray} {B : Option Nat} (h : Ls.Own w base u xs) (hB : ∀ k, B = some k → k < base) (hlo : lo ≤ base) : El w lo B u xs := by
  obtain ⟨a, cap, e, hi⟩ := h.iss
  refine ⟨a, cap, e, hi, fun ad hd => ?_⟩
  subst hd
  have := h.ge ad.block (by rw [e]; rfl)
  refine ⟨⟨by omega, this.2⟩, fun e' => ?_⟩
  have := hB _ e'.symm
  omega
/-- Lists of texts, one behind the other, in a block of their own. -/
structure OC (T : TypeId) (w : World) (base : Nat) (v : Value) (cs : List (List ByteArray)) : Prop where
  ex : ∃ vs : List Value, vs.length = cs.length ∧ w.ownsRow base T 1 v cs.length vs ∧ ∀ j (h : j < cs.length) (h' : j < vs.length), El w base v.ownBlock vs[j] cs[j]
variable {T : TypeId} {w w1 : World} {base : Nat} {v : Value} {cs : List (List ByteArray)}
theorem OC.below (h : OC T w base v cs) (hb : Below w.heap.size w w1) : OC T w1 base v cs := by
  obtain ⟨vs, hl, ho, he⟩ := h.ex
  exact ⟨vs, hl, row_below ho hb, fun j h h' => (he j h h').below hb⟩
theorem OC.mono {base' : Nat} (h : OC T w base v cs) (hb : base' ≤ base) : OC T w base' v cs := by
  obtain ⟨vs, hl, ho, he⟩ := h.ex
  exact ⟨vs, hl, row_mono ho hb, fun j h h' => (he j h h').mono hb⟩
theorem OC.nil (T : TypeId) (w : World) (base : Nat) : OC T w base (.slice none 0 0) [] := ⟨[], rfl, World.ownsRow_nil _ _ _ _, fun j h => by simp at h⟩
theorem OC.lt (h : OC T w base v cs) : ∀ k, v.ownBlock = some k → base ≤ k ∧ k < w.heap.size := by
  obtain ⟨vs, hl, ho, he⟩ := h.ex
  exact World.ownsRow.lt ho
theorem oc_snoc {v5 u : Value} {xs : List ByteArray} {vs : List Value} (hl : vs.length = cs.length) (he : ∀ j (h : j < cs.length) (h' : j < vs.length), El w base v.ownBlock vs[j] cs[j]) (hu : El w base v.ownBlock u xs)
    (ho : w1.ownsRow base T 1 v5 (cs.length + 1) (vs ++ [u])) (hg : w.grownBy w1 v.ownBlock) (hloc : v5.ownBlock = v.ownBlock ∨ v5.ownBlock = some w.heap.size) : OC T w1 base v5 (cs ++ [xs]) := by
  refine ⟨vs ++ [u], by simp [hl], by simpa using ho, fun j h h' => ?_⟩
  by_cases hj : j < cs.length
  · rw [List.getElem_append_left (by omega), List.getElem_append_left hj]
    exact (he j hj (by omega)).grown hg hloc
  · have e1 : j = cs.length := by simp at h; omega
    subst e1
    rw [List.getElem_append_right (by omega), List.getElem_append_right (by omega)]
    simp only [hl, Nat.sub_self, List.getElem_cons_zero]
    exact hu.grown hg hloc
/-- What is read of them. -/
def IsC (w : World) (a : Option Addr) (cs : List (List ByteArray)) : Prop :=
  cs = [] ∨ ∃ b off, a = some ⟨b, off, none⟩ ∧ b < w.heap.size ∧ ∀ j (hj : j < cs.length), ∃ a' c', w.cell? ⟨b, off + j, none⟩ = some (.slice a' cs[j].length c') ∧ Ls.IsS w a' cs[j]
theorem IsC.below {a : Option Addr} (h : IsC w a cs) (hB : Below w.heap.size w w1) : IsC w1 a cs := by
  rcases h with h | ⟨b, off, rfl, hb, hc⟩
  · exact .inl h
  · refine .inr ⟨b, off, rfl, Nat.lt_of_lt_of_le hb hB.size, fun j hj => ?_⟩
    obtain ⟨a', c', hx, hi⟩ := hc j hj
    exact ⟨a', c', (hB.cell (by exact hb)).trans hx, hi.below hB⟩
theorem OC.isc (h : OC T w base v cs) : ∃ a cap, v = .slice a cs.length cap ∧ IsC w a cs := by
  obtain ⟨vs, hl, ho, he⟩ := h.ex
  have h' := ho
  rcases ho.2 with ⟨rfl, h0⟩ | ⟨g, cap, cur, rfl, hb, hh, _⟩
  · obtain rfl := List.length_eq_zero_iff.1 h0
    exact ⟨none, 0, rfl, .inl rfl⟩
  · refine ⟨_, cap, rfl, .inr ⟨g, 0, rfl, (Array.getElem?_eq_some_iff.1 hh).1, fun j hj => ?_⟩⟩
    obtain ⟨a, c, e, hi, _⟩ := he j hj (by omega)
    refine ⟨a, c, ?_, hi⟩
    rw [Nat.zero_add, World.ownsRow.cellAt h' j (by omega), List.getElem?_eq_getElem (by omega), e]
/-- What is read of them, in blocks from lo on. -/
def IsCb (w : World) (lo : Nat) (a : Option Addr) (cs : List (List ByteArray)) : Prop :=
  cs = [] ∨ ∃ b off, a = some ⟨b, off, none⟩ ∧ (lo ≤ b ∧ b < w.heap.size) ∧ ∀ j (hj : j < cs.length), ∃ a' c', w.cell? ⟨b, off + j, none⟩ = some (.slice a' cs[j].length c') ∧ Ls.IsS w a' cs[j] ∧ ∀ ad, a' = some ad → lo ≤ ad.block ∧ ad.block < w.heap.size
theorem IsCb.same {lo : Nat} {a : Option Addr} (h : IsCb w lo a cs) (hs : w.heap.size ≤ w1.heap.size) (hk : ∀ y, lo ≤ y → y < w.heap.size → w1.heap[y]? = w.heap[y]?) : IsCb w1 lo a cs := by
  rcases h with h | ⟨b, off, rfl, hb, hc⟩
  · exact .inl h
  · refine .inr ⟨b, off, rfl, ⟨hb.1, by omega⟩, fun j hj => ?_⟩
    obtain ⟨a', c', hx, hi, hd⟩ := hc j hj
    refine ⟨a', c', ?_, hi.keptAt hs (fun x hx hl => hk _ (hd x hx).1 hl), fun ad h => ⟨(hd ad h).1, by have := (hd ad h).2; omega⟩⟩
    rw [World.cell?_of_block (w := w) (a := ⟨b, off + j, none⟩) (hk b hb.1 hb.2)]; exact hx
theorem OC.iscb (h : OC T w base v cs) : ∃ a cap, v = .slice a cs.length cap ∧ IsCb w base a cs := by
  obtain ⟨vs, hl, ho, he⟩ := h.ex
  have h' := ho
  rcases ho.2 with ⟨rfl, h0⟩ | ⟨g, cap, cur, rfl, hb, hh, _⟩
  · obtain rfl := List.length_eq_zero_iff.1 h0
    exact ⟨none, 0, rfl, .inl rfl⟩
  · refine ⟨_, cap, rfl, .inr ⟨g, 0, rfl, ⟨hb, (Array.getElem?_eq_some_iff.1 hh).1⟩, fun j hj => ?_⟩⟩
    obtain ⟨a, c, e, hi, hd⟩ := he j hj (by omega)
    refine ⟨a, c, ?_, hi, fun ad h => (hd ad h).1⟩
    rw [Nat.zero_add, World.ownsRow.cellAt h' j (by omega), List.getElem?_eq_getElem (by omega), e]
/-- The columns of words: each of the words, and where they are two, both together. -/
def cats (k : Nat) (rs : List Row) : List (List ByteArray) := (List.range k).map (cat rs)
def wcols (c : Int) (rs : List Row) : List (List ByteArray) := if c = 2 then cats 2 rs ++ [paired (cat rs 0) (cat rs 1)] else cats c.toNat rs
theorem cats_length (k : Nat) (rs : List Row) : (cats k rs).length = k := by simp [cats]
theorem cats_snoc (k : Nat) (rs : List Row) : cats (k + 1) rs = cats k rs ++ [cat rs k] := by simp [cats, List.range_succ]
theorem cats_get (k : Nat) (rs : List Row) (j : Nat) (h : j < (cats k rs).length) : (cats k rs)[j] = cat rs j := by simp [cats]
theorem tok_c {n c : Int} {rs : List Row} (h : tok n c rs = true) : (0 ≤ n ∧ n ≤ 3) ∧ (0 ≤ c ∧ c ≤ 2) ∧ rs.length ≤ 40 := by
  obtain ⟨h1, h2, _⟩ := tok_iff.1 h
  have : (0 ≤ n ∧ n ≤ 3) ∧ (0 ≤ c ∧ c ≤ 2) := by simpa [sok] using h1
  exact ⟨this.1, this.2, h2⟩
theorem words_yes {n c : Int} {rs : List Row} (h : tok n c rs = true) (k : Nat) (hk : (k : Int) < c) : words n c rs k = cat rs k := by
  unfold words
  rw [if_pos ⟨h, by omega, hk⟩]
  simp
theorem tok_word {n c : Int} {rs : List Row} (h : tok n c rs = true) (p j : Nat) (hp : (p : Int) < c) (hj : j < (cat rs p).length) : (cat rs p)[j].size ≤ 12 := by
  have hj' : j < rs.length := by simpa [cat] using hj
  have hc := (tok_nums h j hj').2
  have hp' : p < rs[j].cats.length := by omega
  rw [cat_get rs p j hj' hp']
  have h2 := (tok_iff.1 h).2.2
  have h3 := rok_iff.1 (List.all_eq_true.1 h2 _ (List.getElem_mem hj'))
  have h4 : cok rs[j].cats = true := h3.2.2.2.2.1
  have h5 := List.all_eq_true.1 h4 _ (List.getElem_mem hp')
  unfold wok wlen at h5
  simp at h5
  exact h5.1.2
theorem info_strs : (Try.prog.info? 39).map (fun i => (i.zero, i.size, i.bytes)) = some (some (.slice none 0 0), 1, 24) := by kernel_rfl
theorem one_cell (w : World) (T : TypeId) (x : Value) : ∀ j u, ([x] : List Value)[j]? = some u → (w.alloc (.cells #[x] T)).cell? ((⟨w.heap.size, 0, none⟩ : Addr).add j) = some u := by
  intro j u hj
  match j, hj with
  | 0, hj => simp at hj; subst hj; simp [Addr.add]
theorem one_at {w : World} {T : TypeId} {x : Value} {H : Nat} (h : w.heap.size = H) : ∀ j u, ([x] : List Value)[j]? = some u → (w.alloc (.cells #[x] T)).cell? ((⟨H, 0, none⟩ : Addr).add j) = some u := by
  subst h; exact one_cell w T x
theorem one_one {a : Option Addr} {n c : Nat} : ∀ u ∈ ([.slice a n c] : List Value), u.oneCell' = true := by
  intro u hu; simp at hu; subst hu; rfl
set_option maxHeartbeats 4000000 in
theorem iwc (w : World) (n c : Int) (a : Option Addr) (cap : Nat) (rs : List Row) (hx : IsR w a rs) (hl : rs.length + szR rs ≤ 1048576) (ht : tok n c rs = true) :
    Calls Try.prog 69 #[.agg #[.int .i64 n, .int .i64 c, .slice a rs.length cap]] w fun e w' => ∃ v, e = .returned v ∧ OC 39 w' w.heap.size v (wcols c rs) ∧ Below w.heap.size w w' := by
  obtain ⟨⟨n0, n3⟩, ⟨c0, c2⟩, h40⟩ := tok_c ht
  obtain ⟨cn, rfl⟩ : ∃ cn : Nat, c = (cn : Int) := ⟨c.toNat, by omega⟩
  have HT : Hid (tok n (cn : Int) rs = true) := ht
  have HW2 : Hid (∀ k, k < cn → words n (cn : Int) rs (k : Int) = cat rs k) := fun k hk => words_yes ht k (by omega)
  have HC : Hid (∀ p j (hj : j < (cat rs p).length), p < cn → (cat rs p)[j].size ≤ 12) := fun p j hj hp => tok_word ht p j (by omega) hj
  have HE : Hid (¬ cn = 2 → wcols (cn : Int) rs = cats cn rs) := fun h => by unfold wcols; rw [if_neg (by omega)]; simp
  have HE2 : Hid (cn = 2 → wcols (cn : Int) rs = cats 2 rs ++ [paired (cat rs 0) (cat rs 1)]) := fun h => by unfold wcols; rw [if_pos (by omega)]
  clear ht
  obtain ⟨i0, hi, hz0, hz1, hz2⟩ := info_parts info_strs
  go_enter Try.func69, Try.ntmps69
  obtain ⟨W, hW, hsz, hB, bx⟩ := box3_new' w (.int .i64 n) (.int .i64 (cn : Int)) (.slice a rs.length cap) 106
  have HW : Hid (w.alloc (.cells #[.int .i64 n, .int .i64 (cn : Int), .slice a rs.length cap] 106) = W) := hW
  clear hW
  go_wp2
  rw [HW.out]
  clear HW
  have hszW : w.heap.size < W.heap.size := by omega
  clear hsz
  go_loopw [3, 8] (fun v i wr => ∃ k : Nat, k ≤ cn ∧ i = .int .i64 k ∧ OC 39 wr W.heap.size v (cats k rs) ∧ Below W.heap.size W wr) (fun _ i _ => cn - (intOf i).toNat)
  case atStart => exact ⟨0, Nat.zero_le _, rfl, OC.nil _ _ _, Below.refl _ _⟩
  case round =>
    obtain ⟨k, hk, rfl, oc, hBr⟩ := hrel
    have bxr := bx.below hBr
    obtain ⟨hbx, ⟨cx0, cx1, cx2⟩, _⟩ := id bxr
    have hxr := (hx.below hB).below hBr
    have hsr := hBr.size
    by_cases hlt : k < cn
    · go_wp2_with fail
      refine (iwords _ _ _ _ _ rs _ hxr hl).mono ?_
      rintro e w1 ⟨u, rfl, ou, hb⟩
      rw [HW2.out k hlt] at ou
      have oc1 := oc.below hb
      have hul := el_own (B := u3.ownBlock) (lo := W.heap.size) ou (fun j hj => (oc.lt j hj).2) hsr
      have hBr := hBr.trans (hb.mono hBr.size)
      have hs1 := hBr.size
      clear hb cx0 cx1 cx2 bxr hxr hbx oc
      obtain ⟨vs, hvl, ho, he⟩ := oc1.ex
      have hcl := cats_length k rs
      obtain ⟨ua, uc, rfl, _⟩ := id hul
      have hBa : Below w1.heap.size w1 (w1.alloc (.cells #[.slice ua (cat rs k).length uc] 39)) := (Below.refl _ _).alloc (Nat.le_refl _) _
      have HCL : Hid ((cats k rs).length = k) := hcl
      have hcl3 : (cats k rs).length ≤ 2 := by omega
      clear hcl
      go_wp2_with (at_builtin; refine wpList_append_own_at _ rfl _ _ 102 rfl W.heap.size 39 i0 (.slice none 0 0) 1 24 Try.underlying102 hi hz0 hz1 hz2 rfl (by decide) _ _ _ rfl (row_below ho hBa) ⟨w1.heap.size, 0, none⟩ 1 1 [.slice ua (cat rs k).length uc] rfl rfl (one_cell _ _ _) one_one (by unfold maxLen; omega) (by omega) (by simp; omega) ?_; intro v3 w3 hown3 hgrow3 hnn3 hloc3)
      have oc3 := oc_snoc hvl (fun j h h' => (he j h h').below hBa) (hul.below hBa) hown3 hgrow3 hloc3
      rw [← cats_snoc] at oc3
      have hB3 : Below W.heap.size W w3 := hBr.trans (by
        have hh : Below W.heap.size (w1.alloc (.cells #[.slice ua (cat rs k).length uc] 39)) w3 := ⟨hgrow3.os, hgrow3.tape, hgrow3.output, hgrow3.size, fun q hq => hgrow3.block q (by simp; omega) (fun e => by have := (oc1.lt q e.symm).1; omega)⟩
        exact (hBa.mono hs1).trans hh)
      clear hown3 hgrow3 hnn3 hloc3 hBa ho he hul oc1 hBr ou
      go_wp2
      go_roundw
      case rel => exact ⟨k + 1, by omega, by go_num, oc3, hB3⟩
      case measure => simp [intOf]; omega
    · obtain rfl : k = cn := by omega
      obtain ⟨av, cv, rfl, ic⟩ := oc.isc
      have hcl := cats_length k rs
      by_cases h2 : k = 2
      rotate_left
      · have hne : (((cats k rs).length : Int) == 2) = false := by rw [beq_eq_false_iff_ne, hcl]; omega
        have HR : Hid (wcols (k : Int) rs = cats k rs) := HE.out h2
        clear hcl h2
        go_wp2
        go_ret
        exact ⟨_, rfl, by rw [HR.out]; exact oc.mono (by omega), hB.trans (hBr.mono hB.size)⟩
      · subst h2
        have hne : (((cats 2 rs).length : Int) == 2) = true := by rw [beq_iff_eq, hcl]; rfl
        have HR : Hid (wcols ((2 : Nat) : Int) rs = cats 2 rs ++ [paired (cat rs 0) (cat rs 1)]) := HE2.out rfl
        have HCL : Hid ((cats 2 rs).length = 2) := hcl
        rcases ic with h0 | ⟨cb, co, rfl, hcb, hcc⟩
        · rw [h0] at hcl; simp at hcl
        obtain ⟨a0, q0, d0, i_0⟩ := hcc 0 (by omega)
        obtain ⟨a1, q1, d1, i_1⟩ := hcc 1 (by omega)
        rw [cats_get] at d0 d1 i_0 i_1
        rw [Nat.add_zero] at d0
        have hlt2 : (0 : Int) < ((cats 2 rs).length : Int) := by omega
        have hlt3 : (1 : Int) < ((cats 2 rs).length : Int) := by omega
        have hln2 : 0 < (cats 2 rs).length := by omega
        have hln3 : 1 < (cats 2 rs).length := by omega
        have hz0' : ∀ j (h : j < (cat rs 0).length), (cat rs 0)[j].size ≤ 1048576 := fun j h => by have := HC.out 0 j h (by omega); omega
        have hz1' : ∀ j (h : j < (cat rs 1).length), (cat rs 1)[j].size ≤ 1048576 := fun j h => by have := HC.out 1 j h (by omega); omega
        have hl0 : (cat rs 0).length ≤ 1048576 := by rw [cat_length]; omega
        have hl1 : (cat rs 1).length ≤ 1048576 := by rw [cat_length]; omega
        have hcl3 : (cats 2 rs).length ≤ 2 := by omega
        clear hcl hcc
        go_wp2
        go_region_law (first
          | (refine step_append_lies _ rfl _ _ 102 rfl W.heap.size 39 i0 (.slice none 0 0) 1 24 Try.underlying102 hi hz0 hz1 hz2 rfl (by decide) _ (cats 2 rs).length vs rfl (by first | exact row_below ho ((Below.refl _ _).alloc (Nat.le_refl _) _) | exact row_below ho ((Below.refl _ _).drew.alloc (Nat.le_refl _) _)) _ 1 1 [.slice ua _ uc] rfl rfl (one_at (by first | rfl | simp)) one_one (by decide) (by unfold maxLen; omega) (by omega) (by simp; omega) _ rfl ?_
             intro g cap' w6 hown' hgrow hpos hglt
             have oc6 := oc_snoc hvl (fun j h h' => (he j h h').below ((Below.refl _ _).alloc (Nat.le_refl _) _)) (hul.below ((Below.refl _ _).alloc (Nat.le_refl _) _)) hown' hgrow (Or.elim hpos (fun e => .inl e.symm) (fun e => .inr (by rw [e]; rfl)))
             have hB6 : Below W.heap.size W w6 := hBp.trans (by
               have hh := (Below.refl w1.heap.size w1).alloc (Nat.le_refl _) (.cells #[.slice ua (paired (cat rs 0) (cat rs 1)).length uc] 39)
               exact (hh.mono hs1).trans ⟨hgrow.os, hgrow.tape, hgrow.output, hgrow.size, fun q hq => hgrow.block q (by simp; omega) (fun e => by have := (oc1.lt q e.symm).1; omega)⟩)
             clear hown' hgrow hpos hglt)
          | (go_simp
             go_wp2_with (go_at_call 88
                          refine (Pa.ipair _ _ _ _ _ (cat rs 0) (cat rs 1) (by exact i_0) (by exact i_1) hl0 hl1 hz0' hz1').mono ?_
                          rintro e w1 ⟨u, rfl, ou, hb⟩
                          have hb : Below wr.heap.size wr w1 := ((Below.refl wr.heap.size wr).drew).trans hb
                          have oc1 := oc.below hb
                          have hul := el_own (lo := W.heap.size) (B := (Value.slice (some ⟨cb, co, none⟩) (cats 2 rs).length cv).ownBlock) ou (fun j hj => (oc.lt j hj).2) hsr
                          have hBp := hBr.trans (hb.mono hBr.size)
                          have hs1 := hBp.size
                          obtain ⟨vs, hvl, ho, he⟩ := oc1.ex
                          obtain ⟨ua, uc, rfl, _⟩ := id hul
                          clear hb)))
        all_goals
          clear oc oc1 ho he hul
          go_wp2
          go_ret
          exact ⟨_, rfl, by rw [HR.out]; exact oc6.mono (by omega), hB.trans (hB6.mono hB.size)⟩
end Go.Proofs.Ytkiddmbenepfjaa.Wc
