/-
  Contracts that the proof leans on, put together in the order in which they build.
-/
import Derived.Test.YtifemdjookmboaaGreatDoorPart8
import Derived.Maps.AppendAt
import Derived.Deep.RegionLaw
import Derived.Deep.AppendLies
import Derived.Test.YtifemdjookmboaaGreatDoorPart5
import Derived.Test.YtifemdjookmboaaGreatDoorPart3
import Derived.Deep.RegionWith
import Derived.Test.YtifemdjookmboaaGreatDoorPart6
import Derived.Test.YtifemdjookmboaaGreatDoorPart2
import Derived.Test.YtifemdjookmboaaGreatDoorPart7
import Derived.ProofKit
import Derived.ChangeSame
import Derived.Deep.Strs
import Derived.Deep.Slices
import Derived.ChangeMaps5
/-
  The columns of words of a table, as both texts hold them: a list of lists of texts; contracts of what makes them.
-/
namespace Go.Proofs.YtifemdjookmboaaGreatDoor.Wc
set_option maxRecDepth 20000
open Go.RowKit
open Go.Proofs.YtifemdjookmboaaGreatDoor.Tb
open Go.Proofs.YtifemdjookmboaaGreatDoor.Tk
open Go.Proofs.YtifemdjookmboaaGreatDoor.Co
open Go.Proofs.YtifemdjookmboaaGreatDoor.Wd (paired)
open Go.Proofs.YtifemdjookmboaaGreatDoor.Li (below_none)
set_option linter.unusedVariables false

theorem row_below {w w1 : World} {base n : Nat} {T : TypeId} {v : Value} {vs : List Value} (h : w.ownsRow base T 1 v n vs) (hb : Below w.heap.size w w1) : w1.ownsRow base T 1 v n vs :=
  World.ownsRow.kept (row := none) h ⟨hb.os, hb.tape, hb.output, hb.size, fun k hk _ => hb.block k hk⟩ (by cases hv : v.ownBlock <;> simp)
theorem row_mono {w : World} {base base' n : Nat} {T : TypeId} {v : Value} {vs : List Value} (h : w.ownsRow base T 1 v n vs) (hb : base' ≤ base) : w.ownsRow base' T 1 v n vs := by
  refine ⟨h.1, ?_⟩
  rcases h.2 with h | ⟨g, cap, cur, e, hb', r⟩
  · exact .inl h
  · exact .inr ⟨g, cap, cur, e, by omega, r⟩
/-- A list that may be read, in a block from lo on, and in another block than B. -/
def El (w : World) (lo : Nat) (B : Option Nat) (u : Value) (xs : List ByteArray) : Prop := ∃ a cap, u = .slice a xs.length cap ∧ Ls.IsS w a xs ∧ ∀ ad, a = some ad → (lo ≤ ad.block ∧ ad.block < w.heap.size) ∧ some ad.block ≠ B
theorem El.grown {w w1 : World} {lo : Nat} {B B' : Option Nat} {u : Value} {xs : List ByteArray} (h : El w lo B u xs) (hg : w.grownBy w1 B) (hB : B' = B ∨ B' = some w.heap.size) : El w1 lo B' u xs := by
  obtain ⟨a, cap, e, hi, hb⟩ := h
  refine ⟨a, cap, e, hi.keptAt hg.size (fun x hx hl => hg.block _ hl (hb x hx).2), fun ad hd => ⟨⟨(hb ad hd).1.1, Nat.lt_of_lt_of_le (hb ad hd).1.2 hg.size⟩, ?_⟩⟩
  rcases hB with rfl | rfl
  · exact (hb ad hd).2
  · intro e'; injection e' with e'; have := (hb ad hd).1; omega
theorem El.below {w w1 : World} {lo : Nat} {B : Option Nat} {u : Value} {xs : List ByteArray} (h : El w lo B u xs) (hb : Below w.heap.size w w1) : El w1 lo B u xs := by
  obtain ⟨a, cap, e, hi, hd⟩ := h
  exact ⟨a, cap, e, hi.below hb, fun ad h => ⟨⟨(hd ad h).1.1, Nat.lt_of_lt_of_le (hd ad h).1.2 hb.size⟩, (hd ad h).2⟩⟩
theorem El.mono {w : World} {lo lo' : Nat} {B : Option Nat} {u : Value} {xs : List ByteArray} (h : El w lo B u xs) (hl : lo' ≤ lo) : El w lo' B u xs := by
  obtain ⟨a, cap, e, hi, hd⟩ := h
  exact ⟨a, cap, e, hi, fun ad h => ⟨⟨Nat.le_trans hl (hd ad h).1.1, (hd ad h).1.2⟩, (hd ad h).2⟩⟩
theorem el_own {w : World} {base lo : Nat} {u : Value} {xs : List ByteArray} {B : Option Nat} (h : Ls.Own w base u xs) (hB : ∀ k, B = some k → k < base) (hlo : lo ≤ base) : El w lo B u xs := by
  obtain ⟨a, cap, e, hi⟩ := h.iss
  refine ⟨a, cap, e, hi, fun ad hd => ?_⟩
  subst hd
  have := h.ge ad.block (by rw [e]; rfl)
  refine ⟨⟨by omega, this.2⟩, fun e' => ?_⟩
  have := hB _ e'.symm
  omega
/-- Lists of texts, one behind the other, in a block of their own. -/
structure OC (T : TypeId) (w : World) (base : Nat) (v : Value) (cs : List (List ByteArray)) : Prop where
  ex : ∃ vs : List Value, vs.length = cs.length ∧ w.ownsRow base T 1 v cs.length vs ∧ ∀ j (h : j < cs.length) (h' : j < vs.length), El w base v.ownBlock vs[j] cs[j]
variable {T : TypeId} {w w1 : World} {base : Nat} {v : Value} {cs : List (List ByteArray)}
theorem OC.below (h : OC T w base v cs) (hb : Below w.heap.size w w1) : OC T w1 base v cs := by
  obtain ⟨vs, hl, ho, he⟩ := h.ex
  exact ⟨vs, hl, row_below ho hb, fun j h h' => (he j h h').below hb⟩
theorem OC.mono {base' : Nat} (h : OC T w base v cs) (hb : base' ≤ base) : OC T w base' v cs := by
  obtain ⟨vs, hl, ho, he⟩ := h.ex
  exact ⟨vs, hl, row_mono ho hb, fun j h h' => (he j h h').mono hb⟩
theorem OC.nil (T : TypeId) (w : World) (base : Nat) : OC T w base (.slice none 0 0) [] := ⟨[], rfl, World.ownsRow_nil _ _ _ _, fun j h => by simp at h⟩
theorem OC.lt (h : OC T w base v cs) : ∀ k, v.ownBlock = some k → base ≤ k ∧ k < w.heap.size := by
  obtain ⟨vs, hl, ho, he⟩ := h.ex
  exact World.ownsRow.lt ho
theorem oc_snoc {v5 u : Value} {xs : List ByteArray} {vs : List Value} (hl : vs.length = cs.length) (he : ∀ j (h : j < cs.length) (h' : j < vs.length), El w base v.ownBlock vs[j] cs[j]) (hu : El w base v.ownBlock u xs)
    (ho : w1.ownsRow base T 1 v5 (cs.length + 1) (vs ++ [u])) (hg : w.grownBy w1 v.ownBlock) (hloc : v5.ownBlock = v.ownBlock ∨ v5.ownBlock = some w.heap.size) : OC T w1 base v5 (cs ++ [xs]) := by
  refine ⟨vs ++ [u], by simp [hl], by simpa using ho, fun j h h' => ?_⟩
  by_cases hj : j < cs.length
  · rw [List.getElem_append_left (by omega), List.getElem_append_left hj]
    exact (he j hj (by omega)).grown hg hloc
  · have e1 : j = cs.length := by simp at h; omega
    subst e1
    rw [List.getElem_append_right (by omega), List.getElem_append_right (by omega)]
    simp only [hl, Nat.sub_self, List.getElem_cons_zero]
    exact hu.grown hg hloc
/-- What is read of them. -/
def IsC (w : World) (a : Option Addr) (cs : List (List ByteArray)) : Prop :=
  cs = [] ∨ ∃ b off, a = some ⟨b, off, none⟩ ∧ b < w.heap.size ∧ ∀ j (hj : j < cs.length), ∃ a' c', w.cell? ⟨b, off + j, none⟩ = some (.slice a' cs[j].length c') ∧ Ls.IsS w a' cs[j]
theorem IsC.below {a : Option Addr} (h : IsC w a cs) (hB : Below w.heap.size w w1) : IsC w1 a cs := by
  rcases h with h | ⟨b, off, rfl, hb, hc⟩
  · exact .inl h
  · refine .inr ⟨b, off, rfl, Nat.lt_of_lt_of_le hb hB.size, fun j hj => ?_⟩
    obtain ⟨a', c', hx, hi⟩ := hc j hj
    exact ⟨a', c', (hB.cell (by exact hb)).trans hx, hi.below hB⟩
theorem OC.isc (h : OC T w base v cs) : ∃ a cap, v = .slice a cs.length cap ∧ IsC w a cs := by
  obtain ⟨vs, hl, ho, he⟩ := h.ex
  have h' := ho
  rcases ho.2 with ⟨rfl, h0⟩ | ⟨g, cap, cur, rfl, hb, hh, _⟩
  · obtain rfl := List.length_eq_zero_iff.1 h0
    exact ⟨none, 0, rfl, .inl rfl⟩
  · refine ⟨_, cap, rfl, .inr ⟨g, 0, rfl, (Array.getElem?_eq_some_iff.1 hh).1, fun j hj => ?_⟩⟩
    obtain ⟨a, c, e, hi, _⟩ := he j hj (by omega)
    refine ⟨a, c, ?_, hi⟩
    rw [Nat.zero_add, World.ownsRow.cellAt h' j (by omega), List.getElem?_eq_getElem (by omega), e]
/-- What is read of them, in blocks from lo on. -/
def IsCb (w : World) (lo : Nat) (a : Option Addr) (cs : List (List ByteArray)) : Prop :=
  cs = [] ∨ ∃ b off, a = some ⟨b, off, none⟩ ∧ (lo ≤ b ∧ b < w.heap.size) ∧ ∀ j (hj : j < cs.length), ∃ a' c', w.cell? ⟨b, off + j, none⟩ = some (.slice a' cs[j].length c') ∧ Ls.IsS w a' cs[j] ∧ ∀ ad, a' = some ad → lo ≤ ad.block ∧ ad.block < w.heap.size
theorem IsCb.same {lo : Nat} {a : Option Addr} (h : IsCb w lo a cs) (hs : w.heap.size ≤ w1.heap.size) (hk : ∀ y, lo ≤ y → y < w.heap.size → w1.heap[y]? = w.heap[y]?) : IsCb w1 lo a cs := by
  rcases h with h | ⟨b, off, rfl, hb, hc⟩
  · exact .inl h
  · refine .inr ⟨b, off, rfl, ⟨hb.1, by omega⟩, fun j hj => ?_⟩
    obtain ⟨a', c', hx, hi, hd⟩ := hc j hj
    refine ⟨a', c', ?_, hi.keptAt hs (fun x hx hl => hk _ (hd x hx).1 hl), fun ad h => ⟨(hd ad h).1, by have := (hd ad h).2; omega⟩⟩
    rw [World.cell?_of_block (w := w) (a := ⟨b, off + j, none⟩) (hk b hb.1 hb.2)]; exact hx
theorem OC.iscb (h : OC T w base v cs) : ∃ a cap, v = .slice a cs.length cap ∧ IsCb w base a cs := by
  obtain ⟨vs, hl, ho, he⟩ := h.ex
  have h' := ho
  rcases ho.2 with ⟨rfl, h0⟩ | ⟨g, cap, cur, rfl, hb, hh, _⟩
  · obtain rfl := List.length_eq_zero_iff.1 h0
    exact ⟨none, 0, rfl, .inl rfl⟩
  · refine ⟨_, cap, rfl, .inr ⟨g, 0, rfl, ⟨hb, (Array.getElem?_eq_some_iff.1 hh).1⟩, fun j hj => ?_⟩⟩
    obtain ⟨a, c, e, hi, hd⟩ := he j hj (by omega)
    refine ⟨a, c, ?_, hi, fun ad h => (hd ad h).1⟩
    rw [Nat.zero_add, World.ownsRow.cellAt h' j (by omega), List.getElem?_eq_getElem (by omega), e]
/-- The columns of words: each of the words, and where they are two, both together. -/
def cats (k : Nat) (rs : List Row) : List (List ByteArray) := (List.range k).map (cat rs)
def wcols (c : Int) (rs : List Row) : List (List ByteArray) := if c = 2 then cats 2 rs ++ [paired (cat rs 0) (cat rs 1)] else cats c.toNat rs
theorem cats_length (k : Nat) (rs : List Row) : (cats k rs).length = k := by simp [cats]
theorem cats_snoc (k : Nat) (rs : List Row) : cats (k + 1) rs = cats k rs ++ [cat rs k] := by simp [cats, List.range_succ]
theorem cats_get (k : Nat) (rs : List Row) (j : Nat) (h : j < (cats k rs).length) : (cats k rs)[j] = cat rs j := by simp [cats]
theorem tok_c {n c : Int} {rs : List Row} (h : tok n c rs = true) : (0 ≤ n ∧ n ≤ 3) ∧ (0 ≤ c ∧ c ≤ 2) ∧ rs.length ≤ 40 := by
  obtain ⟨h1, h2, _⟩ := tok_iff.1 h
  have : (0 ≤ n ∧ n ≤ 3) ∧ (0 ≤ c ∧ c ≤ 2) := by simpa [sok] using h1
  exact ⟨this.1, this.2, h2⟩
theorem words_yes {n c : Int} {rs : List Row} (h : tok n c rs = true) (k : Nat) (hk : (k : Int) < c) : words n c rs k = cat rs k := by
  unfold words
  rw [if_pos ⟨h, by omega, hk⟩]
  simp
theorem tok_word {n c : Int} {rs : List Row} (h : tok n c rs = true) (p j : Nat) (hp : (p : Int) < c) (hj : j < (cat rs p).length) : (cat rs p)[j].size ≤ 12 := by
  have hj' : j < rs.length := by simpa [cat] using hj
  have hc := (tok_nums h j hj').2
  have hp' : p < rs[j].cats.length := by omega
  rw [cat_get rs p j hj' hp']
  have h2 := (tok_iff.1 h).2.2
  have h3 := rok_iff.1 (List.all_eq_true.1 h2 _ (List.getElem_mem hj'))
  have h4 : cok rs[j].cats = true := h3.2.2.2.2.1
  have h5 := List.all_eq_true.1 h4 _ (List.getElem_mem hp')
  unfold wok wlen at h5
  simp at h5
  exact h5.1.2
theorem info_strs : (Tryz.prog.info? 33).map (fun i => (i.zero, i.size, i.bytes)) = some (some (.slice none 0 0), 1, 24) := by kernel_rfl
theorem one_cell (w : World) (T : TypeId) (x : Value) : ∀ j u, ([x] : List Value)[j]? = some u → (w.alloc (.cells #[x] T)).cell? ((⟨w.heap.size, 0, none⟩ : Addr).add j) = some u := by
  intro j u hj
  match j, hj with
  | 0, hj => simp at hj; subst hj; simp [Addr.add]
theorem one_at {w : World} {T : TypeId} {x : Value} {H : Nat} (h : w.heap.size = H) : ∀ j u, ([x] : List Value)[j]? = some u → (w.alloc (.cells #[x] T)).cell? ((⟨H, 0, none⟩ : Addr).add j) = some u := by
  subst h; exact one_cell w T x
theorem one_one {a : Option Addr} {n c : Nat} : ∀ u ∈ ([.slice a n c] : List Value), u.oneCell' = true := by
  intro u hu; simp at hu; subst hu; rfl
set_option maxHeartbeats 4000000 in
theorem iwc (w : World) (n c : Int) (a : Option Addr) (cap : Nat) (rs : List Row) (hx : IsR w a rs) (hl : rs.length + szR rs ≤ 1048576) (ht : tok n c rs = true) :
    Calls Tryz.prog 84 #[.agg #[.int .i64 n, .int .i64 c, .slice a rs.length cap]] w fun e w' => ∃ v, e = .returned v ∧ OC 33 w' w.heap.size v (wcols c rs) ∧ Below w.heap.size w w' := by
  obtain ⟨⟨n0, n3⟩, ⟨c0, c2⟩, h40⟩ := tok_c ht
  obtain ⟨cn, rfl⟩ : ∃ cn : Nat, c = (cn : Int) := ⟨c.toNat, by omega⟩
  have HT : Hid (tok n (cn : Int) rs = true) := ht
  have HW2 : Hid (∀ k, k < cn → words n (cn : Int) rs (k : Int) = cat rs k) := fun k hk => words_yes ht k (by omega)
  have HC : Hid (∀ p j (hj : j < (cat rs p).length), p < cn → (cat rs p)[j].size ≤ 12) := fun p j hj hp => tok_word ht p j (by omega) hj
  have HE : Hid (¬ cn = 2 → wcols (cn : Int) rs = cats cn rs) := fun h => by unfold wcols; rw [if_neg (by omega)]; simp
  have HE2 : Hid (cn = 2 → wcols (cn : Int) rs = cats 2 rs ++ [paired (cat rs 0) (cat rs 1)]) := fun h => by unfold wcols; rw [if_pos (by omega)]
  clear ht
  obtain ⟨i0, hi, hz0, hz1, hz2⟩ := info_parts info_strs
  go_enter Tryz.func84, Tryz.ntmps84
  obtain ⟨W, hW, hsz, hB, bx⟩ := box3_new' w (.int .i64 n) (.int .i64 (cn : Int)) (.slice a rs.length cap) 111
  have HW : Hid (w.alloc (.cells #[.int .i64 n, .int .i64 (cn : Int), .slice a rs.length cap] 111) = W) := hW
  clear hW
  go_wp2
  rw [HW.out]
  clear HW
  have hszW : w.heap.size < W.heap.size := by omega
  clear hsz
  go_loopw [3, 8] (fun v i wr => ∃ k : Nat, k ≤ cn ∧ i = .int .i64 k ∧ OC 33 wr W.heap.size v (cats k rs) ∧ Below W.heap.size W wr) (fun _ i _ => cn - (intOf i).toNat)
  case atStart => exact ⟨0, Nat.zero_le _, rfl, OC.nil _ _ _, Below.refl _ _⟩
  case round =>
    obtain ⟨k, hk, rfl, oc, hBr⟩ := hrel
    have bxr := bx.below hBr
    obtain ⟨hbx, ⟨cx0, cx1, cx2⟩, _⟩ := id bxr
    have hxr := (hx.below hB).below hBr
    have hsr := hBr.size
    by_cases hlt : k < cn
    · go_wp2_with fail
      refine (iwords _ _ _ _ _ rs _ hxr hl).mono ?_
      rintro e w1 ⟨u, rfl, ou, hb⟩
      rw [HW2.out k hlt] at ou
      have oc1 := oc.below hb
      have hul := el_own (B := u3.ownBlock) (lo := W.heap.size) ou (fun j hj => (oc.lt j hj).2) hsr
      have hBr := hBr.trans (hb.mono hBr.size)
      have hs1 := hBr.size
      clear hb cx0 cx1 cx2 bxr hxr hbx oc
      obtain ⟨vs, hvl, ho, he⟩ := oc1.ex
      have hcl := cats_length k rs
      obtain ⟨ua, uc, rfl, _⟩ := id hul
      have hBa : Below w1.heap.size w1 (w1.alloc (.cells #[.slice ua (cat rs k).length uc] 33)) := (Below.refl _ _).alloc (Nat.le_refl _) _
      have HCL : Hid ((cats k rs).length = k) := hcl
      have hcl3 : (cats k rs).length ≤ 2 := by omega
      clear hcl
      go_wp2_with (at_builtin; refine wpList_append_own_at _ rfl _ _ 107 rfl W.heap.size 33 i0 (.slice none 0 0) 1 24 Tryz.underlying107 hi hz0 hz1 hz2 rfl (by decide) _ _ _ rfl (row_below ho hBa) ⟨w1.heap.size, 0, none⟩ 1 1 [.slice ua (cat rs k).length uc] rfl rfl (one_cell _ _ _) one_one (by unfold maxLen; omega) (by omega) (by simp; omega) ?_; intro v3 w3 hown3 hgrow3 hnn3 hloc3)
      have oc3 := oc_snoc hvl (fun j h h' => (he j h h').below hBa) (hul.below hBa) hown3 hgrow3 hloc3
      rw [← cats_snoc] at oc3
      have hB3 : Below W.heap.size W w3 := hBr.trans (by
        have hh : Below W.heap.size (w1.alloc (.cells #[.slice ua (cat rs k).length uc] 33)) w3 := ⟨hgrow3.os, hgrow3.tape, hgrow3.output, hgrow3.size, fun q hq => hgrow3.block q (by simp; omega) (fun e => by have := (oc1.lt q e.symm).1; omega)⟩
        exact (hBa.mono hs1).trans hh)
      clear hown3 hgrow3 hnn3 hloc3 hBa ho he hul oc1 hBr ou
      go_wp2
      go_roundw
      case rel => exact ⟨k + 1, by omega, by go_num, oc3, hB3⟩
      case measure => simp [intOf]; omega
    · obtain rfl : k = cn := by omega
      obtain ⟨av, cv, rfl, ic⟩ := oc.isc
      have hcl := cats_length k rs
      by_cases h2 : k = 2
      rotate_left
      · have hne : (((cats k rs).length : Int) == 2) = false := by rw [beq_eq_false_iff_ne, hcl]; omega
        have HR : Hid (wcols (k : Int) rs = cats k rs) := HE.out h2
        clear hcl h2
        go_wp2
        go_ret
        exact ⟨_, rfl, by rw [HR.out]; exact oc.mono (by omega), hB.trans (hBr.mono hB.size)⟩
      · subst h2
        have hne : (((cats 2 rs).length : Int) == 2) = true := by rw [beq_iff_eq, hcl]; rfl
        have HR : Hid (wcols ((2 : Nat) : Int) rs = cats 2 rs ++ [paired (cat rs 0) (cat rs 1)]) := HE2.out rfl
        have HCL : Hid ((cats 2 rs).length = 2) := hcl
        rcases ic with h0 | ⟨cb, co, rfl, hcb, hcc⟩
        · rw [h0] at hcl; simp at hcl
        obtain ⟨a0, q0, d0, i_0⟩ := hcc 0 (by omega)
        obtain ⟨a1, q1, d1, i_1⟩ := hcc 1 (by omega)
        rw [cats_get] at d0 d1 i_0 i_1
        rw [Nat.add_zero] at d0
        have hlt2 : (0 : Int) < ((cats 2 rs).length : Int) := by omega
        have hlt3 : (1 : Int) < ((cats 2 rs).length : Int) := by omega
        have hln2 : 0 < (cats 2 rs).length := by omega
        have hln3 : 1 < (cats 2 rs).length := by omega
        have hz0' : ∀ j (h : j < (cat rs 0).length), (cat rs 0)[j].size ≤ 1048576 := fun j h => by have := HC.out 0 j h (by omega); omega
        have hz1' : ∀ j (h : j < (cat rs 1).length), (cat rs 1)[j].size ≤ 1048576 := fun j h => by have := HC.out 1 j h (by omega); omega
        have hl0 : (cat rs 0).length ≤ 1048576 := by rw [cat_length]; omega
        have hl1 : (cat rs 1).length ≤ 1048576 := by rw [cat_length]; omega
        have hcl3 : (cats 2 rs).length ≤ 2 := by omega
        clear hcl hcc
        go_wp2
        go_region_law (first
          | (refine step_append_lies _ rfl _ _ 107 rfl W.heap.size 33 i0 (.slice none 0 0) 1 24 Tryz.underlying107 hi hz0 hz1 hz2 rfl (by decide) _ (cats 2 rs).length vs rfl (by first | exact row_below ho ((Below.refl _ _).alloc (Nat.le_refl _) _) | exact row_below ho ((Below.refl _ _).drew.alloc (Nat.le_refl _) _)) _ 1 1 [.slice ua _ uc] rfl rfl (one_at (by first | rfl | simp)) one_one (by decide) (by unfold maxLen; omega) (by omega) (by simp; omega) _ rfl ?_
             intro g cap' w6 hown' hgrow hpos hglt
             have oc6 := oc_snoc hvl (fun j h h' => (he j h h').below ((Below.refl _ _).alloc (Nat.le_refl _) _)) (hul.below ((Below.refl _ _).alloc (Nat.le_refl _) _)) hown' hgrow (Or.elim hpos (fun e => .inl e.symm) (fun e => .inr (by rw [e]; rfl)))
             have hB6 : Below W.heap.size W w6 := hBp.trans (by
               have hh := (Below.refl w1.heap.size w1).alloc (Nat.le_refl _) (.cells #[.slice ua (paired (cat rs 0) (cat rs 1)).length uc] 33)
               exact (hh.mono hs1).trans ⟨hgrow.os, hgrow.tape, hgrow.output, hgrow.size, fun q hq => hgrow.block q (by simp; omega) (fun e => by have := (oc1.lt q e.symm).1; omega)⟩)
             clear hown' hgrow hpos hglt)
          | (go_simp
             go_wp2_with (go_at_call 106
                          refine (Pa.ipair _ _ _ _ _ (cat rs 0) (cat rs 1) (by exact i_0) (by exact i_1) hl0 hl1 hz0' hz1').mono ?_
                          rintro e w1 ⟨u, rfl, ou, hb⟩
                          have hb : Below wr.heap.size wr w1 := ((Below.refl wr.heap.size wr).drew).trans hb
                          have oc1 := oc.below hb
                          have hul := el_own (lo := W.heap.size) (B := (Value.slice (some ⟨cb, co, none⟩) (cats 2 rs).length cv).ownBlock) ou (fun j hj => (oc.lt j hj).2) hsr
                          have hBp := hBr.trans (hb.mono hBr.size)
                          have hs1 := hBp.size
                          obtain ⟨vs, hvl, ho, he⟩ := oc1.ex
                          obtain ⟨ua, uc, rfl, _⟩ := id hul
                          clear hb)))
        all_goals
          clear oc oc1 ho he hul
          go_wp2
          go_ret
          exact ⟨_, rfl, by rw [HR.out]; exact oc6.mono (by omega), hB.trans (hB6.mono hB.size)⟩
end Go.Proofs.YtifemdjookmboaaGreatDoor.Wc
/-
  BordersOk, BinOf, BinsOf of the program and of the model: each answers what Bor says; old memory stays.
-/
namespace Go.Proofs.YtifemdjookmboaaGreatDoor.Bw
open Go.RowKit
open Go.Proofs.YtifemdjookmboaaGreatDoor.Li Go.Proofs.YtifemdjookmboaaGreatDoor.Bo

set_option maxHeartbeats 400000 in
theorem iok_m (x : Int) (w : World) :
    Calls Tryz.prog 82 #[.int .i64 x] w fun e w' => e = .returned (.bool (fok x)) ∧ w' = w := by
  go_enter Tryz.func82, Tryz.ntmps82
  go_wp2
  all_goals go_ret
  all_goals refine ⟨ret_bool ?_, rfl⟩
  all_goals unfold fok
  all_goals simp
  all_goals omega
set_option maxHeartbeats 400000 in
theorem iok (x : Int) (w : World) :
    Calls Tryz.prog 58 #[.int .i64 x] w fun e w' => e = .returned (.bool (fok x)) ∧ w' = w := by
  go_enter Tryz.func58, Tryz.ntmps58
  go_wp2_with (go_at_call 82; refine (iok_m _ _).mono ?_; rintro e w' ⟨rfl, hw⟩; subst w')
  go_ret
  exact ⟨rfl, rfl⟩
set_option maxHeartbeats 400000 in
theorem sok (x : Int) (w : World) :
    Calls Tryz.prog 47 #[.int .i64 x] w fun e w' => e = .returned (.bool (fok x)) ∧ w' = w := by
  go_enter Tryz.func47, Tryz.ntmps47
  go_wp2_with (go_at_call 11; refine (between_any _ _ _ _).mono ?_; rintro e w' ⟨rfl, hw⟩; subst w')
  go_ret
  exact ⟨rfl, rfl⟩
theorem sokv (x : Int) (v : Bool) (h : fok x = v) (w : World) :
    Calls Tryz.prog 47 #[.int .i64 x] w fun e w' => e = .returned (.bool v) ∧ w' = w := by subst h; exact sok x w
set_option maxHeartbeats 1000000 in
theorem iall (w : World) (a : Option Addr) (cap : Nat) (xs : List Int) (hx : IsL w a xs) (hl : xs.length ≤ 1048576) :
    Calls Tryz.prog 104 #[.slice a xs.length cap] w fun e w' => e = .returned (.bool (aok xs)) ∧ w' = w := by
  go_enter Tryz.func104, Tryz.ntmps104
  go_wp2
  go_loop [7] (fun i => ∃ k : Nat, k ≤ xs.length ∧ i = .int .i64 k ∧ ∀ j (hj : j < xs.length), j < k → fok xs[j] = true) (fun i => xs.length - (intOf i).toNat)
  case atStart => exact ⟨0, Nat.zero_le _, rfl, fun j hj h => by omega⟩
  case round =>
    obtain ⟨k, hk, rfl, hn⟩ := hrel
    have HN : Hid (∀ j (hj : j < xs.length), j < k → fok xs[j] = true) := hn
    clear hn
    by_cases hlt : k < xs.length
    · rcases hx with rfl | ⟨b, off, rfl, hb, hc⟩
      · simp at hlt
      have hcx := hc k hlt
      clear hc
      cases hv : fok xs[k] with
      | false =>
        have HR : Hid (aok xs = false) := aok_no hlt hv
        go_wp2_with (go_at_call 58; refine (iok _ _).mono ?_; rintro e w' ⟨rfl, hw⟩; subst w'; rw [hv])
        go_ret
        exact ⟨ret_bool HR.out.symm, rfl⟩
      | true =>
        have HR : Hid (∀ j (hj : j < xs.length), j < k + 1 → fok xs[j] = true) := fun j hj h => by
          by_cases e : j = k
          · subst e; exact hv
          · exact HN.out j hj (by omega)
        go_wp2_with (go_at_call 58; refine (iok _ _).mono ?_; rintro e w' ⟨rfl, hw⟩; subst w'; rw [hv])
        go_round
        case rel => exact ⟨k + 1, by omega, by go_num, HR.out⟩
        case measure => simp [intOf]; omega
    · have HR : Hid (aok xs = true) := aok_to (fun j hj => HN.out j hj (by omega))
      go_wp2
      go_ret
      exact ⟨ret_bool HR.out.symm, rfl⟩
end Go.Proofs.YtifemdjookmboaaGreatDoor.Bw
/-
  TreeOk, LeafOf, Eval of the program and of the model.
-/
namespace Go.Proofs.YtifemdjookmboaaGreatDoor.Tw
open Go.RowKit
open Go.Proofs.YtifemdjookmboaaGreatDoor.Li (ret_bool ret_int below_none)
open Go.Proofs.YtifemdjookmboaaGreatDoor.Tr Go.Proofs.YtifemdjookmboaaGreatDoor.Tm Go.Proofs.YtifemdjookmboaaGreatDoor.Bo Go.Proofs.YtifemdjookmboaaGreatDoor.Bw

theorem pow_d (d : Nat) (hd : d ≤ 5) : wrap64 (2 ^ d) = ((2 ^ d : Nat) : Int) := by
  match d, hd with
  | 0, _ => decide +kernel
  | 1, _ => decide +kernel
  | 2, _ => decide +kernel
  | 3, _ => decide +kernel
  | 4, _ => decide +kernel
  | 5, _ => decide +kernel
theorem below_box {w : World} {o : Obj} {n : Nat} : Below w.heap.size w ((w.alloc o).drewN n) := by
  have h := (Below.refl w.heap.size w).alloc (Nat.le_refl _) o
  exact h.trans ((Tm.below_drewN' _ n).mono h.size)
theorem btw5 (x : Int) (y : Int) : spok (x, y) = (Li.btw x 0 5 && fok y) := by simp [spok, Li.btw]
set_option maxHeartbeats 1000000 in
theorem stok (w : World) (a a' : Option Addr) (c c' : Nat) (t : T) (hp : IsP w a t.sp) (hx : Li.IsL w a' t.lv) (hl : t.sp.length + t.lv.length ≤ 1048576) :
    Calls Tryz.prog 49 #[.agg #[.slice a t.sp.length c, .slice a' t.lv.length c']] w fun e w' => e = .returned (.bool (tok t)) ∧ Below w.heap.size w w' := by
  by_cases h4 : 4 < t.sp.length
  · have hd : decide (4 < (t.sp.length : Int)) = true := by simp; omega
    rw [tok_long h4]
    go_enter Tryz.func49, Tryz.ntmps49
    go_wp2
    go_quiet (fail)
    go_wp2
    go_ret
    exact ⟨rfl, below_box⟩
  have hd : decide (4 < (t.sp.length : Int)) = false := by simp; omega
  have hpw := pow_d t.sp.length (by omega)
  by_cases h2 : t.lv.length = 2 ^ t.sp.length
  · have hne : ((t.lv.length : Int) != wrap64 (2 ^ t.sp.length)) = false := by rw [hpw, h2]; simp
    have H2 : Hid (t.lv.length = 2 ^ t.sp.length) := h2
    clear hpw h2
    go_enter Tryz.func49, Tryz.ntmps49
    go_wp2
    go_quiet (fail)
    go_wp2
    have hB0 : Below w.heap.size w ((w.alloc (.cells #[.slice a t.sp.length c, .slice a' t.lv.length c'] 43)).drewN nq) := below_box
    have bx : Box2 ((w.alloc (.cells #[.slice a t.sp.length c, .slice a' t.lv.length c'] 43)).drewN nq) w.heap.size _ _ := (box2_new w (.slice a t.sp.length c) (.slice a' t.lv.length c') 43).drewN nq
    have hp := hp.below hB0
    have hx := hx.below hB0
    obtain ⟨W, hW⟩ : ∃ W, (w.alloc (.cells #[.slice a t.sp.length c, .slice a' t.lv.length c'] 43)).drewN nq = W := ⟨_, rfl⟩
    rw [hW] at hB0 bx hp hx ⊢
    obtain ⟨hbl, ⟨cx0, cx1⟩, _⟩ := bx
    clear hW
    go_loop [3] (fun i => ∃ k : Nat, k ≤ t.sp.length ∧ i = .int .i64 k ∧ ∀ j (hj : j < t.sp.length), j < k → spok t.sp[j] = true) (fun i => t.sp.length - (intOf i).toNat)
    case atStart => exact ⟨0, Nat.zero_le _, rfl, fun j hj h => by omega⟩
    case round =>
      obtain ⟨k, hk, rfl, hn⟩ := hrel
      have HN : Hid (∀ j (hj : j < t.sp.length), j < k → spok t.sp[j] = true) := hn
      clear hn
      by_cases hlt : k < t.sp.length
      · rcases hp with h0 | ⟨b, off, rfl, hb, hc⟩
        · rw [h0] at hlt; simp at hlt
        obtain ⟨cy0, cy1⟩ := hc k hlt
        clear hc
        have hbt := btw5 t.sp[k].1 t.sp[k].2
        cases hv1 : Li.btw t.sp[k].1 0 5 with
        | false =>
          have HR : Hid (tok t = false) := tok_bad hlt (by rw [hv1] at hbt; exact hbt)
          clear hbt
          go_wp2_with (go_at_call 11; refine (Li.between_any _ _ _ _).mono ?_; rintro e w' ⟨rfl, hw⟩; subst w'; rw [hv1])
          go_ret
          exact ⟨ret_bool HR.out.symm, hB0⟩
        | true =>
          cases hv2 : fok t.sp[k].2 with
          | false =>
            have HR : Hid (tok t = false) := tok_bad hlt (by rw [hv1, hv2] at hbt; exact hbt)
            clear hbt
            go_wp2_with (first | (go_at_call 11; refine (Li.between_any _ _ _ _).mono ?_; rintro e w' ⟨rfl, hw⟩; subst w'; rw [hv1]) | (go_at_call 47; refine (sok _ _).mono ?_; rintro e w' ⟨rfl, hw⟩; subst w'; rw [hv2]))
            go_ret
            exact ⟨ret_bool HR.out.symm, hB0⟩
          | true =>
            have HR : Hid (∀ j (hj : j < t.sp.length), j < k + 1 → spok t.sp[j] = true) := fun j hj h => by
              by_cases e : j = k
              · subst e; rw [hv1, hv2] at hbt; exact hbt
              · exact HN.out j hj (by omega)
            clear hbt
            go_wp2_with (first | (go_at_call 11; refine (Li.between_any _ _ _ _).mono ?_; rintro e w' ⟨rfl, hw⟩; subst w'; rw [hv1]) | (go_at_call 47; refine (sok _ _).mono ?_; rintro e w' ⟨rfl, hw⟩; subst w'; rw [hv2]))
            go_round
            case rel => exact ⟨k + 1, by omega, by go_num, HR.out⟩
            case measure => simp [intOf]; omega
      · have HS : Hid (∀ j (hj : j < t.sp.length), spok t.sp[j] = true) := fun j hj => HN.out j hj (by omega)
        clear HN
        go_wp2
        go_loop [4] (fun i => ∃ k : Nat, k ≤ t.lv.length ∧ i = .int .i64 k ∧ ∀ j (hj : j < t.lv.length), j < k → fok t.lv[j] = true) (fun i => t.lv.length - (intOf i).toNat)
        case atStart => exact ⟨0, Nat.zero_le _, rfl, fun j hj h => by omega⟩
        case round =>
          obtain ⟨k, hk, rfl, hn⟩ := hrel
          have HN : Hid (∀ j (hj : j < t.lv.length), j < k → fok t.lv[j] = true) := hn
          clear hn
          by_cases hlt : k < t.lv.length
          · rcases hx with h0 | ⟨b, off, rfl, hb, hc⟩
            · rw [h0] at hlt; simp at hlt
            have hcx := hc k hlt
            clear hc
            cases hv : fok t.lv[k] with
            | false =>
              have HR : Hid (tok t = false) := tok_leaf (aok_no hlt hv)
              go_wp2_with (go_at_call 47; refine (sok _ _).mono ?_; rintro e w' ⟨rfl, hw⟩; subst w'; rw [hv])
              go_ret
              exact ⟨ret_bool HR.out.symm, hB0⟩
            | true =>
              have HR : Hid (∀ j (hj : j < t.lv.length), j < k + 1 → fok t.lv[j] = true) := fun j hj h => by
                by_cases e : j = k
                · subst e; exact hv
                · exact HN.out j hj (by omega)
              go_wp2_with (go_at_call 47; refine (sok _ _).mono ?_; rintro e w' ⟨rfl, hw⟩; subst w'; rw [hv])
              go_round
              case rel => exact ⟨k + 1, by omega, by go_num, HR.out⟩
              case measure => simp [intOf]; omega
          · have HR : Hid (tok t = true) := tok_all (by omega) H2.out HS.out (aok_to (fun j hj => HN.out j hj (by omega)))
            go_wp2
            go_ret
            exact ⟨ret_bool HR.out.symm, hB0⟩
  · have hne : ((t.lv.length : Int) != wrap64 (2 ^ t.sp.length)) = true := by rw [hpw]; exact bne_iff_ne.2 (fun e => h2 (Int.ofNat_inj.1 e))
    rw [tok_leaves h2]
    clear hpw h2
    go_enter Tryz.func49, Tryz.ntmps49
    go_wp2
    go_quiet (fail)
    go_wp2
    go_ret
    exact ⟨rfl, below_box⟩
set_option maxHeartbeats 400000 in
theorem ifeat (x : Int) (w : World) : Calls Tryz.prog 117 #[.int .i64 x] w fun e w' => e = .returned (.bool (Li.btw x 0 5)) ∧ w' = w := by
  go_enter Tryz.func117, Tryz.ntmps117
  go_wp2
  all_goals go_ret
  all_goals refine ⟨ret_bool ?_, rfl⟩
  all_goals unfold Li.btw
  all_goals simp
  all_goals first | omega | (rw [Bool.eq_iff_iff]; simp; omega)
set_option maxHeartbeats 400000 in
theorem isplit (x y : Int) (w : World) : Calls Tryz.prog 103 #[.agg #[.int .i64 x, .int .i64 y]] w fun e w' => e = .returned (.bool (spok (x, y))) ∧ Below w.heap.size w w' := by
  rw [btw5]
  cases h1 : Li.btw x 0 5 with
  | false =>
    go_enter Tryz.func103, Tryz.ntmps103
    go_wp2_with (first | (go_at_call 117; refine (ifeat _ _).mono ?_; rintro e w' ⟨rfl, hw⟩; subst w'; rw [h1]) | (go_at_call 58; refine (iok _ _).mono ?_; rintro e w' ⟨rfl, hw⟩; subst w'))
    go_ret
    exact ⟨rfl, (Below.refl _ _).alloc (Nat.le_refl _) _⟩
  | true =>
    go_enter Tryz.func103, Tryz.ntmps103
    go_wp2_with (first | (go_at_call 117; refine (ifeat _ _).mono ?_; rintro e w' ⟨rfl, hw⟩; subst w'; rw [h1]) | (go_at_call 58; refine (iok _ _).mono ?_; rintro e w' ⟨rfl, hw⟩; subst w'))
    go_ret
    exact ⟨rfl, (Below.refl _ _).alloc (Nat.le_refl _) _⟩
set_option maxHeartbeats 1000000 in
theorem itok (w : World) (a a' : Option Addr) (c c' : Nat) (t : T) (hp : IsP w a t.sp) (hx : Li.IsL w a' t.lv) (hl : t.sp.length + t.lv.length ≤ 1048576) :
    Calls Tryz.prog 83 #[.agg #[.slice a t.sp.length c, .slice a' t.lv.length c']] w fun e w' => e = .returned (.bool (tok t)) ∧ Below w.heap.size w w' := by
  by_cases h4 : 4 < t.sp.length
  · have hd : decide (4 < (t.sp.length : Int)) = true := by simp; omega
    rw [tok_long h4]
    go_enter Tryz.func83, Tryz.ntmps83
    go_wp2
    go_quiet (fail)
    go_wp2
    go_ret
    exact ⟨rfl, below_box⟩
  have hd : decide (4 < (t.sp.length : Int)) = false := by simp; omega
  have hpw := pow_d t.sp.length (by omega)
  by_cases h2 : t.lv.length = 2 ^ t.sp.length
  · have hne : ((t.lv.length : Int) != wrap64 (2 ^ t.sp.length)) = false := by rw [hpw, h2]; simp
    have H2 : Hid (t.lv.length = 2 ^ t.sp.length) := h2
    clear hpw h2
    go_enter Tryz.func83, Tryz.ntmps83
    go_wp2
    go_quiet (fail)
    go_wp2
    have hB0 : Below w.heap.size w ((w.alloc (.cells #[.slice a t.sp.length c, .slice a' t.lv.length c'] 43)).drewN nq) := below_box
    have bx : Box2 ((w.alloc (.cells #[.slice a t.sp.length c, .slice a' t.lv.length c'] 43)).drewN nq) w.heap.size _ _ := (box2_new w (.slice a t.sp.length c) (.slice a' t.lv.length c') 43).drewN nq
    have hp := hp.below hB0
    have hx := hx.below hB0
    obtain ⟨W, hW⟩ : ∃ W, (w.alloc (.cells #[.slice a t.sp.length c, .slice a' t.lv.length c'] 43)).drewN nq = W := ⟨_, rfl⟩
    rw [hW] at hB0 bx hp hx ⊢
    clear hW
    go_loopw [22] (fun i wr => ∃ k : Nat, k ≤ t.sp.length ∧ i = .int .i64 k ∧ (∀ j (hj : j < t.sp.length), j < k → spok t.sp[j] = true) ∧ Below W.heap.size W wr) (fun i _ => t.sp.length - (intOf i).toNat)
    case atStart => exact ⟨0, Nat.zero_le _, rfl, fun j hj h => by omega, Below.refl _ _⟩
    case round =>
      obtain ⟨k, hk, rfl, hn, hB⟩ := hrel
      have HN : Hid (∀ j (hj : j < t.sp.length), j < k → spok t.sp[j] = true) := hn
      clear hn
      have hbw := hB0.trans (hB.mono hB0.size)
      by_cases hlt : k < t.sp.length
      · rcases hp.below hB with h0 | ⟨b, off, rfl, hb, hc⟩
        · rw [h0] at hlt; simp at hlt
        obtain ⟨cy0, cy1⟩ := hc k hlt
        clear hc
        have hs := hbw.size
        have hs' := hB.size
        go_wp2_with fail
        refine (isplit _ _ _).mono ?_
        rintro e w2 ⟨rfl, hB2⟩
        have hB2 : Below W.heap.size W w2 := (hB.alloc hB.size _).trans (hB2.mono (by simp; omega))
        have hbw := hB0.trans (hB2.mono hB0.size)
        cases hv : spok t.sp[k] with
        | false =>
          have HR : Hid (tok t = false) := tok_bad hlt hv
          go_wp2
          go_ret
          exact ⟨ret_bool HR.out.symm, hbw⟩
        | true =>
          have HR : Hid (∀ j (hj : j < t.sp.length), j < k + 1 → spok t.sp[j] = true) := fun j hj h => by
            by_cases e : j = k
            · subst e; exact hv
            · exact HN.out j hj (by omega)
          go_wp2
          go_roundw
          case rel => exact ⟨k + 1, by omega, by go_num, HR.out, hB2⟩
          case measure => simp [intOf]; omega
      · have HS : Hid (∀ j (hj : j < t.sp.length), spok t.sp[j] = true) := fun j hj => HN.out j hj (by omega)
        obtain ⟨hbl, ⟨cx0, cx1⟩, _⟩ := bx.below hB
        clear HN
        go_wp2_with fail
        refine (iall _ _ _ t.lv (hx.below hB) (by omega)).mono ?_
        rintro e w2 ⟨rfl, hw⟩
        subst w2
        have HR : Hid (tok t = aok t.lv) := by
          show _ = _
          cases e : aok t.lv with
          | false => exact tok_leaf e
          | true => exact tok_all (by omega) H2.out HS.out e
        go_wp2
        go_ret
        exact ⟨ret_bool HR.out.symm, hbw⟩
  · have hne : ((t.lv.length : Int) != wrap64 (2 ^ t.sp.length)) = true := by rw [hpw]; exact bne_iff_ne.2 (fun e => h2 (Int.ofNat_inj.1 e))
    rw [tok_leaves h2]
    clear hpw h2
    go_enter Tryz.func83, Tryz.ntmps83
    go_wp2
    go_quiet (fail)
    go_wp2
    go_ret
    exact ⟨rfl, below_box⟩
end Go.Proofs.YtifemdjookmboaaGreatDoor.Tw
/-
  LeafOf and Eval of the program and of the model.
-/
namespace Go.Proofs.YtifemdjookmboaaGreatDoor.Tw
set_option linter.unusedVariables false
open Go.RowKit
open Go.Proofs.YtifemdjookmboaaGreatDoor.Li (ret_bool ret_int below_none)
open Go.Proofs.YtifemdjookmboaaGreatDoor.Tr Go.Proofs.YtifemdjookmboaaGreatDoor.Tm Go.Proofs.YtifemdjookmboaaGreatDoor.Bo Go.Proofs.YtifemdjookmboaaGreatDoor.Bw

theorem or_fin : ∀ k : Fin 4, ∀ l : Fin 8, l.val < 2 ^ k.val → bits .or .i64 ((l.val : Nat) : Int) ((2 ^ k.val : Nat) : Int) = ((l.val + 2 ^ k.val : Nat) : Int) := by decide +kernel
theorem or_all (k l : Nat) (hk : k ≤ 3) (hl : l < 2 ^ k) : bits .or .i64 (l : Int) ((2 ^ k : Nat) : Int) = ((l + 2 ^ k : Nat) : Int) := by
  have h8 : 2 ^ k ≤ 2 ^ 3 := Nat.pow_le_pow_right (by decide) hk
  exact or_fin ⟨k, by omega⟩ ⟨l, by omega⟩ hl
theorem isl_pos {w : World} {a : Option Addr} {xs : List Int} {k : Nat} (h : Li.IsL w a xs) (hk : k < xs.length) : ∃ b off, a = some ⟨b, off, none⟩ ∧ b < w.heap.size ∧ ∀ j (hj : j < xs.length), w.cell? ⟨b, off + j, none⟩ = some (.int .i64 xs[j]) := by
  rcases h with h0 | h
  · rw [h0] at hk; simp at hk
  · exact h
end Go.Proofs.YtifemdjookmboaaGreatDoor.Tw
/-
  Sums of fixed numbers, of the program and of the model.
-/
namespace Go.Proofs.YtifemdjookmboaaGreatDoor.Ad
open Go.RowKit
open Go.Proofs.YtifemdjookmboaaGreatDoor.Li (ret_int)

def clip (x : Int) : Int := if x < -1000000000 then -1000000000 else if 1000000000 < x then 1000000000 else x
theorem clip_bd (x : Int) : -1000000000 ≤ clip x ∧ clip x ≤ 1000000000 := by unfold clip; split <;> (try split) <;> omega
theorem clip_id (x : Int) (h : -1000000000 ≤ x) (h' : x ≤ 1000000000) : clip x = x := by unfold clip; rw [if_neg (by omega), if_neg (by omega)]
theorem clip_clip (x : Int) : clip (clip x) = clip x := clip_id _ (clip_bd x).1 (clip_bd x).2
def fadd (a b : Int) : Int := clip (clip a + clip b)
theorem fadd_zero (a : Int) : fadd a 0 = clip a := by
  unfold fadd
  rw [show clip 0 = 0 by decide, Int.add_zero, clip_clip]
theorem fadd_bd (a b : Int) : -1000000000 ≤ fadd a b ∧ fadd a b ≤ 1000000000 := clip_bd _
end Go.Proofs.YtifemdjookmboaaGreatDoor.Ad
/-
  Sum of the program and of the model: what trees say, one behind the other.
-/
namespace Go.Proofs.YtifemdjookmboaaGreatDoor.Sw
open Go.RowKit
open Go.Proofs.YtifemdjookmboaaGreatDoor.Li (ret_bool ret_int below_none)
open Go.Proofs.YtifemdjookmboaaGreatDoor.Tr Go.Proofs.YtifemdjookmboaaGreatDoor.Tm Go.Proofs.YtifemdjookmboaaGreatDoor.Ad
set_option linter.unusedVariables false

def fd (x : List Int) (z : Int) (ts : List T) : Int := ts.foldl (fun s t => fadd s (eval t x)) z
theorem fd_take {x : List Int} {z : Int} {ts : List T} {k : Nat} (h : k < ts.length) : fd x z (ts.take (k + 1)) = fadd (fd x z (ts.take k)) (eval ts[k] x) := by
  unfold fd
  rw [List.take_succ_eq_append_getElem h, List.foldl_append]
  rfl
def allok (ts : List T) : Bool := ts.all tok
theorem allok_no {ts : List T} {k : Nat} (hk : k < ts.length) (h : tok ts[k] = false) : allok ts = false := by
  cases e : allok ts with
  | false => rfl
  | true =>
    unfold allok at e
    rw [List.all_eq_true] at e
    rw [e _ (List.getElem_mem hk)] at h
    cases h
theorem allok_all {ts : List T} (h : ∀ j (hj : j < ts.length), tok ts[j] = true) : allok ts = true := by
  unfold allok
  rw [List.all_eq_true]
  intro t ht
  obtain ⟨j, hj, rfl⟩ := List.getElem_of_mem ht
  exact h j hj
def sm (ts : List T) (x : List Int) (base : Int) : Int := if allok ts then fd x (clip base) ts else 0
theorem sm_no {ts : List T} {x : List Int} {base : Int} (h : allok ts = false) : sm ts x base = 0 := by simp [sm, h]
theorem sm_yes {ts : List T} {x : List Int} {base : Int} (h : allok ts = true) : sm ts x base = fd x (clip base) ts := by simp [sm, h]
theorem fd_bd (x : List Int) (base : Int) (ts : List T) : -1000000000 ≤ fd x (clip base) ts ∧ fd x (clip base) ts ≤ 1000000000 := by
  unfold fd
  have : ∀ (us : List T) z, (-1000000000 ≤ z ∧ z ≤ 1000000000) → -1000000000 ≤ us.foldl (fun s t => fadd s (eval t x)) z ∧ us.foldl (fun s t => fadd s (eval t x)) z ≤ 1000000000 := by
    intro us
    induction us with
    | nil => intro z h; exact h
    | cons u us ih => intro z _; exact ih _ (fadd_bd _ _)
  exact this ts _ (clip_bd _)
/-- What trees say is said one behind the other. -/
theorem sm_append {ts us : List T} {x : List Int} {base : Int} (h : allok ts = true) (h' : allok us = true) : sm (ts ++ us) x base = sm us x (sm ts x base) := by
  have ha : allok (ts ++ us) = true := by unfold allok at *; rw [List.all_append, h, h']; rfl
  rw [sm_yes ha, sm_yes h', sm_yes h]
  have hb := fd_bd x base ts
  rw [clip_id _ hb.1 hb.2]
  unfold fd
  rw [List.foldl_append]
end Go.Proofs.YtifemdjookmboaaGreatDoor.Sw
/-
  The plain arguments of the laws, opened: a number, a text, a list of numbers, of texts, out of what the row's reader read of them.
-/
namespace Go.Proofs.YtifemdjookmboaaGreatDoor.Op
open Go.ChangeShapes Go.WideShapes Go.Deep Go.RowKit
open Go.Proofs.YtifemdjookmboaaGreatDoor.Tb
set_option maxRecDepth 10000

theorem agg2 {cs : Array Value} (h : cs.size = 2) : ∃ a b, cs = #[a, b] := by
  obtain ⟨l⟩ := cs
  match l, h with
  | [a, b], _ => exact ⟨a, b, rfl⟩
theorem agg3 {cs : Array Value} (h : cs.size = 3) : ∃ a b c, cs = #[a, b, c] := by
  obtain ⟨l⟩ := cs
  match l, h with
  | [a, b, c], _ => exact ⟨a, b, c, rfl⟩
theorem wf64 {n : Int} (h : (Lit.int .i64 n).wf = true) : -9223372036854775808 ≤ n ∧ n ≤ 9223372036854775807 := by
  simpa [Lit.wf, IntKind.min, IntKind.signed, IntKind.bits] using h
section
variable {H : Type} {enc : TypeId × Value → H} {W : World}
theorem ints_cell {n : Nat} {v : Value} {x : DataW H × List MemPlace} (h : DataW.trod enc Tryz.prog W 0 (fun _ => true) true n 37 [v] = some x) :
    ∃ a xs cap, v = .slice a (xs : List Int).length cap ∧ Li.IsL W a xs ∧ xs.length ≤ maxLen := by
  rcases open_ints Tryz.underlying37 Tryz.underlying3 (by kernel_rfl) h with ⟨hcs, _⟩ | ⟨x, l, c, zs, hcs, _, hl, hm, hz, _, hcell, hwz⟩
  · obtain rfl : v = _ := List.singleton_inj.1 hcs
    exact ⟨none, [], 0, rfl, .inl rfl, by simp⟩
  · obtain rfl : v = _ := List.singleton_inj.1 hcs
    obtain ⟨xs, hxl, hx⟩ := Li.isl_of (w := W) (a := some x) (len := l) (cap := c) (zs := zs) (.inr ⟨x, rfl, hl, hm, by simpa using hz, hcell, hwz⟩)
    subst hxl
    exact ⟨some x, xs, c, rfl, hx, by omega⟩
theorem int_cell {n : Nat} {v : Value} {x : DataW H × List MemPlace} (h : DataW.trod enc Tryz.prog W 0 (fun _ => true) true n 3 [v] = some x) :
    ∃ i, v = .int .i64 i ∧ -9223372036854775808 ≤ i ∧ i ≤ 9223372036854775807 := by
  obtain ⟨i, h1, _, h3⟩ := DataW.trod_int Tryz.underlying3 h
  obtain rfl : v = _ := List.singleton_inj.1 h1
  exact ⟨i, rfl, wf64 h3⟩
theorem int_open {base : Nat} {v : Value} {d : DataW H} {p : List MemPlace} (hv : Value.okWide Tryz.prog W .any base 3 v) (h : DataW.Trod enc Tryz.prog W 0 (fun _ => true) true 3 v d p) :
    ∃ i, v = .int .i64 i ∧ -9223372036854775808 ≤ i ∧ i ≤ 9223372036854775807 := by
  obtain ⟨i, rfl⟩ := okWide_int Tryz.underlying3 hv
  obtain ⟨n, hn⟩ := h
  obtain ⟨j, e, hj⟩ := int_cell (by simpa [Value.cells] using hn)
  exact ⟨i, rfl, by cases e; exact hj⟩
theorem ints_open {base : Nat} {v : Value} {d : DataW H} {p : List MemPlace} (hv : Value.okWide Tryz.prog W .any base 37 v) (h : DataW.Trod enc Tryz.prog W 0 (fun _ => true) true 37 v d p) :
    ∃ a xs cap, v = .slice a (xs : List Int).length cap ∧ Li.IsL W a xs ∧ xs.length ≤ maxLen := by
  obtain ⟨a0, l0, c0, rfl⟩ := okWide_slice Tryz.underlying37 hv
  obtain ⟨n, hn⟩ := h
  exact ints_cell (by simpa [Value.cells] using hn)
end
end Go.Proofs.YtifemdjookmboaaGreatDoor.Op
/-
  Settings: ConfOk of the program and of the model; the laws' own copy of a Conf; a Conf that was read, opened.
-/
namespace Go.Proofs.YtifemdjookmboaaGreatDoor.Cf
open Go.RowKit
open Go.Proofs.YtifemdjookmboaaGreatDoor.Li (ret_bool ret_int below_none IsL btw)
set_option linter.unusedVariables false

/-- A Conf, field by field. -/
structure C where
  trees : Int
  depth : Int
  most : Int
  rate : Int
  l2 : Int
  prior : Int
  seed : Int
def C.cells (c : C) : List Value := [.int .i64 c.trees, .int .i64 c.depth, .int .i64 c.most, .int .i64 c.rate, .int .i64 c.l2, .int .i64 c.prior, .int .i64 c.seed]
def C.val (c : C) : Value := .agg #[.int .i64 c.trees, .int .i64 c.depth, .int .i64 c.most, .int .i64 c.rate, .int .i64 c.l2, .int .i64 c.prior, .int .i64 c.seed]
def cok (c : C) : Bool := btw c.trees 0 12 && (btw c.depth 0 4 && (btw c.most 1 12 && (btw c.rate 1 1000 && (btw c.l2 1 1000 && (btw c.prior (-1000000) 1000000 && btw c.seed 1 2147483646)))))
theorem results_cell {fn : Func} {p : Tmp} {ty : TypeId} (h : fn.results = #[.cell p ty]) (tmps : Array Value) (P : Program) (w : World) :
    (results fn tmps).run P w = ((asAddr (tmps.getD p undef)).run P w).andThen fun a w₁ => (loadVar ty a).run P w₁ := by
  simp only [results, h]
  simp [Sem.run_bind, Result.andThen]
theorem dec_btw {x lo hi : Int} (h : btw x lo hi = true) : lo ≤ x ∧ x ≤ hi := by simpa [btw] using h
/-- A variable that holds a Conf. -/
def Bx (w : World) (b : Nat) (c : C) : Prop := b < w.heap.size ∧ w.cell? ⟨b, 0, none⟩ = some (.int .i64 c.trees) ∧ w.cell? ⟨b, 1, none⟩ = some (.int .i64 c.depth) ∧ w.cell? ⟨b, 2, none⟩ = some (.int .i64 c.most) ∧ w.cell? ⟨b, 3, none⟩ = some (.int .i64 c.rate) ∧ w.cell? ⟨b, 4, none⟩ = some (.int .i64 c.l2) ∧ w.cell? ⟨b, 5, none⟩ = some (.int .i64 c.prior) ∧ w.cell? ⟨b, 6, none⟩ = some (.int .i64 c.seed)
theorem Bx.below {w w1 : World} {b B : Nat} {c : C} (h : Bx w b c) (hB : Below B w w1) (hb : b < B) : Bx w1 b c := by
  obtain ⟨h0, h⟩ := h
  have k : w1.heap[b]? = w.heap[b]? := hB.block b hb
  have q : ∀ j v, w.cell? ⟨b, j, none⟩ = some v → w1.cell? ⟨b, j, none⟩ = some v := fun j v hv => by rw [World.cell?_of_block (w := w) (a := ⟨b, j, none⟩) k]; exact hv
  exact ⟨by have := hB.size; omega, q 0 _ h.1, q 1 _ h.2.1, q 2 _ h.2.2.1, q 3 _ h.2.2.2.1, q 4 _ h.2.2.2.2.1, q 5 _ h.2.2.2.2.2.1, q 6 _ h.2.2.2.2.2.2⟩
theorem Bx.kept {w w1 : World} {b : Nat} {c : C} (h : Bx w b c) (hs : w.heap.size ≤ w1.heap.size) (k : w1.heap[b]? = w.heap[b]?) : Bx w1 b c := by
  obtain ⟨h0, h⟩ := h
  have q : ∀ j v, w.cell? ⟨b, j, none⟩ = some v → w1.cell? ⟨b, j, none⟩ = some v := fun j v hv => by rw [World.cell?_of_block (w := w) (a := ⟨b, j, none⟩) k]; exact hv
  exact ⟨by omega, q 0 _ h.1, q 1 _ h.2.1, q 2 _ h.2.2.1, q 3 _ h.2.2.2.1, q 4 _ h.2.2.2.2.1, q 5 _ h.2.2.2.2.2.1, q 6 _ h.2.2.2.2.2.2⟩
theorem bx_new (w : World) (c : C) (T : TypeId) : ∃ W, w.alloc (.cells #[.int .i64 c.trees, .int .i64 c.depth, .int .i64 c.most, .int .i64 c.rate, .int .i64 c.l2, .int .i64 c.prior, .int .i64 c.seed] T) = W ∧ W.heap.size = w.heap.size + 1 ∧ Below w.heap.size w W ∧ Bx W w.heap.size c :=
  ⟨_, rfl, by simp, (Below.refl _ _).alloc (Nat.le_refl _) _, by simp, by simp [World.cell?_alloc_new], by simp [World.cell?_alloc_new], by simp [World.cell?_alloc_new], by simp [World.cell?_alloc_new], by simp [World.cell?_alloc_new], by simp [World.cell?_alloc_new], by simp [World.cell?_alloc_new]⟩
set_option maxHeartbeats 400000 in
theorem iprior (x : Int) (w : World) : Calls Tryz.prog 57 #[.int .i64 x] w fun e w' => e = .returned (.bool (btw x (-1000000) 1000000)) ∧ w' = w := by
  go_enter Tryz.func57, Tryz.ntmps57
  go_wp2
  all_goals go_ret
  all_goals refine ⟨ret_bool ?_, rfl⟩
  all_goals unfold btw
  all_goals simp
  all_goals first | omega | (rw [Bool.eq_iff_iff]; simp; omega)
end Go.Proofs.YtifemdjookmboaaGreatDoor.Cf
