/-
  Contracts that the proof leans on, put together in the order in which they build.
-/
import Derived.Test.YtkfjlldlbknepaaGreatPart1
import Derived.Deep.RegionWith
import Derived.ProofKit
import Derived.ChangeSame
import Derived.Deep.Strs
import Derived.Deep.Slices
import Derived.ChangeMaps5
/-
  Tables as the laws and both texts hold them: rows of numbers, words and a label; contracts of the laws' own helpers (how great, a copy, a comparison).
-/
namespace Go.Proofs.YtkfjlldlbknepaaGreat.Tb
open Go.RowKit
open Go.Proofs.YtkfjlldlbknepaaGreat.Li (ret_bool ret_int below_none)

/-- A row of a table. -/
structure Row where
  nums : List Int
  cats : List ByteArray
  label : Int
/-- Three cells that read as a row. -/
def RowIs (w : World) (v0 v1 v2 : Value) (r : Row) : Prop :=
  ∃ a0 c0 a1 c1, v0 = .slice a0 r.nums.length c0 ∧ v1 = .slice a1 r.cats.length c1 ∧ v2 = .int .i64 r.label ∧ Li.IsL w a0 r.nums ∧ Ls.IsS w a1 r.cats
/-- Of a size that Go can have. -/
def Row.fits (r : Row) : Prop := r.nums.length ≤ 9223372036854775807 ∧ r.cats.length ≤ 9223372036854775807 ∧ Fits r.cats
def Row.sz (r : Row) : Nat := r.nums.length + (r.cats.length + lets r.cats)
theorem RowIs.below {w w1 : World} {v0 v1 v2 : Value} {r : Row} (h : RowIs w v0 v1 v2 r) (hB : Below w.heap.size w w1) : RowIs w1 v0 v1 v2 r := by
  obtain ⟨a0, c0, a1, c1, e0, e1, e2, h0, h1⟩ := h
  exact ⟨a0, c0, a1, c1, e0, e1, e2, h0.below hB, h1.below hB⟩

set_option maxHeartbeats 1000000 in
theorem szRow (w : World) (v0 v1 v2 : Value) (r : Row) (left : Int) (hr : RowIs w v0 v1 v2 r) (hf : r.fits) (h0 : 0 ≤ left) (h1 : left ≤ 1048576) :
    Calls Tryz.prog 48 #[.agg #[v0, v1, v2], .int .i64 left] w fun e w' => e = .returned (.int .i64 (sub left r.sz)) ∧ Below w.heap.size w w' := by
  obtain ⟨a0, c0, a1, c1, rfl, rfl, rfl, i0, i1⟩ := hr
  obtain ⟨f0, f1, f2⟩ := hf
  go_enter Tryz.func48, Tryz.ntmps48
  go_wp2_with fail
  refine (szInts _ _ _ _ _ h0 h1 f0).mono ?_
  rintro e w' ⟨rfl, hw⟩
  subst w'
  by_cases hn : (r.nums.length : Int) ≤ left
  · rw [sub_yes hn]
    have i1' : Ls.IsS (w.alloc (.cells #[.slice a0 r.nums.length c0, .slice a1 r.cats.length c1, .int .i64 r.label] 83)) a1 r.cats := i1.below ((Below.refl _ _).alloc (Nat.le_refl _) _)
    go_wp2_with fail
    refine (szStrs _ _ _ _ _ i1' f2 (by omega) (by omega) f1).mono ?_
    rintro e w' ⟨rfl, hw⟩
    subst w'
    by_cases hs : ((r.cats.length + lets r.cats : Nat) : Int) ≤ left - r.nums.length
    · have HR : Hid (sub left r.sz = left - r.nums.length - ((r.cats.length + lets r.cats : Nat) : Int)) := by
        show sub _ _ = _
        unfold Row.sz
        rw [sub_yes (by omega)]
        omega
      rw [sub_yes hs]
      obtain ⟨q, hq⟩ : ∃ q, left - r.nums.length - ((r.cats.length + lets r.cats : Nat) : Int) = q := ⟨_, rfl⟩
      rw [hq] at HR ⊢
      have q0 : 0 ≤ q := by omega
      clear hq hs
      go_wp2
      go_ret
      exact ⟨by rw [HR.out]; rfl, (Below.refl _ _).alloc (Nat.le_refl _) _⟩
    · have HR : Hid (sub left r.sz = -1) := sub_no (by unfold Row.sz; omega)
      rw [sub_no hs]
      clear hs
      go_wp2
      go_ret
      exact ⟨by rw [HR.out]; rfl, (Below.refl _ _).alloc (Nat.le_refl _) _⟩
  · have HR : Hid (sub left r.sz = -1) := sub_no (by unfold Row.sz; omega)
    rw [sub_no hn]
    go_wp2
    go_ret
    exact ⟨by rw [HR.out]; rfl, (Below.refl _ _).alloc (Nat.le_refl _) _⟩
theorem grown_set' (w : World) (b o : Nat) (v : Value) : w.grownBy (w.setCell ⟨b, o, none⟩ v) (some b) := Li.grown_set w b o v
theorem own_off {w w1 : World} {B b : Nat} {v : Value} {xs : List Int} (h : Li.Own w B v xs) (hg : w.grownBy w1 (some b)) (hb : b < B) : Li.Own w1 B v xs := by
  refine h.kept hg ?_
  cases e : v.ownBlock with
  | none => exact .inl rfl
  | some k => exact .inr (by have := (h.ge k e).1; simp; omega)
theorem sown_off {w w1 : World} {B b : Nat} {v : Value} {xs : List ByteArray} (h : Ls.Own w B v xs) (hg : w.grownBy w1 (some b)) (hb : b < B) : Ls.Own w1 B v xs := by
  refine h.kept hg ?_
  cases e : v.ownBlock with
  | none => exact .inl rfl
  | some k => exact .inr (by have := (h.ge k e).1; simp; omega)
/-- A variable of three cells. -/
def Box3 (w : World) (b : Nat) (v0 v1 v2 : Value) : Prop :=
  b < w.heap.size ∧ (w.cell? ⟨b, 0, none⟩ = some v0 ∧ w.cell? ⟨b, 1, none⟩ = some v1 ∧ w.cell? ⟨b, 2, none⟩ = some v2) ∧ w.frozen? ⟨b, 0, none⟩ = false ∧ w.frozen? ⟨b, 1, none⟩ = false ∧ w.frozen? ⟨b, 2, none⟩ = false
theorem Box3.keptAt {w w1 : World} {b : Nat} {v0 v1 v2 : Value} (h : Box3 w b v0 v1 v2) (hs : w.heap.size ≤ w1.heap.size) (hb : w1.heap[b]? = w.heap[b]?) : Box3 w1 b v0 v1 v2 := by
  obtain ⟨hlt, ⟨c0, c1, c2⟩, f0, f1, f2⟩ := h
  refine ⟨by omega, ⟨?_, ?_, ?_⟩, ?_, ?_, ?_⟩
  · rw [World.cell?_of_block (w := w) (a := ⟨b, 0, none⟩) hb]; exact c0
  · rw [World.cell?_of_block (w := w) (a := ⟨b, 1, none⟩) hb]; exact c1
  · rw [World.cell?_of_block (w := w) (a := ⟨b, 2, none⟩) hb]; exact c2
  · rw [World.frozen?_of_block (w := w) (a := ⟨b, 0, none⟩) hb]; exact f0
  · rw [World.frozen?_of_block (w := w) (a := ⟨b, 1, none⟩) hb]; exact f1
  · rw [World.frozen?_of_block (w := w) (a := ⟨b, 2, none⟩) hb]; exact f2
theorem Box3.below {w w1 : World} {b : Nat} {v0 v1 v2 : Value} (h : Box3 w b v0 v1 v2) (hB : Below w.heap.size w w1) : Box3 w1 b v0 v1 v2 := h.keptAt hB.size (hB.block b h.1)
theorem Box3.setOther {w : World} {b g o : Nat} {v0 v1 v2 v : Value} (h : Box3 w b v0 v1 v2) (hne : ¬ b = g) : Box3 (w.setCell ⟨g, o, none⟩ v) b v0 v1 v2 :=
  h.keptAt (by simp [World.setCell]) (Below.heap_setCell _ _ _ _ (fun e => hne (by simpa using e)))
theorem Box3.set0 {w : World} {b : Nat} {v0 v1 v2 : Value} (h : Box3 w b v0 v1 v2) (v : Value) : Box3 (w.setCell ⟨b, 0, none⟩ v) b v v1 v2 := by
  obtain ⟨hlt, ⟨c0, c1, c2⟩, f0, f1, f2⟩ := h
  refine ⟨by simpa [World.setCell] using hlt, ⟨World.cell?_setCell_same _ _ _ c0, ?_, ?_⟩, ?_, ?_, ?_⟩
  · rw [World.cell?_setCell_other _ _ _ _ (by simp)]; exact c1
  · rw [World.cell?_setCell_other _ _ _ _ (by simp)]; exact c2
  all_goals (rw [World.frozen?_setCell]; assumption)
theorem Box3.set1 {w : World} {b : Nat} {v0 v1 v2 : Value} (h : Box3 w b v0 v1 v2) (v : Value) : Box3 (w.setCell ⟨b, 1, none⟩ v) b v0 v v2 := by
  obtain ⟨hlt, ⟨c0, c1, c2⟩, f0, f1, f2⟩ := h
  refine ⟨by simpa [World.setCell] using hlt, ⟨?_, World.cell?_setCell_same _ _ _ c1, ?_⟩, ?_, ?_, ?_⟩
  · rw [World.cell?_setCell_other _ _ _ _ (by simp)]; exact c0
  · rw [World.cell?_setCell_other _ _ _ _ (by simp)]; exact c2
  all_goals (rw [World.frozen?_setCell]; assumption)
theorem box3_new (w : World) (v0 v1 v2 : Value) (T : TypeId) : Box3 (w.alloc (.cells #[v0, v1, v2] T)) w.heap.size v0 v1 v2 :=
  ⟨by simp, ⟨by simp [World.cell?_alloc_new], by simp [World.cell?_alloc_new], by simp [World.cell?_alloc_new]⟩, by simp, by simp, by simp⟩
theorem Box3.alloc {w : World} {b : Nat} {v0 v1 v2 : Value} (h : Box3 w b v0 v1 v2) (o : Obj) : Box3 (w.alloc o) b v0 v1 v2 := h.below ((Below.refl _ _).alloc (Nat.le_refl _) _)
theorem size_alloc (w : World) (o : Obj) : (w.alloc o).heap.size = w.heap.size + 1 := by simp
/-- Three variables of three cells, one behind the other. -/
theorem boxes3 (w : World) (v0 v1 v2 x0 x1 x2 y0 y1 y2 : Value) (T U V : TypeId) : ∃ W, ((w.alloc (.cells #[v0, v1, v2] T)).alloc (.cells #[x0, x1, x2] U)).alloc (.cells #[y0, y1, y2] V) = W ∧ W.heap.size = w.heap.size + 3 ∧ Below w.heap.size w W ∧ Box3 W w.heap.size v0 v1 v2 ∧ Box3 W (w.heap.size + 1) x0 x1 x2 ∧ Box3 W (w.heap.size + 2) y0 y1 y2 := by
  refine ⟨_, rfl, by simp, (((Below.refl _ _).alloc (Nat.le_refl _) _).alloc (by simp) _).alloc (by simp; omega) _, ?_, ?_, ?_⟩
  · exact ((box3_new _ _ _ _ _).alloc _).alloc _
  · have := (box3_new (w.alloc (.cells #[v0, v1, v2] T)) x0 x1 x2 U).alloc (.cells #[y0, y1, y2] V)
    rwa [size_alloc] at this
  · have := box3_new ((w.alloc (.cells #[v0, v1, v2] T)).alloc (.cells #[x0, x1, x2] U)) y0 y1 y2 V
    rwa [size_alloc, size_alloc] at this
theorem boxes2 (w : World) (v0 v1 v2 x0 x1 x2 : Value) (T U : TypeId) : ∃ W, (w.alloc (.cells #[v0, v1, v2] T)).alloc (.cells #[x0, x1, x2] U) = W ∧ W.heap.size = w.heap.size + 2 ∧ Below w.heap.size w W ∧ Box3 W w.heap.size v0 v1 v2 ∧ Box3 W (w.heap.size + 1) x0 x1 x2 := by
  refine ⟨_, rfl, by simp, ((Below.refl _ _).alloc (Nat.le_refl _) _).alloc (by simp) _, ?_, ?_⟩
  · exact (box3_new _ _ _ _ _).alloc _
  · have := box3_new (w.alloc (.cells #[v0, v1, v2] T)) x0 x1 x2 U
    rwa [size_alloc] at this
theorem results_cell {fn : Func} {p : Tmp} {ty : TypeId} (h : fn.results = #[.cell p ty]) (tmps : Array Value) (P : Program) (w : World) :
    (results fn tmps).run P w = ((asAddr (tmps.getD p undef)).run P w).andThen fun a w₁ => (loadVar ty a).run P w₁ := by
  simp only [results, h]
  simp [Sem.run_bind, Result.andThen]
set_option maxHeartbeats 1000000 in
theorem toSchema (w : World) (n c : Int) :
    Calls Tryz.prog 29 #[.agg #[.int .i64 n, .int .i64 c]] w fun e w' => e = .returned (.agg #[.int .i64 n, .int .i64 c]) ∧ Below w.heap.size w w' := by
  go_enter Tryz.func29, Tryz.ntmps29
  go_wp2
  refine bodyPost_ret (v := .agg #[.int .i64 n, .int .i64 c]) (by rw [results_cell rfl]; go_simp) rfl ⟨rfl, ?_⟩
  exact (((Below.refl _ _).alloc (Nat.le_refl _) _).alloc (by simp) _).alloc (by simp; omega) _
set_option maxHeartbeats 1000000 in
theorem toRow (w : World) (v0 v1 v2 : Value) (r : Row) (hr : RowIs w v0 v1 v2 r) (hl : r.sz ≤ 1048576) :
    Calls Tryz.prog 55 #[.agg #[v0, v1, v2]] w fun e w' => ∃ u0 u1, e = .returned (.agg #[u0, u1, .int .i64 r.label]) ∧ Li.Own w' w.heap.size u0 r.nums ∧ Ls.Own w' w.heap.size u1 r.cats ∧ (u0.ownBlock = none ∨ u0.ownBlock ≠ u1.ownBlock) ∧ Below w.heap.size w w' := by
  obtain ⟨a0, c0, a1, c1, rfl, rfl, rfl, i0, i1⟩ := hr
  unfold Row.sz at hl
  go_enter Tryz.func55, Tryz.ntmps55
  go_wp2_with fail
  obtain ⟨W, hW, hsz, hB, bx, br, bo⟩ := boxes3 w (.slice a0 r.nums.length c0) (.slice a1 r.cats.length c1) (.int .i64 r.label) (.slice none 0 0) (.slice none 0 0) (.int .i64 0) (.slice none 0 0) (.slice none 0 0) (.int .i64 0) 83 87 87
  rw [hW]
  clear hW
  refine (Li.to_any _ _ _ r.nums (i0.below hB) (by omega)).mono ?_
  rintro e w1 ⟨rfl, o0, hB1⟩
  obtain ⟨u0, hu0⟩ : ∃ u0, Value.slice (some ⟨W.heap.size, 0, none⟩) r.nums.length r.nums.length = u0 := ⟨_, rfl⟩
  have hn0 : u0.ownBlock = some W.heap.size := by rw [← hu0]; rfl
  rw [hu0] at o0 ⊢
  have hcl0 : ∃ p q z, u0 = .slice p q z := ⟨_, _, _, hu0.symm⟩
  clear hu0
  obtain ⟨p0, q0, z0, rfl⟩ := hcl0
  have bx := bx.below hB1
  have br := br.below hB1
  have bo := bo.below hB1
  have o0 := o0.mono (base' := w.heap.size + 3) (by omega)
  have hB := hB.trans (hB1.mono hB.size)
  have hs1 := hB1.size
  clear hB1 hn0
  obtain ⟨w2, hw2, hB2, bx2, br2, bo2, o2⟩ : ∃ w2, w1.setCell ⟨w.heap.size + 1 + 1, 0, none⟩ (.slice p0 q0 z0) = w2 ∧ Below w.heap.size w w2 ∧ Box3 w2 w.heap.size _ _ _ ∧ Box3 w2 (w.heap.size + 1) _ _ _ ∧ Box3 w2 (w.heap.size + 2) _ _ _ ∧ Li.Own w2 (w.heap.size + 3) (.slice p0 q0 z0) r.nums :=
    ⟨_, rfl, hB.setCell (p := ⟨w.heap.size + 1 + 1, 0, none⟩) (by simp; omega) _, bx.setOther (by omega), br.setOther (by omega), bo.set0 _, own_off o0 (grown_set' _ _ _ _) (by omega)⟩
  obtain ⟨_, ⟨cx0, cx1, cx2⟩, _⟩ := bx
  obtain ⟨hbo, ⟨co0, co1, co2⟩, fo0, fo1, fo2⟩ := bo
  have hs2 : w1.heap.size ≤ w2.heap.size := by rw [← hw2]; simp [World.setCell]
  have HW : Hid (w1.setCell ⟨w.heap.size + 1 + 1, 0, none⟩ (.slice p0 q0 z0) = w2) := hw2
  clear hw2
  go_wp2_with fail
  rw [HW.out]
  clear HW cx0 cx1 cx2 co0 co1 co2 fo0 fo1 fo2 hB br o0
  refine (Ls.to_any _ _ _ r.cats (i1.below hB2) (by omega)).mono ?_
  rintro e w3 ⟨rfl, o1, hB3⟩
  obtain ⟨u1, hu1⟩ : ∃ u1, Value.slice (some ⟨w2.heap.size, 0, none⟩) r.cats.length r.cats.length = u1 := ⟨_, rfl⟩
  rw [hu1] at o1 ⊢
  have hcl1 : ∃ p q z, u1 = .slice p q z := ⟨_, _, _, hu1.symm⟩
  clear hu1
  obtain ⟨p1, q1, z1, rfl⟩ := hcl1
  have bx := bx2.below hB3
  have br := br2.below hB3
  have bo := bo2.below hB3
  have hap : (Value.slice p0 q0 z0).ownBlock = none ∨ (Value.slice p0 q0 z0).ownBlock ≠ (Value.slice p1 q1 z1).ownBlock := by
    cases e : (Value.slice p0 q0 z0).ownBlock with
    | none => exact .inl rfl
    | some k => exact .inr fun e' => by have := (o2.ge k e).2; have := (o1.ge k e'.symm).1; omega
  have o0 := o2.below hB3
  have o1 := o1.mono (base' := w.heap.size + 3) (by omega)
  have hB := hB2.trans (hB3.mono hB2.size)
  clear hB3 hB2 bx2 br2 bo2 o2 hs2 hbo hs1
  obtain ⟨_, ⟨cx0, cx1, cx2⟩, _⟩ := bx
  obtain ⟨_, ⟨co0, co1, co2⟩, fo0, fo1, fo2⟩ := bo
  obtain ⟨_, ⟨cr0, cr1, cr2⟩, fr0, fr1, fr2⟩ := br
  go_wp2
  refine bodyPost_ret (v := .agg #[.slice p0 q0 z0, .slice p1 q1 z1, .int .i64 r.label]) (by rw [results_cell rfl]; go_simp) rfl ⟨_, _, rfl, ?_, ?_, hap, ?_⟩
  · exact (own_off (own_off (own_off (own_off (own_off o0 (grown_set' _ _ _ _) (by omega)) (grown_set' _ _ _ _) (by omega)) (grown_set' _ _ _ _) (by omega)) (grown_set' _ _ _ _) (by omega)) (grown_set' _ _ _ _) (by omega)).mono (by omega)
  · exact (sown_off (sown_off (sown_off (sown_off (sown_off o1 (grown_set' _ _ _ _) (by omega)) (grown_set' _ _ _ _) (by omega)) (grown_set' _ _ _ _) (by omega)) (grown_set' _ _ _ _) (by omega)) (grown_set' _ _ _ _) (by omega)).mono (by omega)
  · exact ((((hB.setCell (by simp; omega) _).setCell (by simp; omega) _).setCell (by simp) _).setCell (by simp) _).setCell (by simp) _
def eqRow (r r' : Row) : Bool := Li.eqs r.nums r'.nums && (Ls.eqs r.cats r'.cats && decide (r.label = r'.label))
theorem eqRow_self (r : Row) : eqRow r r = true := by simp [eqRow, Li.eqs_self, Ls.eqs_self]
theorem eqRow_iff {r r' : Row} : eqRow r r' = true ↔ r = r' := by
  constructor
  · intro h
    simp [eqRow, Li.eqs, Ls.eqs] at h
    obtain ⟨a, b, c⟩ := r
    obtain ⟨a', b', c'⟩ := r'
    simp at h
    obtain ⟨rfl, rfl, rfl⟩ := h
    rfl
  · rintro rfl; exact eqRow_self _
set_option maxHeartbeats 1000000 in
theorem eqRows (w : World) (v0 v1 v2 x0 x1 x2 : Value) (r r' : Row) (hr : RowIs w v0 v1 v2 r) (hr' : RowIs w x0 x1 x2 r') (hl : r.sz ≤ 1048576) (hl' : r'.sz ≤ 1048576) :
    Calls Tryz.prog 64 #[.agg #[v0, v1, v2], .agg #[x0, x1, x2]] w fun e w' => e = .returned (.bool (eqRow r r')) ∧ Below w.heap.size w w' := by
  obtain ⟨a0, c0, a1, c1, rfl, rfl, rfl, i0, i1⟩ := hr
  obtain ⟨b0, d0, b1, d1, rfl, rfl, rfl, j0, j1⟩ := hr'
  unfold Row.sz at hl hl'
  go_enter Tryz.func64, Tryz.ntmps64
  go_wp2_with fail
  obtain ⟨W, hW, hsz, hB, bx, br⟩ := boxes2 w (.slice a0 r.nums.length c0) (.slice a1 r.cats.length c1) (.int .i64 r.label) (.slice b0 r'.nums.length d0) (.slice b1 r'.cats.length d1) (.int .i64 r'.label) 87 87
  rw [hW]
  clear hW
  refine (Li.eq_bel _ _ _ _ _ r.nums r'.nums (i0.below hB) (j0.below hB) (by omega) (by omega)).mono ?_
  rintro e w1 ⟨rfl, hB1⟩
  have bx := bx.below hB1
  have br := br.below hB1
  have hB := hB.trans (hB1.mono hB.size)
  clear hB1 hsz
  have i1 := i1.below hB
  have j1 := j1.below hB
  obtain ⟨_, ⟨cx0, cx1, cx2⟩, _⟩ := id bx
  obtain ⟨_, ⟨cr0, cr1, cr2⟩, _⟩ := id br
  cases he : Li.eqs r.nums r'.nums
  · have HR : Hid (eqRow r r' = false) := by show eqRow r r' = false; unfold eqRow; rw [he]; rfl
    clear he
    go_wp2
    go_ret
    exact ⟨by rw [HR.out]; rfl, hB⟩
  · have HE : Hid (Li.eqs r.nums r'.nums = true) := he
    clear he
    go_wp2_with fail
    clear cx0 cx1 cx2 cr0 cr1 cr2
    refine (Ls.eq_bel _ _ _ _ _ r.cats r'.cats i1 j1 (by omega) (by omega)).mono ?_
    rintro e w2 ⟨rfl, hB2⟩
    have bx := bx.below hB2
    have br := br.below hB2
    have hB := hB.trans (hB2.mono hB.size)
    clear hB2
    obtain ⟨_, ⟨cx0, cx1, cx2⟩, _⟩ := bx
    obtain ⟨_, ⟨cr0, cr1, cr2⟩, _⟩ := br
    cases he : Ls.eqs r.cats r'.cats
    · have HR : Hid (eqRow r r' = false) := by show eqRow r r' = false; unfold eqRow; rw [HE.out, he]; rfl
      clear he
      go_wp2
      go_ret
      exact ⟨by rw [HR.out]; rfl, hB⟩
    · by_cases hlb : r.label = r'.label
      · have HR : Hid (eqRow r r' = true) := by show eqRow r r' = true; unfold eqRow; rw [HE.out, he]; simp [hlb]
        have hlb' : (r.label != r'.label) = false := by simpa using hlb
        clear he hlb
        go_wp2
        go_ret
        exact ⟨by rw [HR.out]; rfl, hB⟩
      · have HR : Hid (eqRow r r' = false) := by show eqRow r r' = false; unfold eqRow; rw [HE.out, he]; simp [hlb]
        have hlb' : (r.label != r'.label) = true := by simpa using hlb
        clear he hlb
        go_wp2
        go_ret
        exact ⟨by rw [HR.out]; rfl, hB⟩
set_option maxHeartbeats 1000000 in
theorem eqSchema (w : World) (n c n' c' : Int) :
    Calls Tryz.prog 36 #[.agg #[.int .i64 n, .int .i64 c], .agg #[.int .i64 n', .int .i64 c']] w fun e w' => e = .returned (.bool (decide (n = n' ∧ c = c'))) ∧ Below w.heap.size w w' := by
  go_enter Tryz.func36, Tryz.ntmps36
  go_wp2
  all_goals go_ret
  all_goals refine ⟨ret_bool ?_, ((Below.refl _ _).alloc (Nat.le_refl _) _).alloc (by simp) _⟩
  all_goals simp at *
  all_goals omega
/-- The slice of address a reads as these rows. -/
def IsR (w : World) (a : Option Addr) (rs : List Row) : Prop :=
  rs = [] ∨ ∃ b off, a = some ⟨b, off, none⟩ ∧ b < w.heap.size ∧ ∀ j (hj : j < rs.length), ∃ v0 v1 v2, (w.cell? ⟨b, off + j * 3, none⟩ = some v0 ∧ w.cell? ⟨b, off + j * 3 + 1, none⟩ = some v1 ∧ w.cell? ⟨b, off + j * 3 + 2, none⟩ = some v2) ∧ RowIs w v0 v1 v2 rs[j]
theorem IsR.below {w w1 : World} {a : Option Addr} {rs : List Row} (h : IsR w a rs) (hB : Below w.heap.size w w1) : IsR w1 a rs := by
  rcases h with h | ⟨b, off, rfl, hb, hc⟩
  · exact .inl h
  · refine .inr ⟨b, off, rfl, Nat.lt_of_lt_of_le hb hB.size, fun j hj => ?_⟩
    obtain ⟨v0, v1, v2, ⟨c0, c1, c2⟩, hr⟩ := hc j hj
    exact ⟨v0, v1, v2, ⟨(hB.cell (by exact hb)).trans c0, (hB.cell (by exact hb)).trans c1, (hB.cell (by exact hb)).trans c2⟩, hr.below hB⟩
def szR : List Row → Nat
  | [] => 0
  | r :: rs => r.sz + szR rs
theorem szR_take (rs : List Row) (k : Nat) (h : k < rs.length) : szR (rs.take (k + 1)) = szR (rs.take k) + rs[k].sz := by
  induction rs generalizing k with
  | nil => simp at h
  | cons s r ih =>
    cases k with
    | zero => simp [szR]
    | succ k =>
      simp only [List.take_succ_cons, szR, List.getElem_cons_succ]
      rw [ih k (by simpa using h)]
      omega
theorem szR_le (rs : List Row) (k : Nat) : szR (rs.take k) ≤ szR rs := by
  induction rs generalizing k with
  | nil => simp
  | cons s r ih =>
    cases k with
    | zero => simp [szR]
    | succ k => simp only [List.take_succ_cons, szR]; have := ih k; omega
theorem szR_at (rs : List Row) (k : Nat) (h : k < rs.length) : rs[k].sz ≤ szR rs := by
  have h1 := szR_take rs k h
  have h2 := szR_le rs (k + 1)
  omega
/-- All rows of a size that Go can have. -/
def FitsR (rs : List Row) : Prop := rs.length ≤ 9223372036854775807 ∧ ∀ j (hj : j < rs.length), rs[j].fits

set_option maxHeartbeats 1000000 in
theorem szRows (w : World) (a : Option Addr) (cap : Nat) (left : Int) (rs : List Row) (hx : IsR w a rs) (hf : FitsR rs) (h0 : 0 ≤ left) (h1 : left ≤ 1048576) :
    Calls Tryz.prog 25 #[.slice a rs.length cap, .int .i64 left] w fun e w' => e = .returned (.int .i64 (sub left (rs.length + szR rs))) ∧ Below w.heap.size w w' := by
  have hn := hf.1
  by_cases h : (rs.length : Int) ≤ left
  · go_enter Tryz.func25, Tryz.ntmps25
    go_wp2
    go_loopw [1, 5] (fun q i wr => ∃ k : Nat, k ≤ rs.length ∧ i = .int .i64 k ∧ q = .int .i64 (left - rs.length - szR (rs.take k)) ∧ (szR (rs.take k) : Int) ≤ left - rs.length ∧ Below w.heap.size w wr) (fun _ i _ => rs.length - (intOf i).toNat)
    case atStart => exact ⟨0, Nat.zero_le _, rfl, by simp [szR], by simp [szR]; omega, Below.refl _ _⟩
    case round =>
      obtain ⟨k, hk, rfl, rfl, hle, hB⟩ := hrel
      by_cases hlt : k < rs.length
      · rcases hx.below hB with rfl | ⟨b, off, rfl, hb, hc⟩
        · simp at hlt
        · obtain ⟨v0, v1, v2, ⟨cx0, cx1, cx2⟩, hr⟩ := hc k hlt
          have hfk := hf.2 k hlt
          have HT : Hid (szR (rs.take (k + 1)) = szR (rs.take k) + rs[k].sz) := szR_take rs k hlt
          have HL : Hid (szR (rs.take (k + 1)) ≤ szR rs) := szR_le rs (k + 1)
          obtain ⟨L, hL⟩ : ∃ L, szR (rs.take k) = L := ⟨_, rfl⟩
          rw [hL] at hle HT ⊢
          clear hc hL
          go_wp2_with fail
          refine (szRow _ _ _ _ rs[k] _ hr hfk (by omega) (by omega)).mono ?_
          rintro e w1 ⟨rfl, hB1⟩
          have hB := hB.trans (hB1.mono hB.size)
          clear hB1 cx0 cx1 cx2 hr hfk hb
          obtain ⟨z, hz⟩ : ∃ z, rs[k].sz = z := ⟨_, rfl⟩
          rw [hz] at HT ⊢
          clear hz
          by_cases hfit : (z : Int) ≤ left - rs.length - L
          · rw [sub_yes hfit]
            go_wp2
            go_roundw
            case rel => exact ⟨k + 1, by omega, by go_num, by rw [HT.out]; go_num, by rw [HT.out]; omega, hB⟩
            case measure => simp [intOf]; omega
          · rw [sub_no hfit]
            have HR : Hid (sub left (rs.length + szR rs) = -1) := sub_no (by have := HT.out; have := HL.out; omega)
            go_wp2
            go_ret
            exact ⟨by rw [HR.out]; rfl, hB⟩
      · obtain rfl : k = rs.length := by omega
        have ht : rs.take rs.length = rs := List.take_length
        rw [ht] at hle ⊢
        have HR : Hid (sub left (rs.length + szR rs) = left - rs.length - szR rs) := by show sub _ _ = _; rw [sub_yes (by omega)]; omega
        go_wp2
        go_ret
        exact ⟨by rw [HR.out]; rfl, hB⟩
  · rw [sub_no (by omega)]
    go_enter Tryz.func25, Tryz.ntmps25
    go_wp2
    go_ret
    exact ⟨rfl, Below.refl _ _⟩
theorem eqR_len {rs rs' : List Row} (h : ¬ rs.length = rs'.length) : ¬ rs = rs' := fun e => h (by rw [e])
/-- The first k rows are alike. -/
def LikeR (rs rs' : List Row) (k : Nat) : Prop := ∀ j (h : j < rs.length) (h' : j < rs'.length), j < k → rs[j] = rs'[j]
theorem likeR_all {rs rs' : List Row} (hl : rs.length = rs'.length) (h : LikeR rs rs' rs.length) : rs = rs' :=
  List.ext_getElem hl (fun i h1 h2 => h i h1 h2 h1)
set_option maxHeartbeats 1000000 in
theorem eqTabLen (w : World) (a b : Option Addr) (n m ca cb : Nat) (h : ¬ n = m) :
    Calls Tryz.prog 39 #[.slice a n ca, .slice b m cb] w fun e w' => e = .returned (.bool false) ∧ w' = w := by
  go_enter Tryz.func39, Tryz.ntmps39
  go_wp2
  go_ret
  exact ⟨rfl, rfl⟩
set_option maxHeartbeats 1000000 in
theorem eqTabWalk (w : World) (a b : Option Addr) (ca cb : Nat) (rs rs' : List Row) (hx : IsR w a rs) (hy : IsR w b rs') (he : rs.length = rs'.length) (hl : rs.length + szR rs ≤ 1048576) (hl' : rs'.length + szR rs' ≤ 1048576) :
    Calls Tryz.prog 39 #[.slice a rs.length ca, .slice b rs'.length cb] w fun e w' => ∃ q : Bool, e = .returned (.bool q) ∧ (q = true ↔ rs = rs') ∧ Below w.heap.size w w' := by
  have hb : ((rs.length : Int) != (rs'.length : Int)) = false := by simp; omega
  have HE : Hid (rs.length = rs'.length) := he
  clear he
  go_enter Tryz.func39, Tryz.ntmps39
  go_wp2
  go_loopw [5] (fun i wr => ∃ k : Nat, k ≤ rs.length ∧ i = .int .i64 k ∧ LikeR rs rs' k ∧ Below w.heap.size w wr) (fun i _ => rs.length - (intOf i).toNat)
  case atStart => exact ⟨0, Nat.zero_le _, rfl, fun j _ _ hj => by omega, Below.refl _ _⟩
  case round =>
    obtain ⟨k, hk, rfl, hlike, hB⟩ := hrel
    have HL : Hid (LikeR rs rs' k) := hlike
    clear hlike
    by_cases hlt : k < rs.length
    · rcases hx.below hB with rfl | ⟨xb, xo, rfl, hxb, hxc⟩
      · simp at hlt
      · rcases hy.below hB with rfl | ⟨yb, yo, rfl, hyb, hyc⟩
        · have := HE.out; simp at this; simp [this] at hlt
        · have hlt' : k < rs'.length := by have := HE.out; omega
          obtain ⟨v0, v1, v2, ⟨cx0, cx1, cx2⟩, hr⟩ := hxc k hlt
          obtain ⟨u0, u1, u2, ⟨cy0, cy1, cy2⟩, hr'⟩ := hyc k hlt'
          clear hxc hyc
          have hz := szR_at rs k hlt
          have hz' := szR_at rs' k hlt'
          go_wp2
          go_region_with (go_at_call 64; refine (eqRows _ _ _ _ _ _ _ rs[k] rs'[k] (by exact hr) (by exact hr') (by omega) (by omega)).mono ?_; rintro e w1 ⟨rfl, hB1⟩)
          all_goals
            have hB : Below w.heap.size w w1 := by first | exact hB.trans (hB1.mono hB.size) | exact hB.drew.trans (hB1.mono hB.size)
            clear hB1
            cases hq : eqRow rs[k] rs'[k]
            · have HF : Hid (false = true ↔ rs = rs') := ⟨fun h => (by cases h), fun e => (by subst e; rw [eqRow_self] at hq; cases hq)⟩
              clear hq
              go_wp2
              go_ret
              exact ⟨false, rfl, HF.out, hB⟩
            · have HQ : Hid (rs[k] = rs'[k]) := eqRow_iff.1 hq
              clear hq
              go_wp2
              go_roundw
              case rel =>
                refine ⟨k + 1, by omega, by go_num, fun j h h' hj => ?_, hB⟩
                by_cases e : j = k
                · subst e; exact HQ.out
                · exact HL.out j h h' (by omega)
              case measure => simp [intOf]; omega
    · obtain rfl : k = rs.length := by omega
      have HR : Hid (rs = rs') := likeR_all HE.out HL.out
      go_wp2
      go_ret
      exact ⟨true, rfl, by simpa using HR.out, hB⟩
theorem eqTab (w : World) (a b : Option Addr) (ca cb : Nat) (rs rs' : List Row) (hx : IsR w a rs) (hy : IsR w b rs') (hl : rs.length + szR rs ≤ 1048576) (hl' : rs'.length + szR rs' ≤ 1048576) :
    Calls Tryz.prog 39 #[.slice a rs.length ca, .slice b rs'.length cb] w fun e w' => ∃ q : Bool, e = .returned (.bool q) ∧ (q = true ↔ rs = rs') ∧ Below w.heap.size w w' := by
  by_cases he : rs.length = rs'.length
  · exact eqTabWalk w a b ca cb rs rs' hx hy he hl hl'
  · refine (eqTabLen w a b _ _ ca cb he).mono ?_
    rintro e w' ⟨rfl, rfl⟩
    exact ⟨false, rfl, ⟨fun h => (by cases h), fun e => absurd e (eqR_len he)⟩, Below.refl _ _⟩
theorem info_smp : (Tryz.prog.info? 87).map (fun i => (i.zero, i.size, i.bytes)) = some (some (.agg #[.slice none 0 0, .slice none 0 0, .int .i64 0]), 3, 56) := by kernel_rfl
/-- What u owns lies apart from what v owns. -/
def apart (u v : Value) : Prop := u.ownBlock = none ∨ u.ownBlock ≠ v.ownBlock
theorem apart_of {u v : Value} (h : ∀ k, u.ownBlock = some k → v.ownBlock = some k → False) : apart u v := by
  cases e : u.ownBlock with
  | none => exact .inl e
  | some k => exact .inr fun e' => h k e (by rw [← e', e])
/-- The rows' own slices, as far as k, lie apart from one another and from block g. -/
def Sp (V0 V1 : Nat → Value) (g k : Nat) : Prop :=
  (∀ i, i < k → (V0 i).ownBlock ≠ some g ∧ (V1 i).ownBlock ≠ some g) ∧
  ∀ i j, i < k → j < k → (i ≠ j → apart (V0 i) (V0 j) ∧ apart (V1 i) (V1 j)) ∧ apart (V0 i) (V1 j)
def Nest (w : World) (B g : Nat) (V0 V1 : Nat → Value) (xs : List Value) (rs : List Row) (k : Nat) : Prop :=
  (∀ i (hi : i < rs.length), i < k → (xs[i * 3]? = some (V0 i) ∧ xs[i * 3 + 1]? = some (V1 i) ∧ xs[i * 3 + 2]? = some (.int .i64 rs[i].label)) ∧ Li.Own w B (V0 i) rs[i].nums ∧ Ls.Own w B (V1 i) rs[i].cats) ∧ Sp V0 V1 g k
theorem nest_zero (w : World) (B g : Nat) (V0 V1 : Nat → Value) (xs : List Value) (rs : List Row) : Nest w B g V0 V1 xs rs 0 :=
  ⟨fun _ _ h => by omega, fun _ h => by omega, fun _ _ h => by omega⟩
def upd (V : Nat → Value) (k : Nat) (u : Value) : Nat → Value := fun i => if i = k then u else V i
theorem upd_at (V : Nat → Value) (k : Nat) (u : Value) : upd V k u k = u := if_pos rfl
theorem upd_off {V : Nat → Value} {k i : Nat} (u : Value) (h : i ≠ k) : upd V k u i = V i := if_neg h
theorem nest_step {wr w2 : World} {B g k : Nat} {V0 V1 : Nat → Value} {xs : List Value} {rs : List Row} {u0 u1 : Value} (h : Nest wr B g V0 V1 xs rs k) (hk : k < rs.length) (hxl : xs.length = rs.length * 3)
    (hg : g < B) (hB : B ≤ wr.heap.size) (o0 : Li.Own w2 wr.heap.size u0 rs[k].nums) (o1 : Ls.Own w2 wr.heap.size u1 rs[k].cats) (ha : apart u0 u1) (hb : Below wr.heap.size wr w2) :
    Nest (((w2.setCell ⟨g, k * 3, none⟩ u0).setCell ⟨g, k * 3 + 1, none⟩ u1).setCell ⟨g, k * 3 + 2, none⟩ (.int .i64 rs[k].label)) B g (upd V0 k u0) (upd V1 k u1) (((xs.set (k * 3) u0).set (k * 3 + 1) u1).set (k * 3 + 2) (.int .i64 rs[k].label)) rs (k + 1) := by
  obtain ⟨h1, h2, h3⟩ := h
  have old0 : ∀ i (hi : i < rs.length), i < k → ∀ b, (V0 i).ownBlock = some b → B ≤ b ∧ b < wr.heap.size := fun i hi hik b e => ((h1 i hi hik).2.1).ge b e
  have old1 : ∀ i (hi : i < rs.length), i < k → ∀ b, (V1 i).ownBlock = some b → B ≤ b ∧ b < wr.heap.size := fun i hi hik b e => ((h1 i hi hik).2.2).ge b e
  have new0 : ∀ b, u0.ownBlock = some b → wr.heap.size ≤ b := fun b e => (o0.ge b e).1
  have new1 : ∀ b, u1.ownBlock = some b → wr.heap.size ≤ b := fun b e => (o1.ge b e).1
  have s3 : ∀ {v : Value} {ys : List Int}, Li.Own w2 B v ys → Li.Own (((w2.setCell ⟨g, k * 3, none⟩ u0).setCell ⟨g, k * 3 + 1, none⟩ u1).setCell ⟨g, k * 3 + 2, none⟩ (.int .i64 rs[k].label)) B v ys :=
    fun o => own_off (own_off (own_off o (grown_set' _ _ _ _) hg) (grown_set' _ _ _ _) hg) (grown_set' _ _ _ _) hg
  have t3 : ∀ {v : Value} {ys : List ByteArray}, Ls.Own w2 B v ys → Ls.Own (((w2.setCell ⟨g, k * 3, none⟩ u0).setCell ⟨g, k * 3 + 1, none⟩ u1).setCell ⟨g, k * 3 + 2, none⟩ (.int .i64 rs[k].label)) B v ys :=
    fun o => sown_off (sown_off (sown_off o (grown_set' _ _ _ _) hg) (grown_set' _ _ _ _) hg) (grown_set' _ _ _ _) hg
  refine ⟨fun i hi hik => ?_, fun i hik => ?_, fun i j hik hjk => ?_⟩
  · by_cases e : i = k
    · subst e
      rw [upd_at, upd_at]
      refine ⟨⟨?_, ?_, ?_⟩, s3 (o0.mono hB), t3 (o1.mono hB)⟩
      · simp only [List.getElem?_set, List.length_set]; rw [if_neg (by omega), if_neg (by omega), if_pos True.intro, if_pos (by omega)]
      · simp only [List.getElem?_set, List.length_set]; rw [if_neg (by omega), if_pos True.intro, if_pos (by omega)]
      · simp only [List.getElem?_set, List.length_set]; rw [if_pos True.intro, if_pos (by omega)]
    · rw [upd_off _ e, upd_off _ e]
      obtain ⟨⟨c0, c1, c2⟩, p0, p1⟩ := h1 i hi (by omega)
      refine ⟨⟨?_, ?_, ?_⟩, s3 (p0.below hb), t3 (p1.below hb)⟩
      · simp only [List.getElem?_set]; rw [if_neg (by omega), if_neg (by omega), if_neg (by omega)]; exact c0
      · simp only [List.getElem?_set]; rw [if_neg (by omega), if_neg (by omega), if_neg (by omega)]; exact c1
      · simp only [List.getElem?_set]; rw [if_neg (by omega), if_neg (by omega), if_neg (by omega)]; exact c2
  · by_cases e : i = k
    · subst e
      rw [upd_at, upd_at]
      exact ⟨fun e => by have := new0 g e; omega, fun e => by have := new1 g e; omega⟩
    · rw [upd_off _ e, upd_off _ e]
      exact h2 i (by omega)
  · by_cases ei : i = k
    · by_cases ej : j = k
      · subst ei; subst ej
        rw [upd_at, upd_at]
        exact ⟨fun h => absurd rfl h, ha⟩
      · subst ei
        rw [upd_at, upd_at, upd_off _ ej, upd_off _ ej]
        have a0 := old0 j (by omega) (by omega)
        have a1 := old1 j (by omega) (by omega)
        exact ⟨fun _ => ⟨apart_of fun b e e' => by have := new0 b e; have := (a0 b e').2; omega, apart_of fun b e e' => by have := new1 b e; have := (a1 b e').2; omega⟩, apart_of fun b e e' => by have := new0 b e; have := (a1 b e').2; omega⟩
    · by_cases ej : j = k
      · subst ej
        rw [upd_at, upd_at, upd_off _ ei, upd_off _ ei]
        have a0 := old0 i (by omega) (by omega)
        have a1 := old1 i (by omega) (by omega)
        exact ⟨fun _ => ⟨apart_of fun b e e' => by have := new0 b e'; have := (a0 b e).2; omega, apart_of fun b e e' => by have := new1 b e'; have := (a1 b e).2; omega⟩, apart_of fun b e e' => by have := new1 b e'; have := (a0 b e).2; omega⟩
      · rw [upd_off _ ei, upd_off _ ej, upd_off _ ei, upd_off _ ej]
        exact h3 i j (by omega) (by omega)
/-- What a slice of the call's own holds hangs on its own block alone. -/
theorem ownsRow_at {w w1 : World} {base : Nat} {e : TypeId} {size : Nat} {v : Value} {n : Nat} {xs : List Value} (h : w.ownsRow base e size v n xs) (hk : ∀ k, v.ownBlock = some k → w1.heap[k]? = w.heap[k]?) : w1.ownsRow base e size v n xs := by
  refine ⟨h.1, ?_⟩
  rcases h.2 with h | ⟨g, cap, cur, rfl, hb, hh, r⟩
  · exact .inl h
  · exact .inr ⟨g, cap, cur, rfl, hb, by rw [hk g rfl]; exact hh, r⟩
/-- A slice of rows of the call's own, all the way down, in blocks from lo on, below hi. -/
def OwnT (w : World) (lo hi : Nat) (v : Value) (rs : List Row) : Prop :=
  ∃ g xs V0 V1, (∀ k, v.ownBlock = some k → k = g ∧ k < hi) ∧ w.ownsRow lo 87 3 v rs.length xs ∧ Nest w lo g V0 V1 xs rs rs.length ∧
    ∀ i, i < rs.length → (∀ b, (V0 i).ownBlock = some b → b < hi) ∧ (∀ b, (V1 i).ownBlock = some b → b < hi)
theorem OwnT.isr {w : World} {lo hi : Nat} {v : Value} {rs : List Row} (h : OwnT w lo hi v rs) : ∃ a cap, v = .slice a rs.length cap ∧ IsR w a rs := by
  obtain ⟨g, xs, V0, V1, hg, hown, ⟨hn, _⟩, _⟩ := h
  have hown' := hown
  rcases hown.2 with ⟨rfl, h0⟩ | ⟨g', cap, cur, rfl, hb, hh, _⟩
  · exact ⟨none, 0, by rw [h0], .inl (List.length_eq_zero_iff.1 h0)⟩
  · obtain ⟨rfl, _⟩ := hg g' rfl
    have hlt : g' < w.heap.size := (Array.getElem?_eq_some_iff.1 hh).1
    refine ⟨_, cap, rfl, .inr ⟨g', 0, rfl, hlt, fun j hj => ?_⟩⟩
    obtain ⟨⟨c0, c1, c2⟩, o0, o1⟩ := hn j hj hj
    refine ⟨V0 j, V1 j, .int .i64 rs[j].label, ⟨?_, ?_, ?_⟩, ?_⟩
    · rw [Nat.zero_add, World.ownsRow.cellAt hown' _ (by omega), c0]
    · rw [Nat.zero_add, World.ownsRow.cellAt hown' _ (by omega), c1]
    · rw [Nat.zero_add, World.ownsRow.cellAt hown' _ (by omega), c2]
    · obtain ⟨a0, q0, e0, i0⟩ := o0.isl
      obtain ⟨a1, q1, e1, i1⟩ := o1.iss
      exact ⟨a0, q0, a1, q1, e0, e1, rfl, i0, i1⟩
/-- Nothing in lo .. hi - 1 has turned: what is owned there stands. -/
theorem OwnT.keptAt {w w1 : World} {lo hi : Nat} {v : Value} {rs : List Row} (h : OwnT w lo hi v rs) (hk : ∀ k, lo ≤ k → k < hi → k < w.heap.size → w1.heap[k]? = w.heap[k]?) : OwnT w1 lo hi v rs := by
  obtain ⟨g, xs, V0, V1, hg, hown, ⟨hn, hs⟩, hv⟩ := h
  refine ⟨g, xs, V0, V1, hg, ownsRow_at hown (fun k e => hk k (World.ownsRow.lt hown k e).1 (hg k e).2 (World.ownsRow.lt hown k e).2), ⟨fun i hi' hik => ?_, hs⟩, hv⟩
  obtain ⟨hc, o0, o1⟩ := hn i hi' hik
  exact ⟨hc, ownsRow_at o0 (fun k e => hk k (o0.ge k e).1 ((hv i hi').1 k e) (o0.ge k e).2), ownsRow_at o1 (fun k e => hk k (o1.ge k e).1 ((hv i hi').2 k e) (o1.ge k e).2)⟩
theorem OwnT.below {w w1 : World} {lo hi : Nat} {v : Value} {rs : List Row} (h : OwnT w lo hi v rs) (hB : Below w.heap.size w w1) : OwnT w1 lo hi v rs :=
  h.keptAt fun k _ _ hk => hB.block k hk
theorem OwnT.off {w w1 : World} {lo hi b : Nat} {v : Value} {rs : List Row} (h : OwnT w lo hi v rs) (hg : w.grownBy w1 (some b)) (hb : b < lo ∨ hi ≤ b) : OwnT w1 lo hi v rs :=
  h.keptAt fun k h1 h2 hk => hg.block k hk (by simp; omega)
theorem OwnT.mono {w : World} {lo lo' hi hi' : Nat} {v : Value} {rs : List Row} (h : OwnT w lo hi v rs) (hl : lo' ≤ lo) (hh : hi ≤ hi') : OwnT w lo' hi' v rs := by
  obtain ⟨g, xs, V0, V1, hg, hown, ⟨hn, hs⟩, hv⟩ := h
  refine ⟨g, xs, V0, V1, fun k e => ⟨(hg k e).1, by have := (hg k e).2; omega⟩, ?_, ⟨fun i hi' hik => ?_, hs⟩, fun i hi' => ⟨fun b e => by have := (hv i hi').1 b e; omega, fun b e => by have := (hv i hi').2 b e; omega⟩⟩
  · refine ⟨hown.1, ?_⟩
    rcases hown.2 with h | ⟨g', cap, cur, e, hb', r⟩
    · exact .inl h
    · exact .inr ⟨g', cap, cur, e, by omega, r⟩
  · obtain ⟨hc, o0, o1⟩ := hn i hi' hik
    exact ⟨hc, o0.mono hl, o1.mono hl⟩
theorem OwnT.nil (w : World) (lo hi : Nat) : OwnT w lo hi (.slice none 0 0) [] :=
  ⟨0, [], fun _ => undef, fun _ => undef, fun k e => by simp [Value.ownBlock] at e, World.ownsRow_nil _ _ _ _, nest_zero _ _ _ _ _ _ _, fun i h => by simp at h⟩
set_option maxHeartbeats 1000000 in
theorem toRows (w : World) (a : Option Addr) (cap : Nat) (rs : List Row) (hx : IsR w a rs) (hl : rs.length + szR rs ≤ 1048576) :
    Calls Tryz.prog 32 #[.slice a rs.length cap] w fun e w' => ∃ v, e = .returned v ∧ OwnT w' w.heap.size w'.heap.size v rs ∧ Below w.heap.size w w' := by
  obtain ⟨i0, hi, hz0, hz1, hz2⟩ := info_parts info_smp
  go_enter Tryz.func32, Tryz.ntmps32
  go_wp2_with (at_make; refine wpList_make_full _ rfl _ _ 41 rfl w.heap.size 87 i0 (.agg #[.slice none 0 0, .slice none 0 0, .int .i64 0]) 3 Tryz.underlying41 hi hz0 hz1 _ _ _ _ rs.length rfl rfl (by omega) (by omega) (by rw [hz2]; omega) (by unfold maxLen; omega) (Nat.le_refl _) ?_; intro w1 hown hgrow)
  have hB1 := below_none hgrow
  have hxl := hown.1
  have hlt1 : w.heap.size < w1.heap.size := (World.ownsRow.lt hown w.heap.size rfl).2
  obtain ⟨xs0, hxs⟩ : ∃ xs, (madeCells (Value.agg #[.slice none 0 0, .slice none 0 0, .int .i64 0]).cells (rs.length * 3)).toList = xs := ⟨_, rfl⟩
  rw [hxs] at hown hxl
  clear hxs hgrow
  go_loopw [4] (fun i wr => ∃ k : Nat, k ≤ rs.length ∧ i = .int .i64 k ∧ ∃ xs V0 V1, wr.ownsRow w.heap.size 87 3 (.slice (some ⟨w.heap.size, 0, none⟩) rs.length rs.length) rs.length xs ∧ Nest wr (w.heap.size + 1) w.heap.size V0 V1 xs rs k ∧ Below w.heap.size w wr) (fun i _ => rs.length - (intOf i).toNat)
  case atStart => exact ⟨0, Nat.zero_le _, rfl, xs0, fun _ => undef, fun _ => undef, hown, nest_zero _ _ _ _ _ _ _, hB1⟩
  case round =>
    obtain ⟨k, hk, rfl, xs, V0, V1, hown, hnest, hB⟩ := hrel
    have hxl := hown.1
    have hltr : w.heap.size < wr.heap.size := (World.ownsRow.lt hown w.heap.size rfl).2
    by_cases hlt : k < rs.length
    · rcases hx.below hB with rfl | ⟨b, off, rfl, hb, hc⟩
      · simp at hlt
      · obtain ⟨v0, v1, v2, ⟨cx0, cx1, cx2⟩, hr⟩ := hc k hlt
        have hz := szR_at rs k hlt
        clear hc
        go_wp2_with fail
        refine (toRow _ _ _ _ rs[k] hr (by omega)).mono ?_
        rintro e w2 ⟨u0, u1, rfl, o0, o1, hap, hB2⟩
        have HN : Hid (Nest (((w2.setCell ⟨w.heap.size, k * 3, none⟩ u0).setCell ⟨w.heap.size, k * 3 + 1, none⟩ u1).setCell ⟨w.heap.size, k * 3 + 2, none⟩ (.int .i64 rs[k].label)) (w.heap.size + 1) w.heap.size _ _ _ rs (k + 1)) := nest_step hnest hlt hxl (Nat.lt_succ_self _) hltr o0 o1 hap hB2
        have hown2 : w2.ownsRow w.heap.size 87 3 (.slice (some ⟨w.heap.size, 0, none⟩) rs.length rs.length) rs.length xs := hown.kept (row := none) ⟨hB2.os, hB2.tape, hB2.output, hB2.size, fun q hq _ => hB2.block q hq⟩ (.inr (by simp [Value.ownBlock]))
        have k0 := World.ownsRow.cellAt hown2 (k * 3) (by omega)
        have k1 := World.ownsRow.cellAt hown2 (k * 3 + 1) (by omega)
        have k2 := World.ownsRow.cellAt hown2 (k * 3 + 2) (by omega)
        rw [List.getElem?_eq_getElem (by omega)] at k0 k1 k2
        have f0 := World.ownsRow.frozenAt hown2 (k * 3)
        have f1 := World.ownsRow.frozenAt hown2 (k * 3 + 1)
        have f2 := World.ownsRow.frozenAt hown2 (k * 3 + 2)
        have HW : Hid _ := (World.ownsRow.stored (World.ownsRow.stored (World.ownsRow.stored hown2 (k * 3) u0).1 (k * 3 + 1) u1).1 (k * 3 + 2) (.int .i64 rs[k].label)).1
        obtain ⟨p0, q0, e0, _⟩ := o0.isl
        obtain ⟨p1, q1, e1, _⟩ := o1.iss
        subst e0
        subst e1
        have hB := hB.trans (hB2.mono hB.size)
        obtain ⟨x0, hx0⟩ : ∃ x, xs[k * 3]'(by omega) = x := ⟨_, rfl⟩
        obtain ⟨x1, hx1⟩ : ∃ x, xs[k * 3 + 1]'(by omega) = x := ⟨_, rfl⟩
        obtain ⟨x2, hx2⟩ : ∃ x, xs[k * 3 + 2]'(by omega) = x := ⟨_, rfl⟩
        rw [hx0] at k0
        rw [hx1] at k1
        rw [hx2] at k2
        clear hx0 hx1 hx2 hown hown2 hnest o0 o1 hap hB2 cx0 cx1 cx2 hr hltr hxl
        go_wp2
        go_roundw
        case rel => exact ⟨k + 1, by omega, by go_num, _, _, _, HW.out, HN.out, ((hB.setCell (p := ⟨w.heap.size, k * 3, none⟩) (Nat.le_refl _) _).setCell (p := ⟨w.heap.size, k * 3 + 1, none⟩) (Nat.le_refl _) _).setCell (p := ⟨w.heap.size, k * 3 + 2, none⟩) (Nat.le_refl _) _⟩
        case measure => simp [intOf]; omega
    · obtain rfl : k = rs.length := by omega
      have HO : Hid (OwnT wr w.heap.size wr.heap.size (.slice (some ⟨w.heap.size, 0, none⟩) rs.length rs.length) rs) :=
        ⟨w.heap.size, xs, V0, V1, fun k e => by simp [Value.ownBlock] at e; subst e; exact ⟨rfl, hltr⟩, hown, ⟨fun i hi hik => ⟨(hnest.1 i hi hik).1, (hnest.1 i hi hik).2.1.mono (by omega), (hnest.1 i hi hik).2.2.mono (by omega)⟩, hnest.2⟩, fun i hi => ⟨fun b e => ((hnest.1 i hi hi).2.1.ge b e).2, fun b e => ((hnest.1 i hi hi).2.2.ge b e).2⟩⟩
      clear hown hnest
      go_wp2
      go_ret
      exact ⟨_, rfl, HO.out, hB⟩
set_option maxHeartbeats 1000000 in
theorem szTab (w : World) (i j : Int) (a : Option Addr) (cap : Nat) (left : Int) (rs : List Row) (hx : IsR w a rs) (hf : FitsR rs) (h0 : 0 ≤ left) (h1 : left ≤ 1048576) :
    Calls Tryz.prog 7 #[.agg #[.int .i64 i, .int .i64 j, .slice a rs.length cap], .int .i64 left] w fun e w' => e = .returned (.int .i64 (sub left (rs.length + szR rs))) ∧ Below w.heap.size w w' := by
  go_enter Tryz.func7, Tryz.ntmps7
  go_wp2_with fail
  have hB0 : Below w.heap.size w (w.alloc (.cells #[.int .i64 i, .int .i64 j, .slice a rs.length cap] 30)) := (Below.refl _ _).alloc (Nat.le_refl _) _
  refine (szRows _ _ _ _ rs (hx.below hB0) hf h0 h1).mono ?_
  rintro e w1 ⟨rfl, hB1⟩
  have hB := hB0.trans (hB1.mono hB0.size)
  clear hB1 hB0
  by_cases hn : ((rs.length + szR rs : Nat) : Int) ≤ left
  · have HR : Hid (sub left (rs.length + szR rs) = left - ((rs.length + szR rs : Nat) : Int)) := sub_yes hn
    rw [sub_yes hn]
    obtain ⟨q, hq⟩ : ∃ q, left - ((rs.length + szR rs : Nat) : Int) = q := ⟨_, rfl⟩
    rw [hq] at HR ⊢
    have q0 : 0 ≤ q := by omega
    have q1 : q ≤ 1048576 := by omega
    clear hq hn
    go_wp2
    go_ret
    exact ⟨by rw [HR.out]; rfl, hB⟩
  · have HR : Hid (sub left (rs.length + szR rs) = -1) := sub_no hn
    rw [sub_no hn]
    go_wp2
    go_ret
    exact ⟨by rw [HR.out]; rfl, hB⟩
theorem Box3.set2 {w : World} {b : Nat} {v0 v1 v2 : Value} (h : Box3 w b v0 v1 v2) (v : Value) : Box3 (w.setCell ⟨b, 2, none⟩ v) b v0 v1 v := by
  obtain ⟨hlt, ⟨c0, c1, c2⟩, f0, f1, f2⟩ := h
  refine ⟨by simpa [World.setCell] using hlt, ⟨?_, ?_, World.cell?_setCell_same _ _ _ c2⟩, ?_, ?_, ?_⟩
  · rw [World.cell?_setCell_other _ _ _ _ (by simp)]; exact c0
  · rw [World.cell?_setCell_other _ _ _ _ (by simp)]; exact c1
  all_goals (rw [World.frozen?_setCell]; assumption)
set_option maxHeartbeats 1000000 in
theorem toTab (w : World) (i j : Int) (a : Option Addr) (cap : Nat) (rs : List Row) (hx : IsR w a rs) (hl : rs.length + szR rs ≤ 1048576) :
    Calls Tryz.prog 10 #[.agg #[.int .i64 i, .int .i64 j, .slice a rs.length cap]] w fun e w' => ∃ v, e = .returned (.agg #[.int .i64 i, .int .i64 j, v]) ∧ OwnT w' w.heap.size w'.heap.size v rs ∧ Below w.heap.size w w' := by
  go_enter Tryz.func10, Tryz.ntmps10
  go_wp2_with fail
  obtain ⟨W, hW, hsz, hB, bx, br, bo⟩ := boxes3 w (.int .i64 i) (.int .i64 j) (.slice a rs.length cap) (.int .i64 0) (.int .i64 0) (.slice none 0 0) (.int .i64 0) (.int .i64 0) (.slice none 0 0) 30 43 43
  rw [hW]
  clear hW
  refine (toSchema _ _ _).mono ?_
  rintro e w1 ⟨rfl, hB1⟩
  have bx := bx.below hB1
  have br := br.below hB1
  have bo := bo.below hB1
  have hB := hB.trans (hB1.mono hB.size)
  have hs1 := hB1.size
  clear hB1
  obtain ⟨w2, hw2, hB2, bx2, br2, bo2⟩ : ∃ w2, (w1.setCell ⟨w.heap.size + 1 + 1, 0, none⟩ (.int .i64 i)).setCell ⟨w.heap.size + 1 + 1, 1, none⟩ (.int .i64 j) = w2 ∧ Below w.heap.size w w2 ∧ Box3 w2 w.heap.size _ _ _ ∧ Box3 w2 (w.heap.size + 1) _ _ _ ∧ Box3 w2 (w.heap.size + 2) _ _ _ :=
    ⟨_, rfl, (hB.setCell (p := ⟨w.heap.size + 1 + 1, 0, none⟩) (by simp; omega) _).setCell (p := ⟨w.heap.size + 1 + 1, 1, none⟩) (by simp; omega) _, (bx.setOther (by omega)).setOther (by omega), (br.setOther (by omega)).setOther (by omega), (bo.set0 _).set1 _⟩
  obtain ⟨_, ⟨cx0, cx1, cx2⟩, _⟩ := bx
  obtain ⟨hbo, ⟨co0, co1, co2⟩, fo0, fo1, fo2⟩ := bo
  have hs2 : w1.heap.size ≤ w2.heap.size := by rw [← hw2]; simp [World.setCell]
  have HW : Hid ((w1.setCell ⟨w.heap.size + 1 + 1, 0, none⟩ (.int .i64 i)).setCell ⟨w.heap.size + 1 + 1, 1, none⟩ (.int .i64 j) = w2) := hw2
  clear hw2
  go_wp2_with fail
  rw [HW.out]
  clear HW cx0 cx1 cx2 co0 co1 co2 fo0 fo1 fo2 hB br
  refine (toRows _ _ _ rs (hx.below hB2) hl).mono ?_
  rintro e w3 ⟨v, rfl, ot, hB3⟩
  have bx := bx2.below hB3
  have br := br2.below hB3
  have bo := bo2.below hB3
  have hB := hB2.trans (hB3.mono hB2.size)
  have hlo : w.heap.size + 3 ≤ w2.heap.size := by omega
  obtain ⟨p, q, e, _⟩ := ot.isr
  subst e
  clear hB3 hB2 bx2 br2 bo2 hs2 hbo hs1
  obtain ⟨_, ⟨cx0, cx1, cx2⟩, _⟩ := bx
  obtain ⟨_, ⟨co0, co1, co2⟩, fo0, fo1, fo2⟩ := bo
  obtain ⟨_, ⟨cr0, cr1, cr2⟩, fr0, fr1, fr2⟩ := br
  go_wp2
  refine bodyPost_ret (v := .agg #[.int .i64 i, .int .i64 j, .slice p rs.length q]) (by rw [results_cell rfl]; go_simp) rfl ⟨_, rfl, ?_, ?_⟩
  · refine OwnT.mono (lo := w2.heap.size) (hi := w3.heap.size) ?_ (by omega) (by simp [World.setCell])
    exact (((ot.off (grown_set' _ _ _ _) (by omega)).off (grown_set' _ _ _ _) (by omega)).off (grown_set' _ _ _ _) (by omega)).off (grown_set' _ _ _ _) (by omega)
  · exact (((hB.setCell (by simp; omega) _).setCell (by simp) _).setCell (by simp) _).setCell (by simp) _
set_option maxHeartbeats 1000000 in
theorem eqTables (w : World) (i j i' j' : Int) (a b : Option Addr) (ca cb : Nat) (rs rs' : List Row) (hx : IsR w a rs) (hy : IsR w b rs') (hl : rs.length + szR rs ≤ 1048576) (hl' : rs'.length + szR rs' ≤ 1048576) :
    Calls Tryz.prog 13 #[.agg #[.int .i64 i, .int .i64 j, .slice a rs.length ca], .agg #[.int .i64 i', .int .i64 j', .slice b rs'.length cb]] w fun e w' => ∃ q : Bool, e = .returned (.bool q) ∧ (q = true ↔ i = i' ∧ j = j' ∧ rs = rs') ∧ Below w.heap.size w w' := by
  go_enter Tryz.func13, Tryz.ntmps13
  go_wp2_with fail
  obtain ⟨W, hW, hsz, hB, bx, br⟩ := boxes2 w (.int .i64 i) (.int .i64 j) (.slice a rs.length ca) (.int .i64 i') (.int .i64 j') (.slice b rs'.length cb) 43 43
  rw [hW]
  clear hW
  refine (eqSchema _ _ _ _ _).mono ?_
  rintro e w1 ⟨rfl, hB1⟩
  have bx := bx.below hB1
  have br := br.below hB1
  have hB := hB.trans (hB1.mono hB.size)
  clear hB1 hsz
  have hx := hx.below hB
  have hy := hy.below hB
  obtain ⟨_, ⟨cx0, cx1, cx2⟩, _⟩ := bx
  obtain ⟨_, ⟨cr0, cr1, cr2⟩, _⟩ := br
  by_cases he : i = i' ∧ j = j'
  · have hd : decide (i = i' ∧ j = j') = true := by simpa using he
    have HE : Hid (i = i' ∧ j = j') := he
    rw [hd]
    clear hd he
    go_wp2_with fail
    refine (eqTab _ _ _ _ _ rs rs' hx hy hl hl').mono ?_
    rintro e w2 ⟨q, rfl, hq, hB2⟩
    have hB := hB.trans (hB2.mono hB.size)
    have HQ : Hid (q = true ↔ rs = rs') := hq
    clear hB2 hq
    cases q
    · go_wp2
      go_ret
      exact ⟨false, rfl, ⟨fun h => (by cases h), fun h => HQ.out.2 h.2.2⟩, hB⟩
    · go_wp2
      go_ret
      exact ⟨true, rfl, ⟨fun _ => ⟨HE.out.1, HE.out.2, by simpa using HQ.out⟩, fun _ => rfl⟩, hB⟩
  · have hd : decide (i = i' ∧ j = j') = false := by simpa using he
    have HE : Hid (¬ (i = i' ∧ j = j')) := he
    rw [hd]
    clear hd he
    go_wp2
    go_ret
    exact ⟨false, rfl, ⟨fun h => (by cases h), fun h => absurd ⟨h.1, h.2.1⟩ HE.out⟩, hB⟩
end Go.Proofs.YtkfjlldlbknepaaGreat.Tb
/-
  The plain arguments of the laws, opened: a number, a text, a list of numbers, of texts, out of what the row's reader read of them.
-/
namespace Go.Proofs.YtkfjlldlbknepaaGreat.Op
open Go.ChangeShapes Go.WideShapes Go.Deep Go.RowKit
open Go.Proofs.YtkfjlldlbknepaaGreat.Tb
set_option maxRecDepth 10000

theorem agg2 {cs : Array Value} (h : cs.size = 2) : ∃ a b, cs = #[a, b] := by
  obtain ⟨l⟩ := cs
  match l, h with
  | [a, b], _ => exact ⟨a, b, rfl⟩
theorem agg3 {cs : Array Value} (h : cs.size = 3) : ∃ a b c, cs = #[a, b, c] := by
  obtain ⟨l⟩ := cs
  match l, h with
  | [a, b, c], _ => exact ⟨a, b, c, rfl⟩
theorem wf64 {n : Int} (h : (Lit.int .i64 n).wf = true) : -9223372036854775808 ≤ n ∧ n ≤ 9223372036854775807 := by
  simpa [Lit.wf, IntKind.min, IntKind.signed, IntKind.bits] using h
section
variable {H : Type} {enc : TypeId × Value → H} {W : World}
theorem ints_cell {n : Nat} {v : Value} {x : DataW H × List MemPlace} (h : DataW.trod enc Tryz.prog W 0 (fun _ => true) true n 48 [v] = some x) :
    ∃ a xs cap, v = .slice a (xs : List Int).length cap ∧ Li.IsL W a xs ∧ xs.length ≤ maxLen := by
  rcases open_ints Tryz.underlying48 Tryz.underlying3 (by kernel_rfl) h with ⟨hcs, _⟩ | ⟨x, l, c, zs, hcs, _, hl, hm, hz, _, hcell, hwz⟩
  · obtain rfl : v = _ := List.singleton_inj.1 hcs
    exact ⟨none, [], 0, rfl, .inl rfl, by simp⟩
  · obtain rfl : v = _ := List.singleton_inj.1 hcs
    obtain ⟨xs, hxl, hx⟩ := Li.isl_of (w := W) (a := some x) (len := l) (cap := c) (zs := zs) (.inr ⟨x, rfl, hl, hm, by simpa using hz, hcell, hwz⟩)
    subst hxl
    exact ⟨some x, xs, c, rfl, hx, by omega⟩
theorem strs_cell {n : Nat} {v : Value} {x : DataW H × List MemPlace} (h : DataW.trod enc Tryz.prog W 0 (fun _ => true) true n 74 [v] = some x) :
    ∃ a xs cap, v = .slice a (xs : List ByteArray).length cap ∧ Ls.IsS W a xs ∧ xs.length ≤ maxLen ∧ Fits xs := by
  rcases open_strs Tryz.underlying74 Tryz.underlying9 (by kernel_rfl) h with ⟨hcs, _⟩ | ⟨x, l, c, m, Sx, hcs, _, hl, hm, hmm, _, hcell⟩
  · obtain rfl : v = _ := List.singleton_inj.1 hcs
    exact ⟨none, [], 0, rfl, .inl rfl, by simp, fun j hj => by simp at hj⟩
  · obtain rfl : v = _ := List.singleton_inj.1 hcs
    have hmc : m = c := by simpa using hmm
    subst hmc
    refine ⟨some x, (List.range l).map Sx, m, by simp, ?_, by simp; omega, fun j hj => ?_⟩
    · by_cases h0 : l = 0
      · subst h0; exact .inl rfl
      · obtain ⟨cb, off, spot⟩ := x
        have hs : spot = none := by simpa [Addr.add] using World.cell?_spot (hcell 0 (by omega)).1
        subst hs
        have hlt : cb < W.heap.size := World.block_lt_of_cell? W _ (hcell 0 (by omega)).1
        refine .inr ⟨cb, off, rfl, hlt, fun j hj => ?_⟩
        have hj' : j < l := by simpa using hj
        rw [← Go.WideShapes.add_plain, (hcell j (by omega)).1]
        simp
    · have hj' : j < l := by simpa using hj
      have := (hcell j (by omega)).2
      simp only [List.getElem_map, List.getElem_range]
      unfold maxLen at this
      omega
theorem int_cell {n : Nat} {v : Value} {x : DataW H × List MemPlace} (h : DataW.trod enc Tryz.prog W 0 (fun _ => true) true n 3 [v] = some x) :
    ∃ i, v = .int .i64 i ∧ -9223372036854775808 ≤ i ∧ i ≤ 9223372036854775807 := by
  obtain ⟨i, h1, _, h3⟩ := DataW.trod_int Tryz.underlying3 h
  obtain rfl : v = _ := List.singleton_inj.1 h1
  exact ⟨i, rfl, wf64 h3⟩
theorem int_open {base : Nat} {v : Value} {d : DataW H} {p : List MemPlace} (hv : Value.okWide Tryz.prog W .any base 3 v) (h : DataW.Trod enc Tryz.prog W 0 (fun _ => true) true 3 v d p) :
    ∃ i, v = .int .i64 i ∧ -9223372036854775808 ≤ i ∧ i ≤ 9223372036854775807 := by
  obtain ⟨i, rfl⟩ := okWide_int Tryz.underlying3 hv
  obtain ⟨n, hn⟩ := h
  obtain ⟨j, e, hj⟩ := int_cell (by simpa [Value.cells] using hn)
  exact ⟨i, rfl, by cases e; exact hj⟩
theorem ints_open {base : Nat} {v : Value} {d : DataW H} {p : List MemPlace} (hv : Value.okWide Tryz.prog W .any base 48 v) (h : DataW.Trod enc Tryz.prog W 0 (fun _ => true) true 48 v d p) :
    ∃ a xs cap, v = .slice a (xs : List Int).length cap ∧ Li.IsL W a xs ∧ xs.length ≤ maxLen := by
  obtain ⟨a0, l0, c0, rfl⟩ := okWide_slice Tryz.underlying48 hv
  obtain ⟨n, hn⟩ := h
  exact ints_cell (by simpa [Value.cells] using hn)
theorem strs_open {base : Nat} {v : Value} {d : DataW H} {p : List MemPlace} (hv : Value.okWide Tryz.prog W .any base 74 v) (h : DataW.Trod enc Tryz.prog W 0 (fun _ => true) true 74 v d p) :
    ∃ a xs cap, v = .slice a (xs : List ByteArray).length cap ∧ Ls.IsS W a xs ∧ xs.length ≤ maxLen ∧ Fits xs := by
  obtain ⟨a0, l0, c0, rfl⟩ := okWide_slice Tryz.underlying74 hv
  obtain ⟨n, hn⟩ := h
  exact strs_cell (by simpa [Value.cells] using hn)
theorem str_open {base : Nat} {v : Value} {d : DataW H} {p : List MemPlace} (hv : Value.okWide Tryz.prog W .any base 9 v) (h : DataW.Trod enc Tryz.prog W 0 (fun _ => true) true 9 v d p) :
    ∃ s, v = .string s ∧ s.size ≤ maxLen := by
  obtain ⟨s, rfl, _, _, hs⟩ := Go.ChangeMaps.open_string Tryz.underlying9 hv h
  exact ⟨s, rfl, hs⟩
end
end Go.Proofs.YtkfjlldlbknepaaGreat.Op
