/-
  Settings: ConfOk of the program and of the model; the laws' own copy of a Conf; a Conf that was read, opened.
-/
import Derived.Test.YtkiddmbenepfjaaOpnS
namespace Go.Proofs.Ytkiddmbenepfjaa.Cf
open Go.RowKit
open Go.Proofs.Ytkiddmbenepfjaa.Li (ret_bool ret_int below_none IsL btw)
set_option linter.unusedVariables false

/-- A Conf, field by field. -/
structure C where
  trees : Int
  depth : Int
  most : Int
  rate : Int
  l2 : Int
  prior : Int
  seed : Int
def C.cells (c : C) : List Value := [.int .i64 c.trees, .int .i64 c.depth, .int .i64 c.most, .int .i64 c.rate, .int .i64 c.l2, .int .i64 c.prior, .int .i64 c.seed]
def C.val (c : C) : Value := .agg #[.int .i64 c.trees, .int .i64 c.depth, .int .i64 c.most, .int .i64 c.rate, .int .i64 c.l2, .int .i64 c.prior, .int .i64 c.seed]
def cok (c : C) : Bool := btw c.trees 0 12 && (btw c.depth 0 4 && (btw c.most 1 12 && (btw c.rate 1 1000 && (btw c.l2 1 1000 && (btw c.prior (-1000000) 1000000 && btw c.seed 1 2147483646)))))
theorem results_cell {fn : Func} {p : Tmp} {ty : TypeId} (h : fn.results = #[.cell p ty]) (tmps : Array Value) (P : Program) (w : World) :
    (results fn tmps).run P w = ((asAddr (tmps.getD p undef)).run P w).andThen fun a w₁ => (loadVar ty a).run P w₁ := by
  simp only [results, h]
  simp [Sem.run_bind, Result.andThen]
theorem dec_btw {x lo hi : Int} (h : btw x lo hi = true) : lo ≤ x ∧ x ≤ hi := by simpa [btw] using h
/-- A variable that holds a Conf. -/
def Bx (w : World) (b : Nat) (c : C) : Prop := b < w.heap.size ∧ w.cell? ⟨b, 0, none⟩ = some (.int .i64 c.trees) ∧ w.cell? ⟨b, 1, none⟩ = some (.int .i64 c.depth) ∧ w.cell? ⟨b, 2, none⟩ = some (.int .i64 c.most) ∧ w.cell? ⟨b, 3, none⟩ = some (.int .i64 c.rate) ∧ w.cell? ⟨b, 4, none⟩ = some (.int .i64 c.l2) ∧ w.cell? ⟨b, 5, none⟩ = some (.int .i64 c.prior) ∧ w.cell? ⟨b, 6, none⟩ = some (.int .i64 c.seed)
theorem Bx.below {w w1 : World} {b B : Nat} {c : C} (h : Bx w b c) (hB : Below B w w1) (hb : b < B) : Bx w1 b c := by
  obtain ⟨h0, h⟩ := h
  have k : w1.heap[b]? = w.heap[b]? := hB.block b hb
  have q : ∀ j v, w.cell? ⟨b, j, none⟩ = some v → w1.cell? ⟨b, j, none⟩ = some v := fun j v hv => by rw [World.cell?_of_block (w := w) (a := ⟨b, j, none⟩) k]; exact hv
  exact ⟨by have := hB.size; omega, q 0 _ h.1, q 1 _ h.2.1, q 2 _ h.2.2.1, q 3 _ h.2.2.2.1, q 4 _ h.2.2.2.2.1, q 5 _ h.2.2.2.2.2.1, q 6 _ h.2.2.2.2.2.2⟩
theorem Bx.kept {w w1 : World} {b : Nat} {c : C} (h : Bx w b c) (hs : w.heap.size ≤ w1.heap.size) (k : w1.heap[b]? = w.heap[b]?) : Bx w1 b c := by
  obtain ⟨h0, h⟩ := h
  have q : ∀ j v, w.cell? ⟨b, j, none⟩ = some v → w1.cell? ⟨b, j, none⟩ = some v := fun j v hv => by rw [World.cell?_of_block (w := w) (a := ⟨b, j, none⟩) k]; exact hv
  exact ⟨by omega, q 0 _ h.1, q 1 _ h.2.1, q 2 _ h.2.2.1, q 3 _ h.2.2.2.1, q 4 _ h.2.2.2.2.1, q 5 _ h.2.2.2.2.2.1, q 6 _ h.2.2.2.2.2.2⟩
theorem bx_new (w : World) (c : C) (T : TypeId) : ∃ W, w.alloc (.cells #[.int .i64 c.trees, .int .i64 c.depth, .int .i64 c.most, .int .i64 c.rate, .int .i64 c.l2, .int .i64 c.prior, .int .i64 c.seed] T) = W ∧ W.heap.size = w.heap.size + 1 ∧ Below w.heap.size w W ∧ Bx W w.heap.size c :=
  ⟨_, rfl, by simp, (Below.refl _ _).alloc (Nat.le_refl _) _, by simp, by simp [World.cell?_alloc_new], by simp [World.cell?_alloc_new], by simp [World.cell?_alloc_new], by simp [World.cell?_alloc_new], by simp [World.cell?_alloc_new], by simp [World.cell?_alloc_new], by simp [World.cell?_alloc_new]⟩
set_option maxHeartbeats 400000 in
theorem iprior (x : Int) (w : World) : Calls Try.prog 41 #[.int .i64 x] w fun e w' => e = .returned (.bool (btw x (-1000000) 1000000)) ∧ w' = w := by
  go_enter Try.func41, Try.ntmps41
  go_wp2
  all_goals go_ret
  all_goals refine ⟨ret_bool ?_, rfl⟩
  all_goals unfold btw
  all_goals simp
  all_goals first | omega | (rw [Bool.eq_iff_iff]; simp; omega)
end Go.Proofs.Ytkiddmbenepfjaa.Cf
