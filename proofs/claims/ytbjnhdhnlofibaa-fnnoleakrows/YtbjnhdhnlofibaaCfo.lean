/-
  Settings: ConfOk of the program and of the model; the laws' own copy of a Conf; a Conf that was read, opened.
-/
import Derived.Test.YtbjnhdhnlofibaaOpnS
namespace Go.Proofs.Ytbjnhdhnlofibaa.Cf
open Go.RowKit
open Go.Proofs.Ytbjnhdhnlofibaa.Li (ret_bool ret_int below_none IsL btw)
set_option linter.unusedVariables false

/-- A Conf, field by field. -/
structure C where
  trees : Int
  depth : Int
  most : Int
  rate : Int
  l2 : Int
  prior : Int
  seed : Int
def C.cells (c : C) : List Value := [.int .i64 c.trees, .int .i64 c.depth, .int .i64 c.most, .int .i64 c.rate, .int .i64 c.l2, .int .i64 c.prior, .int .i64 c.seed]
def C.val (c : C) : Value := .agg #[.int .i64 c.trees, .int .i64 c.depth, .int .i64 c.most, .int .i64 c.rate, .int .i64 c.l2, .int .i64 c.prior, .int .i64 c.seed]
def cok (c : C) : Bool := btw c.trees 0 12 && (btw c.depth 0 4 && (btw c.most 1 12 && (btw c.rate 1 1000 && (btw c.l2 1 1000 && (btw c.prior (-1000000) 1000000 && btw c.seed 1 2147483646)))))
theorem results_cell {fn : Func} {p : Tmp} {ty : TypeId} (h : fn.results = #[.cell p ty]) (tmps : Array Value) (P : Program) (w : World) :
    (results fn tmps).run P w = ((asAddr (tmps.getD p undef)).run P w).andThen fun a w₁ => (loadVar ty a).run P w₁ := by
  simp only [results, h]
  simp [Sem.run_bind, Result.andThen]
theorem dec_btw {x lo hi : Int} (h : btw x lo hi = true) : lo ≤ x ∧ x ≤ hi := by simpa [btw] using h
/-- A variable that holds a Conf. -/
def Bx (w : World) (b : Nat) (c : C) : Prop := b < w.heap.size ∧ w.cell? ⟨b, 0, none⟩ = some (.int .i64 c.trees) ∧ w.cell? ⟨b, 1, none⟩ = some (.int .i64 c.depth) ∧ w.cell? ⟨b, 2, none⟩ = some (.int .i64 c.most) ∧ w.cell? ⟨b, 3, none⟩ = some (.int .i64 c.rate) ∧ w.cell? ⟨b, 4, none⟩ = some (.int .i64 c.l2) ∧ w.cell? ⟨b, 5, none⟩ = some (.int .i64 c.prior) ∧ w.cell? ⟨b, 6, none⟩ = some (.int .i64 c.seed)
theorem Bx.below {w w1 : World} {b B : Nat} {c : C} (h : Bx w b c) (hB : Below B w w1) (hb : b < B) : Bx w1 b c := by
  obtain ⟨h0, h⟩ := h
  have k : w1.heap[b]? = w.heap[b]? := hB.block b hb
  have q : ∀ j v, w.cell? ⟨b, j, none⟩ = some v → w1.cell? ⟨b, j, none⟩ = some v := fun j v hv => by rw [World.cell?_of_block (w := w) (a := ⟨b, j, none⟩) k]; exact hv
  exact ⟨by have := hB.size; omega, q 0 _ h.1, q 1 _ h.2.1, q 2 _ h.2.2.1, q 3 _ h.2.2.2.1, q 4 _ h.2.2.2.2.1, q 5 _ h.2.2.2.2.2.1, q 6 _ h.2.2.2.2.2.2⟩
theorem Bx.kept {w w1 : World} {b : Nat} {c : C} (h : Bx w b c) (hs : w.heap.size ≤ w1.heap.size) (k : w1.heap[b]? = w.heap[b]?) : Bx w1 b c := by
  obtain ⟨h0, h⟩ := h
  have q : ∀ j v, w.cell? ⟨b, j, none⟩ = some v → w1.cell? ⟨b, j, none⟩ = some v := fun j v hv => by rw [World.cell?_of_block (w := w) (a := ⟨b, j, none⟩) k]; exact hv
  exact ⟨by omega, q 0 _ h.1, q 1 _ h.2.1, q 2 _ h.2.2.1, q 3 _ h.2.2.2.1, q 4 _ h.2.2.2.2.1, q 5 _ h.2.2.2.2.2.1, q 6 _ h.2.2.2.2.2.2⟩
theorem bx_new (w : World) (c : C) (T : TypeId) : ∃ W, w.alloc (.cells #[.int .i64 c.trees, .int .i64 c.depth, .int .i64 c.most, .int .i64 c.rate, .int .i64 c.l2, .int .i64 c.prior, .int .i64 c.seed] T) = W ∧ W.heap.size = w.heap.size + 1 ∧ Below w.heap.size w W ∧ Bx W w.heap.size c :=
  ⟨_, rfl, by simp, (Below.refl _ _).alloc (Nat.le_refl _) _, by simp, by simp [World.cell?_alloc_new], by simp [World.cell?_alloc_new], by simp [World.cell?_alloc_new], by simp [World.cell?_alloc_new], by simp [World.cell?_alloc_new], by simp [World.cell?_alloc_new], by simp [World.cell?_alloc_new]⟩
set_option maxHeartbeats 2000000 in
theorem toConf (w : World) (c : C) :
    Calls Try.prog 16 #[.agg #[.int .i64 c.trees, .int .i64 c.depth, .int .i64 c.most, .int .i64 c.rate, .int .i64 c.l2, .int .i64 c.prior, .int .i64 c.seed]] w fun e w' => e = .returned (.agg #[.int .i64 c.trees, .int .i64 c.depth, .int .i64 c.most, .int .i64 c.rate, .int .i64 c.l2, .int .i64 c.prior, .int .i64 c.seed]) ∧ Below w.heap.size w w' := by
  go_enter Try.func16, Try.ntmps16
  go_wp2
  refine bodyPost_ret (v := .agg #[.int .i64 c.trees, .int .i64 c.depth, .int .i64 c.most, .int .i64 c.rate, .int .i64 c.l2, .int .i64 c.prior, .int .i64 c.seed]) (by rw [results_cell rfl]; go_simp) rfl ⟨rfl, ?_⟩
  exact (((Below.refl _ _).alloc (Nat.le_refl _) _).alloc (by simp) _).alloc (by simp; omega) _
set_option maxHeartbeats 2000000 in
theorem scok (w : World) (c : C) : Calls Try.prog 34 #[.agg #[.int .i64 c.trees, .int .i64 c.depth, .int .i64 c.most, .int .i64 c.rate, .int .i64 c.l2, .int .i64 c.prior, .int .i64 c.seed]] w fun e w' => e = .returned (.bool (cok c)) ∧ Below w.heap.size w w' := by
  go_enter Try.func34, Try.ntmps34
  go_wp2_with (go_at_call 38; refine (Li.between_any _ _ _ _).mono ?_; rintro e w' ⟨rfl, hw⟩; subst w')
  all_goals go_ret
  all_goals refine ⟨ret_bool ?_, (Below.refl _ _).alloc (Nat.le_refl _) _⟩
  all_goals simp [cok, *]
set_option maxHeartbeats 400000 in
theorem irate (x : Int) (w : World) : Calls Try.prog 99 #[.int .i64 x] w fun e w' => e = .returned (.bool (btw x 1 1000)) ∧ w' = w := by
  go_enter Try.func99, Try.ntmps99
  go_wp2
  all_goals go_ret
  all_goals refine ⟨ret_bool ?_, rfl⟩
  all_goals unfold btw
  all_goals simp
  all_goals first | omega | (rw [Bool.eq_iff_iff]; simp; omega)
set_option maxHeartbeats 400000 in
theorem il2 (x : Int) (w : World) : Calls Try.prog 66 #[.int .i64 x] w fun e w' => e = .returned (.bool (btw x 1 1000)) ∧ w' = w := by
  go_enter Try.func66, Try.ntmps66
  go_wp2
  all_goals go_ret
  all_goals refine ⟨ret_bool ?_, rfl⟩
  all_goals unfold btw
  all_goals simp
  all_goals first | omega | (rw [Bool.eq_iff_iff]; simp; omega)
set_option maxHeartbeats 400000 in
theorem iprior (x : Int) (w : World) : Calls Try.prog 67 #[.int .i64 x] w fun e w' => e = .returned (.bool (btw x (-1000000) 1000000)) ∧ w' = w := by
  go_enter Try.func67, Try.ntmps67
  go_wp2
  all_goals go_ret
  all_goals refine ⟨ret_bool ?_, rfl⟩
  all_goals unfold btw
  all_goals simp
  all_goals first | omega | (rw [Bool.eq_iff_iff]; simp; omega)
set_option maxHeartbeats 400000 in
theorem iseed (x : Int) (w : World) : Calls Try.prog 68 #[.int .i64 x] w fun e w' => e = .returned (.bool (btw x 1 2147483646)) ∧ w' = w := by
  go_enter Try.func68, Try.ntmps68
  go_wp2
  all_goals go_ret
  all_goals refine ⟨ret_bool ?_, rfl⟩
  all_goals unfold btw
  all_goals simp
  all_goals first | omega | (rw [Bool.eq_iff_iff]; simp; omega)
set_option maxHeartbeats 400000 in
theorem igok (w : World) (d r : Int) : Calls Try.prog 64 #[.agg #[.int .i64 d, .int .i64 r]] w fun e w' => e = .returned (.bool (btw d 0 4 && btw r 1 1000)) ∧ Below w.heap.size w w' := by
  go_enter Try.func64, Try.ntmps64
  go_wp2_with (go_at_call 99; refine (irate _ _).mono ?_; rintro e w' ⟨rfl, hw⟩; subst w')
  all_goals go_ret
  all_goals refine ⟨ret_bool ?_, (Below.refl _ _).alloc (Nat.le_refl _) _⟩
  · have : btw d 0 4 = true := by simp [btw]; omega
    rw [this]; rfl
  all_goals
    have : btw d 0 4 = false := by simp [btw]; omega
    rw [this]; rfl
set_option maxHeartbeats 1000000 in
theorem growOf (w : World) (c : C) : Calls Try.prog 65 #[.agg #[.int .i64 c.trees, .int .i64 c.depth, .int .i64 c.most, .int .i64 c.rate, .int .i64 c.l2, .int .i64 c.prior, .int .i64 c.seed]] w fun e w' => e = .returned (.agg #[.int .i64 c.depth, .int .i64 c.rate]) ∧ Below w.heap.size w w' := by
  go_enter Try.func65, Try.ntmps65
  go_wp2
  refine bodyPost_ret (v := .agg #[.int .i64 c.depth, .int .i64 c.rate]) (by rw [results_cell rfl]; go_simp) rfl ⟨rfl, ?_⟩
  first
    | exact ((Below.refl _ _).alloc (Nat.le_refl _) _).alloc (by simp) _
    | exact (((Below.refl _ _).alloc (Nat.le_refl _) _).alloc (by simp) _).alloc (by simp; omega) _
set_option maxHeartbeats 2000000 in
theorem icok (w : World) (c : C) : Calls Try.prog 31 #[.agg #[.int .i64 c.trees, .int .i64 c.depth, .int .i64 c.most, .int .i64 c.rate, .int .i64 c.l2, .int .i64 c.prior, .int .i64 c.seed]] w fun e w' => e = .returned (.bool (cok c)) ∧ Below w.heap.size w w' := by
  cases h0 : btw c.trees 0 12
  · have hr : cok c = false := by simp [cok, h0]
    rw [hr]
    clear hr
    have hn : ¬ (0 ≤ c.trees ∧ c.trees ≤ 12) := by simpa [btw] using h0
    clear h0
    go_enter Try.func31, Try.ntmps31
    go_wp2_with (exfalso; omega)
    all_goals first
      | (exfalso; omega)
      | (go_ret; exact ⟨rfl, (Below.refl _ _).alloc (Nat.le_refl _) _⟩)
  have hr : cok c = (btw c.depth 0 4 && btw c.rate 1 1000 && (btw c.most 1 12 && (btw c.l2 1 1000 && (btw c.prior (-1000000) 1000000 && btw c.seed 1 2147483646)))) := by
    unfold cok
    rw [h0]
    cases btw c.depth 0 4 <;> cases btw c.rate 1 1000 <;> simp
  rw [hr]
  clear hr
  obtain ⟨t0, t1⟩ := dec_btw h0
  clear h0
  go_enter Try.func31, Try.ntmps31
  go_wp2_with fail
  obtain ⟨W, hW, hsz, hB, bx⟩ := bx_new w c 30
  rw [hW]
  clear hW
  have hsz' : w.heap.size < W.heap.size := by omega
  clear hsz
  refine (growOf _ _).mono ?_
  rintro e w1 ⟨rfl, hb⟩
  have bx := bx.below hb hsz'
  have hB := hB.trans (hb.mono hB.size)
  have hsz' : w.heap.size < w1.heap.size := by have := hb.size; omega
  clear hb
  go_wp2_with fail
  refine (igok _ _ _).mono ?_
  rintro e w2 ⟨rfl, hb⟩
  have bx := bx.below hb hsz'
  have hB := hB.trans (hb.mono hB.size)
  clear hb hsz'
  cases hg : (btw c.depth 0 4 && btw c.rate 1 1000)
  · go_wp2
    go_ret
    exact ⟨ret_bool (by first | rfl | (rw [hg]; rfl) | simp [hg]), hB⟩
  obtain ⟨_, _, _, q2, _, q4, q5, q6⟩ := bx
  cases h2 : btw c.most 1 12
  · have hn : ¬ (1 ≤ c.most ∧ c.most ≤ 12) := by simpa [btw] using h2
    go_wp2_with (exfalso; omega)
    all_goals first
      | (exfalso; omega)
      | (go_ret; exact ⟨ret_bool (by first | rfl | (rw [hg, h2]; rfl) | simp [hg, h2]), hB⟩)
  obtain ⟨m0, m1⟩ := dec_btw h2
  go_wp2_with (first
    | (go_at_call 66; refine (il2 _ _).mono ?_; rintro e w' ⟨rfl, hw⟩; subst w')
    | (go_at_call 67; refine (iprior _ _).mono ?_; rintro e w' ⟨rfl, hw⟩; subst w')
    | (go_at_call 68; refine (iseed _ _).mono ?_; rintro e w' ⟨rfl, hw⟩; subst w'))
  all_goals go_ret
  all_goals refine ⟨ret_bool ?_, hB⟩
  all_goals simp [*]
end Go.Proofs.Ytbjnhdhnlofibaa.Cf
