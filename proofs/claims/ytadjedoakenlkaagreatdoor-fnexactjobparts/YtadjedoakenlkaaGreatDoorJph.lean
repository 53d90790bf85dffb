/-
  What both answer of a job's text is the same; numbers of a schema, and of settings, compared by the law.
-/
import Derived.Test.YtadjedoakenlkaaGreatDoorJpe
import Derived.Test.YtadjedoakenlkaaGreatDoorJpg
import Derived.Test.YtadjedoakenlkaaGreatDoorVrj
namespace Go.Proofs.YtadjedoakenlkaaGreatDoor.Jp
set_option maxRecDepth 100000
open Go.RowKit
set_option linter.unusedVariables false
def Tup (a b x0 x1 x2 x3 x4 x5 x6 : Int) (F L : ByteArray) (ok : Bool) : Ending := .returned (.tuple #[.agg #[.int .i64 a, .int .i64 b], .agg #[.int .i64 x0, .int .i64 x1, .int .i64 x2, .int .i64 x3, .int .i64 x4, .int .i64 x5, .int .i64 x6], .string F, .string L, .bool ok])
theorem ansp_tup {s : List UInt8} {e : Ending} (h : AnsP s e) : ∃ a b x0 x1 x2 x3 x4 x5 x6 F L ok, e = Tup a b x0 x1 x2 x3 x4 x5 x6 F L ok := by
  rcases h with ⟨a, b, x0, x1, x2, x3, x4, x5, x6, F, L, _, h⟩ | ⟨_, h⟩
  · exact ⟨a, b, x0, x1, x2, x3, x4, x5, x6, _, _, true, h⟩
  · exact ⟨0, 0, 0, 0, 0, 0, 0, 0, 0, _, _, false, h⟩
theorem ans_one {s : List UInt8} {e e' : Ending} (h : AnsP s e) (h' : Ans s e') : e' = e := by
  rcases h with ⟨a, b, x0, x1, x2, x3, x4, x5, x6, F, L, hj, rfl⟩ | ⟨hn, rfl⟩
  · rcases h' with ⟨a', b', y0, y1, y2, y3, y4, y5, y6, F', L', hj', rfl⟩ | ⟨hn', rfl⟩
    · obtain ⟨h1, h2, rfl, rfl⟩ := hj.one (ji_jp.1 hj')
      cases h1
      cases h2
      rfl
    · exact absurd (ji_jp.2 hj) (hn' _ _ _ _)
  · rcases h' with ⟨a', b', y0, y1, y2, y3, y4, y5, y6, F', L', hj', rfl⟩ | ⟨hn', rfl⟩
    · exact absurd (ji_jp.1 hj') (hn _ _ _ _)
    · rfl
set_option maxHeartbeats 1000000 in
theorem eqsch (w : World) (a b : Int) : Calls Tryz.prog 6 #[.agg #[.int .i64 a, .int .i64 b], .agg #[.int .i64 a, .int .i64 b]] w fun e w' => e = .returned (.bool true) ∧ Below w.heap.size w w' := by
  have ha : (a != a) = false := by simp
  have hb : (b != b) = false := by simp
  go_enter Tryz.func6, Tryz.ntmps6
  go_wp2
  go_ret
  exact ⟨rfl, ((Below.refl _ _).alloc (Nat.le_refl _) _).alloc (by simp) _⟩
set_option maxHeartbeats 2000000 in
theorem eqcnf (w : World) (x0 x1 x2 x3 x4 x5 x6 : Int) : Calls Tryz.prog 7 #[.agg #[.int .i64 x0, .int .i64 x1, .int .i64 x2, .int .i64 x3, .int .i64 x4, .int .i64 x5, .int .i64 x6], .agg #[.int .i64 x0, .int .i64 x1, .int .i64 x2, .int .i64 x3, .int .i64 x4, .int .i64 x5, .int .i64 x6]] w fun e w' => e = .returned (.bool true) ∧ Below w.heap.size w w' := by
  have h0 : (x0 != x0) = false := by simp
  have h1 : (x1 != x1) = false := by simp
  have h2 : (x2 != x2) = false := by simp
  have h3 : (x3 != x3) = false := by simp
  have h4 : (x4 != x4) = false := by simp
  have h5 : (x5 != x5) = false := by simp
  have h6 : (x6 != x6) = false := by simp
  go_enter Tryz.func7, Tryz.ntmps7
  go_wp2
  go_ret
  exact ⟨rfl, ((Below.refl _ _).alloc (Nat.le_refl _) _).alloc (by simp) _⟩
/-- Two variables made one behind the other: settings behind a schema. -/
theorem new27 (w : World) (a b x0 x1 x2 x3 x4 x5 x6 : Value) : ∃ W, (w.alloc (.cells #[a, b] 23)).alloc (.cells #[x0, x1, x2, x3, x4, x5, x6] 25) = W ∧ Below w.heap.size w W ∧ Wb W w.heap.size [a, b] ∧ Wb W (w.heap.size + 1) [x0, x1, x2, x3, x4, x5, x6] ∧ W.heap.size = w.heap.size + 2 := by
  refine ⟨_, rfl, ((Below.refl _ _).alloc (Nat.le_refl _) _).alloc (by simp) _, (wb_new w [a, b] 23).below ((Below.refl _ _).alloc (Nat.le_refl _) _), ?_, by simp⟩
  have h := wb_new (w.alloc (.cells #[a, b] 23)) [x0, x1, x2, x3, x4, x5, x6] 25
  rw [World.size_alloc] at h
  exact h
end Go.Proofs.YtadjedoakenlkaaGreatDoor.Jp
