/-
  Proved here: the Go function laws.FnExactSchemaOk, called with any arguments that can be read, returns true, and each argument reads afterwards as it read before ('Rows.FnExactSchemaOkSaid', no condition beyond the row's own).
-/
import Derived.Test.YtkjcogdjhjnmlaaRows
import Derived.WalkKit
import Derived.ProofKit
import Derived.OpenShut
import Derived.ShutString
import Derived.ChangeOld
import Derived.Below
import Derived.Test.YtkjcogdjhjnmlaaOpn
import Derived.Test.YtkjcogdjhjnmlaaTabOk
import Derived.Test.YtkjcogdjhjnmlaaTabRow
namespace Go.Proofs.Ytkjcogdjhjnmlaa.fnExactSchemaOk
open Go.ChangeShapes Go.WideShapes Go.ChangeAt Go.RowKit
set_option linter.unusedVariables false

theorem own : ownKnob Try.prog.godebug = none := by kernel_rfl
theorem laidOut : laidOutB Try.prog = true := by kernel_rfl


/-! ### THE WALK: the Go text returns true, and writes nothing that was there -/
set_option maxHeartbeats 4000000 in
theorem walk (w : World) (n0 c0 : Int) (b0 : (-9223372036854775808 ≤ n0 ∧ n0 ≤ 9223372036854775807) ∧ (-9223372036854775808 ≤ c0 ∧ c0 ≤ 9223372036854775807)) :
    Calls Try.prog 4 #[.agg #[.int .i64 n0, .int .i64 c0]] w fun e w' => e = .returned (.bool true) ∧ Below w.heap.size w w' := by
  have box : ∀ {W w1 : World}, Below W.heap.size W w1 → Tk.Box2 W w.heap.size (.int .i64 n0) (.int .i64 c0) → Tk.Box2 w1 w.heap.size (.int .i64 n0) (.int .i64 c0) := fun hB b => b.below hB
  have b0 : Tk.Box2 (w.alloc (.cells #[.int .i64 n0, .int .i64 c0] 38)) w.heap.size (.int .i64 n0) (.int .i64 c0) := ⟨by simp, by simp, by simp⟩
  have hB0 : Below w.heap.size w (w.alloc (.cells #[.int .i64 n0, .int .i64 c0] 38)) := (Below.refl _ _).alloc (Nat.le_refl _) _
  go_enter Try.func4, Try.ntmps4
  go_wp2_with fail
  refine (Tb.toSchema _ _ _).mono ?_
  rintro e w1 ⟨rfl, hB1⟩
  have b1 := box hB1 b0
  have hB := hB0.trans (hB1.mono hB0.size)
  clear hB1
  go_wp2_with fail
  refine (Tk.ssch _ _ _).mono ?_
  rintro e w2 ⟨rfl, hB2⟩
  have b2 := box hB2 b1
  have hB := hB.trans (hB2.mono hB.size)
  clear hB2
  obtain ⟨_, d0, d1⟩ := b2
  go_wp2_with fail
  refine (Tb.toSchema _ _ _).mono ?_
  rintro e w3 ⟨rfl, hB3⟩
  have hB := hB.trans (hB3.mono hB.size)
  clear hB3 d0 d1
  go_wp2_with fail
  refine (Tk.isch _ _ _).mono ?_
  rintro e w4 ⟨rfl, hB4⟩
  have hB := hB.trans (hB4.mono hB.size)
  clear hB4
  cases hq : Tk.sok n0 c0
  all_goals
    go_wp2
    go_ret
    exact ⟨rfl, hB⟩

/-! ### THE ROW's STEP -/
theorem lifted (os : Os) (started : os.Started) (H : Type) (enc : TypeId × Value → H) :
    ReturnsInHanded {} Try.checked os 4 .any (Rows.fnExactSchemaOkSpec.pre6 enc Try.prog Try.f4 Rows.fnExactSchemaOkRow.domain false) (Rows.fnExactSchemaOkSpec.post enc Try.prog Try.f4 false true false false) := by
  refine returnsInHanded_of_change (C := Try.checked) own started (by kernel_rfl) Try.func4
    (ChangeSpec.witness6 (enc := enc) (C := Try.checked) false ⟨#[], #[.agg #[.int .i64 0, .int .i64 0]], []⟩ 8 (by kernel_rfl) (by kernel_rfl) (by kernel_rfl) (by kernel_rfl)) ?_
  intro W base args ds gs before hval0 hW hcnd _
  have hval : ∀ (j : Nat) t v, Try.f4.params[j]? = some t → args[j]? = some v → Value.okWide Try.prog W .any base t v := hval0
  have hW' := hW
  obtain ⟨p, q, hA0, hV, rfl, hfz, hnd⟩ := hW
  have hA : DataW.TrodAll enc Try.prog W 0 (fun _ => true) true Try.f4.params.toList args.toList ds p := hA0
  rw [Try.params4] at hA hval
  obtain ⟨v0, vs0, d0, ds0, p0, q0, hargs, rfl, rfl, h0, r0⟩ := trodAll_cons hA
  obtain ⟨rfl, rfl, rfl⟩ := trodAll_nil r0
  obtain rfl : args = #[v0] := by cases args; simp_all
  obtain ⟨rfl, rfl⟩ := trodVars_none hV
  have k0 := h0
  have lt0 : ∀ x ∈ p0, x.block < W.heap.size := by obtain ⟨m, hm⟩ := k0; exact DataW.trod_lt m _ _ _ hm
  obtain ⟨n0, c0, rfl, b0⟩ := Op.schema_open (hval 0 38 v0 rfl rfl) h0
  clear hA0 hval0
  refine (walk W n0 c0 b0).mono fun e W' ⟨he, bel⟩ => ?_
  subst he
  exact ⟨_, rfl, _, _, _, [], _, [], hW', trodAll_mk1 (shut_bool Try.underlying4 _), (trodAll_cons_mk (Below.trod laidOut (by kernel_rfl) (of_decide_eq_true (by kernel_rfl)) k0 bel lt0) trodAll_mk0), rfl, bel.frame _, fun h => by cases h⟩

theorem over : Rows.fnExactSchemaOkRow.holds Try.pinned (OpenSpec.ofChange Rows.fnExactSchemaOkSpec) :=
  OpenClaim.holds_of_wide 4 Try.f4 rfl rfl rfl rfl rfl rfl rfl ⟨rfl, rfl, rfl, rfl, rfl⟩ rfl rfl rfl rfl rfl (by kernel_rfl) Try.func4 (by kernel_rfl)
    (of_decide_eq_true (by kernel_rfl)) (by unfold Func.isWrapper; first | (rw [if_pos (by decide +kernel)]; kernel_rfl) | (rw [if_neg (by decide +kernel)]; exact ⟨rfl, rfl⟩))
    (fun os started H enc _ => lifted os started H enc)

/-- THE STATEMENT -/
theorem proved : Rows.FnExactSchemaOkSaid := over
#print axioms proved
end Go.Proofs.Ytkjcogdjhjnmlaa.fnExactSchemaOk
