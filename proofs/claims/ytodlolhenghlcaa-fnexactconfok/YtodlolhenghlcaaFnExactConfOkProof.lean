/-
  Proved here: the Go function laws.FnExactConfOk, called with any arguments that can be read, returns true, and each argument reads afterwards as it read before ('Rows.FnExactConfOkSaid', no condition beyond the row's own).
-/
import Derived.Test.YtodlolhenghlcaaRows
import Derived.WalkKit
import Derived.ProofKit
import Derived.OpenShut
import Derived.ShutString
import Derived.ChangeOld
import Derived.Below
import Derived.Test.YtodlolhenghlcaaOpnF
import Derived.Test.YtodlolhenghlcaaCfo
namespace Go.Proofs.Ytodlolhenghlcaa.fnExactConfOk
open Go.ChangeShapes Go.WideShapes Go.ChangeAt Go.RowKit
set_option linter.unusedVariables false
set_option maxRecDepth 100000

theorem own : ownKnob Try.prog.godebug = none := by kernel_rfl
theorem laidOut : laidOutB Try.prog = true := by kernel_rfl


/-! ### THE WALK: the Go text returns true, and writes nothing that was there -/
set_option maxRecDepth 100000 in
set_option maxHeartbeats 4000000 in
theorem walk (w : World) (c0 : Cf.C) :
    Calls Try.prog 4 #[.agg #[.int .i64 c0.trees, .int .i64 c0.depth, .int .i64 c0.most, .int .i64 c0.rate, .int .i64 c0.l2, .int .i64 c0.prior, .int .i64 c0.seed]] w fun e w' => e = .returned (.bool true) ∧ Below w.heap.size w w' := by
  go_enter Try.func4, Try.ntmps4
  go_wp2_with fail
  obtain ⟨W, hW, hsz, hB, bx⟩ := Cf.bx_new w c0 30
  rw [hW]
  clear hW
  have hsz' : w.heap.size < W.heap.size := by omega
  clear hsz
  refine (Cf.toConf _ _).mono ?_
  rintro e w1 ⟨rfl, hb⟩
  have bx := bx.below hb hsz'
  have hsz' : w.heap.size < w1.heap.size := by have := hb.size; omega
  have hB := hB.trans (hb.mono hB.size)
  clear hb
  go_wp2_with fail
  refine (Cf.scok _ _).mono ?_
  rintro e w2 ⟨rfl, hb⟩
  have bx := bx.below hb hsz'
  have hB := hB.trans (hb.mono hB.size)
  clear hb hsz'
  obtain ⟨_, q0, q1, q2, q3, q4, q5, q6⟩ := bx
  go_wp2_with fail
  clear q0 q1 q2 q3 q4 q5 q6
  refine (Cf.toConf _ _).mono ?_
  rintro e w3 ⟨rfl, hb⟩
  have hB := hB.trans (hb.mono hB.size)
  clear hb
  go_wp2_with fail
  refine (Cf.icok _ _).mono ?_
  rintro e w4 ⟨rfl, hb⟩
  have hB := hB.trans (hb.mono hB.size)
  clear hb
  obtain ⟨v0, hv0⟩ : ∃ v, Cf.cok c0 = v := ⟨_, rfl⟩
  rw [hv0]
  clear hv0
  have hne : (v0 != v0) = false := by simp
  go_wp2
  go_ret
  exact ⟨rfl, hB⟩

/-! ### THE ROW's STEP -/
theorem lifted (os : Os) (started : os.Started) (H : Type) (enc : TypeId × Value → H) :
    ReturnsInHanded {} Try.checked os 4 .any (Rows.fnExactConfOkSpec.pre6 enc Try.prog Try.f4 Rows.fnExactConfOkRow.domain false) (Rows.fnExactConfOkSpec.post enc Try.prog Try.f4 false true false false) := by
  refine returnsInHanded_of_change (C := Try.checked) own started (by kernel_rfl) Try.func4
    (ChangeSpec.witness6 (enc := enc) (C := Try.checked) false ⟨#[], #[.agg #[.int .i64 0, .int .i64 0, .int .i64 0, .int .i64 0, .int .i64 0, .int .i64 0, .int .i64 0]], []⟩ 8 (by kernel_rfl) (by kernel_rfl) (by kernel_rfl) (by kernel_rfl)) ?_
  intro W base args ds gs before hval0 hW hcnd _
  have hval : ∀ (j : Nat) t v, Try.f4.params[j]? = some t → args[j]? = some v → Value.okWide Try.prog W .any base t v := hval0
  have hW' := hW
  obtain ⟨p, q, hA0, hV, rfl, hfz, hnd⟩ := hW
  have hA : DataW.TrodAll enc Try.prog W 0 (fun _ => true) true Try.f4.params.toList args.toList ds p := hA0
  rw [Try.params4] at hA hval
  obtain ⟨v0, vs0, d0, ds0, p0, q0, hargs, rfl, rfl, h0, rest0⟩ := trodAll_cons hA
  obtain ⟨rfl, rfl, rfl⟩ := trodAll_nil rest0
  obtain rfl : args = #[v0] := by cases args; simp_all
  obtain ⟨rfl, rfl⟩ := trodVars_none hV
  have k0 := h0
  have lt0 : ∀ x ∈ p0, x.block < W.heap.size := by obtain ⟨m, hm⟩ := k0; exact DataW.trod_lt m _ _ _ hm
  obtain ⟨c0, rfl⟩ := Op.conf_open (hval 0 30 v0 rfl rfl) h0
  clear hA0 hval0
  refine (walk W c0).mono fun e W' ⟨he, bel⟩ => ?_
  subst he
  exact ⟨_, rfl, _, _, _, [], _, [], hW', trodAll_mk1 (shut_bool Try.underlying4 _), (trodAll_cons_mk (Below.trod laidOut (by kernel_rfl) (of_decide_eq_true (by kernel_rfl)) k0 bel lt0) trodAll_mk0), rfl, bel.frame _, fun h => by cases h⟩

theorem over : Rows.fnExactConfOkRow.holds Try.pinned (OpenSpec.ofChange Rows.fnExactConfOkSpec) :=
  OpenClaim.holds_of_wide 4 Try.f4 rfl rfl rfl rfl rfl rfl rfl ⟨rfl, rfl, rfl, rfl, rfl⟩ rfl rfl rfl rfl rfl (by kernel_rfl) Try.func4 (by kernel_rfl)
    (of_decide_eq_true (by kernel_rfl)) (by unfold Func.isWrapper; first | (rw [if_pos (by decide +kernel)]; kernel_rfl) | (rw [if_neg (by decide +kernel)]; exact ⟨rfl, rfl⟩))
    (fun os started H enc _ => lifted os started H enc)

/-- THE STATEMENT -/
theorem proved : Rows.FnExactConfOkSaid := over
#print axioms proved
end Go.Proofs.Ytodlolhenghlcaa.fnExactConfOk
