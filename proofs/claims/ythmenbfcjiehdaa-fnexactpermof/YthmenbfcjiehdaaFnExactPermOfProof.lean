/-
  Proved here: the Go function laws.FnExactPermOf, called with any arguments that can be read, returns true, and each argument reads afterwards as it read before ('Rows.FnExactPermOfSaid', no condition beyond the row's own). The frame was written by the guide's program; the walk and its contracts are by hand.
-/
import Derived.Test.YthmenbfcjiehdaaRows
import Derived.WalkKit
import Derived.ProofKit
import Derived.OpenShut
import Derived.ShutString
import Derived.Test.YthmenbfcjiehdaaPermOf
namespace Go.Proofs.Ythmenbfcjiehdaa.fnExactPermOf
open Go.ChangeShapes Go.WideShapes Go.ChangeAt Go.RowKit
open Go.ChangeMaps (open_string shut_string)
set_option linter.unusedVariables false      -- a walk need not use every 'w<i>' (that an integer argument fits its kind)

theorem own : ownKnob Try.prog.godebug = none := by kernel_rfl

/-! ### STEP 1: THE WALK: the Go text returns true. 'Grown w w'': the world has at most new blocks (Derived/RowKit3.lean). Part the cases AHEAD of 'go_enter' where a test parts the walk; take each callee by a contract of your own. -/
set_option maxRecDepth 100000 in
set_option maxHeartbeats 40000000 in
theorem walk (a0 : Int) (a1 : Int) (w0 : (Lit.int .i64 a0).wf = true) (w1 : (Lit.int .i64 a1).wf = true) (w : World) :
    Calls Try.prog 7 #[.int .i64 a0, .int .i64 a1] w fun e w' => e = .returned (.bool true) ∧ Below w.heap.size w w' := by
  have hys := Po.permR_len a0 a1
  obtain ⟨ys, hyz⟩ : ∃ ys, Po.permR a0 a1 = ys := ⟨_, rfl⟩
  rw [hyz] at hys
  go_enter Try.func7, Try.ntmps7
  go_wp2_with fail
  refine (Po.sperm_any _ _ _).mono ?_
  rintro e w1 ⟨v0, rfl, o0, hB⟩
  rw [hyz] at o0
  obtain ⟨q0, c0, e0, i0⟩ := o0.isl
  subst e0
  go_wp2_with fail
  refine (Po.iperm_any _ _ _).mono ?_
  rintro e w2 ⟨vg, rfl, og, hB2⟩
  rw [hyz] at og
  have s0g := Li.sep o0 og
  have o0 := o0.below hB2
  have og := og.mono hB.size
  have hB := hB.trans (hB2.mono hB.size)
  clear hB2 i0
  obtain ⟨ag, cg, eg, ig⟩ := og.isl
  subst eg
  obtain ⟨_, _, e0, i0⟩ := o0.isl
  cases e0
  have hs := Li.eqs_self ys
  go_wp2_with fail
  refine (Li.eq_bel _ _ _ _ _ ys ys ig i0 (by omega) (by omega)).mono ?_
  rintro e w5 ⟨rfl, hB5⟩
  have o0 := o0.below hB5
  have og := og.below hB5
  have hB := hB.trans (hB5.mono hB.size)
  clear hB5 i0 ig
  go_wp2_with fail
  refine (Li.mark_walk _ _ _ _ _ _ ys rfl og (by omega) (by omega) (by omega)).mono ?_
  rintro e w10 ⟨rfl, og10, hg10, hz10⟩
  have o0 := o0.kept hg10 s0g.2
  have hB := hB.trans (Li.below_own hg10 (fun k hk => (og.ge k hk).1) hB.size)
  clear hz10 hg10 og
  obtain ⟨_, _, eg, ig⟩ := og10.isl
  simp only [Li.marks_length] at eg
  cases eg
  go_wp2_with fail
  refine (Li.held_walk _ _ _ _ _ ig (by omega) (by omega) (by omega)).mono ?_
  rintro e w' ⟨rfl, hw⟩
  subst w'
  clear ig
  have hmm : ((1 + (ys.length : Int)) != (1 + (ys.length : Int))) = false := by simp
  go_wp2_with fail
  refine (Po.iperm_any _ _ _).mono ?_
  rintro e w12 ⟨vh, rfl, oh, hB12⟩
  rw [hyz] at oh
  have o0 := o0.below hB12
  have og := og10.below hB12
  have hB := hB.trans (hB12.mono hB.size)
  clear hB12
  obtain ⟨ah, ch, eh, ih⟩ := oh.isl
  subst eh
  obtain ⟨_, _, e0, i0⟩ := o0.isl
  cases e0
  go_wp2_with fail
  refine (Li.eq_bel _ _ _ _ _ ys ys ih i0 (by omega) (by omega)).mono ?_
  rintro e w13 ⟨rfl, hB13⟩
  have og := og.below hB13
  have hB := hB.trans (hB13.mono hB.size)
  clear hB13 i0 ih oh o0
  obtain ⟨_, _, eg, ig⟩ := og.isl
  simp only [Li.marks_length] at eg
  cases eg
  go_wp2_with fail
  refine (Li.held_walk _ _ _ _ _ ig (by omega) (by omega) (by omega)).mono ?_
  rintro e w' ⟨rfl, hw⟩
  subst w'
  go_wp2
  go_ret
  exact ⟨rfl, hB⟩

/-! ### THE ROW's STEP: WRITTEN OUT: LEAVE IT -/
set_option maxRecDepth 100000 in
theorem lifted (os : Os) (started : os.Started) (H : Type) (enc : TypeId × Value → H) :
    ReturnsInHanded {} Try.checked os 7 .any (Rows.fnExactPermOfSpec.pre6 enc Try.prog Try.f7 Rows.fnExactPermOfRow.domain false) (Rows.fnExactPermOfSpec.post enc Try.prog Try.f7 false true false false) := by
  refine returnsInHanded_of_change (C := Try.checked) own started (by kernel_rfl) Try.func7
    (ChangeSpec.witness6 (enc := enc) (C := Try.checked) false ⟨#[], #[.int .i64 0, .int .i64 0], []⟩ 8 (by kernel_rfl) (by kernel_rfl) (by kernel_rfl) (by kernel_rfl)) ?_
  intro W base args ds gs before hval0 hW hcnd _
  have hval : ∀ (j : Nat) t v, Try.f7.params[j]? = some t → args[j]? = some v → Value.okWide Try.prog W .any base t v := hval0
  have hW' := hW
  obtain ⟨p, q, hA0, hV, rfl, hfz, hnd⟩ := hW
  have hA : DataW.TrodAll enc Try.prog W 0 (fun _ => true) true Try.f7.params.toList args.toList ds p := hA0
  rw [Try.params7] at hA hval
  obtain ⟨v0, vs0, d0, ds0, p0, q0, hargs, rfl, rfl, h0, r0⟩ := trodAll_cons hA
  obtain ⟨v1, vs1, d1, ds1, p1, q1, rfl, rfl, rfl, h1, r1⟩ := trodAll_cons r0
  obtain ⟨rfl, rfl, rfl⟩ := trodAll_nil r1
  obtain rfl : args = #[v0, v1] := by cases args; simp_all
  obtain ⟨rfl, rfl⟩ := trodVars_none hV
  obtain ⟨a0, rfl, rfl, rfl, w0⟩ := open_int Try.underlying3 (hval 0 3 v0 rfl rfl) h0
  obtain ⟨a1, rfl, rfl, rfl, w1⟩ := open_int Try.underlying3 (hval 1 3 v1 rfl rfl) h1
  clear hA0 hval0
  simp only [List.append_nil] at hW'
  refine (walk a0 a1 w0 w1 W).mono fun e W' ⟨he, bel⟩ => ?_
  subst he
  exact ⟨_, rfl, _, _, _, [], _, [], hW', trodAll_mk1 (shut_bool Try.underlying4 _), (trodAll_cons_mk (shut_int Try.underlying3 w0) (trodAll_cons_mk (shut_int Try.underlying3 w1) trodAll_mk0)), rfl, bel.frame _, fun h => by cases h⟩

theorem over : Rows.fnExactPermOfRow.holds Try.pinned (OpenSpec.ofChange Rows.fnExactPermOfSpec) :=
  OpenClaim.holds_of_wide 7 Try.f7 rfl rfl rfl rfl rfl rfl rfl ⟨rfl, rfl, rfl, rfl, rfl⟩ rfl rfl rfl rfl rfl (by kernel_rfl) Try.func7 (by kernel_rfl)
    (of_decide_eq_true (by kernel_rfl)) (by unfold Func.isWrapper; first | (rw [if_pos (by decide +kernel)]; kernel_rfl) | (rw [if_neg (by decide +kernel)]; exact ⟨rfl, rfl⟩))
    (fun os started H enc _ => lifted os started H enc)

/-- THE STATEMENT -/
theorem proved : Rows.FnExactPermOfSaid :=
  over
#print axioms proved
end Go.Proofs.Ythmenbfcjiehdaa.fnExactPermOf
