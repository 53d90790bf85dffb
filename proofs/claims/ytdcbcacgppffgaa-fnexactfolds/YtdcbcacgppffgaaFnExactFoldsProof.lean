/-
  Proved here: the Go function laws.FnExactFolds, called with any arguments that can be read, returns true, and each argument reads afterwards as it read before ('Rows.FnExactFoldsSaid', no condition beyond the row's own).
-/
import Derived.Test.YtdcbcacgppffgaaRows
import Derived.WalkKit
import Derived.ProofKit
import Derived.OpenShut
import Derived.ShutString
import Derived.ChangeOld
import Derived.Below
import Derived.Test.YtdcbcacgppffgaaOpnS
import Derived.Test.YtdcbcacgppffgaaFol
namespace Go.Proofs.Ytdcbcacgppffgaa.fnExactFolds
open Go.ChangeShapes Go.WideShapes Go.ChangeAt Go.RowKit
set_option linter.unusedVariables false
set_option maxRecDepth 100000

theorem own : ownKnob Try.prog.godebug = none := by kernel_rfl
theorem laidOut : laidOutB Try.prog = true := by kernel_rfl


/-! ### THE WALK: the Go text returns true, and writes nothing that was there -/
set_option maxRecDepth 100000 in
set_option maxHeartbeats 4000000 in
theorem walk (w : World) (a0 : Int) (b0 : (-9223372036854775808 ≤ a0 ∧ a0 ≤ 9223372036854775807)) (a1 : Int) (b1 : (-9223372036854775808 ≤ a1 ∧ a1 ≤ 9223372036854775807)) :
    Calls Try.prog 6 #[.int .i64 a0, .int .i64 a1] w fun e w' => e = .returned (.bool true) ∧ Below w.heap.size w w' := by
  go_enter Try.func6, Try.ntmps6
  have hB : Below w.heap.size w w := Below.refl _ _
  obtain ⟨r0, hr0⟩ : ∃ r, Fo.folds a0 a1 = r := ⟨_, rfl⟩
  have HR0 : Hid (Fo.folds a0 a1 = r0) := hr0
  have hrl0 : r0.length ≤ 1048576 := by rw [← hr0]; have := Fo.folds_len a0 a1; omega
  clear hr0
  go_wp2_with fail
  refine (Fo.sfolds _ a0 a1 (by omega) (by omega)).mono ?_
  rintro e w1 ⟨v_o0, rfl, o0, hb⟩
  rw [HR0.out] at o0
  have o0 := o0.mono (base' := w.heap.size) hB.size
  have hB := hB.trans (hb.mono hB.size)
  clear hb
  obtain ⟨_, _, ee, _⟩ := o0.isl
  subst ee
  go_wp2_with fail
  refine (Fo.ifolds _ a0 a1 (by omega) (by omega)).mono ?_
  rintro e w2 ⟨v_g0, rfl, g0, hb⟩
  rw [HR0.out] at g0
  have s_o0_g0 := Tb.sepR o0 g0
  have g0 := g0.mono (base' := w.heap.size) hB.size
  have o0 := o0.below hb
  have hB := hB.trans (hb.mono hB.size)
  clear hb
  obtain ⟨_, _, ee, _⟩ := g0.isl
  subst ee
  obtain ⟨_, _, ee, hcap_g0, i_g0⟩ := Tb.isl_cap g0
  cases ee
  obtain ⟨_, _, ee, hcap_o0, i_o0⟩ := Tb.isl_cap o0
  cases ee
  go_wp2_with fail
  refine (Li.eq_bel _ _ _ _ _ r0 r0 i_g0 i_o0 (by omega) (by omega)).mono ?_
  rintro e w3 ⟨rfl, hb⟩
  rw [Li.eqs_self]
  have o0 := o0.below hb
  have g0 := g0.below hb
  have hB := hB.trans (hb.mono hB.size)
  clear hb i_g0 i_o0
  go_wp2_with fail
  refine (Li.mark_walk _ _ _ _ _ ((1 : Nat) : Int) r0 rfl g0 (by omega) (by omega) (by omega)).mono ?_
  rintro e w4 ⟨rfl, g0_m, hg, hz⟩
  clear hz
  have o0 := o0.kept hg (by first | exact s_g0_o0.1 | exact s_o0_g0.2)
  have hB := hB.trans (Tb.below_ownR hg (fun k hk => by have := (g0.ge k hk).1; have := hB.size; omega) hB.size)
  clear hg g0
  have g0 := g0_m
  clear g0_m
  have gm := g0
  clear g0
  obtain ⟨_, _, ee, ig⟩ := gm.isl
  simp only [Li.marks_length] at ee
  cases ee
  go_wp2_with fail
  refine (Li.held_walk _ _ _ _ _ ig (by omega) (by omega) (by omega)).mono ?_
  rintro e w' ⟨rfl, hw'⟩
  subst w'
  clear ig
  rw [show (((1 : Nat) : Int) + (r0.length : Int)) = 1 + (r0.length : Int) by omega]
  have hmm : ((1 + (r0.length : Int)) != (1 + (r0.length : Int))) = false := by simp
  have hm0 : ¬ (1 + (r0.length : Int)) < 0 := by omega
  go_wp2_with fail
  refine (Fo.ifolds _ a0 a1 (by omega) (by omega)).mono ?_
  rintro e w6 ⟨v_h0, rfl, h0, hb⟩
  rw [HR0.out] at h0
  have s_o0_h0 := Tb.sepR o0 h0
  have s_gm_h0 := Tb.sepR gm h0
  have h0 := h0.mono (base' := w.heap.size) hB.size
  have o0 := o0.below hb
  have gm := gm.below hb
  have hB := hB.trans (hb.mono hB.size)
  clear hb
  obtain ⟨_, _, ee, _⟩ := h0.isl
  subst ee
  obtain ⟨_, _, ee, hcap_h0, i_h0⟩ := Tb.isl_cap h0
  cases ee
  obtain ⟨_, _, ee, hcap_o0, i_o0⟩ := Tb.isl_cap o0
  cases ee
  go_wp2_with fail
  refine (Li.eq_bel _ _ _ _ _ r0 r0 i_h0 i_o0 (by omega) (by omega)).mono ?_
  rintro e w7 ⟨rfl, hb⟩
  rw [Li.eqs_self]
  have o0 := o0.below hb
  have gm := gm.below hb
  have h0 := h0.below hb
  have hB := hB.trans (hb.mono hB.size)
  clear hb i_h0 i_o0
  obtain ⟨_, _, ee, ig⟩ := gm.isl
  simp only [Li.marks_length] at ee
  cases ee
  go_wp2_with fail
  refine (Li.held_walk _ _ _ _ _ ig (by omega) (by omega) (by omega)).mono ?_
  rintro e w' ⟨rfl, hw'⟩
  subst w'
  clear ig
  go_wp2
  go_ret
  exact ⟨rfl, hB⟩

/-! ### THE ROW's STEP -/
theorem lifted (os : Os) (started : os.Started) (H : Type) (enc : TypeId × Value → H) :
    ReturnsInHanded {} Try.checked os 6 .any (Rows.fnExactFoldsSpec.pre6 enc Try.prog Try.f6 Rows.fnExactFoldsRow.domain false) (Rows.fnExactFoldsSpec.post enc Try.prog Try.f6 false true false false) := by
  refine returnsInHanded_of_change (C := Try.checked) own started (by kernel_rfl) Try.func6
    (ChangeSpec.witness6 (enc := enc) (C := Try.checked) false ⟨#[], #[.int .i64 0, .int .i64 0], []⟩ 8 (by kernel_rfl) (by kernel_rfl) (by kernel_rfl) (by kernel_rfl)) ?_
  intro W base args ds gs before hval0 hW hcnd _
  have hval : ∀ (j : Nat) t v, Try.f6.params[j]? = some t → args[j]? = some v → Value.okWide Try.prog W .any base t v := hval0
  have hW' := hW
  obtain ⟨p, q, hA0, hV, rfl, hfz, hnd⟩ := hW
  have hA : DataW.TrodAll enc Try.prog W 0 (fun _ => true) true Try.f6.params.toList args.toList ds p := hA0
  rw [Try.params6] at hA hval
  obtain ⟨v0, vs0, d0, ds0, p0, q0, hargs, rfl, rfl, h0, rest0⟩ := trodAll_cons hA
  obtain ⟨v1, vs1, d1, ds1, p1, q1, rfl, rfl, rfl, h1, rest1⟩ := trodAll_cons rest0
  obtain ⟨rfl, rfl, rfl⟩ := trodAll_nil rest1
  obtain rfl : args = #[v0, v1] := by cases args; simp_all
  obtain ⟨rfl, rfl⟩ := trodVars_none hV
  have k0 := h0
  have lt0 : ∀ x ∈ p0, x.block < W.heap.size := by obtain ⟨m, hm⟩ := k0; exact DataW.trod_lt m _ _ _ hm
  have k1 := h1
  have lt1 : ∀ x ∈ p1, x.block < W.heap.size := by obtain ⟨m, hm⟩ := k1; exact DataW.trod_lt m _ _ _ hm
  obtain ⟨a0, rfl, b0⟩ := Op.int_open (hval 0 3 v0 rfl rfl) h0
  obtain ⟨a1, rfl, b1⟩ := Op.int_open (hval 1 3 v1 rfl rfl) h1
  clear hA0 hval0
  refine (walk W a0 b0 a1 b1).mono fun e W' ⟨he, bel⟩ => ?_
  subst he
  exact ⟨_, rfl, _, _, _, [], _, [], hW', trodAll_mk1 (shut_bool Try.underlying4 _), (trodAll_cons_mk (Below.trod laidOut (by kernel_rfl) (of_decide_eq_true (by kernel_rfl)) k0 bel lt0) (trodAll_cons_mk (Below.trod laidOut (by kernel_rfl) (of_decide_eq_true (by kernel_rfl)) k1 bel lt1) trodAll_mk0)), rfl, bel.frame _, fun h => by cases h⟩

theorem over : Rows.fnExactFoldsRow.holds Try.pinned (OpenSpec.ofChange Rows.fnExactFoldsSpec) :=
  OpenClaim.holds_of_wide 6 Try.f6 rfl rfl rfl rfl rfl rfl rfl ⟨rfl, rfl, rfl, rfl, rfl⟩ rfl rfl rfl rfl rfl (by kernel_rfl) Try.func6 (by kernel_rfl)
    (of_decide_eq_true (by kernel_rfl)) (by unfold Func.isWrapper; first | (rw [if_pos (by decide +kernel)]; kernel_rfl) | (rw [if_neg (by decide +kernel)]; exact ⟨rfl, rfl⟩))
    (fun os started H enc _ => lifted os started H enc)

/-- THE STATEMENT -/
theorem proved : Rows.FnExactFoldsSaid := over
#print axioms proved
end Go.Proofs.Ytdcbcacgppffgaa.fnExactFolds
