/-
  Proved here: the Go function laws.FnExactScoreOf, called with any arguments that can be read, returns true, and each argument reads afterwards as it read before ('Rows.FnExactScoreOfSaid', no condition beyond the row's own).
-/
import Derived.Test.YtbiphcolddcinaaRows
import Derived.WalkKit
import Derived.ProofKit
import Derived.OpenShut
import Derived.ShutString
import Derived.ChangeOld
import Derived.Below
import Derived.Test.YtbiphcolddcinaaOpnR
import Derived.Test.YtbiphcolddcinaaSeZ
namespace Go.Proofs.Ytbiphcolddcinaa.fnExactScoreOf
open Go.ChangeShapes Go.WideShapes Go.ChangeAt Go.RowKit
set_option linter.unusedVariables false

theorem own : ownKnob Try.prog.godebug = none := by kernel_rfl
theorem laidOut : laidOutB Try.prog = true := by kernel_rfl


/-! ### THE WALK: the Go text returns true, and writes nothing that was there -/
set_option maxRecDepth 100000 in
set_option maxHeartbeats 4000000 in
theorem walk (w : World) (a0 : Option Addr) (l0 : List (Int × Int)) (cap0 : Nat) (hx0 : Tm.IsP w a0 l0) (hl0 : l0.length ≤ maxLen) (a1 : Int) (b1 : (-9223372036854775808 ≤ a1 ∧ a1 ≤ 9223372036854775807)) :
    Calls Try.prog 6 #[.slice a0 l0.length cap0, .int .i64 a1] w fun e w' => e = .returned (.bool true) ∧ Below w.heap.size w w' := by
  unfold maxLen at hl0
  have hB : Below w.heap.size w w := Below.refl _ _
  go_enter Try.func6, Try.ntmps6
  go_wp2_with fail
  refine (Sv.szCells _ _ _ _ _ (by omega) (by omega) (by omega)).mono ?_
  rintro e w' ⟨rfl, hw⟩
  subst w'
  by_cases s0 : (l0.length : Int) ≤ 1048576
  rotate_left
  · rw [Tb.sub_no s0]
    go_wp2
    go_ret
    exact ⟨rfl, hB⟩
  rw [Tb.sub_yes s0]
  obtain ⟨y0, hy0⟩ : ∃ t : Int, 1048576 - (l0.length : Int) = t := ⟨_, rfl⟩
  rw [hy0]
  have y0a : 0 ≤ y0 := by omega
  have qs : l0.length ≤ 1048576 := by omega
  clear hy0
  obtain ⟨v0, hv0⟩ : ∃ v, Se.score l0 a1 = v := ⟨_, rfl⟩
  have HV : Hid (Se.score l0 a1 = v0) := hv0
  clear hv0
  go_wp2_with fail
  refine (Sv.toCells _ _ _ l0 (hx0.below hB) qs).mono ?_
  rintro e w1 ⟨rfl, oy, hb⟩
  have hB := hB.trans (hb.mono hB.size)
  clear hb
  go_wp2_with fail
  refine (Sw7.sscore _ _ _ l0 a1 (Sv.owc_isp oy) qs).mono ?_
  rintro e w2 ⟨rfl, hb⟩
  have hB := hB.trans (hb.mono hB.size)
  clear hb oy
  rw [HV.out]
  go_wp2_with fail
  refine (Sv.toCells _ _ _ l0 (hx0.below hB) qs).mono ?_
  rintro e w3 ⟨rfl, ox, hb⟩
  have hB := hB.trans (hb.mono hB.size)
  clear hb
  go_wp2_with fail
  refine (Sw7.iscore _ _ _ l0 a1 (Sv.owc_isp ox) qs).mono ?_
  rintro e w4 ⟨rfl, hb⟩
  have ox := ox.below hb
  have hB := hB.trans (hb.mono hB.size)
  clear hb
  rw [HV.out]
  have hne : (v0 != v0) = false := by simp
  go_wp2_with fail
  refine (Sv.toCells _ _ _ l0 (hx0.below hB) qs).mono ?_
  rintro e w5 ⟨rfl, oz, hb⟩
  have ox := ox.below hb
  have hB := hB.trans (hb.mono hB.size)
  clear hb
  go_wp2_with fail
  refine (Sv.eqCells _ _ _ _ _ l0 (Sv.owc_isp ox) (Sv.owc_isp oz) qs).mono ?_
  rintro e w6 ⟨rfl, hb⟩
  have hB := hB.trans (hb.mono hB.size)
  clear hb
  go_wp2
  go_ret
  exact ⟨rfl, hB⟩

/-! ### THE ROW's STEP -/
theorem lifted (os : Os) (started : os.Started) (H : Type) (enc : TypeId × Value → H) :
    ReturnsInHanded {} Try.checked os 6 .any (Rows.fnExactScoreOfSpec.pre6 enc Try.prog Try.f6 Rows.fnExactScoreOfRow.domain false) (Rows.fnExactScoreOfSpec.post enc Try.prog Try.f6 false true false false) := by
  refine returnsInHanded_of_change (C := Try.checked) own started (by kernel_rfl) Try.func6
    (ChangeSpec.witness6 (enc := enc) (C := Try.checked) false ⟨#[], #[.slice none 0 0, .int .i64 0], []⟩ 8 (by kernel_rfl) (by kernel_rfl) (by kernel_rfl) (by kernel_rfl)) ?_
  intro W base args ds gs before hval0 hW hcnd _
  have hval : ∀ (j : Nat) t v, Try.f6.params[j]? = some t → args[j]? = some v → Value.okWide Try.prog W .any base t v := hval0
  have hW' := hW
  obtain ⟨p, q, hA0, hV, rfl, hfz, hnd⟩ := hW
  have hA : DataW.TrodAll enc Try.prog W 0 (fun _ => true) true Try.f6.params.toList args.toList ds p := hA0
  rw [Try.params6] at hA hval
  obtain ⟨v0, vs0, d0, ds0, p0, q0, hargs, rfl, rfl, h0, r0⟩ := trodAll_cons hA
  obtain ⟨v1, vs1, d1, ds1, p1, q1, rfl, rfl, rfl, h1, r1⟩ := trodAll_cons r0
  obtain ⟨rfl, rfl, rfl⟩ := trodAll_nil r1
  obtain rfl : args = #[v0, v1] := by cases args; simp_all
  obtain ⟨rfl, rfl⟩ := trodVars_none hV
  have k0 := h0
  have lt0 : ∀ x ∈ p0, x.block < W.heap.size := by obtain ⟨m, hm⟩ := k0; exact DataW.trod_lt m _ _ _ hm
  have k1 := h1
  have lt1 : ∀ x ∈ p1, x.block < W.heap.size := by obtain ⟨m, hm⟩ := k1; exact DataW.trod_lt m _ _ _ hm
  obtain ⟨a0, l0, cap0, rfl, hx0, hl0⟩ := Op.cells_open (hval 0 49 v0 rfl rfl) h0
  obtain ⟨a1, rfl, b1⟩ := Op.int_open (hval 1 3 v1 rfl rfl) h1
  clear hA0 hval0
  refine (walk W a0 l0 cap0 hx0 hl0 a1 b1).mono fun e W' ⟨he, bel⟩ => ?_
  subst he
  exact ⟨_, rfl, _, _, _, [], _, [], hW', trodAll_mk1 (shut_bool Try.underlying4 _), (trodAll_cons_mk (Below.trod laidOut (by kernel_rfl) (of_decide_eq_true (by kernel_rfl)) k0 bel lt0) (trodAll_cons_mk (Below.trod laidOut (by kernel_rfl) (of_decide_eq_true (by kernel_rfl)) k1 bel lt1) trodAll_mk0)), rfl, bel.frame _, fun h => by cases h⟩

theorem over : Rows.fnExactScoreOfRow.holds Try.pinned (OpenSpec.ofChange Rows.fnExactScoreOfSpec) :=
  OpenClaim.holds_of_wide 6 Try.f6 rfl rfl rfl rfl rfl rfl rfl ⟨rfl, rfl, rfl, rfl, rfl⟩ rfl rfl rfl rfl rfl (by kernel_rfl) Try.func6 (by kernel_rfl)
    (of_decide_eq_true (by kernel_rfl)) (by unfold Func.isWrapper; first | (rw [if_pos (by decide +kernel)]; kernel_rfl) | (rw [if_neg (by decide +kernel)]; exact ⟨rfl, rfl⟩))
    (fun os started H enc _ => lifted os started H enc)

/-- THE STATEMENT -/
theorem proved : Rows.FnExactScoreOfSaid := over
#print axioms proved
end Go.Proofs.Ytbiphcolddcinaa.fnExactScoreOf
