/-
  Proved here: the Go function laws.FnExactLeafValues, called with any arguments that can be read, returns true, and each argument reads afterwards as it read before ('Rows.FnExactLeafValuesSaid', no condition beyond the row's own).
-/
import Derived.Test.YtbnjbmajfadmaaaRows
import Derived.WalkKit
import Derived.ProofKit
import Derived.OpenShut
import Derived.ShutString
import Derived.ChangeOld
import Derived.Below
import Derived.Test.YtbnjbmajfadmaaaOpnR
import Derived.Test.YtbnjbmajfadmaaaSeZ
import Derived.Test.YtbnjbmajfadmaaaGwL
import Derived.Test.YtbnjbmajfadmaaaMul
namespace Go.Proofs.Ytbnjbmajfadmaaa.fnExactLeafValues
open Go.ChangeShapes Go.WideShapes Go.ChangeAt Go.RowKit
set_option linter.unusedVariables false
set_option maxRecDepth 100000

theorem own : ownKnob Try.prog.godebug = none := by kernel_rfl
theorem laidOut : laidOutB Try.prog = true := by kernel_rfl


/-! ### THE WALK: the Go text returns true, and writes nothing that was there -/
set_option maxRecDepth 100000 in
set_option maxHeartbeats 4000000 in
theorem walk (w : World) (a0 : Option Addr) (l0 : List (Int × Int)) (cap0 : Nat) (hx0 : Tm.IsP w a0 l0) (hl0 : l0.length ≤ maxLen) (a1 : Int) (b1 : (-9223372036854775808 ≤ a1 ∧ a1 ≤ 9223372036854775807)) (a2 : Int) (b2 : (-9223372036854775808 ≤ a2 ∧ a2 ≤ 9223372036854775807)) :
    Calls Try.prog 7 #[.slice a0 l0.length cap0, .int .i64 a1, .int .i64 a2] w fun e w' => e = .returned (.bool true) ∧ Below w.heap.size w w' := by

  unfold maxLen at hl0
  have hB : Below w.heap.size w w := Below.refl _ _
  go_enter Try.func7, Try.ntmps7
  go_wp2_with fail
  refine (Sv.szCells _ _ _ _ _ (by omega) (by omega) (by omega)).mono ?_
  rintro e w' ⟨rfl, hw⟩
  subst w'
  by_cases s0 : (l0.length : Int) ≤ 1048576
  rotate_left
  · rw [Tb.sub_no s0]
    go_wp2
    go_ret
    exact ⟨rfl, hB⟩
  rw [Tb.sub_yes s0]
  obtain ⟨y0, hy0⟩ : ∃ t : Int, 1048576 - (l0.length : Int) = t := ⟨_, rfl⟩
  rw [hy0]
  have y0a : 0 ≤ y0 := by omega
  have qs : l0.length ≤ 1048576 := by omega
  clear hy0
  obtain ⟨v0, hv0⟩ : ∃ v, Gw.lvs l0 a1 a2 = v := ⟨_, rfl⟩
  have HV : Hid (Gw.lvs l0 a1 a2 = v0) := hv0
  have hvl : v0.length ≤ 16 := by rw [← hv0]; exact Gw.lvs_le _ _ _
  clear hv0
  go_wp2_with fail
  refine (Sv.toCells _ _ _ l0 (hx0.below hB) qs).mono ?_
  rintro e w1 ⟨rfl, oy, hb⟩
  have hB := hB.trans (hb.mono hB.size)
  have z0 := hB.size
  clear hb
  go_wp2_with fail
  refine (Gw.slvs _ _ _ l0 a1 a2 (Sv.owc_isp oy) qs).mono ?_
  rintro e w2 ⟨v_S, rfl, oS0, hb⟩
  rw [HV.out] at oS0
  have oS := Sv.owi_own oS0
  have hB := hB.trans (hb.mono hB.size)
  have z1 := hb.size
  obtain ⟨p_S, d_S, ee, _⟩ := oS.isl
  subst ee
  clear hb oy oS0
  go_wp2_with fail
  refine (Sv.toCells _ _ _ l0 (hx0.below hB) qs).mono ?_
  rintro e w3 ⟨rfl, ox, hb⟩
  have oS := oS.below hb
  have hB := hB.trans (hb.mono hB.size)
  have z2 := hb.size
  clear hb
  go_wp2_with fail
  refine (Gw.ilvs _ _ _ l0 a1 a2 (Sv.owc_isp ox) qs).mono ?_
  rintro e w4 ⟨v_G, rfl, oG0, hb⟩
  rw [HV.out] at oG0
  have oG := Sv.owi_own oG0
  have ox := ox.below hb
  have oS := oS.below hb
  have hB := hB.trans (hb.mono hB.size)
  have z3 := hb.size
  obtain ⟨p_G, d_G, ee, _⟩ := oG.isl
  subst ee
  clear hb oG0
  go_wp2_with fail
  refine (Li.eq_bel _ _ _ _ _ v0 v0 (Gw.owi_isl oG) (Gw.owi_isl oS) (by omega) (by omega)).mono ?_
  rintro e w5 ⟨rfl, hb⟩
  rw [Li.eqs_self]
  have ox := ox.below hb
  have oS := oS.below hb
  have oG := oG.below hb
  have hB := hB.trans (hb.mono hB.size)
  have z4 := hb.size
  clear hb
  go_wp2_with fail
  refine (Sv.toCells _ _ _ l0 (hx0.below hB) qs).mono ?_
  rintro e w6 ⟨rfl, oz, hb⟩
  have ox := ox.below hb
  have oS := oS.below hb
  have oG := oG.below hb
  have hB := hB.trans (hb.mono hB.size)
  have z5 := hb.size
  clear hb
  go_wp2_with fail
  refine (Sv.eqCells _ _ _ _ _ l0 (Sv.owc_isp ox) (Sv.owc_isp oz) qs).mono ?_
  rintro e w7 ⟨rfl, hb⟩
  have ox := ox.below hb
  have oS := oS.below hb
  have oG := oG.below hb
  have hB := hB.trans (hb.mono hB.size)
  have z6 := hb.size
  clear hb oz
  go_wp2_with fail
  refine (Sv.markCells _ _ _ _ l0 ox qs (by omega) (by omega)).mono ?_
  rintro e w8 ⟨rfl, _, hf⟩
  have oS := oS.fr hf (fun k hk e => by omega)
  have oG := oG.fr hf (fun k hk e => by omega)
  have hB := hB.trans (hf.bel (fun k hk => by omega) hB.size)
  have zf := hf.size
  clear hf ox
  obtain ⟨K, hK⟩ : ∃ K : Int, 1 + 2 * (l0.length : Int) = K := ⟨_, rfl⟩
  rw [hK]
  have hK0 : 0 ≤ K := by omega
  clear hK
  go_wp2_with fail
  refine (Li.eq_bel _ _ _ _ _ v0 v0 (Gw.owi_isl oG) (Gw.owi_isl oS) (by omega) (by omega)).mono ?_
  rintro e w9 ⟨rfl, hb⟩
  rw [Li.eqs_self]
  have oS := oS.below hb
  have oG := oG.below hb
  have hB := hB.trans (hb.mono hB.size)
  have z7 := hb.size
  clear hb
  go_wp2_with fail
  refine (Sv.markI _ _ _ _ v0 oG (by omega) (by omega) (by omega)).mono ?_
  rintro e w10 ⟨rfl, oG, hf⟩
  have oS := oS.fr hf (fun k hk e => by omega)
  have hB := hB.trans (hf.bel (fun k hk => by omega) hB.size)
  have zg := hf.size
  clear hf
  obtain ⟨M, hM⟩ : ∃ M : Int, 1 + (v0.length : Int) = M := ⟨_, rfl⟩
  have hM0 : ¬ M < 0 := by omega
  have hMM : (M != M) = false := by simp
  have HM : Hid (1 + (v0.length : Int) = M) := hM
  rw [hM]
  clear hM
  go_wp2_with fail
  refine (Li.held_walk _ _ _ _ 1 (Gw.owi_isl_marks oG) (by omega) (by omega) (by omega)).mono ?_
  rintro e w' ⟨rfl, hw⟩
  subst w'
  rw [HM.out]
  go_wp2_with fail
  refine (Sv.toCells _ _ _ l0 (hx0.below hB) qs).mono ?_
  rintro e w11 ⟨rfl, oy, hb⟩
  have oS := oS.below hb
  have oG := oG.below hb
  have hB := hB.trans (hb.mono hB.size)
  clear hb
  go_wp2_with fail
  refine (Gw.ilvs _ _ _ l0 a1 a2 (Sv.owc_isp oy) qs).mono ?_
  rintro e w12 ⟨v_H, rfl, oH0, hb⟩
  rw [HV.out] at oH0
  have oH := Sv.owi_own oH0
  have oS := oS.below hb
  have oG := oG.below hb
  have hB := hB.trans (hb.mono hB.size)
  obtain ⟨p_H, d_H, ee, _⟩ := oH.isl
  subst ee
  clear hb oH0 oy
  go_wp2_with fail
  refine (Li.eq_bel _ _ _ _ _ v0 v0 (Gw.owi_isl oH) (Gw.owi_isl oS) (by omega) (by omega)).mono ?_
  rintro e w13 ⟨rfl, hb⟩
  rw [Li.eqs_self]
  have oG := oG.below hb
  have hB := hB.trans (hb.mono hB.size)
  clear hb
  go_wp2_with fail
  refine (Li.held_walk _ _ _ _ 1 (Gw.owi_isl_marks oG) (by omega) (by omega) (by omega)).mono ?_
  rintro e w' ⟨rfl, hw⟩
  subst w'
  rw [HM.out]
  go_wp2
  go_ret
  exact ⟨rfl, hB⟩

/-! ### THE ROW's STEP -/
theorem lifted (os : Os) (started : os.Started) (H : Type) (enc : TypeId × Value → H) :
    ReturnsInHanded {} Try.checked os 7 .any (Rows.fnExactLeafValuesSpec.pre6 enc Try.prog Try.f7 Rows.fnExactLeafValuesRow.domain false) (Rows.fnExactLeafValuesSpec.post enc Try.prog Try.f7 false true false false) := by
  refine returnsInHanded_of_change (C := Try.checked) own started (by kernel_rfl) Try.func7
    (ChangeSpec.witness6 (enc := enc) (C := Try.checked) false ⟨#[], #[.slice none 0 0, .int .i64 0, .int .i64 0], []⟩ 8 (by kernel_rfl) (by kernel_rfl) (by kernel_rfl) (by kernel_rfl)) ?_
  intro W base args ds gs before hval0 hW hcnd _
  have hval : ∀ (j : Nat) t v, Try.f7.params[j]? = some t → args[j]? = some v → Value.okWide Try.prog W .any base t v := hval0
  have hW' := hW
  obtain ⟨p, q, hA0, hV, rfl, hfz, hnd⟩ := hW
  have hA : DataW.TrodAll enc Try.prog W 0 (fun _ => true) true Try.f7.params.toList args.toList ds p := hA0
  rw [Try.params7] at hA hval
  obtain ⟨v0, vs0, d0, ds0, p0, q0, hargs, rfl, rfl, h0, rest0⟩ := trodAll_cons hA
  obtain ⟨v1, vs1, d1, ds1, p1, q1, rfl, rfl, rfl, h1, rest1⟩ := trodAll_cons rest0
  obtain ⟨v2, vs2, d2, ds2, p2, q2, rfl, rfl, rfl, h2, rest2⟩ := trodAll_cons rest1
  obtain ⟨rfl, rfl, rfl⟩ := trodAll_nil rest2
  obtain rfl : args = #[v0, v1, v2] := by cases args; simp_all
  obtain ⟨rfl, rfl⟩ := trodVars_none hV
  have k0 := h0
  have lt0 : ∀ x ∈ p0, x.block < W.heap.size := by obtain ⟨m, hm⟩ := k0; exact DataW.trod_lt m _ _ _ hm
  have k1 := h1
  have lt1 : ∀ x ∈ p1, x.block < W.heap.size := by obtain ⟨m, hm⟩ := k1; exact DataW.trod_lt m _ _ _ hm
  have k2 := h2
  have lt2 : ∀ x ∈ p2, x.block < W.heap.size := by obtain ⟨m, hm⟩ := k2; exact DataW.trod_lt m _ _ _ hm
  obtain ⟨a0, l0, cap0, rfl, hx0, hl0⟩ := Op.cells_open (hval 0 67 v0 rfl rfl) h0
  obtain ⟨a1, rfl, b1⟩ := Op.int_open (hval 1 3 v1 rfl rfl) h1
  obtain ⟨a2, rfl, b2⟩ := Op.int_open (hval 2 3 v2 rfl rfl) h2
  clear hA0 hval0
  refine (walk W a0 l0 cap0 hx0 hl0 a1 b1 a2 b2).mono fun e W' ⟨he, bel⟩ => ?_
  subst he
  exact ⟨_, rfl, _, _, _, [], _, [], hW', trodAll_mk1 (shut_bool Try.underlying4 _), (trodAll_cons_mk (Below.trod laidOut (by kernel_rfl) (of_decide_eq_true (by kernel_rfl)) k0 bel lt0) (trodAll_cons_mk (Below.trod laidOut (by kernel_rfl) (of_decide_eq_true (by kernel_rfl)) k1 bel lt1) (trodAll_cons_mk (Below.trod laidOut (by kernel_rfl) (of_decide_eq_true (by kernel_rfl)) k2 bel lt2) trodAll_mk0))), rfl, bel.frame _, fun h => by cases h⟩

theorem over : Rows.fnExactLeafValuesRow.holds Try.pinned (OpenSpec.ofChange Rows.fnExactLeafValuesSpec) :=
  OpenClaim.holds_of_wide 7 Try.f7 rfl rfl rfl rfl rfl rfl rfl ⟨rfl, rfl, rfl, rfl, rfl⟩ rfl rfl rfl rfl rfl (by kernel_rfl) Try.func7 (by kernel_rfl)
    (of_decide_eq_true (by kernel_rfl)) (by unfold Func.isWrapper; first | (rw [if_pos (by decide +kernel)]; kernel_rfl) | (rw [if_neg (by decide +kernel)]; exact ⟨rfl, rfl⟩))
    (fun os started H enc _ => lifted os started H enc)

/-- THE STATEMENT -/
theorem proved : Rows.FnExactLeafValuesSaid := over
#print axioms proved
end Go.Proofs.Ytbnjbmajfadmaaa.fnExactLeafValues
