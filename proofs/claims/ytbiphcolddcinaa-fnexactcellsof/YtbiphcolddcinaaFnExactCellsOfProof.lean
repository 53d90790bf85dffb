/-
  Proved here: the Go function laws.FnExactCellsOf, called with any arguments that can be read, returns true, and each argument reads afterwards as it read before ('Rows.FnExactCellsOfSaid', no condition beyond the row's own).
-/
import Derived.Test.YtbiphcolddcinaaRows
import Derived.WalkKit
import Derived.ProofKit
import Derived.OpenShut
import Derived.ShutString
import Derived.ChangeOld
import Derived.Below
import Derived.Test.YtbiphcolddcinaaOpnR
import Derived.Test.YtbiphcolddcinaaSeZ
namespace Go.Proofs.Ytbiphcolddcinaa.fnExactCellsOf
open Go.ChangeShapes Go.WideShapes Go.ChangeAt Go.RowKit
set_option linter.unusedVariables false

theorem own : ownKnob Try.prog.godebug = none := by kernel_rfl
theorem laidOut : laidOutB Try.prog = true := by kernel_rfl


/-! ### THE WALK: the Go text returns true, and writes nothing that was there -/
set_option maxRecDepth 100000 in
set_option maxHeartbeats 4000000 in
theorem walk (w : World) (r0 : Se.R) (a00 a01 a02 : Option Addr) (c00 c01 c02 : Nat) (h0r : Sv.Rd w a00 a01 a02 r0) (hf0 : Sv.FitsR r0) :
    Calls Try.prog 5 #[.agg #[.slice a00 r0.x.length c00, .slice a01 r0.g.length c01, .slice a02 r0.ids.length c02, .int .i64 r0.lv, .int .i64 r0.l2]] w fun e w' => e = .returned (.bool true) ∧ Below w.heap.size w w' := by
  have HF : Hid (Sv.FitsR r0) := hf0
  clear hf0
  go_enter Try.func5, Try.ntmps5
  go_wp2_with fail
  obtain ⟨W, hW, hsz, hB, bxA⟩ := Sv.new1 w [.slice a00 r0.x.length c00, .slice a01 r0.g.length c01, .slice a02 r0.ids.length c02, .int .i64 r0.lv, .int .i64 r0.l2] 42
  rw [hW]
  have hWz : w.heap.size < W.heap.size := by omega
  clear hW hsz
  refine (Sv.szRows _ _ _ _ _ _ _ r0 _ (h0r.below hB) HF.out (by omega) (by omega)).mono ?_
  rintro e w1 ⟨rfl, hb⟩
  have bxA := bxA.below hb
  have hB := hB.trans (hb.mono hB.size)
  have z1 := hb.size
  clear hb
  by_cases s0 : (Sv.szr r0 : Int) ≤ 1048576
  rotate_left
  · rw [Tb.sub_no s0]
    go_wp2
    go_ret
    exact ⟨rfl, hB⟩
  rw [Tb.sub_yes s0]
  obtain ⟨y0, hy0⟩ : ∃ t : Int, 1048576 - (Sv.szr r0 : Int) = t := ⟨_, rfl⟩
  rw [hy0]
  have y0a : 0 ≤ y0 := by omega
  have qs : Sv.szr r0 ≤ 1048576 := by omega
  clear hy0
  obtain ⟨v0, hv0⟩ : ∃ v, Se.cells r0 = v := ⟨_, rfl⟩
  have HV : Hid (Se.cells r0 = v0) := hv0
  clear hv0
  have hvl : v0.length ≤ 16 := by rw [← HV.out]; exact Sw7.cells_le r0
  obtain ⟨_, ⟨q0_bxA, q1_bxA, q2_bxA, q3_bxA, q4_bxA⟩, _⟩ := Sv.wr5 bxA
  go_wp2_with fail
  clear q0_bxA q1_bxA q2_bxA q3_bxA q4_bxA
  refine (Sv.toRows _ _ _ _ _ _ _ r0 (h0r.below hB) qs).mono ?_
  rintro e w2 ⟨y0, y1, y2, rfl, oy, hb⟩
  have bxA := bxA.below hb
  have hB := hB.trans (hb.mono hB.size)
  have z2 := hb.size
  clear hb
  go_wp2_with fail
  refine (Sw7.scellsof _ _ _ _ _ _ _ r0 oy.rd').mono ?_
  rintro e w3 ⟨v_S, rfl, oS, hb⟩
  have bxA := bxA.below hb
  have oy := oy.below hb
  have hB := hB.trans (hb.mono hB.size)
  have z3 := hb.size
  clear hb
  rw [HV.out] at oS
  obtain ⟨p_S, d_S, ee, _⟩ := oS.isp
  subst ee
  clear oy
  obtain ⟨_, ⟨q0_bxA, q1_bxA, q2_bxA, q3_bxA, q4_bxA⟩, _⟩ := Sv.wr5 bxA
  go_wp2_with fail
  clear q0_bxA q1_bxA q2_bxA q3_bxA q4_bxA
  refine (Sv.toRows _ _ _ _ _ _ _ r0 (h0r.below hB) qs).mono ?_
  rintro e w4 ⟨x0, x1, x2, rfl, ox, hb⟩
  have bxA := bxA.below hb
  have oS := oS.below hb
  have hB := hB.trans (hb.mono hB.size)
  have z4 := hb.size
  clear hb
  go_wp2_with fail
  obtain ⟨WX, hW, hsz, hb, bxX⟩ := Sv.new1 w4 [.slice (some ⟨x0, 0, none⟩) r0.x.length r0.x.length, .slice (some ⟨x1, 0, none⟩) r0.g.length r0.g.length, .slice (some ⟨x2, 0, none⟩) r0.ids.length r0.ids.length, .int .i64 r0.lv, .int .i64 r0.l2] 27
  rw [hW]
  have bxA := bxA.below hb
  have oS := oS.below hb
  have ox := ox.below hb
  have hB := hB.trans (hb.mono hB.size)
  have z5 := hb.size
  clear hb hW hsz
  refine (Sw7.icellsof _ _ _ _ _ _ _ r0 ox.rd').mono ?_
  rintro e w6 ⟨v_G, rfl, oG, hb⟩
  have bxA := bxA.below hb
  have oS := oS.below hb
  have ox := ox.below hb
  have bxX := bxX.below hb
  have hB := hB.trans (hb.mono hB.size)
  have z6 := hb.size
  clear hb
  rw [HV.out] at oG
  obtain ⟨p_G, d_G, ee, _⟩ := oG.isp
  subst ee
  go_wp2_with fail
  refine (Sv.eqCells _ _ _ _ _ v0 (Sv.owc_isp oG) (Sv.owc_isp oS) (by omega)).mono ?_
  rintro e w7 ⟨rfl, hb⟩
  have bxA := bxA.below hb
  have oS := oS.below hb
  have ox := ox.below hb
  have bxX := bxX.below hb
  have oG := oG.below hb
  have hB := hB.trans (hb.mono hB.size)
  have z7 := hb.size
  clear hb
  obtain ⟨_, ⟨q0_bxA, q1_bxA, q2_bxA, q3_bxA, q4_bxA⟩, _⟩ := Sv.wr5 bxA
  obtain ⟨_, ⟨q0_bxX, q1_bxX, q2_bxX, q3_bxX, q4_bxX⟩, _⟩ := Sv.wr5 bxX
  go_wp2_with fail
  have H_bxA : Hid (type_of% bxA) := bxA
  have H_oS : Hid (type_of% oS) := oS
  have H_ox : Hid (type_of% ox) := ox
  have H_bxX : Hid (type_of% bxX) := bxX
  have H_oG : Hid (type_of% oG) := oG
  have HHB : Hid (type_of% hB) := hB
  clear hB bxA oS ox bxX oG
  go_region_held3 (fun w' => w'.cell? ⟨w.heap.size, 0, none⟩ = some (.slice a00 r0.x.length c00) ∧ w'.cell? ⟨w.heap.size, 1, none⟩ = some (.slice a01 r0.g.length c01) ∧ w'.cell? ⟨w.heap.size, 2, none⟩ = some (.slice a02 r0.ids.length c02) ∧ w'.cell? ⟨w.heap.size, 3, none⟩ = some (.int .i64 r0.lv) ∧ w'.cell? ⟨w.heap.size, 4, none⟩ = some (.int .i64 r0.l2) ∧ w'.cell? ⟨w4.heap.size, 0, none⟩ = some (.slice (some ⟨x0, 0, none⟩) r0.x.length r0.x.length) ∧ w'.cell? ⟨w4.heap.size, 1, none⟩ = some (.slice (some ⟨x1, 0, none⟩) r0.g.length r0.g.length) ∧ w'.cell? ⟨w4.heap.size, 2, none⟩ = some (.slice (some ⟨x2, 0, none⟩) r0.ids.length r0.ids.length) ∧ w'.cell? ⟨w4.heap.size, 3, none⟩ = some (.int .i64 r0.lv) ∧ w'.cell? ⟨w4.heap.size, 4, none⟩ = some (.int .i64 r0.l2)) (go_keep) (first
    | (go_at_call 18; refine (Sv.toRows w7.drew _ _ _ _ _ _ r0 (h0r.below (HHB.out.trans ((Tm.below_drew _).mono HHB.out.size))) qs).mono ?_; rintro e wa ⟨y0, y1, y2, rfl, oy, hb⟩; have HYA : Hid (Below w7.heap.size w7 wa) := (Tm.below_drew _).trans hb; have HOY := oy.rd'; obtain ⟨_, ⟨r0_A, r1_A, r2_A, r3_A, r4_A⟩, _⟩ := Sv.wr5 (H_bxA.out.below HYA.out); obtain ⟨_, ⟨r0_X, r1_X, r2_X, r3_X, r4_X⟩, _⟩ := Sv.wr5 (H_bxX.out.below HYA.out); clear hb oy)
    | (go_at_call 19; refine (Sv.eqRows _ _ _ _ _ _ _ _ _ _ _ _ _ r0 (H_ox.out.rd'.below HYA.out) HOY qs).mono ?_; rintro e wb ⟨rfl, hb⟩; have HYB : Hid (Below wa.heap.size wa wb) := hb; obtain ⟨_, ⟨s0_A, s1_A, s2_A, s3_A, s4_A⟩, _⟩ := Sv.wr5 ((H_bxA.out.below HYA.out).below hb); obtain ⟨_, ⟨s0_X, s1_X, s2_X, s3_X, s4_X⟩, _⟩ := Sv.wr5 ((H_bxX.out.below HYA.out).below hb); clear hb))
  have hB := HHB.out
  have bxA := H_bxA.out
  have oS := H_oS.out
  have ox := H_ox.out
  have bxX := H_bxX.out
  have oG := H_oG.out
  clear HHB H_bxA H_oS H_ox H_bxX H_oG
  have hb := HYA.out
  have bxA := bxA.below hb
  have oS := oS.below hb
  have ox := ox.below hb
  have bxX := bxX.below hb
  have oG := oG.below hb
  have hB := hB.trans (hb.mono hB.size)
  have z8 := hb.size
  have hb := HYB.out
  have bxA := bxA.below hb
  have oS := oS.below hb
  have ox := ox.below hb
  have bxX := bxX.below hb
  have oG := oG.below hb
  have hB := hB.trans (hb.mono hB.size)
  have z9 := hb.size
  clear hb HYA HYB HOY s0_A s1_A s2_A s3_A s4_A s0_X s1_X s2_X s3_X s4_X
  obtain ⟨_, ⟨q0_bxX, q1_bxX, q2_bxX, q3_bxX, q4_bxX⟩, _⟩ := Sv.wr5 bxX
  go_wp2_with fail
  clear q0_bxX q1_bxX q2_bxX q3_bxX q4_bxX
  refine (Sv.markRows _ _ _ _ _ _ _ _ r0 ox (fun q hq => by omega) qs (by omega) (by omega)).mono ?_
  rintro e w10 ⟨rfl, _, hf⟩
  have hsr : r0.x.length + Sv.tot r0.x + r0.g.length + r0.ids.length ≤ 1048576 := qs
  have oS := oS.fr hf (fun k hk e => by omega)
  have oG := oG.fr hf (fun k hk e => by omega)
  have bxA := bxA.fr hf (fun e => by omega)
  have hB := hB.trans (hf.bel (fun k hk => by omega) hB.size)
  have zf := hf.size
  clear hf ox bxX
  obtain ⟨K, hK⟩ : ∃ K : Int, 1 + (Sv.tot r0.x : Int) + r0.g.length + r0.ids.length = K := ⟨_, rfl⟩
  rw [hK]
  have hK0 : 0 ≤ K := by omega
  clear hK hsr
  go_wp2_with fail
  refine (Sv.eqCells _ _ _ _ _ v0 (Sv.owc_isp oG) (Sv.owc_isp oS) (by omega)).mono ?_
  rintro e w11 ⟨rfl, hb⟩
  have bxA := bxA.below hb
  have oS := oS.below hb
  have oG := oG.below hb
  have hB := hB.trans (hb.mono hB.size)
  have z11 := hb.size
  clear hb
  go_wp2_with fail
  refine (Sv.markCells _ _ _ _ v0 oG (by omega) (by omega) (by omega)).mono ?_
  rintro e w12 ⟨rfl, oG, hf⟩
  have oS := oS.fr hf (fun k hk e => by omega)
  have bxA := bxA.fr hf (fun e => by omega)
  have hB := hB.trans (hf.bel (fun k hk => by omega) hB.size)
  have zg := hf.size
  clear hf
  obtain ⟨M, hM⟩ : ∃ M : Int, 1 + 2 * (v0.length : Int) = M := ⟨_, rfl⟩
  have hM0 : ¬ M < 0 := by omega
  have hMM : (M != M) = false := by simp
  have HM : Hid (1 + 2 * (v0.length : Int) = M) := hM
  rw [hM]
  clear hM
  go_wp2_with fail
  refine (Sv.heldCells _ _ _ _ 1 (Sv.owc_isp_marks oG) (by omega) (by omega) (by omega)).mono ?_
  rintro e w' ⟨rfl, hw⟩
  subst w'
  rw [HM.out]
  obtain ⟨_, ⟨q0_bxA, q1_bxA, q2_bxA, q3_bxA, q4_bxA⟩, _⟩ := Sv.wr5 bxA
  go_wp2_with fail
  clear q0_bxA q1_bxA q2_bxA q3_bxA q4_bxA
  refine (Sv.toRows _ _ _ _ _ _ _ r0 (h0r.below hB) qs).mono ?_
  rintro e w14 ⟨y0, y1, y2, rfl, oy, hb⟩
  have bxA := bxA.below hb
  have oS := oS.below hb
  have oG := oG.below hb
  have hB := hB.trans (hb.mono hB.size)
  have z14 := hb.size
  clear hb
  go_wp2_with fail
  refine (Sw7.icellsof _ _ _ _ _ _ _ r0 oy.rd').mono ?_
  rintro e w15 ⟨v_H, rfl, oH, hb⟩
  have bxA := bxA.below hb
  have oS := oS.below hb
  have oG := oG.below hb
  have oy := oy.below hb
  have hB := hB.trans (hb.mono hB.size)
  have z15 := hb.size
  clear hb
  rw [HV.out] at oH
  obtain ⟨p_H, d_H, ee, _⟩ := oH.isp
  subst ee
  clear oy
  go_wp2_with fail
  refine (Sv.eqCells _ _ _ _ _ v0 (Sv.owc_isp oH) (Sv.owc_isp oS) (by omega)).mono ?_
  rintro e w16 ⟨rfl, hb⟩
  have bxA := bxA.below hb
  have oS := oS.below hb
  have oG := oG.below hb
  have oH := oH.below hb
  have hB := hB.trans (hb.mono hB.size)
  have z16 := hb.size
  clear hb
  go_wp2_with fail
  refine (Sv.heldCells _ _ _ _ 1 (Sv.owc_isp_marks oG) (by omega) (by omega) (by omega)).mono ?_
  rintro e w' ⟨rfl, hw⟩
  subst w'
  rw [HM.out]
  go_wp2
  go_ret
  exact ⟨rfl, hB⟩

/-! ### THE ROW's STEP -/
theorem lifted (os : Os) (started : os.Started) (H : Type) (enc : TypeId × Value → H) :
    ReturnsInHanded {} Try.checked os 5 .any (Rows.fnExactCellsOfSpec.pre6 enc Try.prog Try.f5 Rows.fnExactCellsOfRow.domain false) (Rows.fnExactCellsOfSpec.post enc Try.prog Try.f5 false true false false) := by
  refine returnsInHanded_of_change (C := Try.checked) own started (by kernel_rfl) Try.func5
    (ChangeSpec.witness6 (enc := enc) (C := Try.checked) false ⟨#[], #[.agg #[.slice none 0 0, .slice none 0 0, .slice none 0 0, .int .i64 0, .int .i64 0]], []⟩ 8 (by kernel_rfl) (by kernel_rfl) (by kernel_rfl) (by kernel_rfl)) ?_
  intro W base args ds gs before hval0 hW hcnd _
  have hval : ∀ (j : Nat) t v, Try.f5.params[j]? = some t → args[j]? = some v → Value.okWide Try.prog W .any base t v := hval0
  have hW' := hW
  obtain ⟨p, q, hA0, hV, rfl, hfz, hnd⟩ := hW
  have hA : DataW.TrodAll enc Try.prog W 0 (fun _ => true) true Try.f5.params.toList args.toList ds p := hA0
  rw [Try.params5] at hA hval
  obtain ⟨v0, vs0, d0, ds0, p0, q0, hargs, rfl, rfl, h0, r0⟩ := trodAll_cons hA
  obtain ⟨rfl, rfl, rfl⟩ := trodAll_nil r0
  obtain rfl : args = #[v0] := by cases args; simp_all
  obtain ⟨rfl, rfl⟩ := trodVars_none hV
  have k0 := h0
  have lt0 : ∀ x ∈ p0, x.block < W.heap.size := by obtain ⟨m, hm⟩ := k0; exact DataW.trod_lt m _ _ _ hm
  obtain ⟨r0, a00, a01, a02, c00, c01, c02, rfl, h0r, hf0⟩ := Op.rows_open (hval 0 42 v0 rfl rfl) h0
  clear hA0 hval0
  refine (walk W r0 a00 a01 a02 c00 c01 c02 h0r hf0).mono fun e W' ⟨he, bel⟩ => ?_
  subst he
  exact ⟨_, rfl, _, _, _, [], _, [], hW', trodAll_mk1 (shut_bool Try.underlying4 _), (trodAll_cons_mk (Below.trod laidOut (by kernel_rfl) (of_decide_eq_true (by kernel_rfl)) k0 bel lt0) trodAll_mk0), rfl, bel.frame _, fun h => by cases h⟩

theorem over : Rows.fnExactCellsOfRow.holds Try.pinned (OpenSpec.ofChange Rows.fnExactCellsOfSpec) :=
  OpenClaim.holds_of_wide 5 Try.f5 rfl rfl rfl rfl rfl rfl rfl ⟨rfl, rfl, rfl, rfl, rfl⟩ rfl rfl rfl rfl rfl (by kernel_rfl) Try.func5 (by kernel_rfl)
    (of_decide_eq_true (by kernel_rfl)) (by unfold Func.isWrapper; first | (rw [if_pos (by decide +kernel)]; kernel_rfl) | (rw [if_neg (by decide +kernel)]; exact ⟨rfl, rfl⟩))
    (fun os started H enc _ => lifted os started H enc)

/-- THE STATEMENT -/
theorem proved : Rows.FnExactCellsOfSaid := over
#print axioms proved
end Go.Proofs.Ytbiphcolddcinaa.fnExactCellsOf
