/-
  Proved here: the Go function laws.FnExactGain, called with any arguments that can be read, returns true, and each argument reads afterwards as it read before ('Rows.FnExactGainSaid', no condition beyond the row's own).
-/
import Derived.Test.YtbiphcolddcinaaRows
import Derived.WalkKit
import Derived.ProofKit
import Derived.OpenShut
import Derived.ShutString
import Derived.ChangeOld
import Derived.Below
import Derived.Test.YtbiphcolddcinaaOpnR
import Derived.Test.YtbiphcolddcinaaSeZ
import Derived.Test.YtbiphcolddcinaaSeQ
import Derived.Test.YtbiphcolddcinaaSeC
namespace Go.Proofs.Ytbiphcolddcinaa.fnExactGain
open Go.ChangeShapes Go.WideShapes Go.ChangeAt Go.RowKit
set_option linter.unusedVariables false

theorem own : ownKnob Try.prog.godebug = none := by kernel_rfl
theorem laidOut : laidOutB Try.prog = true := by kernel_rfl


/-! ### THE WALK: the Go text returns true, and writes nothing that was there -/
set_option maxRecDepth 100000 in
set_option maxHeartbeats 4000000 in
theorem walk (w : World) (r0 : Se.R) (a00 a01 a02 : Option Addr) (c00 c01 c02 : Nat) (h0r : Sv.Rd w a00 a01 a02 r0) (hf0 : Sv.FitsR r0) (f1 b1 : Int) :
    Calls Try.prog 8 #[.agg #[.slice a00 r0.x.length c00, .slice a01 r0.g.length c01, .slice a02 r0.ids.length c02, .int .i64 r0.lv, .int .i64 r0.l2], .agg #[.int .i64 f1, .int .i64 b1]] w fun e w' => e = .returned (.bool true) ∧ Below w.heap.size w w' := by
  have HF : Hid (Sv.FitsR r0) := hf0
  clear hf0
  go_enter Try.func8, Try.ntmps8
  go_wp2_with fail
  obtain ⟨W, hW, hsz, hB, bxA, bsA⟩ := Sv.new2 w [.slice a00 r0.x.length c00, .slice a01 r0.g.length c01, .slice a02 r0.ids.length c02, .int .i64 r0.lv, .int .i64 r0.l2] [.int .i64 f1, .int .i64 b1] 42 53
  rw [hW]
  have hWz : w.heap.size < W.heap.size := by omega
  clear hW hsz
  refine (Sv.szRows _ _ _ _ _ _ _ r0 _ (h0r.below hB) HF.out (by omega) (by omega)).mono ?_
  rintro e w1 ⟨rfl, hb⟩
  have bxA := bxA.below hb
  have bsA := bsA.below hb
  have hB := hB.trans (hb.mono hB.size)
  have z1 := hb.size
  clear hb
  by_cases s0 : (Sv.szr r0 : Int) ≤ 1048576
  rotate_left
  · rw [Tb.sub_no s0]
    go_wp2
    go_ret
    exact ⟨rfl, hB⟩
  rw [Tb.sub_yes s0]
  obtain ⟨y0, hy0⟩ : ∃ t : Int, 1048576 - (Sv.szr r0 : Int) = t := ⟨_, rfl⟩
  rw [hy0]
  have y0a : 0 ≤ y0 := by omega
  have qs : Sv.szr r0 ≤ 1048576 := by omega
  clear hy0
  obtain ⟨v0, hv0⟩ : ∃ v, Se.gain r0 f1 b1 = v := ⟨_, rfl⟩
  have HV : Hid (Se.gain r0 f1 b1 = v0) := hv0
  clear hv0
  obtain ⟨_, ⟨q0_bxA, q1_bxA, q2_bxA, q3_bxA, q4_bxA⟩, _⟩ := Sv.wr5 bxA
  obtain ⟨_, ⟨q0_bsA, q1_bsA⟩, _⟩ := Sv.wr2 bsA
  go_wp2_with fail
  have H_bxA : Hid (type_of% bxA) := bxA
  have H_bsA : Hid (type_of% bsA) := bsA
  have HHB : Hid (type_of% hB) := hB
  clear hB bxA bsA
  go_region_held3 (fun w' => w'.cell? ⟨w.heap.size, 0, none⟩ = some (.slice a00 r0.x.length c00) ∧ w'.cell? ⟨w.heap.size, 1, none⟩ = some (.slice a01 r0.g.length c01) ∧ w'.cell? ⟨w.heap.size, 2, none⟩ = some (.slice a02 r0.ids.length c02) ∧ w'.cell? ⟨w.heap.size, 3, none⟩ = some (.int .i64 r0.lv) ∧ w'.cell? ⟨w.heap.size, 4, none⟩ = some (.int .i64 r0.l2) ∧ w'.cell? ⟨w.heap.size + 1, 0, none⟩ = some (.int .i64 f1) ∧ w'.cell? ⟨w.heap.size + 1, 1, none⟩ = some (.int .i64 b1)) (go_keep) (first
    | (go_at_call 18; refine (Sv.toRows w1.drew _ _ _ _ _ _ r0 (h0r.below (HHB.out.trans ((Tm.below_drew _).mono HHB.out.size))) qs).mono ?_; rintro e wa1 ⟨y0, y1, y2, rfl, oy, hb⟩; have HY0 : Hid (Below w1.heap.size w1 wa1) := (Tm.below_drew _).trans hb; have HZ0 : Hid (type_of% hb) := hb; obtain ⟨_, ⟨t00_bxA, t01_bxA, t02_bxA, t03_bxA, t04_bxA⟩, _⟩ := Sv.wr5 (H_bxA.out.below HY0.out); obtain ⟨_, ⟨t00_bsA, t01_bsA⟩, _⟩ := Sv.wr2 (H_bsA.out.below HY0.out); have HOY := oy.rd'; clear oy; clear hb)
    | (go_at_call 29; refine (Tm.toSplit _ _ _).mono ?_; rintro e wb1 ⟨rfl, hb⟩; have HY1 : Hid (Below w1.heap.size w1 wb1) := HY0.out.trans (hb.mono HY0.out.size); have HZ1 : Hid (type_of% hb) := hb; obtain ⟨_, ⟨t10_bxA, t11_bxA, t12_bxA, t13_bxA, t14_bxA⟩, _⟩ := Sv.wr5 (H_bxA.out.below HY1.out); obtain ⟨_, ⟨t10_bsA, t11_bsA⟩, _⟩ := Sv.wr2 (H_bsA.out.below HY1.out); clear hb)
    | (go_at_call 31; refine (Sw7.sgain _ _ _ _ _ _ _ r0 f1 b1 (HOY.below HZ1.out)).mono ?_; rintro e w2 ⟨rfl, hb⟩; have HY2 : Hid (Below w1.heap.size w1 w2) := HY1.out.trans (hb.mono HY1.out.size); have HZ2 : Hid (type_of% hb) := hb; obtain ⟨_, ⟨t20_bxA, t21_bxA, t22_bxA, t23_bxA, t24_bxA⟩, _⟩ := Sv.wr5 (H_bxA.out.below HY2.out); obtain ⟨_, ⟨t20_bsA, t21_bsA⟩, _⟩ := Sv.wr2 (H_bsA.out.below HY2.out); rw [HV.out]; clear hb))
  have hB := HHB.out
  have bxA := H_bxA.out
  have bsA := H_bsA.out
  clear HHB H_bxA H_bsA
  have hb := HY2.out
  have bxA := bxA.below hb
  have bsA := bsA.below hb
  have hB := hB.trans (hb.mono hB.size)
  have z2 := hb.size
  clear hb HY0 HZ0 HY1 HZ1 HY2 HZ2 t20_bxA t21_bxA t22_bxA t23_bxA t24_bxA t20_bsA t21_bsA HOY
  try clear q0_bxA q1_bxA q2_bxA q3_bxA q4_bxA q0_bsA q1_bsA
  obtain ⟨_, ⟨q0_bxA, q1_bxA, q2_bxA, q3_bxA, q4_bxA⟩, _⟩ := Sv.wr5 bxA
  go_wp2_with fail
  clear q0_bxA q1_bxA q2_bxA q3_bxA q4_bxA
  refine (Sv.toRows _ _ _ _ _ _ _ r0 (h0r.below hB) qs).mono ?_
  rintro e w3 ⟨x0, x1, x2, rfl, ox, hb⟩
  have bxA := bxA.below hb
  have bsA := bsA.below hb
  have hB := hB.trans (hb.mono hB.size)
  have z3 := hb.size
  clear hb
  go_wp2_with fail
  obtain ⟨WX, hW, hsz, hb, bxX⟩ := Sv.new1 w3 [.slice (some ⟨x0, 0, none⟩) r0.x.length r0.x.length, .slice (some ⟨x1, 0, none⟩) r0.g.length r0.g.length, .slice (some ⟨x2, 0, none⟩) r0.ids.length r0.ids.length, .int .i64 r0.lv, .int .i64 r0.l2] 27
  rw [hW]
  have bxA := bxA.below hb
  have bsA := bsA.below hb
  have ox := ox.below hb
  have hB := hB.trans (hb.mono hB.size)
  have z4 := hb.size
  clear hb hW hsz
  obtain ⟨_, ⟨q0_bxX, q1_bxX, q2_bxX, q3_bxX, q4_bxX⟩, _⟩ := Sv.wr5 bxX
  obtain ⟨_, ⟨q0_bsA, q1_bsA⟩, _⟩ := Sv.wr2 bsA
  obtain ⟨_, ⟨q0_bxA, q1_bxA, q2_bxA, q3_bxA, q4_bxA⟩, _⟩ := Sv.wr5 bxA
  go_wp2_with fail
  have H_bxA : Hid (type_of% bxA) := bxA
  have H_bsA : Hid (type_of% bsA) := bsA
  have H_ox : Hid (type_of% ox) := ox
  have H_bxX : Hid (type_of% bxX) := bxX
  have HHB : Hid (type_of% hB) := hB
  clear hB bxA bsA ox bxX
  go_region_held3 (fun w' => w'.cell? ⟨w3.heap.size, 0, none⟩ = some (.slice (some ⟨x0, 0, none⟩) r0.x.length r0.x.length) ∧ w'.cell? ⟨w3.heap.size, 1, none⟩ = some (.slice (some ⟨x1, 0, none⟩) r0.g.length r0.g.length) ∧ w'.cell? ⟨w3.heap.size, 2, none⟩ = some (.slice (some ⟨x2, 0, none⟩) r0.ids.length r0.ids.length) ∧ w'.cell? ⟨w3.heap.size, 3, none⟩ = some (.int .i64 r0.lv) ∧ w'.cell? ⟨w3.heap.size, 4, none⟩ = some (.int .i64 r0.l2) ∧ w'.cell? ⟨w.heap.size + 1, 0, none⟩ = some (.int .i64 f1) ∧ w'.cell? ⟨w.heap.size + 1, 1, none⟩ = some (.int .i64 b1) ∧ w'.cell? ⟨w.heap.size, 0, none⟩ = some (.slice a00 r0.x.length c00) ∧ w'.cell? ⟨w.heap.size, 1, none⟩ = some (.slice a01 r0.g.length c01) ∧ w'.cell? ⟨w.heap.size, 2, none⟩ = some (.slice a02 r0.ids.length c02) ∧ w'.cell? ⟨w.heap.size, 3, none⟩ = some (.int .i64 r0.lv) ∧ w'.cell? ⟨w.heap.size, 4, none⟩ = some (.int .i64 r0.l2)) (go_keep) (first
    | (go_at_call 29; refine (Tm.toSplit _ _ _).mono ?_; rintro e wa2 ⟨rfl, hb⟩; have HY0 : Hid (Below WX.heap.size WX wa2) := (Tm.below_drew _).trans hb; have HZ0 : Hid (type_of% hb) := hb; obtain ⟨_, ⟨t00_bxX, t01_bxX, t02_bxX, t03_bxX, t04_bxX⟩, _⟩ := Sv.wr5 (H_bxX.out.below HY0.out); obtain ⟨_, ⟨t00_bsA, t01_bsA⟩, _⟩ := Sv.wr2 (H_bsA.out.below HY0.out); obtain ⟨_, ⟨t00_bxA, t01_bxA, t02_bxA, t03_bxA, t04_bxA⟩, _⟩ := Sv.wr5 (H_bxA.out.below HY0.out); clear hb)
    | (go_at_call 15; refine (Sw7.igain _ _ _ _ _ _ _ r0 f1 b1 (H_ox.out.rd'.below HY0.out)).mono ?_; rintro e w5 ⟨rfl, hb⟩; have HY1 : Hid (Below WX.heap.size WX w5) := HY0.out.trans (hb.mono HY0.out.size); have HZ1 : Hid (type_of% hb) := hb; obtain ⟨_, ⟨t10_bxX, t11_bxX, t12_bxX, t13_bxX, t14_bxX⟩, _⟩ := Sv.wr5 (H_bxX.out.below HY1.out); obtain ⟨_, ⟨t10_bsA, t11_bsA⟩, _⟩ := Sv.wr2 (H_bsA.out.below HY1.out); obtain ⟨_, ⟨t10_bxA, t11_bxA, t12_bxA, t13_bxA, t14_bxA⟩, _⟩ := Sv.wr5 (H_bxA.out.below HY1.out); rw [HV.out]; clear hb))
  have hB := HHB.out
  have bxA := H_bxA.out
  have bsA := H_bsA.out
  have ox := H_ox.out
  have bxX := H_bxX.out
  clear HHB H_bxA H_bsA H_ox H_bxX
  have hb := HY1.out
  have bxA := bxA.below hb
  have bsA := bsA.below hb
  have ox := ox.below hb
  have bxX := bxX.below hb
  have hB := hB.trans (hb.mono hB.size)
  have z5 := hb.size
  clear hb HY0 HZ0 HY1 HZ1 t10_bxX t11_bxX t12_bxX t13_bxX t14_bxX t10_bsA t11_bsA t10_bxA t11_bxA t12_bxA t13_bxA t14_bxA 
  try clear q0_bxX q1_bxX q2_bxX q3_bxX q4_bxX q0_bsA q1_bsA q0_bxA q1_bxA q2_bxA q3_bxA q4_bxA
  have hne : (v0 != v0) = false := by simp
  obtain ⟨_, ⟨q0_bxA, q1_bxA, q2_bxA, q3_bxA, q4_bxA⟩, _⟩ := Sv.wr5 bxA
  obtain ⟨_, ⟨q0_bxX, q1_bxX, q2_bxX, q3_bxX, q4_bxX⟩, _⟩ := Sv.wr5 bxX
  go_wp2_with fail
  have H_bxA : Hid (type_of% bxA) := bxA
  have H_bsA : Hid (type_of% bsA) := bsA
  have H_ox : Hid (type_of% ox) := ox
  have H_bxX : Hid (type_of% bxX) := bxX
  have HHB : Hid (type_of% hB) := hB
  clear hB bxA bsA ox bxX
  go_region_held3 (fun w' => w'.cell? ⟨w.heap.size, 0, none⟩ = some (.slice a00 r0.x.length c00) ∧ w'.cell? ⟨w.heap.size, 1, none⟩ = some (.slice a01 r0.g.length c01) ∧ w'.cell? ⟨w.heap.size, 2, none⟩ = some (.slice a02 r0.ids.length c02) ∧ w'.cell? ⟨w.heap.size, 3, none⟩ = some (.int .i64 r0.lv) ∧ w'.cell? ⟨w.heap.size, 4, none⟩ = some (.int .i64 r0.l2) ∧ w'.cell? ⟨w3.heap.size, 0, none⟩ = some (.slice (some ⟨x0, 0, none⟩) r0.x.length r0.x.length) ∧ w'.cell? ⟨w3.heap.size, 1, none⟩ = some (.slice (some ⟨x1, 0, none⟩) r0.g.length r0.g.length) ∧ w'.cell? ⟨w3.heap.size, 2, none⟩ = some (.slice (some ⟨x2, 0, none⟩) r0.ids.length r0.ids.length) ∧ w'.cell? ⟨w3.heap.size, 3, none⟩ = some (.int .i64 r0.lv) ∧ w'.cell? ⟨w3.heap.size, 4, none⟩ = some (.int .i64 r0.l2)) (go_keep) (first
    | (go_at_call 18; refine (Sv.toRows w5.drew _ _ _ _ _ _ r0 (h0r.below (HHB.out.trans ((Tm.below_drew _).mono HHB.out.size))) qs).mono ?_; rintro e wa ⟨y0, y1, y2, rfl, oy, hb⟩; have HYA : Hid (Below w5.heap.size w5 wa) := (Tm.below_drew _).trans hb; have HOY := oy.rd'; obtain ⟨_, ⟨r0_A, r1_A, r2_A, r3_A, r4_A⟩, _⟩ := Sv.wr5 (H_bxA.out.below HYA.out); obtain ⟨_, ⟨r0_X, r1_X, r2_X, r3_X, r4_X⟩, _⟩ := Sv.wr5 (H_bxX.out.below HYA.out); clear hb oy)
    | (go_at_call 19; refine (Sv.eqRows _ _ _ _ _ _ _ _ _ _ _ _ _ r0 (H_ox.out.rd'.below HYA.out) HOY qs).mono ?_; rintro e wb ⟨rfl, hb⟩; have HYB : Hid (Below wa.heap.size wa wb) := hb; obtain ⟨_, ⟨s0_A, s1_A, s2_A, s3_A, s4_A⟩, _⟩ := Sv.wr5 ((H_bxA.out.below HYA.out).below hb); obtain ⟨_, ⟨s0_X, s1_X, s2_X, s3_X, s4_X⟩, _⟩ := Sv.wr5 ((H_bxX.out.below HYA.out).below hb); clear hb))
  have hB := HHB.out
  have bxA := H_bxA.out
  have bsA := H_bsA.out
  have ox := H_ox.out
  have bxX := H_bxX.out
  clear HHB H_bxA H_bsA H_ox H_bxX
  have hb := HYA.out
  have bxA := bxA.below hb
  have bsA := bsA.below hb
  have ox := ox.below hb
  have bxX := bxX.below hb
  have hB := hB.trans (hb.mono hB.size)
  have z6 := hb.size
  have hb := HYB.out
  have bxA := bxA.below hb
  have bsA := bsA.below hb
  have ox := ox.below hb
  have bxX := bxX.below hb
  have hB := hB.trans (hb.mono hB.size)
  have z7 := hb.size
  clear hb HYA HYB HOY s0_A s1_A s2_A s3_A s4_A s0_X s1_X s2_X s3_X s4_X
  go_wp2
  go_ret
  exact ⟨rfl, hB⟩

/-! ### THE ROW's STEP -/
theorem lifted (os : Os) (started : os.Started) (H : Type) (enc : TypeId × Value → H) :
    ReturnsInHanded {} Try.checked os 8 .any (Rows.fnExactGainSpec.pre6 enc Try.prog Try.f8 Rows.fnExactGainRow.domain false) (Rows.fnExactGainSpec.post enc Try.prog Try.f8 false true false false) := by
  refine returnsInHanded_of_change (C := Try.checked) own started (by kernel_rfl) Try.func8
    (ChangeSpec.witness6 (enc := enc) (C := Try.checked) false ⟨#[], #[.agg #[.slice none 0 0, .slice none 0 0, .slice none 0 0, .int .i64 0, .int .i64 0], .agg #[.int .i64 0, .int .i64 0]], []⟩ 8 (by kernel_rfl) (by kernel_rfl) (by kernel_rfl) (by kernel_rfl)) ?_
  intro W base args ds gs before hval0 hW hcnd _
  have hval : ∀ (j : Nat) t v, Try.f8.params[j]? = some t → args[j]? = some v → Value.okWide Try.prog W .any base t v := hval0
  have hW' := hW
  obtain ⟨p, q, hA0, hV, rfl, hfz, hnd⟩ := hW
  have hA : DataW.TrodAll enc Try.prog W 0 (fun _ => true) true Try.f8.params.toList args.toList ds p := hA0
  rw [Try.params8] at hA hval
  obtain ⟨v0, vs0, d0, ds0, p0, q0, hargs, rfl, rfl, h0, rest0⟩ := trodAll_cons hA
  obtain ⟨v1, vs1, d1, ds1, p1, q1, rfl, rfl, rfl, h1, rest1⟩ := trodAll_cons rest0
  obtain ⟨rfl, rfl, rfl⟩ := trodAll_nil rest1
  obtain rfl : args = #[v0, v1] := by cases args; simp_all
  obtain ⟨rfl, rfl⟩ := trodVars_none hV
  have k0 := h0
  have lt0 : ∀ x ∈ p0, x.block < W.heap.size := by obtain ⟨m, hm⟩ := k0; exact DataW.trod_lt m _ _ _ hm
  have k1 := h1
  have lt1 : ∀ x ∈ p1, x.block < W.heap.size := by obtain ⟨m, hm⟩ := k1; exact DataW.trod_lt m _ _ _ hm
  obtain ⟨r0, a00, a01, a02, c00, c01, c02, rfl, h0r, hf0⟩ := Op.rows_open (hval 0 42 v0 rfl rfl) h0
  obtain ⟨f1, b1, rfl⟩ := Op.split_open (hval 1 53 v1 rfl rfl) h1
  clear hA0 hval0
  refine (walk W r0 a00 a01 a02 c00 c01 c02 h0r hf0 f1 b1).mono fun e W' ⟨he, bel⟩ => ?_
  subst he
  exact ⟨_, rfl, _, _, _, [], _, [], hW', trodAll_mk1 (shut_bool Try.underlying4 _), (trodAll_cons_mk (Below.trod laidOut (by kernel_rfl) (of_decide_eq_true (by kernel_rfl)) k0 bel lt0) (trodAll_cons_mk (Below.trod laidOut (by kernel_rfl) (of_decide_eq_true (by kernel_rfl)) k1 bel lt1) trodAll_mk0)), rfl, bel.frame _, fun h => by cases h⟩

theorem over : Rows.fnExactGainRow.holds Try.pinned (OpenSpec.ofChange Rows.fnExactGainSpec) :=
  OpenClaim.holds_of_wide 8 Try.f8 rfl rfl rfl rfl rfl rfl rfl ⟨rfl, rfl, rfl, rfl, rfl⟩ rfl rfl rfl rfl rfl (by kernel_rfl) Try.func8 (by kernel_rfl)
    (of_decide_eq_true (by kernel_rfl)) (by unfold Func.isWrapper; first | (rw [if_pos (by decide +kernel)]; kernel_rfl) | (rw [if_neg (by decide +kernel)]; exact ⟨rfl, rfl⟩))
    (fun os started H enc _ => lifted os started H enc)

/-- THE STATEMENT -/
theorem proved : Rows.FnExactGainSaid := over
#print axioms proved
end Go.Proofs.Ytbiphcolddcinaa.fnExactGain
