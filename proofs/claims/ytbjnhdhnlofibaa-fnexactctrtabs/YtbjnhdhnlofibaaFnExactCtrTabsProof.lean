/-
  Proved here: the Go function laws.FnExactCtrTabs, called with any arguments that can be read, returns true, and each argument reads afterwards as it read before ('Rows.FnExactCtrTabsSaid', no condition beyond the row's own).
-/
import Derived.Test.YtbjnhdhnlofibaaRows
import Derived.WalkKit
import Derived.ProofKit
import Derived.OpenShut
import Derived.ShutString
import Derived.ChangeOld
import Derived.Below
import Derived.Test.YtbjnhdhnlofibaaOpn
import Derived.Test.YtbjnhdhnlofibaaOpnF
import Derived.Test.YtbjnhdhnlofibaaKtc
import Derived.Test.YtbjnhdhnlofibaaKts
namespace Go.Proofs.Ytbjnhdhnlofibaa.fnExactCtrTabs
open Go.ChangeShapes Go.WideShapes Go.ChangeAt Go.RowKit
set_option linter.unusedVariables false
set_option maxRecDepth 100000

theorem own : ownKnob Try.prog.godebug = none := by kernel_rfl
theorem laidOut : laidOutB Try.prog = true := by kernel_rfl


/-! ### THE WALK: the Go text returns true, and writes nothing that was there -/
set_option maxRecDepth 100000 in
set_option maxHeartbeats 4000000 in
theorem walk (w : World) (n0 c0 : Int) (a0 : Option Addr) (rs0 : List Tb.Row) (cap0 : Nat) (b0 : (-9223372036854775808 ≤ n0 ∧ n0 ≤ 9223372036854775807) ∧ (-9223372036854775808 ≤ c0 ∧ c0 ≤ 9223372036854775807)) (hx0 : Tb.IsR w a0 rs0) (hf0 : Tb.FitsR rs0) (hb0 : Op.Labs rs0) (c1 : Cf.C) :
    Calls Try.prog 5 #[.agg #[.int .i64 n0, .int .i64 c0, .slice a0 rs0.length cap0], .agg #[.int .i64 c1.trees, .int .i64 c1.depth, .int .i64 c1.most, .int .i64 c1.rate, .int .i64 c1.l2, .int .i64 c1.prior, .int .i64 c1.seed]] w fun e w' => e = .returned (.bool true) ∧ Below w.heap.size w w' := by
  go_enter Try.func5, Try.ntmps5
  go_wp2_with fail
  obtain ⟨W1, hW, hsz, hB, bx⟩ := Tk.box3_new' w (.int .i64 n0) (.int .i64 c0) (.slice a0 rs0.length cap0) 50
  rw [hW]
  clear hW
  obtain ⟨W, hW2, hsz2, hb2, bc⟩ := Cf.bx_new W1 c1 51
  rw [hW2]
  clear hW2
  rw [hsz] at bc
  have bx := bx.below hb2
  have hB := hB.trans (hb2.mono hB.size)
  have hwb : w.heap.size + 1 < W.heap.size := by omega
  clear hsz hsz2 hb2
  refine (Tb.szTab _ _ _ _ _ _ rs0 (hx0.below hB) hf0 (by omega) (by omega)).mono ?_
  rintro e w1 ⟨rfl, hb⟩
  have bx := bx.below hb
  have bc := bc.below hb hwb
  have hB := hB.trans (hb.mono hB.size)
  have hwb : w.heap.size + 1 < w1.heap.size := by have := hb.size; omega
  clear hb
  by_cases hl : ((rs0.length + Tb.szR rs0 : Nat) : Int) ≤ 1048576
  rotate_left
  · rw [Tb.sub_no hl]
    go_wp2
    go_ret
    exact ⟨rfl, hB⟩
  rw [Tb.sub_yes hl]
  obtain ⟨q, hq⟩ : ∃ q : Int, 1048576 - ((rs0.length + Tb.szR rs0 : Nat) : Int) = q := ⟨_, rfl⟩
  rw [hq]
  have q0 : 0 ≤ q := by omega
  have q1 : q ≤ 1048576 := by omega
  have hl' : rs0.length + Tb.szR rs0 ≤ 1048576 := by omega
  clear hq hl
  obtain ⟨ys, hys⟩ : ∃ ys, Kt.ktabs n0 c0 rs0 c1 = ys := ⟨_, rfl⟩
  have HYS : Hid (Kt.ktabs n0 c0 rs0 c1 = ys) := hys
  have hyl : ys.length + Kt.ktot ys ≤ 1048576 := by rw [← hys]; exact Kt.ktabs_sz n0 c0 rs0 c1
  clear hys
  obtain ⟨bv, hbv⟩ : ∃ bv, (Tk.tok n0 c0 rs0 && Cf.cok c1) = bv := ⟨_, rfl⟩
  have HBV : Hid ((Tk.tok n0 c0 rs0 && Cf.cok c1) = bv) := hbv
  have hbb : (bv != bv) = false := by simp
  clear hbv
  obtain ⟨_, ⟨r1x0, r1x1, r1x2⟩, _⟩ := id (bx)
  obtain ⟨_, r1c0, r1c1, r1c2, r1c3, r1c4, r1c5, r1c6⟩ := id (bc)
  have H_bx : Hid (type_of% bx) := bx
  have H_bc : Hid (type_of% bc) := bc
  have HHB : Hid (type_of% hB) := hB
  have HBD : Hid (Below w1.heap.size w1 w1.drew) := (Below.refl w1.heap.size w1).drew
  clear hB bx bc
  go_wp2_with fail
  go_region_held3 (fun w' => w'.cell? ⟨w.heap.size, 0, none⟩ = some (.int .i64 n0) ∧ w'.cell? ⟨w.heap.size, 1, none⟩ = some (.int .i64 c0) ∧ w'.cell? ⟨w.heap.size, 2, none⟩ = some (.slice a0 rs0.length cap0) ∧ w'.cell? ⟨w.heap.size + 1, 0, none⟩ = some (.int .i64 c1.trees) ∧ w'.cell? ⟨w.heap.size + 1, 1, none⟩ = some (.int .i64 c1.depth) ∧ w'.cell? ⟨w.heap.size + 1, 2, none⟩ = some (.int .i64 c1.most) ∧ w'.cell? ⟨w.heap.size + 1, 3, none⟩ = some (.int .i64 c1.rate) ∧ w'.cell? ⟨w.heap.size + 1, 4, none⟩ = some (.int .i64 c1.l2) ∧ w'.cell? ⟨w.heap.size + 1, 5, none⟩ = some (.int .i64 c1.prior) ∧ w'.cell? ⟨w.heap.size + 1, 6, none⟩ = some (.int .i64 c1.seed)) (go_keep) (first
    | (go_at_call 15
       refine (Tb.toTab w1.drew _ _ _ _ rs0 (hx0.below (HHB.out.trans (HBD.out.mono HHB.out.size))) hl').mono ?_
       rintro e w1a ⟨v1, rfl, o1, hb⟩
       have HY0 : Hid (Below w1.heap.size w1 w1a) := HBD.out.trans hb
       obtain ⟨_, ⟨s10x0, s10x1, s10x2⟩, _⟩ := id (H_bx.out.below HY0.out)
       obtain ⟨_, s10c0, s10c1, s10c2, s10c3, s10c4, s10c5, s10c6⟩ := id (H_bc.out.below HY0.out hwb)
       obtain ⟨p1, k1, e1, i1⟩ := o1.isr
       subst e1
       have HI1 : Hid (Tb.IsR w1a p1 rs0) := i1
       clear o1 i1
       clear hb)
    | (go_at_call 16
       refine (Cf.toConf _ _).mono ?_
       rintro e w1b ⟨rfl, hb⟩
       have HY1 : Hid (Below w1.heap.size w1 w1b) := HY0.out.trans (hb.mono HY0.out.size)
       obtain ⟨_, ⟨s11x0, s11x1, s11x2⟩, _⟩ := id (H_bx.out.below HY1.out)
       obtain ⟨_, s11c0, s11c1, s11c2, s11c3, s11c4, s11c5, s11c6⟩ := id (H_bc.out.below HY1.out hwb)
       have HI2 : Hid (Tb.IsR w1b p1 rs0) := HI1.out.below hb
       clear hb)
    | (go_at_call 22
       refine (Kt.stabs _ _ _ _ _ rs0 _ HI2.out hl').mono ?_
       rintro e w1c ⟨vw, rfl, ow, hb⟩
       have HY2 : Hid (Below w1.heap.size w1 w1c) := HY1.out.trans (hb.mono HY1.out.size)
       obtain ⟨_, ⟨s12x0, s12x1, s12x2⟩, _⟩ := id (H_bx.out.below HY2.out)
       obtain ⟨_, s12c0, s12c1, s12c2, s12c3, s12c4, s12c5, s12c6⟩ := id (H_bc.out.below HY2.out hwb)
       rw [HBV.out]
       have HOW : Hid (Kt.OwK w1c (fun k => w1b.heap.size ≤ k ∧ k < w1c.heap.size) vw ys) := by rw [HYS.out] at ow; exact ow
       clear ow
       clear hb))
  have hB := HHB.out
  have bx := H_bx.out
  have bc := H_bc.out
  have hb := HY2.out
  clear HHB HBD H_bx H_bc
  try clear r1x0 r1x1 r1x2 r1c0 r1c1 r1c2 r1c3 r1c4 r1c5 r1c6
  try clear s10x0 s10x1 s10x2 s10c0 s10c1 s10c2 s10c3 s10c4 s10c5 s10c6
  try clear s11x0 s11x1 s11x2 s11c0 s11c1 s11c2 s11c3 s11c4 s11c5 s11c6
  try clear s12x0 s12x1 s12x2 s12c0 s12c1 s12c2 s12c3 s12c4 s12c5 s12c6
  have bx := bx.below hb
  have bc := bc.below hb hwb
  have hB := hB.trans (hb.mono hB.size)
  have hwb : w.heap.size + 1 < w1c.heap.size := by have := hb.size; omega
  have ow := HOW.out.mono (B' := fun k => w1.heap.size ≤ k ∧ k < w1c.heap.size) (fun k hk => by have := HY1.out.size; omega)
  clear hb HY0 HY1 HY2 HI1 HI2 HOW
  obtain ⟨aw, qw, ew, _⟩ := ow.isk
  subst ew
  obtain ⟨_, ⟨xx0, xx1, xx2⟩, _⟩ := id (bx)
  go_wp2_with fail
  refine (Tb.toTab _ _ _ _ _ rs0 (hx0.below hB) hl').mono ?_
  rintro e w2 ⟨v2, rfl, o2, hb⟩
  have bx := bx.below hb
  have bc := bc.below hb hwb
  have ow := ow.below hb
  have hB := hB.trans (hb.mono hB.size)
  have h12 := hb.size
  clear hb xx0 xx1 xx2
  obtain ⟨p2, k2, e2, i2⟩ := o2.isr
  subst e2
  go_wp2_with fail
  obtain ⟨w3, hW3, hsz3, hb, by2⟩ := Tk.box3_new' w2 (.int .i64 n0) (.int .i64 c0) (.slice p2 rs0.length k2) 28
  rw [hW3]
  clear hW3
  have h23 : w2.heap.size < w3.heap.size := by omega
  have hwb0 := hwb
  have hwb : w.heap.size + 1 < w2.heap.size := by omega
  have bx := bx.below hb
  have bc := bc.below hb hwb
  have ow := ow.below hb
  have o2 := o2.below hb
  have i2 := i2.below hb
  have hB := hB.trans (hb.mono hB.size)
  have hwb : w.heap.size + 1 < w3.heap.size := by omega
  clear hb hsz3
  have bY := by2
  clear by2
  obtain ⟨_, ⟨r2Y0, r2Y1, r2Y2⟩, _⟩ := id (bY)
  obtain ⟨_, r2c0, r2c1, r2c2, r2c3, r2c4, r2c5, r2c6⟩ := id (bc)
  have H_ow : Hid (type_of% ow) := ow
  have H_o2 : Hid (type_of% o2) := o2
  have H_i2 : Hid (type_of% i2) := i2
  have H_bx : Hid (type_of% bx) := bx
  have H_bc : Hid (type_of% bc) := bc
  have H_bY : Hid (type_of% bY) := bY
  have HHB : Hid (type_of% hB) := hB
  have HBD : Hid (Below w3.heap.size w3 w3.drew) := (Below.refl w3.heap.size w3).drew
  clear hB ow o2 i2 bx bc bY
  go_wp2_with fail
  go_region_held3 (fun w' => w'.cell? ⟨w2.heap.size, 0, none⟩ = some (.int .i64 n0) ∧ w'.cell? ⟨w2.heap.size, 1, none⟩ = some (.int .i64 c0) ∧ w'.cell? ⟨w2.heap.size, 2, none⟩ = some (.slice p2 rs0.length k2) ∧ w'.cell? ⟨w.heap.size + 1, 0, none⟩ = some (.int .i64 c1.trees) ∧ w'.cell? ⟨w.heap.size + 1, 1, none⟩ = some (.int .i64 c1.depth) ∧ w'.cell? ⟨w.heap.size + 1, 2, none⟩ = some (.int .i64 c1.most) ∧ w'.cell? ⟨w.heap.size + 1, 3, none⟩ = some (.int .i64 c1.rate) ∧ w'.cell? ⟨w.heap.size + 1, 4, none⟩ = some (.int .i64 c1.l2) ∧ w'.cell? ⟨w.heap.size + 1, 5, none⟩ = some (.int .i64 c1.prior) ∧ w'.cell? ⟨w.heap.size + 1, 6, none⟩ = some (.int .i64 c1.seed)) (go_keep) (first
    | (go_at_call 16
       refine (Cf.toConf _ _).mono ?_
       rintro e w2a ⟨rfl, hb⟩
       have HY0 : Hid (Below w3.heap.size w3 w2a) := HBD.out.trans hb
       obtain ⟨_, ⟨s20Y0, s20Y1, s20Y2⟩, _⟩ := id (H_bY.out.below HY0.out)
       obtain ⟨_, s20c0, s20c1, s20c2, s20c3, s20c4, s20c5, s20c6⟩ := id (H_bc.out.below HY0.out hwb)
       have HI1 : Hid (Tb.IsR w2a p2 rs0) := H_i2.out.below HY0.out
       clear hb)
    | (go_at_call 23
       refine (Kt.itabs _ _ _ _ _ rs0 _ HI1.out hl').mono ?_
       rintro e w2b ⟨vg, rfl, og, hb⟩
       have HY1 : Hid (Below w3.heap.size w3 w2b) := HY0.out.trans (hb.mono HY0.out.size)
       obtain ⟨_, ⟨s21Y0, s21Y1, s21Y2⟩, _⟩ := id (H_bY.out.below HY1.out)
       obtain ⟨_, s21c0, s21c1, s21c2, s21c3, s21c4, s21c5, s21c6⟩ := id (H_bc.out.below HY1.out hwb)
       rw [HBV.out]
       have HOG : Hid (Kt.OwK w2b (fun k => w2a.heap.size ≤ k ∧ k < w2b.heap.size) vg ys) := by rw [HYS.out] at og; exact og
       clear og
       clear hb))
  have hB := HHB.out
  have ow := H_ow.out
  have o2 := H_o2.out
  have i2 := H_i2.out
  have bx := H_bx.out
  have bc := H_bc.out
  have bY := H_bY.out
  have hb := HY1.out
  clear HHB HBD H_ow H_o2 H_i2 H_bx H_bc H_bY
  try clear r2Y0 r2Y1 r2Y2 r2c0 r2c1 r2c2 r2c3 r2c4 r2c5 r2c6
  try clear s20Y0 s20Y1 s20Y2 s20c0 s20c1 s20c2 s20c3 s20c4 s20c5 s20c6
  try clear s21Y0 s21Y1 s21Y2 s21c0 s21c1 s21c2 s21c3 s21c4 s21c5 s21c6
  have bx := bx.below hb
  have bc := bc.below hb hwb
  have bY := bY.below hb
  have ow := ow.below hb
  have o2 := o2.below hb
  have i2 := i2.below hb
  have hB := hB.trans (hb.mono hB.size)
  have hwb : w.heap.size + 1 < w2b.heap.size := by have := hb.size; omega
  have og := HOG.out.mono (B' := fun k => w3.heap.size ≤ k ∧ k < w2b.heap.size) (fun k hk => by have := HY0.out.size; omega)
  have h3b := hb.size
  clear hb HY0 HY1 HI1 HOG
  obtain ⟨ag, qg, eg, ig⟩ := og.isk
  subst eg
  obtain ⟨_, _, ew, iw⟩ := ow.isk
  cases ew
  go_wp2_with fail
  refine (Kt.eqTabs _ _ _ _ _ ys ig iw hyl).mono ?_
  rintro e w4 ⟨rfl, hb⟩
  have bx := bx.below hb
  have bc := bc.below hb hwb
  have bY := bY.below hb
  have ow := ow.below hb
  have og := og.below hb
  have o2 := o2.below hb
  have i2 := i2.below hb
  have hB := hB.trans (hb.mono hB.size)
  have hwb : w.heap.size + 1 < w4.heap.size := by have := hb.size; omega
  have h34 := hb.size
  clear hb ig iw
  obtain ⟨_, ⟨r3Y0, r3Y1, r3Y2⟩, _⟩ := id (bY)
  obtain ⟨_, ⟨r3x0, r3x1, r3x2⟩, _⟩ := id (bx)
  have H_ow : Hid (type_of% ow) := ow
  have H_og : Hid (type_of% og) := og
  have H_o2 : Hid (type_of% o2) := o2
  have H_i2 : Hid (type_of% i2) := i2
  have H_bx : Hid (type_of% bx) := bx
  have H_bc : Hid (type_of% bc) := bc
  have H_bY : Hid (type_of% bY) := bY
  have HHB : Hid (type_of% hB) := hB
  have HBD : Hid (Below w4.heap.size w4 w4.drew) := (Below.refl w4.heap.size w4).drew
  clear hB ow og o2 i2 bx bc bY
  go_wp2_with fail
  go_region_held3 (fun w' => w'.cell? ⟨w2.heap.size, 0, none⟩ = some (.int .i64 n0) ∧ w'.cell? ⟨w2.heap.size, 1, none⟩ = some (.int .i64 c0) ∧ w'.cell? ⟨w2.heap.size, 2, none⟩ = some (.slice p2 rs0.length k2) ∧ w'.cell? ⟨w.heap.size, 0, none⟩ = some (.int .i64 n0) ∧ w'.cell? ⟨w.heap.size, 1, none⟩ = some (.int .i64 c0) ∧ w'.cell? ⟨w.heap.size, 2, none⟩ = some (.slice a0 rs0.length cap0)) (go_keep) (first
    | (go_at_call 15
       refine (Tb.toTab w4.drew _ _ _ _ rs0 (hx0.below (HHB.out.trans (HBD.out.mono HHB.out.size))) hl').mono ?_
       rintro e w3a ⟨v5, rfl, o5, hb⟩
       have HY0 : Hid (Below w4.heap.size w4 w3a) := HBD.out.trans hb
       obtain ⟨_, ⟨s30Y0, s30Y1, s30Y2⟩, _⟩ := id (H_bY.out.below HY0.out)
       obtain ⟨_, ⟨s30x0, s30x1, s30x2⟩, _⟩ := id (H_bx.out.below HY0.out)
       obtain ⟨p5, k5, e5, i5⟩ := o5.isr
       subst e5
       have HI5 : Hid (Tb.IsR w3a p5 rs0) := i5
       clear o5 i5
       clear hb)
    | (go_at_call 18
       refine (Tb.eqTables _ _ _ _ _ _ _ _ _ rs0 rs0 (H_i2.out.below HY0.out) HI5.out hl' hl').mono ?_
       rintro e w3b ⟨qq, rfl, hqq, hb⟩
       have HY1 : Hid (Below w4.heap.size w4 w3b) := HY0.out.trans (hb.mono HY0.out.size)
       obtain ⟨_, ⟨s31Y0, s31Y1, s31Y2⟩, _⟩ := id (H_bY.out.below HY1.out)
       obtain ⟨_, ⟨s31x0, s31x1, s31x2⟩, _⟩ := id (H_bx.out.below HY1.out)
       obtain rfl : qq = true := hqq.2 ⟨rfl, rfl, rfl⟩
       clear hqq
       clear hb))
  have hB := HHB.out
  have ow := H_ow.out
  have og := H_og.out
  have o2 := H_o2.out
  have i2 := H_i2.out
  have bx := H_bx.out
  have bc := H_bc.out
  have bY := H_bY.out
  have hb := HY1.out
  clear HHB HBD H_ow H_og H_o2 H_i2 H_bx H_bc H_bY
  try clear r3Y0 r3Y1 r3Y2 r3x0 r3x1 r3x2
  try clear s30Y0 s30Y1 s30Y2 s30x0 s30x1 s30x2
  try clear s31Y0 s31Y1 s31Y2 s31x0 s31x1 s31x2
  have bx := bx.below hb
  have bc := bc.below hb hwb
  have bY := bY.below hb
  have ow := ow.below hb
  have og := og.below hb
  have o2 := o2.below hb
  have hB := hB.trans (hb.mono hB.size)
  have hwb : w.heap.size + 1 < w3b.heap.size := by have := hb.size; omega
  have h4b := hb.size
  clear hb HY0 HY1 HI5 i2
  obtain ⟨_, ⟨yY0, yY1, yY2⟩, _⟩ := id (bY)
  go_wp2_with fail
  refine (Mk.mark_tab _ w1c.heap.size w2.heap.size _ _ p2 rs0.length k2 1 rs0 rfl o2 (by omega) (by omega)).mono ?_
  rintro e w6 ⟨rfl, o6, hWin⟩
  have hwts : ((1 + Mk.wts rs0 : Nat) : Int) = 1 + (Mk.wts rs0 : Int) := by omega
  have hwt0 : 0 ≤ (Mk.wts rs0 : Int) := by omega
  have hwt1 : (Mk.wts rs0 : Int) ≤ 1048576 := by have := Mk.wts_le rs0; omega
  rw [hwts]
  obtain ⟨M, hM⟩ : ∃ M : Int, (Mk.wts rs0 : Int) = M := ⟨_, rfl⟩
  rw [hM] at hwt0 hwt1 ⊢
  have hfr : Sv.Fr (fun k => w1c.heap.size ≤ k ∧ k < w2.heap.size) w3b w6 := ⟨hWin.os, hWin.tape, hWin.output, hWin.size, fun k hk hn => hWin.block k hk (by omega)⟩
  have ow := ow.fr hfr (fun k hk e => by omega)
  have og := og.fr hfr (fun k hk e => by omega)
  have bx := bx.keptAt hWin.size (hWin.block _ bx.1 (.inl (by omega)))
  have bc := bc.kept hWin.size (hWin.block _ bc.1 (.inl (by omega)))
  have hB : Below w.heap.size w w6 := hB.trans ((hWin.toBelow (by omega)).mono (by omega))
  have h6 := hWin.size
  have hwb : w.heap.size + 1 < w6.heap.size := by omega
  clear o6 hWin hwts hM bY o2 hfr yY0 yY1 yY2
  have hneg : ¬ 1 + M < 0 := by omega
  obtain ⟨_, _, ew, iw⟩ := ow.isk
  cases ew
  obtain ⟨_, _, eg, ig⟩ := og.isk
  cases eg
  go_wp2_with fail
  refine (Kt.eqTabs _ _ _ _ _ ys ig iw hyl).mono ?_
  rintro e w7 ⟨rfl, hb⟩
  have bx := bx.below hb
  have bc := bc.below hb hwb
  have ow := ow.below hb
  have og := og.below hb
  have hB := hB.trans (hb.mono hB.size)
  have hwb : w.heap.size + 1 < w7.heap.size := by have := hb.size; omega
  clear hb ig iw hneg
  go_wp2_with fail
  refine (Kt.markTabs _ _ _ _ ys og hyl (by omega) (by omega)).mono ?_
  rintro e w8 ⟨rfl, oh, hfr⟩
  have ow := ow.fr hfr (fun k hk e => by omega)
  have bx := bx.keptAt hfr.size (hfr.block _ bx.1 (fun e => by omega))
  have bc := bc.kept hfr.size (hfr.block _ bc.1 (fun e => by omega))
  have hB := hB.trans (hfr.bel (fun k hk => by omega) hB.size)
  have hwb : w.heap.size + 1 < w8.heap.size := by have := hfr.size; omega
  clear hfr og
  obtain ⟨_, _, eh, ih⟩ := oh.isk
  have eh2 := eh
  simp only [Kt.kmarks_length] at eh2
  cases eh2
  clear eh oh
  obtain ⟨T, hT⟩ : ∃ T : Int, 1 + (Kt.ktot ys : Int) = T := ⟨_, rfl⟩
  have hT0 : ¬ T < 0 := by omega
  have hTT : (T != T) = false := by simp
  have HTT : Hid (1 + (Kt.ktot ys : Int) = T) := hT
  rw [hT]
  clear hT
  go_wp2_with fail
  refine (Kt.heldTabs _ _ _ _ _ ys rfl ih hyl (by omega) (by omega)).mono ?_
  rintro e w8h ⟨rfl, hb⟩
  rw [HTT.out]
  have bx := bx.below hb
  have bc := bc.below hb hwb
  have ow := ow.below hb
  have ih := ih.below hb
  have hB := hB.trans (hb.mono hB.size)
  have hwb : w.heap.size + 1 < w8h.heap.size := by have := hb.size; omega
  clear hb
  obtain ⟨_, ⟨r4x0, r4x1, r4x2⟩, _⟩ := id (bx)
  obtain ⟨_, r4c0, r4c1, r4c2, r4c3, r4c4, r4c5, r4c6⟩ := id (bc)
  have H_ow : Hid (type_of% ow) := ow
  have H_ih : Hid (type_of% ih) := ih
  have H_bx : Hid (type_of% bx) := bx
  have H_bc : Hid (type_of% bc) := bc
  have HHB : Hid (type_of% hB) := hB
  have HBD : Hid (Below w8h.heap.size w8h w8h.drew) := (Below.refl w8h.heap.size w8h).drew
  clear hB ow ih bx bc
  go_wp2_with fail
  go_region_held3 (fun w' => w'.cell? ⟨w.heap.size, 0, none⟩ = some (.int .i64 n0) ∧ w'.cell? ⟨w.heap.size, 1, none⟩ = some (.int .i64 c0) ∧ w'.cell? ⟨w.heap.size, 2, none⟩ = some (.slice a0 rs0.length cap0) ∧ w'.cell? ⟨w.heap.size + 1, 0, none⟩ = some (.int .i64 c1.trees) ∧ w'.cell? ⟨w.heap.size + 1, 1, none⟩ = some (.int .i64 c1.depth) ∧ w'.cell? ⟨w.heap.size + 1, 2, none⟩ = some (.int .i64 c1.most) ∧ w'.cell? ⟨w.heap.size + 1, 3, none⟩ = some (.int .i64 c1.rate) ∧ w'.cell? ⟨w.heap.size + 1, 4, none⟩ = some (.int .i64 c1.l2) ∧ w'.cell? ⟨w.heap.size + 1, 5, none⟩ = some (.int .i64 c1.prior) ∧ w'.cell? ⟨w.heap.size + 1, 6, none⟩ = some (.int .i64 c1.seed)) (go_keep) (first
    | (go_at_call 15
       refine (Tb.toTab w8h.drew _ _ _ _ rs0 (hx0.below (HHB.out.trans (HBD.out.mono HHB.out.size))) hl').mono ?_
       rintro e w4a ⟨v9, rfl, o9, hb⟩
       have HY0 : Hid (Below w8h.heap.size w8h w4a) := HBD.out.trans hb
       obtain ⟨_, ⟨s40x0, s40x1, s40x2⟩, _⟩ := id (H_bx.out.below HY0.out)
       obtain ⟨_, s40c0, s40c1, s40c2, s40c3, s40c4, s40c5, s40c6⟩ := id (H_bc.out.below HY0.out hwb)
       obtain ⟨p9, k9, e9, i9⟩ := o9.isr
       subst e9
       have HI1 : Hid (Tb.IsR w4a p9 rs0) := i9
       clear o9 i9
       clear hb)
    | (go_at_call 16
       refine (Cf.toConf _ _).mono ?_
       rintro e w4b ⟨rfl, hb⟩
       have HY1 : Hid (Below w8h.heap.size w8h w4b) := HY0.out.trans (hb.mono HY0.out.size)
       obtain ⟨_, ⟨s41x0, s41x1, s41x2⟩, _⟩ := id (H_bx.out.below HY1.out)
       obtain ⟨_, s41c0, s41c1, s41c2, s41c3, s41c4, s41c5, s41c6⟩ := id (H_bc.out.below HY1.out hwb)
       have HI2 : Hid (Tb.IsR w4b p9 rs0) := HI1.out.below hb
       clear hb)
    | (go_at_call 23
       refine (Kt.itabs _ _ _ _ _ rs0 _ HI2.out hl').mono ?_
       rintro e w4c ⟨vh, rfl, oH, hb⟩
       have HY2 : Hid (Below w8h.heap.size w8h w4c) := HY1.out.trans (hb.mono HY1.out.size)
       obtain ⟨_, ⟨s42x0, s42x1, s42x2⟩, _⟩ := id (H_bx.out.below HY2.out)
       obtain ⟨_, s42c0, s42c1, s42c2, s42c3, s42c4, s42c5, s42c6⟩ := id (H_bc.out.below HY2.out hwb)
       rw [HBV.out]
       have HOH : Hid (Kt.OwK w4c (fun k => w4b.heap.size ≤ k ∧ k < w4c.heap.size) vh ys) := by rw [HYS.out] at oH; exact oH
       clear oH
       clear hb))
  have hB := HHB.out
  have ow := H_ow.out
  have ih := H_ih.out
  have bx := H_bx.out
  have bc := H_bc.out
  have hb := HY2.out
  clear HHB HBD H_ow H_ih H_bx H_bc
  try clear r4x0 r4x1 r4x2 r4c0 r4c1 r4c2 r4c3 r4c4 r4c5 r4c6
  try clear s40x0 s40x1 s40x2 s40c0 s40c1 s40c2 s40c3 s40c4 s40c5 s40c6
  try clear s41x0 s41x1 s41x2 s41c0 s41c1 s41c2 s41c3 s41c4 s41c5 s41c6
  try clear s42x0 s42x1 s42x2 s42c0 s42c1 s42c2 s42c3 s42c4 s42c5 s42c6
  have bx := bx.below hb
  have bc := bc.below hb hwb
  have ow := ow.below hb
  have ih := ih.below hb
  have hB := hB.trans (hb.mono hB.size)
  have hwb : w.heap.size + 1 < w4c.heap.size := by have := hb.size; omega
  obtain ⟨aH, qH, eH, iH⟩ := HOH.out.isk
  subst eH
  clear hb HY0 HY1 HY2 HI1 HI2 HOH
  obtain ⟨_, _, ew, iw⟩ := ow.isk
  cases ew
  go_wp2_with fail
  refine (Kt.eqTabs _ _ _ _ _ ys iH iw hyl).mono ?_
  rintro e w9 ⟨rfl, hb⟩
  have bx := bx.below hb
  have bc := bc.below hb hwb
  have ih := ih.below hb
  have hB := hB.trans (hb.mono hB.size)
  have hwb : w.heap.size + 1 < w9.heap.size := by have := hb.size; omega
  clear hb iH iw
  go_wp2_with fail
  refine (Kt.heldTabs _ _ _ _ _ ys rfl ih hyl (by omega) (by omega)).mono ?_
  rintro e w9h ⟨rfl, hb⟩
  rw [HTT.out]
  have bx := bx.below hb
  have bc := bc.below hb hwb
  have hB := hB.trans (hb.mono hB.size)
  have hwb : w.heap.size + 1 < w9h.heap.size := by have := hb.size; omega
  clear hb
  go_wp2
  go_ret
  exact ⟨rfl, hB⟩

/-! ### THE ROW's STEP -/
theorem lifted (os : Os) (started : os.Started) (H : Type) (enc : TypeId × Value → H) :
    ReturnsInHanded {} Try.checked os 5 .any (Rows.fnExactCtrTabsSpec.pre6 enc Try.prog Try.f5 Rows.fnExactCtrTabsRow.domain false) (Rows.fnExactCtrTabsSpec.post enc Try.prog Try.f5 false true false false) := by
  refine returnsInHanded_of_change (C := Try.checked) own started (by kernel_rfl) Try.func5
    (ChangeSpec.witness6 (enc := enc) (C := Try.checked) false ⟨#[], #[.agg #[.int .i64 0, .int .i64 0, .slice none 0 0], .agg #[.int .i64 0, .int .i64 0, .int .i64 0, .int .i64 0, .int .i64 0, .int .i64 0, .int .i64 0]], []⟩ 8 (by kernel_rfl) (by kernel_rfl) (by kernel_rfl) (by kernel_rfl)) ?_
  intro W base args ds gs before hval0 hW hcnd _
  have hval : ∀ (j : Nat) t v, Try.f5.params[j]? = some t → args[j]? = some v → Value.okWide Try.prog W .any base t v := hval0
  have hW' := hW
  obtain ⟨p, q, hA0, hV, rfl, hfz, hnd⟩ := hW
  have hA : DataW.TrodAll enc Try.prog W 0 (fun _ => true) true Try.f5.params.toList args.toList ds p := hA0
  rw [Try.params5] at hA hval
  obtain ⟨v0, vs0, d0, ds0, p0, q0, hargs, rfl, rfl, h0, rest0⟩ := trodAll_cons hA
  obtain ⟨v1, vs1, d1, ds1, p1, q1, rfl, rfl, rfl, h1, rest1⟩ := trodAll_cons rest0
  obtain ⟨rfl, rfl, rfl⟩ := trodAll_nil rest1
  obtain rfl : args = #[v0, v1] := by cases args; simp_all
  obtain ⟨rfl, rfl⟩ := trodVars_none hV
  have k0 := h0
  have lt0 : ∀ x ∈ p0, x.block < W.heap.size := by obtain ⟨m, hm⟩ := k0; exact DataW.trod_lt m _ _ _ hm
  have k1 := h1
  have lt1 : ∀ x ∈ p1, x.block < W.heap.size := by obtain ⟨m, hm⟩ := k1; exact DataW.trod_lt m _ _ _ hm
  obtain ⟨n0, c0, a0, rs0, cap0, rfl, bn0, bc0, hx0, hf0, hb0⟩ := Op.table_open (hval 0 50 v0 rfl rfl) h0
  obtain ⟨c1, rfl⟩ := Op.conf_open (hval 1 51 v1 rfl rfl) h1
  clear hA0 hval0
  refine (walk W n0 c0 a0 rs0 cap0 ⟨bn0, bc0⟩ hx0 hf0 hb0 c1).mono fun e W' ⟨he, bel⟩ => ?_
  subst he
  exact ⟨_, rfl, _, _, _, [], _, [], hW', trodAll_mk1 (shut_bool Try.underlying4 _), (trodAll_cons_mk (Below.trod laidOut (by kernel_rfl) (of_decide_eq_true (by kernel_rfl)) k0 bel lt0) (trodAll_cons_mk (Below.trod laidOut (by kernel_rfl) (of_decide_eq_true (by kernel_rfl)) k1 bel lt1) trodAll_mk0)), rfl, bel.frame _, fun h => by cases h⟩

theorem over : Rows.fnExactCtrTabsRow.holds Try.pinned (OpenSpec.ofChange Rows.fnExactCtrTabsSpec) :=
  OpenClaim.holds_of_wide 5 Try.f5 rfl rfl rfl rfl rfl rfl rfl ⟨rfl, rfl, rfl, rfl, rfl⟩ rfl rfl rfl rfl rfl (by kernel_rfl) Try.func5 (by kernel_rfl)
    (of_decide_eq_true (by kernel_rfl)) (by unfold Func.isWrapper; first | (rw [if_pos (by decide +kernel)]; kernel_rfl) | (rw [if_neg (by decide +kernel)]; exact ⟨rfl, rfl⟩))
    (fun os started H enc _ => lifted os started H enc)

/-- THE STATEMENT -/
theorem proved : Rows.FnExactCtrTabsSaid := over
#print axioms proved
end Go.Proofs.Ytbjnhdhnlofibaa.fnExactCtrTabs
