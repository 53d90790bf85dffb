/-
  Proved here: the Go function laws.FnExactAsked, called with any arguments that can be read, returns true, and each argument reads afterwards as it read before ('Rows.FnExactAskedSaid', no condition beyond the row's own).
-/
import Derived.Test.YtbnjbmajfadmaaaRows
import Derived.WalkKit
import Derived.ProofKit
import Derived.OpenShut
import Derived.ShutString
import Derived.ChangeOld
import Derived.Below
import Derived.Test.YtbnjbmajfadmaaaOpnR
import Derived.Test.YtbnjbmajfadmaaaSeV
import Derived.Test.YtbnjbmajfadmaaaSeG
import Derived.Test.YtbnjbmajfadmaaaSeJ
namespace Go.Proofs.Ytbnjbmajfadmaaa.fnExactAsked
open Go.ChangeShapes Go.WideShapes Go.ChangeAt Go.RowKit
set_option linter.unusedVariables false
set_option maxRecDepth 100000

theorem own : ownKnob Try.prog.godebug = none := by kernel_rfl
theorem laidOut : laidOutB Try.prog = true := by kernel_rfl


/-! ### THE WALK: the Go text returns true, and writes nothing that was there -/
set_option maxRecDepth 100000 in
set_option maxHeartbeats 4000000 in
theorem walk (w : World) (r0 : Se.R) (a00 a01 a02 : Option Addr) (c00 c01 c02 : Nat) (h0r : Sv.Rd w a00 a01 a02 r0) (hf0 : Sv.FitsR r0) (f1 b1 : Int) :
    Calls Try.prog 5 #[.agg #[.slice a00 r0.x.length c00, .slice a01 r0.g.length c01, .slice a02 r0.ids.length c02, .int .i64 r0.lv, .int .i64 r0.l2], .agg #[.int .i64 f1, .int .i64 b1]] w fun e w' => e = .returned (.bool true) ∧ Below w.heap.size w w' := by
  have HF : Hid (Sv.FitsR r0) := hf0
  clear hf0
  go_enter Try.func5, Try.ntmps5
  go_wp2_with fail
  obtain ⟨W, hW, hsz, hB, bxA, bsA⟩ := Sv.new2 w [.slice a00 r0.x.length c00, .slice a01 r0.g.length c01, .slice a02 r0.ids.length c02, .int .i64 r0.lv, .int .i64 r0.l2] [.int .i64 f1, .int .i64 b1] 53 54
  rw [hW]
  have hWz : w.heap.size < W.heap.size := by omega
  have hWy : w.heap.size + 1 < W.heap.size := by omega
  clear hW hsz
  refine (Sv.szRows _ _ _ _ _ _ _ r0 _ (h0r.below hB) HF.out (by omega) (by omega)).mono ?_
  rintro e w1 ⟨rfl, hb⟩
  have bxA := bxA.below hb
  have bsA := bsA.below hb
  have hB := hB.trans (hb.mono hB.size)
  have z1 := hb.size
  clear hb
  by_cases s0 : (Sv.szr r0 : Int) ≤ 1048576
  rotate_left
  · rw [Tb.sub_no s0]
    go_wp2
    go_ret
    exact ⟨rfl, hB⟩
  rw [Tb.sub_yes s0]
  obtain ⟨y0, hy0⟩ : ∃ t : Int, 1048576 - (Sv.szr r0 : Int) = t := ⟨_, rfl⟩
  rw [hy0]
  have y0a : 0 ≤ y0 := by omega
  have y0b : y0 ≤ 1048576 := by omega
  have qs : Sv.szr r0 ≤ 1048576 := by omega
  clear hy0
  obtain ⟨q0, hv0⟩ : ∃ v, Se.asked r0 f1 b1 = v := ⟨_, rfl⟩
  have HV : Hid (Se.asked r0 f1 b1 = q0) := hv0
  have qq : Sv.szr q0 ≤ 1048576 := by rw [← hv0]; exact Nat.le_trans (Sv.szr_asked r0 f1 b1) qs
  clear hv0
  go_wp2_with fail
  have H_bxA : Hid (type_of% bxA) := bxA
  have H_bsA : Hid (type_of% bsA) := bsA
  have HHB : Hid (type_of% hB) := hB
  have HS : Hid (∀ W_ : World, Below w1.heap.size w1 W_ → (W_.cell? ⟨w.heap.size, 0, none⟩ = some (.slice a00 r0.x.length c00) ∧ W_.cell? ⟨w.heap.size, 1, none⟩ = some (.slice a01 r0.g.length c01) ∧ W_.cell? ⟨w.heap.size, 2, none⟩ = some (.slice a02 r0.ids.length c02) ∧ W_.cell? ⟨w.heap.size, 3, none⟩ = some (.int .i64 r0.lv) ∧ W_.cell? ⟨w.heap.size, 4, none⟩ = some (.int .i64 r0.l2)) ∧ (W_.cell? ⟨w.heap.size + 1, 0, none⟩ = some (.int .i64 f1) ∧ W_.cell? ⟨w.heap.size + 1, 1, none⟩ = some (.int .i64 b1))) := fun W_ hb => ⟨(Sv.wr5 (H_bxA.out.below hb)).2.1, (Sv.wr2 (H_bsA.out.below hb)).2.1⟩
  have st1 := Sv.Sq.init w1 q0
  have st := st1.drew
  have hS0 := HS.out w1 (Below.refl _ _)
  clear hB bxA bsA
  go_cut [6] from 18 (fun s_ wx => ∃ bo lo hi u0 u1 u2, s_ = .pointer (some ⟨bo, 0, none⟩) ∧ Sv.Res w1 wx bo lo hi u0 u1 u2 q0)
  case first =>
    obtain ⟨⟨c0_bxA, c1_bxA, c2_bxA, c3_bxA, c4_bxA⟩, ⟨c0_bsA, c1_bsA⟩⟩ := hS0
    go_region_held3 (fun W_ => (W_.cell? ⟨w.heap.size, 0, none⟩ = some (.slice a00 r0.x.length c00) ∧ W_.cell? ⟨w.heap.size, 1, none⟩ = some (.slice a01 r0.g.length c01) ∧ W_.cell? ⟨w.heap.size, 2, none⟩ = some (.slice a02 r0.ids.length c02) ∧ W_.cell? ⟨w.heap.size, 3, none⟩ = some (.int .i64 r0.lv) ∧ W_.cell? ⟨w.heap.size, 4, none⟩ = some (.int .i64 r0.l2)) ∧ (W_.cell? ⟨w.heap.size + 1, 0, none⟩ = some (.int .i64 f1) ∧ W_.cell? ⟨w.heap.size + 1, 1, none⟩ = some (.int .i64 b1))) (first | (have k_ := HS.out _ st.bel; with_reducible exact k_) | (have k_ := HS.out _ st.al.bel; with_reducible exact k_) | (have k_ := HS.out _ st.al0.bel; with_reducible exact k_) | (have k_ := HS.out _ st1.al.bel; with_reducible exact k_) | (have k_ := HS.out _ st1.al0.bel; with_reducible exact k_) | (have k_ := HS.out _ st.ofSet.bel; with_reducible exact k_) | (have k_ := HS.out _ st.ofNew.bel; with_reducible exact k_) | go_keep) (first
      | (go_at_call 25; refine (Sv.toRows _ _ _ _ _ _ _ r0 (by first | (have k_ := h0r.below (HHB.out.trans ((st.bel).mono HHB.out.size)); with_reducible exact k_) | (have k_ := h0r.below (HHB.out.trans ((st.al.bel).mono HHB.out.size)); with_reducible exact k_) | (have k_ := h0r.below (HHB.out.trans ((st.al0.bel).mono HHB.out.size)); with_reducible exact k_) | (have k_ := h0r.below (HHB.out.trans ((st1.al.bel).mono HHB.out.size)); with_reducible exact k_) | (have k_ := h0r.below (HHB.out.trans ((st1.al0.bel).mono HHB.out.size)); with_reducible exact k_)) qs).mono ?_; rintro e w_0 ⟨y0, y1, y2, rfl, oy, hb⟩; have HZ0 : Hid (type_of% hb) := hb; (first | (with_reducible replace st := st.step hb) | (with_reducible replace st := st.al.step hb) | (with_reducible replace st := st.al0.step hb) | (with_reducible replace st := st1.al.step hb) | (with_reducible replace st := st1.al0.step hb)); (first | (have kv := Sv.wr5 (st.oV _ rfl).1; obtain ⟨_, ⟨k0, k1, k2, k3, k4⟩, l0, l1, l2, l3, l4⟩ := kv) | skip); replace st := st.know (kp' := fun W => Sv.Rd W (some ⟨y0, 0, none⟩) (some ⟨y1, 0, none⟩) (some ⟨y2, 0, none⟩) r0) oy.rd' (fun A B h hb => h.below hb); clear oy; clear hb)
      | (go_at_call 26; refine (Tm.toSplit _ _ _).mono ?_; rintro e w_1 ⟨rfl, hb⟩; have HZ1 : Hid (type_of% hb) := hb; (first | (with_reducible replace st := st.step hb) | (with_reducible replace st := st.al.step hb) | (with_reducible replace st := st.al0.step hb) | (with_reducible replace st := st1.al.step hb) | (with_reducible replace st := st1.al0.step hb)); (first | (have kv := Sv.wr5 (st.oV _ rfl).1; obtain ⟨_, ⟨k0, k1, k2, k3, k4⟩, l0, l1, l2, l3, l4⟩ := kv) | skip); clear hb)
      | (go_at_call 24; refine (Sw7.sasked _ _ _ _ _ _ _ r0 f1 b1 (by first | (have k_ := st.kk.2; with_reducible exact k_) | (have k_ := st.al.kk.2; with_reducible exact k_) | (have k_ := st.al0.kk.2; with_reducible exact k_))).mono ?_; rintro e w_2 ⟨v0, v1, v2, rfl, oG_, hb⟩; rw [HV.out] at oG_; rw [HV.out]; obtain ⟨x0_, y0_, x1_, y1_, x2_, y2_, rfl, rfl, rfl, _⟩ := oG_.rd; (first | (with_reducible replace st := st.mkG oG_ hb) | (with_reducible replace st := st.al.mkG oG_ hb) | (with_reducible replace st := st.al0.mkG oG_ hb) | (with_reducible replace st := st1.al.mkG oG_ hb) | (with_reducible replace st := st1.al0.mkG oG_ hb)); (first | (have kv := Sv.wr5 (st.oV _ rfl).1; obtain ⟨_, ⟨k0, k1, k2, k3, k4⟩, l0, l1, l2, l3, l4⟩ := kv) | skip); clear hb))
    all_goals
      go_wp2_with fail
      go_meet
      case rel =>
        first
          | (have k_ := st.ofNew; with_reducible exact ⟨_, _, _, _, _, _, rfl, k_⟩)
          | (have k_ := st.ofSet; with_reducible exact ⟨_, _, _, _, _, _, rfl, k_⟩)
          | (have k_ := st1.ofNew; with_reducible exact ⟨_, _, _, _, _, _, rfl, k_⟩)
  revert wc
  intro w2 hcut
  obtain ⟨bS, loS, hiS, u0, u1, u2, rfl, hres⟩ := hcut
  obtain ⟨p0S, m0S, p1S, m1S, p2S, m2S, rfl, rfl, rfl, _⟩ := hres.ow.rd
  have hB := HHB.out
  have bxA := H_bxA.out
  have bsA := H_bsA.out
  clear HHB HS hS0 st st1 H_bxA H_bsA
  have hb := hres.bel
  have bxA := bxA.below hb
  have bsA := bsA.below hb
  have hB := hB.trans (hb.mono hB.size)
  have z2 := hb.size
  have bxS := hres.bx
  have oS := hres.ow
  have geS := hres.ge
  have nlS := hres.nl
  have hlS := hres.hl
  have blS := hres.bx.1
  clear hres hb
  obtain ⟨_, ⟨q0_bxA, q1_bxA, q2_bxA, q3_bxA, q4_bxA⟩, _⟩ := Sv.wr5 bxA
  go_wp2_with fail
  clear q0_bxA q1_bxA q2_bxA q3_bxA q4_bxA
  refine (Sv.toRows _ _ _ _ _ _ _ r0 (h0r.below hB) qs).mono ?_
  rintro e w3 ⟨x0, x1, x2, rfl, ox, hb⟩
  have bxA := bxA.below hb
  have bsA := bsA.below hb
  have bxS := bxS.below hb
  have oS := oS.below hb
  have hB := hB.trans (hb.mono hB.size)
  have z3 := hb.size
  clear hb
  go_wp2_with fail
  obtain ⟨WX, hW, hsz, hb, bxX⟩ := Sv.new1 w3 [.slice (some ⟨x0, 0, none⟩) r0.x.length r0.x.length, .slice (some ⟨x1, 0, none⟩) r0.g.length r0.g.length, .slice (some ⟨x2, 0, none⟩) r0.ids.length r0.ids.length, .int .i64 r0.lv, .int .i64 r0.l2] 27
  rw [hW]
  have bxA := bxA.below hb
  have bsA := bsA.below hb
  have bxS := bxS.below hb
  have oS := oS.below hb
  have ox := ox.below hb
  have hB := hB.trans (hb.mono hB.size)
  have z4 := hb.size
  clear hb hW hsz
  go_wp2_with fail
  have H_bxA : Hid (type_of% bxA) := bxA
  have H_bsA : Hid (type_of% bsA) := bsA
  have H_bxS : Hid (type_of% bxS) := bxS
  have H_oS : Hid (type_of% oS) := oS
  have H_ox : Hid (type_of% ox) := ox
  have H_bxX : Hid (type_of% bxX) := bxX
  have HHB : Hid (type_of% hB) := hB
  have HS : Hid (∀ W_ : World, Below WX.heap.size WX W_ → (W_.cell? ⟨w3.heap.size, 0, none⟩ = some (.slice (some ⟨x0, 0, none⟩) r0.x.length r0.x.length) ∧ W_.cell? ⟨w3.heap.size, 1, none⟩ = some (.slice (some ⟨x1, 0, none⟩) r0.g.length r0.g.length) ∧ W_.cell? ⟨w3.heap.size, 2, none⟩ = some (.slice (some ⟨x2, 0, none⟩) r0.ids.length r0.ids.length) ∧ W_.cell? ⟨w3.heap.size, 3, none⟩ = some (.int .i64 r0.lv) ∧ W_.cell? ⟨w3.heap.size, 4, none⟩ = some (.int .i64 r0.l2)) ∧ (W_.cell? ⟨w.heap.size + 1, 0, none⟩ = some (.int .i64 f1) ∧ W_.cell? ⟨w.heap.size + 1, 1, none⟩ = some (.int .i64 b1))) := fun W_ hb => ⟨(Sv.wr5 (H_bxX.out.below hb)).2.1, (Sv.wr2 (H_bsA.out.below hb)).2.1⟩
  have st1 := Sv.Sq.init WX q0
  have st := st1.drew
  have hS0 := HS.out WX (Below.refl _ _)
  clear hB bxA bsA bxS oS ox bxX
  go_cut [8] from 25 (fun s_ wx => ∃ bo lo hi u0 u1 u2, s_ = .pointer (some ⟨bo, 0, none⟩) ∧ Sv.Res WX wx bo lo hi u0 u1 u2 q0)
  case first =>
    obtain ⟨⟨c0_bxX, c1_bxX, c2_bxX, c3_bxX, c4_bxX⟩, ⟨c0_bsA, c1_bsA⟩⟩ := hS0
    go_region_held3 (fun W_ => (W_.cell? ⟨w3.heap.size, 0, none⟩ = some (.slice (some ⟨x0, 0, none⟩) r0.x.length r0.x.length) ∧ W_.cell? ⟨w3.heap.size, 1, none⟩ = some (.slice (some ⟨x1, 0, none⟩) r0.g.length r0.g.length) ∧ W_.cell? ⟨w3.heap.size, 2, none⟩ = some (.slice (some ⟨x2, 0, none⟩) r0.ids.length r0.ids.length) ∧ W_.cell? ⟨w3.heap.size, 3, none⟩ = some (.int .i64 r0.lv) ∧ W_.cell? ⟨w3.heap.size, 4, none⟩ = some (.int .i64 r0.l2)) ∧ (W_.cell? ⟨w.heap.size + 1, 0, none⟩ = some (.int .i64 f1) ∧ W_.cell? ⟨w.heap.size + 1, 1, none⟩ = some (.int .i64 b1))) (first | (have k_ := HS.out _ st.bel; with_reducible exact k_) | (have k_ := HS.out _ st.al.bel; with_reducible exact k_) | (have k_ := HS.out _ st.al0.bel; with_reducible exact k_) | (have k_ := HS.out _ st1.al.bel; with_reducible exact k_) | (have k_ := HS.out _ st1.al0.bel; with_reducible exact k_) | (have k_ := HS.out _ st.ofSet.bel; with_reducible exact k_) | (have k_ := HS.out _ st.ofNew.bel; with_reducible exact k_) | go_keep) (first
      | (go_at_call 26; refine (Tm.toSplit _ _ _).mono ?_; rintro e w_0 ⟨rfl, hb⟩; have HZ0 : Hid (type_of% hb) := hb; (first | (with_reducible replace st := st.step hb) | (with_reducible replace st := st.al.step hb) | (with_reducible replace st := st.al0.step hb) | (with_reducible replace st := st1.al.step hb) | (with_reducible replace st := st1.al0.step hb)); (first | (have kv := Sv.wr5 (st.oV _ rfl).1; obtain ⟨_, ⟨k0, k1, k2, k3, k4⟩, l0, l1, l2, l3, l4⟩ := kv) | skip); clear hb)
      | (go_at_call 13; refine (Sw7.iasked _ _ _ _ _ _ _ r0 f1 b1 (by first | (have k_ := H_ox.out.rd'.below st.bel; with_reducible exact k_) | (have k_ := H_ox.out.rd'.below st.al.bel; with_reducible exact k_) | (have k_ := H_ox.out.rd'.below st.al0.bel; with_reducible exact k_) | (have k_ := H_ox.out.rd'.below st1.al.bel; with_reducible exact k_) | (have k_ := H_ox.out.rd'.below st1.al0.bel; with_reducible exact k_))).mono ?_; rintro e w_1 ⟨v0, v1, v2, rfl, oG_, hb⟩; rw [HV.out] at oG_; rw [HV.out]; obtain ⟨x0_, y0_, x1_, y1_, x2_, y2_, rfl, rfl, rfl, _⟩ := oG_.rd; (first | (with_reducible replace st := st.mkG oG_ hb) | (with_reducible replace st := st.al.mkG oG_ hb) | (with_reducible replace st := st.al0.mkG oG_ hb) | (with_reducible replace st := st1.al.mkG oG_ hb) | (with_reducible replace st := st1.al0.mkG oG_ hb)); (first | (have kv := Sv.wr5 (st.oV _ rfl).1; obtain ⟨_, ⟨k0, k1, k2, k3, k4⟩, l0, l1, l2, l3, l4⟩ := kv) | skip); clear hb))
    all_goals
      go_wp2_with fail
      go_meet
      case rel =>
        first
          | (have k_ := st.ofNew; with_reducible exact ⟨_, _, _, _, _, _, rfl, k_⟩)
          | (have k_ := st.ofSet; with_reducible exact ⟨_, _, _, _, _, _, rfl, k_⟩)
          | (have k_ := st1.ofNew; with_reducible exact ⟨_, _, _, _, _, _, rfl, k_⟩)
  revert wc
  intro w5 hcut
  obtain ⟨bG, loG, hiG, u0, u1, u2, rfl, hres⟩ := hcut
  obtain ⟨p0G, m0G, p1G, m1G, p2G, m2G, rfl, rfl, rfl, _⟩ := hres.ow.rd
  have hB := HHB.out
  have bxA := H_bxA.out
  have bsA := H_bsA.out
  have bxS := H_bxS.out
  have oS := H_oS.out
  have ox := H_ox.out
  have bxX := H_bxX.out
  clear HHB HS hS0 st st1 H_bxA H_bsA H_bxS H_oS H_ox H_bxX
  have hb := hres.bel
  have bxA := bxA.below hb
  have bsA := bsA.below hb
  have bxS := bxS.below hb
  have oS := oS.below hb
  have ox := ox.below hb
  have bxX := bxX.below hb
  have hB := hB.trans (hb.mono hB.size)
  have z5 := hb.size
  have bxG := hres.bx
  have oG := hres.ow
  have geG := hres.ge
  have nlG := hres.nl
  have hlG := hres.hl
  have blG := hres.bx.1
  clear hres hb
  obtain ⟨_, ⟨q0_bxG, q1_bxG, q2_bxG, q3_bxG, q4_bxG⟩, _⟩ := Sv.wr5 bxG
  obtain ⟨_, ⟨q0_bxS, q1_bxS, q2_bxS, q3_bxS, q4_bxS⟩, _⟩ := Sv.wr5 bxS
  go_wp2_with fail
  clear q0_bxG q1_bxG q2_bxG q3_bxG q4_bxG
  clear q0_bxS q1_bxS q2_bxS q3_bxS q4_bxS
  refine (Sv.eqRows _ _ _ _ _ _ _ _ _ _ _ _ _ q0 oG.rd' oS.rd' qq).mono ?_
  rintro e w6 ⟨rfl, hb⟩
  have bxA := bxA.below hb
  have bsA := bsA.below hb
  have bxS := bxS.below hb
  have oS := oS.below hb
  have ox := ox.below hb
  have bxX := bxX.below hb
  have bxG := bxG.below hb
  have oG := oG.below hb
  have hB := hB.trans (hb.mono hB.size)
  have z6 := hb.size
  clear hb
  obtain ⟨_, ⟨q0_bxA, q1_bxA, q2_bxA, q3_bxA, q4_bxA⟩, _⟩ := Sv.wr5 bxA
  obtain ⟨_, ⟨q0_bxX, q1_bxX, q2_bxX, q3_bxX, q4_bxX⟩, _⟩ := Sv.wr5 bxX
  go_wp2_with fail
  have H_bxA : Hid (type_of% bxA) := bxA
  have H_bsA : Hid (type_of% bsA) := bsA
  have H_bxS : Hid (type_of% bxS) := bxS
  have H_oS : Hid (type_of% oS) := oS
  have H_ox : Hid (type_of% ox) := ox
  have H_bxX : Hid (type_of% bxX) := bxX
  have H_bxG : Hid (type_of% bxG) := bxG
  have H_oG : Hid (type_of% oG) := oG
  have HHB : Hid (type_of% hB) := hB
  clear hB bxA bsA bxS oS ox bxX bxG oG
  go_region_held3 (fun w' => w'.cell? ⟨w.heap.size, 0, none⟩ = some (.slice a00 r0.x.length c00) ∧ w'.cell? ⟨w.heap.size, 1, none⟩ = some (.slice a01 r0.g.length c01) ∧ w'.cell? ⟨w.heap.size, 2, none⟩ = some (.slice a02 r0.ids.length c02) ∧ w'.cell? ⟨w.heap.size, 3, none⟩ = some (.int .i64 r0.lv) ∧ w'.cell? ⟨w.heap.size, 4, none⟩ = some (.int .i64 r0.l2) ∧ w'.cell? ⟨w3.heap.size, 0, none⟩ = some (.slice (some ⟨x0, 0, none⟩) r0.x.length r0.x.length) ∧ w'.cell? ⟨w3.heap.size, 1, none⟩ = some (.slice (some ⟨x1, 0, none⟩) r0.g.length r0.g.length) ∧ w'.cell? ⟨w3.heap.size, 2, none⟩ = some (.slice (some ⟨x2, 0, none⟩) r0.ids.length r0.ids.length) ∧ w'.cell? ⟨w3.heap.size, 3, none⟩ = some (.int .i64 r0.lv) ∧ w'.cell? ⟨w3.heap.size, 4, none⟩ = some (.int .i64 r0.l2)) (go_keep) (first
    | (go_at_call 25; refine (Sv.toRows w6.drew _ _ _ _ _ _ r0 (h0r.below (HHB.out.trans ((Tm.below_drew _).mono HHB.out.size))) qs).mono ?_; rintro e wa ⟨y0, y1, y2, rfl, oy, hb⟩; have HYA : Hid (Below w6.heap.size w6 wa) := (Tm.below_drew _).trans hb; have HOY := oy.rd'; obtain ⟨_, ⟨r0_A, r1_A, r2_A, r3_A, r4_A⟩, _⟩ := Sv.wr5 (H_bxA.out.below HYA.out); obtain ⟨_, ⟨r0_X, r1_X, r2_X, r3_X, r4_X⟩, _⟩ := Sv.wr5 (H_bxX.out.below HYA.out); clear hb oy)
    | (go_at_call 27; refine (Sv.eqRows _ _ _ _ _ _ _ _ _ _ _ _ _ r0 (H_ox.out.rd'.below HYA.out) HOY qs).mono ?_; rintro e wb ⟨rfl, hb⟩; have HYB : Hid (Below wa.heap.size wa wb) := hb; obtain ⟨_, ⟨s0_A, s1_A, s2_A, s3_A, s4_A⟩, _⟩ := Sv.wr5 ((H_bxA.out.below HYA.out).below hb); obtain ⟨_, ⟨s0_X, s1_X, s2_X, s3_X, s4_X⟩, _⟩ := Sv.wr5 ((H_bxX.out.below HYA.out).below hb); clear hb))
  have hB := HHB.out
  have bxA := H_bxA.out
  have bsA := H_bsA.out
  have bxS := H_bxS.out
  have oS := H_oS.out
  have ox := H_ox.out
  have bxX := H_bxX.out
  have bxG := H_bxG.out
  have oG := H_oG.out
  clear HHB H_bxA H_bsA H_bxS H_oS H_ox H_bxX H_bxG H_oG
  have hb := HYA.out
  have bxA := bxA.below hb
  have bsA := bsA.below hb
  have bxS := bxS.below hb
  have oS := oS.below hb
  have ox := ox.below hb
  have bxX := bxX.below hb
  have bxG := bxG.below hb
  have oG := oG.below hb
  have hB := hB.trans (hb.mono hB.size)
  have z7 := hb.size
  have hb := HYB.out
  have bxA := bxA.below hb
  have bsA := bsA.below hb
  have bxS := bxS.below hb
  have oS := oS.below hb
  have ox := ox.below hb
  have bxX := bxX.below hb
  have bxG := bxG.below hb
  have oG := oG.below hb
  have hB := hB.trans (hb.mono hB.size)
  have z8 := hb.size
  clear hb HYA HYB HOY s0_A s1_A s2_A s3_A s4_A s0_X s1_X s2_X s3_X s4_X
  obtain ⟨_, ⟨q0_bxX, q1_bxX, q2_bxX, q3_bxX, q4_bxX⟩, _⟩ := Sv.wr5 bxX
  go_wp2_with fail
  clear q0_bxX q1_bxX q2_bxX q3_bxX q4_bxX
  refine (Sv.markRows _ _ _ _ _ _ _ _ r0 ox (fun q hq => by omega) qs (by omega) (by omega)).mono ?_
  rintro e w9 ⟨rfl, _, hf⟩
  have hsr : r0.x.length + Sv.tot r0.x + r0.g.length + r0.ids.length ≤ 1048576 := qs
  have bxA := bxA.fr hf (fun e => by omega)
  have bsA := bsA.fr hf (fun e => by omega)
  have bxS := bxS.fr hf (fun e => by omega)
  have oS := oS.fr hf (fun k hk e => by omega)
  have bxG := bxG.fr hf (fun e => by omega)
  have oG := oG.fr hf (fun k hk e => by omega)
  have hB := hB.trans (hf.bel (fun k hk => by omega) hB.size)
  have zf9 := hf.size
  clear hf ox bxX
  obtain ⟨K, hK⟩ : ∃ K : Int, 1 + (Sv.tot r0.x : Int) + r0.g.length + r0.ids.length = K := ⟨_, rfl⟩
  rw [hK]
  have hK0 : 0 ≤ K := by omega
  have hK1 : K ≤ 2000000 := by omega
  clear hK hsr
  obtain ⟨_, ⟨q0_bxG, q1_bxG, q2_bxG, q3_bxG, q4_bxG⟩, _⟩ := Sv.wr5 bxG
  obtain ⟨_, ⟨q0_bxS, q1_bxS, q2_bxS, q3_bxS, q4_bxS⟩, _⟩ := Sv.wr5 bxS
  go_wp2_with fail
  clear q0_bxG q1_bxG q2_bxG q3_bxG q4_bxG
  clear q0_bxS q1_bxS q2_bxS q3_bxS q4_bxS
  refine (Sv.eqRows _ _ _ _ _ _ _ _ _ _ _ _ _ q0 oG.rd' oS.rd' qq).mono ?_
  rintro e w10 ⟨rfl, hb⟩
  have bxA := bxA.below hb
  have bsA := bsA.below hb
  have bxS := bxS.below hb
  have oS := oS.below hb
  have bxG := bxG.below hb
  have oG := oG.below hb
  have hB := hB.trans (hb.mono hB.size)
  have z10 := hb.size
  clear hb
  obtain ⟨_, ⟨q0_bxG, q1_bxG, q2_bxG, q3_bxG, q4_bxG⟩, _⟩ := Sv.wr5 bxG
  go_wp2_with fail
  clear q0_bxG q1_bxG q2_bxG q3_bxG q4_bxG
  have hsq : q0.x.length + Sv.tot q0.x + q0.g.length + q0.ids.length ≤ 1048576 := qq
  refine (Sv.markRows _ _ _ _ _ _ _ _ q0 oG (fun q hq => by omega) qq (by omega) (by omega)).mono ?_
  rintro e w11 ⟨rfl, oG, hf⟩
  have bxA := bxA.fr hf (fun e => by omega)
  have bsA := bsA.fr hf (fun e => by omega)
  have bxS := bxS.fr hf (fun e => by omega)
  have oS := oS.fr hf (fun k hk e => by omega)
  have bxG := bxG.fr hf (fun e => by omega)
  have hB := hB.trans (hf.bel (fun k hk => by omega) hB.size)
  have zf11 := hf.size
  clear hf
  obtain ⟨M, hM⟩ : ∃ M : Int, 1 + (Sv.tot q0.x : Int) + q0.g.length + q0.ids.length = M := ⟨_, rfl⟩
  have hM0 : ¬ M < 0 := by omega
  have hMM : (M != M) = false := by simp
  have HM : Hid (1 + (Sv.tot q0.x : Int) + q0.g.length + q0.ids.length = M) := hM
  rw [hM]
  clear hM hsq
  obtain ⟨_, ⟨q0_bxG, q1_bxG, q2_bxG, q3_bxG, q4_bxG⟩, _⟩ := Sv.wr5 bxG
  go_wp2_with fail
  clear q0_bxG q1_bxG q2_bxG q3_bxG q4_bxG
  refine (Sv.heldRows _ _ _ _ _ 1 _ _ q0 oG qq (by omega) (by omega)).mono ?_
  rintro e w12 ⟨rfl, hb⟩
  rw [HM.out]
  have bxA := bxA.below hb
  have bsA := bsA.below hb
  have bxS := bxS.below hb
  have oS := oS.below hb
  have bxG := bxG.below hb
  have oG := oG.below hb
  have hB := hB.trans (hb.mono hB.size)
  have z12 := hb.size
  clear hb
  go_wp2_with fail
  have H_bxA : Hid (type_of% bxA) := bxA
  have H_bsA : Hid (type_of% bsA) := bsA
  have H_bxS : Hid (type_of% bxS) := bxS
  have H_oS : Hid (type_of% oS) := oS
  have H_bxG : Hid (type_of% bxG) := bxG
  have H_oG : Hid (type_of% oG) := oG
  have HHB : Hid (type_of% hB) := hB
  have HS : Hid (∀ W_ : World, Below w12.heap.size w12 W_ → (W_.cell? ⟨w.heap.size, 0, none⟩ = some (.slice a00 r0.x.length c00) ∧ W_.cell? ⟨w.heap.size, 1, none⟩ = some (.slice a01 r0.g.length c01) ∧ W_.cell? ⟨w.heap.size, 2, none⟩ = some (.slice a02 r0.ids.length c02) ∧ W_.cell? ⟨w.heap.size, 3, none⟩ = some (.int .i64 r0.lv) ∧ W_.cell? ⟨w.heap.size, 4, none⟩ = some (.int .i64 r0.l2)) ∧ (W_.cell? ⟨w.heap.size + 1, 0, none⟩ = some (.int .i64 f1) ∧ W_.cell? ⟨w.heap.size + 1, 1, none⟩ = some (.int .i64 b1))) := fun W_ hb => ⟨(Sv.wr5 (H_bxA.out.below hb)).2.1, (Sv.wr2 (H_bsA.out.below hb)).2.1⟩
  have st1 := Sv.Sq.init w12 q0
  have st := st1.drew
  have hS0 := HS.out w12 (Below.refl _ _)
  clear hB bxA bsA bxS oS bxG oG
  go_cut [12] from 60 (fun s_ wx => ∃ bo lo hi u0 u1 u2, s_ = .pointer (some ⟨bo, 0, none⟩) ∧ Sv.Res w12 wx bo lo hi u0 u1 u2 q0)
  case first =>
    obtain ⟨⟨c0_bxA, c1_bxA, c2_bxA, c3_bxA, c4_bxA⟩, ⟨c0_bsA, c1_bsA⟩⟩ := hS0
    go_region_held3 (fun W_ => (W_.cell? ⟨w.heap.size, 0, none⟩ = some (.slice a00 r0.x.length c00) ∧ W_.cell? ⟨w.heap.size, 1, none⟩ = some (.slice a01 r0.g.length c01) ∧ W_.cell? ⟨w.heap.size, 2, none⟩ = some (.slice a02 r0.ids.length c02) ∧ W_.cell? ⟨w.heap.size, 3, none⟩ = some (.int .i64 r0.lv) ∧ W_.cell? ⟨w.heap.size, 4, none⟩ = some (.int .i64 r0.l2)) ∧ (W_.cell? ⟨w.heap.size + 1, 0, none⟩ = some (.int .i64 f1) ∧ W_.cell? ⟨w.heap.size + 1, 1, none⟩ = some (.int .i64 b1))) (first | (have k_ := HS.out _ st.bel; with_reducible exact k_) | (have k_ := HS.out _ st.al.bel; with_reducible exact k_) | (have k_ := HS.out _ st.al0.bel; with_reducible exact k_) | (have k_ := HS.out _ st1.al.bel; with_reducible exact k_) | (have k_ := HS.out _ st1.al0.bel; with_reducible exact k_) | (have k_ := HS.out _ st.ofSet.bel; with_reducible exact k_) | (have k_ := HS.out _ st.ofNew.bel; with_reducible exact k_) | go_keep) (first
      | (go_at_call 25; refine (Sv.toRows _ _ _ _ _ _ _ r0 (by first | (have k_ := h0r.below (HHB.out.trans ((st.bel).mono HHB.out.size)); with_reducible exact k_) | (have k_ := h0r.below (HHB.out.trans ((st.al.bel).mono HHB.out.size)); with_reducible exact k_) | (have k_ := h0r.below (HHB.out.trans ((st.al0.bel).mono HHB.out.size)); with_reducible exact k_) | (have k_ := h0r.below (HHB.out.trans ((st1.al.bel).mono HHB.out.size)); with_reducible exact k_) | (have k_ := h0r.below (HHB.out.trans ((st1.al0.bel).mono HHB.out.size)); with_reducible exact k_)) qs).mono ?_; rintro e w_0 ⟨y0, y1, y2, rfl, oy, hb⟩; have HZ0 : Hid (type_of% hb) := hb; (first | (with_reducible replace st := st.step hb) | (with_reducible replace st := st.al.step hb) | (with_reducible replace st := st.al0.step hb) | (with_reducible replace st := st1.al.step hb) | (with_reducible replace st := st1.al0.step hb)); (first | (have kv := Sv.wr5 (st.oV _ rfl).1; obtain ⟨_, ⟨k0, k1, k2, k3, k4⟩, l0, l1, l2, l3, l4⟩ := kv) | skip); replace st := st.know (kp' := fun W => Sv.Rd W (some ⟨y0, 0, none⟩) (some ⟨y1, 0, none⟩) (some ⟨y2, 0, none⟩) r0) oy.rd' (fun A B h hb => h.below hb); clear oy; clear hb)
      | (go_at_call 26; refine (Tm.toSplit _ _ _).mono ?_; rintro e w_1 ⟨rfl, hb⟩; have HZ1 : Hid (type_of% hb) := hb; (first | (with_reducible replace st := st.step hb) | (with_reducible replace st := st.al.step hb) | (with_reducible replace st := st.al0.step hb) | (with_reducible replace st := st1.al.step hb) | (with_reducible replace st := st1.al0.step hb)); (first | (have kv := Sv.wr5 (st.oV _ rfl).1; obtain ⟨_, ⟨k0, k1, k2, k3, k4⟩, l0, l1, l2, l3, l4⟩ := kv) | skip); clear hb)
      | (go_at_call 13; refine (Sw7.iasked _ _ _ _ _ _ _ r0 f1 b1 (by first | (have k_ := st.kk.2; with_reducible exact k_) | (have k_ := st.al.kk.2; with_reducible exact k_) | (have k_ := st.al0.kk.2; with_reducible exact k_))).mono ?_; rintro e w_2 ⟨v0, v1, v2, rfl, oG_, hb⟩; rw [HV.out] at oG_; rw [HV.out]; obtain ⟨x0_, y0_, x1_, y1_, x2_, y2_, rfl, rfl, rfl, _⟩ := oG_.rd; (first | (with_reducible replace st := st.mkG oG_ hb) | (with_reducible replace st := st.al.mkG oG_ hb) | (with_reducible replace st := st.al0.mkG oG_ hb) | (with_reducible replace st := st1.al.mkG oG_ hb) | (with_reducible replace st := st1.al0.mkG oG_ hb)); (first | (have kv := Sv.wr5 (st.oV _ rfl).1; obtain ⟨_, ⟨k0, k1, k2, k3, k4⟩, l0, l1, l2, l3, l4⟩ := kv) | skip); clear hb))
    all_goals
      go_wp2_with fail
      go_meet
      case rel =>
        first
          | (have k_ := st.ofNew; with_reducible exact ⟨_, _, _, _, _, _, rfl, k_⟩)
          | (have k_ := st.ofSet; with_reducible exact ⟨_, _, _, _, _, _, rfl, k_⟩)
          | (have k_ := st1.ofNew; with_reducible exact ⟨_, _, _, _, _, _, rfl, k_⟩)
  revert wc
  intro w13 hcut
  obtain ⟨bH, loH, hiH, u0, u1, u2, rfl, hres⟩ := hcut
  obtain ⟨p0H, m0H, p1H, m1H, p2H, m2H, rfl, rfl, rfl, _⟩ := hres.ow.rd
  have hB := HHB.out
  have bxA := H_bxA.out
  have bsA := H_bsA.out
  have bxS := H_bxS.out
  have oS := H_oS.out
  have bxG := H_bxG.out
  have oG := H_oG.out
  clear HHB HS hS0 st st1 H_bxA H_bsA H_bxS H_oS H_bxG H_oG
  have hb := hres.bel
  have bxA := bxA.below hb
  have bsA := bsA.below hb
  have bxS := bxS.below hb
  have oS := oS.below hb
  have bxG := bxG.below hb
  have oG := oG.below hb
  have hB := hB.trans (hb.mono hB.size)
  have z13 := hb.size
  have bxH := hres.bx
  have oH := hres.ow
  have geH := hres.ge
  have nlH := hres.nl
  have hlH := hres.hl
  have blH := hres.bx.1
  clear hres hb
  obtain ⟨_, ⟨q0_bxH, q1_bxH, q2_bxH, q3_bxH, q4_bxH⟩, _⟩ := Sv.wr5 bxH
  obtain ⟨_, ⟨q0_bxS, q1_bxS, q2_bxS, q3_bxS, q4_bxS⟩, _⟩ := Sv.wr5 bxS
  go_wp2_with fail
  clear q0_bxH q1_bxH q2_bxH q3_bxH q4_bxH
  clear q0_bxS q1_bxS q2_bxS q3_bxS q4_bxS
  refine (Sv.eqRows _ _ _ _ _ _ _ _ _ _ _ _ _ q0 oH.rd' oS.rd' qq).mono ?_
  rintro e w14 ⟨rfl, hb⟩
  have bxA := bxA.below hb
  have bsA := bsA.below hb
  have bxS := bxS.below hb
  have oS := oS.below hb
  have bxG := bxG.below hb
  have oG := oG.below hb
  have bxH := bxH.below hb
  have oH := oH.below hb
  have hB := hB.trans (hb.mono hB.size)
  have z14 := hb.size
  clear hb
  obtain ⟨_, ⟨q0_bxG, q1_bxG, q2_bxG, q3_bxG, q4_bxG⟩, _⟩ := Sv.wr5 bxG
  go_wp2_with fail
  clear q0_bxG q1_bxG q2_bxG q3_bxG q4_bxG
  refine (Sv.heldRows _ _ _ _ _ 1 _ _ q0 oG qq (by omega) (by omega)).mono ?_
  rintro e w15 ⟨rfl, hb⟩
  rw [HM.out]
  have bxA := bxA.below hb
  have bsA := bsA.below hb
  have bxS := bxS.below hb
  have oS := oS.below hb
  have bxG := bxG.below hb
  have oG := oG.below hb
  have bxH := bxH.below hb
  have oH := oH.below hb
  have hB := hB.trans (hb.mono hB.size)
  have z15 := hb.size
  clear hb
  go_wp2
  go_ret
  exact ⟨rfl, hB⟩

/-! ### THE ROW's STEP -/
theorem lifted (os : Os) (started : os.Started) (H : Type) (enc : TypeId × Value → H) :
    ReturnsInHanded {} Try.checked os 5 .any (Rows.fnExactAskedSpec.pre6 enc Try.prog Try.f5 Rows.fnExactAskedRow.domain false) (Rows.fnExactAskedSpec.post enc Try.prog Try.f5 false true false false) := by
  refine returnsInHanded_of_change (C := Try.checked) own started (by kernel_rfl) Try.func5
    (ChangeSpec.witness6 (enc := enc) (C := Try.checked) false ⟨#[], #[.agg #[.slice none 0 0, .slice none 0 0, .slice none 0 0, .int .i64 0, .int .i64 0], .agg #[.int .i64 0, .int .i64 0]], []⟩ 8 (by kernel_rfl) (by kernel_rfl) (by kernel_rfl) (by kernel_rfl)) ?_
  intro W base args ds gs before hval0 hW hcnd _
  have hval : ∀ (j : Nat) t v, Try.f5.params[j]? = some t → args[j]? = some v → Value.okWide Try.prog W .any base t v := hval0
  have hW' := hW
  obtain ⟨p, q, hA0, hV, rfl, hfz, hnd⟩ := hW
  have hA : DataW.TrodAll enc Try.prog W 0 (fun _ => true) true Try.f5.params.toList args.toList ds p := hA0
  rw [Try.params5] at hA hval
  obtain ⟨v0, vs0, d0, ds0, p0, q0, hargs, rfl, rfl, h0, rest0⟩ := trodAll_cons hA
  obtain ⟨v1, vs1, d1, ds1, p1, q1, rfl, rfl, rfl, h1, rest1⟩ := trodAll_cons rest0
  obtain ⟨rfl, rfl, rfl⟩ := trodAll_nil rest1
  obtain rfl : args = #[v0, v1] := by cases args; simp_all
  obtain ⟨rfl, rfl⟩ := trodVars_none hV
  have k0 := h0
  have lt0 : ∀ x ∈ p0, x.block < W.heap.size := by obtain ⟨m, hm⟩ := k0; exact DataW.trod_lt m _ _ _ hm
  have k1 := h1
  have lt1 : ∀ x ∈ p1, x.block < W.heap.size := by obtain ⟨m, hm⟩ := k1; exact DataW.trod_lt m _ _ _ hm
  obtain ⟨r0, a00, a01, a02, c00, c01, c02, rfl, h0r, hf0⟩ := Op.rows_open (hval 0 53 v0 rfl rfl) h0
  obtain ⟨f1, b1, rfl⟩ := Op.split_open (hval 1 54 v1 rfl rfl) h1
  clear hA0 hval0
  refine (walk W r0 a00 a01 a02 c00 c01 c02 h0r hf0 f1 b1).mono fun e W' ⟨he, bel⟩ => ?_
  subst he
  exact ⟨_, rfl, _, _, _, [], _, [], hW', trodAll_mk1 (shut_bool Try.underlying4 _), (trodAll_cons_mk (Below.trod laidOut (by kernel_rfl) (of_decide_eq_true (by kernel_rfl)) k0 bel lt0) (trodAll_cons_mk (Below.trod laidOut (by kernel_rfl) (of_decide_eq_true (by kernel_rfl)) k1 bel lt1) trodAll_mk0)), rfl, bel.frame _, fun h => by cases h⟩

theorem over : Rows.fnExactAskedRow.holds Try.pinned (OpenSpec.ofChange Rows.fnExactAskedSpec) :=
  OpenClaim.holds_of_wide 5 Try.f5 rfl rfl rfl rfl rfl rfl rfl ⟨rfl, rfl, rfl, rfl, rfl⟩ rfl rfl rfl rfl rfl (by kernel_rfl) Try.func5 (by kernel_rfl)
    (of_decide_eq_true (by kernel_rfl)) (by unfold Func.isWrapper; first | (rw [if_pos (by decide +kernel)]; kernel_rfl) | (rw [if_neg (by decide +kernel)]; exact ⟨rfl, rfl⟩))
    (fun os started H enc _ => lifted os started H enc)

/-- THE STATEMENT -/
theorem proved : Rows.FnExactAskedSaid := over
#print axioms proved
end Go.Proofs.Ytbnjbmajfadmaaa.fnExactAsked
