/-
  Proved here: the Go function laws.FnExactRouted, called with any arguments that can be read, returns true, and each argument reads afterwards as it read before ('Rows.FnExactRoutedSaid', no condition beyond the row's own).
-/
import Derived.Test.YtbnjbmajfadmaaaRows
import Derived.WalkKit
import Derived.ProofKit
import Derived.OpenShut
import Derived.ShutString
import Derived.ChangeOld
import Derived.Below
import Derived.Test.YtbnjbmajfadmaaaOpnT
import Derived.Test.YtbnjbmajfadmaaaOpnR
import Derived.Test.YtbnjbmajfadmaaaSeV
import Derived.Test.YtbnjbmajfadmaaaRtS
import Derived.Test.YtbnjbmajfadmaaaRtJ
import Derived.Test.YtbnjbmajfadmaaaRtE
namespace Go.Proofs.Ytbnjbmajfadmaaa.fnExactRouted
open Go.ChangeShapes Go.WideShapes Go.ChangeAt Go.RowKit
set_option linter.unusedVariables false
set_option maxRecDepth 100000

theorem own : ownKnob Try.prog.godebug = none := by kernel_rfl
theorem laidOut : laidOutB Try.prog = true := by kernel_rfl


/-! ### THE WALK: the Go text returns true, and writes nothing that was there -/
set_option maxRecDepth 100000 in
set_option maxHeartbeats 4000000 in
theorem walk (w : World) (r0 : Se.R) (a00 a01 a02 : Option Addr) (c00 c01 c02 : Nat) (h0r : Sv.Rd w a00 a01 a02 r0) (hf0 : Sv.FitsR r0) (t1 : Tr.T) (a1 d1 : Option Addr) (c1 e1 : Nat) (hp1 : Tm.IsP w a1 t1.sp) (hx1 : Li.IsL w d1 t1.lv) (hm1 : t1.sp.length ≤ maxLen) (hn1 : t1.lv.length ≤ maxLen) :
    Calls Try.prog 8 #[.agg #[.slice a00 r0.x.length c00, .slice a01 r0.g.length c01, .slice a02 r0.ids.length c02, .int .i64 r0.lv, .int .i64 r0.l2], .agg #[.slice a1 t1.sp.length c1, .slice d1 t1.lv.length e1]] w fun e w' => e = .returned (.bool true) ∧ Below w.heap.size w w' := by
  have HF : Hid (Sv.FitsR r0) := hf0
  clear hf0
  unfold maxLen at hm1 hn1
  go_enter Try.func8, Try.ntmps8
  go_wp2_with fail
  obtain ⟨W, hW, hsz, hB, bxA, bsA⟩ := Sv.new2 w [.slice a00 r0.x.length c00, .slice a01 r0.g.length c01, .slice a02 r0.ids.length c02, .int .i64 r0.lv, .int .i64 r0.l2] [.slice a1 t1.sp.length c1, .slice d1 t1.lv.length e1] 53 76
  rw [hW]
  have hWz : w.heap.size < W.heap.size := by omega
  have hWy : w.heap.size + 1 < W.heap.size := by omega
  clear hW hsz
  refine (Sv.szRows _ _ _ _ _ _ _ r0 _ (h0r.below hB) HF.out (by omega) (by omega)).mono ?_
  rintro e w1 ⟨rfl, hb⟩
  have bxA := bxA.below hb
  have bsA := bsA.below hb
  have hB := hB.trans (hb.mono hB.size)
  have z1 := hb.size
  clear hb
  by_cases s0 : (Sv.szr r0 : Int) ≤ 1048576
  rotate_left
  · rw [Tb.sub_no s0]
    go_wp2
    go_ret
    exact ⟨rfl, hB⟩
  rw [Tb.sub_yes s0]
  obtain ⟨y0, hy0⟩ : ∃ t : Int, 1048576 - (Sv.szr r0 : Int) = t := ⟨_, rfl⟩
  rw [hy0]
  have y0a : 0 ≤ y0 := by omega
  have y0b : y0 ≤ 1048576 := by omega
  have qs : Sv.szr r0 ≤ 1048576 := by omega
  clear hy0
  obtain ⟨_, ⟨q0_bsA, q1_bsA⟩, _⟩ := Sv.wr2 bsA
  go_wp2_with fail
  clear q0_bsA q1_bsA
  refine (Tm.szTree _ _ _ _ _ _ _ y0 y0a y0b (by omega) (by omega)).mono ?_
  rintro e w2 ⟨rfl, hb⟩
  have bxA := bxA.below hb
  have bsA := bsA.below hb
  have hB := hB.trans (hb.mono hB.size)
  have z2 := hb.size
  clear hb
  by_cases s1 : ((t1.sp.length + t1.lv.length : Nat) : Int) ≤ y0
  rotate_left
  · rw [Tb.sub_no (by omega)]
    go_wp2
    go_ret
    exact ⟨rfl, hB⟩
  rw [Tb.sub_yes (by omega)]
  obtain ⟨y1, hy1⟩ : ∃ t : Int, y0 - ((t1.sp.length : Int) + (t1.lv.length : Int)) = t := ⟨_, rfl⟩
  have y1a : 0 ≤ y1 := by omega
  have qt : t1.sp.length + t1.lv.length ≤ 1048576 := by omega
  first | rw [hy1] | (simp only [Int.natCast_add] at hy1 ⊢; rw [hy1])
  clear hy1 s1
  obtain ⟨q0, hv0⟩ : ∃ v, Rt.routed r0 t1 = v := ⟨_, rfl⟩
  have HV : Hid (Rt.routed r0 t1 = q0) := hv0
  have qq : Sv.szr q0 ≤ 1048576 := by rw [← hv0]; exact Nat.le_trans (Rt.szr_routed r0 t1) qs
  clear hv0
  go_wp2_with fail
  have H_bxA : Hid (type_of% bxA) := bxA
  have H_bsA : Hid (type_of% bsA) := bsA
  have HHB : Hid (type_of% hB) := hB
  have HS : Hid (∀ W_ : World, Below w2.heap.size w2 W_ → (W_.cell? ⟨w.heap.size, 0, none⟩ = some (.slice a00 r0.x.length c00) ∧ W_.cell? ⟨w.heap.size, 1, none⟩ = some (.slice a01 r0.g.length c01) ∧ W_.cell? ⟨w.heap.size, 2, none⟩ = some (.slice a02 r0.ids.length c02) ∧ W_.cell? ⟨w.heap.size, 3, none⟩ = some (.int .i64 r0.lv) ∧ W_.cell? ⟨w.heap.size, 4, none⟩ = some (.int .i64 r0.l2)) ∧ (W_.cell? ⟨w.heap.size + 1, 0, none⟩ = some (.slice a1 t1.sp.length c1) ∧ W_.cell? ⟨w.heap.size + 1, 1, none⟩ = some (.slice d1 t1.lv.length e1))) := fun W_ hb => ⟨(Sv.wr5 (H_bxA.out.below hb)).2.1, (Sv.wr2 (H_bsA.out.below hb)).2.1⟩
  have st1 := Sv.Sq.init w2 q0
  have st := st1.drew
  have hS0 := HS.out w2 (Below.refl _ _)
  clear hB bxA bsA
  go_cut [6] from 24 (fun s_ wx => ∃ bo lo hi u0 u1 u2, s_ = .pointer (some ⟨bo, 0, none⟩) ∧ Sv.Res w2 wx bo lo hi u0 u1 u2 q0)
  case first =>
    obtain ⟨⟨c0_bxA, c1_bxA, c2_bxA, c3_bxA, c4_bxA⟩, ⟨c0_bsA, c1_bsA⟩⟩ := hS0
    go_region_held3 (fun W_ => (W_.cell? ⟨w.heap.size, 0, none⟩ = some (.slice a00 r0.x.length c00) ∧ W_.cell? ⟨w.heap.size, 1, none⟩ = some (.slice a01 r0.g.length c01) ∧ W_.cell? ⟨w.heap.size, 2, none⟩ = some (.slice a02 r0.ids.length c02) ∧ W_.cell? ⟨w.heap.size, 3, none⟩ = some (.int .i64 r0.lv) ∧ W_.cell? ⟨w.heap.size, 4, none⟩ = some (.int .i64 r0.l2)) ∧ (W_.cell? ⟨w.heap.size + 1, 0, none⟩ = some (.slice a1 t1.sp.length c1) ∧ W_.cell? ⟨w.heap.size + 1, 1, none⟩ = some (.slice d1 t1.lv.length e1))) (first | (have k_ := HS.out _ st.bel; with_reducible exact k_) | (have k_ := HS.out _ st.al.bel; with_reducible exact k_) | (have k_ := HS.out _ st.al0.bel; with_reducible exact k_) | (have k_ := HS.out _ st1.al.bel; with_reducible exact k_) | (have k_ := HS.out _ st1.al0.bel; with_reducible exact k_) | (have k_ := HS.out _ st.ofSet.bel; with_reducible exact k_) | (have k_ := HS.out _ st.ofNew.bel; with_reducible exact k_) | go_keep) (first
      | (go_at_call 25; refine (Sv.toRows _ _ _ _ _ _ _ r0 (by first | (have k_ := h0r.below (HHB.out.trans ((st.bel).mono HHB.out.size)); with_reducible exact k_) | (have k_ := h0r.below (HHB.out.trans ((st.al.bel).mono HHB.out.size)); with_reducible exact k_) | (have k_ := h0r.below (HHB.out.trans ((st.al0.bel).mono HHB.out.size)); with_reducible exact k_) | (have k_ := h0r.below (HHB.out.trans ((st1.al.bel).mono HHB.out.size)); with_reducible exact k_) | (have k_ := h0r.below (HHB.out.trans ((st1.al0.bel).mono HHB.out.size)); with_reducible exact k_)) qs).mono ?_; rintro e w_0 ⟨y0, y1, y2, rfl, oy, hb⟩; have HZ0 : Hid (type_of% hb) := hb; (first | (with_reducible replace st := st.step hb) | (with_reducible replace st := st.al.step hb) | (with_reducible replace st := st.al0.step hb) | (with_reducible replace st := st1.al.step hb) | (with_reducible replace st := st1.al0.step hb)); (first | (have kv := Sv.wr5 (st.oV _ rfl).1; obtain ⟨_, ⟨k0, k1, k2, k3, k4⟩, l0, l1, l2, l3, l4⟩ := kv) | skip); replace st := st.know (kp' := fun W => Sv.Rd W (some ⟨y0, 0, none⟩) (some ⟨y1, 0, none⟩) (some ⟨y2, 0, none⟩) r0) oy.rd' (fun A B h hb => h.below hb); clear oy; clear hb)
      | (go_at_call 43; refine (Tm.toTree _ _ _ _ _ t1 (by first | (have k_ := hp1.below (HHB.out.trans ((st.bel).mono HHB.out.size)); with_reducible exact k_) | (have k_ := hp1.below (HHB.out.trans ((st.al.bel).mono HHB.out.size)); with_reducible exact k_) | (have k_ := hp1.below (HHB.out.trans ((st.al0.bel).mono HHB.out.size)); with_reducible exact k_) | (have k_ := hp1.below (HHB.out.trans ((st1.al.bel).mono HHB.out.size)); with_reducible exact k_) | (have k_ := hp1.below (HHB.out.trans ((st1.al0.bel).mono HHB.out.size)); with_reducible exact k_)) (by first | (have k_ := hx1.below (HHB.out.trans ((st.bel).mono HHB.out.size)); with_reducible exact k_) | (have k_ := hx1.below (HHB.out.trans ((st.al.bel).mono HHB.out.size)); with_reducible exact k_) | (have k_ := hx1.below (HHB.out.trans ((st.al0.bel).mono HHB.out.size)); with_reducible exact k_) | (have k_ := hx1.below (HHB.out.trans ((st1.al.bel).mono HHB.out.size)); with_reducible exact k_) | (have k_ := hx1.below (HHB.out.trans ((st1.al0.bel).mono HHB.out.size)); with_reducible exact k_)) qt).mono ?_; rintro e w_1 ⟨g0, g1, rfl, og0, og1, _, hb⟩; have HZ1 : Hid (type_of% hb) := hb; (first | (with_reducible replace st := st.step hb) | (with_reducible replace st := st.al.step hb) | (with_reducible replace st := st.al0.step hb) | (with_reducible replace st := st1.al.step hb) | (with_reducible replace st := st1.al0.step hb)); (first | (have kv := Sv.wr5 (st.oV _ rfl).1; obtain ⟨_, ⟨k0, k1, k2, k3, k4⟩, l0, l1, l2, l3, l4⟩ := kv) | skip); replace st := st.know (kp' := fun W => Tm.IsP W (some ⟨g0, 0, none⟩) t1.sp ∧ Li.IsL W (some ⟨g1, 0, none⟩) t1.lv) ⟨Rt.isp_of og0, Rt.isl_of og1⟩ (fun A B h hb => ⟨h.1.below hb, h.2.below hb⟩); clear og0 og1; clear hb)
      | (go_at_call 19; refine (Rt.srouted _ _ _ _ _ _ _ _ _ _ _ r0 t1 (by first | (have k_ := st.kk.1.2; with_reducible exact k_) | (have k_ := st.al.kk.1.2; with_reducible exact k_) | (have k_ := st.al0.kk.1.2; with_reducible exact k_)) (by first | (have k_ := st.kk.2.1; with_reducible exact k_) | (have k_ := st.al.kk.2.1; with_reducible exact k_) | (have k_ := st.al0.kk.2.1; with_reducible exact k_)) (by first | (have k_ := st.kk.2.2; with_reducible exact k_) | (have k_ := st.al.kk.2.2; with_reducible exact k_) | (have k_ := st.al0.kk.2.2; with_reducible exact k_)) qt).mono ?_; rintro e w_2 ⟨v0, v1, v2, rfl, oG_, hb⟩; rw [HV.out] at oG_; rw [HV.out]; obtain ⟨x0_, y0_, x1_, y1_, x2_, y2_, rfl, rfl, rfl, _⟩ := oG_.rd; (first | (with_reducible replace st := st.mkG oG_ hb) | (with_reducible replace st := st.al.mkG oG_ hb) | (with_reducible replace st := st.al0.mkG oG_ hb) | (with_reducible replace st := st1.al.mkG oG_ hb) | (with_reducible replace st := st1.al0.mkG oG_ hb)); (first | (have kv := Sv.wr5 (st.oV _ rfl).1; obtain ⟨_, ⟨k0, k1, k2, k3, k4⟩, l0, l1, l2, l3, l4⟩ := kv) | skip); clear hb))
    all_goals
      go_wp2_with fail
      go_meet
      case rel =>
        first
          | (have k_ := st.ofNew; with_reducible exact ⟨_, _, _, _, _, _, rfl, k_⟩)
          | (have k_ := st.ofSet; with_reducible exact ⟨_, _, _, _, _, _, rfl, k_⟩)
          | (have k_ := st1.ofNew; with_reducible exact ⟨_, _, _, _, _, _, rfl, k_⟩)
  revert wc
  intro w3 hcut
  obtain ⟨bS, loS, hiS, u0, u1, u2, rfl, hres⟩ := hcut
  obtain ⟨p0S, m0S, p1S, m1S, p2S, m2S, rfl, rfl, rfl, _⟩ := hres.ow.rd
  have hB := HHB.out
  have bxA := H_bxA.out
  have bsA := H_bsA.out
  clear HHB HS hS0 st st1 H_bxA H_bsA
  have hb := hres.bel
  have bxA := bxA.below hb
  have bsA := bsA.below hb
  have hB := hB.trans (hb.mono hB.size)
  have z3 := hb.size
  have bxS := hres.bx
  have oS := hres.ow
  have geS := hres.ge
  have nlS := hres.nl
  have hlS := hres.hl
  have blS := hres.bx.1
  clear hres hb
  obtain ⟨_, ⟨q0_bxA, q1_bxA, q2_bxA, q3_bxA, q4_bxA⟩, _⟩ := Sv.wr5 bxA
  go_wp2_with fail
  clear q0_bxA q1_bxA q2_bxA q3_bxA q4_bxA
  refine (Sv.toRows _ _ _ _ _ _ _ r0 (h0r.below hB) qs).mono ?_
  rintro e w4 ⟨x0, x1, x2, rfl, ox, hb⟩
  have bxA := bxA.below hb
  have bsA := bsA.below hb
  have bxS := bxS.below hb
  have oS := oS.below hb
  have hB := hB.trans (hb.mono hB.size)
  have z4 := hb.size
  clear hb
  obtain ⟨_, ⟨q0_bsA, q1_bsA⟩, _⟩ := Sv.wr2 bsA
  go_wp2_with fail
  obtain ⟨WX, hW, hsz, hb, bxX⟩ := Sv.new1 w4 [.slice (some ⟨x0, 0, none⟩) r0.x.length r0.x.length, .slice (some ⟨x1, 0, none⟩) r0.g.length r0.g.length, .slice (some ⟨x2, 0, none⟩) r0.ids.length r0.ids.length, .int .i64 r0.lv, .int .i64 r0.l2] 27
  rw [hW]
  clear q0_bsA q1_bsA
  have bxA := bxA.below hb
  have bsA := bsA.below hb
  have bxS := bxS.below hb
  have oS := oS.below hb
  have ox := ox.below hb
  have hB := hB.trans (hb.mono hB.size)
  have z5 := hb.size
  clear hb hW hsz
  refine (Tm.toTree _ _ _ _ _ t1 (hp1.below hB) (hx1.below hB) qt).mono ?_
  rintro e w6 ⟨g0, g1, rfl, ot0, ot1, apT, hb⟩
  have bxA := bxA.below hb
  have bsA := bsA.below hb
  have bxS := bxS.below hb
  have oS := oS.below hb
  have ox := ox.below hb
  have bxX := bxX.below hb
  have hB := hB.trans (hb.mono hB.size)
  have z6 := hb.size
  clear hb
  have gt0 := ot0.ge g0 rfl
  have gt1 := ot1.ge g1 rfl
  obtain ⟨_, ⟨q0_bxX, q1_bxX, q2_bxX, q3_bxX, q4_bxX⟩, _⟩ := Sv.wr5 bxX
  go_wp2_with fail
  obtain ⟨WT, hW, hsz, hb, bxT⟩ := Sv.new1 w6 [.slice (some ⟨g0, 0, none⟩) t1.sp.length t1.sp.length, .slice (some ⟨g1, 0, none⟩) t1.lv.length t1.lv.length] 42
  rw [hW]
  clear q0_bxX q1_bxX q2_bxX q3_bxX q4_bxX
  have bxA := bxA.below hb
  have bsA := bsA.below hb
  have bxS := bxS.below hb
  have oS := oS.below hb
  have ox := ox.below hb
  have bxX := bxX.below hb
  have ot0 := ot0.below hb
  have ot1 := ot1.below hb
  have hB := hB.trans (hb.mono hB.size)
  have z7 := hb.size
  clear hb hW hsz
  refine (Rt.irouted _ _ _ _ _ _ _ _ _ _ _ r0 t1 ox.rd' (Rt.isp_of ot0) (Rt.isl_of ot1) qt).mono ?_
  rintro e w8 ⟨u0, u1, u2, rfl, oG, hb⟩
  rw [HV.out] at oG
  rw [HV.out]
  obtain ⟨p0G, m0G, p1G, m1G, p2G, m2G, rfl, rfl, rfl, _⟩ := oG.rd
  have bxA := bxA.below hb
  have bsA := bsA.below hb
  have bxS := bxS.below hb
  have oS := oS.below hb
  have ox := ox.below hb
  have bxX := bxX.below hb
  have ot0 := ot0.below hb
  have ot1 := ot1.below hb
  have bxT := bxT.below hb
  have hB := hB.trans (hb.mono hB.size)
  have z8 := hb.size
  clear hb
  obtain ⟨_, ⟨q0_bxS, q1_bxS, q2_bxS, q3_bxS, q4_bxS⟩, _⟩ := Sv.wr5 bxS
  go_wp2_with fail
  obtain ⟨WG, hW, hsz, hb, bxG⟩ := Sv.new1 w8 [.slice p0G q0.x.length m0G, .slice p1G q0.g.length m1G, .slice p2G q0.ids.length m2G, .int .i64 q0.lv, .int .i64 q0.l2] 27
  rw [hW]
  clear q0_bxS q1_bxS q2_bxS q3_bxS q4_bxS
  have bxA := bxA.below hb
  have bsA := bsA.below hb
  have bxS := bxS.below hb
  have oS := oS.below hb
  have ox := ox.below hb
  have bxX := bxX.below hb
  have ot0 := ot0.below hb
  have ot1 := ot1.below hb
  have bxT := bxT.below hb
  have oG := oG.below hb
  have hB := hB.trans (hb.mono hB.size)
  have z9 := hb.size
  clear hb hW hsz
  refine (Sv.eqRows _ _ _ _ _ _ _ _ _ _ _ _ _ q0 oG.rd' oS.rd' qq).mono ?_
  rintro e w10 ⟨rfl, hb⟩
  have bxA := bxA.below hb
  have bsA := bsA.below hb
  have bxS := bxS.below hb
  have oS := oS.below hb
  have ox := ox.below hb
  have bxX := bxX.below hb
  have ot0 := ot0.below hb
  have ot1 := ot1.below hb
  have bxT := bxT.below hb
  have oG := oG.below hb
  have bxG := bxG.below hb
  have hB := hB.trans (hb.mono hB.size)
  have z10 := hb.size
  clear hb
  obtain ⟨_, ⟨q0_bxX, q1_bxX, q2_bxX, q3_bxX, q4_bxX⟩, _⟩ := Sv.wr5 bxX
  obtain ⟨_, ⟨q0_bxA, q1_bxA, q2_bxA, q3_bxA, q4_bxA⟩, _⟩ := Sv.wr5 bxA
  go_wp2_with fail
  have H_bxA : Hid (type_of% bxA) := bxA
  have H_bsA : Hid (type_of% bsA) := bsA
  have H_bxS : Hid (type_of% bxS) := bxS
  have H_oS : Hid (type_of% oS) := oS
  have H_ox : Hid (type_of% ox) := ox
  have H_bxX : Hid (type_of% bxX) := bxX
  have H_ot0 : Hid (type_of% ot0) := ot0
  have H_ot1 : Hid (type_of% ot1) := ot1
  have H_bxT : Hid (type_of% bxT) := bxT
  have H_oG : Hid (type_of% oG) := oG
  have H_bxG : Hid (type_of% bxG) := bxG
  have HHB : Hid (type_of% hB) := hB
  clear hB bxA bsA bxS oS ox bxX ot0 ot1 bxT oG bxG
  go_region_held3 (fun w' => w'.cell? ⟨w4.heap.size, 0, none⟩ = some (.slice (some ⟨x0, 0, none⟩) r0.x.length r0.x.length) ∧ w'.cell? ⟨w4.heap.size, 1, none⟩ = some (.slice (some ⟨x1, 0, none⟩) r0.g.length r0.g.length) ∧ w'.cell? ⟨w4.heap.size, 2, none⟩ = some (.slice (some ⟨x2, 0, none⟩) r0.ids.length r0.ids.length) ∧ w'.cell? ⟨w4.heap.size, 3, none⟩ = some (.int .i64 r0.lv) ∧ w'.cell? ⟨w4.heap.size, 4, none⟩ = some (.int .i64 r0.l2) ∧ w'.cell? ⟨w.heap.size, 0, none⟩ = some (.slice a00 r0.x.length c00) ∧ w'.cell? ⟨w.heap.size, 1, none⟩ = some (.slice a01 r0.g.length c01) ∧ w'.cell? ⟨w.heap.size, 2, none⟩ = some (.slice a02 r0.ids.length c02) ∧ w'.cell? ⟨w.heap.size, 3, none⟩ = some (.int .i64 r0.lv) ∧ w'.cell? ⟨w.heap.size, 4, none⟩ = some (.int .i64 r0.l2)) (go_keep) (first
    | (go_at_call 25; refine (Sv.toRows w10.drew _ _ _ _ _ _ r0 (h0r.below (HHB.out.trans ((Tm.below_drew _).mono HHB.out.size))) qs).mono ?_; rintro e wa ⟨y0, y1, y2, rfl, oy, hb⟩; have HYA : Hid (Below w10.heap.size w10 wa) := (Tm.below_drew _).trans hb; have HOY := oy.rd'; clear oy; obtain ⟨_, ⟨ra0_bxX, ra1_bxX, ra2_bxX, ra3_bxX, ra4_bxX⟩, _⟩ := Sv.wr5 (H_bxX.out.below (HYA.out)); obtain ⟨_, ⟨ra0_bxA, ra1_bxA, ra2_bxA, ra3_bxA, ra4_bxA⟩, _⟩ := Sv.wr5 (H_bxA.out.below (HYA.out)); clear hb)
    | (go_at_call 27; refine (Sv.eqRows _ _ _ _ _ _ _ _ _ _ _ _ _ r0 (H_ox.out.rd'.below HYA.out) HOY qs).mono ?_; rintro e wb ⟨rfl, hb⟩; have HYB : Hid (Below wa.heap.size wa wb) := hb; obtain ⟨_, ⟨rb0_bxX, rb1_bxX, rb2_bxX, rb3_bxX, rb4_bxX⟩, _⟩ := Sv.wr5 (H_bxX.out.below (HYA.out.trans (HYB.out.mono HYA.out.size))); obtain ⟨_, ⟨rb0_bxA, rb1_bxA, rb2_bxA, rb3_bxA, rb4_bxA⟩, _⟩ := Sv.wr5 (H_bxA.out.below (HYA.out.trans (HYB.out.mono HYA.out.size))); clear hb))
  have hB := HHB.out
  have bxA := H_bxA.out
  have bsA := H_bsA.out
  have bxS := H_bxS.out
  have oS := H_oS.out
  have ox := H_ox.out
  have bxX := H_bxX.out
  have ot0 := H_ot0.out
  have ot1 := H_ot1.out
  have bxT := H_bxT.out
  have oG := H_oG.out
  have bxG := H_bxG.out
  clear HHB H_bxA H_bsA H_bxS H_oS H_ox H_bxX H_ot0 H_ot1 H_bxT H_oG H_bxG
  have hb := HYA.out
  have bxA := bxA.below hb
  have bsA := bsA.below hb
  have bxS := bxS.below hb
  have oS := oS.below hb
  have ox := ox.below hb
  have bxX := bxX.below hb
  have ot0 := ot0.below hb
  have ot1 := ot1.below hb
  have bxT := bxT.below hb
  have oG := oG.below hb
  have bxG := bxG.below hb
  have hB := hB.trans (hb.mono hB.size)
  have z11 := hb.size
  have hb := HYB.out
  have bxA := bxA.below hb
  have bsA := bsA.below hb
  have bxS := bxS.below hb
  have oS := oS.below hb
  have ox := ox.below hb
  have bxX := bxX.below hb
  have ot0 := ot0.below hb
  have ot1 := ot1.below hb
  have bxT := bxT.below hb
  have oG := oG.below hb
  have bxG := bxG.below hb
  have hB := hB.trans (hb.mono hB.size)
  have z12 := hb.size
  clear hb HYA HYB rb0_bxX rb1_bxX rb2_bxX rb3_bxX rb4_bxX rb0_bxA rb1_bxA rb2_bxA rb3_bxA rb4_bxA HOY
  try clear q0_bxX q1_bxX q2_bxX q3_bxX q4_bxX q0_bxA q1_bxA q2_bxA q3_bxA q4_bxA
  obtain ⟨_, ⟨q0_bxT, q1_bxT⟩, _⟩ := Sv.wr2 bxT
  obtain ⟨_, ⟨q0_bsA, q1_bsA⟩, _⟩ := Sv.wr2 bsA
  go_wp2_with fail
  have H_bxA : Hid (type_of% bxA) := bxA
  have H_bsA : Hid (type_of% bsA) := bsA
  have H_bxS : Hid (type_of% bxS) := bxS
  have H_oS : Hid (type_of% oS) := oS
  have H_ox : Hid (type_of% ox) := ox
  have H_bxX : Hid (type_of% bxX) := bxX
  have H_ot0 : Hid (type_of% ot0) := ot0
  have H_ot1 : Hid (type_of% ot1) := ot1
  have H_bxT : Hid (type_of% bxT) := bxT
  have H_oG : Hid (type_of% oG) := oG
  have H_bxG : Hid (type_of% bxG) := bxG
  have HHB : Hid (type_of% hB) := hB
  clear hB bxA bsA bxS oS ox bxX ot0 ot1 bxT oG bxG
  go_region_held3 (fun w' => w'.cell? ⟨w6.heap.size, 0, none⟩ = some (.slice (some ⟨g0, 0, none⟩) t1.sp.length t1.sp.length) ∧ w'.cell? ⟨w6.heap.size, 1, none⟩ = some (.slice (some ⟨g1, 0, none⟩) t1.lv.length t1.lv.length) ∧ w'.cell? ⟨w.heap.size + 1, 0, none⟩ = some (.slice a1 t1.sp.length c1) ∧ w'.cell? ⟨w.heap.size + 1, 1, none⟩ = some (.slice d1 t1.lv.length e1)) (go_keep) (first
    | (go_at_call 43; refine (Tm.toTree wb.drew _ _ _ _ t1 (hp1.below (HHB.out.trans ((Tm.below_drew _).mono HHB.out.size))) (hx1.below (HHB.out.trans ((Tm.below_drew _).mono HHB.out.size))) qt).mono ?_; rintro e wc_ ⟨k0, k1, rfl, oy0, oy1, _, hb⟩; have HYA : Hid (Below wb.heap.size wb wc_) := (Tm.below_drew _).trans hb; have HOP := Rt.isp_of oy0; have HOL := Rt.isl_of oy1; clear oy0 oy1; obtain ⟨_, ⟨ra0_bxT, ra1_bxT⟩, _⟩ := Sv.wr2 (H_bxT.out.below (HYA.out)); obtain ⟨_, ⟨ra0_bsA, ra1_bsA⟩, _⟩ := Sv.wr2 (H_bsA.out.below (HYA.out)); clear hb)
    | (go_at_call 44; refine (Tm.eqTree _ _ _ _ _ _ _ _ _ t1 t1 ((Rt.isp_of H_ot0.out).below HYA.out) ((Rt.isl_of H_ot1.out).below HYA.out) HOP HOL qt qt).mono ?_; rintro e wd_ ⟨rfl, hb⟩; rw [Rt.eq_self t1]; have HYB : Hid (Below wc_.heap.size wc_ wd_) := hb; obtain ⟨_, ⟨rb0_bxT, rb1_bxT⟩, _⟩ := Sv.wr2 (H_bxT.out.below (HYA.out.trans (HYB.out.mono HYA.out.size))); obtain ⟨_, ⟨rb0_bsA, rb1_bsA⟩, _⟩ := Sv.wr2 (H_bsA.out.below (HYA.out.trans (HYB.out.mono HYA.out.size))); clear hb))
  have hB := HHB.out
  have bxA := H_bxA.out
  have bsA := H_bsA.out
  have bxS := H_bxS.out
  have oS := H_oS.out
  have ox := H_ox.out
  have bxX := H_bxX.out
  have ot0 := H_ot0.out
  have ot1 := H_ot1.out
  have bxT := H_bxT.out
  have oG := H_oG.out
  have bxG := H_bxG.out
  clear HHB H_bxA H_bsA H_bxS H_oS H_ox H_bxX H_ot0 H_ot1 H_bxT H_oG H_bxG
  have hb := HYA.out
  have bxA := bxA.below hb
  have bsA := bsA.below hb
  have bxS := bxS.below hb
  have oS := oS.below hb
  have ox := ox.below hb
  have bxX := bxX.below hb
  have ot0 := ot0.below hb
  have ot1 := ot1.below hb
  have bxT := bxT.below hb
  have oG := oG.below hb
  have bxG := bxG.below hb
  have hB := hB.trans (hb.mono hB.size)
  have z13 := hb.size
  have hb := HYB.out
  have bxA := bxA.below hb
  have bsA := bsA.below hb
  have bxS := bxS.below hb
  have oS := oS.below hb
  have ox := ox.below hb
  have bxX := bxX.below hb
  have ot0 := ot0.below hb
  have ot1 := ot1.below hb
  have bxT := bxT.below hb
  have oG := oG.below hb
  have bxG := bxG.below hb
  have hB := hB.trans (hb.mono hB.size)
  have z14 := hb.size
  clear hb HYA HYB HOP HOL rb0_bxT rb1_bxT rb0_bsA rb1_bsA
  try clear q0_bxT q1_bxT q0_bsA q1_bsA
  obtain ⟨_, ⟨q0_bxX, q1_bxX, q2_bxX, q3_bxX, q4_bxX⟩, _⟩ := Sv.wr5 bxX
  go_wp2_with fail
  clear q0_bxX q1_bxX q2_bxX q3_bxX q4_bxX
  refine (Sv.markRows _ _ _ _ _ _ _ _ r0 ox (fun q hq => by omega) qs (by omega) (by omega)).mono ?_
  rintro e w15 ⟨rfl, _, hf⟩
  have hsr : r0.x.length + Sv.tot r0.x + r0.g.length + r0.ids.length ≤ 1048576 := qs
  have bxA := bxA.fr hf (fun e => by omega)
  have bsA := bsA.fr hf (fun e => by omega)
  have bxS := bxS.fr hf (fun e => by omega)
  have oS := oS.fr hf (fun k hk e => by omega)
  have ot0 := Rt.ownP_fr ot0 hf (fun k hk e => by have := ot0.ge k hk; omega)
  have ot1 := Rt.ownI_fr ot1 hf (fun k hk e => by have := ot1.ge k hk; omega)
  have bxT := bxT.fr hf (fun e => by omega)
  have oG := oG.fr hf (fun k hk e => by omega)
  have bxG := bxG.fr hf (fun e => by omega)
  have hB := hB.trans (hf.bel (fun k hk => by omega) hB.size)
  have zf15 := hf.size
  clear hf ox bxX
  obtain ⟨K, hK⟩ : ∃ K : Int, 1 + (Sv.tot r0.x : Int) + r0.g.length + r0.ids.length = K := ⟨_, rfl⟩
  rw [hK]
  have hK0 : 0 ≤ K := by omega
  have hK1 : K ≤ 2000000 := by omega
  clear hK hsr
  obtain ⟨_, ⟨q0_bxT, q1_bxT⟩, _⟩ := Sv.wr2 bxT
  go_wp2_with fail
  clear q0_bxT q1_bxT
  have gt0 := ot0.ge g0 rfl
  have gt1 := ot1.ge g1 rfl
  refine (Tm.markTree _ _ _ _ _ _ _ _ _ K t1.sp t1.lv rfl rfl ot0 ot1 apT (by omega) (by omega) (by omega) (by omega)).mono ?_
  rintro e w16 ⟨rfl, _, _, hf2⟩
  have hf := Rt.fr_two hf2
  have bxA := bxA.fr hf (fun e => by omega)
  have bsA := bsA.fr hf (fun e => by omega)
  have bxS := bxS.fr hf (fun e => by omega)
  have oS := oS.fr hf (fun k hk e => by omega)
  have oG := oG.fr hf (fun k hk e => by omega)
  have bxG := bxG.fr hf (fun e => by omega)
  have hB := hB.trans (hf.bel (fun k hk => by omega) hB.size)
  have zf16 := hf.size
  clear hf hf2 ot0 ot1 bxT
  obtain ⟨K2, hK⟩ : ∃ K2 : Int, K + 2 * (t1.sp.length : Int) + (t1.lv.length : Int) = K2 := ⟨_, rfl⟩
  rw [hK]
  have hK2 : 0 ≤ K2 := by omega
  clear hK
  obtain ⟨_, ⟨q0_bxG, q1_bxG, q2_bxG, q3_bxG, q4_bxG⟩, _⟩ := Sv.wr5 bxG
  obtain ⟨_, ⟨q0_bxS, q1_bxS, q2_bxS, q3_bxS, q4_bxS⟩, _⟩ := Sv.wr5 bxS
  go_wp2_with fail
  clear q0_bxG q1_bxG q2_bxG q3_bxG q4_bxG
  clear q0_bxS q1_bxS q2_bxS q3_bxS q4_bxS
  refine (Sv.eqRows _ _ _ _ _ _ _ _ _ _ _ _ _ q0 oG.rd' oS.rd' qq).mono ?_
  rintro e w17 ⟨rfl, hb⟩
  have bxA := bxA.below hb
  have bsA := bsA.below hb
  have bxS := bxS.below hb
  have oS := oS.below hb
  have oG := oG.below hb
  have bxG := bxG.below hb
  have hB := hB.trans (hb.mono hB.size)
  have z17 := hb.size
  clear hb
  obtain ⟨_, ⟨q0_bxG, q1_bxG, q2_bxG, q3_bxG, q4_bxG⟩, _⟩ := Sv.wr5 bxG
  go_wp2_with fail
  clear q0_bxG q1_bxG q2_bxG q3_bxG q4_bxG
  have hsq : q0.x.length + Sv.tot q0.x + q0.g.length + q0.ids.length ≤ 1048576 := qq
  refine (Sv.markRows _ _ _ _ _ _ _ _ q0 oG (fun q hq => by omega) qq (by omega) (by omega)).mono ?_
  rintro e w18 ⟨rfl, oG, hf⟩
  have bxA := bxA.fr hf (fun e => by omega)
  have bsA := bsA.fr hf (fun e => by omega)
  have bxS := bxS.fr hf (fun e => by omega)
  have oS := oS.fr hf (fun k hk e => by omega)
  have bxG := bxG.fr hf (fun e => by omega)
  have hB := hB.trans (hf.bel (fun k hk => by omega) hB.size)
  have zf18 := hf.size
  clear hf
  obtain ⟨M, hM⟩ : ∃ M : Int, 1 + (Sv.tot q0.x : Int) + q0.g.length + q0.ids.length = M := ⟨_, rfl⟩
  have hM0 : ¬ M < 0 := by omega
  have hMM : (M != M) = false := by simp
  have HM : Hid (1 + (Sv.tot q0.x : Int) + q0.g.length + q0.ids.length = M) := hM
  rw [hM]
  clear hM hsq
  obtain ⟨_, ⟨q0_bxG, q1_bxG, q2_bxG, q3_bxG, q4_bxG⟩, _⟩ := Sv.wr5 bxG
  go_wp2_with fail
  clear q0_bxG q1_bxG q2_bxG q3_bxG q4_bxG
  refine (Sv.heldRows _ _ _ _ _ 1 _ _ q0 oG qq (by omega) (by omega)).mono ?_
  rintro e w19 ⟨rfl, hb⟩
  rw [HM.out]
  have bxA := bxA.below hb
  have bsA := bsA.below hb
  have bxS := bxS.below hb
  have oS := oS.below hb
  have bxG := bxG.below hb
  have oG := oG.below hb
  have hB := hB.trans (hb.mono hB.size)
  have z19 := hb.size
  clear hb
  go_wp2_with fail
  have H_bxA : Hid (type_of% bxA) := bxA
  have H_bsA : Hid (type_of% bsA) := bsA
  have H_bxS : Hid (type_of% bxS) := bxS
  have H_oS : Hid (type_of% oS) := oS
  have H_bxG : Hid (type_of% bxG) := bxG
  have H_oG : Hid (type_of% oG) := oG
  have HHB : Hid (type_of% hB) := hB
  have HS : Hid (∀ W_ : World, Below w19.heap.size w19 W_ → (W_.cell? ⟨w.heap.size, 0, none⟩ = some (.slice a00 r0.x.length c00) ∧ W_.cell? ⟨w.heap.size, 1, none⟩ = some (.slice a01 r0.g.length c01) ∧ W_.cell? ⟨w.heap.size, 2, none⟩ = some (.slice a02 r0.ids.length c02) ∧ W_.cell? ⟨w.heap.size, 3, none⟩ = some (.int .i64 r0.lv) ∧ W_.cell? ⟨w.heap.size, 4, none⟩ = some (.int .i64 r0.l2)) ∧ (W_.cell? ⟨w.heap.size + 1, 0, none⟩ = some (.slice a1 t1.sp.length c1) ∧ W_.cell? ⟨w.heap.size + 1, 1, none⟩ = some (.slice d1 t1.lv.length e1))) := fun W_ hb => ⟨(Sv.wr5 (H_bxA.out.below hb)).2.1, (Sv.wr2 (H_bsA.out.below hb)).2.1⟩
  have st1 := Sv.Sq.init w19 q0
  have st := st1.drew
  have hS0 := HS.out w19 (Below.refl _ _)
  clear hB bxA bsA bxS oS bxG oG
  go_cut [13] from 75 (fun s_ wx => ∃ bo lo hi u0 u1 u2, s_ = .pointer (some ⟨bo, 0, none⟩) ∧ Sv.Res w19 wx bo lo hi u0 u1 u2 q0)
  case first =>
    obtain ⟨⟨c0_bxA, c1_bxA, c2_bxA, c3_bxA, c4_bxA⟩, ⟨c0_bsA, c1_bsA⟩⟩ := hS0
    go_region_held3 (fun W_ => (W_.cell? ⟨w.heap.size, 0, none⟩ = some (.slice a00 r0.x.length c00) ∧ W_.cell? ⟨w.heap.size, 1, none⟩ = some (.slice a01 r0.g.length c01) ∧ W_.cell? ⟨w.heap.size, 2, none⟩ = some (.slice a02 r0.ids.length c02) ∧ W_.cell? ⟨w.heap.size, 3, none⟩ = some (.int .i64 r0.lv) ∧ W_.cell? ⟨w.heap.size, 4, none⟩ = some (.int .i64 r0.l2)) ∧ (W_.cell? ⟨w.heap.size + 1, 0, none⟩ = some (.slice a1 t1.sp.length c1) ∧ W_.cell? ⟨w.heap.size + 1, 1, none⟩ = some (.slice d1 t1.lv.length e1))) (first | (have k_ := HS.out _ st.bel; with_reducible exact k_) | (have k_ := HS.out _ st.al.bel; with_reducible exact k_) | (have k_ := HS.out _ st.al0.bel; with_reducible exact k_) | (have k_ := HS.out _ st1.al.bel; with_reducible exact k_) | (have k_ := HS.out _ st1.al0.bel; with_reducible exact k_) | (have k_ := HS.out _ st.ofSet.bel; with_reducible exact k_) | (have k_ := HS.out _ st.ofNew.bel; with_reducible exact k_) | go_keep) (first
      | (go_at_call 25; refine (Sv.toRows _ _ _ _ _ _ _ r0 (by first | (have k_ := h0r.below (HHB.out.trans ((st.bel).mono HHB.out.size)); with_reducible exact k_) | (have k_ := h0r.below (HHB.out.trans ((st.al.bel).mono HHB.out.size)); with_reducible exact k_) | (have k_ := h0r.below (HHB.out.trans ((st.al0.bel).mono HHB.out.size)); with_reducible exact k_) | (have k_ := h0r.below (HHB.out.trans ((st1.al.bel).mono HHB.out.size)); with_reducible exact k_) | (have k_ := h0r.below (HHB.out.trans ((st1.al0.bel).mono HHB.out.size)); with_reducible exact k_)) qs).mono ?_; rintro e w_0 ⟨y0, y1, y2, rfl, oy, hb⟩; have HZ0 : Hid (type_of% hb) := hb; (first | (with_reducible replace st := st.step hb) | (with_reducible replace st := st.al.step hb) | (with_reducible replace st := st.al0.step hb) | (with_reducible replace st := st1.al.step hb) | (with_reducible replace st := st1.al0.step hb)); (first | (have kv := Sv.wr5 (st.oV _ rfl).1; obtain ⟨_, ⟨k0, k1, k2, k3, k4⟩, l0, l1, l2, l3, l4⟩ := kv) | skip); replace st := st.know (kp' := fun W => Sv.Rd W (some ⟨y0, 0, none⟩) (some ⟨y1, 0, none⟩) (some ⟨y2, 0, none⟩) r0) oy.rd' (fun A B h hb => h.below hb); clear oy; clear hb)
      | (go_at_call 43; refine (Tm.toTree _ _ _ _ _ t1 (by first | (have k_ := hp1.below (HHB.out.trans ((st.bel).mono HHB.out.size)); with_reducible exact k_) | (have k_ := hp1.below (HHB.out.trans ((st.al.bel).mono HHB.out.size)); with_reducible exact k_) | (have k_ := hp1.below (HHB.out.trans ((st.al0.bel).mono HHB.out.size)); with_reducible exact k_) | (have k_ := hp1.below (HHB.out.trans ((st1.al.bel).mono HHB.out.size)); with_reducible exact k_) | (have k_ := hp1.below (HHB.out.trans ((st1.al0.bel).mono HHB.out.size)); with_reducible exact k_)) (by first | (have k_ := hx1.below (HHB.out.trans ((st.bel).mono HHB.out.size)); with_reducible exact k_) | (have k_ := hx1.below (HHB.out.trans ((st.al.bel).mono HHB.out.size)); with_reducible exact k_) | (have k_ := hx1.below (HHB.out.trans ((st.al0.bel).mono HHB.out.size)); with_reducible exact k_) | (have k_ := hx1.below (HHB.out.trans ((st1.al.bel).mono HHB.out.size)); with_reducible exact k_) | (have k_ := hx1.below (HHB.out.trans ((st1.al0.bel).mono HHB.out.size)); with_reducible exact k_)) qt).mono ?_; rintro e w_1 ⟨g0, g1, rfl, og0, og1, _, hb⟩; have HZ1 : Hid (type_of% hb) := hb; (first | (with_reducible replace st := st.step hb) | (with_reducible replace st := st.al.step hb) | (with_reducible replace st := st.al0.step hb) | (with_reducible replace st := st1.al.step hb) | (with_reducible replace st := st1.al0.step hb)); (first | (have kv := Sv.wr5 (st.oV _ rfl).1; obtain ⟨_, ⟨k0, k1, k2, k3, k4⟩, l0, l1, l2, l3, l4⟩ := kv) | skip); replace st := st.know (kp' := fun W => Tm.IsP W (some ⟨g0, 0, none⟩) t1.sp ∧ Li.IsL W (some ⟨g1, 0, none⟩) t1.lv) ⟨Rt.isp_of og0, Rt.isl_of og1⟩ (fun A B h hb => ⟨h.1.below hb, h.2.below hb⟩); clear og0 og1; clear hb)
      | (go_at_call 18; refine (Rt.irouted _ _ _ _ _ _ _ _ _ _ _ r0 t1 (by first | (have k_ := st.kk.1.2; with_reducible exact k_) | (have k_ := st.al.kk.1.2; with_reducible exact k_) | (have k_ := st.al0.kk.1.2; with_reducible exact k_)) (by first | (have k_ := st.kk.2.1; with_reducible exact k_) | (have k_ := st.al.kk.2.1; with_reducible exact k_) | (have k_ := st.al0.kk.2.1; with_reducible exact k_)) (by first | (have k_ := st.kk.2.2; with_reducible exact k_) | (have k_ := st.al.kk.2.2; with_reducible exact k_) | (have k_ := st.al0.kk.2.2; with_reducible exact k_)) qt).mono ?_; rintro e w_2 ⟨v0, v1, v2, rfl, oG_, hb⟩; rw [HV.out] at oG_; rw [HV.out]; obtain ⟨x0_, y0_, x1_, y1_, x2_, y2_, rfl, rfl, rfl, _⟩ := oG_.rd; (first | (with_reducible replace st := st.mkG oG_ hb) | (with_reducible replace st := st.al.mkG oG_ hb) | (with_reducible replace st := st.al0.mkG oG_ hb) | (with_reducible replace st := st1.al.mkG oG_ hb) | (with_reducible replace st := st1.al0.mkG oG_ hb)); (first | (have kv := Sv.wr5 (st.oV _ rfl).1; obtain ⟨_, ⟨k0, k1, k2, k3, k4⟩, l0, l1, l2, l3, l4⟩ := kv) | skip); clear hb))
    all_goals
      go_wp2_with fail
      go_meet
      case rel =>
        first
          | (have k_ := st.ofNew; with_reducible exact ⟨_, _, _, _, _, _, rfl, k_⟩)
          | (have k_ := st.ofSet; with_reducible exact ⟨_, _, _, _, _, _, rfl, k_⟩)
          | (have k_ := st1.ofNew; with_reducible exact ⟨_, _, _, _, _, _, rfl, k_⟩)
  revert wc
  intro w20 hcut
  obtain ⟨bH, loH, hiH, u0, u1, u2, rfl, hres⟩ := hcut
  obtain ⟨p0H, m0H, p1H, m1H, p2H, m2H, rfl, rfl, rfl, _⟩ := hres.ow.rd
  have hB := HHB.out
  have bxA := H_bxA.out
  have bsA := H_bsA.out
  have bxS := H_bxS.out
  have oS := H_oS.out
  have bxG := H_bxG.out
  have oG := H_oG.out
  clear HHB HS hS0 st st1 H_bxA H_bsA H_bxS H_oS H_bxG H_oG
  have hb := hres.bel
  have bxA := bxA.below hb
  have bsA := bsA.below hb
  have bxS := bxS.below hb
  have oS := oS.below hb
  have bxG := bxG.below hb
  have oG := oG.below hb
  have hB := hB.trans (hb.mono hB.size)
  have z20 := hb.size
  have bxH := hres.bx
  have oH := hres.ow
  have geH := hres.ge
  have nlH := hres.nl
  have hlH := hres.hl
  have blH := hres.bx.1
  clear hres hb
  obtain ⟨_, ⟨q0_bxH, q1_bxH, q2_bxH, q3_bxH, q4_bxH⟩, _⟩ := Sv.wr5 bxH
  obtain ⟨_, ⟨q0_bxS, q1_bxS, q2_bxS, q3_bxS, q4_bxS⟩, _⟩ := Sv.wr5 bxS
  go_wp2_with fail
  clear q0_bxH q1_bxH q2_bxH q3_bxH q4_bxH
  clear q0_bxS q1_bxS q2_bxS q3_bxS q4_bxS
  refine (Sv.eqRows _ _ _ _ _ _ _ _ _ _ _ _ _ q0 oH.rd' oS.rd' qq).mono ?_
  rintro e w21 ⟨rfl, hb⟩
  have bxA := bxA.below hb
  have bsA := bsA.below hb
  have bxS := bxS.below hb
  have oS := oS.below hb
  have bxG := bxG.below hb
  have oG := oG.below hb
  have bxH := bxH.below hb
  have oH := oH.below hb
  have hB := hB.trans (hb.mono hB.size)
  have z21 := hb.size
  clear hb
  obtain ⟨_, ⟨q0_bxG, q1_bxG, q2_bxG, q3_bxG, q4_bxG⟩, _⟩ := Sv.wr5 bxG
  go_wp2_with fail
  clear q0_bxG q1_bxG q2_bxG q3_bxG q4_bxG
  refine (Sv.heldRows _ _ _ _ _ 1 _ _ q0 oG qq (by omega) (by omega)).mono ?_
  rintro e w22 ⟨rfl, hb⟩
  rw [HM.out]
  have bxA := bxA.below hb
  have bsA := bsA.below hb
  have bxS := bxS.below hb
  have oS := oS.below hb
  have bxG := bxG.below hb
  have oG := oG.below hb
  have bxH := bxH.below hb
  have oH := oH.below hb
  have hB := hB.trans (hb.mono hB.size)
  have z22 := hb.size
  clear hb
  go_wp2
  go_ret
  exact ⟨rfl, hB⟩

/-! ### THE ROW's STEP -/
theorem lifted (os : Os) (started : os.Started) (H : Type) (enc : TypeId × Value → H) :
    ReturnsInHanded {} Try.checked os 8 .any (Rows.fnExactRoutedSpec.pre6 enc Try.prog Try.f8 Rows.fnExactRoutedRow.domain false) (Rows.fnExactRoutedSpec.post enc Try.prog Try.f8 false true false false) := by
  refine returnsInHanded_of_change (C := Try.checked) own started (by kernel_rfl) Try.func8
    (ChangeSpec.witness6 (enc := enc) (C := Try.checked) false ⟨#[], #[.agg #[.slice none 0 0, .slice none 0 0, .slice none 0 0, .int .i64 0, .int .i64 0], .agg #[.slice none 0 0, .slice none 0 0]], []⟩ 8 (by kernel_rfl) (by kernel_rfl) (by kernel_rfl) (by kernel_rfl)) ?_
  intro W base args ds gs before hval0 hW hcnd _
  have hval : ∀ (j : Nat) t v, Try.f8.params[j]? = some t → args[j]? = some v → Value.okWide Try.prog W .any base t v := hval0
  have hW' := hW
  obtain ⟨p, q, hA0, hV, rfl, hfz, hnd⟩ := hW
  have hA : DataW.TrodAll enc Try.prog W 0 (fun _ => true) true Try.f8.params.toList args.toList ds p := hA0
  rw [Try.params8] at hA hval
  obtain ⟨v0, vs0, d0, ds0, p0, q0, hargs, rfl, rfl, h0, rest0⟩ := trodAll_cons hA
  obtain ⟨v1, vs1, d1, ds1, p1, q1, rfl, rfl, rfl, h1, rest1⟩ := trodAll_cons rest0
  obtain ⟨rfl, rfl, rfl⟩ := trodAll_nil rest1
  obtain rfl : args = #[v0, v1] := by cases args; simp_all
  obtain ⟨rfl, rfl⟩ := trodVars_none hV
  have k0 := h0
  have lt0 : ∀ x ∈ p0, x.block < W.heap.size := by obtain ⟨m, hm⟩ := k0; exact DataW.trod_lt m _ _ _ hm
  have k1 := h1
  have lt1 : ∀ x ∈ p1, x.block < W.heap.size := by obtain ⟨m, hm⟩ := k1; exact DataW.trod_lt m _ _ _ hm
  obtain ⟨r0, a00, a01, a02, c00, c01, c02, rfl, h0r, hf0⟩ := Op.rows_open (hval 0 53 v0 rfl rfl) h0
  obtain ⟨t1, a1, d1, c1, e1, rfl, hp1, hx1, hm1, hn1⟩ := Op.tree_open (hval 1 76 v1 rfl rfl) h1
  clear hA0 hval0
  refine (walk W r0 a00 a01 a02 c00 c01 c02 h0r hf0 t1 a1 d1 c1 e1 hp1 hx1 hm1 hn1).mono fun e W' ⟨he, bel⟩ => ?_
  subst he
  exact ⟨_, rfl, _, _, _, [], _, [], hW', trodAll_mk1 (shut_bool Try.underlying4 _), (trodAll_cons_mk (Below.trod laidOut (by kernel_rfl) (of_decide_eq_true (by kernel_rfl)) k0 bel lt0) (trodAll_cons_mk (Below.trod laidOut (by kernel_rfl) (of_decide_eq_true (by kernel_rfl)) k1 bel lt1) trodAll_mk0)), rfl, bel.frame _, fun h => by cases h⟩

theorem over : Rows.fnExactRoutedRow.holds Try.pinned (OpenSpec.ofChange Rows.fnExactRoutedSpec) :=
  OpenClaim.holds_of_wide 8 Try.f8 rfl rfl rfl rfl rfl rfl rfl ⟨rfl, rfl, rfl, rfl, rfl⟩ rfl rfl rfl rfl rfl (by kernel_rfl) Try.func8 (by kernel_rfl)
    (of_decide_eq_true (by kernel_rfl)) (by unfold Func.isWrapper; first | (rw [if_pos (by decide +kernel)]; kernel_rfl) | (rw [if_neg (by decide +kernel)]; exact ⟨rfl, rfl⟩))
    (fun os started H enc _ => lifted os started H enc)

/-- THE STATEMENT -/
theorem proved : Rows.FnExactRoutedSaid := over
#print axioms proved
end Go.Proofs.Ytbnjbmajfadmaaa.fnExactRouted
