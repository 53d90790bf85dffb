/-
  Proved here: the Go function laws.FnExactCutTo, called with any arguments that can be read, returns true, and each argument reads afterwards as it read before ('Rows.FnExactCutToSaid', no condition beyond the row's own).
-/
import Derived.Test.YtlelboddihogmaaRows
import Derived.WalkKit
import Derived.ProofKit
import Derived.OpenShut
import Derived.ShutString
import Derived.ChangeOld
import Derived.Below
import Derived.Test.YtlelboddihogmaaPart8
import Derived.Test.YtlelboddihogmaaPart14
import Derived.Test.YtlelboddihogmaaPart15
namespace Go.Proofs.Ytlelboddihogmaa.fnExactCutTo
open Go.ChangeShapes Go.WideShapes Go.ChangeAt Go.RowKit
set_option linter.unusedVariables false
set_option maxRecDepth 100000

theorem own : ownKnob Try.prog.godebug = none := by kernel_rfl
theorem laidOut : laidOutB Try.prog = true := by kernel_rfl


/-! ### THE WALK: the Go text returns true, and writes nothing that was there -/
set_option maxRecDepth 100000 in
set_option maxHeartbeats 4000000 in
theorem walk (w : World) (m0 : Md.M) (p0k p0t : Option Addr) (s0k s0t : Nat) (hm0 : Md.Rm w p0k p0t m0) (hf0 : Md.FitsM m0) (a1 : Int) (b1 : (-9223372036854775808 ≤ a1 ∧ a1 ≤ 9223372036854775807)) :
    Calls Try.prog 3 #[.agg #[.int .i64 m0.n, .int .i64 m0.c, .int .i64 m0.prior, .int .i64 m0.base, .slice p0k m0.ks.length s0k, .slice p0t m0.ts.length s0t], .int .i64 a1] w fun e w' => e = .returned (.bool true) ∧ Below w.heap.size w w' := by
  go_enter Try.func3, Try.ntmps3
  go_wp2_with fail
  obtain ⟨W, hW, hsz, hB, bm⟩ := Sv.new1 w [.int .i64 m0.n, .int .i64 m0.c, .int .i64 m0.prior, .int .i64 m0.base, .slice p0k m0.ks.length s0k, .slice p0t m0.ts.length s0t] 27
  rw [hW]
  clear hW hsz
  refine (Md.szModel _ _ _ _ _ _ m0 (hm0.below hB) hf0 (by omega) (by omega)).mono ?_
  rintro e w1 ⟨rfl, hb⟩
  have bm := bm.below hb
  have hB := hB.trans (hb.mono hB.size)
  clear hb
  by_cases hl : (m0.sz : Int) ≤ 1048576
  rotate_left
  · rw [Tb.sub_no hl]
    go_wp2
    go_ret
    exact ⟨rfl, hB⟩
  rw [Tb.sub_yes hl]
  have hl0 : m0.sz ≤ 1048576 := by omega
  obtain ⟨q, hq⟩ : ∃ q : Int, 1048576 - (m0.sz : Int) = q := ⟨_, rfl⟩
  rw [hq]
  have q0 : 0 ≤ q := by omega
  clear hq hl
  obtain ⟨r, hr⟩ : ∃ r : Md.M, Ct.mcut m0 a1 = r := ⟨_, rfl⟩
  have HRR : Hid (Ct.mcut m0 a1 = r) := hr
  have hlr : r.sz ≤ 1048576 := by rw [← hr]; exact Nat.le_trans (Ct.mcut_sz m0 a1) hl0
  clear hr
  obtain ⟨_, ⟨cx0, cx1, cx2, cx3, cx4, cx5⟩, _⟩ := Md.wr6 (bm)
  go_wp2_with fail
  refine (Md.toModel _ _ _ _ _ m0 (hm0.below hB) hl0).mono ?_
  rintro e w1a ⟨vk1, vt1, rfl, om, hb⟩
  have bm := bm.below hb
  have hB := hB.trans (hb.mono hB.size)
  have bmlt := bm.1
  clear hb cx0 cx1 cx2 cx3 cx4 cx5
  obtain ⟨ak1, ck1, ax1, ct1, ek, et, rm⟩ := om.rm
  subst ek et
  go_wp2_with fail
  refine (Ct.scut _ _ _ _ _ m0 a1 rm hl0).mono ?_
  rintro e w1c ⟨vkw, vtw, rfl, ow, hb⟩
  rw [HRR.out] at ow ⊢
  have bm := bm.below hb
  have hB := hB.trans (hb.mono hB.size)
  have h1ac := hb.size
  have hwl : w.heap.size < w1a.heap.size := by have := bmlt; omega
  clear hb om rm
  obtain ⟨akw, ckw, axw, ctw, ek, et, _⟩ := ow.rm
  subst ek et
  obtain ⟨_, ⟨cx0, cx1, cx2, cx3, cx4, cx5⟩, _⟩ := Md.wr6 (bm)
  have hbm1 := bm.1
  go_wp2_with fail
  obtain ⟨w1d, hWx, hszx, hb, bw⟩ := Sv.new1 w1c [.int .i64 r.n, .int .i64 r.c, .int .i64 r.prior, .int .i64 r.base, .slice akw r.ks.length ckw, .slice axw r.ts.length ctw] 33
  rw [hWx]
  clear hWx
  have hx_bw : w1c.heap.size < w1d.heap.size := by omega
  have bm := bm.below hb
  have ow := ow.below hb
  have hB := hB.trans (hb.mono hB.size)
  clear hb hszx
  clear hbm1 cx0 cx1 cx2 cx3 cx4 cx5
  refine (Md.toModel _ _ _ _ _ m0 (hm0.below hB) hl0).mono ?_
  rintro e w2 ⟨vk2, vt2, rfl, om, hb⟩
  have bm := bm.below hb
  have bw := bw.below hb
  have ow := ow.below hb
  have hB := hB.trans (hb.mono hB.size)
  have h12 := hb.size
  clear hb
  obtain ⟨ak2, ck2, ax2, ct2, ek, et, _⟩ := om.rm
  subst ek et
  go_wp2_with fail
  obtain ⟨w3, hWx, hszx, hb, b0⟩ := Sv.new1 w2 [.int .i64 m0.n, .int .i64 m0.c, .int .i64 m0.prior, .int .i64 m0.base, .slice ak2 m0.ks.length ck2, .slice ax2 m0.ts.length ct2] 33
  rw [hWx]
  clear hWx
  have hx_b0 : w2.heap.size < w3.heap.size := by omega
  have bm := bm.below hb
  have bw := bw.below hb
  have ow := ow.below hb
  have om := om.below hb
  have hB := hB.trans (hb.mono hB.size)
  clear hb hszx
  obtain ⟨_, _, _, _, ek, et, rm⟩ := om.rm
  cases ek
  cases et
  refine (Ct.icut _ _ _ _ _ m0 a1 rm hl0 (Ct.owm_cap om)).mono ?_
  rintro e w6 ⟨vkg, vtg, rfl, og, hb⟩
  rw [HRR.out] at og ⊢
  have bm := bm.below hb
  have bw := bw.below hb
  have b0 := b0.below hb
  have ow := ow.below hb
  have om := om.below hb
  have hB := hB.trans (hb.mono hB.size)
  have h36 := hb.size
  clear hb rm
  obtain ⟨akg, ckg, axg, ctg, ek, et, _⟩ := og.rm
  subst ek et
  obtain ⟨_, ⟨cy0, cy1, cy2, cy3, cy4, cy5⟩, _⟩ := Md.wr6 (bw)
  have hbw1 := bw.1
  go_wp2_with fail
  obtain ⟨w7, hWx, hszx, hb, bg⟩ := Sv.new1 w6 [.int .i64 r.n, .int .i64 r.c, .int .i64 r.prior, .int .i64 r.base, .slice akg r.ks.length ckg, .slice axg r.ts.length ctg] 33
  rw [hWx]
  clear hWx
  have hx_bg : w6.heap.size < w7.heap.size := by omega
  have bm := bm.below hb
  have bw := bw.below hb
  have b0 := b0.below hb
  have ow := ow.below hb
  have om := om.below hb
  have og := og.below hb
  have hB := hB.trans (hb.mono hB.size)
  clear hb hszx
  clear hbw1 cy0 cy1 cy2 cy3 cy4 cy5
  obtain ⟨_, _, _, _, ek, et, rm1⟩ := og.rm
  cases ek
  cases et
  obtain ⟨_, _, _, _, ek, et, rm2⟩ := ow.rm
  cases ek
  cases et
  refine (Md.eqModel _ _ _ _ _ _ _ _ _ r rm1 rm2 hlr).mono ?_
  rintro e w8 ⟨rfl, hb⟩
  have bm := bm.below hb
  have bw := bw.below hb
  have b0 := b0.below hb
  have bg := bg.below hb
  have ow := ow.below hb
  have om := om.below hb
  have og := og.below hb
  have hB := hB.trans (hb.mono hB.size)
  clear hb rm1 rm2
  obtain ⟨_, ⟨rb00, rb01, rb02, rb03, rb04, rb05⟩, _⟩ := Md.wr6 (b0)
  obtain ⟨_, ⟨rbm0, rbm1, rbm2, rbm3, rbm4, rbm5⟩, _⟩ := Md.wr6 (bm)
  have H_bm : Hid (type_of% bm) := bm
  have H_bw : Hid (type_of% bw) := bw
  have H_b0 : Hid (type_of% b0) := b0
  have H_bg : Hid (type_of% bg) := bg
  have H_ow : Hid (type_of% ow) := ow
  have H_om : Hid (type_of% om) := om
  have H_og : Hid (type_of% og) := og
  have HHB : Hid (type_of% hB) := hB
  have HBD : Hid (Below w8.heap.size w8 w8.drew) := (Below.refl w8.heap.size w8).drew
  clear hB bm bw b0 bg ow om og
  go_wp2_with fail
  go_region_held3 (fun w' => w'.cell? ⟨w2.heap.size, 0, none⟩ = some (.int .i64 m0.n) ∧ w'.cell? ⟨w2.heap.size, 1, none⟩ = some (.int .i64 m0.c) ∧ w'.cell? ⟨w2.heap.size, 2, none⟩ = some (.int .i64 m0.prior) ∧ w'.cell? ⟨w2.heap.size, 3, none⟩ = some (.int .i64 m0.base) ∧ w'.cell? ⟨w2.heap.size, 4, none⟩ = some (.slice ak2 m0.ks.length ck2) ∧ w'.cell? ⟨w2.heap.size, 5, none⟩ = some (.slice ax2 m0.ts.length ct2) ∧ w'.cell? ⟨w.heap.size, 0, none⟩ = some (.int .i64 m0.n) ∧ w'.cell? ⟨w.heap.size, 1, none⟩ = some (.int .i64 m0.c) ∧ w'.cell? ⟨w.heap.size, 2, none⟩ = some (.int .i64 m0.prior) ∧ w'.cell? ⟨w.heap.size, 3, none⟩ = some (.int .i64 m0.base) ∧ w'.cell? ⟨w.heap.size, 4, none⟩ = some (.slice p0k m0.ks.length s0k) ∧ w'.cell? ⟨w.heap.size, 5, none⟩ = some (.slice p0t m0.ts.length s0t)) (go_keep) (first
    | (go_at_call 6
       refine (Md.toModel w8.drew _ _ _ _ m0 (hm0.below (HHB.out.trans (HBD.out.mono HHB.out.size))) hl0).mono ?_
       rintro e w8a ⟨vk8, vt8, rfl, om8, hb⟩
       have HY0 : Hid (Below w8.heap.size w8 w8a) := HBD.out.trans hb
       obtain ⟨_, ⟨s00, s01, s02, s03, s04, s05⟩, _⟩ := Md.wr6 (H_b0.out.below HY0.out)
       obtain ⟨_, ⟨s10, s11, s12, s13, s14, s15⟩, _⟩ := Md.wr6 (H_bm.out.below HY0.out)
       obtain ⟨ak8, ck8, ax8, ct8, ek, et, rm⟩ := om8.rm
       subst ek et
       have HR8 : Hid (Md.Rm w8a ak8 ax8 m0) := rm
       have HR9 : Hid (Md.Rm w8a ak2 ax2 m0) := by obtain ⟨_, _, _, _, ek, et, rm⟩ := (H_om.out.below HY0.out).rm; cases ek; cases et; exact rm
       clear om8 rm hb)
    | (go_at_call 8
       refine (Md.eqModel _ _ _ _ _ _ _ _ _ m0 HR9.out HR8.out hl0).mono ?_
       rintro e w9 ⟨rfl, hb⟩
       have HY1 : Hid (Below w8.heap.size w8 w9) := HY0.out.trans (hb.mono HY0.out.size)
       obtain ⟨_, ⟨t00, t01, t02, t03, t04, t05⟩, _⟩ := Md.wr6 (H_b0.out.below HY1.out)
       obtain ⟨_, ⟨t10, t11, t12, t13, t14, t15⟩, _⟩ := Md.wr6 (H_bm.out.below HY1.out)
       clear hb))
  have hB := HHB.out
  have bm := H_bm.out
  have bw := H_bw.out
  have b0 := H_b0.out
  have bg := H_bg.out
  have ow := H_ow.out
  have om := H_om.out
  have og := H_og.out
  have hb := HY1.out
  clear HHB HBD H_bm H_bw H_b0 H_bg H_ow H_om H_og
  try clear rb00 rb01 rb02 rb03 rb04 rb05 rbm0 rbm1 rbm2 rbm3 rbm4 rbm5
  try clear s00 s01 s02 s03 s04 s05 s10 s11 s12 s13 s14 s15
  try clear t00 t01 t02 t03 t04 t05 t10 t11 t12 t13 t14 t15
  have bm := bm.below hb
  have bw := bw.below hb
  have b0 := b0.below hb
  have bg := bg.below hb
  have ow := ow.below hb
  have om := om.below hb
  have og := og.below hb
  have hB := hB.trans (hb.mono hB.size)
  clear hb HY0 HY1 HR8 HR9
  have hwa : w.heap.size < w1a.heap.size := hwl
  have hwt := Md.wt_le m0
  obtain ⟨_, ⟨cx0, cx1, cx2, cx3, cx4, cx5⟩, _⟩ := Md.wr6 (b0)
  go_wp2_with fail
  refine (Md.markModel _ _ _ _ 1 m0 om hl0 (by omega) (by omega)).mono ?_
  rintro e w10 ⟨rfl, _, hfr⟩
  have bm := bm.keptAt hfr.size (hfr.block _ bm.1 (fun e => by omega))
  have bw := bw.keptAt hfr.size (hfr.block _ bw.1 (fun e => by omega))
  have b0 := b0.keptAt hfr.size (hfr.block _ b0.1 (fun e => by omega))
  have bg := bg.keptAt hfr.size (hfr.block _ bg.1 (fun e => by omega))
  have ow := ow.fr hfr (fun k e e2 => by omega)
  have og := og.fr hfr (fun k e e2 => by omega)
  have hB : Below w.heap.size w w10 := hB.trans (hfr.bel (fun k hk => by omega) hB.size)
  have h910 := hfr.size
  clear hfr om cx0 cx1 cx2 cx3 cx4 cx5
  obtain ⟨K1, hK1⟩ : ∃ K1 : Int, 1 + (Md.wt m0 : Int) = K1 := ⟨_, rfl⟩
  rw [hK1]
  have k10 : 0 ≤ K1 := by omega
  clear hK1
  have hneg : ¬ K1 < 0 := by omega
  clear b0
  obtain ⟨_, ⟨cx0, cx1, cx2, cx3, cx4, cx5⟩, _⟩ := Md.wr6 (bg)
  obtain ⟨_, ⟨cy0, cy1, cy2, cy3, cy4, cy5⟩, _⟩ := Md.wr6 (bw)
  go_wp2_with fail
  obtain ⟨_, _, _, _, ek, et, rm1⟩ := og.rm
  cases ek
  cases et
  obtain ⟨_, _, _, _, ek, et, rm2⟩ := ow.rm
  cases ek
  cases et
  refine (Md.eqModel _ _ _ _ _ _ _ _ _ r rm1 rm2 hlr).mono ?_
  rintro e w11 ⟨rfl, hb⟩
  have bm := bm.below hb
  have bw := bw.below hb
  have bg := bg.below hb
  have ow := ow.below hb
  have og := og.below hb
  have hB := hB.trans (hb.mono hB.size)
  clear hb rm1 rm2
  clear hneg cx0 cx1 cx2 cx3 cx4 cx5 cy0 cy1 cy2 cy3 cy4 cy5
  have hwr := Md.wt_le r
  obtain ⟨_, ⟨cx0, cx1, cx2, cx3, cx4, cx5⟩, _⟩ := Md.wr6 (bg)
  go_wp2_with fail
  refine (Md.markModel _ _ _ _ 1 r og hlr (by omega) (by omega)).mono ?_
  rintro e w12 ⟨rfl, oq, hfr⟩
  have bm := bm.keptAt hfr.size (hfr.block _ bm.1 (fun e => by omega))
  have bw := bw.keptAt hfr.size (hfr.block _ bw.1 (fun e => by omega))
  have bg := bg.keptAt hfr.size (hfr.block _ bg.1 (fun e => by omega))
  have ow := ow.fr hfr (fun k e e2 => by omega)
  have hB : Below w.heap.size w w12 := hB.trans (hfr.bel (fun k hk => by omega) hB.size)
  clear hfr og cx0 cx1 cx2 cx3 cx4 cx5
  obtain ⟨T, hT⟩ : ∃ T : Int, 1 + (Md.wt r : Int) = T := ⟨_, rfl⟩
  have hT0 : ¬ T < 0 := by omega
  have hTT : (T != T) = false := by simp
  have HTT : Hid (1 + (Md.wt r : Int) = T) := hT
  rw [hT]
  clear hT
  have iq := Ct.mm_rm oq
  clear oq
  obtain ⟨_, ⟨cx0, cx1, cx2, cx3, cx4, cx5⟩, _⟩ := Md.wr6 (bg)
  go_wp2_with fail
  refine (Md.heldModel _ _ _ _ _ 1 r iq hlr (by omega) (by omega)).mono ?_
  rintro e w13 ⟨rfl, hb⟩
  rw [HTT.out]
  have bm := bm.below hb
  have bw := bw.below hb
  have bg := bg.below hb
  have ow := ow.below hb
  have iq := iq.below hb
  have hB := hB.trans (hb.mono hB.size)
  clear hb cx0 cx1 cx2 cx3 cx4 cx5
  obtain ⟨_, ⟨cx0, cx1, cx2, cx3, cx4, cx5⟩, _⟩ := Md.wr6 (bm)
  go_wp2_with fail
  refine (Md.toModel _ _ _ _ _ m0 (hm0.below hB) hl0).mono ?_
  rintro e w14 ⟨vk3, vt3, rfl, om, hb⟩
  have bm := bm.below hb
  have bw := bw.below hb
  have bg := bg.below hb
  have ow := ow.below hb
  have iq := iq.below hb
  have hB := hB.trans (hb.mono hB.size)
  clear hb cx0 cx1 cx2 cx3 cx4 cx5
  obtain ⟨ak3, ck3, ax3, ct3, ek, et, rm⟩ := om.rm
  subst ek et
  go_wp2_with fail
  refine (Ct.icut _ _ _ _ _ m0 a1 rm hl0 (Ct.owm_cap om)).mono ?_
  rintro e w15 ⟨vkh, vth, rfl, oh, hb⟩
  rw [HRR.out] at oh ⊢
  have bm := bm.below hb
  have bw := bw.below hb
  have bg := bg.below hb
  have ow := ow.below hb
  have iq := iq.below hb
  have hB := hB.trans (hb.mono hB.size)
  clear hb om rm
  obtain ⟨akh, ckh, axh, cth, ek, et, _⟩ := oh.rm
  subst ek et
  obtain ⟨_, ⟨cy0, cy1, cy2, cy3, cy4, cy5⟩, _⟩ := Md.wr6 (bw)
  have hbw1 := bw.1
  go_wp2_with fail
  obtain ⟨w16, hWx, hszx, hb, bh⟩ := Sv.new1 w15 [.int .i64 r.n, .int .i64 r.c, .int .i64 r.prior, .int .i64 r.base, .slice akh r.ks.length ckh, .slice axh r.ts.length cth] 33
  rw [hWx]
  clear hWx
  have hx_bh : w15.heap.size < w16.heap.size := by omega
  have bm := bm.below hb
  have bw := bw.below hb
  have bg := bg.below hb
  have ow := ow.below hb
  have iq := iq.below hb
  have oh := oh.below hb
  have hB := hB.trans (hb.mono hB.size)
  clear hb hszx
  clear hbw1 cy0 cy1 cy2 cy3 cy4 cy5
  obtain ⟨_, _, _, _, ek, et, rm1⟩ := oh.rm
  cases ek
  cases et
  obtain ⟨_, _, _, _, ek, et, rm2⟩ := ow.rm
  cases ek
  cases et
  refine (Md.eqModel _ _ _ _ _ _ _ _ _ r rm1 rm2 hlr).mono ?_
  rintro e w17 ⟨rfl, hb⟩
  have bm := bm.below hb
  have bw := bw.below hb
  have bg := bg.below hb
  have bh := bh.below hb
  have ow := ow.below hb
  have iq := iq.below hb
  have oh := oh.below hb
  have hB := hB.trans (hb.mono hB.size)
  clear hb rm1 rm2
  obtain ⟨_, ⟨cx0, cx1, cx2, cx3, cx4, cx5⟩, _⟩ := Md.wr6 (bg)
  go_wp2_with fail
  refine (Md.heldModel _ _ _ _ _ 1 r iq hlr (by omega) (by omega)).mono ?_
  rintro e w18 ⟨rfl, hb⟩
  rw [HTT.out]
  have bm := bm.below hb
  have bw := bw.below hb
  have bg := bg.below hb
  have bh := bh.below hb
  have ow := ow.below hb
  have iq := iq.below hb
  have oh := oh.below hb
  have hB := hB.trans (hb.mono hB.size)
  clear hb cx0 cx1 cx2 cx3 cx4 cx5
  go_wp2
  go_ret
  exact ⟨rfl, hB⟩

/-! ### THE ROW's STEP -/
theorem lifted (os : Os) (started : os.Started) (H : Type) (enc : TypeId × Value → H) :
    ReturnsInHanded {} Try.checked os 3 .any (Rows.fnExactCutToSpec.pre6 enc Try.prog Try.f3 Rows.fnExactCutToRow.domain false) (Rows.fnExactCutToSpec.post enc Try.prog Try.f3 false true false false) := by
  refine returnsInHanded_of_change (C := Try.checked) own started (by kernel_rfl) Try.func3
    (ChangeSpec.witness6 (enc := enc) (C := Try.checked) false ⟨#[], #[.agg #[.int .i64 0, .int .i64 0, .int .i64 0, .int .i64 0, .slice none 0 0, .slice none 0 0], .int .i64 0], []⟩ 8 (by kernel_rfl) (by kernel_rfl) (by kernel_rfl) (by kernel_rfl)) ?_
  intro W base args ds gs before hval0 hW hcnd _
  have hval : ∀ (j : Nat) t v, Try.f3.params[j]? = some t → args[j]? = some v → Value.okWide Try.prog W .any base t v := hval0
  have hW' := hW
  obtain ⟨p, q, hA0, hV, rfl, hfz, hnd⟩ := hW
  have hA : DataW.TrodAll enc Try.prog W 0 (fun _ => true) true Try.f3.params.toList args.toList ds p := hA0
  rw [Try.params3] at hA hval
  obtain ⟨v0, vs0, d0, ds0, p0, q0, hargs, rfl, rfl, h0, rest0⟩ := trodAll_cons hA
  obtain ⟨v1, vs1, d1, ds1, p1, q1, rfl, rfl, rfl, h1, rest1⟩ := trodAll_cons rest0
  obtain ⟨rfl, rfl, rfl⟩ := trodAll_nil rest1
  obtain rfl : args = #[v0, v1] := by cases args; simp_all
  obtain ⟨rfl, rfl⟩ := trodVars_none hV
  have k0 := h0
  have lt0 : ∀ x ∈ p0, x.block < W.heap.size := by obtain ⟨m, hm⟩ := k0; exact DataW.trod_lt m _ _ _ hm
  have k1 := h1
  have lt1 : ∀ x ∈ p1, x.block < W.heap.size := by obtain ⟨m, hm⟩ := k1; exact DataW.trod_lt m _ _ _ hm
  obtain ⟨m0, p0k, s0k, p0t, s0t, rfl, hm0, hf0⟩ := Op.model_open (hval 0 27 v0 rfl rfl) h0
  obtain ⟨a1, rfl, b1⟩ := Op.int_open (hval 1 3 v1 rfl rfl) h1
  clear hA0 hval0
  refine (walk W m0 p0k p0t s0k s0t hm0 hf0 a1 b1).mono fun e W' ⟨he, bel⟩ => ?_
  subst he
  exact ⟨_, rfl, _, _, _, [], _, [], hW', trodAll_mk1 (shut_bool Try.underlying4 _), (trodAll_cons_mk (Below.trod laidOut (by kernel_rfl) (of_decide_eq_true (by kernel_rfl)) k0 bel lt0) (trodAll_cons_mk (Below.trod laidOut (by kernel_rfl) (of_decide_eq_true (by kernel_rfl)) k1 bel lt1) trodAll_mk0)), rfl, bel.frame _, fun h => by cases h⟩

theorem over : Rows.fnExactCutToRow.holds Try.pinned (OpenSpec.ofChange Rows.fnExactCutToSpec) :=
  OpenClaim.holds_of_wide 3 Try.f3 rfl rfl rfl rfl rfl rfl rfl ⟨rfl, rfl, rfl, rfl, rfl⟩ rfl rfl rfl rfl rfl (by kernel_rfl) Try.func3 (by kernel_rfl)
    (of_decide_eq_true (by kernel_rfl)) (by unfold Func.isWrapper; first | (rw [if_pos (by decide +kernel)]; kernel_rfl) | (rw [if_neg (by decide +kernel)]; exact ⟨rfl, rfl⟩))
    (fun os started H enc _ => lifted os started H enc)

/-- THE STATEMENT -/
theorem proved : Rows.FnExactCutToSaid := over
#print axioms proved
end Go.Proofs.Ytlelboddihogmaa.fnExactCutTo
