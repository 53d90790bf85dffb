/-
  Proved here: the Go function laws.FnExactImportance, called with any arguments that can be read, returns true, and each argument reads afterwards as it read before ('Rows.FnExactImportanceSaid', no condition beyond the row's own).
-/
import Derived.Test.YtkiddmbenepfjaaRows
import Derived.WalkKit
import Derived.ProofKit
import Derived.OpenShut
import Derived.ShutString
import Derived.ChangeOld
import Derived.Below
import Derived.Test.YtkiddmbenepfjaaOpnM
import Derived.Test.YtkiddmbenepfjaaImp
namespace Go.Proofs.Ytkiddmbenepfjaa.fnExactImportance
open Go.ChangeShapes Go.WideShapes Go.ChangeAt Go.RowKit
set_option linter.unusedVariables false
set_option maxRecDepth 100000

theorem own : ownKnob Try.prog.godebug = none := by kernel_rfl
theorem laidOut : laidOutB Try.prog = true := by kernel_rfl


/-! ### THE WALK: the Go text returns true, and writes nothing that was there -/
set_option maxRecDepth 100000 in
set_option maxHeartbeats 4000000 in
theorem walk (w : World) (m0 : Md.M) (p0k p0t : Option Addr) (s0k s0t : Nat) (hm0 : Md.Rm w p0k p0t m0) (hf0 : Md.FitsM m0) :
    Calls Try.prog 7 #[.agg #[.int .i64 m0.n, .int .i64 m0.c, .int .i64 m0.prior, .int .i64 m0.base, .slice p0k m0.ks.length s0k, .slice p0t m0.ts.length s0t]] w fun e w' => e = .returned (.bool true) ∧ Below w.heap.size w w' := by
  go_enter Try.func7, Try.ntmps7
  go_wp2_with fail
  obtain ⟨W, hW, hsz, hB, bm⟩ := Sv.new1 w [.int .i64 m0.n, .int .i64 m0.c, .int .i64 m0.prior, .int .i64 m0.base, .slice p0k m0.ks.length s0k, .slice p0t m0.ts.length s0t] 27
  rw [hW]
  clear hW hsz
  refine (Md.szModel _ _ _ _ _ _ m0 (hm0.below hB) hf0 (by omega) (by omega)).mono ?_
  rintro e w1 ⟨rfl, hb⟩
  have bm := bm.below hb
  have hB := hB.trans (hb.mono hB.size)
  clear hb
  by_cases hl : (m0.sz : Int) ≤ 1048576
  rotate_left
  · rw [Tb.sub_no hl]
    go_wp2
    go_ret
    exact ⟨rfl, hB⟩
  rw [Tb.sub_yes hl]
  have hl0 : m0.sz ≤ 1048576 := by omega
  obtain ⟨q, hq⟩ : ∃ q : Int, 1048576 - (m0.sz : Int) = q := ⟨_, rfl⟩
  rw [hq]
  have q0 : 0 ≤ q := by omega
  have q1 : q ≤ 1048576 := by omega
  clear hq hl
  obtain ⟨ys, hys⟩ : ∃ ys : List Int, Md.imps m0 = ys := ⟨_, rfl⟩
  have HYS : Hid (Md.imps m0 = ys) := hys
  have hyl : ys.length ≤ 1048576 := by rw [← hys]; exact (Nat.le_trans (Md.imps_len m0) (by omega))
  clear hys
  obtain ⟨_, ⟨cx0, cx1, cx2, cx3, cx4, cx5⟩, _⟩ := Md.wr6 (bm)
  go_wp2_with fail
  refine (Md.toModel _ _ _ _ _ m0 (hm0.below hB) hl0).mono ?_
  rintro e w1a ⟨vk1, vt1, rfl, om, hb⟩
  have bm := bm.below hb
  have hB := hB.trans (hb.mono hB.size)
  clear hb cx0 cx1 cx2 cx3 cx4 cx5
  obtain ⟨ak1, ck1, ax1, ct1, ek, et, rm⟩ := om.rm
  subst ek et
  go_wp2_with fail
  refine (Md.simpo _ _ _ _ _ m0 rm hl0).mono ?_
  rintro e w1c ⟨vw, rfl, ow, hb⟩
  rw [HYS.out] at ow
  have HOW : Hid (Li.Own w1c w1a.heap.size vw ys) := ow
  clear ow
  have bm := bm.below hb
  have hB := hB.trans (hb.mono hB.size)
  clear hb om rm
  have ow := HOW.out
  have HGW : Hid (∀ k, vw.ownBlock = some k → k < w1c.heap.size) := fun k e => (ow.ge k e).2
  obtain ⟨aw, qw, ew, _⟩ := ow.isl
  subst ew
  clear HOW
  obtain ⟨_, ⟨cx0, cx1, cx2, cx3, cx4, cx5⟩, _⟩ := Md.wr6 (bm)
  go_wp2_with fail
  refine (Md.toModel _ _ _ _ _ m0 (hm0.below hB) hl0).mono ?_
  rintro e w2 ⟨vk2, vt2, rfl, om, hb⟩
  have bm := bm.below hb
  have ow := ow.below hb
  have hB := hB.trans (hb.mono hB.size)
  have h12 := hb.size
  clear hb cx0 cx1 cx2 cx3 cx4 cx5
  obtain ⟨ak2, ck2, ax2, ct2, ek, et, _⟩ := om.rm
  subst ek et
  go_wp2_with fail
  obtain ⟨w3, hW3, hsz3, hb, b0⟩ := Sv.new1 w2 [.int .i64 m0.n, .int .i64 m0.c, .int .i64 m0.prior, .int .i64 m0.base, .slice ak2 m0.ks.length ck2, .slice ax2 m0.ts.length ct2] 34
  rw [hW3]
  clear hW3
  have h23 : w2.heap.size < w3.heap.size := by omega
  have bm := bm.below hb
  have ow := ow.below hb
  have om := om.below hb
  have hB := hB.trans (hb.mono hB.size)
  clear hb hsz3
  obtain ⟨_, ⟨cx0, cx1, cx2, cx3, cx4, cx5⟩, _⟩ := Md.wr6 (b0)
  obtain ⟨_, _, _, _, ek, et, rm⟩ := om.rm
  cases ek
  cases et
  go_wp2_with fail
  refine (Md.iimp _ _ _ _ _ m0 rm hl0).mono ?_
  rintro e w6 ⟨vg, rfl, og, hb⟩
  rw [HYS.out] at og
  have HOG : Hid (Li.Own w6 w3.heap.size vg ys) := og
  clear og
  have bm := bm.below hb
  have b0 := b0.below hb
  have ow := ow.below hb
  have om := om.below hb
  have hB := hB.trans (hb.mono hB.size)
  have h56 := hb.size
  clear hb rm cx0 cx1 cx2 cx3 cx4 cx5
  have og := HOG.out
  have HGG : Hid (∀ k, vg.ownBlock = some k → w3.heap.size ≤ k ∧ k < w6.heap.size) := fun k e => og.ge k e
  obtain ⟨ag, qg, eg, _⟩ := og.isl
  subst eg
  clear HOG
  obtain ⟨_, _, e1, i1⟩ := og.isl
  cases e1
  obtain ⟨_, _, e2, i2⟩ := ow.isl
  cases e2
  go_wp2_with fail
  refine (Li.eq_bel _ _ _ _ _ ys ys i1 i2 hyl hyl).mono ?_
  rintro e w7 ⟨rfl, hb⟩
  rw [Li.eqs_self]
  have bm := bm.below hb
  have b0 := b0.below hb
  have ow := ow.below hb
  have om := om.below hb
  have og := og.below hb
  have hB := hB.trans (hb.mono hB.size)
  clear hb i1 i2
  obtain ⟨_, ⟨r8b00, r8b01, r8b02, r8b03, r8b04, r8b05⟩, _⟩ := Md.wr6 (b0)
  obtain ⟨_, ⟨r8bm0, r8bm1, r8bm2, r8bm3, r8bm4, r8bm5⟩, _⟩ := Md.wr6 (bm)
  have H_bm : Hid (type_of% bm) := bm
  have H_b0 : Hid (type_of% b0) := b0
  have H_ow : Hid (type_of% ow) := ow
  have H_om : Hid (type_of% om) := om
  have H_og : Hid (type_of% og) := og
  have HHB : Hid (type_of% hB) := hB
  have HBD : Hid (Below w7.heap.size w7 w7.drew) := (Below.refl w7.heap.size w7).drew
  clear hB bm b0 ow om og
  go_wp2_with fail
  go_region_held3 (fun w' => w'.cell? ⟨w2.heap.size, 0, none⟩ = some (.int .i64 m0.n) ∧ w'.cell? ⟨w2.heap.size, 1, none⟩ = some (.int .i64 m0.c) ∧ w'.cell? ⟨w2.heap.size, 2, none⟩ = some (.int .i64 m0.prior) ∧ w'.cell? ⟨w2.heap.size, 3, none⟩ = some (.int .i64 m0.base) ∧ w'.cell? ⟨w2.heap.size, 4, none⟩ = some (.slice ak2 m0.ks.length ck2) ∧ w'.cell? ⟨w2.heap.size, 5, none⟩ = some (.slice ax2 m0.ts.length ct2) ∧ w'.cell? ⟨w.heap.size, 0, none⟩ = some (.int .i64 m0.n) ∧ w'.cell? ⟨w.heap.size, 1, none⟩ = some (.int .i64 m0.c) ∧ w'.cell? ⟨w.heap.size, 2, none⟩ = some (.int .i64 m0.prior) ∧ w'.cell? ⟨w.heap.size, 3, none⟩ = some (.int .i64 m0.base) ∧ w'.cell? ⟨w.heap.size, 4, none⟩ = some (.slice p0k m0.ks.length s0k) ∧ w'.cell? ⟨w.heap.size, 5, none⟩ = some (.slice p0t m0.ts.length s0t)) (go_keep) (first
    | (go_at_call 10
       refine (Md.toModel w7.drew _ _ _ _ m0 (hm0.below (HHB.out.trans (HBD.out.mono HHB.out.size))) hl0).mono ?_
       rintro e w8a ⟨vk8, vt8, rfl, om8, hb⟩
       have HY0 : Hid (Below w7.heap.size w7 w8a) := HBD.out.trans hb
       obtain ⟨_, ⟨s80b00, s80b01, s80b02, s80b03, s80b04, s80b05⟩, _⟩ := Md.wr6 (H_b0.out.below HY0.out)
       obtain ⟨_, ⟨s80bm0, s80bm1, s80bm2, s80bm3, s80bm4, s80bm5⟩, _⟩ := Md.wr6 (H_bm.out.below HY0.out)
       obtain ⟨ak8, ck8, ax8, ct8, ek, et, rm⟩ := om8.rm
       subst ek et
       have HR8 : Hid (Md.Rm w8a ak8 ax8 m0) := rm
       have HR9 : Hid (Md.Rm w8a ak2 ax2 m0) := by obtain ⟨_, _, _, _, ek, et, rm⟩ := (H_om.out.below HY0.out).rm; cases ek; cases et; exact rm
       clear om8 rm
       clear hb)
    | (go_at_call 12
       refine (Md.eqModel _ _ _ _ _ _ _ _ _ m0 HR9.out HR8.out hl0).mono ?_
       rintro e w8b ⟨rfl, hb⟩
       have HY1 : Hid (Below w7.heap.size w7 w8b) := HY0.out.trans (hb.mono HY0.out.size)
       obtain ⟨_, ⟨s81b00, s81b01, s81b02, s81b03, s81b04, s81b05⟩, _⟩ := Md.wr6 (H_b0.out.below HY1.out)
       obtain ⟨_, ⟨s81bm0, s81bm1, s81bm2, s81bm3, s81bm4, s81bm5⟩, _⟩ := Md.wr6 (H_bm.out.below HY1.out)
       clear hb))
  have hB := HHB.out
  have bm := H_bm.out
  have b0 := H_b0.out
  have ow := H_ow.out
  have om := H_om.out
  have og := H_og.out
  have hb := HY1.out
  clear HHB HBD H_bm H_b0 H_ow H_om H_og
  try clear r8b00 r8b01 r8b02 r8b03 r8b04 r8b05
  try clear s80b00 s80b01 s80b02 s80b03 s80b04 s80b05
  try clear s81b00 s81b01 s81b02 s81b03 s81b04 s81b05
  try clear r8bm0 r8bm1 r8bm2 r8bm3 r8bm4 r8bm5
  try clear s80bm0 s80bm1 s80bm2 s80bm3 s80bm4 s80bm5
  try clear s81bm0 s81bm1 s81bm2 s81bm3 s81bm4 s81bm5
  have bm := bm.below hb
  have b0 := b0.below hb
  have ow := ow.below hb
  have om := om.below hb
  have og := og.below hb
  have hB := hB.trans (hb.mono hB.size)
  clear hb HY0 HY1 HR8 HR9
  obtain ⟨_, ⟨cx0, cx1, cx2, cx3, cx4, cx5⟩, _⟩ := Md.wr6 (b0)
  have hwt := Md.wt_le m0
  have hc2 : w2.heap.size ≤ w8b.heap.size := by have := b0.1; omega
  go_wp2_with fail
  refine (Md.markModel _ _ _ _ 1 m0 om hl0 (by omega) (by omega)).mono ?_
  rintro e w10 ⟨rfl, _, hfr⟩
  have HSB : Hid (w.heap.size ≤ w1c.heap.size) := by have := hB.size; show _ ≤ _; omega
  have bm := bm.keptAt hfr.size (hfr.block _ bm.1 (fun e => by omega))
  have b0 := b0.keptAt hfr.size (hfr.block _ b0.1 (fun e => by omega))
  have ow := Md.own_fr ow hfr (fun k e e2 => by have := HGW.out k e; omega)
  have og := Md.own_fr og hfr (fun k e e2 => by have := HGG.out k e; omega)
  have hB : Below w.heap.size w w10 := hB.trans (hfr.bel (fun k hk => by have := HSB.out; omega) hB.size)
  have h10 := hfr.size
  clear hfr om cx0 cx1 cx2 cx3 cx4 cx5
  obtain ⟨K1, hK1⟩ : ∃ K1 : Int, 1 + (Md.wt m0 : Int) = K1 := ⟨_, rfl⟩
  rw [hK1]
  have k10 : 0 ≤ K1 := by omega
  have k11 : K1 ≤ 3000000 := by omega
  clear hK1
  have hneg : ¬ K1 < 0 := by omega
  obtain ⟨_, _, e1, i1⟩ := og.isl
  cases e1
  obtain ⟨_, _, e2, i2⟩ := ow.isl
  cases e2
  go_wp2_with fail
  refine (Li.eq_bel _ _ _ _ _ ys ys i1 i2 hyl hyl).mono ?_
  rintro e w12 ⟨rfl, hb⟩
  rw [Li.eqs_self]
  have bm := bm.below hb
  have ow := ow.below hb
  have og := og.below hb
  have hB := hB.trans (hb.mono hB.size)
  clear hb i1 i2
  clear hneg
  go_wp2_with fail
  refine (Li.mark_walk _ _ _ _ _ 1 ys rfl og hyl (by omega) (by omega)).mono ?_
  rintro e w13 ⟨rfl, oh, hg, _⟩
  have hfr : Sv.Fr (fun k => Value.ownBlock (.slice ag ys.length qg) = some k) w12 w13 := Md.fr_own hg (fun k e => e)
  have bm := bm.keptAt hfr.size (hfr.block _ bm.1 (fun e => by have := HGG.out _ e; have := HSB.out; omega))
  have ow := Md.own_fr ow hfr (fun k e e2 => by have := HGW.out k e; have := HGG.out k e2; omega)
  have hB : Below w.heap.size w w13 := hB.trans (hfr.bel (fun k e => by have := HGG.out k e; have := HSB.out; omega) hB.size)
  clear hfr hg og
  have HL : Hid ((Li.marks 1 ys.length).length = ys.length) := Li.marks_length _ _
  obtain ⟨_, _, eh, ih⟩ := oh.isl
  rw [HL.out] at eh
  cases eh
  clear oh
  obtain ⟨T, hT⟩ : ∃ T : Int, 1 + (ys.length : Int) = T := ⟨_, rfl⟩
  have hT0 : ¬ T < 0 := by omega
  have hTT : (T != T) = false := by simp
  have HTT : Hid (1 + (ys.length : Int) = T) := hT
  rw [hT]
  clear hT
  go_wp2_with fail
  refine (Li.held_walk _ _ _ _ _ ih hyl (by omega) (by omega)).mono ?_
  rintro e w' ⟨rfl, hw'⟩
  subst w'
  rw [HTT.out]
  obtain ⟨_, ⟨cx0, cx1, cx2, cx3, cx4, cx5⟩, _⟩ := Md.wr6 (bm)
  go_wp2_with fail
  refine (Md.toModel _ _ _ _ _ m0 (hm0.below hB) hl0).mono ?_
  rintro e w14a ⟨vk14, vt14, rfl, om, hb⟩
  have bm := bm.below hb
  have ow := ow.below hb
  have ih := ih.below hb
  have hB := hB.trans (hb.mono hB.size)
  clear hb cx0 cx1 cx2 cx3 cx4 cx5
  obtain ⟨ak14, ck14, ax14, ct14, ek, et, rm⟩ := om.rm
  subst ek et
  go_wp2_with fail
  refine (Md.iimp _ _ _ _ _ m0 rm hl0).mono ?_
  rintro e w14c ⟨vh, rfl, oh, hb⟩
  rw [HYS.out] at oh
  have HOH : Hid (Li.Own w14c w14a.heap.size vh ys) := oh
  clear oh
  have bm := bm.below hb
  have ow := ow.below hb
  have ih := ih.below hb
  have hB := hB.trans (hb.mono hB.size)
  clear hb om rm
  have oH := HOH.out
  obtain ⟨aH, qH, eH, _⟩ := oH.isl
  subst eH
  clear HOH
  obtain ⟨_, _, e1, i1⟩ := oH.isl
  cases e1
  obtain ⟨_, _, e2, i2⟩ := ow.isl
  cases e2
  go_wp2_with fail
  refine (Li.eq_bel _ _ _ _ _ ys ys i1 i2 hyl hyl).mono ?_
  rintro e w15 ⟨rfl, hb⟩
  rw [Li.eqs_self]
  have bm := bm.below hb
  have ow := ow.below hb
  have ih := ih.below hb
  have oH := oH.below hb
  have hB := hB.trans (hb.mono hB.size)
  clear hb i1 i2
  go_wp2_with fail
  refine (Li.held_walk _ _ _ _ _ ih hyl (by omega) (by omega)).mono ?_
  rintro e w' ⟨rfl, hw'⟩
  subst w'
  rw [HTT.out]
  go_wp2
  go_ret
  exact ⟨rfl, hB⟩

/-! ### THE ROW's STEP -/
theorem lifted (os : Os) (started : os.Started) (H : Type) (enc : TypeId × Value → H) :
    ReturnsInHanded {} Try.checked os 7 .any (Rows.fnExactImportanceSpec.pre6 enc Try.prog Try.f7 Rows.fnExactImportanceRow.domain false) (Rows.fnExactImportanceSpec.post enc Try.prog Try.f7 false true false false) := by
  refine returnsInHanded_of_change (C := Try.checked) own started (by kernel_rfl) Try.func7
    (ChangeSpec.witness6 (enc := enc) (C := Try.checked) false ⟨#[], #[.agg #[.int .i64 0, .int .i64 0, .int .i64 0, .int .i64 0, .slice none 0 0, .slice none 0 0]], []⟩ 8 (by kernel_rfl) (by kernel_rfl) (by kernel_rfl) (by kernel_rfl)) ?_
  intro W base args ds gs before hval0 hW hcnd _
  have hval : ∀ (j : Nat) t v, Try.f7.params[j]? = some t → args[j]? = some v → Value.okWide Try.prog W .any base t v := hval0
  have hW' := hW
  obtain ⟨p, q, hA0, hV, rfl, hfz, hnd⟩ := hW
  have hA : DataW.TrodAll enc Try.prog W 0 (fun _ => true) true Try.f7.params.toList args.toList ds p := hA0
  rw [Try.params7] at hA hval
  obtain ⟨v0, vs0, d0, ds0, p0, q0, hargs, rfl, rfl, h0, rest0⟩ := trodAll_cons hA
  obtain ⟨rfl, rfl, rfl⟩ := trodAll_nil rest0
  obtain rfl : args = #[v0] := by cases args; simp_all
  obtain ⟨rfl, rfl⟩ := trodVars_none hV
  have k0 := h0
  have lt0 : ∀ x ∈ p0, x.block < W.heap.size := by obtain ⟨m, hm⟩ := k0; exact DataW.trod_lt m _ _ _ hm
  obtain ⟨m0, p0k, s0k, p0t, s0t, rfl, hm0, hf0⟩ := Op.model_open (hval 0 27 v0 rfl rfl) h0
  clear hA0 hval0
  refine (walk W m0 p0k p0t s0k s0t hm0 hf0).mono fun e W' ⟨he, bel⟩ => ?_
  subst he
  exact ⟨_, rfl, _, _, _, [], _, [], hW', trodAll_mk1 (shut_bool Try.underlying4 _), (trodAll_cons_mk (Below.trod laidOut (by kernel_rfl) (of_decide_eq_true (by kernel_rfl)) k0 bel lt0) trodAll_mk0), rfl, bel.frame _, fun h => by cases h⟩

theorem over : Rows.fnExactImportanceRow.holds Try.pinned (OpenSpec.ofChange Rows.fnExactImportanceSpec) :=
  OpenClaim.holds_of_wide 7 Try.f7 rfl rfl rfl rfl rfl rfl rfl ⟨rfl, rfl, rfl, rfl, rfl⟩ rfl rfl rfl rfl rfl (by kernel_rfl) Try.func7 (by kernel_rfl)
    (of_decide_eq_true (by kernel_rfl)) (by unfold Func.isWrapper; first | (rw [if_pos (by decide +kernel)]; kernel_rfl) | (rw [if_neg (by decide +kernel)]; exact ⟨rfl, rfl⟩))
    (fun os started H enc _ => lifted os started H enc)

/-- THE STATEMENT -/
theorem proved : Rows.FnExactImportanceSaid := over
#print axioms proved
end Go.Proofs.Ytkiddmbenepfjaa.fnExactImportance
