/-
  Proved here: the Go function laws.FnUnknown, called with any arguments that can be read, returns true, and each argument reads afterwards as it read before ('Rows.FnUnknownSaid', no condition beyond the row's own). The frame was written by the guide's program; the walk and its contracts are by hand.
-/
import Derived.Test.YtcadgeepknhmfaaGreatRows
import Derived.WalkKit
import Derived.ProofKit
import Derived.OpenShut
import Derived.ShutString
import Derived.ChangeOld
import Derived.Below
import Derived.Test.YtcadgeepknhmfaaGreatPart22
import Derived.Test.YtcadgeepknhmfaaGreatPart25
import Derived.Test.YtcadgeepknhmfaaGreatPart24
import Derived.Deep.Cut
namespace Go.Proofs.YtcadgeepknhmfaaGreat.fnUnknown
open Go.ChangeShapes Go.WideShapes Go.ChangeAt Go.RowKit
open Go.ChangeMaps (open_string shut_string)
set_option linter.unusedVariables false

theorem own : ownKnob Tryz.prog.godebug = none := by kernel_rfl
theorem laidOut : laidOutB Tryz.prog = true := by kernel_rfl

def IsRow (k : IntKind) (w : World) (a : Option Addr) (len cap : Nat) (zs : List Int) : Prop :=
  (a = none ∧ len = 0 ∧ cap = 0 ∧ zs = []) ∨
  ∃ x, a = some x ∧ len ≤ cap ∧ cap ≤ maxLen ∧ zs.length = cap ∧ (∀ i, i < zs.length → w.cell? (x.add i) = some (.int k (zs.getD i 0))) ∧ ∀ n ∈ zs, (Lit.int k n).wf = true

/-! ### STEP 1: THE WALK: the Go text returns true, AND WRITES NOTHING THAT WAS THERE: 'Below w.heap.size w w'' (Derived/Below.lean: '.refl', '.alloc', '.drew', '.setCell' at a new block, '.trans'). Open each 'IsRow' by 'rcases' AHEAD of 'go_enter'; part every test ahead of the walk. -/
set_option maxRecDepth 100000 in
set_option maxHeartbeats 40000000 in
theorem walk (a0 : Option Addr) (len0 cap0 : Nat) (z0 : List Int) (w : World) (w0 : IsRow .u8 w a0 len0 cap0 z0) :
    Calls Tryz.prog 4 #[.slice a0 len0 cap0] w fun e w' => e = .returned (.bool true) ∧ Below w.heap.size w w' := by
  have key : ∀ (a : Option Addr) (len cap : Nat) (z : List Int), IsRow .u8 w a len cap z → Cu.Bytes w w.heap.size a len := by
    intro a len cap z h
    rcases h with ⟨rfl, rfl, rfl, rfl⟩ | ⟨x, rfl, hl, _, hz, hc, hw⟩
    · exact .inl rfl
    · exact Cu.bytes_of _ (Nat.le_refl _) hl hz hc hw
  have B0 := key _ _ _ _ w0
  clear key w0
  by_cases hb0 : 1048576 < len0
  · have e0 : decide (1048576 < len0) = true := by simpa using hb0
    go_enter Tryz.func4, Tryz.ntmps4
    go_wp2_with (go_at_call 5; refine (Cu.big_any _ _ _ _).mono ?_; rintro e w' ⟨rfl, hw⟩; subst w')
    go_ret
    exact ⟨rfl, Below.refl _ _⟩
  have e0 : decide (1048576 < len0) = false := by simpa using hb0
  go_enter Tryz.func4, Tryz.ntmps4
  go_wp2_with (go_at_call 5; refine (Cu.big_any _ _ _ _).mono ?_; rintro e w' ⟨rfl, hw⟩; subst w')
  refine (Dm.drawFeatures_any _ _ _ _ B0 (by omega)).mono ?_
  rintro e w1 ⟨m, vk, vt, u0, u1, r, rfl, hsz, hrz, om, ow, hB⟩
  obtain ⟨ak, ck, ax, ct, rfl, rfl, rm⟩ := om.rm
  obtain ⟨d0, e0_, d1, e1_, rfl, rfl, -, i0, i1, hcap⟩ := ow.rowc
  have HRC1 : Hid (Md.RowC w1 (.slice d0 r.nums.length e0_) (.slice d1 r.cats.length e1_) (.int .i64 r.label) r) := ⟨_, _, _, _, rfl, rfl, rfl, i0, i1, hcap⟩
  have HSZ : Hid (m.sz ≤ 1048576) := by show _ ≤ _; omega
  have HRZ : Hid (r.sz ≤ 60) := hrz
  clear B0 hb0 e0 hsz hrz om ow i0 i1 hcap
  go_wp2_with fail
  obtain ⟨W, hW, hsW, hBW, bm, br⟩ := Sv.new2 w1 [.int .i64 m.n, .int .i64 m.c, .int .i64 m.prior, .int .i64 m.base, .slice ak m.ks.length ck, .slice ax m.ts.length ct] [.slice d0 r.nums.length e0_, .slice d1 r.cats.length e1_, .int .i64 r.label] 29 33
  rw [hW]
  obtain ⟨P, hP⟩ : ∃ P, w1.heap.size = P := ⟨_, rfl⟩
  have HRM : Hid (Md.Rm W ak ax m) := rm.below hBW
  have HRC : Hid (type_of% (HRC1.out.below hBW)) := HRC1.out.below hBW
  have HB : Hid (Below w.heap.size w W) := hB.trans (hBW.mono hB.size)
  rw [hP] at bm br ⊢
  have hPW : P + 2 ≤ W.heap.size := by omega
  clear hW hsW hBW hP rm hB HRC1
  refine (Md.ifs W _ _ _ _ m HRM.out HSZ.out _ _ _ r HRC.out (by have := HRZ.out; omega)).mono ?_
  rintro e w2 ⟨v, rfl, ol, hb2⟩
  obtain ⟨al, cl, rfl, il⟩ := ol.isl
  have HIL : Hid (Li.IsL w2 al (Md.feats m r)) := il
  have HBM2 : Hid (type_of% (bm.below hb2)) := bm.below hb2
  have HBR2 : Hid (type_of% (br.below hb2)) := br.below hb2
  have HB2 : Hid (Below W.heap.size W w2) := hb2
  obtain ⟨_, ⟨x0, x1, x2, x3, x4, x5⟩, _⟩ := Md.wr6 HBM2.out
  obtain ⟨_, ⟨y0, y1, y2⟩, _⟩ := Md.wr3 HBR2.out
  clear ol il bm br hb2
  go_wp2_with fail
  refine (Md.sfs w2 _ _ _ _ m (HRM.out.below HB2.out) HSZ.out _ _ _ r (HRC.out.below HB2.out).row (by have := HRZ.out; omega)).mono ?_
  rintro e w3 ⟨v, rfl, ol, hb3⟩
  obtain ⟨as_, cs, rfl, is_⟩ := ol.isl
  have HIS : Hid (Li.IsL w3 as_ (Md.feats m r)) := is_
  have HB23 : Hid (Below w2.heap.size w2 w3) := hb3
  have HB3 : Hid (Below W.heap.size W w3) := HB2.out.trans (hb3.mono HB2.out.size)
  have HBM3 : Hid (type_of% (HBM2.out.below hb3)) := HBM2.out.below hb3
  have HBR3 : Hid (type_of% (HBR2.out.below hb3)) := HBR2.out.below hb3
  have hFl := Md.feats_le m r
  clear ol hb3 is_ x0 x1 x2 x3 x4 x5 y0 y1 y2 HBM2 HBR2
  obtain ⟨_, ⟨x0, x1, x2, x3, x4, x5⟩, _⟩ := Md.wr6 HBM3.out
  obtain ⟨_, ⟨y0, y1, y2⟩, _⟩ := Md.wr3 HBR3.out
  have HSM : Hid (∀ X, Below w3.heap.size w3 X → Calls Tryz.prog 9 #[.slice al (Md.feats m r).length cl, .slice as_ (Md.feats m r).length cs] X fun e w' => e = .returned (.bool true) ∧ Below X.heap.size X w') := fun X hX => by
    have h := Li.same_bel X al as_ cl cs (Md.feats m r) (Md.feats m r) ((HIL.out.below HB23.out).below hX) (HIS.out.below hX) (by omega) (by omega)
    rw [Li.eqs_self] at h
    exact h
  cases hft : Md.fits m r with
  | false =>
    have hq0 : (Md.feats m r).length = 0 := by rw [Md.feats_no hft]; rfl
    rw [hq0] at HSM ⊢
    clear hft hFl hq0
    go_wp2_with fail
    refine (HSM.out _ (Below.refl _ _)).mono ?_
    rintro e w4 ⟨rfl, hb4⟩
    have HB4 : Hid (Below w3.heap.size w3 w4) := hb4
    clear hb4
    have hE : Below w.heap.size w w4 := HB.out.trans ((HB3.out.trans (HB4.out.mono HB3.out.size)).mono HB.out.size)
    go_wp2_with fail
    go_ret
    exact ⟨rfl, hE⟩
  | true =>
  have HFT : Hid (Md.fits m r = true) := hft
  obtain ⟨hm1, hm2, hm3⟩ := Md.fits_parts hft
  obtain ⟨n0, n3, c0, c2⟩ := Md.dims hm1
  have HM3 : Hid ((r.cats.length : Int) = m.c) := hm3
  have HQ6 : Hid ((Md.feats m r).length = 6) := by show _ = _; rw [Md.feats_yes hft]; have hk := (Md.mok_parts hm1).2.2.2.2.1; have hnc : Md.ncol m.c ≤ 3 := (by unfold Md.ncol; split <;> omega); simp [Md.pad, Md.fl]; omega
  rw [HQ6.out] at HSM ⊢
  clear hft hFl hm1 hm2 hm3
  go_wp2_with fail
  refine (HSM.out _ (Below.refl _ _)).mono ?_
  rintro e w4 ⟨rfl, hb4⟩
  have HB4 : Hid (Below w3.heap.size w3 w4) := hb4
  clear hb4
  have HBM4 : Hid (type_of% (HBM3.out.below HB4.out)) := HBM3.out.below HB4.out
  have HBR4 : Hid (type_of% (HBR3.out.below HB4.out)) := HBR3.out.below HB4.out
  have HBW4 : Hid (Below W.heap.size W w4) := HB3.out.trans (HB4.out.mono HB3.out.size)
  have HB04 : Hid (Below w.heap.size w w4) := HB.out.trans (HBW4.out.mono HB.out.size)
  clear x0 x1 x2 x3 x4 x5 y0 y1 y2 HBM3 HBR3
  obtain ⟨hlM, ⟨x0, x1, x2, x3, x4, x5⟩, _⟩ := Md.wr6 HBM4.out
  obtain ⟨hlR, ⟨y0, y1, y2⟩, _⟩ := Md.wr3 HBR4.out
  by_cases hc0 : m.c = 0
  · have hcd : (m.c == 0) = true := by simp [hc0]
    clear hc0
    go_wp2_with fail
    go_ret
    exact ⟨rfl, HB04.out⟩
  have hcd : (m.c == 0) = false := by simp [hc0]
  have hcp : 0 < r.cats.length := by have := HM3.out; omega
  have HCP : Hid (0 < r.cats.length) := hcp
  obtain ⟨s, hs⟩ : ∃ s : ByteArray, s = ⟨#[97, 32, 119, 111, 114, 100, 32, 116, 104, 97, 116, 32, 105, 115, 32, 108, 111, 110, 103, 101, 114, 32, 116, 104, 97, 110, 32, 97, 110, 121, 32, 119, 111, 114, 100, 32, 109, 97, 121, 32, 98, 101]⟩ := ⟨_, rfl⟩
  have HS : Hid (s = ⟨#[97, 32, 119, 111, 114, 100, 32, 116, 104, 97, 116, 32, 105, 115, 32, 108, 111, 110, 103, 101, 114, 32, 116, 104, 97, 110, 32, 97, 110, 121, 32, 119, 111, 114, 100, 32, 109, 97, 121, 32, 98, 101]⟩) := hs
  have hss : 25 < s.size := by rw [hs]; decide
  have HUN : Hid (type_of% (Md.unk HFT.out hcp hss)) := Md.unk HFT.out hcp hss
  have HFO : Hid (Md.fits m (Md.other r s) = true) := Md.fits_other HFT.out s
  have HOZ : Hid ((Md.other r s).sz ≤ 1048576) := by
    show _ ≤ _
    have h1 := HRZ.out
    have h2 : Tb.lets (r.cats.set 0 s) ≤ Tb.lets r.cats + s.size := by
      cases r.cats with
      | nil => simp [Tb.lets]
      | cons x xs => simp only [List.set_cons_zero, Tb.lets]; omega
    have h3 : s.size = 42 := by rw [hs]; decide
    unfold Tb.Row.sz at h1
    unfold Tb.Row.sz Md.other
    simp only [List.length_set]
    omega
  clear hc0 hcp hss hs
  obtain ⟨W5, hW5, hs5, hB5, b9⟩ := Sv.new1 w4 [.slice d0 r.nums.length e0_, .slice d1 r.cats.length e1_, .int .i64 r.label] 33
  have HW5 : Hid (w4.alloc (.cells #[.slice d0 r.nums.length e0_, .slice d1 r.cats.length e1_, .int .i64 r.label] 33) = W5) := hW5
  have O5 : Ls.Own (W5.alloc (.cells #[] 9)) (w4.heap.size + 1) (.slice (some ⟨w4.heap.size + 1, 0, none⟩) 0 0) [] := by
    have h := Ap.sown_empty W5 W5.heap.size (Nat.le_refl _)
    rw [hs5] at h
    exact h
  have HA5 : Hid (Below W5.heap.size W5 (W5.alloc (.cells #[] 9))) := (Below.refl _ _).alloc (Nat.le_refl _) _
  have HSA : Hid ((W5.alloc (.cells #[] 9)).heap.size = w4.heap.size + 2) := by show _ = _; rw [World.size_alloc]; omega
  have HO5 : Hid (type_of% O5) := O5
  have HB5 : Hid (Below w4.heap.size w4 W5) := hB5
  have HIS5 : Hid (Ls.IsS (W5.alloc (.cells #[] 9)) d1 r.cats) := by
    obtain ⟨_, _, _, _, _, q1, _, _, q2, _⟩ := ((HRC.out.below HBW4.out).below HB5.out).below HA5.out
    injection q1 with q1
    subst q1
    exact q2
  have HB9 : Hid (Sv.Wr W5 w4.heap.size 0 [.slice d0 r.nums.length e0_, .slice d1 r.cats.length e1_, .int .i64 r.label]) := b9
  have hcz : r.cats.length ≤ 1048576 := by have := HRZ.out; unfold Tb.Row.sz at this; omega
  have hcp2 : (0 : Int) < (r.cats.length : Int) := by have := HCP.out; omega
  clear hW5 hs5 hB5 b9 O5
  go_upto_region 13 with (at_builtin; rw [HW5.out]; refine As.wpl_appS rfl _ _ rfl (w4.heap.size + 1) (w4.heap.size + 1) d1 r.cats.length e1_ r.cats rfl rfl HO5.out rfl HIS5.out hcz (by rw [HSA.out]; omega) ?_; intro g cap w6 how hgrow hloc hgl; rw [HSA.out] at hloc; have hb6 : Below w4.heap.size w4 w6 := ((HB5.out.trans (HA5.out.mono HB5.out.size)).trans ⟨hgrow.os, hgrow.tape, hgrow.output, hgrow.size, fun q hq => hgrow.block q (by have := HSA.out; omega) (fun e => by injection e with e; omega)⟩); have h96 := (HB9.out.below HA5.out).keptAt hgrow.size (hgrow.block w4.heap.size (by have := HSA.out; omega) (fun e => by injection e with e; omega)); obtain ⟨hl9, ⟨z0, z1, z2⟩, g0, g1, g2⟩ := Md.wr3 h96; have hk0 := how.cell rfl 0 HCP.out; have hkf := how.frozen rfl 0; have HOW : Hid (type_of% how) := how; have HB6 : Hid (type_of% hb6) := hb6; have H96 : Hid (type_of% h96) := h96; have hgq : ¬ w4.heap.size = g := (by omega); have hgq2 : ¬ g = w4.heap.size := (by omega); have HGG : Hid (w4.heap.size + 1 ≤ g) := (by show _ ≤ _; omega); clear how hb6 h96 hgrow hloc)
  obtain ⟨w7, hw7⟩ : ∃ X, (w6.setCell ⟨w4.heap.size, 1, none⟩ (.slice (some ⟨g, 0, none⟩) r.cats.length cap)).setCell ⟨g, 0, none⟩ (.string ⟨#[97, 32, 119, 111, 114, 100, 32, 116, 104, 97, 116, 32, 105, 115, 32, 108, 111, 110, 103, 101, 114, 32, 116, 104, 97, 110, 32, 97, 110, 121, 32, 119, 111, 114, 100, 32, 109, 97, 121, 32, 98, 101]⟩) = X := ⟨_, rfl⟩
  have HW7 : Hid ((w6.setCell ⟨w4.heap.size, 1, none⟩ (.slice (some ⟨g, 0, none⟩) r.cats.length cap)).setCell ⟨g, 0, none⟩ (.string s) = w7) := by rw [HS.out]; exact hw7
  rw [hw7]
  clear hw7 x0 x1 x2 x3 x4 x5 y0 y1 y2 z0 z1 z2 g0 g1 g2 hk0 hkf hl9 hlM hlR
  have HB47 : Hid (Below w4.heap.size w4 w7) := by
    rw [← HW7.out]
    exact ((HB6.out.setCell (p := ⟨w4.heap.size, 1, none⟩) (Nat.le_refl _) _).setCell (p := ⟨g, 0, none⟩) (by have := HGG.out; show w4.heap.size ≤ g; omega) _)
  have H97 : Hid (Sv.Wr w7 w4.heap.size 0 [.slice d0 r.nums.length e0_, .slice (some ⟨g, 0, none⟩) r.cats.length cap, .int .i64 r.label]) := by
    rw [← HW7.out]
    exact (H96.out.set 1 (by simp) _).setOther hgq
  have HRO : Hid (Md.RowC w7 (.slice d0 r.nums.length e0_) (.slice (some ⟨g, 0, none⟩) r.cats.length cap) (.int .i64 r.label) (Md.other r s)) := by
    have h1 : Ls.Own (w6.setCell ⟨w4.heap.size, 1, none⟩ (.slice (some ⟨g, 0, none⟩) r.cats.length cap)) (w4.heap.size + 1) (.slice (some ⟨g, 0, none⟩) r.cats.length cap) r.cats :=
      Tb.ownsRow_at HOW.out (fun q e => by
        have e2 : q = g := by simpa [Value.ownBlock] using e.symm
        subst e2
        exact Below.heap_setCell _ _ _ _ (by simpa using hgq2))
    have h2 := h1.set rfl 0 s
    rw [HW7.out] at h2
    have h3 : (r.cats.set 0 s).length = r.cats.length := List.length_set
    have hcap2 : r.cats.length ≤ cap := by
      rcases HOW.out.2 with ⟨e, _⟩ | ⟨_, _, _, e, _, _, hle, _⟩
      · cases e
      · injection e with _ _ e; rw [e]; exact hle
    have h2' : Ls.Own w7 (w4.heap.size + 1) (.slice (some ⟨g, 0, none⟩) r.cats.length cap) (r.cats.set 0 s) := h2
    obtain ⟨_, _, e9, i9⟩ := h2'.iss
    injection e9 with e9
    obtain ⟨_, _, _, _, q0, _, _, q3, _, _⟩ := (HRC.out.below HBW4.out).below HB47.out
    injection q0 with q0
    refine ⟨d0, e0_, some ⟨g, 0, none⟩, cap, rfl, ?_, rfl, by rw [q0]; exact q3, by rw [e9]; exact i9, ?_⟩
    · show Value.slice _ r.cats.length _ = Value.slice _ (r.cats.set 0 s).length _
      rw [h3]
    · show (r.cats.set 0 s).length ≤ cap
      rw [h3]; exact hcap2
  have HBM7 : Hid (type_of% (HBM4.out.below HB47.out)) := HBM4.out.below HB47.out
  have HB07 : Hid (Below w.heap.size w w7) := HB04.out.trans (HB47.out.mono HB04.out.size)
  clear HW7 HB6 HOW H96 HO5 HIS5 HA5 HB5 HB9 HW5 HSA hgq hgq2 hcz hcp2
  obtain ⟨_, ⟨x0, x1, x2, x3, x4, x5⟩, _⟩ := Md.wr6 HBM7.out
  obtain ⟨_, ⟨y0, y1, y2⟩, _⟩ := Md.wr3 H97.out
  go_wp2_with fail
  refine (Md.ifs w7 _ _ _ _ m ((HRM.out.below HBW4.out).below HB47.out) HSZ.out _ _ _ (Md.other r s) HRO.out HOZ.out).mono ?_
  rintro e w8 ⟨v, rfl, o8, hb8⟩
  rw [HFO.out]
  obtain ⟨ag, cg, rfl, i8⟩ := o8.isl
  have HB78 : Hid (Below w7.heap.size w7 w8) := hb8
  have HB48 : Hid (Below w4.heap.size w4 w8) := HB47.out.trans (hb8.mono HB47.out.size)
  have HBM8 : Hid (type_of% (HBM7.out.below hb8)) := HBM7.out.below hb8
  have HB08 : Hid (Below w.heap.size w w8) := HB07.out.trans (hb8.mono HB07.out.size)
  have HIG : Hid (Li.IsL w8 ag (Md.feats m (Md.other r s))) := i8
  have HIF : Hid (Li.IsL w8 al (Md.feats m r)) := (HIL.out.below (HB23.out.trans (HB4.out.mono HB23.out.size))).below (HB48.out)
  obtain ⟨lF, lG, uA, uB, uC⟩ := HUN.out
  have HUN2 : Hid (type_of% uA) := uA
  have HUB : Hid (type_of% uB) := uB
  have HUC : Hid (type_of% uC) := uC
  have HLF : Hid (type_of% lF) := lF
  have HLG : Hid (type_of% lG) := lG
  rw [lG]
  generalize Md.feats m (Md.other r s) = G at HIG HUN2 HUB HUC HLG
  generalize Md.feats m r = F at HIF HUB HUC HLF
  have read : ∀ (aa : Option Addr) (L : List Int), Li.IsL w8 aa L → L.length = 6 → ∃ bb oo, aa = some ⟨bb, oo, none⟩ ∧ ∀ X, Below w8.heap.size w8 X → ∀ k : Nat, k < 6 → X.cell? ⟨bb, oo + k, none⟩ = some (.int .i64 (L.getD k 0)) := fun aa L hL hl => by
    rcases hL with h0 | ⟨bb, oo, e, hlt, hc⟩
    · rw [h0] at hl; cases hl
    · refine ⟨bb, oo, e, fun X hX k hk => ?_⟩
      rw [(hX.cell (p := ⟨bb, oo + k, none⟩) hlt), hc k (by omega), List.getD_eq_getElem?_getD, List.getElem?_eq_getElem (by omega)]
      rfl
  obtain ⟨gb, gf, rfl, hG⟩ := read ag G HIG.out HLG.out
  obtain ⟨fb, ff, rfl, hF⟩ := read al F HIF.out HLF.out
  have HGC : Hid (type_of% hG) := hG
  have HFC : Hid (type_of% hF) := hF
  clear o8 i8 hb8 read hG hF lF lG uA uB uC x0 x1 x2 x3 x4 x5 y0 y1 y2 HUN
  obtain ⟨hlM, ⟨x0, x1, x2, x3, x4, x5⟩, _⟩ := Md.wr6 HBM8.out
  have hn6 : m.n < 6 := by omega
  have hgn : w8.cell? ⟨gb, gf + m.n.toNat, none⟩ = some (.int .i64 m.prior) := by
    have := HGC.out w8 (Below.refl _ _) m.n.toNat (by omega)
    rw [HUN2.out] at this
    exact this
  have hpp : (m.prior != m.prior) = false := by simp
  go_wp2_with fail
  go_big_quiet (fail)
  obtain ⟨w9, hw9⟩ : ∃ X, w8.drewN nq = X := ⟨_, rfl⟩
  rw [hw9]
  have HB89 : Hid (Below w8.heap.size w8 w9) := by rw [← hw9]; exact ⟨rfl, rfl, rfl, Nat.le_refl _, fun _ _ => rfl⟩
  clear hw9 x0 x1 x2 x3 x4 x5 hgn hpp hlM
  go_wp2_with fail
  go_loopw [12] (fun i wr => ∃ k : Nat, (k : Int) ≤ m.n ∧ i = .int .i64 k ∧ Below w8.heap.size w8 wr) (fun i _ => (m.n - intOf i).toNat)
  case atStart => exact ⟨0, by omega, rfl, HB89.out⟩
  case round =>
    obtain ⟨k, hk, rfl, hb⟩ := hrel
    have HBR : Hid (Below w8.heap.size w8 wr) := hb
    obtain ⟨hlM, ⟨x0, x1, x2, x3, x4, x5⟩, _⟩ := Md.wr6 (HBM8.out.below hb)
    clear hb
    by_cases hlt : (k : Int) < m.n
    · have hk6 : k < 6 := by omega
      have hgk := HGC.out wr HBR.out k hk6
      have hfk := HFC.out wr HBR.out k hk6
      rw [HUB.out k (by omega)] at hgk
      obtain ⟨z, hz⟩ : ∃ z, F.getD k 0 = z := ⟨_, rfl⟩
      rw [hz] at hgk hfk
      have hzz : (z != z) = false := by simp
      clear hz
      go_wp2_with fail
      go_big_quiet (fail)
      obtain ⟨w10, hw10⟩ : ∃ X, wr.drewN nq = X := ⟨_, rfl⟩
      rw [hw10]
      have HB10 : Hid (Below w8.heap.size w8 w10) := by rw [← hw10]; exact ⟨HBR.out.os, HBR.out.tape, HBR.out.output, HBR.out.size, HBR.out.block⟩
      clear hw10
      go_wp2_with fail
      go_roundw
      case rel => exact ⟨k + 1, by omega, by go_num, HB10.out⟩
      case measure => simp [intOf]; omega
    · obtain rfl : k = m.n.toNat := by omega
      have hE : Hid (Below w.heap.size w wr) := HB08.out.trans (HBR.out.mono HB08.out.size)
      have hkn : ((m.n.toNat : Nat) : Int) = m.n := by omega
      go_wp2_with fail
      by_cases hc2 : m.c < 2
      · have hd2 : decide (m.c < 2) = true := by simpa using hc2
        go_big_quiet (fail)
        go_wp2_with fail
        go_ret
        exact ⟨rfl, ⟨hE.out.os, hE.out.tape, hE.out.output, hE.out.size, hE.out.block⟩⟩
      · have hd2 : decide (m.c < 2) = false := by simpa using hc2
        obtain ⟨v1, v2⟩ := HUC.out (by omega)
        have h1w : IntKind.i64.wrap (m.n + 1) = m.n + 1 := by rw [IntKind.wrap_i64]; omega
        have h2w : IntKind.i64.wrap (m.n + 2) = m.n + 2 := by rw [IntKind.wrap_i64]; omega
        have p1 : 0 ≤ m.n + 1 := by omega
        have p2 : 0 ≤ m.n + 2 := by omega
        have q1 : m.n + 1 < 6 := by omega
        have q2 : m.n + 2 < 6 := by omega
        have g1 := HGC.out wr HBR.out (m.n + 1).toNat (by omega)
        have f1 := HFC.out wr HBR.out (m.n + 1).toNat (by omega)
        have g2 := HGC.out wr HBR.out (m.n + 2).toNat (by omega)
        rw [show (m.n + 1).toNat = m.n.toNat + 1 by omega, v1] at g1
        rw [show (m.n + 1).toNat = m.n.toNat + 1 by omega] at f1
        rw [show (m.n + 2).toNat = m.n.toNat + 2 by omega, v2] at g2
        rw [show m.n.toNat + 1 = (m.n + 1).toNat by omega] at g1 f1
        rw [show m.n.toNat + 2 = (m.n + 2).toNat by omega] at g2
        obtain ⟨z, hz⟩ : ∃ z, F.getD (m.n + 1).toNat 0 = z := ⟨_, rfl⟩
        rw [hz] at g1 f1
        have hzz : (z == z) = true := by simp
        have hpp : (m.prior == m.prior) = true := by simp
        clear hz v1 v2
        go_big_quiet (fail)
        go_wp2_with fail
        go_ret
        exact ⟨rfl, ⟨hE.out.os, hE.out.tape, hE.out.output, hE.out.size, hE.out.block⟩⟩

/-! ### THE ROW's STEP: WRITTEN OUT: LEAVE IT -/
set_option maxRecDepth 100000 in
theorem lifted (os : Os) (started : os.Started) (H : Type) (enc : TypeId × Value → H) :
    ReturnsInHanded {} Tryz.checked os 4 .any (Rows.fnUnknownSpec.pre6 enc Tryz.prog Tryz.f4 Rows.fnUnknownRow.domain false) (Rows.fnUnknownSpec.post enc Tryz.prog Tryz.f4 false true false false) := by
  refine returnsInHanded_of_change (C := Tryz.checked) own started (by kernel_rfl) Tryz.func4
    (ChangeSpec.witness6 (enc := enc) (C := Tryz.checked) false ⟨#[], #[.slice none 0 0], []⟩ 8 (by kernel_rfl) (by kernel_rfl) (by kernel_rfl) (by kernel_rfl)) ?_
  intro W base args ds gs before hval0 hW hcnd _
  have hval : ∀ (j : Nat) t v, Tryz.f4.params[j]? = some t → args[j]? = some v → Value.okWide Tryz.prog W .any base t v := hval0
  have hW' := hW
  obtain ⟨p, q, hA0, hV, rfl, hfz, hnd⟩ := hW
  have hA : DataW.TrodAll enc Tryz.prog W 0 (fun _ => true) true Tryz.f4.params.toList args.toList ds p := hA0
  rw [Tryz.params4] at hA hval
  obtain ⟨v0, vs0, d0, ds0, p0, q0, hargs, rfl, rfl, h0, r0⟩ := trodAll_cons hA
  obtain ⟨rfl, rfl, rfl⟩ := trodAll_nil r0
  obtain rfl : args = #[v0] := by cases args; simp_all
  obtain ⟨rfl, rfl⟩ := trodVars_none hV
  obtain ⟨a0, len0, cap0, rfl⟩ := okWide_slice Tryz.underlying22 (hval 0 22 v0 rfl rfl)
  have k0 := h0
  have lt0 : ∀ x ∈ p0, x.block < W.heap.size := by obtain ⟨m, hm⟩ := k0; exact DataW.trod_lt m _ _ _ hm
  obtain ⟨z0, w0⟩ : ∃ zs, IsRow .u8 W a0 len0 cap0 zs := by
    obtain ⟨fuel, hf⟩ := h0
    rcases open_ints Tryz.underlying22 Tryz.underlying5 (by kernel_rfl) hf with ⟨hcs, _⟩ | ⟨x, l, c, zs, hcs, _, hl, hm, hz, _, hcell, hwz⟩
    · simp [Value.cells] at hcs
      obtain ⟨rfl, rfl, rfl⟩ := hcs
      exact ⟨[], .inl ⟨rfl, rfl, rfl, rfl⟩⟩
    · simp [Value.cells] at hcs
      obtain ⟨rfl, rfl, rfl⟩ := hcs
      exact ⟨zs, .inr ⟨_, rfl, hl, hm, by simpa using hz, hcell, hwz⟩⟩
  clear hA0 hval0
  refine (walk a0 len0 cap0 z0 W w0).mono fun e W' ⟨he, bel⟩ => ?_
  subst he
  exact ⟨_, rfl, _, _, _, [], _, [], hW', trodAll_mk1 (shut_bool Tryz.underlying4 _), (trodAll_cons_mk (Below.trod laidOut (by kernel_rfl) (of_decide_eq_true (by kernel_rfl)) k0 bel lt0) trodAll_mk0), rfl, bel.frame _, fun h => by cases h⟩

theorem over : Rows.fnUnknownRow.holds Tryz.pinned (OpenSpec.ofChange Rows.fnUnknownSpec) :=
  OpenClaim.holds_of_wide 4 Tryz.f4 rfl rfl rfl rfl rfl rfl rfl ⟨rfl, rfl, rfl, rfl, rfl⟩ rfl rfl rfl rfl rfl (by kernel_rfl) Tryz.func4 (by kernel_rfl)
    (of_decide_eq_true (by kernel_rfl)) (by unfold Func.isWrapper; first | (rw [if_pos (by decide +kernel)]; kernel_rfl) | (rw [if_neg (by decide +kernel)]; exact ⟨rfl, rfl⟩))
    (fun os started H enc _ => lifted os started H enc)

theorem proved : Rows.FnUnknownSaid := over
#print axioms proved
end Go.Proofs.YtcadgeepknhmfaaGreat.fnUnknown
