/-
  Proved here: the Go function laws.FnStages, called with any arguments that can be read, returns true, and each argument reads afterwards as it read before ('Rows.FnStagesSaid', no condition beyond the row's own). The frame was written by the guide's program; the walk and its contracts are by hand.
-/
import Derived.Test.YtcadgeepknhmfaaGreatRows
import Derived.WalkKit
import Derived.ProofKit
import Derived.OpenShut
import Derived.ShutString
import Derived.ChangeOld
import Derived.Below
import Derived.Test.YtcadgeepknhmfaaGreatPart23
import Derived.Test.YtcadgeepknhmfaaGreatPart27
import Derived.Test.YtcadgeepknhmfaaGreatPart28
import Derived.Deep.Cut
namespace Go.Proofs.YtcadgeepknhmfaaGreat.fnStages
open Go.ChangeShapes Go.WideShapes Go.ChangeAt Go.RowKit
open Go.ChangeMaps (open_string shut_string)
set_option linter.unusedVariables false

theorem own : ownKnob Tryz.prog.godebug = none := by kernel_rfl
theorem laidOut : laidOutB Tryz.prog = true := by kernel_rfl

def IsRow (k : IntKind) (w : World) (a : Option Addr) (len cap : Nat) (zs : List Int) : Prop :=
  (a = none ∧ len = 0 ∧ cap = 0 ∧ zs = []) ∨
  ∃ x, a = some x ∧ len ≤ cap ∧ cap ≤ maxLen ∧ zs.length = cap ∧ (∀ i, i < zs.length → w.cell? (x.add i) = some (.int k (zs.getD i 0))) ∧ ∀ n ∈ zs, (Lit.int k n).wf = true

/-! ### STEP 1: THE WALK: the Go text returns true, AND WRITES NOTHING THAT WAS THERE: 'Below w.heap.size w w'' (Derived/Below.lean: '.refl', '.alloc', '.drew', '.setCell' at a new block, '.trans'). Open each 'IsRow' by 'rcases' AHEAD of 'go_enter'; part every test ahead of the walk. -/
set_option maxRecDepth 100000 in
set_option maxHeartbeats 40000000 in
theorem walk (a0 : Option Addr) (len0 cap0 : Nat) (z0 : List Int) (w : World) (w0 : IsRow .u8 w a0 len0 cap0 z0) :
    Calls Tryz.prog 3 #[.slice a0 len0 cap0] w fun e w' => e = .returned (.bool true) ∧ Below w.heap.size w w' := by
  have key : ∀ (a : Option Addr) (len cap : Nat) (z : List Int), IsRow .u8 w a len cap z → Cu.Bytes w w.heap.size a len := by
    intro a len cap z h
    rcases h with ⟨rfl, rfl, rfl, rfl⟩ | ⟨x, rfl, hl, _, hz, hc, hw⟩
    · exact .inl rfl
    · exact Cu.bytes_of _ (Nat.le_refl _) hl hz hc hw
  have B0 := key _ _ _ _ w0
  clear key w0
  by_cases hb0 : 1048576 < len0
  · have e0 : decide (1048576 < len0) = true := by simpa using hb0
    go_enter Tryz.func3, Tryz.ntmps3
    go_wp2_with (go_at_call 5; refine (Cu.big_any _ _ _ _).mono ?_; rintro e w' ⟨rfl, hw⟩; subst w')
    go_ret
    exact ⟨rfl, Below.refl _ _⟩
  have e0 : decide (1048576 < len0) = false := by simpa using hb0
  go_enter Tryz.func3, Tryz.ntmps3
  go_wp2_with (go_at_call 5; refine (Cu.big_any _ _ _ _).mono ?_; rintro e w' ⟨rfl, hw⟩; subst w')
  refine (Dm.drawStaged_any _ _ _ _ B0 (by omega)).mono ?_
  rintro e w1 ⟨m, vk, vt, u0, u1, r, rfl, hsz, hrz, om, ow, hB⟩
  obtain ⟨ak, ck, ax, ct, rfl, rfl, rmc⟩ := om.rmc
  obtain ⟨d0, e0_, d1, e1_, rfl, rfl, -, i0, i1, hcap⟩ := ow.rowc
  have HRC1 : Hid (Md.RowC w1 (.slice d0 r.nums.length e0_) (.slice d1 r.cats.length e1_) (.int .i64 r.label) r) := ⟨_, _, _, _, rfl, rfl, rfl, i0, i1, hcap⟩
  have HSZ : Hid (m.sz ≤ 1048576) := by show _ ≤ _; omega
  have HRZ : Hid (r.sz ≤ 60) := hrz
  clear B0 hb0 e0 hsz hrz om ow i0 i1 hcap
  go_wp2_with fail
  obtain ⟨W, hW, hsW, hBW, bm, br⟩ := Sv.new2 w1 [.int .i64 m.n, .int .i64 m.c, .int .i64 m.prior, .int .i64 m.base, .slice ak m.ks.length ck, .slice ax m.ts.length ct] [.slice d0 r.nums.length e0_, .slice d1 r.cats.length e1_, .int .i64 r.label] 29 33
  rw [hW]
  obtain ⟨P, hP⟩ : ∃ P, w1.heap.size = P := ⟨_, rfl⟩
  have HRM : Hid (Md.Rmc W ak ax ct m) := rmc.below hBW
  have HRC : Hid (type_of% (HRC1.out.below hBW)) := HRC1.out.below hBW
  have HB : Hid (Below w.heap.size w W) := hB.trans (hBW.mono hB.size)
  rw [hP] at bm br ⊢
  have hPW : P + 2 ≤ W.heap.size := by omega
  clear hW hsW hBW hP rmc hB HRC1
  refine (Md.istg W _ _ _ _ m HRM.out HSZ.out _ _ _ r HRC.out (by have := HRZ.out; omega)).mono ?_
  rintro e w2 ⟨v, rfl, ol, hb2⟩
  obtain ⟨al, cl, rfl, il⟩ := ol.isl
  have HIL : Hid (Li.IsL w2 al (Md.stg m r)) := il
  have HBM2 : Hid (type_of% (bm.below hb2)) := bm.below hb2
  have HBR2 : Hid (type_of% (br.below hb2)) := br.below hb2
  have HB2 : Hid (Below W.heap.size W w2) := hb2
  obtain ⟨_, ⟨x0, x1, x2, x3, x4, x5⟩, _⟩ := Md.wr6 HBM2.out
  obtain ⟨_, ⟨y0, y1, y2⟩, _⟩ := Md.wr3 HBR2.out
  clear ol il bm br hb2
  go_wp2_with fail
  refine (Md.sstg w2 _ _ _ _ m (HRM.out.below HB2.out) HSZ.out _ _ _ r (HRC.out.below HB2.out).row (by have := HRZ.out; omega)).mono ?_
  rintro e w3 ⟨v, rfl, ol, hb3⟩
  obtain ⟨as_, cs, rfl, is_⟩ := ol.isl
  have HIS : Hid (Li.IsL w3 as_ (Md.stg m r)) := is_
  have HB23 : Hid (Below w2.heap.size w2 w3) := hb3
  have HB3 : Hid (Below W.heap.size W w3) := HB2.out.trans (hb3.mono HB2.out.size)
  have HBM3 : Hid (type_of% (HBM2.out.below hb3)) := HBM2.out.below hb3
  have HBR3 : Hid (type_of% (HBR2.out.below hb3)) := HBR2.out.below hb3
  have hFl := Md.stg_le m r
  clear ol hb3 is_ x0 x1 x2 x3 x4 x5 y0 y1 y2 HBM2 HBR2
  obtain ⟨_, ⟨x0, x1, x2, x3, x4, x5⟩, _⟩ := Md.wr6 HBM3.out
  obtain ⟨_, ⟨y0, y1, y2⟩, _⟩ := Md.wr3 HBR3.out
  have HSM : Hid (∀ X, Below w3.heap.size w3 X → Calls Tryz.prog 9 #[.slice al (Md.stg m r).length cl, .slice as_ (Md.stg m r).length cs] X fun e w' => e = .returned (.bool true) ∧ Below X.heap.size X w') := fun X hX => by
    have h := Li.same_bel X al as_ cl cs (Md.stg m r) (Md.stg m r) ((HIL.out.below HB23.out).below hX) (HIS.out.below hX) (by omega) (by omega)
    rw [Li.eqs_self] at h
    exact h
  have hff : ∀ bb : Bool, (bb != bb) = false := fun bb => by cases bb <;> rfl
  have hft0 := hff (Md.fits m r)
  obtain ⟨LF, hLF⟩ : ∃ n, (Md.stg m r).length = n := ⟨_, rfl⟩
  have HLF : Hid ((Md.stg m r).length = LF) := hLF
  rw [hLF] at HSM hFl ⊢
  clear hLF hff
  go_wp2_with fail
  refine (HSM.out _ (Below.refl _ _)).mono ?_
  rintro e w4 ⟨rfl, hb4⟩
  have HB4 : Hid (Below w3.heap.size w3 w4) := hb4
  have HBM4 : Hid (type_of% (HBM3.out.below hb4)) := HBM3.out.below hb4
  have HBR4 : Hid (type_of% (HBR3.out.below hb4)) := HBR3.out.below hb4
  have HBW4 : Hid (Below W.heap.size W w4) := HB3.out.trans (hb4.mono HB3.out.size)
  clear hb4 x0 x1 x2 x3 x4 x5 y0 y1 y2 HBM3 HBR3
  obtain ⟨_, ⟨x0, x1, x2, x3, x4, x5⟩, _⟩ := Md.wr6 HBM4.out
  obtain ⟨_, ⟨y0, y1, y2⟩, _⟩ := Md.wr3 HBR4.out
  go_wp2_with fail
  refine (Md.ipred w4 _ _ _ _ m (HRM.out.below HBW4.out).rm HSZ.out _ _ _ r (HRC.out.below HBW4.out) (by have := HRZ.out; omega)).mono ?_
  rintro e w5 ⟨rfl, hb5⟩
  have HB45 : Hid (Below w4.heap.size w4 w5) := hb5
  have HBM5 : Hid (type_of% (HBM4.out.below hb5)) := HBM4.out.below hb5
  have HBR5 : Hid (type_of% (HBR4.out.below hb5)) := HBR4.out.below hb5
  have HBW5 : Hid (Below W.heap.size W w5) := HBW4.out.trans (hb5.mono HBW4.out.size)
  have HB05 : Hid (Below w.heap.size w w5) := HB.out.trans (HBW5.out.mono HB.out.size)
  have HIL5 : Hid (Li.IsL w5 al (Md.stg m r)) := ((HIL.out.below HB23.out).below HB4.out).below hb5
  clear hb5 x0 x1 x2 x3 x4 x5 y0 y1 y2 HBM4 HBR4 hft0
  obtain ⟨hlM, ⟨x0, x1, x2, x3, x4, x5⟩, _⟩ := Md.wr6 HBM5.out
  obtain ⟨hlR, ⟨y0, y1, y2⟩, _⟩ := Md.wr3 HBR5.out
  cases hft : Md.fits m r with
  | false =>
    have hl0 : LF = 0 := by rw [← HLF.out, Md.stg_no hft]; rfl
    have hp0 : Md.pred m r = 0 := Md.pred_no hft
    rw [hp0, hl0]
    clear hft hl0 hp0 hFl
    go_wp2_with fail
    go_ret
    exact ⟨rfl, HB05.out⟩
  | true =>
  have HFT : Hid (Md.fits m r = true) := hft
  have hlT : LF = m.ts.length + 1 := by rw [← HLF.out, Md.stgl hft]
  have htl : m.ts.length ≤ 12 := by omega
  rw [hlT]
  have HGET : Hid (∃ bb oo, al = some ⟨bb, oo, none⟩ ∧ ∀ X, Below w5.heap.size w5 X → ∀ k : Nat, k < m.ts.length + 1 → X.cell? ⟨bb, oo + k, none⟩ = some (.int .i64 ((Md.stg m r).getD k 0))) := by
    rcases HIL5.out with h0 | ⟨bb, oo, e, hlt, hc⟩
    · have := Md.stgl hft; rw [h0] at this; cases this
    · refine ⟨bb, oo, e, fun X hX k hk => ?_⟩
      rw [(hX.cell (p := ⟨bb, oo + k, none⟩) hlt), hc k (by rw [Md.stgl hft]; exact hk), List.getD_eq_getElem?_getD, List.getElem?_eq_getElem (by rw [Md.stgl hft]; exact hk)]
      rfl
  obtain ⟨fb, ff, rfl, hF⟩ := HGET.out
  have HFC : Hid (type_of% hF) := hF
  have HLA : Hid ((Md.stg m r).getD m.ts.length 0 = Md.pred m r) := Md.stg_last hft
  have HFI : Hid ((Md.stg m r).getD 0 0 = m.base) := Md.stg_first hft
  have HCU : Hid (∀ k : Nat, k ≤ m.ts.length → Md.pred (Ct.mcut m k) r = (Md.stg m r).getD k 0) := fun k hk => Md.stg_cut HFT.out k hk
  have HFK : Hid (∀ k : Nat, Md.fits (Ct.mcut m k) r = true) := fun k => Md.fits_cut HFT.out k
  generalize Md.stg m r = F at HFC HLA HFI HCU
  generalize Md.pred m r = pv at HLA ⊢
  clear hft hlT hF hFl HGET HIL5 HLF HSM HIL HIS
  obtain ⟨T, hT⟩ : ∃ T, m.ts.length = T := ⟨_, rfl⟩
  have HT : Hid (m.ts.length = T) := hT
  have c0 := HFC.out w5 (Below.refl _ _) 0 (by omega)
  have c1 := HFC.out w5 (Below.refl _ _) T (by omega)
  have hla := HLA.out
  rw [hT] at hla
  rw [HFI.out, Nat.add_zero] at c0
  rw [hla] at c1
  rw [hT] at x5 htl ⊢
  have hw1 : IntKind.i64.wrap ((T : Int) + 1) = ((T + 1 : Nat) : Int) := by rw [IntKind.wrap_i64]; omega
  have hw2 : IntKind.i64.wrap (((T + 1 : Nat) : Int) - 1) = (T : Int) := by rw [IntKind.wrap_i64]; omega
  have hpv : (pv != pv) = false := by simp
  have hbs : (m.base != m.base) = false := by simp
  have hTT : (((T + 1 : Nat) : Int) != ((T + 1 : Nat) : Int)) = false := by simp
  have hT0 : (T : Int) < ((T + 1 : Nat) : Int) := by omega
  have hT1 : (0 : Int) < ((T + 1 : Nat) : Int) := by omega
  clear hT hla
  go_wp2_with fail
  go_big_quiet (fail)
  obtain ⟨w6, hw6⟩ : ∃ X, w5.drewN nq = X := ⟨_, rfl⟩
  rw [hw6]
  have HB56 : Hid (Below w5.heap.size w5 w6) := by rw [← hw6]; exact ⟨rfl, rfl, rfl, Nat.le_refl _, fun _ _ => rfl⟩
  clear hw6 x0 x1 x2 x3 x4 x5 y0 y1 y2 c0 c1 hw1 hw2 hpv hbs hTT hT0 hT1 hlM hlR
  go_wp2_with fail
  go_loopw [11] (fun i wr => ∃ k : Nat, k ≤ T + 1 ∧ i = .int .i64 k ∧ Below w5.heap.size w5 wr) (fun i _ => T + 1 - (intOf i).toNat)
  case atStart => exact ⟨0, Nat.zero_le _, rfl, HB56.out⟩
  case round =>
    obtain ⟨k, hk, rfl, hb⟩ := hrel
    have HBR : Hid (Below w5.heap.size w5 wr) := hb
    have HM1 : Hid (type_of% (HBM5.out.below hb)) := HBM5.out.below hb
    have HR1 : Hid (type_of% (HBR5.out.below hb)) := HBR5.out.below hb
    obtain ⟨hlM, ⟨x0, x1, x2, x3, x4, x5⟩, _⟩ := Md.wr6 HM1.out
    obtain ⟨hlR, ⟨y0, y1, y2⟩, _⟩ := Md.wr3 HR1.out
    rw [HT.out] at x5
    have HRMR : Hid (Md.Rmc wr ak ax ct m) := (HRM.out.below HBW5.out).below hb
    have HRCR : Hid (type_of% ((HRC.out.below HBW5.out).below hb)) := (HRC.out.below HBW5.out).below hb
    clear hb
    by_cases hlt : k < T + 1
    · have hki : (k : Int) < ((T + 1 : Nat) : Int) := by omega
      have HKT : Hid (k ≤ m.ts.length) := by show _ ≤ _; have := HT.out; omega
      have HPK : Hid (Md.pred (Ct.mcut m k) r = F.getD k 0) := HCU.out k HKT.out
      have HFKK : Hid (Md.fits (Ct.mcut m k) r = true) := HFK.out k
      have HCT : Hid (∀ X, Below wr.heap.size wr X → Calls Tryz.prog 11 #[.agg #[.int .i64 m.n, .int .i64 m.c, .int .i64 m.prior, .int .i64 m.base, .slice ak m.ks.length ck, .slice ax T ct], .int .i64 k] X fun e w' => ∃ mm vk vt, e = .returned (.agg #[.int .i64 (mm : Md.M).n, .int .i64 mm.c, .int .i64 mm.prior, .int .i64 mm.base, vk, vt]) ∧ Md.OwM w' (fun y => X.heap.size ≤ y ∧ y < w'.heap.size) vk vt mm ∧ Below X.heap.size X w' ∧ mm.sz ≤ 1048576 ∧ Md.pred mm r = F.getD k 0 ∧ Md.fits mm r = true) := fun X hX => by
        have h := Ct.icut X ak ax ck ct m k ((HRMR.out.below hX).rm) HSZ.out HRMR.out.cap
        rw [HT.out] at h
        refine h.mono ?_
        rintro e w' ⟨vk, vt, rfl, o, hb⟩
        exact ⟨_, vk, vt, rfl, o, hb, by have := Ct.mcut_sz m k; have := HSZ.out; omega, HPK.out, HFKK.out⟩
      have hrz : r.sz ≤ 1048576 := by have := HRZ.out; omega
      have hfk := HFC.out wr HBR.out k (by have := HT.out; omega)
      obtain ⟨z, hz⟩ : ∃ z, F.getD k 0 = z := ⟨_, rfl⟩
      have HZK : Hid (F.getD k 0 = z) := hz
      rw [hz] at HCT hfk
      have hzz : (z != z) = false := by simp
      clear hz HPK HFKK HKT
      go_wp2_with fail
      go_region_held3 (fun X => X.cell? ⟨P, 0, none⟩ = some (.int .i64 m.n) ∧ X.cell? ⟨P, 1, none⟩ = some (.int .i64 m.c) ∧ X.cell? ⟨P, 2, none⟩ = some (.int .i64 m.prior) ∧ X.cell? ⟨P, 3, none⟩ = some (.int .i64 m.base) ∧ X.cell? ⟨P, 4, none⟩ = some (.slice ak m.ks.length ck) ∧ X.cell? ⟨P, 5, none⟩ = some (.slice ax T ct) ∧ X.cell? ⟨P + 1, 0, none⟩ = some (.slice d0 r.nums.length e0_) ∧ X.cell? ⟨P + 1, 1, none⟩ = some (.slice d1 r.cats.length e1_) ∧ X.cell? ⟨P + 1, 2, none⟩ = some (.int .i64 r.label)) (go_keep) (first | (go_at_call 11; refine (HCT.out _ (Below.refl _ _).drew).mono ?_; rintro e w7 ⟨mm, vk, vt, rfl, o7, hb7, hz7, hp7, hf7⟩; obtain ⟨bk, dk, bt, dt, rfl, rfl, rm7⟩ := o7.rm; have HRM7 : Hid (type_of% rm7) := rm7; have HZ7 : Hid (mm.sz ≤ 1048576) := hz7; have HP7 : Hid (Md.pred mm r = z) := hp7; have HF7 : Hid (Md.fits mm r = true) := hf7; have HB7 : Hid (Below wr.heap.size wr w7) := (Tm.below_drew wr).trans hb7; obtain ⟨hlM7, ⟨x70, x71, x72, x73, x74, x75⟩, _⟩ := Md.wr6 (HM1.out.below HB7.out); obtain ⟨hlR7, ⟨y70, y71, y72⟩, _⟩ := Md.wr3 (HR1.out.below HB7.out); rw [HT.out] at x75; clear o7 rm7 hb7 hz7 hp7 hf7) | (go_at_call 10; refine (Md.ipred w7 _ _ _ _ mm HRM7.out HZ7.out _ _ _ r (HRCR.out.below HB7.out) hrz).mono ?_; rintro e w8 ⟨rfl, hb8⟩; rw [HP7.out, HF7.out]; have HB8 : Hid (Below wr.heap.size wr w8) := HB7.out.trans (hb8.mono HB7.out.size); obtain ⟨hlM8, ⟨x80, x81, x82, x83, x84, x85⟩, _⟩ := Md.wr6 (HM1.out.below HB8.out); obtain ⟨hlR8, ⟨y80, y81, y82⟩, _⟩ := Md.wr3 (HR1.out.below HB8.out); rw [HT.out] at x85; clear hb8))
      all_goals
        have hfk8 := HFC.out w8 (HBR.out.trans (HB8.out.mono HBR.out.size)) k (by have := HT.out; omega)
        rw [HZK.out] at hfk8
        go_wp2_with fail
        go_roundw
        case rel => exact ⟨k + 1, by omega, by go_num, HBR.out.trans (HB8.out.mono HBR.out.size)⟩
        case measure => simp [intOf]; omega
    · obtain rfl : k = T + 1 := by omega
      have hki : ¬ ((T + 1 : Nat) : Int) < ((T + 1 : Nat) : Int) := by omega
      have hE : Hid (Below w.heap.size w wr) := HB05.out.trans (HBR.out.mono HB05.out.size)
      go_wp2_with fail
      go_ret
      exact ⟨rfl, hE.out⟩

/-! ### THE ROW's STEP: WRITTEN OUT: LEAVE IT -/
set_option maxRecDepth 100000 in
theorem lifted (os : Os) (started : os.Started) (H : Type) (enc : TypeId × Value → H) :
    ReturnsInHanded {} Tryz.checked os 3 .any (Rows.fnStagesSpec.pre6 enc Tryz.prog Tryz.f3 Rows.fnStagesRow.domain false) (Rows.fnStagesSpec.post enc Tryz.prog Tryz.f3 false true false false) := by
  refine returnsInHanded_of_change (C := Tryz.checked) own started (by kernel_rfl) Tryz.func3
    (ChangeSpec.witness6 (enc := enc) (C := Tryz.checked) false ⟨#[], #[.slice none 0 0], []⟩ 8 (by kernel_rfl) (by kernel_rfl) (by kernel_rfl) (by kernel_rfl)) ?_
  intro W base args ds gs before hval0 hW hcnd _
  have hval : ∀ (j : Nat) t v, Tryz.f3.params[j]? = some t → args[j]? = some v → Value.okWide Tryz.prog W .any base t v := hval0
  have hW' := hW
  obtain ⟨p, q, hA0, hV, rfl, hfz, hnd⟩ := hW
  have hA : DataW.TrodAll enc Tryz.prog W 0 (fun _ => true) true Tryz.f3.params.toList args.toList ds p := hA0
  rw [Tryz.params3] at hA hval
  obtain ⟨v0, vs0, d0, ds0, p0, q0, hargs, rfl, rfl, h0, r0⟩ := trodAll_cons hA
  obtain ⟨rfl, rfl, rfl⟩ := trodAll_nil r0
  obtain rfl : args = #[v0] := by cases args; simp_all
  obtain ⟨rfl, rfl⟩ := trodVars_none hV
  obtain ⟨a0, len0, cap0, rfl⟩ := okWide_slice Tryz.underlying22 (hval 0 22 v0 rfl rfl)
  have k0 := h0
  have lt0 : ∀ x ∈ p0, x.block < W.heap.size := by obtain ⟨m, hm⟩ := k0; exact DataW.trod_lt m _ _ _ hm
  obtain ⟨z0, w0⟩ : ∃ zs, IsRow .u8 W a0 len0 cap0 zs := by
    obtain ⟨fuel, hf⟩ := h0
    rcases open_ints Tryz.underlying22 Tryz.underlying5 (by kernel_rfl) hf with ⟨hcs, _⟩ | ⟨x, l, c, zs, hcs, _, hl, hm, hz, _, hcell, hwz⟩
    · simp [Value.cells] at hcs
      obtain ⟨rfl, rfl, rfl⟩ := hcs
      exact ⟨[], .inl ⟨rfl, rfl, rfl, rfl⟩⟩
    · simp [Value.cells] at hcs
      obtain ⟨rfl, rfl, rfl⟩ := hcs
      exact ⟨zs, .inr ⟨_, rfl, hl, hm, by simpa using hz, hcell, hwz⟩⟩
  clear hA0 hval0
  refine (walk a0 len0 cap0 z0 W w0).mono fun e W' ⟨he, bel⟩ => ?_
  subst he
  exact ⟨_, rfl, _, _, _, [], _, [], hW', trodAll_mk1 (shut_bool Tryz.underlying4 _), (trodAll_cons_mk (Below.trod laidOut (by kernel_rfl) (of_decide_eq_true (by kernel_rfl)) k0 bel lt0) trodAll_mk0), rfl, bel.frame _, fun h => by cases h⟩

theorem over : Rows.fnStagesRow.holds Tryz.pinned (OpenSpec.ofChange Rows.fnStagesSpec) :=
  OpenClaim.holds_of_wide 3 Tryz.f3 rfl rfl rfl rfl rfl rfl rfl ⟨rfl, rfl, rfl, rfl, rfl⟩ rfl rfl rfl rfl rfl (by kernel_rfl) Tryz.func3 (by kernel_rfl)
    (of_decide_eq_true (by kernel_rfl)) (by unfold Func.isWrapper; first | (rw [if_pos (by decide +kernel)]; kernel_rfl) | (rw [if_neg (by decide +kernel)]; exact ⟨rfl, rfl⟩))
    (fun os started H enc _ => lifted os started H enc)

theorem proved : Rows.FnStagesSaid := over
#print axioms proved
end Go.Proofs.YtcadgeepknhmfaaGreat.fnStages
