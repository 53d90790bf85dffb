/-
  Proved here: the Go function laws.FnImportant, called with any arguments that can be read, returns true, and each argument reads afterwards as it read before ('Rows.FnImportantSaid', no condition beyond the row's own). The frame was written by the guide's program; the walk and its contracts are by hand.
-/
import Derived.Test.YtcadgeepknhmfaaRows
import Derived.WalkKit
import Derived.ProofKit
import Derived.OpenShut
import Derived.ShutString
import Derived.ChangeOld
import Derived.Below
import Derived.Test.YtcadgeepknhmfaaPart21
import Derived.Test.YtcadgeepknhmfaaPart25
namespace Go.Proofs.Ytcadgeepknhmfaa.fnImportant
open Go.ChangeShapes Go.WideShapes Go.ChangeAt Go.RowKit
open Go.ChangeMaps (open_string shut_string)
set_option linter.unusedVariables false

theorem own : ownKnob Try.prog.godebug = none := by kernel_rfl
theorem laidOut : laidOutB Try.prog = true := by kernel_rfl

def IsRow (k : IntKind) (w : World) (a : Option Addr) (len cap : Nat) (zs : List Int) : Prop :=
  (a = none ∧ len = 0 ∧ cap = 0 ∧ zs = []) ∨
  ∃ x, a = some x ∧ len ≤ cap ∧ cap ≤ maxLen ∧ zs.length = cap ∧ (∀ i, i < zs.length → w.cell? (x.add i) = some (.int k (zs.getD i 0))) ∧ ∀ n ∈ zs, (Lit.int k n).wf = true

/-! ### STEP 1: THE WALK: the Go text returns true, AND WRITES NOTHING THAT WAS THERE: 'Below w.heap.size w w'' (Derived/Below.lean: '.refl', '.alloc', '.drew', '.setCell' at a new block, '.trans'). Open each 'IsRow' by 'rcases' AHEAD of 'go_enter'; part every test ahead of the walk. -/
set_option maxRecDepth 100000 in
set_option maxHeartbeats 40000000 in
theorem walk (a0 : Option Addr) (len0 cap0 : Nat) (z0 : List Int) (w : World) (w0 : IsRow .u8 w a0 len0 cap0 z0) :
    Calls Try.prog 3 #[.slice a0 len0 cap0] w fun e w' => e = .returned (.bool true) ∧ Below w.heap.size w w' := by
  have key : ∀ (a : Option Addr) (len cap : Nat) (z : List Int), IsRow .u8 w a len cap z → Cu.Bytes w w.heap.size a len := by
    intro a len cap z h
    rcases h with ⟨rfl, rfl, rfl, rfl⟩ | ⟨x, rfl, hl, _, hz, hc, hw⟩
    · exact .inl rfl
    · exact Cu.bytes_of _ (Nat.le_refl _) hl hz hc hw
  have B0 := key _ _ _ _ w0
  clear key w0
  by_cases hb0 : 1048576 < len0
  · have e0 : decide (1048576 < len0) = true := by simpa using hb0
    go_enter Try.func3, Try.ntmps3
    go_wp2_with (go_at_call 4; refine (Cu.big_any _ _ _ _).mono ?_; rintro e w' ⟨rfl, hw⟩; subst w')
    go_ret
    exact ⟨rfl, Below.refl _ _⟩
  have e0 : decide (1048576 < len0) = false := by simpa using hb0
  go_enter Try.func3, Try.ntmps3
  go_wp2_with (go_at_call 4; refine (Cu.big_any _ _ _ _).mono ?_; rintro e w' ⟨rfl, hw⟩; subst w')
  refine (Dm.drawCutTo_any _ _ _ _ B0 (by omega)).mono ?_
  rintro e w1 ⟨m, vk, vt, n, rfl, hsz, om, hB⟩
  obtain ⟨ak, ck, ax, ct, rfl, rfl, rm⟩ := om.rm
  have hcap := Ct.owm_cap om
  have hsz' : m.sz ≤ 1048576 := by omega
  have HSZ : Hid (m.sz ≤ 1048576) := hsz'
  have HCAP : Hid (m.ts.length ≤ ct) := hcap
  have HS4 : Hid (m.sz ≤ 4500) := hsz
  clear B0 hb0 e0 hsz hsz' hcap om
  go_wp2_with fail
  obtain ⟨W, hW, hsW, hBW, bm⟩ := Sv.new1 w1 [.int .i64 m.n, .int .i64 m.c, .int .i64 m.prior, .int .i64 m.base, .slice ak m.ks.length ck, .slice ax m.ts.length ct] 29
  rw [hW]
  obtain ⟨P, hP⟩ : ∃ P, w1.heap.size = P := ⟨_, rfl⟩
  have HRM : Hid (Md.Rm W ak ax m) := rm.below hBW
  have HB : Hid (Below w.heap.size w W) := hB.trans (hBW.mono hB.size)
  rw [hP] at bm ⊢
  clear hW hsW hBW hP rm hB
  refine (Md.iimp W _ _ _ _ m HRM.out HSZ.out).mono ?_
  rintro e w2 ⟨v, rfl, ol, hb2⟩
  obtain ⟨al, cl, rfl, il⟩ := ol.isl
  have HIL : Hid (Li.IsL w2 al (Md.imps m)) := il
  have HBM2 : Hid (type_of% (bm.below hb2)) := bm.below hb2
  have HB2 : Hid (Below W.heap.size W w2) := hb2
  have HB02 : Hid (Below w.heap.size w w2) := HB.out.trans (hb2.mono HB.out.size)
  obtain ⟨_, ⟨x0, x1, x2, x3, x4, x5⟩, _⟩ := Md.wr6 HBM2.out
  clear ol il bm hb2
  go_wp2_with fail
  refine (Md.simpo w2 _ _ _ _ m (HRM.out.below HB2.out) HSZ.out).mono ?_
  rintro e w3 ⟨v, rfl, ol, hb3⟩
  obtain ⟨as_, cs, rfl, is_⟩ := ol.isl
  have HB3 : Hid (Below w2.heap.size w2 w3) := hb3
  have HBM3 : Hid (type_of% (HBM2.out.below hb3)) := HBM2.out.below hb3
  have hl6 := Md.imps_len m
  clear ol hb3 x0 x1 x2 x3 x4 x5
  obtain ⟨_, ⟨x0, x1, x2, x3, x4, x5⟩, _⟩ := Md.wr6 HBM3.out
  go_wp2_with fail
  refine (Li.same_bel w3 _ _ _ _ (Md.imps m) (Md.imps m) (HIL.out.below HB3.out) is_ (by omega) (by omega)).mono ?_
  rintro e w4 ⟨rfl, hb4⟩
  rw [Li.eqs_self]
  have HB4 : Hid (Below w3.heap.size w3 w4) := hb4
  have HBM4 : Hid (type_of% (HBM3.out.below hb4)) := HBM3.out.below hb4
  clear hb4 x0 x1 x2 x3 x4 x5 is_
  obtain ⟨_, ⟨x0, x1, x2, x3, x4, x5⟩, _⟩ := Md.wr6 HBM4.out
  have HB24 : Hid (Below w2.heap.size w2 w4) := HB3.out.trans (HB4.out.mono HB3.out.size)
  go_wp2_with fail
  refine (Md.smok w4 _ _ _ _ m ((HRM.out.below HB2.out).below HB24.out) HSZ.out).mono ?_
  rintro e w5 ⟨rfl, hb5⟩
  have HB25 : Hid (Below w2.heap.size w2 w5) := HB24.out.trans (hb5.mono HB24.out.size)
  have HBM5 : Hid (type_of% (HBM4.out.below hb5)) := HBM4.out.below hb5
  have HB05 : Hid (Below w.heap.size w w5) := HB02.out.trans (HB25.out.mono HB02.out.size)
  clear hb5 x0 x1 x2 x3 x4 x5 HBM2 HBM3 HBM4 HB3 HB4 HB24
  cases hm : Md.mok m with
  | false =>
    have hl0 : (Md.imps m).length = 0 := by rw [Md.imps_no hm]; rfl
    rw [hl0]
    clear hm
    go_wp2_with fail
    go_ret
    exact ⟨rfl, HB05.out⟩
  | true =>
  have HM : Hid (Md.mok m = true) := hm
  have hl0 : (Md.imps m).length = 6 := Md.imps_len6 hm
  have hlN : (Md.imps m).length = 6 := Md.imps_len6 hm
  have HLN : Hid ((Md.imps m).length = 6) := hlN
  have HTS : Hid (Md.tsp m.ts ≤ 4500) := by show _ ≤ _; have h1 := Md.tsp_sz m.ts; have h2 := HS4.out; unfold Md.M.sz at h2; omega
  rw [hl0]
  have htl : m.ts.length ≤ 12 := (Md.mok_parts hm).2.2.2.1
  clear hm hl0 hlN hl6
  go_wp2_with fail
  go_loopw [6, 8] (fun s i wr => ∃ k : Nat, k ≤ m.ts.length ∧ i = .int .i64 k ∧ s = .int .i64 (Md.tsp (m.ts.take k)) ∧ Below w5.heap.size w5 wr) (fun _ i _ => m.ts.length - (intOf i).toNat)
  case atStart => exact ⟨0, Nat.zero_le _, rfl, by simp [Md.tsp], Below.refl _ _⟩
  case round =>
    obtain ⟨k, hk, rfl, rfl, hb⟩ := hrel
    have HBR : Hid (Below w5.heap.size w5 wr) := hb
    obtain ⟨_, ⟨x0, x1, x2, x3, x4, x5⟩, _⟩ := Md.wr6 (HBM5.out.below hb)
    have hts : Md.tsp (m.ts.take k) ≤ 4500 := Nat.le_trans (Md.tsp_take m.ts k) HTS.out
    clear hb
    by_cases hlt : k < m.ts.length
    · have hki : (k : Int) < m.ts.length := by omega
      rcases (((HRM.out.below HB2.out).below HB25.out).below HBR.out).t with h0 | ⟨tb, tf, ta, htb, htc⟩
      · exfalso; rw [h0] at hlt; simp at hlt
      subst ta
      obtain ⟨_, _, ⟨y0, y1⟩, a0, c0, a1, c1, rfl, rfl, _, _⟩ := htc k hlt
      have HSN : Hid (Md.tsp (m.ts.take (k + 1)) = Md.tsp (m.ts.take k) + m.ts[k].sp.length) := Md.tsp_snoc m.ts k hlt
      have hsp4 : m.ts[k].sp.length ≤ 4 := (Md.sp_at HM.out k hlt).1
      obtain ⟨q, hq⟩ : ∃ q, m.ts[k].sp.length = q := ⟨_, rfl⟩
      rw [hq] at y0 hsp4 HSN
      obtain ⟨sm, hsm⟩ : ∃ s, Md.tsp (m.ts.take k) = s := ⟨_, rfl⟩
      rw [hsm] at hts HSN ⊢
      clear htc hq hsm y1
      go_wp2
      go_roundw
      case rel => exact ⟨k + 1, by omega, by go_num, by rw [HSN.out]; go_num, HBR.out⟩
      case measure => simp [intOf]; omega
    · obtain rfl : k = m.ts.length := by omega
      have hki : ¬ (m.ts.length : Int) < m.ts.length := by omega
      rw [List.take_length] at hts ⊢
      have HC : Hid (Md.Rm wr ak ax m) := ((HRM.out.below HB2.out).below HB25.out).below HBR.out
      obtain ⟨al6, hal6⟩ : ∃ s, Md.tsp m.ts = s := ⟨_, rfl⟩
      have HAL : Hid (Md.tsp m.ts = al6) := hal6
      rw [hal6] at hts ⊢
      clear hal6
      go_wp2_with fail
      refine (Ct.icut wr _ _ _ _ m n HC.out HSZ.out HCAP.out).mono ?_
      rintro e w6 ⟨vk, vt, rfl, om6, hb6⟩
      obtain ⟨bk, dk, bt, dt, rfl, rfl, rm6⟩ := om6.rm
      have HB6 : Hid (Below wr.heap.size wr w6) := hb6
      have HCU : Hid (∀ k, (Md.imps (Ct.mcut m n)).getD k 0 ≤ (Md.imps m).getD k 0) := Md.imps_cut HM.out n
      have HCL : Hid ((Md.imps (Ct.mcut m n)).length = 6) := Md.imps_len6 (Ct.mok_cut HM.out n)
      have hmz := Ct.mcut_sz m n
      have HMZ : Hid ((Ct.mcut m n).sz ≤ 1048576) := by show _ ≤ _; have := HSZ.out; omega
      generalize Ct.mcut m n = mm at rm6 HCU HCL HMZ ⊢
      clear om6 hb6 hmz
      go_wp2_with fail
      refine (Md.iimp w6 _ _ _ _ mm rm6 HMZ.out).mono ?_
      rintro e w7 ⟨v, rfl, o7, hb7⟩
      obtain ⟨ae, ce, rfl, ie⟩ := o7.isl
      have HIE : Hid (Li.IsL w7 ae (Md.imps mm)) := ie
      have HB27 : Hid (Below w2.heap.size w2 w7) := ((HB25.out.trans (HBR.out.mono HB25.out.size)).trans (HB6.out.mono (HB25.out.trans (HBR.out.mono HB25.out.size)).size)).trans (hb7.mono (((HB25.out.trans (HBR.out.mono HB25.out.size)).trans (HB6.out.mono (HB25.out.trans (HBR.out.mono HB25.out.size)).size))).size)
      have HB07 : Hid (Below w.heap.size w w7) := HB02.out.trans (HB27.out.mono HB02.out.size)
      have HIL7 : Hid (Li.IsL w7 al (Md.imps m)) := HIL.out.below HB27.out
      have HSUM : Hid ((Md.imps m).sum = (al6 : Int)) := by show _ = _; rw [Md.imps_sum HM.out, HAL.out]
      have HBD : Hid (∀ x ∈ Md.imps m, 0 ≤ x ∧ x ≤ (4500 : Int)) := fun x hx => by have h1 := Md.imp_le x hx; have h2 := HTS.out; exact ⟨h1.1, by omega⟩
      have HLN2 : Hid ((Md.imps m).length = 6) := HLN.out
      generalize Md.imps m = xs at HIL7 HSUM HBD HLN2 HCU ⊢
      generalize Md.imps mm = ys at HIE HCL HCU ⊢
      rw [HCL.out]
      clear o7 ie hb7 x0 x1 x2 x3 x4 x5 rm6 hlt hki hk hts
      go_wp2_with fail
      go_loopw [7, 10] (fun s i wr => ∃ k : Nat, k ≤ 6 ∧ i = .int .i64 k ∧ s = .int .i64 (xs.take k).sum ∧ Below w7.heap.size w7 wr) (fun _ i _ => 6 - (intOf i).toNat)
      case atStart => exact ⟨0, Nat.zero_le _, rfl, by simp, Below.refl _ _⟩
      case round =>
        obtain ⟨k, hk, rfl, rfl, hb⟩ := hrel
        have HBR7 : Hid (Below w7.heap.size w7 wr) := hb
        clear hb
        have hsum : 0 ≤ (xs.take k).sum ∧ (xs.take k).sum ≤ 4500 * 6 := by
          have h1 := Md.sum_bd (xs.take k) 4500 (fun x hx => HBD.out x (List.mem_of_mem_take hx))
          have h2 : ((xs.take k).length : Int) ≤ 6 := by have := HLN2.out; rw [List.length_take]; omega
          omega
        by_cases hlt : k < 6
        · have hki : (k : Int) < 6 := by omega
          have hkx : k < xs.length := by have := HLN2.out; omega
          have hky : k < ys.length := by have := HCL.out; omega
          rcases HIL7.out.below HBR7.out with h0 | ⟨xb, xo, xa, hxb, hxc⟩
          · exfalso; rw [h0] at hkx; simp at hkx
          rcases HIE.out.below HBR7.out with h0 | ⟨yb, yo, ya, hyb, hyc⟩
          · exfalso; rw [h0] at hky; simp at hky
          subst xa
          subst ya
          have hx1 := hxc k hkx
          have hy1 := hyc k hky
          have HSN : Hid ((xs.take (k + 1)).sum = (xs.take k).sum + xs[k]) := Md.sum_snoc xs k hkx
          have hle : ¬ xs[k] < ys[k] := by
            have := HCU.out k
            rw [List.getD_eq_getElem?_getD, List.getD_eq_getElem?_getD, List.getElem?_eq_getElem hkx, List.getElem?_eq_getElem hky] at this
            simp only [Option.getD_some] at this
            omega
          have hxn := HBD.out xs[k] (List.getElem_mem hkx)
          obtain ⟨x, hx⟩ : ∃ x, xs[k] = x := ⟨_, rfl⟩
          obtain ⟨y, hy⟩ : ∃ y, ys[k] = y := ⟨_, rfl⟩
          obtain ⟨s, hs⟩ : ∃ s, (xs.take k).sum = s := ⟨_, rfl⟩
          rw [hx] at hx1 HSN hle hxn
          rw [hy] at hy1 hle
          rw [hs] at hsum HSN ⊢
          clear hxc hyc hx hy hs
          go_wp2_with fail
          go_quiet (fail)
          go_wp2
          go_roundw
          case rel => exact ⟨k + 1, by omega, by go_num, by rw [HSN.out], ⟨HBR7.out.os, HBR7.out.tape, HBR7.out.output, HBR7.out.size, HBR7.out.block⟩⟩
          case measure => simp [intOf]; omega
        · obtain rfl : k = 6 := by omega
          have hki : ¬ ((6 : Nat) : Int) < 6 := by omega
          have hse : (xs.take 6).sum = (al6 : Int) := by
            rw [List.take_of_length_le (by have := HLN2.out; omega)]; exact HSUM.out
          rw [hse]
          have hq : ((al6 : Int) == (al6 : Int)) = true := by simp
          clear hsum
          go_wp2
          go_ret
          exact ⟨rfl, HB07.out.trans (HBR7.out.mono HB07.out.size)⟩

/-! ### THE ROW's STEP: WRITTEN OUT: LEAVE IT -/
set_option maxRecDepth 100000 in
theorem lifted (os : Os) (started : os.Started) (H : Type) (enc : TypeId × Value → H) :
    ReturnsInHanded {} Try.checked os 3 .any (Rows.fnImportantSpec.pre6 enc Try.prog Try.f3 Rows.fnImportantRow.domain false) (Rows.fnImportantSpec.post enc Try.prog Try.f3 false true false false) := by
  refine returnsInHanded_of_change (C := Try.checked) own started (by kernel_rfl) Try.func3
    (ChangeSpec.witness6 (enc := enc) (C := Try.checked) false ⟨#[], #[.slice none 0 0], []⟩ 8 (by kernel_rfl) (by kernel_rfl) (by kernel_rfl) (by kernel_rfl)) ?_
  intro W base args ds gs before hval0 hW hcnd _
  have hval : ∀ (j : Nat) t v, Try.f3.params[j]? = some t → args[j]? = some v → Value.okWide Try.prog W .any base t v := hval0
  have hW' := hW
  obtain ⟨p, q, hA0, hV, rfl, hfz, hnd⟩ := hW
  have hA : DataW.TrodAll enc Try.prog W 0 (fun _ => true) true Try.f3.params.toList args.toList ds p := hA0
  rw [Try.params3] at hA hval
  obtain ⟨v0, vs0, d0, ds0, p0, q0, hargs, rfl, rfl, h0, r0⟩ := trodAll_cons hA
  obtain ⟨rfl, rfl, rfl⟩ := trodAll_nil r0
  obtain rfl : args = #[v0] := by cases args; simp_all
  obtain ⟨rfl, rfl⟩ := trodVars_none hV
  obtain ⟨a0, len0, cap0, rfl⟩ := okWide_slice Try.underlying22 (hval 0 22 v0 rfl rfl)
  have k0 := h0
  have lt0 : ∀ x ∈ p0, x.block < W.heap.size := by obtain ⟨m, hm⟩ := k0; exact DataW.trod_lt m _ _ _ hm
  obtain ⟨z0, w0⟩ : ∃ zs, IsRow .u8 W a0 len0 cap0 zs := by
    obtain ⟨fuel, hf⟩ := h0
    rcases open_ints Try.underlying22 Try.underlying5 (by kernel_rfl) hf with ⟨hcs, _⟩ | ⟨x, l, c, zs, hcs, _, hl, hm, hz, _, hcell, hwz⟩
    · simp [Value.cells] at hcs
      obtain ⟨rfl, rfl, rfl⟩ := hcs
      exact ⟨[], .inl ⟨rfl, rfl, rfl, rfl⟩⟩
    · simp [Value.cells] at hcs
      obtain ⟨rfl, rfl, rfl⟩ := hcs
      exact ⟨zs, .inr ⟨_, rfl, hl, hm, by simpa using hz, hcell, hwz⟩⟩
  clear hA0 hval0
  refine (walk a0 len0 cap0 z0 W w0).mono fun e W' ⟨he, bel⟩ => ?_
  subst he
  exact ⟨_, rfl, _, _, _, [], _, [], hW', trodAll_mk1 (shut_bool Try.underlying4 _), (trodAll_cons_mk (Below.trod laidOut (by kernel_rfl) (of_decide_eq_true (by kernel_rfl)) k0 bel lt0) trodAll_mk0), rfl, bel.frame _, fun h => by cases h⟩

theorem over : Rows.fnImportantRow.holds Try.pinned (OpenSpec.ofChange Rows.fnImportantSpec) :=
  OpenClaim.holds_of_wide 3 Try.f3 rfl rfl rfl rfl rfl rfl rfl ⟨rfl, rfl, rfl, rfl, rfl⟩ rfl rfl rfl rfl rfl (by kernel_rfl) Try.func3 (by kernel_rfl)
    (of_decide_eq_true (by kernel_rfl)) (by unfold Func.isWrapper; first | (rw [if_pos (by decide +kernel)]; kernel_rfl) | (rw [if_neg (by decide +kernel)]; exact ⟨rfl, rfl⟩))
    (fun os started H enc _ => lifted os started H enc)

theorem proved : Rows.FnImportantSaid := over
#print axioms proved
end Go.Proofs.Ytcadgeepknhmfaa.fnImportant
