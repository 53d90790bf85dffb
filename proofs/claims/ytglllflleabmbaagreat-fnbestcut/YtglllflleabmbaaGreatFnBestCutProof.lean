/-
  Proved here: the Go function laws.FnBestCut, called with any arguments that can be read, returns true, and each argument reads afterwards as it read before ('Rows.FnBestCutSaid', no condition beyond the row's own). The frame was written by the guide's program; the walk and its contracts are by hand.
-/
import Derived.Test.YtglllflleabmbaaGreatRows
import Derived.WalkKit
import Derived.ProofKit
import Derived.OpenShut
import Derived.ShutString
import Derived.ChangeOld
import Derived.Below
import Derived.Test.YtglllflleabmbaaGreatPart23
import Derived.Test.YtglllflleabmbaaGreatPart31
import Derived.Deep.Cut
namespace Go.Proofs.YtglllflleabmbaaGreat.fnBestCut
open Go.ChangeShapes Go.WideShapes Go.ChangeAt Go.RowKit
open Go.ChangeMaps (open_string shut_string)
set_option linter.unusedVariables false

theorem own : ownKnob Tryz.prog.godebug = none := by kernel_rfl
theorem laidOut : laidOutB Tryz.prog = true := by kernel_rfl

def IsRow (k : IntKind) (w : World) (a : Option Addr) (len cap : Nat) (zs : List Int) : Prop :=
 (a = none ∧ len = 0 ∧ cap = 0 ∧ zs = []) ∨
 ∃ x, a = some x ∧ len ≤ cap ∧ cap ≤ maxLen ∧ zs.length = cap ∧ (∀ i, i < zs.length → w.cell? (x.add i) = some (.int k (zs.getD i 0))) ∧ ∀ n ∈ zs, (Lit.int k n).wf = true

/-! ### STEP 1: THE WALK: the Go text returns true, AND WRITES NOTHING THAT WAS THERE: 'Below w.heap.size w w'' (Derived/Below.lean: '.refl', '.alloc', '.drew', '.setCell' at a new block, '.trans'). Open each 'IsRow' by 'rcases' AHEAD of 'go_enter'; part every test ahead of the walk. -/
set_option maxRecDepth 100000 in
set_option maxHeartbeats 40000000 in
theorem walk (a0 : Option Addr) (len0 cap0 : Nat) (z0 : List Int) (w : World) (w0 : IsRow .u8 w a0 len0 cap0 z0) :
  Calls Tryz.prog 3 #[.slice a0 len0 cap0] w fun e w' => e = .returned (.bool true) ∧ Below w.heap.size w w' := by
 have key : ∀ (a : Option Addr) (len cap : Nat) (z : List Int), IsRow .u8 w a len cap z → Cu.Bytes w w.heap.size a len := by
  intro a len cap z h
  rcases h with ⟨rfl, rfl, rfl, rfl⟩ | ⟨x, rfl, hl, _, hz, hc, hw⟩
  ·
   exact .inl rfl
  ·
   exact Cu.bytes_of _ (Nat.le_refl _) hl hz hc hw
 have B0 := key _ _ _ _ w0
 clear key w0
 by_cases hb0 : 1048576 < len0
 ·
  have e0 : decide (1048576 < len0) = true := by simpa using hb0
  go_enter Tryz.func3, Tryz.ntmps3
  go_wp2_with (go_at_call 4; refine (Cu.big_any _ _ _ _).mono ?_; rintro e w' ⟨rfl, hw⟩; subst w')
  go_ret
  exact ⟨rfl, Below.refl _ _⟩
 have e0 : decide (1048576 < len0) = false := by simpa using hb0
 go_enter Tryz.func3, Tryz.ntmps3
 go_wp2_with (go_at_call 4; refine (Cu.big_any _ _ _ _).mono ?_; rintro e w' ⟨rfl, hw⟩; subst w')
 refine (Dm.drawBestCut_any _ _ _ _ B0 (by omega)).mono ?_
 rintro e w1 ⟨m, vk, vt, n, c, ar, cp, rs, rfl, hsz, hbd, om, hR, hB⟩
 obtain ⟨ak, ck, ax, ct, rfl, rfl, rmc⟩ := om.rmc
 have HSZ : Hid (m.sz ≤ 1048576) := by show _ ≤ _; omega
 have HRS : Hid (rs.length + Tb.szR rs ≤ 1048576) := by show _ ≤ _; have := Md.szR_le (fun r hr => (hbd.2 r hr).1); have := hbd.1; omega
 have HRC1 : Hid (Md.IsRC w1 ar rs) := hR
 clear B0 hb0 e0 hsz hbd om hR
 go_wp2_with fail
 obtain ⟨W, hW, hsW, hBW, bm, br⟩ := Sv.new2 w1 [.int .i64 m.n, .int .i64 m.c, .int .i64 m.prior, .int .i64 m.base, .slice ak m.ks.length ck, .slice ax m.ts.length ct] [.int .i64 n, .int .i64 c, .slice ar rs.length cp] 29 32
 rw [hW]
 obtain ⟨P, hP⟩ : ∃ P, w1.heap.size = P := ⟨_, rfl⟩
 have HRM : Hid (Md.Rmc W ak ax ct m) := rmc.below hBW
 have HRC : Hid (Md.IsRC W ar rs) := HRC1.out.below hBW
 have HB : Hid (Below w.heap.size w W) := hB.trans (hBW.mono hB.size)
 rw [hP] at bm br ⊢
 have hPW : P + 2 ≤ W.heap.size := by omega
 clear hW hsW hBW hP rmc hB HRC1
 have HL13 : Hid ((Md.ofs m n c rs).length ≤ 13) := Md.ofs_len m n c rs
 obtain ⟨fs, hfs⟩ : ∃ f, Md.fstl (Md.ofs m n c rs) (Md.ofs m n c rs).length = f := ⟨_, rfl⟩
 have HFS : Hid (Md.fstl (Md.ofs m n c rs) (Md.ofs m n c rs).length = fs) := hfs
 have hfl : fs ≤ 13 := by have h1 := Md.fstl_le (Md.ofs m n c rs) (Md.ofs m n c rs).length; have := HL13.out; omega
 have HIB : Hid (∀ X, Below W.heap.size W X → Calls Tryz.prog 6 #[.agg #[.int .i64 m.n, .int .i64 m.c, .int .i64 m.prior, .int .i64 m.base, .slice ak m.ks.length ck, .slice ax m.ts.length ct], .agg #[.int .i64 n, .int .i64 c, .slice ar rs.length cp]] X fun e w' => e = .returned (.tuple #[.int .i64 (fs : Int), .bool (Md.pok m n c rs)]) ∧ Below X.heap.size X w') := fun X hX => by
  have h := Md.ibc X ak ax ck ct m (HRM.out.below hX) HSZ.out n c ar cp rs (HRC.out.below hX) HRS.out
  rw [HFS.out] at h
  exact h
 have HSB : Hid (∀ X, Below W.heap.size W X → Calls Tryz.prog 7 #[.agg #[.int .i64 m.n, .int .i64 m.c, .int .i64 m.prior, .int .i64 m.base, .slice ak m.ks.length ck, .slice ax m.ts.length ct], .agg #[.int .i64 n, .int .i64 c, .slice ar rs.length cp]] X fun e w' => e = .returned (.tuple #[.int .i64 (fs : Int), .bool (Md.pok m n c rs)]) ∧ Below X.heap.size X w') := fun X hX => by
  have h := Md.sbc X ak ax ck ct m (HRM.out.below hX).rm HSZ.out n c ar cp rs (HRC.out.below hX) HRS.out
  rw [HFS.out] at h
  exact h
 clear hfs
 refine (HIB.out W (Below.refl _ _)).mono ?_
 rintro e w2 ⟨rfl, hb2⟩
 have HB2 : Hid (Below W.heap.size W w2) := hb2
 have HBM2 : Hid (type_of% (bm.below hb2)) := bm.below hb2
 have HBR2 : Hid (type_of% (br.below hb2)) := br.below hb2
 clear hb2 bm br
 obtain ⟨_, ⟨x0, x1, x2, x3, x4, x5⟩, _⟩ := Md.wr6 HBM2.out
 obtain ⟨_, ⟨y0, y1, y2⟩, _⟩ := Md.wr3 HBR2.out
 go_wp2_with fail
 refine (HSB.out w2 HB2.out).mono ?_
 rintro e w3 ⟨rfl, hb3⟩
 have HB3 : Hid (Below W.heap.size W w3) := HB2.out.trans (hb3.mono HB2.out.size)
 have HBM3 : Hid (type_of% (HBM2.out.below hb3)) := HBM2.out.below hb3
 have HBR3 : Hid (type_of% (HBR2.out.below hb3)) := HBR2.out.below hb3
 clear hb3 x0 x1 x2 x3 x4 x5 y0 y1 y2 HBM2 HBR2
 obtain ⟨_, ⟨x0, x1, x2, x3, x4, x5⟩, _⟩ := Md.wr6 HBM3.out
 obtain ⟨_, ⟨y0, y1, y2⟩, _⟩ := Md.wr3 HBR3.out
 have hff : (Md.pok m n c rs != Md.pok m n c rs) = false := by cases Md.pok m n c rs <;> rfl
 have hfq : (((fs : Nat) : Int) != ((fs : Nat) : Int)) = false := by simp
 go_wp2_with fail
 refine (Md.iofs w3 _ _ _ _ m (HRM.out.below HB3.out) HSZ.out n c _ _ rs (HRC.out.below HB3.out) HRS.out).mono ?_
 rintro e w4 ⟨v, rfl, ol, hb4⟩
 obtain ⟨al, cl, rfl, il⟩ := ol.isl
 have HIL : Hid (Li.IsL w4 al (Md.ofs m n c rs)) := il
 have HB4 : Hid (Below W.heap.size W w4) := HB3.out.trans (hb4.mono HB3.out.size)
 have HB04 : Hid (Below w.heap.size w w4) := HB.out.trans (HB4.out.mono HB.out.size)
 have HBM4 : Hid (type_of% (HBM3.out.below hb4)) := HBM3.out.below hb4
 have HBR4 : Hid (type_of% (HBR3.out.below hb4)) := HBR3.out.below hb4
 clear hb4 ol il x0 x1 x2 x3 x4 x5 y0 y1 y2 HBM3 HBR3 hff hfq
 obtain ⟨_, ⟨x0, x1, x2, x3, x4, x5⟩, _⟩ := Md.wr6 HBM4.out
 obtain ⟨_, ⟨y0, y1, y2⟩, _⟩ := Md.wr3 HBR4.out
 cases hp : Md.pok m n c rs with
 | false =>
  have hl0 : (Md.ofs m n c rs).length = 0 := by rw [Md.ofs_no hp]; rfl
  have hf0 : fs = 0 := by rw [← HFS.out, hl0]; rfl
  rw [hl0, hf0]
  clear hp hl0 hf0 hfl
  go_wp2_with fail
  go_ret
  exact ⟨rfl, HB04.out⟩
 | true =>
 have HP : Hid (Md.pok m n c rs = true) := hp
 have hlT : (Md.ofs m n c rs).length = m.ts.length + 1 := Md.ofsl hp
 have htl : m.ts.length ≤ 12 := Md.pok_ts hp
 have hfT : fs < m.ts.length + 1 := by have h7 := Md.fstl_lt2 (Md.ofs m n c rs) (Md.ofs m n c rs).length (by omega); rw [HFS.out] at h7; omega
 have HMN : Hid (∀ i, i < m.ts.length + 1 → (Md.ofs m n c rs).getD fs 0 ≤ (Md.ofs m n c rs).getD i 0 ∧ (i < fs → (Md.ofs m n c rs).getD fs 0 < (Md.ofs m n c rs).getD i 0)) := fun i hi => by
  have h := Md.fstl_min (Md.ofs m n c rs) (Md.ofs m n c rs).length i (by omega)
  rw [HFS.out] at h
  exact h
 have HLA : Hid ((Md.ofs m n c rs).getD m.ts.length 0 = Md.ofo m n c rs) := Md.ofs_last hp
 have HGET : Hid (∃ bb oo, al = some ⟨bb, oo, none⟩ ∧ ∀ X, Below w4.heap.size w4 X → ∀ k : Nat, k < m.ts.length + 1 → X.cell? ⟨bb, oo + k, none⟩ = some (.int .i64 ((Md.ofs m n c rs).getD k 0))) := by
  rcases HIL.out with h0 | ⟨bb, oo, e, hlt, hc⟩
  ·
   rw [h0] at hlT; cases hlT
  ·
   refine ⟨bb, oo, e, fun X hX k hk => ?_⟩
   rw [(hX.cell (p := ⟨bb, oo + k, none⟩) hlt), hc k (by rw [hlT]; exact hk), List.getD_eq_getElem?_getD, List.getElem?_eq_getElem (by rw [hlT]; exact hk)]
   rfl
 obtain ⟨fb, ff, rfl, hF⟩ := HGET.out
 have HFC : Hid (type_of% hF) := hF
 have HOF : Hid (∀ X, Below W.heap.size W X → Calls Tryz.prog 9 #[.agg #[.int .i64 m.n, .int .i64 m.c, .int .i64 m.prior, .int .i64 m.base, .slice ak m.ks.length ck, .slice ax m.ts.length ct], .agg #[.int .i64 n, .int .i64 c, .slice ar rs.length cp]] X fun e w' => e = .returned (.tuple #[.int .i64 (Md.ofo m n c rs), .bool true]) ∧ Below X.heap.size X w') := fun X hX => by
  have h := Md.iofo X ak ax ck ct m (HRM.out.below hX).rm HSZ.out n c ar cp rs (HRC.out.below hX) HRS.out
  rw [HP.out] at h
  exact h
 rw [hlT]
 generalize Md.ofo m n c rs = ov at HLA HOF
 generalize Md.ofs m n c rs = F at HFC HLA HMN
 clear hp hlT hF HGET HFS HL13 HIL hfl
 obtain ⟨T, hT⟩ : ∃ T, m.ts.length = T := ⟨_, rfl⟩
 have HT : Hid (m.ts.length = T) := hT
 rw [hT] at x5 htl hfT ⊢
 have HBM5 : Hid (Sv.Wr w4 P 0 [.int .i64 m.n, .int .i64 m.c, .int .i64 m.prior, .int .i64 m.base, .slice ak m.ks.length ck, .slice ax T ct]) := by show Sv.Wr _ _ _ _; rw [← hT]; exact HBM4.out
 clear hT HBM4
 have hff : (true != true) = false := rfl
 go_wp2_with fail
 go_loopw [11] (fun i wr => ∃ k : Nat, k ≤ T + 1 ∧ i = .int .i64 k ∧ Below w4.heap.size w4 wr) (fun i _ => T + 1 - (intOf i).toNat)
 case atStart => exact ⟨0, Nat.zero_le _, rfl, Below.refl _ _⟩
 case round =>
  clear x0 x1 x2 x3 x4 x5 y0 y1 y2
  obtain ⟨k, hk, rfl, hb⟩ := hrel
  have HBR : Hid (Below w4.heap.size w4 wr) := hb
  obtain ⟨hlM, ⟨x0, x1, x2, x3, x4, x5⟩, _⟩ := Md.wr6 (HBM5.out.below hb)
  obtain ⟨hlR, ⟨y0, y1, y2⟩, _⟩ := Md.wr3 (HBR4.out.below hb)
  clear hb
  by_cases hlt : k < T + 1
  ·
   have hki : (k : Int) < ((T + 1 : Nat) : Int) := by omega
   have hfi : (fs : Int) < ((T + 1 : Nat) : Int) := by omega
   have ck := HFC.out wr HBR.out k (by have := HT.out; omega)
   have cf := HFC.out wr HBR.out fs (by have := HT.out; omega)
   obtain ⟨m1, m2⟩ := HMN.out k (by have := HT.out; omega)
   obtain ⟨a, ha⟩ : ∃ a, F.getD k 0 = a := ⟨_, rfl⟩
   obtain ⟨b, hb⟩ : ∃ b, F.getD fs 0 = b := ⟨_, rfl⟩
   rw [ha] at ck m1 m2
   rw [hb] at cf m1 m2
   have hd1 : decide (a < b) = false := by rw [decide_eq_false_iff_not]; omega
   have hnl : ¬ a < b := by omega
   clear ha hb
   have HGO : Hid (a = b → decide ((k : Int) < (fs : Int)) = false) := fun e => by rw [decide_eq_false_iff_not]; intro h; have := m2 (by omega); omega
   clear m1 m2
   go_wp2_with fail
   by_cases hab : a = b
   ·
    have hd2 := HGO.out hab
    have hd3 : ¬ (k : Int) < (fs : Int) := by simpa using hd2
    subst hab
    have he : (a == a) = true := by simp
    go_big_quiet (fail)
    obtain ⟨w10, hw10⟩ : ∃ X, wr.drewN nq = X := ⟨_, rfl⟩
    rw [hw10]
    have HB10 : Hid (Below w4.heap.size w4 w10) := by rw [← hw10]; exact ⟨HBR.out.os, HBR.out.tape, HBR.out.output, HBR.out.size, HBR.out.block⟩
    clear hw10
    go_wp2_with fail
    go_roundw
    case rel => exact ⟨k + 1, by omega, by go_num, HB10.out⟩
    case measure => simp [intOf]; omega
   ·
    have he : (a == b) = false := by simpa using hab
    clear hab
    go_big_quiet (fail)
    obtain ⟨w10, hw10⟩ : ∃ X, wr.drewN nq = X := ⟨_, rfl⟩
    rw [hw10]
    have HB10 : Hid (Below w4.heap.size w4 w10) := by rw [← hw10]; exact ⟨HBR.out.os, HBR.out.tape, HBR.out.output, HBR.out.size, HBR.out.block⟩
    clear hw10
    go_wp2_with fail
    go_roundw
    case rel => exact ⟨k + 1, by omega, by go_num, HB10.out⟩
    case measure => simp [intOf]; omega
  ·
   obtain rfl : k = T + 1 := by omega
   have hki : ¬ ((T + 1 : Nat) : Int) < ((T + 1 : Nat) : Int) := by omega
   have HOW : Hid (type_of% (HOF.out wr (HB4.out.trans (HBR.out.mono HB4.out.size)))) := HOF.out wr (HB4.out.trans (HBR.out.mono HB4.out.size))
   rw [HT.out] at HOW
   go_wp2_with fail
   refine HOW.out.mono ?_
   rintro e w5 ⟨rfl, hb5⟩
   have HB5 : Hid (Below w4.heap.size w4 w5) := HBR.out.trans (hb5.mono HBR.out.size)
   have hE : Hid (Below w.heap.size w w5) := HB04.out.trans (HB5.out.mono HB04.out.size)
   clear x0 x1 x2 x3 x4 x5 y0 y1 y2 hb5 hlM hlR
   obtain ⟨hlM, ⟨x0, x1, x2, x3, x4, x5⟩, _⟩ := Md.wr6 (HBM5.out.below HB5.out)
   have cl_ := HFC.out w5 HB5.out T (by have := HT.out; omega)
   have hla := HLA.out
   rw [HT.out] at hla
   rw [hla] at cl_
   have hw2 : IntKind.i64.wrap (((T + 1 : Nat) : Int) - 1) = (T : Int) := by rw [IntKind.wrap_i64]; omega
   have hw1 : IntKind.i64.wrap ((T : Int) + 1) = ((T + 1 : Nat) : Int) := by rw [IntKind.wrap_i64]; omega
   have hTi : (T : Int) < ((T + 1 : Nat) : Int) := by omega
   have hvv : (ov == ov) = true := by simp
   have hTT : (((T + 1 : Nat) : Int) == ((T + 1 : Nat) : Int)) = true := by simp
   clear hla hlt hki
   go_wp2_with fail
   go_ret
   exact ⟨rfl, hE.out⟩

/-! ### THE ROW's STEP: WRITTEN OUT: LEAVE IT -/
set_option maxRecDepth 100000 in
theorem lifted (os : Os) (started : os.Started) (H : Type) (enc : TypeId × Value → H) :
  ReturnsInHanded {} Tryz.checked os 3 .any (Rows.fnBestCutSpec.pre6 enc Tryz.prog Tryz.f3 Rows.fnBestCutRow.domain false) (Rows.fnBestCutSpec.post enc Tryz.prog Tryz.f3 false true false false) := by
 refine returnsInHanded_of_change (C := Tryz.checked) own started (by kernel_rfl) Tryz.func3
  (ChangeSpec.witness6 (enc := enc) (C := Tryz.checked) false ⟨#[], #[.slice none 0 0], []⟩ 8 (by kernel_rfl) (by kernel_rfl) (by kernel_rfl) (by kernel_rfl)) ?_
 intro W base args ds gs before hval0 hW hcnd _
 have hval : ∀ (j : Nat) t v, Tryz.f3.params[j]? = some t → args[j]? = some v → Value.okWide Tryz.prog W .any base t v := hval0
 have hW' := hW
 obtain ⟨p, q, hA0, hV, rfl, hfz, hnd⟩ := hW
 have hA : DataW.TrodAll enc Tryz.prog W 0 (fun _ => true) true Tryz.f3.params.toList args.toList ds p := hA0
 rw [Tryz.params3] at hA hval
 obtain ⟨v0, vs0, d0, ds0, p0, q0, hargs, rfl, rfl, h0, r0⟩ := trodAll_cons hA
 obtain ⟨rfl, rfl, rfl⟩ := trodAll_nil r0
 obtain rfl : args = #[v0] := by cases args; simp_all
 obtain ⟨rfl, rfl⟩ := trodVars_none hV
 obtain ⟨a0, len0, cap0, rfl⟩ := okWide_slice Tryz.underlying22 (hval 0 22 v0 rfl rfl)
 have k0 := h0
 have lt0 : ∀ x ∈ p0, x.block < W.heap.size := by obtain ⟨m, hm⟩ := k0; exact DataW.trod_lt m _ _ _ hm
 obtain ⟨z0, w0⟩ : ∃ zs, IsRow .u8 W a0 len0 cap0 zs := by
  obtain ⟨fuel, hf⟩ := h0
  rcases open_ints Tryz.underlying22 Tryz.underlying5 (by kernel_rfl) hf with ⟨hcs, _⟩ | ⟨x, l, c, zs, hcs, _, hl, hm, hz, _, hcell, hwz⟩
  ·
   simp [Value.cells] at hcs
   obtain ⟨rfl, rfl, rfl⟩ := hcs
   exact ⟨[], .inl ⟨rfl, rfl, rfl, rfl⟩⟩
  ·
   simp [Value.cells] at hcs
   obtain ⟨rfl, rfl, rfl⟩ := hcs
   exact ⟨zs, .inr ⟨_, rfl, hl, hm, by simpa using hz, hcell, hwz⟩⟩
 clear hA0 hval0
 refine (walk a0 len0 cap0 z0 W w0).mono fun e W' ⟨he, bel⟩ => ?_
 subst he
 exact ⟨_, rfl, _, _, _, [], _, [], hW', trodAll_mk1 (shut_bool Tryz.underlying4 _), (trodAll_cons_mk (Below.trod laidOut (by kernel_rfl) (of_decide_eq_true (by kernel_rfl)) k0 bel lt0) trodAll_mk0), rfl, bel.frame _, fun h => by cases h⟩

theorem over : Rows.fnBestCutRow.holds Tryz.pinned (OpenSpec.ofChange Rows.fnBestCutSpec) :=
 OpenClaim.holds_of_wide 3 Tryz.f3 rfl rfl rfl rfl rfl rfl rfl ⟨rfl, rfl, rfl, rfl, rfl⟩ rfl rfl rfl rfl rfl (by kernel_rfl) Tryz.func3 (by kernel_rfl)
  (of_decide_eq_true (by kernel_rfl)) (by unfold Func.isWrapper; first | (rw [if_pos (by decide +kernel)]; kernel_rfl) | (rw [if_neg (by decide +kernel)]; exact ⟨rfl, rfl⟩))
  (fun os started H enc _ => lifted os started H enc)

theorem proved : Rows.FnBestCutSaid := over
#print axioms proved
end Go.Proofs.YtglllflleabmbaaGreat.fnBestCut
