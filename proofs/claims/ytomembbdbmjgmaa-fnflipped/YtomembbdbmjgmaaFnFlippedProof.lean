/-
  Proved here: the Go function laws.FnFlipped, called with any arguments that can be read, returns true, and each argument reads afterwards as it read before ('Rows.FnFlippedSaid', no condition beyond the row's own). The frame was written by the guide's program; the walk and its contracts are by hand.
-/
import Derived.Test.YtomembbdbmjgmaaRows
import Derived.WalkKit
import Derived.ProofKit
import Derived.OpenShut
import Derived.ShutString
import Derived.ChangeOld
import Derived.Below
import Derived.Test.YtomembbdbmjgmaaDrawH
import Derived.Test.YtomembbdbmjgmaaSamTr
import Derived.Test.YtomembbdbmjgmaaFlI
import Derived.Test.YtomembbdbmjgmaaTrE
import Derived.Deep.RegionHeld3
namespace Go.Proofs.Ytomembbdbmjgmaa.fnFlipped
open Go.ChangeShapes Go.WideShapes Go.ChangeAt Go.RowKit
open Go.ChangeMaps (open_string shut_string)
set_option linter.unusedVariables false

theorem own : ownKnob Try.prog.godebug = none := by kernel_rfl
theorem laidOut : laidOutB Try.prog = true := by kernel_rfl

/-- WHAT THE WALK IS TOLD OF A SLICE OF INTEGERS THAT CAME IN: it is nil; or it leads to a row of 'cap' cells, the numbers 'zs' (the first 'len' are its elements, the rest its spare room), each fitting its kind. -/
def IsRow (k : IntKind) (w : World) (a : Option Addr) (len cap : Nat) (zs : List Int) : Prop :=
  (a = none ∧ len = 0 ∧ cap = 0 ∧ zs = []) ∨
  ∃ x, a = some x ∧ len ≤ cap ∧ cap ≤ maxLen ∧ zs.length = cap ∧ (∀ i, i < zs.length → w.cell? (x.add i) = some (.int k (zs.getD i 0))) ∧ ∀ n ∈ zs, (Lit.int k n).wf = true

/-! ### STEP 1: THE WALK: the Go text returns true, AND WRITES NOTHING THAT WAS THERE: 'Below w.heap.size w w'' (Derived/Below.lean: '.refl', '.alloc', '.drew', '.setCell' at a new block, '.trans'). Open each 'IsRow' by 'rcases' AHEAD of 'go_enter'; part every test ahead of the walk. -/
set_option maxHeartbeats 4000000 in
theorem walk (a0 : Option Addr) (len0 cap0 : Nat) (z0 : List Int) (a1 : Option Addr) (len1 cap1 : Nat) (z1 : List Int) (w : World) (w0 : IsRow .u8 w a0 len0 cap0 z0) (w1 : IsRow .u8 w a1 len1 cap1 z1) :
    Calls Try.prog 3 #[.slice a0 len0 cap0, .slice a1 len1 cap1] w fun e w' => e = .returned (.bool true) ∧ Below w.heap.size w w' := by
  have key : ∀ (a : Option Addr) (len cap : Nat) (z : List Int), IsRow .u8 w a len cap z → Cu.Bytes w w.heap.size a len := by
    intro a len cap z h
    rcases h with ⟨rfl, rfl, rfl, rfl⟩ | ⟨x, rfl, hl, _, hz, hc, hw⟩
    · exact .inl rfl
    · exact Cu.bytes_of _ (Nat.le_refl _) hl hz hc hw
  have B0 := key _ _ _ _ w0
  have B1 := key _ _ _ _ w1
  clear key w0 w1
  by_cases hb0 : 1048576 < len0
  · have e0 : decide (1048576 < len0) = true := by simpa using hb0
    go_enter Try.func3, Try.ntmps3
    go_wp2_with (go_at_call 5; refine (Cu.big_any _ _ _ _).mono ?_; rintro e w' ⟨rfl, hw⟩; subst w')
    go_ret
    exact ⟨rfl, Below.refl _ _⟩
  have e0 : decide (1048576 < len0) = false := by simpa using hb0
  by_cases hb1 : 1048576 < len1
  · have e1 : decide (1048576 < len1) = true := by simpa using hb1
    go_enter Try.func3, Try.ntmps3
    go_wp2_with (go_at_call 5; refine (Cu.big_any _ _ _ _).mono ?_; rintro e w' ⟨rfl, hw⟩; subst w')
    go_ret
    exact ⟨rfl, Below.refl _ _⟩
  have e1 : decide (1048576 < len1) = false := by simpa using hb1
  go_enter Try.func3, Try.ntmps3
  go_wp2_with (go_at_call 5; refine (Cu.big_any _ _ _ _).mono ?_; rintro e w' ⟨rfl, hw⟩; subst w')
  refine (Df.drawFlipped_any _ _ _ _ B0 (by omega)).mono ?_
  rintro e w1 ⟨a0, c0, a1, c1, t, i, rfl, hlen, hir, o0, o1, _, hB⟩
  obtain ⟨_, _, ee, _, ip⟩ := o0.isp
  cases ee
  obtain ⟨_, _, ee, il⟩ := o1.isl
  cases ee
  clear o0 o1 B0 hb0 e0
  have B1 := B1.keptB hB.size (fun k hk => hB.block k hk)
  have hz1 := hB.size
  go_wp2_with fail
  obtain ⟨W, hW, hsz, hb, bx⟩ := Tm.boxes1 w1 (.slice a0 t.sp.length c0) (.slice a1 t.lv.length c1) 27
  rw [hW]
  have ip := ip.below hb
  have il := il.below hb
  have B1 := B1.keptB hb.size (fun k hk => hb.block k (by omega))
  have hB := hB.trans (hb.mono hB.size)
  have hzW : w.heap.size ≤ W.heap.size := by omega
  clear hW hsz hb
  refine (Df.drawEval_any _ _ _ _ B1 (by omega)).mono ?_
  rintro e w2 ⟨v0, v1, t', ax, cx, xs, rfl, hlen', hxs, o0, o1, _, isx, _, hb⟩
  obtain ⟨b0, d0, rfl, _, _⟩ := o0.isp
  obtain ⟨b1, d1, rfl, _⟩ := o1.isl
  have ip := ip.below hb
  have il := il.below hb
  have bx := bx.below hb
  have hB := hB.trans (hb.mono hB.size)
  clear o0 o1 B1 hb hb1 e1
  obtain ⟨_, ⟨x0, x1⟩, _⟩ := id bx
  have hx1 := bx.1
  go_wp2_with fail
  clear x0 x1
  obtain ⟨W2, hW2, hsz2, hb2, _⟩ := Tm.boxes1 w2 (.slice b0 t'.sp.length d0) (.slice b1 t'.lv.length d1) 27
  rw [hW2]
  have ip := ip.below hb2
  have il := il.below hb2
  have isx := isx.below hb2
  have bx := bx.below hb2
  have hB := hB.trans (hb2.mono hB.size)
  clear hW2 hsz2 hb2
  obtain ⟨F, hF⟩ : ∃ F, Tr.flipped t i = F := ⟨_, rfl⟩
  have HF : Hid (Tr.flipped t i = F) := hF
  have hFl : F.sp.length + F.lv.length ≤ 100 := by
    rw [← hF]
    cases hc : Tr.canFlip t i with
    | false => rw [Tr.flipped_no hc]; simp
    | true => rw [Tr.flipped_yes hc]; simp only [Tr.swp_length, Tr.flipL_length]; omega
  clear hF
  refine (Fw.iflip _ _ _ _ _ t i ip il (by omega)).mono ?_
  rintro e w3 ⟨u0, u1, rfl, o0, o1, _, hb⟩
  rw [HF.out] at o0 o1
  obtain ⟨f0, k0, rfl, _, jp⟩ := o0.isp
  obtain ⟨f1, k1, rfl, jl⟩ := o1.isl
  have ip := ip.below hb
  have il := il.below hb
  have isx := isx.below hb
  have bx := bx.below hb
  have hB := hB.trans (hb.mono hB.size)
  clear hb o0 o1
  go_wp2_with fail
  obtain ⟨W3, hW3, hsz3, hb3, by9⟩ := Tm.boxes1 w3 (.slice f0 F.sp.length k0) (.slice f1 F.lv.length k1) 27
  rw [hW3]
  have ip := ip.below hb3
  have il := il.below hb3
  have jp := jp.below hb3
  have jl := jl.below hb3
  have isx := isx.below hb3
  have bx := bx.below hb3
  have hB := hB.trans (hb3.mono hB.size)
  clear hW3 hsz3 hb3
  obtain ⟨_, ⟨x0, x1⟩, _⟩ := id by9
  obtain ⟨_, ⟨x2, x3⟩, _⟩ := id bx
  have HX_ip : Hid (type_of% ip) := ip
  have HX_il : Hid (type_of% il) := il
  have HX_jp : Hid (type_of% jp) := jp
  have HX_jl : Hid (type_of% jl) := jl
  have HX_isx : Hid (type_of% isx) := isx
  have HX_bx : Hid (type_of% bx) := bx
  have HX_by9 : Hid (type_of% by9) := by9
  have HHB : Hid (type_of% hB) := hB
  have HLE : Hid (type_of% hlen) := hlen
  clear hB hlen ip il jp jl isx bx by9
  go_region_held3 (fun w' => (w'.cell? ⟨w3.heap.size, 0, none⟩ = some (.slice f0 F.sp.length k0) ∧ w'.cell? ⟨w3.heap.size, 1, none⟩ = some (.slice f1 F.lv.length k1)) ∧ (w'.cell? ⟨w1.heap.size, 0, none⟩ = some (.slice a0 t.sp.length c0) ∧ w'.cell? ⟨w1.heap.size, 1, none⟩ = some (.slice a1 t.lv.length c1))) (go_keep) (first
    | (go_at_call 10; refine (Fw.sflip W3.drew _ _ _ _ t i (show Tm.IsP _ _ _ from HX_ip.out) (show Li.IsL _ _ _ from HX_il.out) (by have := HLE.out; omega)).mono ?_; rintro e w4 ⟨u0, u1, rfl, o0, o1, _, hb⟩; rw [HF.out] at o0 o1; obtain ⟨g0, l0, rfl, _, kp⟩ := o0.isp; obtain ⟨g1, l1, rfl, kl⟩ := o1.isl; have HY4 : Hid (Below W3.heap.size W3 w4) := (Tm.below_drew W3).trans hb; have HKP := kp; have HKL := kl; obtain ⟨_, ⟨y0, y1⟩, _⟩ := id (HX_by9.out.below HY4.out); obtain ⟨_, ⟨y2, y3⟩, _⟩ := id (HX_bx.out.below HY4.out); clear hb o0 o1 kp kl)
    | (go_at_call 9; refine (Tm.sameTree w4 _ _ _ _ _ _ _ _ F (HX_jp.out.below HY4.out) (HX_jl.out.below HY4.out) HKP HKL (by omega)).mono ?_; rintro e w5 ⟨rfl, hb⟩; have HY5 : Hid (Below W3.heap.size W3 w5) := HY4.out.trans (hb.mono HY4.out.size); obtain ⟨_, ⟨z0, z1⟩, _⟩ := id (HX_by9.out.below HY5.out); obtain ⟨_, ⟨z2, z3⟩, _⟩ := id (HX_bx.out.below HY5.out); clear hb))
  have hB := HHB.out
  have hlen := HLE.out
  have ip := HX_ip.out.below HY5.out
  have il := HX_il.out.below HY5.out
  have jp := HX_jp.out.below HY5.out
  have jl := HX_jl.out.below HY5.out
  have isx := HX_isx.out.below HY5.out
  have bx := HX_bx.out.below HY5.out
  have by9 := HX_by9.out.below HY5.out
  have hB := hB.trans ((HY5.out).mono hB.size)
  clear HHB HLE HX_ip HX_il HX_jp HX_jl HX_isx HX_bx HX_by9
  clear HY5 HY4 HKP HKL x0 x1 x2 x3 z0 z1 z2 z3
  obtain ⟨_, ⟨x2, x3⟩, _⟩ := id bx
  go_wp2_with fail
  clear x2 x3
  refine (Tw.stok _ _ _ _ _ t ip il (by omega)).mono ?_
  rintro e w6 ⟨rfl, hb⟩
  have ip := ip.below hb
  have il := il.below hb
  have jp := jp.below hb
  have jl := jl.below hb
  have isx := isx.below hb
  have bx := bx.below hb
  have by9 := by9.below hb
  have hB := hB.trans (hb.mono hB.size)
  clear hb
  obtain ⟨_, ⟨x0, x1⟩, _⟩ := id by9
  obtain ⟨_, ⟨x2, x3⟩, _⟩ := id bx
  cases hc : Tr.canFlip t i with
  | false =>
    have hF0 : F.lv.length = 0 := by rw [← HF.out, Tr.flipped_no hc]; rfl
    have hz : ((F.lv.length : Int) == 0) = true := by rw [hF0]; rfl
    have hzd : decide ((F.lv.length : Int) = 0) = true := by rw [hF0]; rfl
    rw [hF0] at x1
    clear hz hzd
    cases ht : Tr.tok t with
    | false =>
      clear hc
      go_wp2
      go_ret
      exact ⟨rfl, hB⟩
    | true =>
      by_cases h0 : i < 0
      · have hd : decide (i < 0) = true := by simpa using h0
        clear hc
        go_wp2
        go_ret
        exact ⟨rfl, hB⟩
      · have hd : decide (i < 0) = false := by simpa using h0
        have h1 : (t.sp.length : Int) - 2 < i := by
          rcases Int.lt_or_le ((t.sp.length : Int) - 2) i with h | h
          · exact h
          · have := Tr.canFlip_iff.2 ⟨ht, by omega, h⟩; rw [hc] at this; cases this
        have hd1 : decide ((t.sp.length : Int) - 2 < i) = true := by simpa using h1
        clear hc
        go_wp2
        go_ret
        exact ⟨rfl, hB⟩
  | true =>
    obtain ⟨ht, h0, h1⟩ := Tr.canFlip_iff.1 hc
    have HC : Hid (Tr.canFlip t i = true) := hc
    have hd : decide (i < 0) = false := by simp; omega
    have hd1 : decide ((t.sp.length : Int) - 2 < i) = false := by simp; omega
    have HTF : Hid (Tr.tok F = true) := by show _ = _; rw [← HF.out]; exact Tr.flip_tok hc
    have HBK : Hid (Tr.flipped F i = t) := by show _ = _; rw [← HF.out]; exact Tr.flip_back hc
    obtain ⟨E, hE⟩ : ∃ E, Tr.eval t xs = E := ⟨_, rfl⟩
    have HE : Hid (Tr.eval t xs = E) := hE
    have HE2 : Hid (Tr.eval F xs = E) := by show _ = _; rw [← HF.out, Tr.flip_eval hc]; exact hE
    have hEE : (E == E) = true := by simp
    have hED : decide (E = E) = true := by simp
    rw [ht]
    have hsp : t.sp.length ≤ 100 := by omega
    clear hc hE ht
    have HX_ip : Hid (type_of% ip) := ip
    have HX_il : Hid (type_of% il) := il
    have HX_jp : Hid (type_of% jp) := jp
    have HX_jl : Hid (type_of% jl) := jl
    have HX_isx : Hid (type_of% isx) := isx
    have HX_bx : Hid (type_of% bx) := bx
    have HX_by9 : Hid (type_of% by9) := by9
    have HHB : Hid (type_of% hB) := hB
    have HLE : Hid (type_of% hlen) := hlen
    clear hB hlen ip il jp jl isx bx by9
    go_wp2
    go_region_held3 (fun w' => (w'.cell? ⟨w3.heap.size, 0, none⟩ = some (.slice f0 F.sp.length k0) ∧ w'.cell? ⟨w3.heap.size, 1, none⟩ = some (.slice f1 F.lv.length k1)) ∧ (w'.cell? ⟨w1.heap.size, 0, none⟩ = some (.slice a0 t.sp.length c0) ∧ w'.cell? ⟨w1.heap.size, 1, none⟩ = some (.slice a1 t.lv.length c1))) (go_keep) (first
      | (go_at_call 12; refine (Tw.itok w6.drew _ _ _ _ F (show Tm.IsP _ _ _ from HX_jp.out) (show Li.IsL _ _ _ from HX_jl.out) (by omega)).mono ?_; rintro e w7 ⟨rfl, hb⟩; rw [HTF.out]; have HY7 : Hid (Below w6.heap.size w6 w7) := (Tm.below_drew w6).trans hb; obtain ⟨_, ⟨p0, p1⟩, _⟩ := id (HX_by9.out.below HY7.out); obtain ⟨_, ⟨p2, p3⟩, _⟩ := id (HX_bx.out.below HY7.out); clear hb)
      | (go_at_call_of 13 k0; refine (Tw.ieval w7 _ _ _ _ _ _ F xs (HX_jp.out.below HY7.out) (HX_jl.out.below HY7.out) (HX_isx.out.below HY7.out) (by omega) (by omega)).mono ?_; rintro e w8 ⟨rfl, hb⟩; rw [HE2.out]; have HY8 : Hid (Below w6.heap.size w6 w8) := HY7.out.trans (hb.mono HY7.out.size); obtain ⟨_, ⟨q0, q1⟩, _⟩ := id (HX_by9.out.below HY8.out); obtain ⟨_, ⟨q2, q3⟩, _⟩ := id (HX_bx.out.below HY8.out); clear hb)
      | (go_at_call_of 13 c0; refine (Tw.ieval w8 _ _ _ _ _ _ t xs (HX_ip.out.below HY8.out) (HX_il.out.below HY8.out) (HX_isx.out.below HY8.out) (by have := HLE.out; omega) (by omega)).mono ?_; rintro e w9 ⟨rfl, hb⟩; rw [HE.out]; have HY9 : Hid (Below w6.heap.size w6 w9) := HY8.out.trans (hb.mono HY8.out.size); obtain ⟨_, ⟨r0, r1⟩, _⟩ := id (HX_by9.out.below HY9.out); obtain ⟨_, ⟨r2, r3⟩, _⟩ := id (HX_bx.out.below HY9.out); clear hb)
      | (go_at_call 8; refine (Fw.iflip w9 _ _ _ _ F i (HX_jp.out.below HY9.out) (HX_jl.out.below HY9.out) (by omega)).mono ?_; rintro e w10 ⟨u0, u1, rfl, o0, o1, _, hb⟩; rw [HBK.out] at o0 o1; obtain ⟨g0, l0, rfl, _, kp⟩ := o0.isp; obtain ⟨g1, l1, rfl, kl⟩ := o1.isl; have HY10 : Hid (Below w6.heap.size w6 w10) := HY9.out.trans (hb.mono HY9.out.size); have HKP := kp; have HKL := kl; obtain ⟨_, ⟨s0, s1⟩, _⟩ := id (HX_by9.out.below HY10.out); obtain ⟨_, ⟨s2, s3⟩, _⟩ := id (HX_bx.out.below HY10.out); clear hb o0 o1 kp kl)
      | (go_at_call 9; refine (Tm.sameTree w10 _ _ _ _ _ _ _ _ t HKP HKL (HX_ip.out.below HY10.out) (HX_il.out.below HY10.out) (by have := HLE.out; omega)).mono ?_; rintro e w11 ⟨rfl, hb⟩; have HY11 : Hid (Below w6.heap.size w6 w11) := HY10.out.trans (hb.mono HY10.out.size); obtain ⟨_, ⟨v0, v1⟩, _⟩ := id (HX_by9.out.below HY11.out); obtain ⟨_, ⟨v2, v3⟩, _⟩ := id (HX_bx.out.below HY11.out); clear hb))
    have hBB := HHB.out.trans (HY11.out.mono HHB.out.size)
    go_wp2
    go_ret
    exact ⟨rfl, hBB⟩

/-! ### THE ROW's STEP: WRITTEN OUT: LEAVE IT -/
set_option maxRecDepth 100000 in
theorem lifted (os : Os) (started : os.Started) (H : Type) (enc : TypeId × Value → H) :
    ReturnsInHanded {} Try.checked os 3 .any (Rows.fnFlippedSpec.pre6 enc Try.prog Try.f3 Rows.fnFlippedRow.domain false) (Rows.fnFlippedSpec.post enc Try.prog Try.f3 false true false false) := by
  refine returnsInHanded_of_change (C := Try.checked) own started (by kernel_rfl) Try.func3
    (ChangeSpec.witness6 (enc := enc) (C := Try.checked) false ⟨#[], #[.slice none 0 0, .slice none 0 0], []⟩ 8 (by kernel_rfl) (by kernel_rfl) (by kernel_rfl) (by kernel_rfl)) ?_
  intro W base args ds gs before hval0 hW hcnd _
  have hval : ∀ (j : Nat) t v, Try.f3.params[j]? = some t → args[j]? = some v → Value.okWide Try.prog W .any base t v := hval0
  have hW' := hW
  obtain ⟨p, q, hA0, hV, rfl, hfz, hnd⟩ := hW
  have hA : DataW.TrodAll enc Try.prog W 0 (fun _ => true) true Try.f3.params.toList args.toList ds p := hA0
  rw [Try.params3] at hA hval
  obtain ⟨v0, vs0, d0, ds0, p0, q0, hargs, rfl, rfl, h0, r0⟩ := trodAll_cons hA
  obtain ⟨v1, vs1, d1, ds1, p1, q1, rfl, rfl, rfl, h1, r1⟩ := trodAll_cons r0
  obtain ⟨rfl, rfl, rfl⟩ := trodAll_nil r1
  obtain rfl : args = #[v0, v1] := by cases args; simp_all
  obtain ⟨rfl, rfl⟩ := trodVars_none hV
  obtain ⟨a0, len0, cap0, rfl⟩ := okWide_slice Try.underlying22 (hval 0 22 v0 rfl rfl)
  have k0 := h0
  have lt0 : ∀ x ∈ p0, x.block < W.heap.size := by obtain ⟨m, hm⟩ := k0; exact DataW.trod_lt m _ _ _ hm
  obtain ⟨z0, w0⟩ : ∃ zs, IsRow .u8 W a0 len0 cap0 zs := by
    obtain ⟨fuel, hf⟩ := h0
    rcases open_ints Try.underlying22 Try.underlying5 (by kernel_rfl) hf with ⟨hcs, _⟩ | ⟨x, l, c, zs, hcs, _, hl, hm, hz, _, hcell, hwz⟩
    · simp [Value.cells] at hcs
      obtain ⟨rfl, rfl, rfl⟩ := hcs
      exact ⟨[], .inl ⟨rfl, rfl, rfl, rfl⟩⟩
    · simp [Value.cells] at hcs
      obtain ⟨rfl, rfl, rfl⟩ := hcs
      exact ⟨zs, .inr ⟨_, rfl, hl, hm, by simpa using hz, hcell, hwz⟩⟩
  obtain ⟨a1, len1, cap1, rfl⟩ := okWide_slice Try.underlying22 (hval 1 22 v1 rfl rfl)
  have k1 := h1
  have lt1 : ∀ x ∈ p1, x.block < W.heap.size := by obtain ⟨m, hm⟩ := k1; exact DataW.trod_lt m _ _ _ hm
  obtain ⟨z1, w1⟩ : ∃ zs, IsRow .u8 W a1 len1 cap1 zs := by
    obtain ⟨fuel, hf⟩ := h1
    rcases open_ints Try.underlying22 Try.underlying5 (by kernel_rfl) hf with ⟨hcs, _⟩ | ⟨x, l, c, zs, hcs, _, hl, hm, hz, _, hcell, hwz⟩
    · simp [Value.cells] at hcs
      obtain ⟨rfl, rfl, rfl⟩ := hcs
      exact ⟨[], .inl ⟨rfl, rfl, rfl, rfl⟩⟩
    · simp [Value.cells] at hcs
      obtain ⟨rfl, rfl, rfl⟩ := hcs
      exact ⟨zs, .inr ⟨_, rfl, hl, hm, by simpa using hz, hcell, hwz⟩⟩
  clear hA0 hval0
  refine (walk a0 len0 cap0 z0 a1 len1 cap1 z1 W w0 w1).mono fun e W' ⟨he, bel⟩ => ?_
  subst he
  exact ⟨_, rfl, _, _, _, [], _, [], hW', trodAll_mk1 (shut_bool Try.underlying4 _), (trodAll_cons_mk (Below.trod laidOut (by kernel_rfl) (of_decide_eq_true (by kernel_rfl)) k0 bel lt0) (trodAll_cons_mk (Below.trod laidOut (by kernel_rfl) (of_decide_eq_true (by kernel_rfl)) k1 bel lt1) trodAll_mk0)), rfl, bel.frame _, fun h => by cases h⟩

theorem over : Rows.fnFlippedRow.holds Try.pinned (OpenSpec.ofChange Rows.fnFlippedSpec) :=
  OpenClaim.holds_of_wide 3 Try.f3 rfl rfl rfl rfl rfl rfl rfl ⟨rfl, rfl, rfl, rfl, rfl⟩ rfl rfl rfl rfl rfl (by kernel_rfl) Try.func3 (by kernel_rfl)
    (of_decide_eq_true (by kernel_rfl)) (by unfold Func.isWrapper; first | (rw [if_pos (by decide +kernel)]; kernel_rfl) | (rw [if_neg (by decide +kernel)]; exact ⟨rfl, rfl⟩))
    (fun os started H enc _ => lifted os started H enc)

/-- THE STATEMENT -/
theorem proved : Rows.FnFlippedSaid := over
#print axioms proved
end Go.Proofs.Ytomembbdbmjgmaa.fnFlipped
