/-
  Proved here: the Go function laws.FnPerms, called with any arguments that can be read, returns true, and each argument reads afterwards as it read before ('Rows.FnPermsSaid', no condition beyond the row's own). The frame was written by the guide's program; the walk and its contracts are by hand.
-/
import Derived.Test.YthmenbfcjiehdaaRows
import Derived.WalkKit
import Derived.ProofKit
import Derived.OpenShut
import Derived.ShutString
import Derived.ChangeOld
import Derived.Below
import Derived.Test.YthmenbfcjiehdaaDrawP
namespace Go.Proofs.Ythmenbfcjiehdaa.fnPerms
open Go.ChangeShapes Go.WideShapes Go.ChangeAt Go.RowKit
open Go.ChangeMaps (open_string shut_string)
set_option linter.unusedVariables false

theorem own : ownKnob Try.prog.godebug = none := by kernel_rfl
theorem laidOut : laidOutB Try.prog = true := by kernel_rfl

/-- WHAT THE WALK IS TOLD OF A SLICE OF INTEGERS THAT CAME IN: it is nil; or it leads to a row of 'cap' cells, the numbers 'zs' (the first 'len' are its elements, the rest its spare room), each fitting its kind. -/
def IsRow (k : IntKind) (w : World) (a : Option Addr) (len cap : Nat) (zs : List Int) : Prop :=
  (a = none ∧ len = 0 ∧ cap = 0 ∧ zs = []) ∨
  ∃ x, a = some x ∧ len ≤ cap ∧ cap ≤ maxLen ∧ zs.length = cap ∧ (∀ i, i < zs.length → w.cell? (x.add i) = some (.int k (zs.getD i 0))) ∧ ∀ n ∈ zs, (Lit.int k n).wf = true

/-! ### STEP 1: THE WALK: the Go text returns true, AND WRITES NOTHING THAT WAS THERE: 'Below w.heap.size w w'' (Derived/Below.lean: '.refl', '.alloc', '.drew', '.setCell' at a new block, '.trans'). Open each 'IsRow' by 'rcases' AHEAD of 'go_enter'; part every test ahead of the walk. -/
set_option maxRecDepth 100000 in
set_option maxHeartbeats 40000000 in
theorem walk (a0 : Option Addr) (len0 cap0 : Nat) (z0 : List Int) (a1 : Option Addr) (len1 cap1 : Nat) (z1 : List Int) (w : World) (w0 : IsRow .u8 w a0 len0 cap0 z0) (w1 : IsRow .u8 w a1 len1 cap1 z1) :
    Calls Try.prog 4 #[.slice a0 len0 cap0, .slice a1 len1 cap1] w fun e w' => e = .returned (.bool true) ∧ Below w.heap.size w w' := by
  have key : ∀ (a : Option Addr) (len cap : Nat) (z : List Int), IsRow .u8 w a len cap z → Cu.Bytes w w.heap.size a len := by
    intro a len cap z h
    rcases h with ⟨rfl, rfl, rfl, rfl⟩ | ⟨x, rfl, hl, _, hz, hc, hw⟩
    · exact .inl rfl
    · exact Cu.bytes_of _ (Nat.le_refl _) hl hz hc hw
  have B0 := key _ _ _ _ w0
  have B1 := key _ _ _ _ w1
  clear key w0 w1
  by_cases hb0 : 1048576 < len0
  · have e0 : decide (1048576 < len0) = true := by simpa using hb0
    go_enter Try.func4, Try.ntmps4
    go_wp2_with (go_at_call 8; refine (Cu.big_any _ _ _ _).mono ?_; rintro e w' ⟨rfl, hw⟩; subst w')
    go_ret
    exact ⟨rfl, Below.refl _ _⟩
  · by_cases hb1 : 1048576 < len1
    · have e0 : decide (1048576 < len0) = false := by simpa using hb0
      have e1 : decide (1048576 < len1) = true := by simpa using hb1
      go_enter Try.func4, Try.ntmps4
      go_wp2_with (go_at_call 8; refine (Cu.big_any _ _ _ _).mono ?_; rintro e w' ⟨rfl, hw⟩; subst w')
      go_ret
      exact ⟨rfl, Below.refl _ _⟩
    · have e0 : decide (1048576 < len0) = false := by simpa using hb0
      have e1 : decide (1048576 < len1) = false := by simpa using hb1
      go_enter Try.func4, Try.ntmps4
      go_wp2_with (go_at_call 8; refine (Cu.big_any _ _ _ _).mono ?_; rintro e w' ⟨rfl, hw⟩; subst w')
      refine (Ds.drawPermOf_any _ _ _ _ B0 (by omega)).mono ?_
      rintro e w1 ⟨s, n, rfl, s0, s1, n0, n1, hB⟩
      have hys := Po.permR_len s n
      obtain ⟨ys, hyz⟩ : ∃ ys, Po.permR s n = ys := ⟨_, rfl⟩
      rw [hyz] at hys
      have HY : Hid (Po.permR s n = ys) := hyz
      clear hyz
      go_wp2_with fail
      refine (Po.iperm_any _ _ _).mono ?_
      rintro e w2 ⟨vg, rfl, og, hB2⟩
      rw [HY.out] at og
      have hB := hB.trans (hB2.mono hB.size)
      clear hB2
      go_wp2_with fail
      refine (Po.sperm_any _ _ _).mono ?_
      rintro e w3 ⟨vs, rfl, os, hB3⟩
      rw [HY.out] at os
      have og := og.below hB3
      have hB := hB.trans (hB3.mono hB.size)
      clear hB3
      obtain ⟨ag, cg, eg, ig⟩ := og.isl
      subst eg
      obtain ⟨as', cs, es, is'⟩ := os.isl
      subst es
      have hs := Li.eqs_self ys
      go_wp2_with fail
      refine (Li.same_bel _ _ _ _ _ ys ys ig is' (by omega) (by omega)).mono ?_
      rintro e w4 ⟨rfl, hB4⟩
      have ig := ig.below hB4
      have hB := hB.trans (hB4.mono hB.size)
      clear hB4 og os is'
      by_cases hr : 0 ≤ n ∧ n ≤ 60
      case' pos =>
        have hp := Po.perm_pok n.toNat s (by omega)
        have hyp : ys = Po.perm n.toNat s := by rw [← HY.out]; unfold Po.permR; rw [if_pos hr]
        rw [← hyp] at hp
        have hpt := Pe.pok_true hp.1
        have hne : ((ys.length : Int) != n) = false := by simp; omega
        obtain ⟨r0, r1⟩ := hr
        clear hyp hp
        go_wp2_with fail
        refine (Pw.ipok_any _ _ _ ys ig (by omega)).mono ?_
        rintro e w5 ⟨rfl, hB5⟩
        have hB := hB.trans (hB5.mono hB.size)
        clear hB5 ig
        go_wp2_with fail
      case' neg =>
        by_cases hn0 : n < 0
        case' pos =>
          have hd : decide (0 ≤ n) = false := by simp; omega
          go_wp2_with fail
        case' neg =>
          have hd : decide (0 ≤ n) = true := by simp; omega
          have hd' : decide (n ≤ 60) = false := by simp; omega
          go_wp2_with fail
      all_goals refine (Dp.drawThrough_any _ _ _ _ (B1.below hB.size hB.size (fun k hk => hB.block k hk)) (by omega)).mono ?_
      all_goals rintro e w6 ⟨vp, vl, xs, ls, rfl, hxl, hll, op, ol, hB6⟩
      all_goals have hB := hB.trans (hB6.mono hB.size)
      all_goals clear hB6 B0 B1 hb0 hb1 e0 e1
      all_goals obtain ⟨ap, cp, ep, ip⟩ := op.isl
      all_goals subst ep
      all_goals obtain ⟨al, cl, el, il⟩ := ol.isl
      all_goals subst el
      all_goals clear op ol
      all_goals go_wp2_with fail
      all_goals refine (Pw.spok_any _ _ _ xs ip (by omega)).mono ?_
      all_goals rintro e w7' ⟨rfl, n7, hw7⟩
      all_goals have hB7 : Below w6.heap.size w6 w7' := by rw [hw7]; exact below_drewN (Below.refl _ _) _
      all_goals have hB := hB.trans (hB7.mono hB.size)
      all_goals have ip := ip.below hB7
      all_goals have il := il.below hB7
      all_goals clear hB7 hw7
      all_goals
        by_cases hpl : Pe.pok xs = true ∧ xs.length = ls.length
        · obtain ⟨hp1, hp2⟩ := hpl
          have hp := Pe.pok_iff.1 hp1
          have hne : ((xs.length : Int) != (ls.length : Int)) = false := by simp; omega
          have HE : Hid (xs.length = ls.length) := hp2
          have h60 := hp.1
          clear hp2
          -- inv
          go_wp2_with fail
          refine (It.iinv_yes _ _ _ xs ip hp).mono ?_
          rintro e w8 ⟨vi, zs, rfl, hz, oi, hB8⟩
          have ip := ip.below hB8
          have il := il.below hB8
          have hB := hB.trans (hB8.mono hB.size)
          clear hB8
          have hzp := hz.pok hp
          have hzt := Pe.pok_true hzp
          have hz60 := hzp.1
          have HR : Hid (It.thrR xs ls = Pe.thr xs ls) := by show It.thrR xs ls = _; unfold It.thrR; rw [if_pos ⟨hp1, HE.out⟩]
          have HR2 : Hid (It.thrR zs (Pe.thr xs ls) = ls) := by
            show It.thrR zs (Pe.thr xs ls) = ls
            unfold It.thrR
            rw [if_pos ⟨hzt, by rw [Pe.thr_length, hz.1]⟩]
            exact Pe.thr_back hp hz HE.out.symm
          have HT := Pe.thr_length xs ls
          obtain ⟨ts, hts⟩ : ∃ ts, Pe.thr xs ls = ts := ⟨_, rfl⟩
          rw [hts] at HR HR2 HT
          have ht60 : ts.length ≤ 60 := by omega
          clear hts HT
          obtain ⟨ai, ci, ei, ii⟩ := oi.isl
          subst ei
          clear oi
          -- PermOk(inv)
          go_wp2_with fail
          refine (Pw.ipok_any _ _ _ zs ii (by omega)).mono ?_
          rintro e w9 ⟨rfl, hB9⟩
          have ip := ip.below hB9
          have il := il.below hB9
          have ii := ii.below hB9
          have hB := hB.trans (hB9.mono hB.size)
          clear hB9
          -- Through(q, list)
          go_wp2_with fail
          refine (It.ithr_any _ _ _ _ _ xs ls ip il (by omega) (by omega)).mono ?_
          rintro e w10 ⟨vt, rfl, ot, hB10⟩
          rw [HR.out] at ot
          have ip := ip.below hB10
          have il := il.below hB10
          have ii := ii.below hB10
          have hB := hB.trans (hB10.mono hB.size)
          clear hB10
          obtain ⟨at', ct, et, it⟩ := ot.isl
          subst et
          clear ot
          -- Through(inv, ..)
          go_wp2_with fail
          refine (It.ithr_any _ _ _ _ _ zs ts ii it (by omega) (by omega)).mono ?_
          rintro e w11 ⟨vu, rfl, ou, hB11⟩
          rw [HR2.out] at ou
          have ip := ip.below hB11
          have il := il.below hB11
          have ii := ii.below hB11
          have hB := hB.trans (hB11.mono hB.size)
          clear hB11
          obtain ⟨au, cu, eu, iu⟩ := ou.isl
          subst eu
          clear ou it
          have hsl := Li.eqs_self ls
          have hsx := Li.eqs_self xs
          have hst := Li.eqs_self ts
          go_wp2_with fail
          refine (Li.same_bel _ _ _ _ _ ls ls iu il (by omega) (by omega)).mono ?_
          rintro e w12 ⟨rfl, hB12⟩
          have ip := ip.below hB12
          have il := il.below hB12
          have ii := ii.below hB12
          have hB := hB.trans (hB12.mono hB.size)
          clear hB12 iu
          -- Inverse(inv)
          go_wp2_with fail
          refine (It.iinv_yes _ _ _ zs ii hzp).mono ?_
          rintro e w13 ⟨vv, us, rfl, hu, ov, hB13⟩
          obtain rfl := hu.uniq hzp (hz.back hp)
          have ip := ip.below hB13
          have il := il.below hB13
          have hB := hB.trans (hB13.mono hB.size)
          clear hB13 ii hu
          obtain ⟨av, cv, ev, iv⟩ := ov.isl
          subst ev
          clear ov
          go_wp2_with fail
          refine (Li.same_bel _ _ _ _ _ us us iv ip (by omega) (by omega)).mono ?_
          rintro e w14 ⟨rfl, hB14⟩
          have ip := ip.below hB14
          have il := il.below hB14
          have hB := hB.trans (hB14.mono hB.size)
          clear hB14 iv
          -- both Through
          go_wp2_with fail
          refine (It.ithr_any _ _ _ _ _ us ls ip il (by omega) (by omega)).mono ?_
          rintro e w15 ⟨vt, rfl, ot, hB15⟩
          rw [HR.out] at ot
          have ip := ip.below hB15
          have il := il.below hB15
          have hB := hB.trans (hB15.mono hB.size)
          clear hB15
          go_wp2_with fail
          refine (It.sthr_any _ _ _ _ _ us ls ip il (by omega) (by omega)).mono ?_
          rintro e w16 ⟨vr, rfl, or', hB16⟩
          rw [HR.out] at or'
          have ot := ot.below hB16
          have hB := hB.trans (hB16.mono hB.size)
          clear hB16 ip il
          obtain ⟨at'', ct', et, it⟩ := ot.isl
          subst et
          obtain ⟨ar, cr, er, ir⟩ := or'.isl
          subst er
          go_wp2_with fail
          refine (Li.same_bel _ _ _ _ _ ts ts it ir (by omega) (by omega)).mono ?_
          rintro e w17 ⟨rfl, hB17⟩
          have hB := hB.trans (hB17.mono hB.size)
          go_wp2
          go_ret
          exact ⟨rfl, hB⟩
        · have HN : Hid (It.thrR xs ls = []) := by show It.thrR xs ls = []; unfold It.thrR; rw [if_neg hpl]
          by_cases hpt : Pe.pok xs = true
          · have hne : ((xs.length : Int) != (ls.length : Int)) = true := by
              have : ¬ xs.length = ls.length := fun e => hpl ⟨hpt, e⟩
              simp
              omega
            clear hpl
            go_wp2_with fail
            refine (It.ithr_any _ _ _ _ _ xs ls ip il (by omega) (by omega)).mono ?_
            rintro e w8 ⟨vt, rfl, ot, hB8⟩
            rw [HN.out] at ot
            have hB := hB.trans (hB8.mono hB.size)
            obtain ⟨at', ct, et, it⟩ := ot.isl
            subst et
            simp only [List.length_nil]
            go_wp2
            go_ret
            exact ⟨rfl, hB⟩
          · have hpf : Pe.pok xs = false := by simpa using hpt
            clear hpl hpt
            go_wp2_with fail
            refine (It.ithr_any _ _ _ _ _ xs ls ip il (by omega) (by omega)).mono ?_
            rintro e w8 ⟨vt, rfl, ot, hB8⟩
            rw [HN.out] at ot
            have hB := hB.trans (hB8.mono hB.size)
            obtain ⟨at', ct, et, it⟩ := ot.isl
            subst et
            simp only [List.length_nil]
            go_wp2
            go_ret
            exact ⟨rfl, hB⟩

/-! ### THE ROW's STEP: WRITTEN OUT: LEAVE IT -/
set_option maxRecDepth 100000 in
theorem lifted (os : Os) (started : os.Started) (H : Type) (enc : TypeId × Value → H) :
    ReturnsInHanded {} Try.checked os 4 .any (Rows.fnPermsSpec.pre6 enc Try.prog Try.f4 Rows.fnPermsRow.domain false) (Rows.fnPermsSpec.post enc Try.prog Try.f4 false true false false) := by
  refine returnsInHanded_of_change (C := Try.checked) own started (by kernel_rfl) Try.func4
    (ChangeSpec.witness6 (enc := enc) (C := Try.checked) false ⟨#[], #[.slice none 0 0, .slice none 0 0], []⟩ 8 (by kernel_rfl) (by kernel_rfl) (by kernel_rfl) (by kernel_rfl)) ?_
  intro W base args ds gs before hval0 hW hcnd _
  have hval : ∀ (j : Nat) t v, Try.f4.params[j]? = some t → args[j]? = some v → Value.okWide Try.prog W .any base t v := hval0
  have hW' := hW
  obtain ⟨p, q, hA0, hV, rfl, hfz, hnd⟩ := hW
  have hA : DataW.TrodAll enc Try.prog W 0 (fun _ => true) true Try.f4.params.toList args.toList ds p := hA0
  rw [Try.params4] at hA hval
  obtain ⟨v0, vs0, d0, ds0, p0, q0, hargs, rfl, rfl, h0, r0⟩ := trodAll_cons hA
  obtain ⟨v1, vs1, d1, ds1, p1, q1, rfl, rfl, rfl, h1, r1⟩ := trodAll_cons r0
  obtain ⟨rfl, rfl, rfl⟩ := trodAll_nil r1
  obtain rfl : args = #[v0, v1] := by cases args; simp_all
  obtain ⟨rfl, rfl⟩ := trodVars_none hV
  obtain ⟨a0, len0, cap0, rfl⟩ := okWide_slice Try.underlying22 (hval 0 22 v0 rfl rfl)
  have k0 := h0
  have lt0 : ∀ x ∈ p0, x.block < W.heap.size := by obtain ⟨m, hm⟩ := k0; exact DataW.trod_lt m _ _ _ hm
  obtain ⟨z0, w0⟩ : ∃ zs, IsRow .u8 W a0 len0 cap0 zs := by
    obtain ⟨fuel, hf⟩ := h0
    rcases open_ints Try.underlying22 Try.underlying5 (by kernel_rfl) hf with ⟨hcs, _⟩ | ⟨x, l, c, zs, hcs, _, hl, hm, hz, _, hcell, hwz⟩
    · simp [Value.cells] at hcs
      obtain ⟨rfl, rfl, rfl⟩ := hcs
      exact ⟨[], .inl ⟨rfl, rfl, rfl, rfl⟩⟩
    · simp [Value.cells] at hcs
      obtain ⟨rfl, rfl, rfl⟩ := hcs
      exact ⟨zs, .inr ⟨_, rfl, hl, hm, by simpa using hz, hcell, hwz⟩⟩
  obtain ⟨a1, len1, cap1, rfl⟩ := okWide_slice Try.underlying22 (hval 1 22 v1 rfl rfl)
  have k1 := h1
  have lt1 : ∀ x ∈ p1, x.block < W.heap.size := by obtain ⟨m, hm⟩ := k1; exact DataW.trod_lt m _ _ _ hm
  obtain ⟨z1, w1⟩ : ∃ zs, IsRow .u8 W a1 len1 cap1 zs := by
    obtain ⟨fuel, hf⟩ := h1
    rcases open_ints Try.underlying22 Try.underlying5 (by kernel_rfl) hf with ⟨hcs, _⟩ | ⟨x, l, c, zs, hcs, _, hl, hm, hz, _, hcell, hwz⟩
    · simp [Value.cells] at hcs
      obtain ⟨rfl, rfl, rfl⟩ := hcs
      exact ⟨[], .inl ⟨rfl, rfl, rfl, rfl⟩⟩
    · simp [Value.cells] at hcs
      obtain ⟨rfl, rfl, rfl⟩ := hcs
      exact ⟨zs, .inr ⟨_, rfl, hl, hm, by simpa using hz, hcell, hwz⟩⟩
  clear hA0 hval0
  refine (walk a0 len0 cap0 z0 a1 len1 cap1 z1 W w0 w1).mono fun e W' ⟨he, bel⟩ => ?_
  subst he
  exact ⟨_, rfl, _, _, _, [], _, [], hW', trodAll_mk1 (shut_bool Try.underlying4 _), (trodAll_cons_mk (Below.trod laidOut (by kernel_rfl) (of_decide_eq_true (by kernel_rfl)) k0 bel lt0) (trodAll_cons_mk (Below.trod laidOut (by kernel_rfl) (of_decide_eq_true (by kernel_rfl)) k1 bel lt1) trodAll_mk0)), rfl, bel.frame _, fun h => by cases h⟩

theorem over : Rows.fnPermsRow.holds Try.pinned (OpenSpec.ofChange Rows.fnPermsSpec) :=
  OpenClaim.holds_of_wide 4 Try.f4 rfl rfl rfl rfl rfl rfl rfl ⟨rfl, rfl, rfl, rfl, rfl⟩ rfl rfl rfl rfl rfl (by kernel_rfl) Try.func4 (by kernel_rfl)
    (of_decide_eq_true (by kernel_rfl)) (by unfold Func.isWrapper; first | (rw [if_pos (by decide +kernel)]; kernel_rfl) | (rw [if_neg (by decide +kernel)]; exact ⟨rfl, rfl⟩))
    (fun os started H enc _ => lifted os started H enc)

/-- THE STATEMENT -/
theorem proved : Rows.FnPermsSaid := over
#print axioms proved
end Go.Proofs.Ythmenbfcjiehdaa.fnPerms
