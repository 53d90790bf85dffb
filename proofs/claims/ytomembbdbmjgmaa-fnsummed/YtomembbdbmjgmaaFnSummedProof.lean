/-
  Proved here: the Go function laws.FnSummed, called with any arguments that can be read, returns true, and each argument reads afterwards as it read before ('Rows.FnSummedSaid', no condition beyond the row's own). The frame was written by the guide's program; the walk and its contracts are by hand.
-/
import Derived.Test.YtomembbdbmjgmaaRows
import Derived.WalkKit
import Derived.ProofKit
import Derived.OpenShut
import Derived.ShutString
import Derived.ChangeOld
import Derived.Below
import Derived.Test.YtomembbdbmjgmaaTrA
import Derived.Test.YtomembbdbmjgmaaTrW
namespace Go.Proofs.Ytomembbdbmjgmaa.fnSummed
open Go.ChangeShapes Go.WideShapes Go.ChangeAt Go.RowKit
open Go.ChangeMaps (open_string shut_string)
set_option linter.unusedVariables false

theorem own : ownKnob Try.prog.godebug = none := by kernel_rfl
theorem laidOut : laidOutB Try.prog = true := by kernel_rfl

/-- WHAT THE WALK IS TOLD OF A SLICE OF INTEGERS THAT CAME IN: it is nil; or it leads to a row of 'cap' cells, the numbers 'zs' (the first 'len' are its elements, the rest its spare room), each fitting its kind. -/
def IsRow (k : IntKind) (w : World) (a : Option Addr) (len cap : Nat) (zs : List Int) : Prop :=
  (a = none ∧ len = 0 ∧ cap = 0 ∧ zs = []) ∨
  ∃ x, a = some x ∧ len ≤ cap ∧ cap ≤ maxLen ∧ zs.length = cap ∧ (∀ i, i < zs.length → w.cell? (x.add i) = some (.int k (zs.getD i 0))) ∧ ∀ n ∈ zs, (Lit.int k n).wf = true

/-! ### STEP 1: THE WALK: the Go text returns true, AND WRITES NOTHING THAT WAS THERE: 'Below w.heap.size w w'' (Derived/Below.lean: '.refl', '.alloc', '.drew', '.setCell' at a new block, '.trans'). Open each 'IsRow' by 'rcases' AHEAD of 'go_enter'; part every test ahead of the walk. -/
set_option maxHeartbeats 4000000 in
theorem walk (a0 : Option Addr) (len0 cap0 : Nat) (z0 : List Int) (a1 : Option Addr) (len1 cap1 : Nat) (z1 : List Int) (w : World) (w0 : IsRow .u8 w a0 len0 cap0 z0) (w1 : IsRow .u8 w a1 len1 cap1 z1) :
    Calls Try.prog 4 #[.slice a0 len0 cap0, .slice a1 len1 cap1] w fun e w' => e = .returned (.bool true) ∧ Below w.heap.size w w' := by
  have key : ∀ (a : Option Addr) (len cap : Nat) (z : List Int), IsRow .u8 w a len cap z → Cu.Bytes w w.heap.size a len := by
    intro a len cap z h
    rcases h with ⟨rfl, rfl, rfl, rfl⟩ | ⟨x, rfl, hl, _, hz, hc, hw⟩
    · exact .inl rfl
    · exact Cu.bytes_of _ (Nat.le_refl _) hl hz hc hw
  have B0 := key _ _ _ _ w0
  have B1 := key _ _ _ _ w1
  clear key w0 w1
  obtain ⟨i0, hi, hz0, hz1, hz2⟩ := info_parts Df.info_tre
  by_cases hb0 : 1048576 < len0
  · have e0 : decide (1048576 < len0) = true := by simpa using hb0
    go_enter Try.func4, Try.ntmps4
    go_wp2_with (go_at_call 5; refine (Cu.big_any _ _ _ _).mono ?_; rintro e w' ⟨rfl, hw⟩; subst w')
    go_ret
    exact ⟨rfl, Below.refl _ _⟩
  have e0 : decide (1048576 < len0) = false := by simpa using hb0
  by_cases hb1 : 1048576 < len1
  · have e1 : decide (1048576 < len1) = true := by simpa using hb1
    go_enter Try.func4, Try.ntmps4
    go_wp2_with (go_at_call 5; refine (Cu.big_any _ _ _ _).mono ?_; rintro e w' ⟨rfl, hw⟩; subst w')
    go_ret
    exact ⟨rfl, Below.refl _ _⟩
  have e1 : decide (1048576 < len1) = false := by simpa using hb1
  go_enter Try.func4, Try.ntmps4
  go_wp2_with (go_at_call 5; refine (Cu.big_any _ _ _ _).mono ?_; rintro e w' ⟨rfl, hw⟩; subst w')
  refine (Df.drawSum_any _ _ _ _ B0 (by omega)).mono ?_
  rintro e w1 ⟨ad, c, ts, ax, cx, xs, base, rfl, htl, hts, ist, isx, hxs, hbase, hB⟩
  have B1 := B1.keptB hB.size (fun k hk => hB.block k hk)
  clear B0 hb0 e0
  go_wp2_with fail
  refine (Df.drawSum_any _ _ _ _ B1 (by omega)).mono ?_
  rintro e w2 ⟨bd, d, us, ay, cy, ys, base', rfl, hul, hus, isu, _, _, _, hb⟩
  have ist := ist.below hb
  have isx := isx.below hb
  have hB := hB.trans (hb.mono hB.size)
  clear B1 hb hb1 e1
  obtain ⟨s, hs⟩ : ∃ s, Sw.sm ts xs base = s := ⟨_, rfl⟩
  have HS : Hid (Sw.sm ts xs base = s) := hs
  clear hs
  go_wp2_with fail
  refine (Sw.isum _ _ _ _ _ ts xs base ist isx (by omega) (by omega)).mono ?_
  rintro e w3 ⟨rfl, hb⟩
  rw [HS.out]
  have ist := ist.below hb
  have isx := isx.below hb
  have isu := isu.below hb
  have hB := hB.trans (hb.mono hB.size)
  clear hb
  go_wp2_with fail
  refine (Sw.ssum _ _ _ _ _ ts xs base ist isx (by omega) (by omega)).mono ?_
  rintro e w4 ⟨rfl, hb⟩
  rw [HS.out]
  have ist := ist.below hb
  have isx := isx.below hb
  have isu := isu.below hb
  have hB := hB.trans (hb.mono hB.size)
  clear hb
  have hss : (s != s) = false := by simp
  go_wp2
  go_loopw [12] (fun i wr => ∃ k : Nat, k ≤ ts.length ∧ i = .int .i64 k ∧ (∀ j (hj : j < ts.length), j < k → Tr.tok ts[j] = true) ∧ Below w4.heap.size w4 wr) (fun i _ => ts.length - (intOf i).toNat)
  case atStart => exact ⟨0, Nat.zero_le _, rfl, fun j hj h => by omega, Below.refl _ _⟩
  case round =>
    obtain ⟨k, hk, rfl, hok, hb⟩ := hrel
    have HOK : Hid (∀ j (hj : j < ts.length), j < k → Tr.tok ts[j] = true) := hok
    clear hok
    by_cases hlt : k < ts.length
    · have hsz := Tm.szT_at ts k hlt
      rcases ist.below hb with h0 | ⟨tb, to, e, htb, hc⟩
      · rw [h0] at hlt; simp at hlt
      cases e
      obtain ⟨v0, v1, ⟨c0, c1⟩, a0, k0, a1, k1, rfl, rfl, ip, il⟩ := hc k hlt
      have HNO : Hid (Tr.tok ts[k] = false → s = 0) := fun h => by rw [← HS.out]; exact Sw.sm_no (Sw.allok_no hlt h)
      have HYES : Hid (Tr.tok ts[k] = true → ∀ j (hj : j < ts.length), j < k + 1 → Tr.tok ts[j] = true) := fun h j hj hjk => by
        by_cases e : j = k
        · subst e; exact h
        · exact HOK.out j hj (by omega)
      obtain ⟨t, ht⟩ : ∃ t, ts[k] = t := ⟨_, rfl⟩
      rw [ht] at c0 c1 ip il HNO HYES hsz
      unfold Tm.szt at hsz
      clear hc ht
      go_wp2_with fail
      refine (Tw.stok _ _ _ _ _ t ip il (by omega)).mono ?_
      rintro e w5 ⟨rfl, hb5⟩
      have hb := hb.trans (hb5.mono hb.size)
      have hBB := hB.trans (hb.mono hB.size)
      clear c0 c1 ip il hb5
      cases hv : Tr.tok t with
      | false =>
        have hs0 := HNO.out hv
        subst hs0
        clear hv
        go_wp2
        go_ret
        exact ⟨rfl, hBB⟩
      | true =>
        have HR : Hid (type_of% (HYES.out hv)) := HYES.out hv
        clear hv
        go_wp2
        go_roundw
        case rel => exact ⟨k + 1, by omega, by go_num, HR.out, hb⟩
        case measure => simp [intOf]; omega
    · obtain rfl : k = ts.length := by omega
      have HTS : Hid (Sw.allok ts = true) := Sw.allok_all (fun j hj => HOK.out j hj hj)
      have ist := ist.below hb
      have isx := isx.below hb
      have isu := isu.below hb
      have hB := hB.trans (hb.mono hB.size)
      obtain ⟨W5, hW5⟩ : ∃ W5, W5 = wr := ⟨_, rfl⟩
      subst hW5
      clear hb HOK
      go_wp2
      go_loopw [13] (fun i wx => ∃ k : Nat, k ≤ us.length ∧ i = .int .i64 k ∧ (∀ j (hj : j < us.length), j < k → Tr.tok us[j] = true) ∧ Below W5.heap.size W5 wx) (fun i _ => us.length - (intOf i).toNat)
      case atStart => exact ⟨0, Nat.zero_le _, rfl, fun j hj h => by omega, Below.refl _ _⟩
      case round =>
        obtain ⟨k, hk, rfl, hok, hb⟩ := hrel
        have HOK : Hid (∀ j (hj : j < us.length), j < k → Tr.tok us[j] = true) := hok
        clear hok
        by_cases hlt : k < us.length
        · have hsz := Tm.szT_at us k hlt
          rcases isu.below hb with h0 | ⟨tb, to, e, htb, hc⟩
          · rw [h0] at hlt; simp at hlt
          cases e
          obtain ⟨v0, v1, ⟨c0, c1⟩, a0, k0, a1, k1, rfl, rfl, ip, il⟩ := hc k hlt
          have HYES : Hid (Tr.tok us[k] = true → ∀ j (hj : j < us.length), j < k + 1 → Tr.tok us[j] = true) := fun h j hj hjk => by
            by_cases e : j = k
            · subst e; exact h
            · exact HOK.out j hj (by omega)
          obtain ⟨t, ht⟩ : ∃ t, us[k] = t := ⟨_, rfl⟩
          rw [ht] at c0 c1 ip il HYES hsz
          unfold Tm.szt at hsz
          clear hc ht
          go_wp2_with fail
          refine (Tw.stok _ _ _ _ _ t ip il (by omega)).mono ?_
          rintro e w6 ⟨rfl, hb6⟩
          have hb := hb.trans (hb6.mono hb.size)
          have hBB := hB.trans (hb.mono hB.size)
          clear c0 c1 ip il hb6
          cases hv : Tr.tok t with
          | false =>
            clear hv
            go_wp2
            go_ret
            exact ⟨rfl, hBB⟩
          | true =>
            have HR : Hid (type_of% (HYES.out hv)) := HYES.out hv
            clear hv
            go_wp2
            go_roundw
            case rel => exact ⟨k + 1, by omega, by go_num, HR.out, hb⟩
            case measure => simp [intOf]; omega
        · obtain rfl : k = us.length := by omega
          have HUS : Hid (Sw.allok us = true) := Sw.allok_all (fun j hj => HOK.out j hj hj)
          have HSUM : Hid (Sw.sm (ts ++ us) xs base = Sw.sm us xs s) := by show _ = _; rw [Sw.sm_append HTS.out HUS.out, HS.out]
          have HLEN : Hid ((ts ++ us).length = ts.length + us.length) := List.length_append
          have HSZ : Hid (Tm.szT (ts ++ us) = Tm.szT ts + Tm.szT us) := Tm.szT_append ts us
          have ist := ist.below hb
          have isx := isx.below hb
          have isu := isu.below hb
          have hB := hB.trans (hb.mono hB.size)
          obtain ⟨cs, tc, hnt⟩ := Df.ist_cells ist
          obtain ⟨ds, uc, hnu⟩ := Df.ist_cells isu
          obtain ⟨W6, hW6⟩ : ∃ W6, W6 = wr := ⟨_, rfl⟩
          subst hW6
          have hba : Below W6.heap.size W6 (W6.alloc (.cells #[] 27)) := (Below.refl _ _).alloc (Nat.le_refl _) _
          have own0 : (W6.alloc (.cells #[] 27)).ownsRow W6.heap.size 27 2 (.slice (some ⟨W6.heap.size, 0, none⟩) 0 0) 0 [] := World.ownsRow_made W6 #[] 0 (Nat.le_refl _) (by unfold maxLen; omega) (by simp)
          have hcs := tc.1
          have hds := uc.1
          have HCS : Hid (cs.length = ts.length * 2) := hcs
          have HDS : Hid (ds.length = us.length * 2) := hds
          have adl : ∀ j u, cs[j]? = some u → (W6.alloc (.cells #[] 27)).cell? (ad.add j) = some u := fun j u h => Df.cell_up hba (hnt j u h)
          clear hb HOK hcs hds
          go_wp2_with (at_builtin; refine wpList_append_own _ rfl _ _ 37 rfl W6.heap.size 27 i0 (.agg #[.slice none 0 0, .slice none 0 0]) 2 48 Try.underlying37 hi hz0 hz1 hz2 rfl (by decide) (.slice (some ⟨W6.heap.size, 0, none⟩) 0 0) 0 [] rfl own0 ad ts.length c cs rfl (by have := HCS.out; omega) adl tc.one (by unfold maxLen; omega) (by omega) (by simp) ?_)
          intro vA wA hownA hgA _
          have hBA : Below W6.heap.size W6 wA := Df.below_app' hba hgA
          have ownA : wA.ownsRow W6.heap.size 27 2 vA ts.length cs := Df.row_eq (ts := ts) (by omega) (by simp) hownA
          have adu : ∀ j u, ds[j]? = some u → wA.cell? (bd.add j) = some u := fun j u h => Df.cell_up hBA (hnu j u h)
          clear hownA hgA own0 adl
          go_wp2_with (at_builtin; refine wpList_append_own _ rfl _ _ 37 rfl W6.heap.size 27 i0 (.agg #[.slice none 0 0, .slice none 0 0]) 2 48 Try.underlying37 hi hz0 hz1 hz2 rfl (by decide) vA ts.length cs rfl ownA bd us.length d ds rfl (by have := HDS.out; omega) adu uc.one (by unfold maxLen; omega) (by omega) hBA.size ?_)
          intro vB wB hownB hgB _
          have hBB : Below W6.heap.size W6 wB := Df.below_app2 hBA hgB ownA
          have ownB : wB.ownsRow W6.heap.size 27 2 vB (ts ++ us).length (cs ++ ds) := Df.row_eq (ts := ts ++ us) HLEN.out.symm rfl hownB
          obtain ⟨aB, cB, rfl, istB⟩ := Df.ist_row ownB ((tc.append uc).below hBB)
          have isxB := isx.below hBB
          have isuB := isu.below hBB
          have hB := hB.trans (hBB.mono hB.size)
          clear hownB hgB ownA ownB adu
          have hsm := Sw.isum wB aB ax cB cx (ts ++ us) xs base istB isxB (by rw [HLEN.out, HSZ.out]; omega) (by omega)
          rw [HLEN.out, HSUM.out] at hsm
          have HSM : Hid (type_of% hsm) := hsm
          clear hsm
          first | rw [HLEN.out] | skip
          go_wp2_with fail
          refine HSM.out.mono ?_
          rintro e w7 ⟨rfl, hb⟩
          have isx7 := isxB.below hb
          have isu7 := isuB.below hb
          have hB := hB.trans (hb.mono hB.size)
          clear hb
          go_wp2_with fail
          refine (Sw.isum _ _ _ _ _ us xs s isu7 isx7 (by omega) (by omega)).mono ?_
          rintro e w8 ⟨rfl, hb⟩
          have hB := hB.trans (hb.mono hB.size)
          obtain ⟨z, hz⟩ : ∃ z, Sw.sm us xs s = z := ⟨_, rfl⟩
          rw [hz]
          have hzz : (z == z) = true := by simp
          have hzd : decide (z = z) = true := by simp
          clear hb hz
          go_wp2
          go_ret
          exact ⟨rfl, hB⟩

/-! ### THE ROW's STEP: WRITTEN OUT: LEAVE IT -/
set_option maxRecDepth 100000 in
theorem lifted (os : Os) (started : os.Started) (H : Type) (enc : TypeId × Value → H) :
    ReturnsInHanded {} Try.checked os 4 .any (Rows.fnSummedSpec.pre6 enc Try.prog Try.f4 Rows.fnSummedRow.domain false) (Rows.fnSummedSpec.post enc Try.prog Try.f4 false true false false) := by
  refine returnsInHanded_of_change (C := Try.checked) own started (by kernel_rfl) Try.func4
    (ChangeSpec.witness6 (enc := enc) (C := Try.checked) false ⟨#[], #[.slice none 0 0, .slice none 0 0], []⟩ 8 (by kernel_rfl) (by kernel_rfl) (by kernel_rfl) (by kernel_rfl)) ?_
  intro W base args ds gs before hval0 hW hcnd _
  have hval : ∀ (j : Nat) t v, Try.f4.params[j]? = some t → args[j]? = some v → Value.okWide Try.prog W .any base t v := hval0
  have hW' := hW
  obtain ⟨p, q, hA0, hV, rfl, hfz, hnd⟩ := hW
  have hA : DataW.TrodAll enc Try.prog W 0 (fun _ => true) true Try.f4.params.toList args.toList ds p := hA0
  rw [Try.params4] at hA hval
  obtain ⟨v0, vs0, d0, ds0, p0, q0, hargs, rfl, rfl, h0, r0⟩ := trodAll_cons hA
  obtain ⟨v1, vs1, d1, ds1, p1, q1, rfl, rfl, rfl, h1, r1⟩ := trodAll_cons r0
  obtain ⟨rfl, rfl, rfl⟩ := trodAll_nil r1
  obtain rfl : args = #[v0, v1] := by cases args; simp_all
  obtain ⟨rfl, rfl⟩ := trodVars_none hV
  obtain ⟨a0, len0, cap0, rfl⟩ := okWide_slice Try.underlying22 (hval 0 22 v0 rfl rfl)
  have k0 := h0
  have lt0 : ∀ x ∈ p0, x.block < W.heap.size := by obtain ⟨m, hm⟩ := k0; exact DataW.trod_lt m _ _ _ hm
  obtain ⟨z0, w0⟩ : ∃ zs, IsRow .u8 W a0 len0 cap0 zs := by
    obtain ⟨fuel, hf⟩ := h0
    rcases open_ints Try.underlying22 Try.underlying5 (by kernel_rfl) hf with ⟨hcs, _⟩ | ⟨x, l, c, zs, hcs, _, hl, hm, hz, _, hcell, hwz⟩
    · simp [Value.cells] at hcs
      obtain ⟨rfl, rfl, rfl⟩ := hcs
      exact ⟨[], .inl ⟨rfl, rfl, rfl, rfl⟩⟩
    · simp [Value.cells] at hcs
      obtain ⟨rfl, rfl, rfl⟩ := hcs
      exact ⟨zs, .inr ⟨_, rfl, hl, hm, by simpa using hz, hcell, hwz⟩⟩
  obtain ⟨a1, len1, cap1, rfl⟩ := okWide_slice Try.underlying22 (hval 1 22 v1 rfl rfl)
  have k1 := h1
  have lt1 : ∀ x ∈ p1, x.block < W.heap.size := by obtain ⟨m, hm⟩ := k1; exact DataW.trod_lt m _ _ _ hm
  obtain ⟨z1, w1⟩ : ∃ zs, IsRow .u8 W a1 len1 cap1 zs := by
    obtain ⟨fuel, hf⟩ := h1
    rcases open_ints Try.underlying22 Try.underlying5 (by kernel_rfl) hf with ⟨hcs, _⟩ | ⟨x, l, c, zs, hcs, _, hl, hm, hz, _, hcell, hwz⟩
    · simp [Value.cells] at hcs
      obtain ⟨rfl, rfl, rfl⟩ := hcs
      exact ⟨[], .inl ⟨rfl, rfl, rfl, rfl⟩⟩
    · simp [Value.cells] at hcs
      obtain ⟨rfl, rfl, rfl⟩ := hcs
      exact ⟨zs, .inr ⟨_, rfl, hl, hm, by simpa using hz, hcell, hwz⟩⟩
  clear hA0 hval0
  refine (walk a0 len0 cap0 z0 a1 len1 cap1 z1 W w0 w1).mono fun e W' ⟨he, bel⟩ => ?_
  subst he
  exact ⟨_, rfl, _, _, _, [], _, [], hW', trodAll_mk1 (shut_bool Try.underlying4 _), (trodAll_cons_mk (Below.trod laidOut (by kernel_rfl) (of_decide_eq_true (by kernel_rfl)) k0 bel lt0) (trodAll_cons_mk (Below.trod laidOut (by kernel_rfl) (of_decide_eq_true (by kernel_rfl)) k1 bel lt1) trodAll_mk0)), rfl, bel.frame _, fun h => by cases h⟩

theorem over : Rows.fnSummedRow.holds Try.pinned (OpenSpec.ofChange Rows.fnSummedSpec) :=
  OpenClaim.holds_of_wide 4 Try.f4 rfl rfl rfl rfl rfl rfl rfl ⟨rfl, rfl, rfl, rfl, rfl⟩ rfl rfl rfl rfl rfl (by kernel_rfl) Try.func4 (by kernel_rfl)
    (of_decide_eq_true (by kernel_rfl)) (by unfold Func.isWrapper; first | (rw [if_pos (by decide +kernel)]; kernel_rfl) | (rw [if_neg (by decide +kernel)]; exact ⟨rfl, rfl⟩))
    (fun os started H enc _ => lifted os started H enc)

/-- THE STATEMENT -/
theorem proved : Rows.FnSummedSaid := over
#print axioms proved
end Go.Proofs.Ytomembbdbmjgmaa.fnSummed
