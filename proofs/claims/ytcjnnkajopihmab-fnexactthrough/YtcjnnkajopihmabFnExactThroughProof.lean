/-
  Proved here: the Go function laws.FnExactThrough, called with any arguments that can be read, returns true, and each argument reads afterwards as it read before ('Rows.FnExactThroughSaid', no condition beyond the row's own). The frame was written by the guide's program; the walk and its contracts are by hand.
-/
import Derived.Test.YtcjnnkajopihmabRows
import Derived.WalkKit
import Derived.ProofKit
import Derived.OpenShut
import Derived.ShutString
import Derived.ChangeOld
import Derived.Below
import Derived.Test.YtcjnnkajopihmabInvThr
namespace Go.Proofs.Ytcjnnkajopihmab.fnExactThrough
open Go.ChangeShapes Go.WideShapes Go.ChangeAt Go.RowKit
open Go.ChangeMaps (open_string shut_string)
set_option linter.unusedVariables false

theorem own : ownKnob Try.prog.godebug = none := by kernel_rfl
theorem laidOut : laidOutB Try.prog = true := by kernel_rfl

/-- WHAT THE WALK IS TOLD OF A SLICE OF INTEGERS THAT CAME IN: it is nil; or it leads to a row of 'cap' cells, the numbers 'zs' (the first 'len' are its elements, the rest its spare room), each fitting its kind. -/
def IsRow (k : IntKind) (w : World) (a : Option Addr) (len cap : Nat) (zs : List Int) : Prop :=
  (a = none ∧ len = 0 ∧ cap = 0 ∧ zs = []) ∨
  ∃ x, a = some x ∧ len ≤ cap ∧ cap ≤ maxLen ∧ zs.length = cap ∧ (∀ i, i < zs.length → w.cell? (x.add i) = some (.int k (zs.getD i 0))) ∧ ∀ n ∈ zs, (Lit.int k n).wf = true

/-! ### STEP 1: THE WALK: the Go text returns true, AND WRITES NOTHING THAT WAS THERE: 'Below w.heap.size w w'' (Derived/Below.lean: '.refl', '.alloc', '.drew', '.setCell' at a new block, '.trans'). Open each 'IsRow' by 'rcases' AHEAD of 'go_enter'; part every test ahead of the walk. -/
set_option maxHeartbeats 4000000 in
theorem walk (a0 : Option Addr) (len0 cap0 : Nat) (z0 : List Int) (a1 : Option Addr) (len1 cap1 : Nat) (z1 : List Int) (w : World) (w0 : IsRow .i64 w a0 len0 cap0 z0) (w1 : IsRow .i64 w a1 len1 cap1 z1) :
    Calls Try.prog 4 #[.slice a0 len0 cap0, .slice a1 len1 cap1] w fun e w' => e = .returned (.bool true) ∧ Below w.heap.size w w' := by
  obtain ⟨xs, hl, hx⟩ := Li.isl_of w0
  subst hl
  clear w0
  obtain ⟨ls, hl, hy⟩ := Li.isl_of w1
  subst hl
  clear w1
  by_cases hb : 1048576 < xs.length
  · go_enter Try.func4, Try.ntmps4
    go_wp2
    go_ret
    exact ⟨rfl, Below.refl _ _⟩
  · have hb' : decide (1048576 < (xs.length : Int)) = false := by simp; omega
    by_cases hc : 1048576 < ls.length
    · go_enter Try.func4, Try.ntmps4
      go_wp2
      go_ret
      exact ⟨rfl, Below.refl _ _⟩
    · have hc' : decide (1048576 < (ls.length : Int)) = false := by simp; omega
      go_enter Try.func4, Try.ntmps4
      go_wp2_with fail
      refine (Li.to_any _ _ _ xs hx (by omega)).mono ?_
      rintro e w1 ⟨rfl, oa, hB⟩
      go_wp2_with fail
      refine (Li.to_any _ _ _ ls (hy.below hB) (by omega)).mono ?_
      rintro e w1' ⟨rfl, ob, hB1⟩
      have oa := oa.below hB1
      have hB := hB.trans (hB1.mono hB.size)
      clear hB1
      obtain ⟨_, _, e1, ia⟩ := oa.isl
      cases e1
      obtain ⟨_, _, e1, ib⟩ := ob.isl
      cases e1
      clear oa ob
      -- w0 := spec.Through
      go_wp2_with fail
      refine (It.sthr_any _ _ _ _ _ xs ls ia ib (by omega) (by omega)).mono ?_
      rintro e w2 ⟨v0, rfl, o0, hB2⟩
      have hB := hB.trans (hB2.mono hB.size)
      clear hB2 ia ib
      have hys := It.thrR_len xs ls
      obtain ⟨ys, hyz⟩ : ∃ ys, It.thrR xs ls = ys := ⟨_, rfl⟩
      rw [hyz] at o0 hys
      obtain ⟨q0, c0, e0, i0⟩ := o0.isl
      subst e0
      -- x0, x1
      go_wp2_with fail
      refine (Li.to_any _ _ _ xs (hx.below hB) (by omega)).mono ?_
      rintro e w3 ⟨rfl, ox, hB3⟩
      have s0x := Li.sep o0 ox
      have o0 := o0.below hB3
      have ox := ox.mono hB.size
      have hB := hB.trans (hB3.mono hB.size)
      clear hB3 i0
      go_wp2_with fail
      refine (Li.to_any _ _ _ ls (hy.below hB) (by omega)).mono ?_
      rintro e w3' ⟨rfl, oy, hB3⟩
      have s0y := Li.sep o0 oy
      have sxy := Li.sep ox oy
      have o0 := o0.below hB3
      have ox := ox.below hB3
      have oy := oy.mono hB.size
      have hB := hB.trans (hB3.mono hB.size)
      clear hB3
      obtain ⟨_, _, e3, ix⟩ := ox.isl
      cases e3
      obtain ⟨_, _, e3, iy⟩ := oy.isl
      cases e3
      -- g0
      go_wp2_with fail
      refine (It.ithr_any _ _ _ _ _ xs ls ix iy (by omega) (by omega)).mono ?_
      rintro e w4 ⟨vg, rfl, og, hB4⟩
      rw [hyz] at og
      have s0g := Li.sep o0 og
      have sxg := Li.sep ox og
      have syg := Li.sep oy og
      have o0 := o0.below hB4
      have ox := ox.below hB4
      have oy := oy.below hB4
      have og := og.mono hB.size
      have hB := hB.trans (hB4.mono hB.size)
      clear hB4 ix iy
      obtain ⟨ag, cg, eg, ig⟩ := og.isl
      subst eg
      obtain ⟨_, _, e0, i0⟩ := o0.isl
      cases e0
      have hs := Li.eqs_self ys
      have hsx := Li.eqs_self xs
      have hsy := Li.eqs_self ls
      -- eqIntS(g0, w0)
      go_wp2_with fail
      refine (Li.eq_bel _ _ _ _ _ ys ys ig i0 (by omega) (by omega)).mono ?_
      rintro e w5 ⟨rfl, hB5⟩
      have o0 := o0.below hB5
      have ox := ox.below hB5
      have oy := oy.below hB5
      have og := og.below hB5
      have hB := hB.trans (hB5.mono hB.size)
      clear hB5 i0 ig
      -- eqIntS(x0, toIntS(aP))
      go_wp2_with fail
      refine (Li.to_any _ _ _ xs (hx.below hB) (by omega)).mono ?_
      rintro e w6 ⟨rfl, o6, hB6⟩
      have o0 := o0.below hB6
      have ox := ox.below hB6
      have oy := oy.below hB6
      have og := og.below hB6
      have hB := hB.trans (hB6.mono hB.size)
      clear hB6
      obtain ⟨_, _, e6, i6⟩ := o6.isl
      cases e6
      obtain ⟨_, _, e6, ix⟩ := ox.isl
      cases e6
      go_wp2_with fail
      refine (Li.eq_bel _ _ _ _ _ xs xs ix i6 (by omega) (by omega)).mono ?_
      rintro e w7 ⟨rfl, hB7⟩
      have o0 := o0.below hB7
      have ox := ox.below hB7
      have oy := oy.below hB7
      have og := og.below hB7
      have hB := hB.trans (hB7.mono hB.size)
      clear hB7 i6 ix o6
      -- eqIntS(x1, toIntS(aList))
      go_wp2_with fail
      refine (Li.to_any _ _ _ ls (hy.below hB) (by omega)).mono ?_
      rintro e w6' ⟨rfl, o6, hB6⟩
      have o0 := o0.below hB6
      have ox := ox.below hB6
      have oy := oy.below hB6
      have og := og.below hB6
      have hB := hB.trans (hB6.mono hB.size)
      clear hB6
      obtain ⟨_, _, e6, i6⟩ := o6.isl
      cases e6
      obtain ⟨_, _, e6, iy⟩ := oy.isl
      cases e6
      go_wp2_with fail
      refine (Li.eq_bel _ _ _ _ _ ls ls iy i6 (by omega) (by omega)).mono ?_
      rintro e w7' ⟨rfl, hB7⟩
      have o0 := o0.below hB7
      have ox := ox.below hB7
      have oy := oy.below hB7
      have og := og.below hB7
      have hB := hB.trans (hB7.mono hB.size)
      clear hB7 i6 iy o6
      -- markIntS(x0), markIntS(x1)
      go_wp2_with fail
      refine (Li.mark_walk _ _ _ _ _ _ xs rfl ox (by omega) (by omega) (by omega)).mono ?_
      rintro e w8 ⟨rfl, ox8, hg8, hz8⟩
      have o0 := o0.kept hg8 s0x.2
      have og := og.kept hg8 sxg.1
      have oy := oy.kept hg8 sxy.1
      have hB := hB.trans (Li.below_own hg8 (fun k hk => (ox.ge k hk).1) hB.size)
      clear hz8 hg8 ox8 ox
      go_wp2_with fail
      refine (Li.mark_walk _ _ _ _ _ _ ls rfl oy (by omega) (by omega) (by omega)).mono ?_
      rintro e w8' ⟨rfl, oy8, hg8, hz8⟩
      have o0 := o0.kept hg8 s0y.2
      have og := og.kept hg8 syg.1
      have hB := hB.trans (Li.below_own hg8 (fun k hk => (oy.ge k hk).1) hB.size)
      clear hz8 hg8 oy8 oy
      obtain ⟨_, _, eg, ig⟩ := og.isl
      cases eg
      obtain ⟨_, _, e0, i0⟩ := o0.isl
      cases e0
      go_wp2_with fail
      refine (Li.eq_bel _ _ _ _ _ ys ys ig i0 (by omega) (by omega)).mono ?_
      rintro e w9 ⟨rfl, hB9⟩
      have o0 := o0.below hB9
      have og := og.below hB9
      have hB := hB.trans (hB9.mono hB.size)
      clear hB9 i0 ig
      -- markIntS(g0), heldIntS(g0)
      go_wp2_with fail
      refine (Li.mark_walk _ _ _ _ _ _ ys rfl og (by omega) (by omega) (by omega)).mono ?_
      rintro e w10 ⟨rfl, og10, hg10, hz10⟩
      have o0 := o0.kept hg10 s0g.2
      have hB := hB.trans (Li.below_own hg10 (fun k hk => (og.ge k hk).1) hB.size)
      clear hz10 hg10 og
      obtain ⟨_, _, eg, ig⟩ := og10.isl
      simp only [Li.marks_length] at eg
      cases eg
      go_wp2_with fail
      refine (Li.held_walk _ _ _ _ _ ig (by omega) (by omega) (by omega)).mono ?_
      rintro e w' ⟨rfl, hw⟩
      subst w'
      clear ig
      -- h0
      have hmm : ((1 + (ys.length : Int)) != (1 + (ys.length : Int))) = false := by simp
      go_wp2_with fail
      refine (Li.to_any _ _ _ xs (hx.below hB) (by omega)).mono ?_
      rintro e w11 ⟨rfl, oa, hB11⟩
      have o0 := o0.below hB11
      have og := og10.below hB11
      have hB := hB.trans (hB11.mono hB.size)
      clear hB11 og10
      go_wp2_with fail
      refine (Li.to_any _ _ _ ls (hy.below hB) (by omega)).mono ?_
      rintro e w11' ⟨rfl, ob, hB11⟩
      have o0 := o0.below hB11
      have og := og.below hB11
      have oa := oa.below hB11
      have hB := hB.trans (hB11.mono hB.size)
      clear hB11
      obtain ⟨_, _, e6, ia⟩ := oa.isl
      cases e6
      obtain ⟨_, _, e6, ib⟩ := ob.isl
      cases e6
      go_wp2_with fail
      refine (It.ithr_any _ _ _ _ _ xs ls ia ib (by omega) (by omega)).mono ?_
      rintro e w12 ⟨vh, rfl, oh, hB12⟩
      rw [hyz] at oh
      have o0 := o0.below hB12
      have og := og.below hB12
      have hB := hB.trans (hB12.mono hB.size)
      clear hB12 ia ib oa ob
      obtain ⟨ah, ch, eh, ih⟩ := oh.isl
      subst eh
      obtain ⟨_, _, e0, i0⟩ := o0.isl
      cases e0
      go_wp2_with fail
      refine (Li.eq_bel _ _ _ _ _ ys ys ih i0 (by omega) (by omega)).mono ?_
      rintro e w13 ⟨rfl, hB13⟩
      have og := og.below hB13
      have hB := hB.trans (hB13.mono hB.size)
      clear hB13 i0 ih oh o0
      obtain ⟨_, _, eg, ig⟩ := og.isl
      simp only [Li.marks_length] at eg
      cases eg
      go_wp2_with fail
      refine (Li.held_walk _ _ _ _ _ ig (by omega) (by omega) (by omega)).mono ?_
      rintro e w' ⟨rfl, hw⟩
      subst w'
      go_wp2
      go_ret
      exact ⟨rfl, hB⟩

/-! ### THE ROW's STEP: WRITTEN OUT: LEAVE IT -/
set_option maxRecDepth 100000 in
theorem lifted (os : Os) (started : os.Started) (H : Type) (enc : TypeId × Value → H) :
    ReturnsInHanded {} Try.checked os 4 .any (Rows.fnExactThroughSpec.pre6 enc Try.prog Try.f4 Rows.fnExactThroughRow.domain false) (Rows.fnExactThroughSpec.post enc Try.prog Try.f4 false true false false) := by
  refine returnsInHanded_of_change (C := Try.checked) own started (by kernel_rfl) Try.func4
    (ChangeSpec.witness6 (enc := enc) (C := Try.checked) false ⟨#[], #[.slice none 0 0, .slice none 0 0], []⟩ 8 (by kernel_rfl) (by kernel_rfl) (by kernel_rfl) (by kernel_rfl)) ?_
  intro W base args ds gs before hval0 hW hcnd _
  have hval : ∀ (j : Nat) t v, Try.f4.params[j]? = some t → args[j]? = some v → Value.okWide Try.prog W .any base t v := hval0
  have hW' := hW
  obtain ⟨p, q, hA0, hV, rfl, hfz, hnd⟩ := hW
  have hA : DataW.TrodAll enc Try.prog W 0 (fun _ => true) true Try.f4.params.toList args.toList ds p := hA0
  rw [Try.params4] at hA hval
  obtain ⟨v0, vs0, d0, ds0, p0, q0, hargs, rfl, rfl, h0, r0⟩ := trodAll_cons hA
  obtain ⟨v1, vs1, d1, ds1, p1, q1, rfl, rfl, rfl, h1, r1⟩ := trodAll_cons r0
  obtain ⟨rfl, rfl, rfl⟩ := trodAll_nil r1
  obtain rfl : args = #[v0, v1] := by cases args; simp_all
  obtain ⟨rfl, rfl⟩ := trodVars_none hV
  obtain ⟨a0, len0, cap0, rfl⟩ := okWide_slice Try.underlying22 (hval 0 22 v0 rfl rfl)
  have k0 := h0
  have lt0 : ∀ x ∈ p0, x.block < W.heap.size := by obtain ⟨m, hm⟩ := k0; exact DataW.trod_lt m _ _ _ hm
  obtain ⟨z0, w0⟩ : ∃ zs, IsRow .i64 W a0 len0 cap0 zs := by
    obtain ⟨fuel, hf⟩ := h0
    rcases open_ints Try.underlying22 Try.underlying3 (by kernel_rfl) hf with ⟨hcs, _⟩ | ⟨x, l, c, zs, hcs, _, hl, hm, hz, _, hcell, hwz⟩
    · simp [Value.cells] at hcs
      obtain ⟨rfl, rfl, rfl⟩ := hcs
      exact ⟨[], .inl ⟨rfl, rfl, rfl, rfl⟩⟩
    · simp [Value.cells] at hcs
      obtain ⟨rfl, rfl, rfl⟩ := hcs
      exact ⟨zs, .inr ⟨_, rfl, hl, hm, by simpa using hz, hcell, hwz⟩⟩
  obtain ⟨a1, len1, cap1, rfl⟩ := okWide_slice Try.underlying22 (hval 1 22 v1 rfl rfl)
  have k1 := h1
  have lt1 : ∀ x ∈ p1, x.block < W.heap.size := by obtain ⟨m, hm⟩ := k1; exact DataW.trod_lt m _ _ _ hm
  obtain ⟨z1, w1⟩ : ∃ zs, IsRow .i64 W a1 len1 cap1 zs := by
    obtain ⟨fuel, hf⟩ := h1
    rcases open_ints Try.underlying22 Try.underlying3 (by kernel_rfl) hf with ⟨hcs, _⟩ | ⟨x, l, c, zs, hcs, _, hl, hm, hz, _, hcell, hwz⟩
    · simp [Value.cells] at hcs
      obtain ⟨rfl, rfl, rfl⟩ := hcs
      exact ⟨[], .inl ⟨rfl, rfl, rfl, rfl⟩⟩
    · simp [Value.cells] at hcs
      obtain ⟨rfl, rfl, rfl⟩ := hcs
      exact ⟨zs, .inr ⟨_, rfl, hl, hm, by simpa using hz, hcell, hwz⟩⟩
  clear hA0 hval0
  refine (walk a0 len0 cap0 z0 a1 len1 cap1 z1 W w0 w1).mono fun e W' ⟨he, bel⟩ => ?_
  subst he
  exact ⟨_, rfl, _, _, _, [], _, [], hW', trodAll_mk1 (shut_bool Try.underlying4 _), (trodAll_cons_mk (Below.trod laidOut (by kernel_rfl) (of_decide_eq_true (by kernel_rfl)) k0 bel lt0) (trodAll_cons_mk (Below.trod laidOut (by kernel_rfl) (of_decide_eq_true (by kernel_rfl)) k1 bel lt1) trodAll_mk0)), rfl, bel.frame _, fun h => by cases h⟩

theorem over : Rows.fnExactThroughRow.holds Try.pinned (OpenSpec.ofChange Rows.fnExactThroughSpec) :=
  OpenClaim.holds_of_wide 4 Try.f4 rfl rfl rfl rfl rfl rfl rfl ⟨rfl, rfl, rfl, rfl, rfl⟩ rfl rfl rfl rfl rfl (by kernel_rfl) Try.func4 (by kernel_rfl)
    (of_decide_eq_true (by kernel_rfl)) (by unfold Func.isWrapper; first | (rw [if_pos (by decide +kernel)]; kernel_rfl) | (rw [if_neg (by decide +kernel)]; exact ⟨rfl, rfl⟩))
    (fun os started H enc _ => lifted os started H enc)

/-- THE STATEMENT -/
theorem proved : Rows.FnExactThroughSaid := over
#print axioms proved
end Go.Proofs.Ytcjnnkajopihmab.fnExactThrough
