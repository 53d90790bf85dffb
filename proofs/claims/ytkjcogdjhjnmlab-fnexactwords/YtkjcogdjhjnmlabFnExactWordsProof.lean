/-
  Proved here: the Go function laws.FnExactWords, called with any arguments that can be read, returns true, and each argument reads afterwards as it read before ('Rows.FnExactWordsSaid', no condition beyond the row's own).
-/
import Derived.Test.YtkjcogdjhjnmlabRows
import Derived.WalkKit
import Derived.ProofKit
import Derived.OpenShut
import Derived.ShutString
import Derived.ChangeOld
import Derived.Below
import Derived.Test.YtkjcogdjhjnmlabOpn
import Derived.Test.YtkjcogdjhjnmlabMarkT
import Derived.Test.YtkjcogdjhjnmlabColsW
namespace Go.Proofs.Ytkjcogdjhjnmlab.fnExactWords
open Go.ChangeShapes Go.WideShapes Go.ChangeAt Go.RowKit
set_option linter.unusedVariables false

theorem own : ownKnob Try.prog.godebug = none := by kernel_rfl
theorem laidOut : laidOutB Try.prog = true := by kernel_rfl


/-! ### THE WALK: the Go text returns true, and writes nothing that was there -/
set_option maxRecDepth 100000 in
set_option maxHeartbeats 4000000 in
theorem walk (w : World) (n0 c0 : Int) (a0 : Option Addr) (rs0 : List Tb.Row) (cap0 : Nat) (b0 : (-9223372036854775808 ≤ n0 ∧ n0 ≤ 9223372036854775807) ∧ (-9223372036854775808 ≤ c0 ∧ c0 ≤ 9223372036854775807)) (hx0 : Tb.IsR w a0 rs0) (hf0 : Tb.FitsR rs0) (hb0 : Op.Labs rs0) (a1 : Int) (b1 : (-9223372036854775808 ≤ a1 ∧ a1 ≤ 9223372036854775807)) :
    Calls Try.prog 4 #[.agg #[.int .i64 n0, .int .i64 c0, .slice a0 rs0.length cap0], .int .i64 a1] w fun e w' => e = .returned (.bool true) ∧ Below w.heap.size w w' := by
  obtain ⟨W, hW, hsz, hB, bx⟩ := Tk.box3_new' w (.int .i64 n0) (.int .i64 c0) (.slice a0 rs0.length cap0) 26
  have HW : Hid (w.alloc (.cells #[.int .i64 n0, .int .i64 c0, .slice a0 rs0.length cap0] 26) = W) := hW
  clear hW
  go_enter Try.func4, Try.ntmps4
  go_wp2_with fail
  rw [HW.out]
  clear HW
  refine (Tb.szTab _ _ _ _ _ _ rs0 (hx0.below hB) hf0 (by omega) (by omega)).mono ?_
  rintro e w1 ⟨rfl, hB1⟩
  have bx := bx.below hB1
  have hB := hB.trans (hB1.mono hB.size)
  clear hB1 hsz
  obtain ⟨hbx, ⟨cx0, cx1, cx2⟩, _⟩ := id bx
  by_cases hl : ((rs0.length + Tb.szR rs0 : Nat) : Int) ≤ 1048576
  rotate_left
  · rw [Tb.sub_no hl]
    go_wp2
    go_ret
    exact ⟨rfl, hB⟩
  · rw [Tb.sub_yes hl]
    obtain ⟨q, hq⟩ : ∃ q : Int, 1048576 - ((rs0.length + Tb.szR rs0 : Nat) : Int) = q := ⟨_, rfl⟩
    rw [hq]
    have q0 : 0 ≤ q := by omega
    have q1 : q ≤ 1048576 := by omega
    have hl' : rs0.length + Tb.szR rs0 ≤ 1048576 := by omega
    clear hq hl
    obtain ⟨ys, hys⟩ : ∃ ys, Co.words n0 c0 rs0 a1 = ys := ⟨_, rfl⟩
    have HYS : Hid (Co.words n0 c0 rs0 a1 = ys) := hys
    have hyl : ys.length ≤ 1048576 := by rw [← hys]; have := Co.words_le n0 c0 rs0 a1; omega
    clear hys
    -- w0 := spec
    go_wp2_with fail
    refine (Tb.toTab _ _ _ _ _ rs0 (hx0.below hB) hl').mono ?_
    rintro e w2 ⟨v2, rfl, o2, hB2⟩
    have bx := bx.below hB2
    have hB := hB.trans (hB2.mono hB.size)
    clear hB2 cx0 cx1 cx2
    obtain ⟨p2, k2, e2, i2⟩ := o2.isr
    subst e2
    go_wp2_with fail
    refine (Co.swords _ _ _ _ _ rs0 a1 i2 hl' b0.2).mono ?_
    rintro e w3 ⟨vw, rfl, ow, hB3⟩
    rw [HYS.out] at ow
    have ow := ow.mono (base' := 0) (Nat.zero_le _)
    have hwl : ∀ k, vw.ownBlock = some k → k < w3.heap.size := fun k e => (ow.ge k e).2
    have bx := bx.below hB3
    have hB := hB.trans (hB3.mono hB.size)
    clear hB3 i2 o2
    obtain ⟨aw, qw, ew, _⟩ := ow.iss
    subst ew
    obtain ⟨hbx, ⟨cx0, cx1, cx2⟩, _⟩ := id bx
    -- x0 := toTable(aT)
    go_wp2_with fail
    refine (Tb.toTab _ _ _ _ _ rs0 (hx0.below hB) hl').mono ?_
    rintro e w4 ⟨v4, rfl, o4, hB4⟩
    have bx := bx.below hB4
    have hB := hB.trans (hB4.mono hB.size)
    have ow := ow.below hB4
    have h34 := hB4.size
    clear hB4 cx0 cx1 cx2
    obtain ⟨p4, k4, e4, i4⟩ := o4.isr
    subst e4
    obtain ⟨W4, hW4, hsz4, hB5, by4⟩ := Tk.box3_new' w4 (.int .i64 n0) (.int .i64 c0) (.slice p4 rs0.length k4) 33
    have HW : Hid (w4.alloc (.cells #[.int .i64 n0, .int .i64 c0, .slice p4 rs0.length k4] 33) = W4) := hW4
    clear hW4
    go_wp2_with fail
    rw [HW.out]
    clear HW
    have bx := bx.below hB5
    have hB := hB.trans (hB5.mono hB.size)
    have ow := ow.below hB5
    have o4 := o4.below hB5
    have i4 := i4.below hB5
    have h4W : w4.heap.size < W4.heap.size := by omega
    have hWw := hB.size
    -- g0 := impl(x0)
    refine (Co.iwords _ _ _ _ _ rs0 a1 i4 hl').mono ?_
    rintro e w5 ⟨vg, rfl, og, hB6⟩
    rw [HYS.out] at og
    have bx := bx.below hB6
    have by4 := by4.below hB6
    have hB := hB.trans (hB6.mono hB.size)
    have ow := ow.below hB6
    have o4 := o4.below hB6
    have i4 := i4.below hB6
    clear hB5 hB6 hsz4
    obtain ⟨ag, qg, eg, ig⟩ := og.iss
    subst eg
    obtain ⟨_, _, ew, iw⟩ := ow.iss
    cases ew
    -- eq(g0, w0)
    go_wp2_with fail
    refine (Ls.eq_bel _ _ _ _ _ ys ys ig iw hyl hyl).mono ?_
    rintro e w6 ⟨rfl, hB7⟩
    rw [Ls.eqs_self]
    have bx := bx.below hB7
    have by4 := by4.below hB7
    have hB := hB.trans (hB7.mono hB.size)
    have ow := ow.below hB7
    have og := og.below hB7
    have o4 := o4.below hB7
    have i4 := i4.below hB7
    have hx := hx0.below hB
    clear hB7 ig iw
    obtain ⟨hbx, ⟨cx0, cx1, cx2⟩, _⟩ := id bx
    obtain ⟨hby, ⟨cy0, cy1, cy2⟩, _⟩ := id by4
    go_wp2
    go_region_with (first
      | (go_at_call 8; refine (Tb.toTab _ _ _ _ _ rs0 (by exact hx) hl').mono ?_; rintro e w7 ⟨v7, rfl, o7, hB8⟩
         have hk7 : Hid (Below w6.heap.size w6 w7) := by first | exact hB8 | exact Tk.undrew hB8
         have by7 := by4.below hk7.out
         obtain ⟨hb7, ⟨cz0, cz1, cz2⟩, _⟩ := by7
         obtain ⟨p7, k7, e7, i7⟩ := o7.isr
         subst e7
         have i8 := i4.below hk7.out
         clear hB8)
      | (go_at_call 11; refine (Tb.eqTables _ _ _ _ _ _ _ _ _ rs0 rs0 (by exact i8) (by exact i7) hl' hl').mono ?_; rintro e w8 ⟨qq, rfl, hqq, hB9⟩; obtain rfl : qq = true := hqq.2 ⟨rfl, rfl, rfl⟩
         have hk8 : Hid (Below w6.heap.size w6 w8) := by first | exact hk7.out.trans (hB9.mono hk7.out.size) | exact hk7.out.trans ((Tk.undrew hB9).mono hk7.out.size)
         clear hqq hB9))
    all_goals
      have bx := bx.below hk8.out
      have by4 := by4.below hk8.out
      have hB := hB.trans (hk8.out.mono hB.size)
      have ow := ow.below hk8.out
      have og := og.below hk8.out
      have o4 := o4.below hk8.out
      clear cx0 cx1 cx2 cy0 cy1 cy2 hx
      obtain ⟨hby, ⟨cy0, cy1, cy2⟩, _⟩ := id by4
      -- markTable(x0, 1)
      go_wp2_with fail
      refine (Mk.mark_tab _ w3.heap.size w4.heap.size _ _ p4 rs0.length k4 1 rs0 rfl o4 (by omega) (by omega)).mono ?_
      rintro e w9 ⟨rfl, o9, hWin⟩
      have hwts : ((1 + Mk.wts rs0 : Nat) : Int) = 1 + (Mk.wts rs0 : Int) := by omega
      have hwt0 : 0 ≤ (Mk.wts rs0 : Int) := by omega
      have hwt1 : (Mk.wts rs0 : Int) ≤ 1048576 := by have := Mk.wts_le rs0; omega
      rw [hwts]
      obtain ⟨M, hM⟩ : ∃ M : Int, (Mk.wts rs0 : Int) = M := ⟨_, rfl⟩
      rw [hM] at hwt0 hwt1 ⊢
      have ow := hWin.sown ow (fun k e => .inl (hwl k e))
      have og := hWin.sown og (fun k e => .inr (by have := (og.ge k e).1; omega))
      have hB : Below w.heap.size w w9 := hB.trans ((hWin.toBelow (by have := (hk8.out.size); omega)).mono (by omega))
      have bx := bx.keptAt hWin.size (hWin.block _ bx.1 (.inl (by omega)))
      clear o9 hWin hwts hM cy0 cy1 cy2 by4 o4
      obtain ⟨_, _, ew, iw⟩ := ow.iss
      cases ew
      obtain ⟨_, _, eg, ig⟩ := og.iss
      cases eg
      have hneg : ¬ 1 + M < 0 := by omega
      go_wp2_with fail
      refine (Ls.eq_bel _ _ _ _ _ ys ys ig iw hyl hyl).mono ?_
      rintro e w10 ⟨rfl, hB10⟩
      rw [Ls.eqs_self]
      have bx := bx.below hB10
      have hB := hB.trans (hB10.mono hB.size)
      have ow := ow.below hB10
      have og := og.below hB10
      clear hB10 ig iw hneg
      -- mark(g0, 1)
      go_wp2_with fail
      refine (Mk.mark_strs _ _ ag ys.length qg 1 ys rfl og (by omega) (by omega)).mono ?_
      rintro e w11 ⟨rfl, oh, gr⟩
      have hgne : ∀ k, (Value.slice aw ys.length qw).ownBlock = some k → some k ≠ (Value.slice ag ys.length qg).ownBlock := fun k e e' => by have := hwl k e; have := (og.ge k e'.symm).1; omega
      have ow := Tb.ownsRow_at ow (fun k e => gr.block k ((ow.ge k e).2) (hgne k e))
      have ow : Ls.Own w11 0 (.slice aw ys.length qw) ys := ow
      have bx := bx.keptAt gr.size (gr.block _ bx.1 (fun e => by have := (og.ge _ e.symm).1; have := bx.1; omega))
      have hB : Below w.heap.size w w11 := hB.trans ⟨gr.os, gr.tape, gr.output, gr.size, fun k hk => gr.block k (by have := hB.size; omega) (fun e => by have := (og.ge k e.symm).1; omega)⟩
      clear og gr hgne
      obtain ⟨_, _, eh, ih⟩ := oh.iss
      have eh2 := eh
      simp only [Mk.mtexts_length] at eh2
      cases eh2
      clear eh
      -- held(g0, 1)
      go_wp2_with fail
      refine (Mk.held_strs _ ag ys.length qg 1 ih (by omega) (by omega)).mono ?_
      rintro e w12 ⟨rfl, hB12⟩
      have bx := bx.below hB12
      have hB := hB.trans (hB12.mono hB.size)
      have ow := ow.below hB12
      have ih := ih.below hB12
      clear hB12
      rw [show ((1 + ys.length : Nat) : Int) = 1 + (ys.length : Int) by omega]
      obtain ⟨hbx, ⟨cx0, cx1, cx2⟩, _⟩ := id bx
      -- h0 := impl(toTable(aT))
      have hs0 : ¬ (1 : Int) + (ys.length : Int) < 0 := by omega
      have hs1 : ((1 : Int) + (ys.length : Int) != 1 + (ys.length : Int)) = false := by simp
      go_wp2_with fail
      refine (Tb.toTab _ _ _ _ _ rs0 (hx0.below hB) hl').mono ?_
      rintro e w13 ⟨v13, rfl, o13, hB13⟩
      have bx := bx.below hB13
      have hB := hB.trans (hB13.mono hB.size)
      have ow := ow.below hB13
      have ih := ih.below hB13
      clear hB13 cx0 cx1 cx2
      obtain ⟨p13, k13, e13, i13⟩ := o13.isr
      subst e13
      go_wp2_with fail
      refine (Co.iwords _ _ _ _ _ rs0 a1 i13 hl').mono ?_
      rintro e w14 ⟨vh, rfl, oH, hB14⟩
      rw [HYS.out] at oH
      have hB := hB.trans (hB14.mono hB.size)
      have ow := ow.below hB14
      have ih := ih.below hB14
      clear hB14 i13 o13
      obtain ⟨aH, qH, eH, iH⟩ := oH.iss
      subst eH
      obtain ⟨_, _, ew, iw⟩ := ow.iss
      cases ew
      go_wp2_with fail
      refine (Ls.eq_bel _ _ _ _ _ ys ys iH iw hyl hyl).mono ?_
      rintro e w15 ⟨rfl, hB15⟩
      rw [Ls.eqs_self]
      have hB := hB.trans (hB15.mono hB.size)
      have ih := ih.below hB15
      clear hB15 iH iw
      go_wp2_with fail
      refine (Mk.held_strs _ ag ys.length qg 1 ih (by omega) (by omega)).mono ?_
      rintro e w16 ⟨rfl, hB16⟩
      have hB := hB.trans (hB16.mono hB.size)
      rw [show ((1 + ys.length : Nat) : Int) = 1 + (ys.length : Int) by omega]
      go_wp2
      go_ret
      exact ⟨rfl, hB⟩

/-! ### THE ROW's STEP -/
theorem lifted (os : Os) (started : os.Started) (H : Type) (enc : TypeId × Value → H) :
    ReturnsInHanded {} Try.checked os 4 .any (Rows.fnExactWordsSpec.pre6 enc Try.prog Try.f4 Rows.fnExactWordsRow.domain false) (Rows.fnExactWordsSpec.post enc Try.prog Try.f4 false true false false) := by
  refine returnsInHanded_of_change (C := Try.checked) own started (by kernel_rfl) Try.func4
    (ChangeSpec.witness6 (enc := enc) (C := Try.checked) false ⟨#[], #[.agg #[.int .i64 0, .int .i64 0, .slice none 0 0], .int .i64 0], []⟩ 8 (by kernel_rfl) (by kernel_rfl) (by kernel_rfl) (by kernel_rfl)) ?_
  intro W base args ds gs before hval0 hW hcnd _
  have hval : ∀ (j : Nat) t v, Try.f4.params[j]? = some t → args[j]? = some v → Value.okWide Try.prog W .any base t v := hval0
  have hW' := hW
  obtain ⟨p, q, hA0, hV, rfl, hfz, hnd⟩ := hW
  have hA : DataW.TrodAll enc Try.prog W 0 (fun _ => true) true Try.f4.params.toList args.toList ds p := hA0
  rw [Try.params4] at hA hval
  obtain ⟨v0, vs0, d0, ds0, p0, q0, hargs, rfl, rfl, h0, r0⟩ := trodAll_cons hA
  obtain ⟨v1, vs1, d1, ds1, p1, q1, rfl, rfl, rfl, h1, r1⟩ := trodAll_cons r0
  obtain ⟨rfl, rfl, rfl⟩ := trodAll_nil r1
  obtain rfl : args = #[v0, v1] := by cases args; simp_all
  obtain ⟨rfl, rfl⟩ := trodVars_none hV
  have k0 := h0
  have lt0 : ∀ x ∈ p0, x.block < W.heap.size := by obtain ⟨m, hm⟩ := k0; exact DataW.trod_lt m _ _ _ hm
  have k1 := h1
  have lt1 : ∀ x ∈ p1, x.block < W.heap.size := by obtain ⟨m, hm⟩ := k1; exact DataW.trod_lt m _ _ _ hm
  obtain ⟨n0, c0, a0, rs0, cap0, rfl, bn0, bc0, hx0, hf0, hb0⟩ := Op.table_open (hval 0 26 v0 rfl rfl) h0
  obtain ⟨a1, rfl, b1⟩ := Op.int_open (hval 1 3 v1 rfl rfl) h1
  clear hA0 hval0
  refine (walk W n0 c0 a0 rs0 cap0 ⟨bn0, bc0⟩ hx0 hf0 hb0 a1 b1).mono fun e W' ⟨he, bel⟩ => ?_
  subst he
  exact ⟨_, rfl, _, _, _, [], _, [], hW', trodAll_mk1 (shut_bool Try.underlying4 _), (trodAll_cons_mk (Below.trod laidOut (by kernel_rfl) (of_decide_eq_true (by kernel_rfl)) k0 bel lt0) (trodAll_cons_mk (Below.trod laidOut (by kernel_rfl) (of_decide_eq_true (by kernel_rfl)) k1 bel lt1) trodAll_mk0)), rfl, bel.frame _, fun h => by cases h⟩

theorem over : Rows.fnExactWordsRow.holds Try.pinned (OpenSpec.ofChange Rows.fnExactWordsSpec) :=
  OpenClaim.holds_of_wide 4 Try.f4 rfl rfl rfl rfl rfl rfl rfl ⟨rfl, rfl, rfl, rfl, rfl⟩ rfl rfl rfl rfl rfl (by kernel_rfl) Try.func4 (by kernel_rfl)
    (of_decide_eq_true (by kernel_rfl)) (by unfold Func.isWrapper; first | (rw [if_pos (by decide +kernel)]; kernel_rfl) | (rw [if_neg (by decide +kernel)]; exact ⟨rfl, rfl⟩))
    (fun os started H enc _ => lifted os started H enc)

/-- THE STATEMENT -/
theorem proved : Rows.FnExactWordsSaid := over
#print axioms proved
end Go.Proofs.Ytkjcogdjhjnmlab.fnExactWords
