/-
  Proved here: the Go function laws.FnExactSampleOk, called with any arguments that can be read, returns true, and each argument reads afterwards as it read before ('Rows.FnExactSampleOkSaid', no condition beyond the row's own).
-/
import Derived.Test.YtkjcogdjhjnmlaaRows
import Derived.WalkKit
import Derived.ProofKit
import Derived.OpenShut
import Derived.ShutString
import Derived.ChangeOld
import Derived.Below
import Derived.Test.YtkjcogdjhjnmlaaOpn
import Derived.Test.YtkjcogdjhjnmlaaTabX
namespace Go.Proofs.Ytkjcogdjhjnmlaa.fnExactSampleOk
open Go.ChangeShapes Go.WideShapes Go.ChangeAt Go.RowKit
set_option linter.unusedVariables false

theorem own : ownKnob Try.prog.godebug = none := by kernel_rfl
theorem laidOut : laidOutB Try.prog = true := by kernel_rfl


/-! ### THE WALK: the Go text returns true, and writes nothing that was there -/
set_option maxRecDepth 100000 in
set_option maxHeartbeats 4000000 in
theorem walk (w : World) (n0 c0 : Int) (b0 : (-9223372036854775808 ≤ n0 ∧ n0 ≤ 9223372036854775807) ∧ (-9223372036854775808 ≤ c0 ∧ c0 ≤ 9223372036854775807)) (x1 y1 z1 : Value) (r1 : Tb.Row) (hr1 : Tb.RowIs w x1 y1 z1 r1) (hf1 : r1.fits) (b1 : (-9223372036854775808 ≤ r1.label ∧ r1.label ≤ 9223372036854775807)) :
    Calls Try.prog 5 #[.agg #[.int .i64 n0, .int .i64 c0], .agg #[x1, y1, z1]] w fun e w' => e = .returned (.bool true) ∧ Below w.heap.size w w' := by
  obtain ⟨W, hW, hsz, hB, bs, bx⟩ := Tk.boxes23 w (.int .i64 n0) (.int .i64 c0) x1 y1 z1 38 42
  have HW : Hid ((w.alloc (.cells #[.int .i64 n0, .int .i64 c0] 38)).alloc (.cells #[x1, y1, z1] 42) = W) := hW
  clear hW
  have hshape := hr1
  obtain ⟨a0, q0, a1, q1, rfl, rfl, rfl, _, _⟩ := hshape
  go_enter Try.func5, Try.ntmps5
  go_wp2_with fail
  rw [HW.out]
  clear HW
  refine (Tb.szRow _ _ _ _ r1 _ (hr1.below hB) hf1 (by omega) (by omega)).mono ?_
  rintro e w1 ⟨rfl, hB1⟩
  have bs := bs.below hB1
  have bx := bx.below hB1
  have hB := hB.trans (hB1.mono hB.size)
  clear hB1 hsz
  by_cases hl : ((r1.sz : Nat) : Int) ≤ 1048576
  rotate_left
  · rw [Tb.sub_no hl]
    go_wp2
    go_ret
    exact ⟨rfl, hB⟩
  · rw [Tb.sub_yes hl]
    obtain ⟨q, hq⟩ : ∃ q : Int, 1048576 - ((r1.sz : Nat) : Int) = q := ⟨_, rfl⟩
    rw [hq]
    have q0' : 0 ≤ q := by omega
    have q1' : q ≤ 1048576 := by omega
    have hl' : r1.sz ≤ 1048576 := by omega
    clear hq hl
    have hr := hr1.below hB
    obtain ⟨hbs, cs0, cs1⟩ := id bs
    obtain ⟨hbx, ⟨cx0, cx1, cx2⟩, _⟩ := id bx
    obtain ⟨t, ht⟩ : ∃ t, Tk.rok n0 c0 r1 = t := ⟨_, rfl⟩
    have HT : Hid (Tk.rok n0 c0 r1 = t) := ht
    clear ht
    have htt : (t != t) = false := by simp
    -- w0 := spec.SampleOk(toSchema(aS), toSample(aX)): the two copies in either order
    go_wp2
    go_region_with (first
      | (go_at_call 14; refine (Tb.toSchema _ _ _).mono ?_; rintro e w2 ⟨rfl, hB2⟩
         have hk2 : Hid (Below w1.heap.size w1 w2) := by first | exact hB2 | exact Tk.undrew hB2 | exact hk3.out.trans (hB2.mono hk3.out.size) | exact hk3.out.trans ((Tk.undrew hB2).mono hk3.out.size)
         have HB2 : Hid _ := hB2
         have dx2 := bx.below hk2.out
         have hr2 := hr.below hk2.out
         obtain ⟨dl2, ⟨dx20, dx21, dx22⟩, _⟩ := dx2
         clear hB2)
      | (go_at_call 18; refine (Tb.toRow _ _ _ _ r1 (by first | exact hr | exact hr2) hl').mono ?_; rintro e w3 ⟨u0, u1, rfl, o0, o1, ap, hB3⟩
         have hk3 : Hid (Below w1.heap.size w1 w3) := by first | exact hB3 | exact Tk.undrew hB3 | exact hk2.out.trans (hB3.mono hk2.out.size) | exact hk2.out.trans ((Tk.undrew hB3).mono hk2.out.size)
         have ds3 := bs.below hk3.out
         obtain ⟨dl3, ds30, ds31⟩ := ds3
         have hv3 := Tk.rowIs_own o0 o1
         clear hB3 ap)
      | (go_at_call 17; refine (Tk.ssam _ _ _ _ _ _ r1 (by first | exact hv3 | exact hv3.below HB2.out | exact hv3.below (Tk.undrew HB2.out)) hl').mono ?_; rintro e w4 ⟨rfl, hB4⟩
         rw [HT.out]
         have hk4 : Hid (Below w1.heap.size w1 w4) := by first | exact hk3.out.trans (hB4.mono hk3.out.size) | exact hk2.out.trans (hB4.mono hk2.out.size) | exact hk3.out.trans ((Tk.undrew hB4).mono hk3.out.size) | exact hk2.out.trans ((Tk.undrew hB4).mono hk2.out.size)
         clear hB4))
    all_goals
      have bs := bs.below hk4.out
      have bx := bx.below hk4.out
      have hB := hB.trans (hk4.out.mono hB.size)
      have hr := hr1.below hB
      obtain ⟨hbs, cs0, cs1⟩ := id bs
      obtain ⟨hbx, ⟨cx0, cx1, cx2⟩, _⟩ := id bx
      -- x1 := toSample(aX)
      go_wp2_with fail
      refine (Tb.toRow _ _ _ _ r1 hr hl').mono ?_
      rintro e w5 ⟨x0, x1, rfl, ox0, ox1, apx, hB5⟩
      have bs := bs.below hB5
      have bx := bx.below hB5
      have hB := hB.trans (hB5.mono hB.size)
      have hx1 := Tk.rowIs_own ox0 ox1
      have hshape := hx1
      obtain ⟨e0, f0, e1, f1, rfl, rfl, _, _, _⟩ := hshape
      clear hB5 apx ox0 ox1 cs0 cs1 cx0 cx1 cx2
      obtain ⟨W6, hW6, hsz6, hB6, by6⟩ := Tk.box3_new' w5 (.slice e0 r1.nums.length f0) (.slice e1 r1.cats.length f1) (.int .i64 r1.label) 35
      have HW : Hid (w5.alloc (.cells #[.slice e0 r1.nums.length f0, .slice e1 r1.cats.length f1, .int .i64 r1.label] 35) = W6) := hW6
      clear hW6 hsz6
      go_wp2
      rw [HW.out]
      clear HW
      have bs := bs.below hB6
      have bx := bx.below hB6
      have hB := hB.trans (hB6.mono hB.size)
      have hx1 := hx1.below hB6
      clear hB6
      obtain ⟨hbs, cs0, cs1⟩ := id bs
      obtain ⟨hby, ⟨cy0, cy1, cy2⟩, _⟩ := id by6
      -- impl.SampleOk(toSchema(aS), x1)
      go_region_with (first
        | (go_at_call 14; refine (Tb.toSchema _ _ _).mono ?_; rintro e w7 ⟨rfl, hB7⟩
           have hk7 : Hid (Below W6.heap.size W6 w7) := by first | exact hB7 | exact Tk.undrew hB7
           have dy7 := by6.below hk7.out
           have hx7 := hx1.below hk7.out
           obtain ⟨dl7, ⟨dy70, dy71, dy72⟩, _⟩ := dy7
           clear hB7)
        | (go_at_call 19; refine (Tk.isam _ _ _ _ _ _ r1 (by exact hx7) hl').mono ?_; rintro e w8 ⟨rfl, hB8⟩
           rw [HT.out]
           have hk8 : Hid (Below W6.heap.size W6 w8) := by first | exact hk7.out.trans (hB8.mono hk7.out.size) | exact hk7.out.trans ((Tk.undrew hB8).mono hk7.out.size)
           clear hB8))
      all_goals
        have bx := bx.below hk8.out
        have by8 := by6.below hk8.out
        have hB := hB.trans (hk8.out.mono hB.size)
        have hx8 := hx1.below hk8.out
        have hr8 := hr1.below hB
        clear cs0 cs1 cy0 cy1 cy2
        obtain ⟨hbx, ⟨cx0, cx1, cx2⟩, _⟩ := id bx
        obtain ⟨hby, ⟨cy0, cy1, cy2⟩, _⟩ := id by8
        go_wp2
        -- eqSample(x1, toSample(aX))
        go_region_with (first
          | (go_at_call 18; refine (Tb.toRow _ _ _ _ r1 (by exact hr8) hl').mono ?_; rintro e w9 ⟨g0, g1, rfl, og0, og1, apg, hB9⟩
             have hk9 : Hid (Below w8.heap.size w8 w9) := by first | exact hB9 | exact Tk.undrew hB9
             have dy9 := by8.below hk9.out
             have hx9 := hx8.below hk9.out
             have hg9 := Tk.rowIs_own og0 og1
             obtain ⟨dl9, ⟨dy90, dy91, dy92⟩, _⟩ := dy9
             clear hB9 apg og0 og1)
          | (go_at_call 20; refine (Tb.eqRows _ _ _ _ _ _ _ r1 r1 (by exact hx9) (by exact hg9) hl' hl').mono ?_; rintro e w10 ⟨rfl, hB10⟩
             rw [Tb.eqRow_self]
             have hk10 : Hid (Below w8.heap.size w8 w10) := by first | exact hk9.out.trans (hB10.mono hk9.out.size) | exact hk9.out.trans ((Tk.undrew hB10).mono hk9.out.size)
             clear hB10))
        all_goals
          have hB := hB.trans (hk10.out.mono hB.size)
          go_wp2
          go_ret
          exact ⟨rfl, hB⟩

/-! ### THE ROW's STEP -/
theorem lifted (os : Os) (started : os.Started) (H : Type) (enc : TypeId × Value → H) :
    ReturnsInHanded {} Try.checked os 5 .any (Rows.fnExactSampleOkSpec.pre6 enc Try.prog Try.f5 Rows.fnExactSampleOkRow.domain false) (Rows.fnExactSampleOkSpec.post enc Try.prog Try.f5 false true false false) := by
  refine returnsInHanded_of_change (C := Try.checked) own started (by kernel_rfl) Try.func5
    (ChangeSpec.witness6 (enc := enc) (C := Try.checked) false ⟨#[], #[.agg #[.int .i64 0, .int .i64 0], .agg #[.slice none 0 0, .slice none 0 0, .int .i64 0]], []⟩ 8 (by kernel_rfl) (by kernel_rfl) (by kernel_rfl) (by kernel_rfl)) ?_
  intro W base args ds gs before hval0 hW hcnd _
  have hval : ∀ (j : Nat) t v, Try.f5.params[j]? = some t → args[j]? = some v → Value.okWide Try.prog W .any base t v := hval0
  have hW' := hW
  obtain ⟨p, q, hA0, hV, rfl, hfz, hnd⟩ := hW
  have hA : DataW.TrodAll enc Try.prog W 0 (fun _ => true) true Try.f5.params.toList args.toList ds p := hA0
  rw [Try.params5] at hA hval
  obtain ⟨v0, vs0, d0, ds0, p0, q0, hargs, rfl, rfl, h0, r0⟩ := trodAll_cons hA
  obtain ⟨v1, vs1, d1, ds1, p1, q1, rfl, rfl, rfl, h1, r1⟩ := trodAll_cons r0
  obtain ⟨rfl, rfl, rfl⟩ := trodAll_nil r1
  obtain rfl : args = #[v0, v1] := by cases args; simp_all
  obtain ⟨rfl, rfl⟩ := trodVars_none hV
  have k0 := h0
  have lt0 : ∀ x ∈ p0, x.block < W.heap.size := by obtain ⟨m, hm⟩ := k0; exact DataW.trod_lt m _ _ _ hm
  have k1 := h1
  have lt1 : ∀ x ∈ p1, x.block < W.heap.size := by obtain ⟨m, hm⟩ := k1; exact DataW.trod_lt m _ _ _ hm
  obtain ⟨n0, c0, rfl, b0⟩ := Op.schema_open (hval 0 38 v0 rfl rfl) h0
  obtain ⟨x1, y1, z1, r1, rfl, hr1, hf1, b1⟩ := Op.sample_open (hval 1 42 v1 rfl rfl) h1
  clear hA0 hval0
  refine (walk W n0 c0 b0 x1 y1 z1 r1 hr1 hf1 b1).mono fun e W' ⟨he, bel⟩ => ?_
  subst he
  exact ⟨_, rfl, _, _, _, [], _, [], hW', trodAll_mk1 (shut_bool Try.underlying4 _), (trodAll_cons_mk (Below.trod laidOut (by kernel_rfl) (of_decide_eq_true (by kernel_rfl)) k0 bel lt0) (trodAll_cons_mk (Below.trod laidOut (by kernel_rfl) (of_decide_eq_true (by kernel_rfl)) k1 bel lt1) trodAll_mk0)), rfl, bel.frame _, fun h => by cases h⟩

theorem over : Rows.fnExactSampleOkRow.holds Try.pinned (OpenSpec.ofChange Rows.fnExactSampleOkSpec) :=
  OpenClaim.holds_of_wide 5 Try.f5 rfl rfl rfl rfl rfl rfl rfl ⟨rfl, rfl, rfl, rfl, rfl⟩ rfl rfl rfl rfl rfl (by kernel_rfl) Try.func5 (by kernel_rfl)
    (of_decide_eq_true (by kernel_rfl)) (by unfold Func.isWrapper; first | (rw [if_pos (by decide +kernel)]; kernel_rfl) | (rw [if_neg (by decide +kernel)]; exact ⟨rfl, rfl⟩))
    (fun os started H enc _ => lifted os started H enc)

/-- THE STATEMENT -/
theorem proved : Rows.FnExactSampleOkSaid := over
#print axioms proved
end Go.Proofs.Ytkjcogdjhjnmlaa.fnExactSampleOk
