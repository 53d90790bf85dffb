/-
  Proved here: the Go function laws.FnExactTableText, called with any arguments that can be read, returns true, and each argument reads afterwards as it read before ('Rows.FnExactTableTextCardSaid'): the row lists package-level variables of Go's library (see the row) with what they hold; the card ties that to the program's text (the tie is given). The cards tie the listed variables to the pruned copy of the project alone.
-/
import Derived.Test.YtkjcogdjhjnmlabDoorRows
import Derived.Test.YtkjcogdjhjnmlabDoorTie
import Derived.Test.YtkjcogdjhjnmlabDoorCards
import Derived.WalkKit
import Derived.ProofKit
import Derived.OpenShut
import Derived.ShutString
import Derived.ChangeOld
import Derived.Below
import Derived.LaidMore
import Derived.Stop.Joined
import Derived.SevenTiedAt
import Derived.Test.YtkjcogdjhjnmlabDoorWrap
import Derived.Test.YtkjcogdjhjnmlabDoorOpn
import Derived.Test.YtkjcogdjhjnmlabDoorSpecTxt
import Derived.Lib.LaidTab
import Derived.Stop.LaidErr
namespace Go.Proofs.YtkjcogdjhjnmlabDoor.fnExactTableText
open Go.ChangeShapes Go.WideShapes Go.ChangeAt Go.RowKit
open Go.ChangeMaps (open_string shut_string)
set_option linter.unusedVariables false

theorem own : ownKnob Tryd.prog.godebug = none := by kernel_rfl
theorem laidOut : laidOutB Tryd.prog = true := by kernel_rfl

/-- WHAT THE WALK IS TOLD OF A SLICE OF BYTES THAT CAME IN. -/
def IsRow (k : IntKind) (w : World) (a : Option Addr) (len cap : Nat) (zs : List Int) : Prop :=
  (a = none ∧ len = 0 ∧ cap = 0 ∧ zs = []) ∨
  ∃ x, a = some x ∧ len ≤ cap ∧ cap ≤ maxLen ∧ zs.length = cap ∧ (∀ i, i < zs.length → w.cell? (x.add i) = some (.int k (zs.getD i 0))) ∧ ∀ n ∈ zs, (Lit.int k n).wf = true


/-! ### THE WALK: the Go text returns true, and writes nothing that was there -/
set_option maxRecDepth 100000 in
set_option maxHeartbeats 4000000 in
theorem walk (w : World) (n0 c0 : Int) (a0 : Option Addr) (rs0 : List Tb.Row) (cap0 : Nat) (b0 : (-9223372036854775808 ≤ n0 ∧ n0 ≤ 9223372036854775807) ∧ (-9223372036854775808 ≤ c0 ∧ c0 ≤ 9223372036854775807)) (hx0 : Tb.IsR w a0 rs0) (hf0 : Tb.FitsR rs0) (hb0 : Op.Labs rs0) (hL : laidMetH Tryd.prog Rows.fnExactTableTextRow.laid w) (hsh : w.ShapedOpen Tryd.prog) :
    Calls Tryd.prog 3 #[.agg #[.int .i64 n0, .int .i64 c0, .slice a0 rs0.length cap0]] w fun e w' => e = .returned (.bool true) ∧ Below w.heap.size w w' := by
  have hT : Nu.Tab w := by
    rw [MakeChecks.laidMetH_plain _ _ _ (by kernel_rfl)] at hL
    exact Lib.tabIs_of_head Nu.gTab Nu.tTab Tryd.underlying90 Tryd.underlying83 (by kernel_rfl) (by kernel_rfl) (laidMet.tail (laidMet.tail hL))
  clear hL hsh
  obtain ⟨W, hW, hsz, hB, bx⟩ := Tk.box3_new' w (.int .i64 n0) (.int .i64 c0) (.slice a0 rs0.length cap0) 26
  have HW : Hid (w.alloc (.cells #[.int .i64 n0, .int .i64 c0, .slice a0 rs0.length cap0] 26) = W) := hW
  clear hW
  go_enter Tryd.func3, Tryd.ntmps3
  go_wp2_with fail
  rw [HW.out]
  clear HW
  refine (Tb.szTab _ _ _ _ _ _ rs0 (hx0.below hB) hf0 (by omega) (by omega)).mono ?_
  rintro e w1 ⟨rfl, hB1⟩
  have bx := bx.below hB1
  have hB := hB.trans (hB1.mono hB.size)
  clear hB1 hsz
  obtain ⟨hbx, ⟨cx0, cx1, cx2⟩, _⟩ := id bx
  by_cases hl : ((rs0.length + Tb.szR rs0 : Nat) : Int) ≤ 1048576
  rotate_left
  · rw [Tb.sub_no hl]
    go_wp2
    go_ret
    exact ⟨rfl, hB⟩
  · rw [Tb.sub_yes hl]
    obtain ⟨q, hq⟩ : ∃ q : Int, 1048576 - ((rs0.length + Tb.szR rs0 : Nat) : Int) = q := ⟨_, rfl⟩
    rw [hq]
    have q0 : 0 ≤ q := by omega
    have q1 : q ≤ 1048576 := by omega
    have hl' : rs0.length + Tb.szR rs0 ≤ 1048576 := by omega
    clear hq hl
    -- w0 := spec.TableOk(toTable(aT))
    go_wp2_with fail
    refine (Tb.toTab _ _ _ _ _ rs0 (hx0.below hB) hl').mono ?_
    rintro e w2 ⟨v2, rfl, o2, hB2⟩
    have bx := bx.below hB2
    have hB := hB.trans (hB2.mono hB.size)
    clear hB2 cx0 cx1 cx2
    obtain ⟨p2, k2, e2, i2⟩ := o2.isr
    subst e2
    go_wp2_with fail
    refine (Tt.sttext _ _ _ _ _ rs0 i2 hl').mono ?_
    rintro e w3 ⟨rfl, hB3⟩
    have bx := bx.below hB3
    have hB := hB.trans (hB3.mono hB.size)
    clear hB3 i2 o2
    obtain ⟨hbx, ⟨cx0, cx1, cx2⟩, _⟩ := id bx
    -- x0 := toTable(aT)
    go_wp2_with fail
    refine (Tb.toTab _ _ _ _ _ rs0 (hx0.below hB) hl').mono ?_
    rintro e w4 ⟨v4, rfl, o4, hB4⟩
    have bx := bx.below hB4
    have hB := hB.trans (hB4.mono hB.size)
    clear hB4 cx0 cx1 cx2
    obtain ⟨p4, k4, e4, i4⟩ := o4.isr
    subst e4
    obtain ⟨W4, hW4, hsz4, hB5, by4⟩ := Tk.box3_new' w4 (.int .i64 n0) (.int .i64 c0) (.slice p4 rs0.length k4) 32
    have HW : Hid (w4.alloc (.cells #[.int .i64 n0, .int .i64 c0, .slice p4 rs0.length k4] 32) = W4) := hW4
    clear hW4
    go_wp2_with fail
    rw [HW.out]
    clear HW
    have bx := bx.below hB5
    have hB := hB.trans (hB5.mono hB.size)
    have i4 := i4.below hB5
    refine (Tt.ittext _ _ _ _ _ rs0 i4 hl' (hT.below hB)).mono ?_
    rintro e w5 ⟨rfl, hB6⟩
    have bx := bx.below hB6
    have by4 := by4.below hB6
    have hB := hB.trans (hB6.mono hB.size)
    have i4 := i4.below hB6
    have hx := hx0.below hB
    clear hB5 hB6 hsz4 o4
    obtain ⟨hbx, ⟨cx0, cx1, cx2⟩, _⟩ := id bx
    obtain ⟨hby, ⟨cy0, cy1, cy2⟩, _⟩ := id by4
    generalize (⟨(Tt.tabtext n0 c0 rs0).toArray⟩ : ByteArray) = t
    have htt : (t.toList == t.toList) = true := Ls.tl_eq rfl
    go_wp2
    go_region_with (first
      | (go_at_call 6; refine (Tb.toTab _ _ _ _ _ rs0 (by exact hx) hl').mono ?_; rintro e w6 ⟨v6, rfl, o6, hB7⟩; have by6 := by4.below (w1 := w6) (by exact ⟨hB7.os, hB7.tape, hB7.output, hB7.size, hB7.block⟩); obtain ⟨hb6, ⟨cz0, cz1, cz2⟩, _⟩ := by6; obtain ⟨p6, k6, e6, i6⟩ := o6.isr; subst e6; have i7 := i4.below (w1 := w6) (by exact ⟨hB7.os, hB7.tape, hB7.output, hB7.size, hB7.block⟩); have hBB : Below w.heap.size w w6 := by first | exact hB.trans (hB7.mono hB.size) | exact hB.drew.trans (hB7.mono hB.size))
      | (go_at_call 8; refine (Tb.eqTables _ _ _ _ _ _ _ _ _ rs0 rs0 (by exact i7) (by exact i6) hl' hl').mono ?_; rintro e w8 ⟨qq, rfl, hqq, hB8⟩; obtain rfl : qq = true := hqq.2 ⟨rfl, rfl, rfl⟩; clear hqq))
    all_goals
      have hBe : Below w.heap.size w w8 := by first | exact hBB.trans (hB8.mono hBB.size) | exact hBB.drew.trans (hB8.mono hBB.size)
      go_wp2
      go_ret
      exact ⟨rfl, hBe⟩

/-! ### THE ROW's STEP -/
theorem door_met (os : Os) (args : Array Value) : laidMetH Tryd.prog Rows.fnExactTableTextRow.laid ((World.doorLaid Tryd.prog 24 os).forCall (fun _ _ => 0) ⟨#[], args, []⟩).memory :=
  laidMetH_of_parts3 (fuel := 8) (laidMet_of_run' 8 (by kernel_rfl) (by kernel_rfl)) (by kernel_rfl) (by kernel_rfl)

set_option maxRecDepth 100000 in
theorem lifted (os : Os) (started : os.Started) (H : Type) (enc : TypeId × Value → H) :
    ReturnsInHanded {} Tryd.checked os 3 .any (fun w args => (Rows.fnExactTableTextSpec.pre enc Tryd.prog Tryd.f3 [] false w args ∧ laidMetH Tryd.prog Rows.fnExactTableTextRow.laid w) ∧ sizedMet enc Tryd.prog Tryd.f3 (OpenSpec.ofChange Rows.fnExactTableTextSpec) false w args)
      (Rows.fnExactTableTextSpec.post enc Tryd.prog Tryd.f3 false true false false) := by
  refine wrap_listed (C := Tryd.checked) (X := fun w _ => laidMetH Tryd.prog Rows.fnExactTableTextRow.laid w) (fun _ _ _ hh h => h.of_heap hh) own started (by kernel_rfl) Tryd.func3
    (ChangeSpec.witness_shaped (enc := enc) (C := Tryd.checked) (os := os) (X := fun w _ => laidMetH Tryd.prog Rows.fnExactTableTextRow.laid w) false (World.doorLaid Tryd.prog 24 os) #[.agg #[.int .i64 0, .int .i64 0, .slice none 0 0]] 8 rfl (World.shaped_of_RefB (by kernel_rfl) (by kernel_rfl)) (by kernel_rfl) (by kernel_rfl) (by kernel_rfl) (door_met os _)) ?_
  intro W base args ds gs before hval0 hW hL hsh
  have hval : ∀ (j : Nat) t v, Tryd.f3.params[j]? = some t → args[j]? = some v → Value.okWide Tryd.prog W .any base t v := hval0
  have hW' := hW
  obtain ⟨p, q, hA0, hV, rfl, hfz, hnd⟩ := hW
  have hA : DataW.TrodAll enc Tryd.prog W 0 (fun _ => true) true Tryd.f3.params.toList args.toList ds p := hA0
  rw [Tryd.params3] at hA hval
  obtain ⟨v0, vs0, d0, ds0, p0, q0, hargs, rfl, rfl, h0, r0⟩ := trodAll_cons hA
  obtain ⟨rfl, rfl, rfl⟩ := trodAll_nil r0
  obtain rfl : args = #[v0] := by cases args; simp_all
  obtain ⟨rfl, rfl⟩ := trodVars_none hV
  have k0 := h0
  have lt0 : ∀ x ∈ p0, x.block < W.heap.size := by obtain ⟨m, hm⟩ := k0; exact DataW.trod_lt m _ _ _ hm
  obtain ⟨n0, c0, a0, rs0, cap0, rfl, bn0, bc0, hx0, hf0, hb0⟩ := Op.table_open (hval 0 26 v0 rfl rfl) h0
  clear hA0 hval0
  refine (walk W n0 c0 a0 rs0 cap0 ⟨bn0, bc0⟩ hx0 hf0 hb0 hL hsh).mono fun e W' ⟨he, bel⟩ => ?_
  subst he
  exact ⟨_, rfl, _, _, _, [], _, [], hW', trodAll_mk1 (shut_bool Tryd.underlying4 _), (trodAll_cons_mk (Below.trod laidOut (by kernel_rfl) (of_decide_eq_true (by kernel_rfl)) k0 bel lt0) trodAll_mk0), rfl, bel.frame _, fun h => by cases h⟩

theorem over : Rows.fnExactTableTextRow.holds Tryd.pinned (OpenSpec.ofChange Rows.fnExactTableTextSpec) :=
  OpenClaim.holds_of_wide 3 Tryd.f3 rfl rfl rfl rfl rfl rfl rfl ⟨rfl, rfl, rfl, rfl, rfl⟩ rfl rfl rfl rfl rfl (by kernel_rfl) Tryd.func3 (by kernel_rfl)
    (of_decide_eq_true (by kernel_rfl)) (by unfold Func.isWrapper; first | (rw [if_pos (by decide +kernel)]; kernel_rfl) | (rw [if_neg (by decide +kernel)]; exact ⟨rfl, rfl⟩))
    (fun os started H enc _ => lifted os started H enc)

/-- THE STATEMENT -/
theorem proved : Rows.FnExactTableTextCardSaid :=
  Claim7.holds_tied_plain_at .later [] [.data, .data, .data] true (true, "2e7fc897e372c21267710527f2dc89194fdf5ff55f732bcb6d472e138168fe5a") false
    over (fun _ h => by cases h) (by kernel_rfl) (fun _ h => by cases h) fnExactTableText_row_tie rfl ⟨rfl, rfl⟩ (by kernel_rfl) rfl
    (fun f fn hf hfn => by
      obtain rfl : f = 3 := Option.some.inj ((show Tryd.prog.funcNamed Rows.fnExactTableTextRow.func = some 3 by kernel_rfl).symm.trans hf) |>.symm
      obtain rfl : fn = Tryd.f3 := (Option.some.inj (Tryd.func3.symm.trans hfn)).symm
      exact ⟨by kernel_rfl, fun j t ht => by
        rw [Tryd.params3] at ht
        have hm : t ∈ [26] := by simpa using Array.mem_of_getElem? ht
        have hall : ([26].all fun u => !Tryd.prog.wantsStandIn u) = true := by kernel_rfl
        exact (show Tryd.prog.wantsStandIn t = false by simpa using List.all_eq_true.1 hall t hm)⟩)
    (by kernel_rfl)
#print axioms proved
end Go.Proofs.YtkjcogdjhjnmlabDoor.fnExactTableText
