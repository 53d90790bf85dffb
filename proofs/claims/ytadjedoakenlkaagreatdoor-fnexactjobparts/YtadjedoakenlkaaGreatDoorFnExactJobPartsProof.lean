/-
  Proved here: the Go function laws.FnExactJobParts, called with any arguments that can be read, returns true, and each argument reads afterwards as it read before ('Rows.FnExactJobPartsCardSaid'): the row lists package-level variables of Go's library (see the row) with what they hold; the card ties that to the program's text (the tie is given). The cards tie the listed variables to the pruned copy of the project alone.
-/
import Derived.Test.YtadjedoakenlkaaGreatDoorRows
import Derived.Test.YtadjedoakenlkaaGreatDoorTie
import Derived.Test.YtadjedoakenlkaaGreatDoorCards
import Derived.WalkKit
import Derived.ProofKit
import Derived.OpenShut
import Derived.ShutString
import Derived.ChangeOld
import Derived.Below
import Derived.LaidMore
import Derived.Stop.Joined
import Derived.SevenTiedAt
import Derived.Test.YtadjedoakenlkaaGreatDoorWrap
import Derived.Test.YtadjedoakenlkaaGreatDoorLvg
import Derived.Test.YtadjedoakenlkaaGreatDoorJph
namespace Go.Proofs.YtadjedoakenlkaaGreatDoor.fnExactJobParts
open Go.ChangeShapes Go.WideShapes Go.ChangeAt Go.RowKit
open Go.ChangeMaps (open_string shut_string)
set_option linter.unusedVariables false

theorem own : ownKnob Tryz.prog.godebug = none := by kernel_rfl
theorem laidOut : laidOutB Tryz.prog = true := by kernel_rfl

/-- WHAT THE WALK IS TOLD OF A SLICE OF BYTES THAT CAME IN. -/
def IsRow (k : IntKind) (w : World) (a : Option Addr) (len cap : Nat) (zs : List Int) : Prop :=
  (a = none ∧ len = 0 ∧ cap = 0 ∧ zs = []) ∨
  ∃ x, a = some x ∧ len ≤ cap ∧ cap ≤ maxLen ∧ zs.length = cap ∧ (∀ i, i < zs.length → w.cell? (x.add i) = some (.int k (zs.getD i 0))) ∧ ∀ n ∈ zs, (Lit.int k n).wf = true


/-! ### THE WALK: the Go text returns true, and writes nothing that was there -/
set_option maxRecDepth 100000 in
set_option maxHeartbeats 4000000 in
theorem walk (w : World) (a0 : ByteArray) (w0 : a0.size ≤ maxLen) (hL : laidMetH Tryz.prog Rows.fnExactJobPartsRow.laid w) (hsh : w.ShapedOpen Tryz.prog) :
    Calls Tryz.prog 3 #[.string a0] w fun e w' => e = .returned (.bool true) ∧ Below w.heap.size w w' := by
  have hV : Rm.Vs w := by
    rw [MakeChecks.laidMetH_plain _ _ _ (by kernel_rfl)] at hL
    exact Vr.vs_of hL hsh
  clear hL hsh
  go_enter Tryz.func3, Tryz.ntmps3
  by_cases hbig : 1048576 < a0.size
  · go_wp2
    go_ret
    exact ⟨rfl, Below.refl _ _⟩
  go_wp2_with fail
  refine (Jp.sjob w a0 (by omega)).mono ?_
  rintro e w1 ⟨he, hB⟩
  have HE : Hid (type_of% he) := he
  have HB1 : Hid (type_of% hB) := hB
  have HV1 : Hid (Rm.Vs w1) := hV.below hB
  obtain ⟨a, b, x0, x1, x2, x3, x4, x5, x6, F, L, ok, hee⟩ := Jp.ansp_tup he
  have HEE : Hid (e = Jp.Tup a b x0 x1 x2 x3 x4 x5 x6 F L ok) := hee
  unfold Jp.Tup at hee
  rw [hee]
  clear hee he hB hV
  go_wp2_with fail
  obtain ⟨W, hW, hb2, hb3, hb4, hsz⟩ := Jp.new27 w1 (.int .i64 a) (.int .i64 b) (.int .i64 x0) (.int .i64 x1) (.int .i64 x2) (.int .i64 x3) (.int .i64 x4) (.int .i64 x5) (.int .i64 x6)
  rw [hW]
  have HB2 : Hid (Below w.heap.size w W) := HB1.out.trans (hb2.mono HB1.out.size)
  have H3 : Hid (type_of% hb3) := hb3
  have H4 : Hid (type_of% hb4) := hb4
  have HV2 : Hid (Rm.Vs W) := HV1.out.below hb2
  clear hW hb2 hb3 hb4
  refine (Jp.ijob W a0 HV2.out (by omega)).mono ?_
  rintro e' w2 ⟨he', hB'⟩
  obtain rfl := Jp.ans_one HE.out he'
  have hee := HEE.out
  unfold Jp.Tup at hee
  rw [hee]
  have HB3 : Hid (Below w.heap.size w w2) := HB2.out.trans (hB'.mono HB2.out.size)
  have h3 := H3.out.below hB'
  have h4 := H4.out.below hB'
  clear hee he' hB' H3 H4 HE HEE HB1 HB2 HV1 HV2 hsz
  obtain ⟨p1, hp1⟩ : ∃ p1, w1.heap.size = p1 := ⟨_, rfl⟩
  rw [hp1] at h3 h4
  rw [hp1]
  have H3 : Hid (type_of% h3) := h3
  have H4 : Hid (type_of% h4) := h4
  clear hp1 h3 h4
  obtain ⟨l3, ⟨c0, c1⟩, _⟩ := Jp.wb2 H3.out
  go_wp2_with fail
  obtain ⟨W3, hW3, hb2, hb3, hb4, hsz⟩ := Jp.new27 w2 (.int .i64 a) (.int .i64 b) (.int .i64 x0) (.int .i64 x1) (.int .i64 x2) (.int .i64 x3) (.int .i64 x4) (.int .i64 x5) (.int .i64 x6)
  rw [hW3]
  have HB4 : Hid (Below w.heap.size w W3) := HB3.out.trans (hb2.mono HB3.out.size)
  have H5 : Hid (type_of% hb4) := hb4
  have H6 : Hid (type_of% (H4.out.below hb2)) := H4.out.below hb2
  clear hW3 hb2 hb3 hb4 hsz c0 c1 l3
  obtain ⟨p2, hp2⟩ : ∃ p2, w2.heap.size = p2 := ⟨_, rfl⟩
  rw [hp2] at H5
  rw [hp2]
  clear hp2
  refine (Jp.eqsch W3 a b).mono ?_
  rintro e w4 ⟨rfl, hB4⟩
  have HB5 : Hid (Below w.heap.size w w4) := HB4.out.trans (hB4.mono HB4.out.size)
  obtain ⟨l5, ⟨d0, d1, d2, d3, d4, d5, d6⟩, _⟩ := Jp.wb7 (H5.out.below hB4)
  obtain ⟨l6, ⟨e0, e1, e2, e3, e4, e5, e6⟩, _⟩ := Jp.wb7 (H6.out.below hB4)
  clear hB4
  go_wp2_with fail
  refine (Jp.eqcnf w4 x0 x1 x2 x3 x4 x5 x6).mono ?_
  rintro e w5 ⟨rfl, hB5⟩
  have HB6 : Hid (Below w.heap.size w w5) := HB5.out.trans (hB5.mono HB5.out.size)
  clear hB5 d0 d1 d2 d3 d4 d5 d6 e0 e1 e2 e3 e4 e5 e6
  have hF : (F.toList == F.toList) = true := Ls.tl_eq rfl
  have hL : (L.toList == L.toList) = true := Ls.tl_eq rfl
  cases ok
  · go_wp2
    go_ret
    exact ⟨rfl, HB6.out⟩
  · go_wp2
    go_ret
    exact ⟨rfl, HB6.out⟩

/-! ### THE ROW's STEP -/
theorem door_met (os : Os) (args : Array Value) : laidMetH Tryz.prog Rows.fnExactJobPartsRow.laid ((World.doorLaid Tryz.prog 86 os).forCall (fun _ _ => 0) ⟨#[], args, []⟩).memory :=
  laidMetH_of_parts3 (fuel := 8) (laidMet_of_run' 8 (by kernel_rfl) (by kernel_rfl)) (by kernel_rfl) (by kernel_rfl)

set_option maxRecDepth 100000 in
theorem lifted (os : Os) (started : os.Started) (H : Type) (enc : TypeId × Value → H) :
    ReturnsInHanded {} Tryz.checked os 3 .any (fun w args => (Rows.fnExactJobPartsSpec.pre enc Tryz.prog Tryz.f3 [] false w args ∧ laidMetH Tryz.prog Rows.fnExactJobPartsRow.laid w) ∧ sizedMet enc Tryz.prog Tryz.f3 (OpenSpec.ofChange Rows.fnExactJobPartsSpec) false w args)
      (Rows.fnExactJobPartsSpec.post enc Tryz.prog Tryz.f3 false true false false) := by
  refine wrap_listed (C := Tryz.checked) (X := fun w _ => laidMetH Tryz.prog Rows.fnExactJobPartsRow.laid w) (fun _ _ _ hh h => h.of_heap hh) own started (by kernel_rfl) Tryz.func3
    (ChangeSpec.witness_shaped (enc := enc) (C := Tryz.checked) (os := os) (X := fun w _ => laidMetH Tryz.prog Rows.fnExactJobPartsRow.laid w) false (World.doorLaid Tryz.prog 86 os) #[.string ByteArray.empty] 8 rfl (World.shaped_of_RefB (by kernel_rfl) (by kernel_rfl)) (by kernel_rfl) (by kernel_rfl) (by kernel_rfl) (door_met os _)) ?_
  intro W base args ds gs before hval0 hW hL hsh
  have hval : ∀ (j : Nat) t v, Tryz.f3.params[j]? = some t → args[j]? = some v → Value.okWide Tryz.prog W .any base t v := hval0
  have hW' := hW
  obtain ⟨p, q, hA0, hV, rfl, hfz, hnd⟩ := hW
  have hA : DataW.TrodAll enc Tryz.prog W 0 (fun _ => true) true Tryz.f3.params.toList args.toList ds p := hA0
  rw [Tryz.params3] at hA hval
  obtain ⟨v0, vs0, d0, ds0, p0, q0, hargs, rfl, rfl, h0, r0⟩ := trodAll_cons hA
  obtain ⟨rfl, rfl, rfl⟩ := trodAll_nil r0
  obtain rfl : args = #[v0] := by cases args; simp_all
  obtain ⟨rfl, rfl⟩ := trodVars_none hV
  obtain ⟨a0, rfl, rfl, rfl, w0⟩ := open_string Tryz.underlying9 (hval 0 9 v0 rfl rfl) h0
  clear hA0 hval0
  refine (walk W a0 w0 hL hsh).mono fun e W' ⟨he, bel⟩ => ?_
  subst he
  exact ⟨_, rfl, _, _, _, [], _, [], hW', trodAll_mk1 (shut_bool Tryz.underlying4 _), (trodAll_cons_mk (shut_string Tryz.underlying9 w0) trodAll_mk0), rfl, bel.frame _, fun h => by cases h⟩

theorem over : Rows.fnExactJobPartsRow.holds Tryz.pinned (OpenSpec.ofChange Rows.fnExactJobPartsSpec) :=
  OpenClaim.holds_of_wide_leaving 3 Tryz.f3 rfl rfl rfl rfl rfl rfl rfl ⟨rfl, rfl, rfl, rfl, rfl⟩ rfl rfl rfl rfl rfl (by kernel_rfl) Tryz.func3 (by kernel_rfl)
    (of_decide_eq_true (by kernel_rfl)) (by unfold Func.isWrapper; first | (rw [if_pos (by decide +kernel)]; kernel_rfl) | (rw [if_neg (by decide +kernel)]; exact ⟨rfl, rfl⟩))
    (fun os started H enc _ => Lv.leaving_of_handed (lifted os started H enc))

/-- THE STATEMENT -/
theorem proved : Rows.FnExactJobPartsCardSaid := by
  have hl : ∀ f fn, Tryz.pinned.checked.prog.funcNamed Rows.fnExactJobPartsRow.func = some f → Tryz.pinned.checked.prog.funcs[f]? = some fn → true = Tryz.pinned.checked.prog.looks [] ∧ ∀ (j : Nat) t, fn.params[j]? = some t → Tryz.pinned.checked.prog.wantsStandIn t = false := fun f fn hf hfn => by
    obtain rfl : f = 3 := Option.some.inj ((show Tryz.prog.funcNamed Rows.fnExactJobPartsRow.func = some 3 by kernel_rfl).symm.trans hf) |>.symm
    obtain rfl : fn = Tryz.f3 := (Option.some.inj (Tryz.func3.symm.trans hfn)).symm
    exact ⟨by kernel_rfl, fun j t ht => by
      rw [Tryz.params3] at ht
      have hm : t ∈ [9] := by simpa using Array.mem_of_getElem? ht
      have hall : ([9].all fun u => !Tryz.prog.wantsStandIn u) = true := by kernel_rfl
      exact (show Tryz.prog.wantsStandIn t = false by simpa using List.all_eq_true.1 hall t hm)⟩
  have h6 : Claim7.isSixth { stood := { row := Rows.fnExactJobPartsRow, standIns := [], harness := (true, "1cd8606a7fb9d9ff63f096d9954d7fc1d20efa2ae32a45f324b9c09c04dca1a6"), looks := true }, kinds := [] } = false := by kernel_rfl
  exact ⟨Claim7.tied_new_at .later [.data, .data, .data, .sentinel, .sentinel, .listed, .data] true (Claim7.new_of_sixth over (true, "1cd8606a7fb9d9ff63f096d9954d7fc1d20efa2ae32a45f324b9c09c04dca1a6") true rfl ⟨rfl, rfl⟩ (by kernel_rfl) h6 hl) (by kernel_rfl), (fun D hD => by cases hD), fnExactJobParts_row_tie, (fun h => by cases h), by kernel_rfl⟩
#print axioms proved
end Go.Proofs.YtadjedoakenlkaaGreatDoor.fnExactJobParts
