/-
  Proved here: the Go function laws.FnExactSum, called with any arguments that can be read, returns true, and each argument reads afterwards as it read before ('Rows.FnExactSumSaid', no condition beyond the row's own).
-/
import Derived.Test.YtmkfmolihlnafabRows
import Derived.WalkKit
import Derived.ProofKit
import Derived.OpenShut
import Derived.ShutString
import Derived.ChangeOld
import Derived.Below
import Derived.Test.YtmkfmolihlnafabOpnT
import Derived.Deep.RegionHeld
import Derived.Test.YtmkfmolihlnafabSmW
namespace Go.Proofs.Ytmkfmolihlnafab.fnExactSum
open Go.ChangeShapes Go.WideShapes Go.ChangeAt Go.RowKit
set_option linter.unusedVariables false

theorem own : ownKnob Try.prog.godebug = none := by kernel_rfl
theorem laidOut : laidOutB Try.prog = true := by kernel_rfl


/-! ### THE WALK: the Go text returns true, and writes nothing that was there -/
set_option maxRecDepth 100000 in
set_option maxHeartbeats 4000000 in
theorem walk (w : World) (a0 : Option Addr) (l0 : List Tr.T) (cap0 : Nat) (hx0 : Tm.IsT w a0 l0) (hf0 : Tm.FitsT l0) (a1 : Option Addr) (l1 : List Int) (cap1 : Nat) (hx1 : Li.IsL w a1 l1) (hl1 : l1.length ≤ maxLen) (a2 : Int) (b2 : (-9223372036854775808 ≤ a2 ∧ a2 ≤ 9223372036854775807)) :
    Calls Try.prog 3 #[.slice a0 l0.length cap0, .slice a1 l1.length cap1, .int .i64 a2] w fun e w' => e = .returned (.bool true) ∧ Below w.heap.size w w' := by
  have hfl0 := hf0.1
  unfold maxLen at hl1
  by_cases q1 : 1048576 < l1.length
  · go_enter Try.func3, Try.ntmps3
    go_wp2
    go_ret
    exact ⟨rfl, Below.refl _ _⟩
  have qd1 : decide (1048576 < (l1.length : Int)) = false := by simp; omega
  go_enter Try.func3, Try.ntmps3
  have hB : Below w.heap.size w w := Below.refl _ _
  go_wp2_with fail
  refine (Tm.szTrees _ _ _ _ l0 hx0 hf0 (by omega) (by omega)).mono ?_
  rintro e wz ⟨rfl, hb⟩
  have hB := hB.trans (hb.mono hB.size)
  clear hb
  by_cases s0 : ((l0.length + Tm.szT l0 : Nat) : Int) ≤ 1048576
  rotate_left
  · rw [Tb.sub_no s0]
    go_wp2
    go_ret
    exact ⟨rfl, hB⟩
  rw [Tb.sub_yes s0]
  obtain ⟨z0, hz0⟩ : ∃ t : Int, 1048576 - ((l0.length + Tm.szT l0 : Nat) : Int) = t := ⟨_, rfl⟩
  rw [hz0]
  have z0a : 0 ≤ z0 := by omega
  have qs0 : (l0.length + Tm.szT l0) ≤ 1048576 := by omega
  clear hz0
  go_wp2_with fail
  refine (Tm.toTrees _ _ _ l0 (hx0.below hB) (by omega)).mono ?_
  rintro e w1 ⟨ga_p0, rfl, p0, hb⟩
  have hB := hB.trans (hb.mono hB.size)
  clear hb
  go_wp2_with fail
  refine (Li.to_any _ _ _ l1 (hx1.below hB) (by omega)).mono ?_
  rintro e w2 ⟨rfl, p1, hb⟩
  have p1 := p1.mono (base' := w.heap.size) hB.size
  have p0 := p0.below hb
  have hB := hB.trans (hb.mono hB.size)
  clear hb
  obtain ⟨r0, hr0⟩ : ∃ r, Sw.sm l0 l1 a2 = r := ⟨_, rfl⟩
  have HR0 : Hid (Sw.sm l0 l1 a2 = r0) := hr0
  clear hr0
  go_wp2_with fail
  have i_p0 := p0
  obtain ⟨_, _, ee, _, i_p1⟩ := Tb.isl_cap p1
  cases ee
  refine (Sw.ssum _ _ _ _ _ l0 l1 a2 i_p0 i_p1 (by omega) (by omega)).mono ?_
  rintro e w3 ⟨rfl, hb⟩
  clear i_p0 i_p1
  rw [HR0.out]
  have p0 := p0.below hb
  have p1 := p1.below hb
  have hB := hB.trans (hb.mono hB.size)
  clear hb
  clear p0 p1
  go_wp2_with fail
  refine (Tm.toTrees _ _ _ l0 (hx0.below hB) (by omega)).mono ?_
  rintro e w4 ⟨ga_x0, rfl, x0, hb⟩
  have hB := hB.trans (hb.mono hB.size)
  clear hb
  go_wp2_with fail
  refine (Li.to_any _ _ _ l1 (hx1.below hB) (by omega)).mono ?_
  rintro e w5 ⟨rfl, x1, hb⟩
  have x1 := x1.mono (base' := w.heap.size) hB.size
  have x0 := x0.below hb
  have hB := hB.trans (hb.mono hB.size)
  clear hb
  go_wp2_with fail
  have i_x0 := x0
  obtain ⟨_, _, ee, _, i_x1⟩ := Tb.isl_cap x1
  cases ee
  refine (Sw.isum _ _ _ _ _ l0 l1 a2 i_x0 i_x1 (by omega) (by omega)).mono ?_
  rintro e w6 ⟨rfl, hb⟩
  clear i_x0 i_x1
  rw [HR0.out]
  have x0 := x0.below hb
  have x1 := x1.below hb
  have hB := hB.trans (hb.mono hB.size)
  clear hb
  have hne0 : (r0 != r0) = false := by simp
  go_wp2_with fail
  refine (Tm.toTrees _ _ _ l0 (hx0.below hB) (by omega)).mono ?_
  rintro e w7 ⟨ga_y0, rfl, y0, hb⟩
  have x0 := x0.below hb
  have x1 := x1.below hb
  have hB := hB.trans (hb.mono hB.size)
  clear hb
  go_wp2_with fail
  have i_x0 := x0
  have i_y0 := y0
  refine (Tm.eqTrees _ _ _ _ _ l0 i_x0 i_y0 (by omega)).mono ?_
  rintro e w8 ⟨rfl, hb⟩
  clear i_x0 i_y0
  have x0 := x0.below hb
  have x1 := x1.below hb
  have y0 := y0.below hb
  have hB := hB.trans (hb.mono hB.size)
  clear hb
  clear y0
  go_wp2_with fail
  refine (Li.to_any _ _ _ l1 (hx1.below hB) (by omega)).mono ?_
  rintro e w9 ⟨rfl, y1, hb⟩
  have s_x1_y1 := Tb.sepR x1 y1
  have y1 := y1.mono (base' := w.heap.size) hB.size
  have x0 := x0.below hb
  have x1 := x1.below hb
  have hB := hB.trans (hb.mono hB.size)
  clear hb
  go_wp2_with fail
  obtain ⟨_, _, ee, _, i_x1⟩ := Tb.isl_cap x1
  cases ee
  obtain ⟨_, _, ee, _, i_y1⟩ := Tb.isl_cap y1
  cases ee
  refine (Li.eq_bel _ _ _ _ _ l1 l1 i_x1 i_y1 (by omega) (by omega)).mono ?_
  rintro e w10 ⟨rfl, hb⟩
  rw [Li.eqs_self]
  clear i_x1 i_y1
  have x0 := x0.below hb
  have x1 := x1.below hb
  have y1 := y1.below hb
  have hB := hB.trans (hb.mono hB.size)
  clear hb
  clear y1
  go_wp2
  go_ret
  exact ⟨rfl, hB⟩

/-! ### THE ROW's STEP -/
theorem lifted (os : Os) (started : os.Started) (H : Type) (enc : TypeId × Value → H) :
    ReturnsInHanded {} Try.checked os 3 .any (Rows.fnExactSumSpec.pre6 enc Try.prog Try.f3 Rows.fnExactSumRow.domain false) (Rows.fnExactSumSpec.post enc Try.prog Try.f3 false true false false) := by
  refine returnsInHanded_of_change (C := Try.checked) own started (by kernel_rfl) Try.func3
    (ChangeSpec.witness6 (enc := enc) (C := Try.checked) false ⟨#[], #[.slice none 0 0, .slice none 0 0, .int .i64 0], []⟩ 8 (by kernel_rfl) (by kernel_rfl) (by kernel_rfl) (by kernel_rfl)) ?_
  intro W base args ds gs before hval0 hW hcnd _
  have hval : ∀ (j : Nat) t v, Try.f3.params[j]? = some t → args[j]? = some v → Value.okWide Try.prog W .any base t v := hval0
  have hW' := hW
  obtain ⟨p, q, hA0, hV, rfl, hfz, hnd⟩ := hW
  have hA : DataW.TrodAll enc Try.prog W 0 (fun _ => true) true Try.f3.params.toList args.toList ds p := hA0
  rw [Try.params3] at hA hval
  obtain ⟨v0, vs0, d0, ds0, p0, q0, hargs, rfl, rfl, h0, rest0⟩ := trodAll_cons hA
  obtain ⟨v1, vs1, d1, ds1, p1, q1, rfl, rfl, rfl, h1, rest1⟩ := trodAll_cons rest0
  obtain ⟨v2, vs2, d2, ds2, p2, q2, rfl, rfl, rfl, h2, rest2⟩ := trodAll_cons rest1
  obtain ⟨rfl, rfl, rfl⟩ := trodAll_nil rest2
  obtain rfl : args = #[v0, v1, v2] := by cases args; simp_all
  obtain ⟨rfl, rfl⟩ := trodVars_none hV
  have k0 := h0
  have lt0 : ∀ x ∈ p0, x.block < W.heap.size := by obtain ⟨m, hm⟩ := k0; exact DataW.trod_lt m _ _ _ hm
  have k1 := h1
  have lt1 : ∀ x ∈ p1, x.block < W.heap.size := by obtain ⟨m, hm⟩ := k1; exact DataW.trod_lt m _ _ _ hm
  have k2 := h2
  have lt2 : ∀ x ∈ p2, x.block < W.heap.size := by obtain ⟨m, hm⟩ := k2; exact DataW.trod_lt m _ _ _ hm
  obtain ⟨a0, l0, cap0, rfl, hx0, hf0⟩ := Op.trees_open (hval 0 22 v0 rfl rfl) h0
  obtain ⟨a1, l1, cap1, rfl, hx1, hl1⟩ := Op.ints_open (hval 1 23 v1 rfl rfl) h1
  obtain ⟨a2, rfl, b2⟩ := Op.int_open (hval 2 3 v2 rfl rfl) h2
  clear hA0 hval0
  refine (walk W a0 l0 cap0 hx0 hf0 a1 l1 cap1 hx1 hl1 a2 b2).mono fun e W' ⟨he, bel⟩ => ?_
  subst he
  exact ⟨_, rfl, _, _, _, [], _, [], hW', trodAll_mk1 (shut_bool Try.underlying4 _), (trodAll_cons_mk (Below.trod laidOut (by kernel_rfl) (of_decide_eq_true (by kernel_rfl)) k0 bel lt0) (trodAll_cons_mk (Below.trod laidOut (by kernel_rfl) (of_decide_eq_true (by kernel_rfl)) k1 bel lt1) (trodAll_cons_mk (Below.trod laidOut (by kernel_rfl) (of_decide_eq_true (by kernel_rfl)) k2 bel lt2) trodAll_mk0))), rfl, bel.frame _, fun h => by cases h⟩

theorem over : Rows.fnExactSumRow.holds Try.pinned (OpenSpec.ofChange Rows.fnExactSumSpec) :=
  OpenClaim.holds_of_wide 3 Try.f3 rfl rfl rfl rfl rfl rfl rfl ⟨rfl, rfl, rfl, rfl, rfl⟩ rfl rfl rfl rfl rfl (by kernel_rfl) Try.func3 (by kernel_rfl)
    (of_decide_eq_true (by kernel_rfl)) (by unfold Func.isWrapper; first | (rw [if_pos (by decide +kernel)]; kernel_rfl) | (rw [if_neg (by decide +kernel)]; exact ⟨rfl, rfl⟩))
    (fun os started H enc _ => lifted os started H enc)

/-- THE STATEMENT -/
theorem proved : Rows.FnExactSumSaid := over
#print axioms proved
end Go.Proofs.Ytmkfmolihlnafab.fnExactSum
