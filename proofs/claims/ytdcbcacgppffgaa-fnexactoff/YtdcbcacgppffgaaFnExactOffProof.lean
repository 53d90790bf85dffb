/-
  Proved here: the Go function laws.FnExactOff, called with any arguments that can be read, returns true, and each argument reads afterwards as it read before ('Rows.FnExactOffSaid', no condition beyond the row's own).
-/
import Derived.Test.YtdcbcacgppffgaaRows
import Derived.WalkKit
import Derived.ProofKit
import Derived.OpenShut
import Derived.ShutString
import Derived.ChangeOld
import Derived.Below
import Derived.Test.YtdcbcacgppffgaaOpnS
import Derived.Test.YtdcbcacgppffgaaOff
namespace Go.Proofs.Ytdcbcacgppffgaa.fnExactOff
open Go.ChangeShapes Go.WideShapes Go.ChangeAt Go.RowKit
set_option linter.unusedVariables false
set_option maxRecDepth 100000

theorem own : ownKnob Try.prog.godebug = none := by kernel_rfl
theorem laidOut : laidOutB Try.prog = true := by kernel_rfl


/-! ### THE WALK: the Go text returns true, and writes nothing that was there -/
set_option maxRecDepth 100000 in
set_option maxHeartbeats 4000000 in
theorem walk (w : World) (a0 : Option Addr) (l0 : List Int) (cap0 : Nat) (hx0 : Li.IsL w a0 l0) (hl0 : l0.length ≤ maxLen) (a1 : Option Addr) (l1 : List Int) (cap1 : Nat) (hx1 : Li.IsL w a1 l1) (hl1 : l1.length ≤ maxLen) :
    Calls Try.prog 5 #[.slice a0 l0.length cap0, .slice a1 l1.length cap1] w fun e w' => e = .returned (.bool true) ∧ Below w.heap.size w w' := by
  unfold maxLen at hl0
  unfold maxLen at hl1
  by_cases q0 : 1048576 < l0.length
  · go_enter Try.func5, Try.ntmps5
    go_wp2
    go_ret
    exact ⟨rfl, Below.refl _ _⟩
  have qd0 : decide (1048576 < (l0.length : Int)) = false := by simp; omega
  by_cases q1 : 1048576 < l1.length
  · go_enter Try.func5, Try.ntmps5
    go_wp2
    go_ret
    exact ⟨rfl, Below.refl _ _⟩
  have qd1 : decide (1048576 < (l1.length : Int)) = false := by simp; omega
  go_enter Try.func5, Try.ntmps5
  have hB : Below w.heap.size w w := Below.refl _ _
  go_wp2_with fail
  refine (Li.to_any _ _ _ l0 (hx0.below hB) (by omega)).mono ?_
  rintro e w1 ⟨rfl, p0, hb⟩
  have p0 := p0.mono (base' := w.heap.size) hB.size
  have hB := hB.trans (hb.mono hB.size)
  clear hb
  go_wp2_with fail
  refine (Li.to_any _ _ _ l1 (hx1.below hB) (by omega)).mono ?_
  rintro e w2 ⟨rfl, p1, hb⟩
  have s_p0_p1 := Tb.sepR p0 p1
  have p1 := p1.mono (base' := w.heap.size) hB.size
  have p0 := p0.below hb
  have hB := hB.trans (hb.mono hB.size)
  clear hb
  obtain ⟨r0, hr0⟩ : ∃ r, Of.off l0 l1 = r := ⟨_, rfl⟩
  have HR0 : Hid (Of.off l0 l1 = r0) := hr0
  clear hr0
  obtain ⟨r1, hr1⟩ : ∃ r, Of.oko l0 l1 = r := ⟨_, rfl⟩
  have HR1 : Hid (Of.oko l0 l1 = r1) := hr1
  clear hr1
  obtain ⟨_, _, ee, hcap_p0, i_p0⟩ := Tb.isl_cap p0
  cases ee
  obtain ⟨_, _, ee, hcap_p1, i_p1⟩ := Tb.isl_cap p1
  cases ee
  go_wp2_with fail
  refine (Of.soff _ _ _ _ _ l0 l1 i_p0 i_p1 (by omega) (by omega)).mono ?_
  rintro e w3 ⟨rfl, hb⟩
  clear i_p0
  clear i_p1
  rw [HR0.out]
  rw [HR1.out]
  have p0 := p0.below hb
  have p1 := p1.below hb
  have hB := hB.trans (hb.mono hB.size)
  clear hb
  clear p0 p1
  go_wp2_with fail
  refine (Li.to_any _ _ _ l0 (hx0.below hB) (by omega)).mono ?_
  rintro e w4 ⟨rfl, x0, hb⟩
  have x0 := x0.mono (base' := w.heap.size) hB.size
  have hB := hB.trans (hb.mono hB.size)
  clear hb
  go_wp2_with fail
  refine (Li.to_any _ _ _ l1 (hx1.below hB) (by omega)).mono ?_
  rintro e w5 ⟨rfl, x1, hb⟩
  have s_x0_x1 := Tb.sepR x0 x1
  have x1 := x1.mono (base' := w.heap.size) hB.size
  have x0 := x0.below hb
  have hB := hB.trans (hb.mono hB.size)
  clear hb
  obtain ⟨_, _, ee, hcap_x0, i_x0⟩ := Tb.isl_cap x0
  cases ee
  obtain ⟨_, _, ee, hcap_x1, i_x1⟩ := Tb.isl_cap x1
  cases ee
  go_wp2_with fail
  refine (Of.ioff _ _ _ _ _ l0 l1 i_x0 i_x1 (by omega) (by omega)).mono ?_
  rintro e w6 ⟨rfl, hb⟩
  clear i_x0
  clear i_x1
  rw [HR0.out]
  rw [HR1.out]
  have x0 := x0.below hb
  have x1 := x1.below hb
  have hB := hB.trans (hb.mono hB.size)
  clear hb
  have hne0 : (r0 != r0) = false := by simp
  have hne1 : (!(r1 == r1)) = false := by simp
  go_wp2_with fail
  refine (Li.to_any _ _ _ l0 (hx0.below hB) (by omega)).mono ?_
  rintro e w7 ⟨rfl, y0, hb⟩
  have s_x0_y0 := Tb.sepR x0 y0
  have s_x1_y0 := Tb.sepR x1 y0
  have y0 := y0.mono (base' := w.heap.size) hB.size
  have x0 := x0.below hb
  have x1 := x1.below hb
  have hB := hB.trans (hb.mono hB.size)
  clear hb
  obtain ⟨_, _, ee, hcap_x0, i_x0⟩ := Tb.isl_cap x0
  cases ee
  obtain ⟨_, _, ee, hcap_y0, i_y0⟩ := Tb.isl_cap y0
  cases ee
  go_wp2_with fail
  refine (Li.eq_bel _ _ _ _ _ l0 l0 i_x0 i_y0 (by omega) (by omega)).mono ?_
  rintro e w8 ⟨rfl, hb⟩
  rw [Li.eqs_self]
  have x0 := x0.below hb
  have x1 := x1.below hb
  have hB := hB.trans (hb.mono hB.size)
  clear hb i_x0 i_y0 y0
  go_wp2_with fail
  refine (Li.to_any _ _ _ l1 (hx1.below hB) (by omega)).mono ?_
  rintro e w9 ⟨rfl, y1, hb⟩
  have s_x0_y1 := Tb.sepR x0 y1
  have s_x1_y1 := Tb.sepR x1 y1
  have y1 := y1.mono (base' := w.heap.size) hB.size
  have x0 := x0.below hb
  have x1 := x1.below hb
  have hB := hB.trans (hb.mono hB.size)
  clear hb
  obtain ⟨_, _, ee, hcap_x1, i_x1⟩ := Tb.isl_cap x1
  cases ee
  obtain ⟨_, _, ee, hcap_y1, i_y1⟩ := Tb.isl_cap y1
  cases ee
  go_wp2_with fail
  refine (Li.eq_bel _ _ _ _ _ l1 l1 i_x1 i_y1 (by omega) (by omega)).mono ?_
  rintro e w10 ⟨rfl, hb⟩
  rw [Li.eqs_self]
  have x0 := x0.below hb
  have x1 := x1.below hb
  have hB := hB.trans (hb.mono hB.size)
  clear hb i_x1 i_y1 y1
  go_wp2
  go_ret
  exact ⟨rfl, hB⟩

/-! ### THE ROW's STEP -/
theorem lifted (os : Os) (started : os.Started) (H : Type) (enc : TypeId × Value → H) :
    ReturnsInHanded {} Try.checked os 5 .any (Rows.fnExactOffSpec.pre6 enc Try.prog Try.f5 Rows.fnExactOffRow.domain false) (Rows.fnExactOffSpec.post enc Try.prog Try.f5 false true false false) := by
  refine returnsInHanded_of_change (C := Try.checked) own started (by kernel_rfl) Try.func5
    (ChangeSpec.witness6 (enc := enc) (C := Try.checked) false ⟨#[], #[.slice none 0 0, .slice none 0 0], []⟩ 8 (by kernel_rfl) (by kernel_rfl) (by kernel_rfl) (by kernel_rfl)) ?_
  intro W base args ds gs before hval0 hW hcnd _
  have hval : ∀ (j : Nat) t v, Try.f5.params[j]? = some t → args[j]? = some v → Value.okWide Try.prog W .any base t v := hval0
  have hW' := hW
  obtain ⟨p, q, hA0, hV, rfl, hfz, hnd⟩ := hW
  have hA : DataW.TrodAll enc Try.prog W 0 (fun _ => true) true Try.f5.params.toList args.toList ds p := hA0
  rw [Try.params5] at hA hval
  obtain ⟨v0, vs0, d0, ds0, p0, q0, hargs, rfl, rfl, h0, rest0⟩ := trodAll_cons hA
  obtain ⟨v1, vs1, d1, ds1, p1, q1, rfl, rfl, rfl, h1, rest1⟩ := trodAll_cons rest0
  obtain ⟨rfl, rfl, rfl⟩ := trodAll_nil rest1
  obtain rfl : args = #[v0, v1] := by cases args; simp_all
  obtain ⟨rfl, rfl⟩ := trodVars_none hV
  have k0 := h0
  have lt0 : ∀ x ∈ p0, x.block < W.heap.size := by obtain ⟨m, hm⟩ := k0; exact DataW.trod_lt m _ _ _ hm
  have k1 := h1
  have lt1 : ∀ x ∈ p1, x.block < W.heap.size := by obtain ⟨m, hm⟩ := k1; exact DataW.trod_lt m _ _ _ hm
  obtain ⟨a0, l0, cap0, rfl, hx0, hl0⟩ := Op.ints_open (hval 0 24 v0 rfl rfl) h0
  obtain ⟨a1, l1, cap1, rfl, hx1, hl1⟩ := Op.ints_open (hval 1 24 v1 rfl rfl) h1
  clear hA0 hval0
  refine (walk W a0 l0 cap0 hx0 hl0 a1 l1 cap1 hx1 hl1).mono fun e W' ⟨he, bel⟩ => ?_
  subst he
  exact ⟨_, rfl, _, _, _, [], _, [], hW', trodAll_mk1 (shut_bool Try.underlying4 _), (trodAll_cons_mk (Below.trod laidOut (by kernel_rfl) (of_decide_eq_true (by kernel_rfl)) k0 bel lt0) (trodAll_cons_mk (Below.trod laidOut (by kernel_rfl) (of_decide_eq_true (by kernel_rfl)) k1 bel lt1) trodAll_mk0)), rfl, bel.frame _, fun h => by cases h⟩

theorem over : Rows.fnExactOffRow.holds Try.pinned (OpenSpec.ofChange Rows.fnExactOffSpec) :=
  OpenClaim.holds_of_wide 5 Try.f5 rfl rfl rfl rfl rfl rfl rfl ⟨rfl, rfl, rfl, rfl, rfl⟩ rfl rfl rfl rfl rfl (by kernel_rfl) Try.func5 (by kernel_rfl)
    (of_decide_eq_true (by kernel_rfl)) (by unfold Func.isWrapper; first | (rw [if_pos (by decide +kernel)]; kernel_rfl) | (rw [if_neg (by decide +kernel)]; exact ⟨rfl, rfl⟩))
    (fun os started H enc _ => lifted os started H enc)

/-- THE STATEMENT -/
theorem proved : Rows.FnExactOffSaid := over
#print axioms proved
end Go.Proofs.Ytdcbcacgppffgaa.fnExactOff
