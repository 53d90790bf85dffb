/-
  Proved here: the Go function laws.FnExactCtrAt, called with any arguments that can be read, returns true, and each argument reads afterwards as it read before ('Rows.FnExactCtrAtSaid', no condition beyond the row's own).
-/
import Derived.Test.YthgjcplkladepaaRows
import Derived.WalkKit
import Derived.ProofKit
import Derived.OpenShut
import Derived.ShutString
import Derived.ChangeOld
import Derived.Below
import Derived.Test.YthgjcplkladepaaOpnS
import Derived.Test.YthgjcplkladepaaCtrA
namespace Go.Proofs.Ythgjcplkladepaa.fnExactCtrAt
open Go.ChangeShapes Go.WideShapes Go.ChangeAt Go.RowKit
set_option linter.unusedVariables false
set_option maxRecDepth 100000

theorem own : ownKnob Try.prog.godebug = none := by kernel_rfl
theorem laidOut : laidOutB Try.prog = true := by kernel_rfl


/-! ### THE WALK: the Go text returns true, and writes nothing that was there -/
set_option maxRecDepth 100000 in
set_option maxHeartbeats 4000000 in
theorem walk (w : World) (a0 : Option Addr) (l0 : List ByteArray) (cap0 : Nat) (hx0 : Ls.IsS w a0 l0) (hl0 : l0.length ≤ maxLen) (hf0 : Tb.Fits l0) (a1 : Option Addr) (l1 : List Int) (cap1 : Nat) (hx1 : Li.IsL w a1 l1) (hl1 : l1.length ≤ maxLen) (a2 : Option Addr) (l2 : List Int) (cap2 : Nat) (hx2 : Li.IsL w a2 l2) (hl2 : l2.length ≤ maxLen) (a3 : Int) (b3 : (-9223372036854775808 ≤ a3 ∧ a3 ≤ 9223372036854775807)) (a4 : Int) (b4 : (-9223372036854775808 ≤ a4 ∧ a4 ≤ 9223372036854775807)) :
    Calls Try.prog 6 #[.slice a0 l0.length cap0, .slice a1 l1.length cap1, .slice a2 l2.length cap2, .int .i64 a3, .int .i64 a4] w fun e w' => e = .returned (.bool true) ∧ Below w.heap.size w w' := by
  unfold maxLen at hl0
  unfold maxLen at hl1
  unfold maxLen at hl2
  by_cases q1 : 1048576 < l1.length
  · go_enter Try.func6, Try.ntmps6
    go_wp2
    go_ret
    exact ⟨rfl, Below.refl _ _⟩
  have qd1 : decide (1048576 < (l1.length : Int)) = false := by simp; omega
  by_cases q2 : 1048576 < l2.length
  · go_enter Try.func6, Try.ntmps6
    go_wp2
    go_ret
    exact ⟨rfl, Below.refl _ _⟩
  have qd2 : decide (1048576 < (l2.length : Int)) = false := by simp; omega
  go_enter Try.func6, Try.ntmps6
  go_wp2_with fail
  refine (Tb.szStrs _ _ _ _ l0 hx0 hf0 (by omega) (by omega) (by omega)).mono ?_
  rintro e w' ⟨rfl, hw'⟩
  subst w'
  by_cases s0 : ((l0.length + Tb.lets l0 : Nat) : Int) ≤ 1048576
  rotate_left
  · rw [Tb.sub_no s0]
    go_wp2
    go_ret
    exact ⟨rfl, Below.refl _ _⟩
  rw [Tb.sub_yes s0]
  obtain ⟨t0, ht0⟩ : ∃ t : Int, 1048576 - ((l0.length + Tb.lets l0 : Nat) : Int) = t := ⟨_, rfl⟩
  rw [ht0]
  have t0a : 0 ≤ t0 := by omega
  have t0b : t0 ≤ 1048576 := by omega
  have q0 : l0.length ≤ 1048576 := by omega
  have z0 : ∀ j (h : j < l0.length), l0[j].size ≤ 1048576 := fun j h => by have := Tb.lets_at l0 j h; omega
  have zm0 : ∀ j (h : j < l0.length), l0[j].size ≤ maxLen := fun j h => by have := z0 j h; unfold maxLen; omega
  clear ht0
  have hB : Below w.heap.size w w := Below.refl _ _
  go_wp2_with fail
  refine (Ls.to_any _ _ _ l0 (hx0.below hB) (by omega)).mono ?_
  rintro e w1 ⟨rfl, p0, hb⟩
  have p0 := p0.mono (base' := w.heap.size) hB.size
  have hB := hB.trans (hb.mono hB.size)
  clear hb
  go_wp2_with fail
  refine (Li.to_any _ _ _ l1 (hx1.below hB) (by omega)).mono ?_
  rintro e w2 ⟨rfl, p1, hb⟩
  have s_p0_p1 := Tb.sepR p0 p1
  have p1 := p1.mono (base' := w.heap.size) hB.size
  have p0 := p0.below hb
  have hB := hB.trans (hb.mono hB.size)
  clear hb
  go_wp2_with fail
  refine (Li.to_any _ _ _ l2 (hx2.below hB) (by omega)).mono ?_
  rintro e w3 ⟨rfl, p2, hb⟩
  have s_p0_p2 := Tb.sepR p0 p2
  have s_p1_p2 := Tb.sepR p1 p2
  have p2 := p2.mono (base' := w.heap.size) hB.size
  have p0 := p0.below hb
  have p1 := p1.below hb
  have hB := hB.trans (hb.mono hB.size)
  clear hb
  obtain ⟨r0, hr0⟩ : ∃ r, Ct.cNum l0 l1 l2 a3 a4 = r := ⟨_, rfl⟩
  have HR0 : Hid (Ct.cNum l0 l1 l2 a3 a4 = r0) := hr0
  clear hr0
  obtain ⟨r1, hr1⟩ : ∃ r, Ct.cOk l0 l1 l2 a3 a4 = r := ⟨_, rfl⟩
  have HR1 : Hid (Ct.cOk l0 l1 l2 a3 a4 = r1) := hr1
  clear hr1
  obtain ⟨_, _, ee, i_p0⟩ := p0.iss
  cases ee
  obtain ⟨_, _, ee, hcap_p1, i_p1⟩ := Tb.isl_cap p1
  cases ee
  obtain ⟨_, _, ee, hcap_p2, i_p2⟩ := Tb.isl_cap p2
  cases ee
  go_wp2_with fail
  refine (Ct.satB _ _ _ _ _ _ _ l0 l1 l2 a3 a4 i_p0 i_p1 i_p2 (by omega) (by omega) (by omega)).mono ?_
  rintro e w4 ⟨rfl, hb⟩
  clear i_p0
  clear i_p1
  clear i_p2
  rw [HR0.out]
  rw [HR1.out]
  have p0 := p0.below hb
  have p1 := p1.below hb
  have p2 := p2.below hb
  have hB := hB.trans (hb.mono hB.size)
  clear hb
  clear p0 p1 p2
  go_wp2_with fail
  refine (Ls.to_any _ _ _ l0 (hx0.below hB) (by omega)).mono ?_
  rintro e w5 ⟨rfl, x0, hb⟩
  have x0 := x0.mono (base' := w.heap.size) hB.size
  have hB := hB.trans (hb.mono hB.size)
  clear hb
  go_wp2_with fail
  refine (Li.to_any _ _ _ l1 (hx1.below hB) (by omega)).mono ?_
  rintro e w6 ⟨rfl, x1, hb⟩
  have s_x0_x1 := Tb.sepR x0 x1
  have x1 := x1.mono (base' := w.heap.size) hB.size
  have x0 := x0.below hb
  have hB := hB.trans (hb.mono hB.size)
  clear hb
  go_wp2_with fail
  refine (Li.to_any _ _ _ l2 (hx2.below hB) (by omega)).mono ?_
  rintro e w7 ⟨rfl, x2, hb⟩
  have s_x0_x2 := Tb.sepR x0 x2
  have s_x1_x2 := Tb.sepR x1 x2
  have x2 := x2.mono (base' := w.heap.size) hB.size
  have x0 := x0.below hb
  have x1 := x1.below hb
  have hB := hB.trans (hb.mono hB.size)
  clear hb
  obtain ⟨_, _, ee, i_x0⟩ := x0.iss
  cases ee
  obtain ⟨_, _, ee, hcap_x1, i_x1⟩ := Tb.isl_cap x1
  cases ee
  obtain ⟨_, _, ee, hcap_x2, i_x2⟩ := Tb.isl_cap x2
  cases ee
  go_wp2_with fail
  refine (Ct.iat _ _ _ _ _ _ _ l0 l1 l2 a3 a4 i_x0 i_x1 i_x2 (by omega) (by omega) (by omega) hcap_x2 zm0).mono ?_
  rintro e w8 ⟨rfl, hb⟩
  clear i_x0
  clear i_x1
  clear i_x2
  rw [HR0.out]
  rw [HR1.out]
  have x0 := x0.below hb
  have x1 := x1.below hb
  have x2 := x2.below hb
  have hB := hB.trans (hb.mono hB.size)
  clear hb
  have hne0 : (r0 != r0) = false := by simp
  have hne1 : (!(r1 == r1)) = false := by simp
  go_wp2_with fail
  refine (Ls.to_any _ _ _ l0 (hx0.below hB) (by omega)).mono ?_
  rintro e w9 ⟨rfl, y0, hb⟩
  have s_x0_y0 := Tb.sepR x0 y0
  have s_x1_y0 := Tb.sepR x1 y0
  have s_x2_y0 := Tb.sepR x2 y0
  have y0 := y0.mono (base' := w.heap.size) hB.size
  have x0 := x0.below hb
  have x1 := x1.below hb
  have x2 := x2.below hb
  have hB := hB.trans (hb.mono hB.size)
  clear hb
  obtain ⟨_, _, ee, i_x0⟩ := x0.iss
  cases ee
  obtain ⟨_, _, ee, i_y0⟩ := y0.iss
  cases ee
  go_wp2_with fail
  refine (Ls.eq_bel _ _ _ _ _ l0 l0 i_x0 i_y0 (by omega) (by omega)).mono ?_
  rintro e w10 ⟨rfl, hb⟩
  rw [Ls.eqs_self]
  have x0 := x0.below hb
  have x1 := x1.below hb
  have x2 := x2.below hb
  have hB := hB.trans (hb.mono hB.size)
  clear hb i_x0 i_y0 y0
  go_wp2_with fail
  refine (Li.to_any _ _ _ l1 (hx1.below hB) (by omega)).mono ?_
  rintro e w11 ⟨rfl, y1, hb⟩
  have s_x0_y1 := Tb.sepR x0 y1
  have s_x1_y1 := Tb.sepR x1 y1
  have s_x2_y1 := Tb.sepR x2 y1
  have y1 := y1.mono (base' := w.heap.size) hB.size
  have x0 := x0.below hb
  have x1 := x1.below hb
  have x2 := x2.below hb
  have hB := hB.trans (hb.mono hB.size)
  clear hb
  obtain ⟨_, _, ee, hcap_x1, i_x1⟩ := Tb.isl_cap x1
  cases ee
  obtain ⟨_, _, ee, hcap_y1, i_y1⟩ := Tb.isl_cap y1
  cases ee
  go_wp2_with fail
  refine (Li.eq_bel _ _ _ _ _ l1 l1 i_x1 i_y1 (by omega) (by omega)).mono ?_
  rintro e w12 ⟨rfl, hb⟩
  rw [Li.eqs_self]
  have x0 := x0.below hb
  have x1 := x1.below hb
  have x2 := x2.below hb
  have hB := hB.trans (hb.mono hB.size)
  clear hb i_x1 i_y1 y1
  go_wp2_with fail
  refine (Li.to_any _ _ _ l2 (hx2.below hB) (by omega)).mono ?_
  rintro e w13 ⟨rfl, y2, hb⟩
  have s_x0_y2 := Tb.sepR x0 y2
  have s_x1_y2 := Tb.sepR x1 y2
  have s_x2_y2 := Tb.sepR x2 y2
  have y2 := y2.mono (base' := w.heap.size) hB.size
  have x0 := x0.below hb
  have x1 := x1.below hb
  have x2 := x2.below hb
  have hB := hB.trans (hb.mono hB.size)
  clear hb
  obtain ⟨_, _, ee, hcap_x2, i_x2⟩ := Tb.isl_cap x2
  cases ee
  obtain ⟨_, _, ee, hcap_y2, i_y2⟩ := Tb.isl_cap y2
  cases ee
  go_wp2_with fail
  refine (Li.eq_bel _ _ _ _ _ l2 l2 i_x2 i_y2 (by omega) (by omega)).mono ?_
  rintro e w14 ⟨rfl, hb⟩
  rw [Li.eqs_self]
  have x0 := x0.below hb
  have x1 := x1.below hb
  have x2 := x2.below hb
  have hB := hB.trans (hb.mono hB.size)
  clear hb i_x2 i_y2 y2
  go_wp2
  go_ret
  exact ⟨rfl, hB⟩

/-! ### THE ROW's STEP -/
theorem lifted (os : Os) (started : os.Started) (H : Type) (enc : TypeId × Value → H) :
    ReturnsInHanded {} Try.checked os 6 .any (Rows.fnExactCtrAtSpec.pre6 enc Try.prog Try.f6 Rows.fnExactCtrAtRow.domain false) (Rows.fnExactCtrAtSpec.post enc Try.prog Try.f6 false true false false) := by
  refine returnsInHanded_of_change (C := Try.checked) own started (by kernel_rfl) Try.func6
    (ChangeSpec.witness6 (enc := enc) (C := Try.checked) false ⟨#[], #[.slice none 0 0, .slice none 0 0, .slice none 0 0, .int .i64 0, .int .i64 0], []⟩ 8 (by kernel_rfl) (by kernel_rfl) (by kernel_rfl) (by kernel_rfl)) ?_
  intro W base args ds gs before hval0 hW hcnd _
  have hval : ∀ (j : Nat) t v, Try.f6.params[j]? = some t → args[j]? = some v → Value.okWide Try.prog W .any base t v := hval0
  have hW' := hW
  obtain ⟨p, q, hA0, hV, rfl, hfz, hnd⟩ := hW
  have hA : DataW.TrodAll enc Try.prog W 0 (fun _ => true) true Try.f6.params.toList args.toList ds p := hA0
  rw [Try.params6] at hA hval
  obtain ⟨v0, vs0, d0, ds0, p0, q0, hargs, rfl, rfl, h0, rest0⟩ := trodAll_cons hA
  obtain ⟨v1, vs1, d1, ds1, p1, q1, rfl, rfl, rfl, h1, rest1⟩ := trodAll_cons rest0
  obtain ⟨v2, vs2, d2, ds2, p2, q2, rfl, rfl, rfl, h2, rest2⟩ := trodAll_cons rest1
  obtain ⟨v3, vs3, d3, ds3, p3, q3, rfl, rfl, rfl, h3, rest3⟩ := trodAll_cons rest2
  obtain ⟨v4, vs4, d4, ds4, p4, q4, rfl, rfl, rfl, h4, rest4⟩ := trodAll_cons rest3
  obtain ⟨rfl, rfl, rfl⟩ := trodAll_nil rest4
  obtain rfl : args = #[v0, v1, v2, v3, v4] := by cases args; simp_all
  obtain ⟨rfl, rfl⟩ := trodVars_none hV
  have k0 := h0
  have lt0 : ∀ x ∈ p0, x.block < W.heap.size := by obtain ⟨m, hm⟩ := k0; exact DataW.trod_lt m _ _ _ hm
  have k1 := h1
  have lt1 : ∀ x ∈ p1, x.block < W.heap.size := by obtain ⟨m, hm⟩ := k1; exact DataW.trod_lt m _ _ _ hm
  have k2 := h2
  have lt2 : ∀ x ∈ p2, x.block < W.heap.size := by obtain ⟨m, hm⟩ := k2; exact DataW.trod_lt m _ _ _ hm
  have k3 := h3
  have lt3 : ∀ x ∈ p3, x.block < W.heap.size := by obtain ⟨m, hm⟩ := k3; exact DataW.trod_lt m _ _ _ hm
  have k4 := h4
  have lt4 : ∀ x ∈ p4, x.block < W.heap.size := by obtain ⟨m, hm⟩ := k4; exact DataW.trod_lt m _ _ _ hm
  obtain ⟨a0, l0, cap0, rfl, hx0, hl0, hf0⟩ := Op.strs_open (hval 0 24 v0 rfl rfl) h0
  obtain ⟨a1, l1, cap1, rfl, hx1, hl1⟩ := Op.ints_open (hval 1 25 v1 rfl rfl) h1
  obtain ⟨a2, l2, cap2, rfl, hx2, hl2⟩ := Op.ints_open (hval 2 25 v2 rfl rfl) h2
  obtain ⟨a3, rfl, b3⟩ := Op.int_open (hval 3 3 v3 rfl rfl) h3
  obtain ⟨a4, rfl, b4⟩ := Op.int_open (hval 4 3 v4 rfl rfl) h4
  clear hA0 hval0
  refine (walk W a0 l0 cap0 hx0 hl0 hf0 a1 l1 cap1 hx1 hl1 a2 l2 cap2 hx2 hl2 a3 b3 a4 b4).mono fun e W' ⟨he, bel⟩ => ?_
  subst he
  exact ⟨_, rfl, _, _, _, [], _, [], hW', trodAll_mk1 (shut_bool Try.underlying4 _), (trodAll_cons_mk (Below.trod laidOut (by kernel_rfl) (of_decide_eq_true (by kernel_rfl)) k0 bel lt0) (trodAll_cons_mk (Below.trod laidOut (by kernel_rfl) (of_decide_eq_true (by kernel_rfl)) k1 bel lt1) (trodAll_cons_mk (Below.trod laidOut (by kernel_rfl) (of_decide_eq_true (by kernel_rfl)) k2 bel lt2) (trodAll_cons_mk (Below.trod laidOut (by kernel_rfl) (of_decide_eq_true (by kernel_rfl)) k3 bel lt3) (trodAll_cons_mk (Below.trod laidOut (by kernel_rfl) (of_decide_eq_true (by kernel_rfl)) k4 bel lt4) trodAll_mk0))))), rfl, bel.frame _, fun h => by cases h⟩

theorem over : Rows.fnExactCtrAtRow.holds Try.pinned (OpenSpec.ofChange Rows.fnExactCtrAtSpec) :=
  OpenClaim.holds_of_wide 6 Try.f6 rfl rfl rfl rfl rfl rfl rfl ⟨rfl, rfl, rfl, rfl, rfl⟩ rfl rfl rfl rfl rfl (by kernel_rfl) Try.func6 (by kernel_rfl)
    (of_decide_eq_true (by kernel_rfl)) (by unfold Func.isWrapper; first | (rw [if_pos (by decide +kernel)]; kernel_rfl) | (rw [if_neg (by decide +kernel)]; exact ⟨rfl, rfl⟩))
    (fun os started H enc _ => lifted os started H enc)

/-- THE STATEMENT -/
theorem proved : Rows.FnExactCtrAtSaid := over
#print axioms proved
end Go.Proofs.Ythgjcplkladepaa.fnExactCtrAt
