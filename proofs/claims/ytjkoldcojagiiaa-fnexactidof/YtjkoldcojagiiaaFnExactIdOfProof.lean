/-
  Proved here: the Go function laws.FnExactIdOf, called with any arguments that can be read, returns true, and each argument reads afterwards as it read before ('Rows.FnExactIdOfSaid', no condition beyond the row's own).
-/
import Derived.Test.YtjkoldcojagiiaaRows
import Derived.WalkKit
import Derived.ProofKit
import Derived.OpenShut
import Derived.ShutString
import Derived.ChangeOld
import Derived.Below
import Derived.Test.YtjkoldcojagiiaaOpnS
import Derived.Test.YtjkoldcojagiiaaDict
namespace Go.Proofs.Ytjkoldcojagiiaa.fnExactIdOf
open Go.ChangeShapes Go.WideShapes Go.ChangeAt Go.RowKit
set_option linter.unusedVariables false

theorem own : ownKnob Try.prog.godebug = none := by kernel_rfl
theorem laidOut : laidOutB Try.prog = true := by kernel_rfl


/-! ### THE WALK: the Go text returns true, and writes nothing that was there -/
set_option maxRecDepth 100000 in
set_option maxHeartbeats 4000000 in
theorem walk (w : World) (a0 : Option Addr) (l0 : List ByteArray) (cap0 : Nat) (hx0 : Ls.IsS w a0 l0) (hl0 : l0.length ≤ maxLen) (hf0 : Tb.Fits l0) (a1 : ByteArray) (b1 : a1.size ≤ maxLen) :
    Calls Try.prog 8 #[.slice a0 l0.length cap0, .string a1] w fun e w' => e = .returned (.bool true) ∧ Below w.heap.size w w' := by
  unfold maxLen at hl0
  have bm1 : a1.size ≤ 9223372036854775807 := by unfold maxLen at b1; omega
  by_cases q1 : 1048576 < a1.size
  · go_enter Try.func8, Try.ntmps8
    go_wp2
    go_ret
    exact ⟨rfl, Below.refl _ _⟩
  have qd1 : decide (1048576 < (a1.size : Int)) = false := by simp; omega
  go_enter Try.func8, Try.ntmps8
  go_wp2_with fail
  refine (Tb.szStrs _ _ _ _ l0 hx0 hf0 (by omega) (by omega) (by omega)).mono ?_
  rintro e w' ⟨rfl, hw'⟩
  subst w'
  by_cases s0 : ((l0.length + Tb.lets l0 : Nat) : Int) ≤ 1048576
  rotate_left
  · rw [Tb.sub_no s0]
    go_wp2
    go_ret
    exact ⟨rfl, Below.refl _ _⟩
  rw [Tb.sub_yes s0]
  obtain ⟨t0, ht0⟩ : ∃ t : Int, 1048576 - ((l0.length + Tb.lets l0 : Nat) : Int) = t := ⟨_, rfl⟩
  rw [ht0]
  have t0a : 0 ≤ t0 := by omega
  have t0b : t0 ≤ 1048576 := by omega
  have q0 : l0.length ≤ 1048576 := by omega
  have z0 : ∀ j (h : j < l0.length), l0[j].size ≤ 1048576 := fun j h => by have := Tb.lets_at l0 j h; omega
  have zm0 : ∀ j (h : j < l0.length), l0[j].size ≤ maxLen := fun j h => by have := z0 j h; unfold maxLen; omega
  clear ht0
  have zm1 : a1.size ≤ maxLen := b1
  have hB : Below w.heap.size w w := Below.refl _ _
  go_wp2_with fail
  refine (Ls.to_any _ _ _ l0 (hx0.below hB) (by omega)).mono ?_
  rintro e w1 ⟨rfl, p0, hb⟩
  have p0 := p0.mono (base' := w.heap.size) hB.size
  have hB := hB.trans (hb.mono hB.size)
  clear hb
  obtain ⟨r0, hr0⟩ : ∃ r, Wd.idOf l0 a1 = r := ⟨_, rfl⟩
  have HR0 : Hid (Wd.idOf l0 a1 = r0) := hr0
  clear hr0
  obtain ⟨_, _, ee, i_p0⟩ := p0.iss
  cases ee
  go_wp2_with fail
  refine (Di.sid _ _ _ l0 a1 i_p0 (by omega)).mono ?_
  rintro e w2 ⟨rfl, hb⟩
  clear i_p0
  rw [HR0.out]
  have p0 := p0.below hb
  have hB := hB.trans (hb.mono hB.size)
  clear hb
  clear p0
  go_wp2_with fail
  refine (Ls.to_any _ _ _ l0 (hx0.below hB) (by omega)).mono ?_
  rintro e w3 ⟨rfl, x0, hb⟩
  have x0 := x0.mono (base' := w.heap.size) hB.size
  have hB := hB.trans (hb.mono hB.size)
  clear hb
  obtain ⟨_, _, ee, i_x0⟩ := x0.iss
  cases ee
  go_wp2_with fail
  refine (Di.iid _ _ _ l0 a1 i_x0 (by omega)).mono ?_
  rintro e w4 ⟨rfl, hb⟩
  clear i_x0
  rw [HR0.out]
  have x0 := x0.below hb
  have hB := hB.trans (hb.mono hB.size)
  clear hb
  have hne0 : (r0 != r0) = false := by simp
  go_wp2_with fail
  refine (Ls.to_any _ _ _ l0 (hx0.below hB) (by omega)).mono ?_
  rintro e w5 ⟨rfl, y0, hb⟩
  have s_x0_y0 := Tb.sepR x0 y0
  have y0 := y0.mono (base' := w.heap.size) hB.size
  have x0 := x0.below hb
  have hB := hB.trans (hb.mono hB.size)
  clear hb
  obtain ⟨_, _, ee, i_x0⟩ := x0.iss
  cases ee
  obtain ⟨_, _, ee, i_y0⟩ := y0.iss
  cases ee
  go_wp2_with fail
  refine (Ls.eq_bel _ _ _ _ _ l0 l0 i_x0 i_y0 (by omega) (by omega)).mono ?_
  rintro e w6 ⟨rfl, hb⟩
  rw [Ls.eqs_self]
  have x0 := x0.below hb
  have hB := hB.trans (hb.mono hB.size)
  clear hb i_x0 i_y0 y0
  go_wp2
  go_ret
  exact ⟨rfl, hB⟩

/-! ### THE ROW's STEP -/
theorem lifted (os : Os) (started : os.Started) (H : Type) (enc : TypeId × Value → H) :
    ReturnsInHanded {} Try.checked os 8 .any (Rows.fnExactIdOfSpec.pre6 enc Try.prog Try.f8 Rows.fnExactIdOfRow.domain false) (Rows.fnExactIdOfSpec.post enc Try.prog Try.f8 false true false false) := by
  refine returnsInHanded_of_change (C := Try.checked) own started (by kernel_rfl) Try.func8
    (ChangeSpec.witness6 (enc := enc) (C := Try.checked) false ⟨#[], #[.slice none 0 0, .string ByteArray.empty], []⟩ 8 (by kernel_rfl) (by kernel_rfl) (by kernel_rfl) (by kernel_rfl)) ?_
  intro W base args ds gs before hval0 hW hcnd _
  have hval : ∀ (j : Nat) t v, Try.f8.params[j]? = some t → args[j]? = some v → Value.okWide Try.prog W .any base t v := hval0
  have hW' := hW
  obtain ⟨p, q, hA0, hV, rfl, hfz, hnd⟩ := hW
  have hA : DataW.TrodAll enc Try.prog W 0 (fun _ => true) true Try.f8.params.toList args.toList ds p := hA0
  rw [Try.params8] at hA hval
  obtain ⟨v0, vs0, d0, ds0, p0, q0, hargs, rfl, rfl, h0, r0⟩ := trodAll_cons hA
  obtain ⟨v1, vs1, d1, ds1, p1, q1, rfl, rfl, rfl, h1, r1⟩ := trodAll_cons r0
  obtain ⟨rfl, rfl, rfl⟩ := trodAll_nil r1
  obtain rfl : args = #[v0, v1] := by cases args; simp_all
  obtain ⟨rfl, rfl⟩ := trodVars_none hV
  have k0 := h0
  have lt0 : ∀ x ∈ p0, x.block < W.heap.size := by obtain ⟨m, hm⟩ := k0; exact DataW.trod_lt m _ _ _ hm
  have k1 := h1
  have lt1 : ∀ x ∈ p1, x.block < W.heap.size := by obtain ⟨m, hm⟩ := k1; exact DataW.trod_lt m _ _ _ hm
  obtain ⟨a0, l0, cap0, rfl, hx0, hl0, hf0⟩ := Op.strs_open (hval 0 24 v0 rfl rfl) h0
  obtain ⟨a1, rfl, b1⟩ := Op.str_open (hval 1 9 v1 rfl rfl) h1
  clear hA0 hval0
  refine (walk W a0 l0 cap0 hx0 hl0 hf0 a1 b1).mono fun e W' ⟨he, bel⟩ => ?_
  subst he
  exact ⟨_, rfl, _, _, _, [], _, [], hW', trodAll_mk1 (shut_bool Try.underlying4 _), (trodAll_cons_mk (Below.trod laidOut (by kernel_rfl) (of_decide_eq_true (by kernel_rfl)) k0 bel lt0) (trodAll_cons_mk (Below.trod laidOut (by kernel_rfl) (of_decide_eq_true (by kernel_rfl)) k1 bel lt1) trodAll_mk0)), rfl, bel.frame _, fun h => by cases h⟩

theorem over : Rows.fnExactIdOfRow.holds Try.pinned (OpenSpec.ofChange Rows.fnExactIdOfSpec) :=
  OpenClaim.holds_of_wide 8 Try.f8 rfl rfl rfl rfl rfl rfl rfl ⟨rfl, rfl, rfl, rfl, rfl⟩ rfl rfl rfl rfl rfl (by kernel_rfl) Try.func8 (by kernel_rfl)
    (of_decide_eq_true (by kernel_rfl)) (by unfold Func.isWrapper; first | (rw [if_pos (by decide +kernel)]; kernel_rfl) | (rw [if_neg (by decide +kernel)]; exact ⟨rfl, rfl⟩))
    (fun os started H enc _ => lifted os started H enc)

/-- THE STATEMENT -/
theorem proved : Rows.FnExactIdOfSaid := over
#print axioms proved
end Go.Proofs.Ytjkoldcojagiiaa.fnExactIdOf
