/-
  Proved here: the Go function laws.FnExactEval, called with any arguments that can be read, returns true, and each argument reads afterwards as it read before ('Rows.FnExactEvalSaid', no condition beyond the row's own).
-/
import Derived.Test.YtmkfmolihlnafaaRows
import Derived.WalkKit
import Derived.ProofKit
import Derived.OpenShut
import Derived.ShutString
import Derived.ChangeOld
import Derived.Below
import Derived.Test.YtmkfmolihlnafaaOpnT
import Derived.Deep.RegionHeld
import Derived.Test.YtmkfmolihlnafaaTrE
namespace Go.Proofs.Ytmkfmolihlnafaa.fnExactEval
open Go.ChangeShapes Go.WideShapes Go.ChangeAt Go.RowKit
set_option linter.unusedVariables false

theorem own : ownKnob Try.prog.godebug = none := by kernel_rfl
theorem laidOut : laidOutB Try.prog = true := by kernel_rfl


/-! ### THE WALK: the Go text returns true, and writes nothing that was there -/
set_option maxRecDepth 100000 in
set_option maxHeartbeats 4000000 in
theorem walk (w : World) (t0 : Tr.T) (a0 d0 : Option Addr) (c0 e0 : Nat) (hp0 : Tm.IsP w a0 t0.sp) (hx0 : Li.IsL w d0 t0.lv) (hm0 : t0.sp.length ≤ maxLen) (hn0 : t0.lv.length ≤ maxLen) (a1 : Option Addr) (l1 : List Int) (cap1 : Nat) (hx1 : Li.IsL w a1 l1) (hl1 : l1.length ≤ maxLen) :
    Calls Try.prog 5 #[.agg #[.slice a0 t0.sp.length c0, .slice d0 t0.lv.length e0], .slice a1 l1.length cap1] w fun e w' => e = .returned (.bool true) ∧ Below w.heap.size w w' := by
  unfold maxLen at hm0 hn0
  unfold maxLen at hl1
  by_cases q1 : 1048576 < l1.length
  · go_enter Try.func5, Try.ntmps5
    go_wp2
    go_ret
    exact ⟨rfl, (Below.refl _ _).alloc (Nat.le_refl _) _⟩
  have qd1 : decide (1048576 < (l1.length : Int)) = false := by simp; omega
  go_enter Try.func5, Try.ntmps5
  go_wp2_with fail
  obtain ⟨W0, hW0, hsz0, hB, bx_A⟩ := Tm.boxes1 w (.slice a0 t0.sp.length c0) (.slice d0 t0.lv.length e0) 25
  rw [hW0]
  clear hW0 hsz0
  refine (Tm.szTree _ _ _ _ _ _ _ _ (by omega) (by omega) (by omega) (by omega)).mono ?_
  rintro e wz ⟨rfl, hb⟩
  have bx_A := bx_A.below hb
  have hB := hB.trans (hb.mono hB.size)
  clear hb
  by_cases s0 : ((t0.sp.length + t0.lv.length : Nat) : Int) ≤ 1048576
  rotate_left
  · rw [Tb.sub_no s0]
    go_wp2
    go_ret
    exact ⟨rfl, hB⟩
  rw [Tb.sub_yes s0]
  obtain ⟨z0, hz0⟩ : ∃ t : Int, 1048576 - ((t0.sp.length + t0.lv.length : Nat) : Int) = t := ⟨_, rfl⟩
  rw [hz0]
  have z0a : 0 ≤ z0 := by omega
  have qs0 : (t0.sp.length + t0.lv.length) ≤ 1048576 := by omega
  clear hz0
  obtain ⟨_, ⟨bc_A, bd_A⟩, _⟩ := id bx_A
  go_wp2_with fail
  clear bc_A bd_A
  refine (Tm.toTree _ _ _ _ _ t0 (hp0.below hB) (hx0.below hB) (by omega)).mono ?_
  rintro e w1 ⟨ga_p0, gb_p0, rfl, p0s, p0l, ap, hb⟩
  have nb_p0s_A := Tm.nbB p0s bx_A.1
  have p0s := p0s.mono (base' := w.heap.size) hB.size
  have nb_p0l_A := Tm.nbB p0l bx_A.1
  have p0l := p0l.mono (base' := w.heap.size) hB.size
  have s_p0s_p0l := ap
  have bx_A := bx_A.below hb
  have hB := hB.trans (hb.mono hB.size)
  clear hb ap
  go_wp2_with fail
  refine (Li.to_any _ _ _ l1 (hx1.below hB) (by omega)).mono ?_
  rintro e w2 ⟨rfl, p1, hb⟩
  have s_p0s_p1 := Tb.sepR p0s p1
  have s_p0l_p1 := Tb.sepR p0l p1
  have nb_p1_A := Tm.nbB p1 bx_A.1
  have p1 := p1.mono (base' := w.heap.size) hB.size
  have p0s := p0s.below hb
  have p0l := p0l.below hb
  have bx_A := bx_A.below hb
  have hB := hB.trans (hb.mono hB.size)
  clear hb
  obtain ⟨r0, hr0⟩ : ∃ r, Tr.eval t0 l1 = r := ⟨_, rfl⟩
  have HR0 : Hid (Tr.eval t0 l1 = r0) := hr0
  clear hr0
  go_wp2_with fail
  obtain ⟨_, _, ee, _, i_p0s⟩ := p0s.isp
  cases ee
  obtain ⟨_, _, ee, _, i_p0l⟩ := Tb.isl_cap p0l
  cases ee
  obtain ⟨_, _, ee, _, i_p1⟩ := Tb.isl_cap p1
  cases ee
  refine (Tw.seval _ _ _ _ _ _ _ t0 l1 i_p0s i_p0l i_p1 (by omega) (by omega)).mono ?_
  rintro e w3 ⟨rfl, hb⟩
  clear i_p0s i_p0l i_p1
  rw [HR0.out]
  have p0s := p0s.below hb
  have p0l := p0l.below hb
  have p1 := p1.below hb
  have bx_A := bx_A.below hb
  have hB := hB.trans (hb.mono hB.size)
  clear hb
  clear p0s p0l p1
  obtain ⟨_, ⟨bc_A, bd_A⟩, _⟩ := id bx_A
  go_wp2_with fail
  clear bc_A bd_A
  refine (Tm.toTree _ _ _ _ _ t0 (hp0.below hB) (hx0.below hB) (by omega)).mono ?_
  rintro e w4 ⟨ga_x0, gb_x0, rfl, x0s, x0l, ap, hb⟩
  have nb_x0s_A := Tm.nbB x0s bx_A.1
  have x0s := x0s.mono (base' := w.heap.size) hB.size
  have nb_x0l_A := Tm.nbB x0l bx_A.1
  have x0l := x0l.mono (base' := w.heap.size) hB.size
  have s_x0s_x0l := ap
  have bx_A := bx_A.below hb
  have hB := hB.trans (hb.mono hB.size)
  clear hb ap
  go_wp2_with fail
  obtain ⟨W_x0, hW, hsz, hb, bx_x0⟩ := Tm.boxes1 w4 (.slice (some ⟨ga_x0, 0, none⟩) t0.sp.length t0.sp.length) (.slice (some ⟨gb_x0, 0, none⟩) t0.lv.length t0.lv.length) 30
  rw [hW]
  have nb_x0s_x0 := Tm.nbA x0s
  have nb_x0l_x0 := Tm.nbA x0l
  have x0s := x0s.below hb
  have x0l := x0l.below hb
  have bx_A := bx_A.below hb
  have hB := hB.trans (hb.mono hB.size)
  clear hb hW hsz
  refine (Li.to_any _ _ _ l1 (hx1.below hB) (by omega)).mono ?_
  rintro e w5 ⟨rfl, x1, hb⟩
  have s_x0s_x1 := Tb.sepR x0s x1
  have s_x0l_x1 := Tb.sepR x0l x1
  have nb_x1_A := Tm.nbB x1 bx_A.1
  have nb_x1_x0 := Tm.nbB x1 bx_x0.1
  have x1 := x1.mono (base' := w.heap.size) hB.size
  have x0s := x0s.below hb
  have x0l := x0l.below hb
  have bx_A := bx_A.below hb
  have bx_x0 := bx_x0.below hb
  have hB := hB.trans (hb.mono hB.size)
  clear hb
  obtain ⟨_, ⟨bc_x0, bd_x0⟩, _⟩ := id bx_x0
  go_wp2_with fail
  clear bc_x0 bd_x0
  obtain ⟨_, _, ee, _, i_x0s⟩ := x0s.isp
  cases ee
  obtain ⟨_, _, ee, _, i_x0l⟩ := Tb.isl_cap x0l
  cases ee
  obtain ⟨_, _, ee, _, i_x1⟩ := Tb.isl_cap x1
  cases ee
  refine (Tw.ieval _ _ _ _ _ _ _ t0 l1 i_x0s i_x0l i_x1 (by omega) (by omega)).mono ?_
  rintro e w6 ⟨rfl, hb⟩
  clear i_x0s i_x0l i_x1
  rw [HR0.out]
  have x0s := x0s.below hb
  have x0l := x0l.below hb
  have x1 := x1.below hb
  have bx_A := bx_A.below hb
  have bx_x0 := bx_x0.below hb
  have hB := hB.trans (hb.mono hB.size)
  clear hb
  have hne0 : (r0 != r0) = false := by simp
  go_wp2_with fail
  have hb := Tm.below_drew w6
  have x0s := x0s.below hb
  have x0l := x0l.below hb
  have x1 := x1.below hb
  have bx_A := bx_A.below hb
  have bx_x0 := bx_x0.below hb
  have hB := hB.trans (hb.mono hB.size)
  clear hb
  have HB : Hid (Below w.heap.size w w6.drew) := hB
  obtain ⟨_, ⟨bc_A, bd_A⟩, _⟩ := id bx_A
  obtain ⟨_, ⟨bc_x, bd_x⟩, _⟩ := id bx_x0
  have H_x0s : Hid (type_of% x0s) := x0s
  have H_x0l : Hid (type_of% x0l) := x0l
  have H_x1 : Hid (type_of% x1) := x1
  have HX_A : Hid (type_of% bx_A) := bx_A
  have HX_x0 : Hid (type_of% bx_x0) := bx_x0
  clear x0s x0l x1 bx_A bx_x0 hB
  go_region_held (fun w' => (w'.cell? ⟨w.heap.size, 0, none⟩ = some (.slice a0 t0.sp.length c0) ∧ w'.cell? ⟨w.heap.size, 1, none⟩ = some (.slice d0 t0.lv.length e0)) ∧ (w'.cell? ⟨w4.heap.size, 0, none⟩ = some (.slice (some ⟨ga_x0, 0, none⟩) t0.sp.length t0.sp.length) ∧ w'.cell? ⟨w4.heap.size, 1, none⟩ = some (.slice (some ⟨gb_x0, 0, none⟩) t0.lv.length t0.lv.length))) (go_keep) (first
    | (go_at_call 11; refine (Tm.toTree _ _ _ _ _ t0 (hp0.below HB.out) (hx0.below HB.out) (by omega)).mono ?_; rintro e w7 ⟨ga_y, gb_y, rfl, ys, yl, ap, hb⟩; have HB2 : Hid (Below w.heap.size w w7) := HB.out.trans (hb.mono HB.out.size); have HY : Hid (Below w6.drew.heap.size w6.drew w7) := hb; obtain ⟨_, ⟨be_A, bf_A⟩, _⟩ := HX_A.out.below hb; obtain ⟨_, ⟨be_x, bf_x⟩, _⟩ := HX_x0.out.below hb; obtain ⟨_, _, ee, _, iys⟩ := ys.isp; cases ee; obtain ⟨_, _, ee, _, iyl⟩ := Tb.isl_cap yl; cases ee; have ixs := H_x0s.out.isp; have ixl := H_x0l.out.isl; clear hb ap ys yl)
    | (go_at_call 13; refine (Tm.eqTree _ _ _ _ _ _ _ _ _ t0 t0 (Tm.isp_of ixs HY.out) (Tm.isl_of' ixl HY.out) iys iyl (by omega) (by omega)).mono ?_; rintro e w8 ⟨rfl, hb⟩; rw [Tm.eqp_self, Li.eqs_self, Bool.and_true]; obtain ⟨_, ⟨bg_A, bh_A⟩, _⟩ := (HX_A.out.below HY.out).below hb; obtain ⟨_, ⟨bg_x, bh_x⟩, _⟩ := (HX_x0.out.below HY.out).below hb))
  have hB := HB.out
  have x0s := H_x0s.out
  have x0l := H_x0l.out
  have x1 := H_x1.out
  have bx_A := HX_A.out
  have bx_x0 := HX_x0.out
  have hb2 := hb
  have hb := HY.out
  have x0s := x0s.below hb
  have x0l := x0l.below hb
  have x1 := x1.below hb
  have bx_A := bx_A.below hb
  have bx_x0 := bx_x0.below hb
  have hB := hB.trans (hb.mono hB.size)
  clear hb
  have hb := hb2
  have x0s := x0s.below hb
  have x0l := x0l.below hb
  have x1 := x1.below hb
  have bx_A := bx_A.below hb
  have bx_x0 := bx_x0.below hb
  have hB := hB.trans (hb.mono hB.size)
  clear hb hb2
  clear H_x0s H_x0l H_x1 HX_A HX_x0 HB HB2 HY iys iyl ixs ixl
  go_wp2_with fail
  refine (Li.to_any _ _ _ l1 (hx1.below hB) (by omega)).mono ?_
  rintro e w9 ⟨rfl, y1, hb⟩
  have s_x0s_y1 := Tb.sepR x0s y1
  have s_x0l_y1 := Tb.sepR x0l y1
  have s_x1_y1 := Tb.sepR x1 y1
  have nb_y1_A := Tm.nbB y1 bx_A.1
  have nb_y1_x0 := Tm.nbB y1 bx_x0.1
  have y1 := y1.mono (base' := w.heap.size) hB.size
  have x0s := x0s.below hb
  have x0l := x0l.below hb
  have x1 := x1.below hb
  have bx_A := bx_A.below hb
  have bx_x0 := bx_x0.below hb
  have hB := hB.trans (hb.mono hB.size)
  clear hb
  go_wp2_with fail
  obtain ⟨_, _, ee, _, i_x1⟩ := Tb.isl_cap x1
  cases ee
  obtain ⟨_, _, ee, _, i_y1⟩ := Tb.isl_cap y1
  cases ee
  refine (Li.eq_bel _ _ _ _ _ l1 l1 i_x1 i_y1 (by omega) (by omega)).mono ?_
  rintro e w10 ⟨rfl, hb⟩
  rw [Li.eqs_self]
  clear i_x1 i_y1
  have x0s := x0s.below hb
  have x0l := x0l.below hb
  have x1 := x1.below hb
  have y1 := y1.below hb
  have bx_A := bx_A.below hb
  have bx_x0 := bx_x0.below hb
  have hB := hB.trans (hb.mono hB.size)
  clear hb
  clear y1
  go_wp2
  go_ret
  exact ⟨rfl, hB⟩

/-! ### THE ROW's STEP -/
theorem lifted (os : Os) (started : os.Started) (H : Type) (enc : TypeId × Value → H) :
    ReturnsInHanded {} Try.checked os 5 .any (Rows.fnExactEvalSpec.pre6 enc Try.prog Try.f5 Rows.fnExactEvalRow.domain false) (Rows.fnExactEvalSpec.post enc Try.prog Try.f5 false true false false) := by
  refine returnsInHanded_of_change (C := Try.checked) own started (by kernel_rfl) Try.func5
    (ChangeSpec.witness6 (enc := enc) (C := Try.checked) false ⟨#[], #[.agg #[.slice none 0 0, .slice none 0 0], .slice none 0 0], []⟩ 8 (by kernel_rfl) (by kernel_rfl) (by kernel_rfl) (by kernel_rfl)) ?_
  intro W base args ds gs before hval0 hW hcnd _
  have hval : ∀ (j : Nat) t v, Try.f5.params[j]? = some t → args[j]? = some v → Value.okWide Try.prog W .any base t v := hval0
  have hW' := hW
  obtain ⟨p, q, hA0, hV, rfl, hfz, hnd⟩ := hW
  have hA : DataW.TrodAll enc Try.prog W 0 (fun _ => true) true Try.f5.params.toList args.toList ds p := hA0
  rw [Try.params5] at hA hval
  obtain ⟨v0, vs0, d0, ds0, p0, q0, hargs, rfl, rfl, h0, rest0⟩ := trodAll_cons hA
  obtain ⟨v1, vs1, d1, ds1, p1, q1, rfl, rfl, rfl, h1, rest1⟩ := trodAll_cons rest0
  obtain ⟨rfl, rfl, rfl⟩ := trodAll_nil rest1
  obtain rfl : args = #[v0, v1] := by cases args; simp_all
  obtain ⟨rfl, rfl⟩ := trodVars_none hV
  have k0 := h0
  have lt0 : ∀ x ∈ p0, x.block < W.heap.size := by obtain ⟨m, hm⟩ := k0; exact DataW.trod_lt m _ _ _ hm
  have k1 := h1
  have lt1 : ∀ x ∈ p1, x.block < W.heap.size := by obtain ⟨m, hm⟩ := k1; exact DataW.trod_lt m _ _ _ hm
  obtain ⟨t0, a0, d0, c0, e0, rfl, hp0, hx0, hm0, hn0⟩ := Op.tree_open (hval 0 25 v0 rfl rfl) h0
  obtain ⟨a1, l1, cap1, rfl, hx1, hl1⟩ := Op.ints_open (hval 1 23 v1 rfl rfl) h1
  clear hA0 hval0
  refine (walk W t0 a0 d0 c0 e0 hp0 hx0 hm0 hn0 a1 l1 cap1 hx1 hl1).mono fun e W' ⟨he, bel⟩ => ?_
  subst he
  exact ⟨_, rfl, _, _, _, [], _, [], hW', trodAll_mk1 (shut_bool Try.underlying4 _), (trodAll_cons_mk (Below.trod laidOut (by kernel_rfl) (of_decide_eq_true (by kernel_rfl)) k0 bel lt0) (trodAll_cons_mk (Below.trod laidOut (by kernel_rfl) (of_decide_eq_true (by kernel_rfl)) k1 bel lt1) trodAll_mk0)), rfl, bel.frame _, fun h => by cases h⟩

theorem over : Rows.fnExactEvalRow.holds Try.pinned (OpenSpec.ofChange Rows.fnExactEvalSpec) :=
  OpenClaim.holds_of_wide 5 Try.f5 rfl rfl rfl rfl rfl rfl rfl ⟨rfl, rfl, rfl, rfl, rfl⟩ rfl rfl rfl rfl rfl (by kernel_rfl) Try.func5 (by kernel_rfl)
    (of_decide_eq_true (by kernel_rfl)) (by unfold Func.isWrapper; first | (rw [if_pos (by decide +kernel)]; kernel_rfl) | (rw [if_neg (by decide +kernel)]; exact ⟨rfl, rfl⟩))
    (fun os started H enc _ => lifted os started H enc)

/-- THE STATEMENT -/
theorem proved : Rows.FnExactEvalSaid := over
#print axioms proved
end Go.Proofs.Ytmkfmolihlnafaa.fnExactEval
