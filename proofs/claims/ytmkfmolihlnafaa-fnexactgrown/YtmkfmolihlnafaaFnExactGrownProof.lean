/-
  Proved here: the Go function laws.FnExactGrown, called with any arguments that can be read, returns true, and each argument reads afterwards as it read before ('Rows.FnExactGrownSaid', no condition beyond the row's own).
-/
import Derived.Test.YtmkfmolihlnafaaRows
import Derived.WalkKit
import Derived.ProofKit
import Derived.OpenShut
import Derived.ShutString
import Derived.ChangeOld
import Derived.Below
import Derived.Test.YtmkfmolihlnafaaOpnT
import Derived.Deep.RegionHeld
import Derived.Test.YtmkfmolihlnafaaGrS
import Derived.Test.YtmkfmolihlnafaaGrJ
namespace Go.Proofs.Ytmkfmolihlnafaa.fnExactGrown
open Go.ChangeShapes Go.WideShapes Go.ChangeAt Go.RowKit
set_option linter.unusedVariables false

theorem own : ownKnob Try.prog.godebug = none := by kernel_rfl
theorem laidOut : laidOutB Try.prog = true := by kernel_rfl


/-! ### THE WALK: the Go text returns true, and writes nothing that was there -/
set_option maxRecDepth 100000 in
set_option maxHeartbeats 4000000 in
theorem walk (w : World) (t0 : Tr.T) (a0 d0 : Option Addr) (c0 e0 : Nat) (hp0 : Tm.IsP w a0 t0.sp) (hx0 : Li.IsL w d0 t0.lv) (hm0 : t0.sp.length ≤ maxLen) (hn0 : t0.lv.length ≤ maxLen) :
    Calls Try.prog 6 #[.agg #[.slice a0 t0.sp.length c0, .slice d0 t0.lv.length e0]] w fun e w' => e = .returned (.bool true) ∧ Below w.heap.size w w' := by
  unfold maxLen at hm0 hn0
  go_enter Try.func6, Try.ntmps6
  go_wp2_with fail
  obtain ⟨W0, hW0, hsz0, hB, bx_A⟩ := Tm.boxes1 w (.slice a0 t0.sp.length c0) (.slice d0 t0.lv.length e0) 25
  rw [hW0]
  clear hW0 hsz0
  refine (Tm.szTree _ _ _ _ _ _ _ _ (by omega) (by omega) (by omega) (by omega)).mono ?_
  rintro e wz ⟨rfl, hb⟩
  have bx_A := bx_A.below hb
  have hB := hB.trans (hb.mono hB.size)
  clear hb
  by_cases s0 : ((t0.sp.length + t0.lv.length : Nat) : Int) ≤ 1048576
  rotate_left
  · rw [Tb.sub_no s0]
    go_wp2
    go_ret
    exact ⟨rfl, hB⟩
  rw [Tb.sub_yes s0]
  obtain ⟨z0, hz0⟩ : ∃ t : Int, 1048576 - ((t0.sp.length + t0.lv.length : Nat) : Int) = t := ⟨_, rfl⟩
  rw [hz0]
  have z0a : 0 ≤ z0 := by omega
  have qs0 : (t0.sp.length + t0.lv.length) ≤ 1048576 := by omega
  clear hz0
  obtain ⟨_, ⟨bc_A, bd_A⟩, _⟩ := id bx_A
  go_wp2_with fail
  clear bc_A bd_A
  refine (Tm.toTree _ _ _ _ _ t0 (hp0.below hB) (hx0.below hB) (by omega)).mono ?_
  rintro e w1 ⟨ga_p0, gb_p0, rfl, p0s, p0l, ap, hb⟩
  have nb_p0s_A := Tm.nbB p0s bx_A.1
  have p0s := p0s.mono (base' := w.heap.size) hB.size
  have nb_p0l_A := Tm.nbB p0l bx_A.1
  have p0l := p0l.mono (base' := w.heap.size) hB.size
  have s_p0s_p0l := ap
  have bx_A := bx_A.below hb
  have hB := hB.trans (hb.mono hB.size)
  clear hb ap
  obtain ⟨r0, hr0⟩ : ∃ r, Tr.grown t0 = r := ⟨_, rfl⟩
  have HR0 : Hid (Tr.grown t0 = r0) := hr0
  have hrl : r0.length ≤ 1048576 := by rw [← hr0]; have := Tr.grown_le t0; omega
  clear hr0
  go_wp2_with fail
  obtain ⟨_, _, ee, _, i_p0s⟩ := p0s.isp
  cases ee
  obtain ⟨_, _, ee, _, i_p0l⟩ := Tb.isl_cap p0l
  cases ee
  refine (Gw.sgrown _ _ _ _ _ t0 i_p0s i_p0l (by omega)).mono ?_
  rintro e w2 ⟨v_o, rfl, o, hb⟩
  clear i_p0s i_p0l
  rw [HR0.out] at o
  have s_p0s_o := Tb.sepR p0s o
  have s_p0l_o := Tb.sepR p0l o
  have nb_o_A := Tm.nbB o bx_A.1
  have o := o.mono (base' := w.heap.size) hB.size
  have p0s := p0s.below hb
  have p0l := p0l.below hb
  have bx_A := bx_A.below hb
  have hB := hB.trans (hb.mono hB.size)
  clear hb
  obtain ⟨_, _, ee, _⟩ := o.isn
  subst ee
  clear p0s p0l
  obtain ⟨_, ⟨bc_A, bd_A⟩, _⟩ := id bx_A
  go_wp2_with fail
  clear bc_A bd_A
  refine (Tm.toTree _ _ _ _ _ t0 (hp0.below hB) (hx0.below hB) (by omega)).mono ?_
  rintro e w3 ⟨ga_x0, gb_x0, rfl, x0s, x0l, ap, hb⟩
  have s_o_x0s := Tb.sepR o x0s
  have nb_x0s_A := Tm.nbB x0s bx_A.1
  have x0s := x0s.mono (base' := w.heap.size) hB.size
  have s_o_x0l := Tb.sepR o x0l
  have nb_x0l_A := Tm.nbB x0l bx_A.1
  have x0l := x0l.mono (base' := w.heap.size) hB.size
  have s_x0s_x0l := ap
  have o := o.below hb
  have bx_A := bx_A.below hb
  have hB := hB.trans (hb.mono hB.size)
  clear hb ap
  go_wp2_with fail
  obtain ⟨W_x0, hW, hsz, hb, bx_x0⟩ := Tm.boxes1 w3 (.slice (some ⟨ga_x0, 0, none⟩) t0.sp.length t0.sp.length) (.slice (some ⟨gb_x0, 0, none⟩) t0.lv.length t0.lv.length) 30
  rw [hW]
  have nb_o_x0 := Tm.nbA o
  have nb_x0s_x0 := Tm.nbA x0s
  have nb_x0l_x0 := Tm.nbA x0l
  have o := o.below hb
  have x0s := x0s.below hb
  have x0l := x0l.below hb
  have bx_A := bx_A.below hb
  have hB := hB.trans (hb.mono hB.size)
  clear hb hW hsz
  obtain ⟨_, _, ee, _, i_x0s⟩ := x0s.isp
  cases ee
  obtain ⟨_, _, ee, _, i_x0l⟩ := Tb.isl_cap x0l
  cases ee
  refine (Gi.igrown _ _ _ _ _ t0 i_x0s i_x0l (by omega)).mono ?_
  rintro e w4 ⟨v_g, rfl, g, hb⟩
  clear i_x0s i_x0l
  rw [HR0.out] at g
  have s_o_g := Tb.sepR o g
  have s_x0s_g := Tb.sepR x0s g
  have s_x0l_g := Tb.sepR x0l g
  have nb_g_A := Tm.nbB g bx_A.1
  have nb_g_x0 := Tm.nbB g bx_x0.1
  have g := g.mono (base' := w.heap.size) hB.size
  have o := o.below hb
  have x0s := x0s.below hb
  have x0l := x0l.below hb
  have bx_A := bx_A.below hb
  have bx_x0 := bx_x0.below hb
  have hB := hB.trans (hb.mono hB.size)
  clear hb
  obtain ⟨_, _, ee, _⟩ := g.isn
  subst ee
  go_wp2_with fail
  obtain ⟨_, _, ee, _, i_g⟩ := g.isn
  cases ee
  obtain ⟨_, _, ee, _, i_o⟩ := o.isn
  cases ee
  refine (Tm.eqN _ _ _ _ _ r0 i_g i_o (by omega)).mono ?_
  rintro e w5 ⟨rfl, hb⟩
  clear i_g i_o
  have o := o.below hb
  have x0s := x0s.below hb
  have x0l := x0l.below hb
  have g := g.below hb
  have bx_A := bx_A.below hb
  have bx_x0 := bx_x0.below hb
  have hB := hB.trans (hb.mono hB.size)
  clear hb
  go_wp2_with fail
  have hb := Tm.below_drew w5
  have o := o.below hb
  have x0s := x0s.below hb
  have x0l := x0l.below hb
  have g := g.below hb
  have bx_A := bx_A.below hb
  have bx_x0 := bx_x0.below hb
  have hB := hB.trans (hb.mono hB.size)
  clear hb
  have HB : Hid (Below w.heap.size w w5.drew) := hB
  obtain ⟨_, ⟨bc_A, bd_A⟩, _⟩ := id bx_A
  obtain ⟨_, ⟨bc_x, bd_x⟩, _⟩ := id bx_x0
  have H_o : Hid (type_of% o) := o
  have H_x0s : Hid (type_of% x0s) := x0s
  have H_x0l : Hid (type_of% x0l) := x0l
  have H_g : Hid (type_of% g) := g
  have HX_A : Hid (type_of% bx_A) := bx_A
  have HX_x0 : Hid (type_of% bx_x0) := bx_x0
  clear o x0s x0l g bx_A bx_x0 hB
  go_region_held (fun w' => (w'.cell? ⟨w.heap.size, 0, none⟩ = some (.slice a0 t0.sp.length c0) ∧ w'.cell? ⟨w.heap.size, 1, none⟩ = some (.slice d0 t0.lv.length e0)) ∧ (w'.cell? ⟨w3.heap.size, 0, none⟩ = some (.slice (some ⟨ga_x0, 0, none⟩) t0.sp.length t0.sp.length) ∧ w'.cell? ⟨w3.heap.size, 1, none⟩ = some (.slice (some ⟨gb_x0, 0, none⟩) t0.lv.length t0.lv.length))) (go_keep) (first
    | (go_at_call 11; refine (Tm.toTree _ _ _ _ _ t0 (hp0.below HB.out) (hx0.below HB.out) (by omega)).mono ?_; rintro e w6 ⟨ga_y, gb_y, rfl, ys, yl, ap, hb⟩; have HB2 : Hid (Below w.heap.size w w6) := HB.out.trans (hb.mono HB.out.size); have HY : Hid (Below w5.drew.heap.size w5.drew w6) := hb; obtain ⟨_, ⟨be_A, bf_A⟩, _⟩ := HX_A.out.below hb; obtain ⟨_, ⟨be_x, bf_x⟩, _⟩ := HX_x0.out.below hb; obtain ⟨_, _, ee, _, iys⟩ := ys.isp; cases ee; obtain ⟨_, _, ee, _, iyl⟩ := Tb.isl_cap yl; cases ee; have ixs := H_x0s.out.isp; have ixl := H_x0l.out.isl; clear hb ap ys yl)
    | (go_at_call 13; refine (Tm.eqTree _ _ _ _ _ _ _ _ _ t0 t0 (Tm.isp_of ixs HY.out) (Tm.isl_of' ixl HY.out) iys iyl (by omega) (by omega)).mono ?_; rintro e w7 ⟨rfl, hb⟩; rw [Tm.eqp_self, Li.eqs_self, Bool.and_true]; obtain ⟨_, ⟨bg_A, bh_A⟩, _⟩ := (HX_A.out.below HY.out).below hb; obtain ⟨_, ⟨bg_x, bh_x⟩, _⟩ := (HX_x0.out.below HY.out).below hb))
  have hB := HB.out
  have o := H_o.out
  have x0s := H_x0s.out
  have x0l := H_x0l.out
  have g := H_g.out
  have bx_A := HX_A.out
  have bx_x0 := HX_x0.out
  have hb2 := hb
  have hb := HY.out
  have o := o.below hb
  have x0s := x0s.below hb
  have x0l := x0l.below hb
  have g := g.below hb
  have bx_A := bx_A.below hb
  have bx_x0 := bx_x0.below hb
  have hB := hB.trans (hb.mono hB.size)
  clear hb
  have hb := hb2
  have o := o.below hb
  have x0s := x0s.below hb
  have x0l := x0l.below hb
  have g := g.below hb
  have bx_A := bx_A.below hb
  have bx_x0 := bx_x0.below hb
  have hB := hB.trans (hb.mono hB.size)
  clear hb hb2
  clear H_o H_x0s H_x0l H_g HX_A HX_x0 HB HB2 HY iys iyl ixs ixl
  obtain ⟨_, ⟨bc_x0, bd_x0⟩, _⟩ := id bx_x0
  go_wp2_with fail
  clear bc_x0 bd_x0
  refine (Tm.markTree _ _ _ _ _ _ _ _ _ 1 t0.sp t0.lv rfl rfl x0s x0l s_x0s_x0l (by omega) (by omega) (by omega) (by omega)).mono ?_
  rintro e w8 ⟨rfl, x0s_m, x0l_m, hg⟩
  have o := o.kept2 hg (by first | exact s_x0s_o.1 | exact s_o_x0s.2) (by first | exact s_x0l_o.1 | exact s_o_x0l.2)
  have g := g.kept2 hg (by first | exact s_x0s_g.1 | exact s_g_x0s.2) (by first | exact s_x0l_g.1 | exact s_g_x0l.2)
  have bx_A := bx_A.keptAt hg.size (hg.block _ bx_A.1 (fun e => nb_x0s_A _ e.symm rfl) (fun e => nb_x0l_A _ e.symm rfl))
  have bx_x0 := bx_x0.keptAt hg.size (hg.block _ bx_x0.1 (fun e => nb_x0s_x0 _ e.symm rfl) (fun e => nb_x0l_x0 _ e.symm rfl))
  have hB := hB.trans (hg.bel (fun k hk => (x0s.ge k hk).1) (fun k hk => (x0l.ge k hk).1) hB.size)
  clear hg x0s x0l
  clear x0s_m x0l_m
  obtain ⟨kk, hkk⟩ : ∃ kk : Int, 1 + 2 * (t0.sp.length : Int) + (t0.lv.length : Int) = kk := ⟨_, rfl⟩
  have kk0 : 0 ≤ kk := by omega
  have kkd : decide (kk < 0) = false := by simp; omega
  rw [hkk]
  clear hkk
  go_wp2_with fail
  obtain ⟨_, _, ee, _, i_g⟩ := g.isn
  cases ee
  obtain ⟨_, _, ee, _, i_o⟩ := o.isn
  cases ee
  refine (Tm.eqN _ _ _ _ _ r0 i_g i_o (by omega)).mono ?_
  rintro e w9 ⟨rfl, hb⟩
  clear i_g i_o
  have o := o.below hb
  have g := g.below hb
  have bx_A := bx_A.below hb
  have bx_x0 := bx_x0.below hb
  have hB := hB.trans (hb.mono hB.size)
  clear hb
  go_wp2_with fail
  refine (Tm.markN _ _ _ _ _ 1 r0 rfl g (by omega) (by omega) (by omega)).mono ?_
  rintro e w10 ⟨rfl, g_m, hg, hz⟩
  clear hz
  have o := o.kept hg (by first | exact s_g_o.1 | exact s_o_g.2)
  have bx_A := bx_A.keptAt hg.size (hg.block _ bx_A.1 (fun e => nb_g_A _ e.symm rfl))
  have bx_x0 := bx_x0.keptAt hg.size (hg.block _ bx_x0.1 (fun e => nb_g_x0 _ e.symm rfl))
  have hB := hB.trans (Tb.below_ownR hg (fun k hk => (g.ge k hk).1) hB.size)
  clear hg g
  have gm := g_m
  clear g_m
  obtain ⟨mm, hmk⟩ : ∃ mm : Int, 1 + 5 * (r0.length : Int) = mm := ⟨_, rfl⟩
  have mm0 : ¬ mm < 0 := by omega
  have mmn : (mm != mm) = false := by simp
  rw [hmk]
  have HMK : Hid (1 + 5 * (r0.length : Int) = mm) := hmk
  clear hmk
  go_wp2_with fail
  obtain ⟨_, _, ee, _, ig⟩ := gm.isn
  simp only [Tm.nmarks_length] at ee
  cases ee
  refine (Tm.heldN _ _ _ _ _ ig (by omega) (by omega) (by omega)).mono ?_
  rintro e w' ⟨rfl, hw'⟩
  subst w'
  clear ig
  rw [HMK.out]
  obtain ⟨_, ⟨bc_A, bd_A⟩, _⟩ := id bx_A
  go_wp2_with fail
  clear bc_A bd_A
  refine (Tm.toTree _ _ _ _ _ t0 (hp0.below hB) (hx0.below hB) (by omega)).mono ?_
  rintro e w12 ⟨ga_u0, gb_u0, rfl, u0s, u0l, ap, hb⟩
  have s_o_u0s := Tb.sepR o u0s
  have s_gm_u0s := Tb.sepR gm u0s
  have nb_u0s_A := Tm.nbB u0s bx_A.1
  have nb_u0s_x0 := Tm.nbB u0s bx_x0.1
  have u0s := u0s.mono (base' := w.heap.size) hB.size
  have s_o_u0l := Tb.sepR o u0l
  have s_gm_u0l := Tb.sepR gm u0l
  have nb_u0l_A := Tm.nbB u0l bx_A.1
  have nb_u0l_x0 := Tm.nbB u0l bx_x0.1
  have u0l := u0l.mono (base' := w.heap.size) hB.size
  have s_u0s_u0l := ap
  have o := o.below hb
  have gm := gm.below hb
  have bx_A := bx_A.below hb
  have bx_x0 := bx_x0.below hb
  have hB := hB.trans (hb.mono hB.size)
  clear hb ap
  go_wp2_with fail
  obtain ⟨_, _, ee, _, i_u0s⟩ := u0s.isp
  cases ee
  obtain ⟨_, _, ee, _, i_u0l⟩ := Tb.isl_cap u0l
  cases ee
  refine (Gi.igrown _ _ _ _ _ t0 i_u0s i_u0l (by omega)).mono ?_
  rintro e w13 ⟨v_h, rfl, h, hb⟩
  clear i_u0s i_u0l
  rw [HR0.out] at h
  have s_o_h := Tb.sepR o h
  have s_gm_h := Tb.sepR gm h
  have s_u0s_h := Tb.sepR u0s h
  have s_u0l_h := Tb.sepR u0l h
  have nb_h_A := Tm.nbB h bx_A.1
  have nb_h_x0 := Tm.nbB h bx_x0.1
  have h := h.mono (base' := w.heap.size) hB.size
  have o := o.below hb
  have gm := gm.below hb
  have u0s := u0s.below hb
  have u0l := u0l.below hb
  have bx_A := bx_A.below hb
  have bx_x0 := bx_x0.below hb
  have hB := hB.trans (hb.mono hB.size)
  clear hb
  obtain ⟨_, _, ee, _⟩ := h.isn
  subst ee
  go_wp2_with fail
  obtain ⟨_, _, ee, _, i_h⟩ := h.isn
  cases ee
  obtain ⟨_, _, ee, _, i_o⟩ := o.isn
  cases ee
  refine (Tm.eqN _ _ _ _ _ r0 i_h i_o (by omega)).mono ?_
  rintro e w14 ⟨rfl, hb⟩
  clear i_h i_o
  have o := o.below hb
  have gm := gm.below hb
  have u0s := u0s.below hb
  have u0l := u0l.below hb
  have h := h.below hb
  have bx_A := bx_A.below hb
  have bx_x0 := bx_x0.below hb
  have hB := hB.trans (hb.mono hB.size)
  clear hb
  go_wp2_with fail
  obtain ⟨_, _, ee, _, ig⟩ := gm.isn
  simp only [Tm.nmarks_length] at ee
  cases ee
  refine (Tm.heldN _ _ _ _ _ ig (by omega) (by omega) (by omega)).mono ?_
  rintro e w' ⟨rfl, hw'⟩
  subst w'
  clear ig
  rw [HMK.out]
  go_wp2
  go_ret
  exact ⟨rfl, hB⟩

/-! ### THE ROW's STEP -/
theorem lifted (os : Os) (started : os.Started) (H : Type) (enc : TypeId × Value → H) :
    ReturnsInHanded {} Try.checked os 6 .any (Rows.fnExactGrownSpec.pre6 enc Try.prog Try.f6 Rows.fnExactGrownRow.domain false) (Rows.fnExactGrownSpec.post enc Try.prog Try.f6 false true false false) := by
  refine returnsInHanded_of_change (C := Try.checked) own started (by kernel_rfl) Try.func6
    (ChangeSpec.witness6 (enc := enc) (C := Try.checked) false ⟨#[], #[.agg #[.slice none 0 0, .slice none 0 0]], []⟩ 8 (by kernel_rfl) (by kernel_rfl) (by kernel_rfl) (by kernel_rfl)) ?_
  intro W base args ds gs before hval0 hW hcnd _
  have hval : ∀ (j : Nat) t v, Try.f6.params[j]? = some t → args[j]? = some v → Value.okWide Try.prog W .any base t v := hval0
  have hW' := hW
  obtain ⟨p, q, hA0, hV, rfl, hfz, hnd⟩ := hW
  have hA : DataW.TrodAll enc Try.prog W 0 (fun _ => true) true Try.f6.params.toList args.toList ds p := hA0
  rw [Try.params6] at hA hval
  obtain ⟨v0, vs0, d0, ds0, p0, q0, hargs, rfl, rfl, h0, rest0⟩ := trodAll_cons hA
  obtain ⟨rfl, rfl, rfl⟩ := trodAll_nil rest0
  obtain rfl : args = #[v0] := by cases args; simp_all
  obtain ⟨rfl, rfl⟩ := trodVars_none hV
  have k0 := h0
  have lt0 : ∀ x ∈ p0, x.block < W.heap.size := by obtain ⟨m, hm⟩ := k0; exact DataW.trod_lt m _ _ _ hm
  obtain ⟨t0, a0, d0, c0, e0, rfl, hp0, hx0, hm0, hn0⟩ := Op.tree_open (hval 0 25 v0 rfl rfl) h0
  clear hA0 hval0
  refine (walk W t0 a0 d0 c0 e0 hp0 hx0 hm0 hn0).mono fun e W' ⟨he, bel⟩ => ?_
  subst he
  exact ⟨_, rfl, _, _, _, [], _, [], hW', trodAll_mk1 (shut_bool Try.underlying4 _), (trodAll_cons_mk (Below.trod laidOut (by kernel_rfl) (of_decide_eq_true (by kernel_rfl)) k0 bel lt0) trodAll_mk0), rfl, bel.frame _, fun h => by cases h⟩

theorem over : Rows.fnExactGrownRow.holds Try.pinned (OpenSpec.ofChange Rows.fnExactGrownSpec) :=
  OpenClaim.holds_of_wide 6 Try.f6 rfl rfl rfl rfl rfl rfl rfl ⟨rfl, rfl, rfl, rfl, rfl⟩ rfl rfl rfl rfl rfl (by kernel_rfl) Try.func6 (by kernel_rfl)
    (of_decide_eq_true (by kernel_rfl)) (by unfold Func.isWrapper; first | (rw [if_pos (by decide +kernel)]; kernel_rfl) | (rw [if_neg (by decide +kernel)]; exact ⟨rfl, rfl⟩))
    (fun os started H enc _ => lifted os started H enc)

/-- THE STATEMENT -/
theorem proved : Rows.FnExactGrownSaid := over
#print axioms proved
end Go.Proofs.Ytmkfmolihlnafaa.fnExactGrown
