/-
  Proved here: the Go function laws.FnExactFlipped, called with any arguments that can be read, returns true, and each argument reads afterwards as it read before ('Rows.FnExactFlippedSaid', no condition beyond the row's own).
-/
import Derived.Test.YtmkfmolihlnafaaRows
import Derived.WalkKit
import Derived.ProofKit
import Derived.OpenShut
import Derived.ShutString
import Derived.ChangeOld
import Derived.Below
import Derived.Test.YtmkfmolihlnafaaOpnT
import Derived.Deep.RegionHeld
import Derived.Test.YtmkfmolihlnafaaFlI
namespace Go.Proofs.Ytmkfmolihlnafaa.fnExactFlipped
open Go.ChangeShapes Go.WideShapes Go.ChangeAt Go.RowKit
set_option linter.unusedVariables false

theorem own : ownKnob Try.prog.godebug = none := by kernel_rfl
theorem laidOut : laidOutB Try.prog = true := by kernel_rfl


/-! ### THE WALK: the Go text returns true, and writes nothing that was there -/
set_option maxRecDepth 100000 in
set_option maxHeartbeats 4000000 in
theorem walk (w : World) (t0 : Tr.T) (a0 d0 : Option Addr) (c0 e0 : Nat) (hp0 : Tm.IsP w a0 t0.sp) (hx0 : Li.IsL w d0 t0.lv) (hm0 : t0.sp.length ≤ maxLen) (hn0 : t0.lv.length ≤ maxLen) (a1 : Int) (b1 : (-9223372036854775808 ≤ a1 ∧ a1 ≤ 9223372036854775807)) :
    Calls Try.prog 8 #[.agg #[.slice a0 t0.sp.length c0, .slice d0 t0.lv.length e0], .int .i64 a1] w fun e w' => e = .returned (.bool true) ∧ Below w.heap.size w w' := by
  unfold maxLen at hm0 hn0
  go_enter Try.func8, Try.ntmps8
  go_wp2_with fail
  obtain ⟨W0, hW0, hsz0, hB, bx_A⟩ := Tm.boxes1 w (.slice a0 t0.sp.length c0) (.slice d0 t0.lv.length e0) 25
  rw [hW0]
  clear hW0 hsz0
  refine (Tm.szTree _ _ _ _ _ _ _ _ (by omega) (by omega) (by omega) (by omega)).mono ?_
  rintro e wz ⟨rfl, hb⟩
  have bx_A := bx_A.below hb
  have hB := hB.trans (hb.mono hB.size)
  clear hb
  by_cases s0 : ((t0.sp.length + t0.lv.length : Nat) : Int) ≤ 1048576
  rotate_left
  · rw [Tb.sub_no s0]
    go_wp2
    go_ret
    exact ⟨rfl, hB⟩
  rw [Tb.sub_yes s0]
  obtain ⟨z0, hz0⟩ : ∃ t : Int, 1048576 - ((t0.sp.length + t0.lv.length : Nat) : Int) = t := ⟨_, rfl⟩
  rw [hz0]
  have z0a : 0 ≤ z0 := by omega
  have qs0 : (t0.sp.length + t0.lv.length) ≤ 1048576 := by omega
  clear hz0
  obtain ⟨_, ⟨bc_A, bd_A⟩, _⟩ := id bx_A
  go_wp2_with fail
  clear bc_A bd_A
  refine (Tm.toTree _ _ _ _ _ t0 (hp0.below hB) (hx0.below hB) (by omega)).mono ?_
  rintro e w1 ⟨ga_p0, gb_p0, rfl, p0s, p0l, ap, hb⟩
  have nb_p0s_A := Tm.nbB p0s bx_A.1
  have p0s := p0s.mono (base' := w.heap.size) hB.size
  have nb_p0l_A := Tm.nbB p0l bx_A.1
  have p0l := p0l.mono (base' := w.heap.size) hB.size
  have s_p0s_p0l := ap
  have bx_A := bx_A.below hb
  have hB := hB.trans (hb.mono hB.size)
  clear hb ap
  obtain ⟨r0, hr0⟩ : ∃ r, Tr.flipped t0 a1 = r := ⟨_, rfl⟩
  have HR0 : Hid (Tr.flipped t0 a1 = r0) := hr0
  have hrl : r0.sp.length + r0.lv.length ≤ 1048576 := by rw [← hr0]; have := Fw.flip_len t0 a1; omega
  clear hr0
  go_wp2_with fail
  obtain ⟨_, _, ee, _, i_p0s⟩ := p0s.isp
  cases ee
  obtain ⟨_, _, ee, _, i_p0l⟩ := Tb.isl_cap p0l
  cases ee
  refine (Fw.sflip _ _ _ _ _ t0 a1 i_p0s i_p0l (by omega)).mono ?_
  rintro e w2 ⟨v_os, v_ol, rfl, os, ol, ap, hb⟩
  clear i_p0s i_p0l
  rw [HR0.out] at os ol
  have s_p0s_os := Tb.sepR p0s os
  have s_p0l_os := Tb.sepR p0l os
  have nb_os_A := Tm.nbB os bx_A.1
  have os := os.mono (base' := w.heap.size) hB.size
  have s_p0s_ol := Tb.sepR p0s ol
  have s_p0l_ol := Tb.sepR p0l ol
  have nb_ol_A := Tm.nbB ol bx_A.1
  have ol := ol.mono (base' := w.heap.size) hB.size
  have s_os_ol := ap
  have p0s := p0s.below hb
  have p0l := p0l.below hb
  have bx_A := bx_A.below hb
  have hB := hB.trans (hb.mono hB.size)
  clear hb ap
  obtain ⟨p_os, c_os, ee, _⟩ := os.isp
  subst ee
  obtain ⟨p_ol, c_ol, ee, _⟩ := ol.isl
  subst ee
  clear p0s p0l
  obtain ⟨_, ⟨bc_A, bd_A⟩, _⟩ := id bx_A
  go_wp2_with fail
  clear bc_A bd_A
  obtain ⟨W_o, hW, hsz, hb, bx_o⟩ := Tm.boxes1 w2 (.slice p_os r0.sp.length c_os) (.slice p_ol r0.lv.length c_ol) 30
  rw [hW]
  have nb_os_o := Tm.nbA os
  have nb_ol_o := Tm.nbA ol
  have os := os.below hb
  have ol := ol.below hb
  have bx_A := bx_A.below hb
  have hB := hB.trans (hb.mono hB.size)
  clear hb hW hsz
  refine (Tm.toTree _ _ _ _ _ t0 (hp0.below hB) (hx0.below hB) (by omega)).mono ?_
  rintro e w3 ⟨ga_x0, gb_x0, rfl, x0s, x0l, ap, hb⟩
  have s_os_x0s := Tb.sepR os x0s
  have s_ol_x0s := Tb.sepR ol x0s
  have nb_x0s_A := Tm.nbB x0s bx_A.1
  have nb_x0s_o := Tm.nbB x0s bx_o.1
  have x0s := x0s.mono (base' := w.heap.size) hB.size
  have s_os_x0l := Tb.sepR os x0l
  have s_ol_x0l := Tb.sepR ol x0l
  have nb_x0l_A := Tm.nbB x0l bx_A.1
  have nb_x0l_o := Tm.nbB x0l bx_o.1
  have x0l := x0l.mono (base' := w.heap.size) hB.size
  have s_x0s_x0l := ap
  have os := os.below hb
  have ol := ol.below hb
  have bx_A := bx_A.below hb
  have bx_o := bx_o.below hb
  have hB := hB.trans (hb.mono hB.size)
  clear hb ap
  go_wp2_with fail
  obtain ⟨W_x0, hW, hsz, hb, bx_x0⟩ := Tm.boxes1 w3 (.slice (some ⟨ga_x0, 0, none⟩) t0.sp.length t0.sp.length) (.slice (some ⟨gb_x0, 0, none⟩) t0.lv.length t0.lv.length) 30
  rw [hW]
  have nb_os_x0 := Tm.nbA os
  have nb_ol_x0 := Tm.nbA ol
  have nb_x0s_x0 := Tm.nbA x0s
  have nb_x0l_x0 := Tm.nbA x0l
  have os := os.below hb
  have ol := ol.below hb
  have x0s := x0s.below hb
  have x0l := x0l.below hb
  have bx_A := bx_A.below hb
  have bx_o := bx_o.below hb
  have hB := hB.trans (hb.mono hB.size)
  clear hb hW hsz
  obtain ⟨_, _, ee, _, i_x0s⟩ := x0s.isp
  cases ee
  obtain ⟨_, _, ee, _, i_x0l⟩ := Tb.isl_cap x0l
  cases ee
  refine (Fw.iflip _ _ _ _ _ t0 a1 i_x0s i_x0l (by omega)).mono ?_
  rintro e w4 ⟨v_gs, v_gl, rfl, gs, gl, ap, hb⟩
  clear i_x0s i_x0l
  rw [HR0.out] at gs gl
  have s_os_gs := Tb.sepR os gs
  have s_ol_gs := Tb.sepR ol gs
  have s_x0s_gs := Tb.sepR x0s gs
  have s_x0l_gs := Tb.sepR x0l gs
  have nb_gs_A := Tm.nbB gs bx_A.1
  have nb_gs_o := Tm.nbB gs bx_o.1
  have nb_gs_x0 := Tm.nbB gs bx_x0.1
  have gs := gs.mono (base' := w.heap.size) hB.size
  have s_os_gl := Tb.sepR os gl
  have s_ol_gl := Tb.sepR ol gl
  have s_x0s_gl := Tb.sepR x0s gl
  have s_x0l_gl := Tb.sepR x0l gl
  have nb_gl_A := Tm.nbB gl bx_A.1
  have nb_gl_o := Tm.nbB gl bx_o.1
  have nb_gl_x0 := Tm.nbB gl bx_x0.1
  have gl := gl.mono (base' := w.heap.size) hB.size
  have s_gs_gl := ap
  have os := os.below hb
  have ol := ol.below hb
  have x0s := x0s.below hb
  have x0l := x0l.below hb
  have bx_A := bx_A.below hb
  have bx_o := bx_o.below hb
  have bx_x0 := bx_x0.below hb
  have hB := hB.trans (hb.mono hB.size)
  clear hb ap
  obtain ⟨p_gs, c_gs, ee, _⟩ := gs.isp
  subst ee
  obtain ⟨p_gl, c_gl, ee, _⟩ := gl.isl
  subst ee
  obtain ⟨_, ⟨bc_o, bd_o⟩, _⟩ := id bx_o
  go_wp2_with fail
  clear bc_o bd_o
  obtain ⟨W_g, hW, hsz, hb, bx_g⟩ := Tm.boxes1 w4 (.slice p_gs r0.sp.length c_gs) (.slice p_gl r0.lv.length c_gl) 30
  rw [hW]
  have nb_os_g := Tm.nbA os
  have nb_ol_g := Tm.nbA ol
  have nb_x0s_g := Tm.nbA x0s
  have nb_x0l_g := Tm.nbA x0l
  have nb_gs_g := Tm.nbA gs
  have nb_gl_g := Tm.nbA gl
  have os := os.below hb
  have ol := ol.below hb
  have x0s := x0s.below hb
  have x0l := x0l.below hb
  have gs := gs.below hb
  have gl := gl.below hb
  have bx_A := bx_A.below hb
  have bx_o := bx_o.below hb
  have bx_x0 := bx_x0.below hb
  have hB := hB.trans (hb.mono hB.size)
  clear hb hW hsz
  obtain ⟨_, _, ee, _, i_gs⟩ := gs.isp
  cases ee
  obtain ⟨_, _, ee, _, i_gl⟩ := Tb.isl_cap gl
  cases ee
  obtain ⟨_, _, ee, _, i_os⟩ := os.isp
  cases ee
  obtain ⟨_, _, ee, _, i_ol⟩ := Tb.isl_cap ol
  cases ee
  refine (Tm.eqTree _ _ _ _ _ _ _ _ _ r0 r0 i_gs i_gl i_os i_ol (by omega) (by omega)).mono ?_
  rintro e w5 ⟨rfl, hb⟩
  rw [Tm.eqp_self, Li.eqs_self, Bool.and_true]
  clear i_gs i_gl i_os i_ol
  have os := os.below hb
  have ol := ol.below hb
  have x0s := x0s.below hb
  have x0l := x0l.below hb
  have gs := gs.below hb
  have gl := gl.below hb
  have bx_A := bx_A.below hb
  have bx_o := bx_o.below hb
  have bx_x0 := bx_x0.below hb
  have bx_g := bx_g.below hb
  have hB := hB.trans (hb.mono hB.size)
  clear hb
  go_wp2_with fail
  have hb := Tm.below_drew w5
  have os := os.below hb
  have ol := ol.below hb
  have x0s := x0s.below hb
  have x0l := x0l.below hb
  have gs := gs.below hb
  have gl := gl.below hb
  have bx_A := bx_A.below hb
  have bx_o := bx_o.below hb
  have bx_x0 := bx_x0.below hb
  have bx_g := bx_g.below hb
  have hB := hB.trans (hb.mono hB.size)
  clear hb
  have HB : Hid (Below w.heap.size w w5.drew) := hB
  obtain ⟨_, ⟨bc_A, bd_A⟩, _⟩ := id bx_A
  obtain ⟨_, ⟨bc_x, bd_x⟩, _⟩ := id bx_x0
  have H_os : Hid (type_of% os) := os
  have H_ol : Hid (type_of% ol) := ol
  have H_x0s : Hid (type_of% x0s) := x0s
  have H_x0l : Hid (type_of% x0l) := x0l
  have H_gs : Hid (type_of% gs) := gs
  have H_gl : Hid (type_of% gl) := gl
  have HX_A : Hid (type_of% bx_A) := bx_A
  have HX_o : Hid (type_of% bx_o) := bx_o
  have HX_x0 : Hid (type_of% bx_x0) := bx_x0
  have HX_g : Hid (type_of% bx_g) := bx_g
  clear os ol x0s x0l gs gl bx_A bx_o bx_x0 bx_g hB
  go_region_held (fun w' => (w'.cell? ⟨w.heap.size, 0, none⟩ = some (.slice a0 t0.sp.length c0) ∧ w'.cell? ⟨w.heap.size, 1, none⟩ = some (.slice d0 t0.lv.length e0)) ∧ (w'.cell? ⟨w3.heap.size, 0, none⟩ = some (.slice (some ⟨ga_x0, 0, none⟩) t0.sp.length t0.sp.length) ∧ w'.cell? ⟨w3.heap.size, 1, none⟩ = some (.slice (some ⟨gb_x0, 0, none⟩) t0.lv.length t0.lv.length))) (go_keep) (first
    | (go_at_call 11; refine (Tm.toTree _ _ _ _ _ t0 (hp0.below HB.out) (hx0.below HB.out) (by omega)).mono ?_; rintro e w6 ⟨ga_y, gb_y, rfl, ys, yl, ap, hb⟩; have HB2 : Hid (Below w.heap.size w w6) := HB.out.trans (hb.mono HB.out.size); have HY : Hid (Below w5.drew.heap.size w5.drew w6) := hb; obtain ⟨_, ⟨be_A, bf_A⟩, _⟩ := HX_A.out.below hb; obtain ⟨_, ⟨be_x, bf_x⟩, _⟩ := HX_x0.out.below hb; obtain ⟨_, _, ee, _, iys⟩ := ys.isp; cases ee; obtain ⟨_, _, ee, _, iyl⟩ := Tb.isl_cap yl; cases ee; have ixs := H_x0s.out.isp; have ixl := H_x0l.out.isl; clear hb ap ys yl)
    | (go_at_call 13; refine (Tm.eqTree _ _ _ _ _ _ _ _ _ t0 t0 (Tm.isp_of ixs HY.out) (Tm.isl_of' ixl HY.out) iys iyl (by omega) (by omega)).mono ?_; rintro e w7 ⟨rfl, hb⟩; rw [Tm.eqp_self, Li.eqs_self, Bool.and_true]; obtain ⟨_, ⟨bg_A, bh_A⟩, _⟩ := (HX_A.out.below HY.out).below hb; obtain ⟨_, ⟨bg_x, bh_x⟩, _⟩ := (HX_x0.out.below HY.out).below hb))
  have hB := HB.out
  have os := H_os.out
  have ol := H_ol.out
  have x0s := H_x0s.out
  have x0l := H_x0l.out
  have gs := H_gs.out
  have gl := H_gl.out
  have bx_A := HX_A.out
  have bx_o := HX_o.out
  have bx_x0 := HX_x0.out
  have bx_g := HX_g.out
  have hb2 := hb
  have hb := HY.out
  have os := os.below hb
  have ol := ol.below hb
  have x0s := x0s.below hb
  have x0l := x0l.below hb
  have gs := gs.below hb
  have gl := gl.below hb
  have bx_A := bx_A.below hb
  have bx_o := bx_o.below hb
  have bx_x0 := bx_x0.below hb
  have bx_g := bx_g.below hb
  have hB := hB.trans (hb.mono hB.size)
  clear hb
  have hb := hb2
  have os := os.below hb
  have ol := ol.below hb
  have x0s := x0s.below hb
  have x0l := x0l.below hb
  have gs := gs.below hb
  have gl := gl.below hb
  have bx_A := bx_A.below hb
  have bx_o := bx_o.below hb
  have bx_x0 := bx_x0.below hb
  have bx_g := bx_g.below hb
  have hB := hB.trans (hb.mono hB.size)
  clear hb hb2
  clear H_os H_ol H_x0s H_x0l H_gs H_gl HX_A HX_o HX_x0 HX_g HB HB2 HY iys iyl ixs ixl
  obtain ⟨_, ⟨bc_x0, bd_x0⟩, _⟩ := id bx_x0
  go_wp2_with fail
  clear bc_x0 bd_x0
  refine (Tm.markTree _ _ _ _ _ _ _ _ _ 1 t0.sp t0.lv rfl rfl x0s x0l s_x0s_x0l (by omega) (by omega) (by omega) (by omega)).mono ?_
  rintro e w8 ⟨rfl, x0s_m, x0l_m, hg⟩
  have os := os.kept2 hg (by first | exact s_x0s_os.1 | exact s_os_x0s.2) (by first | exact s_x0l_os.1 | exact s_os_x0l.2)
  have ol := Tm.Own.kept2 ol hg (by first | exact s_x0s_ol.1 | exact s_ol_x0s.2) (by first | exact s_x0l_ol.1 | exact s_ol_x0l.2)
  have gs := gs.kept2 hg (by first | exact s_x0s_gs.1 | exact s_gs_x0s.2) (by first | exact s_x0l_gs.1 | exact s_gs_x0l.2)
  have gl := Tm.Own.kept2 gl hg (by first | exact s_x0s_gl.1 | exact s_gl_x0s.2) (by first | exact s_x0l_gl.1 | exact s_gl_x0l.2)
  have bx_A := bx_A.keptAt hg.size (hg.block _ bx_A.1 (fun e => nb_x0s_A _ e.symm rfl) (fun e => nb_x0l_A _ e.symm rfl))
  have bx_o := bx_o.keptAt hg.size (hg.block _ bx_o.1 (fun e => nb_x0s_o _ e.symm rfl) (fun e => nb_x0l_o _ e.symm rfl))
  have bx_x0 := bx_x0.keptAt hg.size (hg.block _ bx_x0.1 (fun e => nb_x0s_x0 _ e.symm rfl) (fun e => nb_x0l_x0 _ e.symm rfl))
  have bx_g := bx_g.keptAt hg.size (hg.block _ bx_g.1 (fun e => nb_x0s_g _ e.symm rfl) (fun e => nb_x0l_g _ e.symm rfl))
  have hB := hB.trans (hg.bel (fun k hk => (x0s.ge k hk).1) (fun k hk => (x0l.ge k hk).1) hB.size)
  clear hg x0s x0l
  clear x0s_m x0l_m
  obtain ⟨kk, hkk⟩ : ∃ kk : Int, 1 + 2 * (t0.sp.length : Int) + (t0.lv.length : Int) = kk := ⟨_, rfl⟩
  have kk0 : 0 ≤ kk := by omega
  have kkd : decide (kk < 0) = false := by simp; omega
  rw [hkk]
  clear hkk
  obtain ⟨_, ⟨bc_g, bd_g⟩, _⟩ := id bx_g
  obtain ⟨_, ⟨bc_o, bd_o⟩, _⟩ := id bx_o
  go_wp2_with fail
  clear bc_g bd_g
  clear bc_o bd_o
  obtain ⟨_, _, ee, _, i_gs⟩ := gs.isp
  cases ee
  obtain ⟨_, _, ee, _, i_gl⟩ := Tb.isl_cap gl
  cases ee
  obtain ⟨_, _, ee, _, i_os⟩ := os.isp
  cases ee
  obtain ⟨_, _, ee, _, i_ol⟩ := Tb.isl_cap ol
  cases ee
  refine (Tm.eqTree _ _ _ _ _ _ _ _ _ r0 r0 i_gs i_gl i_os i_ol (by omega) (by omega)).mono ?_
  rintro e w9 ⟨rfl, hb⟩
  rw [Tm.eqp_self, Li.eqs_self, Bool.and_true]
  clear i_gs i_gl i_os i_ol
  have os := os.below hb
  have ol := ol.below hb
  have gs := gs.below hb
  have gl := gl.below hb
  have bx_A := bx_A.below hb
  have bx_o := bx_o.below hb
  have bx_x0 := bx_x0.below hb
  have bx_g := bx_g.below hb
  have hB := hB.trans (hb.mono hB.size)
  clear hb
  obtain ⟨_, ⟨bc_g, bd_g⟩, _⟩ := id bx_g
  go_wp2_with fail
  clear bc_g bd_g
  refine (Tm.markTree _ _ _ _ _ _ _ _ _ 1 r0.sp r0.lv rfl rfl gs gl s_gs_gl (by omega) (by omega) (by omega) (by omega)).mono ?_
  rintro e w10 ⟨rfl, gs_m, gl_m, hg⟩
  have os := os.kept2 hg (by first | exact s_gs_os.1 | exact s_os_gs.2) (by first | exact s_gl_os.1 | exact s_os_gl.2)
  have ol := Tm.Own.kept2 ol hg (by first | exact s_gs_ol.1 | exact s_ol_gs.2) (by first | exact s_gl_ol.1 | exact s_ol_gl.2)
  have bx_A := bx_A.keptAt hg.size (hg.block _ bx_A.1 (fun e => nb_gs_A _ e.symm rfl) (fun e => nb_gl_A _ e.symm rfl))
  have bx_o := bx_o.keptAt hg.size (hg.block _ bx_o.1 (fun e => nb_gs_o _ e.symm rfl) (fun e => nb_gl_o _ e.symm rfl))
  have bx_x0 := bx_x0.keptAt hg.size (hg.block _ bx_x0.1 (fun e => nb_gs_x0 _ e.symm rfl) (fun e => nb_gl_x0 _ e.symm rfl))
  have bx_g := bx_g.keptAt hg.size (hg.block _ bx_g.1 (fun e => nb_gs_g _ e.symm rfl) (fun e => nb_gl_g _ e.symm rfl))
  have hB := hB.trans (hg.bel (fun k hk => (gs.ge k hk).1) (fun k hk => (gl.ge k hk).1) hB.size)
  clear hg gs gl
  have gms := gs_m
  have gml := gl_m
  clear gs_m gl_m
  obtain ⟨mm, hmk⟩ : ∃ mm : Int, 1 + 2 * (r0.sp.length : Int) + (r0.lv.length : Int) = mm := ⟨_, rfl⟩
  have mm0 : ¬ mm < 0 := by omega
  have mmn : (mm != mm) = false := by simp
  rw [hmk]
  have HMK : Hid (1 + 2 * (r0.sp.length : Int) + (r0.lv.length : Int) = mm) := hmk
  clear hmk
  obtain ⟨_, ⟨bc_g, bd_g⟩, _⟩ := id bx_g
  go_wp2_with fail
  clear bc_g bd_g
  obtain ⟨_, _, ee, _, ig⟩ := gms.isp
  simp only [Tm.pmarks_length] at ee
  cases ee
  obtain ⟨_, _, ee, ih⟩ := gml.isl
  simp only [Li.marks_length] at ee
  cases ee
  refine (Tm.heldTree _ _ _ _ _ _ _ _ ig ih (by omega) (by omega) (by omega) (by omega)).mono ?_
  rintro e w11 ⟨rfl, hb⟩
  clear ig ih
  have os := os.below hb
  have ol := ol.below hb
  have gms := gms.below hb
  have gml := gml.below hb
  have bx_A := bx_A.below hb
  have bx_o := bx_o.below hb
  have bx_x0 := bx_x0.below hb
  have bx_g := bx_g.below hb
  have hB := hB.trans (hb.mono hB.size)
  clear hb
  rw [HMK.out]
  obtain ⟨_, ⟨bc_A, bd_A⟩, _⟩ := id bx_A
  go_wp2_with fail
  clear bc_A bd_A
  refine (Tm.toTree _ _ _ _ _ t0 (hp0.below hB) (hx0.below hB) (by omega)).mono ?_
  rintro e w12 ⟨ga_u0, gb_u0, rfl, u0s, u0l, ap, hb⟩
  have s_os_u0s := Tb.sepR os u0s
  have s_ol_u0s := Tb.sepR ol u0s
  have s_gms_u0s := Tb.sepR gms u0s
  have s_gml_u0s := Tb.sepR gml u0s
  have nb_u0s_A := Tm.nbB u0s bx_A.1
  have nb_u0s_o := Tm.nbB u0s bx_o.1
  have nb_u0s_x0 := Tm.nbB u0s bx_x0.1
  have nb_u0s_g := Tm.nbB u0s bx_g.1
  have u0s := u0s.mono (base' := w.heap.size) hB.size
  have s_os_u0l := Tb.sepR os u0l
  have s_ol_u0l := Tb.sepR ol u0l
  have s_gms_u0l := Tb.sepR gms u0l
  have s_gml_u0l := Tb.sepR gml u0l
  have nb_u0l_A := Tm.nbB u0l bx_A.1
  have nb_u0l_o := Tm.nbB u0l bx_o.1
  have nb_u0l_x0 := Tm.nbB u0l bx_x0.1
  have nb_u0l_g := Tm.nbB u0l bx_g.1
  have u0l := u0l.mono (base' := w.heap.size) hB.size
  have s_u0s_u0l := ap
  have os := os.below hb
  have ol := ol.below hb
  have gms := gms.below hb
  have gml := gml.below hb
  have bx_A := bx_A.below hb
  have bx_o := bx_o.below hb
  have bx_x0 := bx_x0.below hb
  have bx_g := bx_g.below hb
  have hB := hB.trans (hb.mono hB.size)
  clear hb ap
  go_wp2_with fail
  obtain ⟨_, _, ee, _, i_u0s⟩ := u0s.isp
  cases ee
  obtain ⟨_, _, ee, _, i_u0l⟩ := Tb.isl_cap u0l
  cases ee
  refine (Fw.iflip _ _ _ _ _ t0 a1 i_u0s i_u0l (by omega)).mono ?_
  rintro e w13 ⟨v_hs, v_hl, rfl, hs, hl, ap, hb⟩
  clear i_u0s i_u0l
  rw [HR0.out] at hs hl
  have s_os_hs := Tb.sepR os hs
  have s_ol_hs := Tb.sepR ol hs
  have s_gms_hs := Tb.sepR gms hs
  have s_gml_hs := Tb.sepR gml hs
  have s_u0s_hs := Tb.sepR u0s hs
  have s_u0l_hs := Tb.sepR u0l hs
  have nb_hs_A := Tm.nbB hs bx_A.1
  have nb_hs_o := Tm.nbB hs bx_o.1
  have nb_hs_x0 := Tm.nbB hs bx_x0.1
  have nb_hs_g := Tm.nbB hs bx_g.1
  have hs := hs.mono (base' := w.heap.size) hB.size
  have s_os_hl := Tb.sepR os hl
  have s_ol_hl := Tb.sepR ol hl
  have s_gms_hl := Tb.sepR gms hl
  have s_gml_hl := Tb.sepR gml hl
  have s_u0s_hl := Tb.sepR u0s hl
  have s_u0l_hl := Tb.sepR u0l hl
  have nb_hl_A := Tm.nbB hl bx_A.1
  have nb_hl_o := Tm.nbB hl bx_o.1
  have nb_hl_x0 := Tm.nbB hl bx_x0.1
  have nb_hl_g := Tm.nbB hl bx_g.1
  have hl := hl.mono (base' := w.heap.size) hB.size
  have s_hs_hl := ap
  have os := os.below hb
  have ol := ol.below hb
  have gms := gms.below hb
  have gml := gml.below hb
  have u0s := u0s.below hb
  have u0l := u0l.below hb
  have bx_A := bx_A.below hb
  have bx_o := bx_o.below hb
  have bx_x0 := bx_x0.below hb
  have bx_g := bx_g.below hb
  have hB := hB.trans (hb.mono hB.size)
  clear hb ap
  obtain ⟨p_hs, c_hs, ee, _⟩ := hs.isp
  subst ee
  obtain ⟨p_hl, c_hl, ee, _⟩ := hl.isl
  subst ee
  obtain ⟨_, ⟨bc_o, bd_o⟩, _⟩ := id bx_o
  go_wp2_with fail
  clear bc_o bd_o
  obtain ⟨W_h, hW, hsz, hb, bx_h⟩ := Tm.boxes1 w13 (.slice p_hs r0.sp.length c_hs) (.slice p_hl r0.lv.length c_hl) 30
  rw [hW]
  have nb_os_h := Tm.nbA os
  have nb_ol_h := Tm.nbA ol
  have nb_gms_h := Tm.nbA gms
  have nb_gml_h := Tm.nbA gml
  have nb_u0s_h := Tm.nbA u0s
  have nb_u0l_h := Tm.nbA u0l
  have nb_hs_h := Tm.nbA hs
  have nb_hl_h := Tm.nbA hl
  have os := os.below hb
  have ol := ol.below hb
  have gms := gms.below hb
  have gml := gml.below hb
  have u0s := u0s.below hb
  have u0l := u0l.below hb
  have hs := hs.below hb
  have hl := hl.below hb
  have bx_A := bx_A.below hb
  have bx_o := bx_o.below hb
  have bx_x0 := bx_x0.below hb
  have bx_g := bx_g.below hb
  have hB := hB.trans (hb.mono hB.size)
  clear hb hW hsz
  obtain ⟨_, _, ee, _, i_hs⟩ := hs.isp
  cases ee
  obtain ⟨_, _, ee, _, i_hl⟩ := Tb.isl_cap hl
  cases ee
  obtain ⟨_, _, ee, _, i_os⟩ := os.isp
  cases ee
  obtain ⟨_, _, ee, _, i_ol⟩ := Tb.isl_cap ol
  cases ee
  refine (Tm.eqTree _ _ _ _ _ _ _ _ _ r0 r0 i_hs i_hl i_os i_ol (by omega) (by omega)).mono ?_
  rintro e w14 ⟨rfl, hb⟩
  rw [Tm.eqp_self, Li.eqs_self, Bool.and_true]
  clear i_hs i_hl i_os i_ol
  have os := os.below hb
  have ol := ol.below hb
  have gms := gms.below hb
  have gml := gml.below hb
  have u0s := u0s.below hb
  have u0l := u0l.below hb
  have hs := hs.below hb
  have hl := hl.below hb
  have bx_A := bx_A.below hb
  have bx_o := bx_o.below hb
  have bx_x0 := bx_x0.below hb
  have bx_g := bx_g.below hb
  have bx_h := bx_h.below hb
  have hB := hB.trans (hb.mono hB.size)
  clear hb
  obtain ⟨_, ⟨bc_g, bd_g⟩, _⟩ := id bx_g
  go_wp2_with fail
  clear bc_g bd_g
  obtain ⟨_, _, ee, _, ig⟩ := gms.isp
  simp only [Tm.pmarks_length] at ee
  cases ee
  obtain ⟨_, _, ee, ih⟩ := gml.isl
  simp only [Li.marks_length] at ee
  cases ee
  refine (Tm.heldTree _ _ _ _ _ _ _ _ ig ih (by omega) (by omega) (by omega) (by omega)).mono ?_
  rintro e w15 ⟨rfl, hb⟩
  clear ig ih
  have os := os.below hb
  have ol := ol.below hb
  have gms := gms.below hb
  have gml := gml.below hb
  have u0s := u0s.below hb
  have u0l := u0l.below hb
  have hs := hs.below hb
  have hl := hl.below hb
  have bx_A := bx_A.below hb
  have bx_o := bx_o.below hb
  have bx_x0 := bx_x0.below hb
  have bx_g := bx_g.below hb
  have bx_h := bx_h.below hb
  have hB := hB.trans (hb.mono hB.size)
  clear hb
  rw [HMK.out]
  go_wp2
  go_ret
  exact ⟨rfl, hB⟩

/-! ### THE ROW's STEP -/
theorem lifted (os : Os) (started : os.Started) (H : Type) (enc : TypeId × Value → H) :
    ReturnsInHanded {} Try.checked os 8 .any (Rows.fnExactFlippedSpec.pre6 enc Try.prog Try.f8 Rows.fnExactFlippedRow.domain false) (Rows.fnExactFlippedSpec.post enc Try.prog Try.f8 false true false false) := by
  refine returnsInHanded_of_change (C := Try.checked) own started (by kernel_rfl) Try.func8
    (ChangeSpec.witness6 (enc := enc) (C := Try.checked) false ⟨#[], #[.agg #[.slice none 0 0, .slice none 0 0], .int .i64 0], []⟩ 8 (by kernel_rfl) (by kernel_rfl) (by kernel_rfl) (by kernel_rfl)) ?_
  intro W base args ds gs before hval0 hW hcnd _
  have hval : ∀ (j : Nat) t v, Try.f8.params[j]? = some t → args[j]? = some v → Value.okWide Try.prog W .any base t v := hval0
  have hW' := hW
  obtain ⟨p, q, hA0, hV, rfl, hfz, hnd⟩ := hW
  have hA : DataW.TrodAll enc Try.prog W 0 (fun _ => true) true Try.f8.params.toList args.toList ds p := hA0
  rw [Try.params8] at hA hval
  obtain ⟨v0, vs0, d0, ds0, p0, q0, hargs, rfl, rfl, h0, rest0⟩ := trodAll_cons hA
  obtain ⟨v1, vs1, d1, ds1, p1, q1, rfl, rfl, rfl, h1, rest1⟩ := trodAll_cons rest0
  obtain ⟨rfl, rfl, rfl⟩ := trodAll_nil rest1
  obtain rfl : args = #[v0, v1] := by cases args; simp_all
  obtain ⟨rfl, rfl⟩ := trodVars_none hV
  have k0 := h0
  have lt0 : ∀ x ∈ p0, x.block < W.heap.size := by obtain ⟨m, hm⟩ := k0; exact DataW.trod_lt m _ _ _ hm
  have k1 := h1
  have lt1 : ∀ x ∈ p1, x.block < W.heap.size := by obtain ⟨m, hm⟩ := k1; exact DataW.trod_lt m _ _ _ hm
  obtain ⟨t0, a0, d0, c0, e0, rfl, hp0, hx0, hm0, hn0⟩ := Op.tree_open (hval 0 25 v0 rfl rfl) h0
  obtain ⟨a1, rfl, b1⟩ := Op.int_open (hval 1 3 v1 rfl rfl) h1
  clear hA0 hval0
  refine (walk W t0 a0 d0 c0 e0 hp0 hx0 hm0 hn0 a1 b1).mono fun e W' ⟨he, bel⟩ => ?_
  subst he
  exact ⟨_, rfl, _, _, _, [], _, [], hW', trodAll_mk1 (shut_bool Try.underlying4 _), (trodAll_cons_mk (Below.trod laidOut (by kernel_rfl) (of_decide_eq_true (by kernel_rfl)) k0 bel lt0) (trodAll_cons_mk (Below.trod laidOut (by kernel_rfl) (of_decide_eq_true (by kernel_rfl)) k1 bel lt1) trodAll_mk0)), rfl, bel.frame _, fun h => by cases h⟩

theorem over : Rows.fnExactFlippedRow.holds Try.pinned (OpenSpec.ofChange Rows.fnExactFlippedSpec) :=
  OpenClaim.holds_of_wide 8 Try.f8 rfl rfl rfl rfl rfl rfl rfl ⟨rfl, rfl, rfl, rfl, rfl⟩ rfl rfl rfl rfl rfl (by kernel_rfl) Try.func8 (by kernel_rfl)
    (of_decide_eq_true (by kernel_rfl)) (by unfold Func.isWrapper; first | (rw [if_pos (by decide +kernel)]; kernel_rfl) | (rw [if_neg (by decide +kernel)]; exact ⟨rfl, rfl⟩))
    (fun os started H enc _ => lifted os started H enc)

/-- THE STATEMENT -/
theorem proved : Rows.FnExactFlippedSaid := over
#print axioms proved
end Go.Proofs.Ytmkfmolihlnafaa.fnExactFlipped
