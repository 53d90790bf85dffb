/-
  What the model draws for trees: DrawEval.
-/
import Derived.Test.YtomembbdbmjgmaaDrawG
namespace Go.Proofs.Ytomembbdbmjgmaa.Df
open Go.RowKit
open Go.Proofs.Ytomembbdbmjgmaa.Li (iv ret_bool ret_int below_none)
open Go.Proofs.Ytomembbdbmjgmaa.Ai Go.Proofs.Ytomembbdbmjgmaa.Tr Go.Proofs.Ytomembbdbmjgmaa.Tm
set_option maxRecDepth 100000
theorem fin2 {w w4 : World} {u0 u1 : Value} {t : T} {ax : Option Addr} {xs : List Int} (V0 V1 : Value) (o0 : OwnP w4 (w.heap.size + 2) u0 t.sp) (o1 : Li.Own w4 (w.heap.size + 2) u1 t.lv) (isx : Li.IsL w4 ax xs) (hax : ∀ x, ax = some x → w.heap.size + 2 ≤ x.block) (hB : Below w.heap.size w w4) :
    OwnP ((w4.setCell ⟨w.heap.size, 0, none⟩ V0).setCell ⟨w.heap.size, 1, none⟩ V1) w.heap.size u0 t.sp ∧ Li.Own ((w4.setCell ⟨w.heap.size, 0, none⟩ V0).setCell ⟨w.heap.size, 1, none⟩ V1) w.heap.size u1 t.lv ∧ Li.IsL ((w4.setCell ⟨w.heap.size, 0, none⟩ V0).setCell ⟨w.heap.size, 1, none⟩ V1) ax xs ∧ Below w.heap.size w ((w4.setCell ⟨w.heap.size, 0, none⟩ V0).setCell ⟨w.heap.size, 1, none⟩ V1) := by
  have g1 := Li.grown_set w4 w.heap.size 0 V0
  have g2 := Li.grown_set (w4.setCell ⟨w.heap.size, 0, none⟩ V0) w.heap.size 1 V1
  refine ⟨(ownP_off (ownP_off o0 g1 (by omega)) g2 (by omega)).mono (by omega), (own_off (own_off o1 g1 (by omega)) g2 (by omega)).mono (by omega), ?_, (hB.setCell (p := ⟨w.heap.size, 0, none⟩) (by simp) _).setCell (p := ⟨w.heap.size, 1, none⟩) (by simp) _⟩
  have hne : ∀ x, ax = some x → ¬ x.block = w.heap.size := fun x hx e => by have := hax x hx; omega
  have k1 := isx.keptAt g1.size (fun x hx hlt => g1.block x.block hlt (fun e => by injection e with e; exact hne x hx e))
  exact k1.keptAt g2.size (fun x hx hlt => g2.block x.block hlt (fun e => by injection e with e; exact hne x hx e))
theorem endE {w V : World} {a0 a1 ax : Option Addr} {n0 c0 n1 c1 nx cx : Nat} {Post : Ending → World → Prop} (t : Array Value) (h2 : t[2]?.getD undef = .pointer (some ⟨w.heap.size, 0, none⟩)) (h3 : t[3]?.getD undef = .slice ax nx cx)
    (e0 : V.cell? ⟨w.heap.size, 0, none⟩ = some (.slice a0 n0 c0)) (e1 : V.cell? ⟨w.heap.size, 1, none⟩ = some (.slice a1 n1 c1)) (hP : Post (.returned (.tuple #[.agg #[.slice a0 n0 c0, .slice a1 n1 c1], .slice ax nx cx])) V) :
    bodyPost Try.prog Try.f7 Post Exit.ret { tmps := t, defers := [] } V :=
  bodyPost_ret (v := .tuple #[.agg #[.slice a0 n0 c0, .slice a1 n1 c1], .slice ax nx cx]) (by simp [results, Try.results7, go_sem, h2, h3, e0, e1]) rfl hP
set_option maxHeartbeats 8000000 in
theorem drawEval_any (w : World) (a : Option Addr) (len cap : Nat) (hB : Cu.Bytes w w.heap.size a len) (hl : (len : Int) ≤ 1048576) :
    Calls Try.prog 7 #[.slice a len cap] w fun e w' => ∃ v0 v1 t ax cx, ∃ xs : List Int, e = .returned (.tuple #[.agg #[v0, v1], .slice ax xs.length cx]) ∧ (t : T).sp.length + t.lv.length ≤ 100 ∧ xs.length ≤ 6 ∧ OwnP w' w.heap.size v0 t.sp ∧ Li.Own w' w.heap.size v1 t.lv ∧ Apt v0 v1 ∧ Li.IsL w' ax xs ∧ (∀ x, ax = some x → w.heap.size ≤ x.block) ∧ Below w.heap.size w w' := by
  go_enter Try.func7, Try.ntmps7
  go_wp2_with fail
  obtain ⟨W0, hW0, hsz0, hB0, br⟩ := boxes1 w (.slice none 0 0) (.slice none 0 0) 27
  rw [hW0]
  clear hW0
  have hB := hB.keptB hB0.size (fun k hk => hB0.block k hk)
  refine (Cu.open_any _ _ _ _ hB hl).mono ?_
  rintro e w1 ⟨rfl, hg, hc⟩
  have br := br.below (Cu.grown_below hg (Nat.le_refl _) (Nat.le_refl _))
  have hBw : Below w.heap.size w w1 := hB0.trans ((Cu.grown_below hg (Nat.le_refl _) (Nat.le_refl _)).mono hB0.size)
  have hb1 := hc.lt
  clear hg hB0 hB
  rw [hsz0] at hc hb1 ⊢
  clear hsz0
  go_wp2_with fail
  refine (tree_any _ _ _ hc (by omega) (by omega)).mono ?_
  rintro e w2 ⟨v0, v1, t, rfl, hlen, o0, o1, ap, hg, hc2⟩
  have hzz := hg.size
  have br := br.keptAt hg.size (hg.block w.heap.size br.1 (fun e => by injection e with e; omega))
  have hBw := hBw.trans (Cu.grown_below hg (show w.heap.size ≤ w.heap.size + 1 by omega) (show w.heap.size ≤ w1.heap.size by omega))
  have o0 := o0.mono (base' := w.heap.size + 2) (by omega)
  have o1 := o1.mono (base' := w.heap.size + 2) (by omega)
  clear hg hc
  obtain ⟨a0, c0, rfl, _, _⟩ := o0.isp
  obtain ⟨a1, c1, rfl, _⟩ := o1.isl
  go_wp2
  have hb2 : w.heap.size + 1 < w2.heap.size := hc2.lt
  obtain ⟨W, hW, hszW, hbW, bx⟩ := boxes1 w2 (.slice a0 t.sp.length c0) (.slice a1 t.lv.length c1) 27
  rw [hW]
  have hcu := hc2.keptB hbW.size (fun k hk => hbW.block k (by omega))
  have br := br.below hbW
  have o0 := o0.below hbW
  have o1 := o1.below hbW
  have hBw := hBw.trans (hbW.mono hBw.size)
  clear hW hbW hc2
  obtain ⟨hxl, ⟨x0, x1⟩, xf0, xf1⟩ := id bx
  obtain ⟨hrl, ⟨y0, y1⟩, yf0, yf1⟩ := id br
  have hBd := hBw.trans ((below_drew W).mono hBw.size)
  have hdz : W.drew.heap.size = W.heap.size := rfl
  go_region_with (go_at_call 21; refine (feats_any _ _ _ hcu.drew (by omega) (by omega)).mono ?_; rintro e w4 ⟨ax, xs, cx, rfl, hxs, isx, hax, hg4, hc4⟩; have bx4 := (show Box2 W.drew _ _ _ from bx).keptAt hg4.size (hg4.block _ hxl (fun e => by injection e with e; omega)); have br4 := (show Box2 W.drew _ _ _ from br).keptAt hg4.size (hg4.block _ hrl (fun e => by injection e with e; omega)); have hfin := fin2 (.slice a0 t.sp.length c0) (.slice a1 t.lv.length c1) (ownP_off (show OwnP W.drew _ _ _ from o0) hg4 (by omega)) (own_off (show Li.Own W.drew _ _ _ from o1) hg4 (by omega)) isx (fun x hx => by have := hax x hx; rw [hdz] at this; omega) (hBd.trans (Cu.grown_below hg4 (show w.heap.size ≤ w.heap.size + 1 by omega) (show w.heap.size ≤ W.heap.size by omega))); obtain ⟨hxl4, ⟨z0, z1⟩, zf0, zf1⟩ := bx4; obtain ⟨hrl4, ⟨u0, u1⟩, uf0, uf1⟩ := br4; clear hg4 hc4)
  all_goals
    go_wp2
    simp only [Act.put]
    refine endE (w := w) _ rfl rfl ?_ ?_ ⟨_, _, t, ax, cx, xs, rfl, hlen, hxs, hfin.1, hfin.2.1, ap, hfin.2.2.1, fun x hx => ?_, hfin.2.2.2⟩
    · simp [go_sem, u0]
    · simp [go_sem, u1]
    · have := hax x hx
      rw [hdz] at this
      omega
end Go.Proofs.Ytomembbdbmjgmaa.Df
