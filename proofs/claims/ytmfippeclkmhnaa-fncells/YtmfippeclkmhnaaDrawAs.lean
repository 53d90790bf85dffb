/-
  What the model draws for rows and a split, rows in one leaf, rows and a tree.
-/
import Derived.Test.YtmfippeclkmhnaaDrawRp
import Derived.Test.YtmfippeclkmhnaaDrawSp
import Derived.Test.YtmfippeclkmhnaaDrawG
namespace Go.Proofs.Ytmfippeclkmhnaa.Dr
open Go.RowKit
open Go.Proofs.Ytmfippeclkmhnaa.Li (iv IsL Own)
open Go.Proofs.Ytmfippeclkmhnaa.Tm (IsP)
open Go.Proofs.Ytmfippeclkmhnaa.Se Go.Proofs.Ytmfippeclkmhnaa.Sv
set_option linter.unusedVariables false
set_option maxRecDepth 100000

theorem results_cc {fn : Func} {p q : Tmp} {ty ty2 : TypeId} (h : fn.results = #[.cell p ty, .cell q ty2]) (tmps : Array Value) (P : Program) (w : World) :
    (results fn tmps).run P w = ((asAddr (tmps.getD p undef)).run P w).andThen fun a w₁ => ((loadVar ty a).run P w₁).andThen fun v w₂ => ((asAddr (tmps.getD q undef)).run P w₂).andThen fun a w₃ => ((loadVar ty2 a).run P w₃).andThen fun u w₄ => .ok (.tuple #[v, u]) w₄ := by
  simp only [results, h]
  simp [Sem.run_bind, Result.andThen]
def Small (r : R) : Prop := r.x.length ≤ 10 ∧ r.g.length ≤ 10 ∧ r.ids.length ≤ 11 ∧ ∀ x ∈ r.x, x.length ≤ 7
theorem tot7 : ∀ xs : List (List Int), (∀ x ∈ xs, x.length ≤ 7) → tot xs ≤ 7 * xs.length
  | [], _ => by simp [tot]
  | x :: xs, h => by
    have h1 := tot7 xs (fun y hy => h y (List.mem_cons_of_mem _ hy))
    have h2 := h x List.mem_cons_self
    simp only [tot, List.length_cons]
    omega
theorem small_sz {r : R} (h : Small r) : szr r ≤ 1000 := by
  obtain ⟨h1, h2, h3, h4⟩ := h
  have := tot7 r.x h4
  unfold szr
  omega
theorem grown_set' {w w1 : World} {b p o : Nat} {v : Value} (h : w.grownBy w1 (some b)) (hp : w.heap.size ≤ p) : w.grownBy (w1.setCell ⟨p, o, none⟩ v) (some b) :=
  ⟨h.os, h.tape, h.output, by simpa [World.setCell] using h.size, fun k hk hne => (Below.heap_setCell _ _ _ _ (by simp; omega)).trans (h.block k hk hne)⟩
theorem cur_set' {w1 : World} {b p o : Nat} {K : Int} {v : Value} (h : Cu.Cur w1 b K) (hp : b < p) : Cu.Cur (w1.setCell ⟨p, o, none⟩ v) b K :=
  h.keptB (by simp [World.setCell]) (fun k hk => Below.heap_setCell _ _ _ _ (by simp; omega))
theorem DQ.und {wx : World} {n0 : Nat} {vx vg vi : Value} {cx : List Value} {xs : List (List Int)} {gs ids : List Int} (h : DQ wx n0 vx vg vi cx xs gs ids) : Und vx vg vi cx wx.heap.size :=
  ⟨fun q e => (World.ownsRow.lt h.ox q e).2, fun q e => (h.og.ge q e).2, fun q e => (h.oi.ge q e).2, fun i hi q e => ((h.nest i hi (by have := h.cl; omega)).1.ge q e).2⟩
theorem DQ.keptN {wx wy : World} {n0 u : Nat} {B : Nat → Prop} {vx vg vi : Value} {cx : List Value} {xs : List (List Int)} {gs ids : List Int} (h : DQ wx n0 vx vg vi cx xs gs ids) (hu : Und vx vg vi cx u) (hF : Fr B wx wy) (hB : ∀ q, B q → q < n0 ∨ u ≤ q) : DQ wy n0 vx vg vi cx xs gs ids := by
  obtain ⟨u0, u1, u2, u3⟩ := hu
  have hn : ∀ q, n0 ≤ q → q < u → ¬ B q := fun q h1 h2 e => by have := hB q e; omega
  exact ⟨Sw7.row_fr h.ox hF (fun q e => hn q (World.ownsRow.lt h.ox q e).1 (u0 q e)), h.cl, Sw7.row_fr h.og hF (fun q e => hn q (h.og.ge q e).1 (u1 q e)), Sw7.row_fr h.oi hF (fun q e => hn q (h.oi.ge q e).1 (u2 q e)), h.ap, h.ag, fun i hi hi' => ⟨Sw7.row_fr (h.nest i hi hi').1 hF (fun q e => hn q ((h.nest i hi hi').1.ge q e).1 (u3 i hi q e)), (h.nest i hi hi').2⟩⟩
theorem dq_set {wx : World} {n0 p o : Nat} {v vx vg vi : Value} {cx : List Value} {xs : List (List Int)} {gs ids : List Int} (h : DQ wx n0 vx vg vi cx xs gs ids) (hp : p < n0 ∨ wx.heap.size ≤ p) : DQ (wx.setCell ⟨p, o, none⟩ v) n0 vx vg vi cx xs gs ids :=
  h.fr (fr_grown (B := fun q => q = p) (Li.grown_set wx p o v) rfl) (fun q e => by subst e; exact hp)
theorem gset5 {w w3 : World} {b p : Nat} {u0 u1 u2 u3 u4 : Value} (h : w.grownBy w3 (some b)) (hp : w.heap.size ≤ p) : w.grownBy (((((w3.setCell ⟨p, 0, none⟩ u0).setCell ⟨p, 1, none⟩ u1).setCell ⟨p, 2, none⟩ u2).setCell ⟨p, 3, none⟩ u3).setCell ⟨p, 4, none⟩ u4) (some b) :=
  grown_set' (grown_set' (grown_set' (grown_set' (grown_set' h hp) hp) hp) hp) hp
theorem cset5 {w3 : World} {b p : Nat} {K : Int} {u0 u1 u2 u3 u4 : Value} (h : Cu.Cur w3 b K) (hp : b < p) : Cu.Cur (((((w3.setCell ⟨p, 0, none⟩ u0).setCell ⟨p, 1, none⟩ u1).setCell ⟨p, 2, none⟩ u2).setCell ⟨p, 3, none⟩ u3).setCell ⟨p, 4, none⟩ u4) b K :=
  cur_set' (cur_set' (cur_set' (cur_set' (cur_set' h hp) hp) hp) hp) hp
theorem set7_fr (wx : World) (p : Nat) (u0 u1 u2 u3 u4 u5 u6 : Value) : Fr (fun q => q = p ∨ q = p + 1) wx (((((((wx.setCell ⟨p, 0, none⟩ u0).setCell ⟨p, 1, none⟩ u1).setCell ⟨p, 2, none⟩ u2).setCell ⟨p, 3, none⟩ u3).setCell ⟨p, 4, none⟩ u4).setCell ⟨p + 1, 0, none⟩ u5).setCell ⟨p + 1, 1, none⟩ u6) :=
  ((set5_fr wx p u0 u1 u2 u3 u4).mono (fun k e => .inl e)).trans ((fr_grown (B := fun q => q = p ∨ q = p + 1) (Li.grown_set _ (p + 1) 0 u5) (.inr rfl)).trans (fr_grown (Li.grown_set _ (p + 1) 1 u6) (.inr rfl)))
theorem DQ.rd' {wx : World} {n0 c0 c1 c2 : Nat} {a0 a1 a2 : Option Addr} {cx : List Value} {xs : List (List Int)} {gs ids : List Int} (h : DQ wx n0 (.slice a0 xs.length c0) (.slice a1 gs.length c1) (.slice a2 ids.length c2) cx xs gs ids) (lv l2 : Int) : Rd wx a0 a1 a2 ⟨xs, gs, ids, lv, l2⟩ := by
  obtain ⟨_, _, _, _, _, _, e0, e1, e2, h⟩ := h.rd lv l2
  cases e0; cases e1; cases e2
  exact h
theorem isp_v {w : World} {base c : Nat} {a : Option Addr} {ps : List (Int × Int)} (h : Tm.OwnP w base (.slice a ps.length c) ps) : IsP w a ps := by
  obtain ⟨_, _, e, _, h⟩ := h.isp
  cases e
  exact h
theorem isl_v {w : World} {base c : Nat} {a : Option Addr} {ps : List Int} (h : Own w base (.slice a ps.length c) ps) : IsL w a ps := by
  obtain ⟨_, _, e, h⟩ := h.isl
  cases e
  exact h
set_option maxHeartbeats 8000000 in
theorem roots_any (w : World) (b : Nat) (K : Int) (hc : Cu.Cur w b K) (hK : K ≤ 100000000000) :
    Calls Try.prog 32 #[.pointer (some ⟨b, 0, none⟩)] w fun e w' => RowsPost w b (K + 1) e w' := by
  have hbw := hc.lt
  go_enter Try.func32, Try.ntmps32
  go_wp2_with fail
  obtain ⟨W, hW, hsz, hBW, br⟩ := new1 w [.slice none 0 0, .slice none 0 0, .slice none 0 0, .int .i64 0, .int .i64 0] 27
  rw [hW]
  have hcW : Cu.Cur W b K := hc.keptB hBW.size (fun k hk => hBW.block k (by omega))
  have hgW : w.grownBy W (some b) := ⟨hBW.os, hBW.tape, hBW.output, hBW.size, fun k hk _ => hBW.block k hk⟩
  clear hW hBW hc
  refine (rows_any W b K hcW (by omega)).mono ?_
  rintro e w1 ⟨vx, vg, vi, cx, lv, l2, xs, gs, ids, rfl, h1, h2, h3, h4, hq, hg1, hc1⟩
  have HS : Hid (xs.length ≤ 10 ∧ gs.length ≤ 10 ∧ ids.length ≤ 11 ∧ ∀ x ∈ xs, x.length ≤ 7) := ⟨h1, h2, h3, h4⟩
  obtain ⟨a0, c0, a1, c1, a2, c2, rfl, rfl, rfl, -⟩ := hq.rd 0 0
  have br := br.keptAt hg1.size (hg1.block w.heap.size br.1 (fun e => by cases e; omega))
  have hgw := Cu.grown_trans hgW hg1
  rw [hsz] at hq
  have hs1 := hg1.size
  clear hgW hcW hg1 h1 h2 h3 h4
  go_wp2_with fail
  obtain ⟨W2, hW2, hsz2, hB2, bx⟩ := new1 w1 [.slice a0 xs.length c0, .slice a1 gs.length c1, .slice a2 ids.length c2, .int .i64 lv, .int .i64 l2] 27
  rw [hW2]
  obtain ⟨bo, hbo⟩ : ∃ n, w1.heap.size = n := ⟨_, rfl⟩
  have hbo1 : w.heap.size < bo := by omega
  have hcu : Cu.Cur W2 b (K + 1000) := hc1.keptB hB2.size (fun k hk => hB2.block k (by omega))
  have hgw2 : w.grownBy W2 (some b) := Ai.grown_of_below hgw hB2
  have hq2 : DQ W2 (w.heap.size + 1) _ _ _ cx xs gs ids := hq.below hB2
  have br2 := br.below hB2
  rw [hbo] at bx ⊢
  have hqu := hq.und
  rw [hbo] at hqu
  have HU : Hid (type_of% hqu) := hqu
  clear hW2 hB2 hc1 hgw hq br hsz2 hsz hbo hs1 hqu
  refine (Cu.pick_any _ _ _ hcu (by omega) _ (by omega)).mono ?_
  rintro e w3 ⟨x, rfl, x0, x1, hg3, hz3, hc3⟩
  have bx := bx.keptAt hg3.size (hg3.block bo bx.1 (fun e => by cases e; omega))
  have br := br2.keptAt hg3.size (hg3.block w.heap.size br2.1 (fun e => by cases e; omega))
  have hgw := Cu.grown_trans hgw2 hg3
  have hq : DQ w3 (w.heap.size + 1) _ _ _ cx xs gs ids := hq2.fr (fr_grown (B := fun q => q = b) hg3 rfl) (fun q e => by omega)
  clear hg3 hcu hgw2 hq2 br2 hz3 x1
  by_cases hx : 0 < x
  rotate_left
  · obtain ⟨hbl, ⟨q0, q1, q2, q3, q4⟩, _⟩ := wr5 bx
    obtain ⟨hrl, ⟨r0, r1, r2, r3, r4⟩, f0, f1, f2, f3, f4⟩ := wr5 br
    have hne : ¬ bo = w.heap.size := by omega
    have hne2 : ¬ w.heap.size = bo := by omega
    have HP : Hid (∀ u0 u1 u2 u3 u4 : Value, RowsPost w b (K + 1) (.returned (.agg #[.slice a0 xs.length c0, .slice a1 gs.length c1, .slice a2 ids.length c2, .int .i64 lv, .int .i64 l2])) (((((w3.setCell ⟨w.heap.size, 0, none⟩ u0).setCell ⟨w.heap.size, 1, none⟩ u1).setCell ⟨w.heap.size, 2, none⟩ u2).setCell ⟨w.heap.size, 3, none⟩ u3).setCell ⟨w.heap.size, 4, none⟩ u4)) := fun u0 u1 u2 u3 u4 =>
      ⟨_, _, _, cx, _, _, xs, gs, ids, rfl, HS.out.1, HS.out.2.1, HS.out.2.2.1, HS.out.2.2.2, (hq.fr (set5_fr w3 w.heap.size u0 u1 u2 u3 u4) (fun q e => by omega)).mono (by omega), gset5 hgw (Nat.le_refl _), (cset5 hc3 hbw).mono (by omega)⟩
    clear hq hgw hc3 bx br
    go_wp2
    refine bodyPost_ret (v := .agg #[.slice a0 xs.length c0, .slice a1 gs.length c1, .slice a2 ids.length c2, .int .i64 lv, .int .i64 l2]) (by rw [Tm.results_cell rfl]; go_simp) rfl (HP.out _ _ _ _ _)
  · obtain ⟨hbl, ⟨q0, q1, q2, q3, q4⟩, g0, g1, g2, g3, g4⟩ := wr5 bx
    have hx' : 0 < x := hx
    go_wp2_with fail
    have HBX : Hid (Wr (w3.setCell ⟨bo, 3, none⟩ (.int .i64 1)) bo 0 [.slice a0 xs.length c0, .slice a1 gs.length c1, .slice a2 ids.length c2, .int .i64 1, .int .i64 l2]) := by
      show Wr _ _ _ _
      have := bx.set 3 (by simp) (.int .i64 1)
      simpa using this
    have HBR : Hid (Wr (w3.setCell ⟨bo, 3, none⟩ (.int .i64 1)) w.heap.size 0 [.slice none 0 0, .slice none 0 0, .slice none 0 0, .int .i64 0, .int .i64 0]) := br.setOther (by omega)
    have HQ : Hid (DQ (w3.setCell ⟨bo, 3, none⟩ (.int .i64 1)) (w.heap.size + 1) _ _ _ cx xs gs ids) := hq.keptN HU.out (fr_grown (B := fun q => q = bo) (Li.grown_set w3 bo 3 (.int .i64 1)) rfl) (fun q e => by omega)
    have HG : Hid (w.grownBy (w3.setCell ⟨bo, 3, none⟩ (.int .i64 1)) (some b)) := grown_set' hgw (by omega)
    have HC : Hid (Cu.Cur (w3.setCell ⟨bo, 3, none⟩ (.int .i64 1)) b (K + 1001)) := (cur_set' hc3 (by omega)).mono (by omega)
    clear q0 q1 q2 q3 q4 g0 g1 g2 g3 g4 bx br hq hgw hc3 hbl hx hx'
    obtain ⟨W4, hW4⟩ : ∃ W, w3.setCell ⟨bo, 3, none⟩ (.int .i64 1) = W := ⟨_, rfl⟩
    rw [hW4] at HBX HBR HQ HG HC ⊢
    clear hW4
    obtain ⟨n, hn⟩ : ∃ n, ids.length = n := ⟨_, rfl⟩
    have hn11 : n ≤ 11 := by rw [← hn]; exact HS.out.2.2.1
    have HN : Hid (ids.length = n) := hn
    rw [hn] at HBX HQ HU
    clear hn
    go_loopw [4] (fun i wr => ∃ k : Nat, k ≤ n ∧ i = .int .i64 k ∧ ∃ jds : List Int, jds.length = n ∧ DQ wr (w.heap.size + 1) (.slice a0 xs.length c0) (.slice a1 gs.length c1) (.slice a2 n c2) cx xs gs jds ∧ Wr wr bo 0 [.slice a0 xs.length c0, .slice a1 gs.length c1, .slice a2 n c2, .int .i64 1, .int .i64 l2] ∧ Wr wr w.heap.size 0 [.slice none 0 0, .slice none 0 0, .slice none 0 0, .int .i64 0, .int .i64 0] ∧ w.grownBy wr (some b) ∧ Cu.Cur wr b (K + 1001)) (fun i _ => n - (intOf i).toNat)
    case atStart => exact ⟨0, Nat.zero_le _, rfl, ids, HN.out, HQ.out, HBX.out, HBR.out, HG.out, HC.out⟩
    case round =>
      obtain ⟨k, hk, rfl, jds, hj, hq, bx, br, hg, hcu⟩ := hrel
      have HJ : Hid (jds.length = n) := hj
      clear hj HBX HBR HQ HG HC
      obtain ⟨hbl, ⟨q0, q1, q2, q3, q4⟩, g0, g1, g2, g3, g4⟩ := wr5 bx
      by_cases hlt : k < n
      · rcases hq.oi.2 with ⟨e1, h0⟩ | ⟨g, cap, cur, e1, _, _, _⟩
        · exfalso; rw [HJ.out] at h0; omega
        injection e1 with j1 j2 j3
        subst j1 j3
        clear j2
        have hu2 := HU.out.2.2.1 g rfl
        have hge := (hq.oi.ge g rfl)
        have hgc : wr.cell? ⟨g, k, none⟩ = some (.int .i64 (jds[k]'(by rw [HJ.out]; exact hlt))) := hq.oi.cell HJ.out k (by rw [HJ.out]; exact hlt)
        have hgf : wr.frozen? ⟨g, k, none⟩ = false := hq.oi.frozen HJ.out k
        have HQ : Hid (type_of% (hq.setI HJ.out k 0)) := hq.setI HJ.out k 0
        have hgb : ¬ bo = g := by omega
        have HB : Hid (type_of% (bx.setOther (b := g) (o := k) (v := .int .i64 0) hgb)) := bx.setOther hgb
        have HR : Hid (Wr (wr.setCell ⟨g, k, none⟩ (.int .i64 0)) w.heap.size 0 [.slice none 0 0, .slice none 0 0, .slice none 0 0, .int .i64 0, .int .i64 0]) := br.setOther (by omega)
        have HG : Hid (w.grownBy (wr.setCell ⟨g, k, none⟩ (.int .i64 0)) (some b)) := grown_set' hg (by omega)
        have HC : Hid (Cu.Cur (wr.setCell ⟨g, k, none⟩ (.int .i64 0)) b (K + 1001)) := cur_set' hcu (by omega)
        have hlti : (k : Int) < n := by omega
        have hgl := hge.2
        clear hq bx br hg hcu hge hu2
        go_wp2
        go_roundw
        case rel => exact ⟨k + 1, by omega, by go_num, jds.set k 0, by rw [List.length_set]; exact HJ.out, HQ.out, HB.out, HR.out, HG.out, HC.out⟩
        case measure => simp [intOf]; omega
      · obtain rfl : k = n := by omega
        have hlti : ¬ (k : Int) < k := by omega
        obtain ⟨hrl, ⟨r0, r1, r2, r3, r4⟩, f0, f1, f2, f3, f4⟩ := wr5 br
        have hne : ¬ bo = w.heap.size := by omega
        have hne2 : ¬ w.heap.size = bo := by omega
        have HP : Hid (∀ u0 u1 u2 u3 u4 : Value, RowsPost w b (K + 1) (.returned (.agg #[.slice a0 xs.length c0, .slice a1 gs.length c1, .slice a2 k c2, .int .i64 1, .int .i64 l2])) (((((wr.setCell ⟨w.heap.size, 0, none⟩ u0).setCell ⟨w.heap.size, 1, none⟩ u1).setCell ⟨w.heap.size, 2, none⟩ u2).setCell ⟨w.heap.size, 3, none⟩ u3).setCell ⟨w.heap.size, 4, none⟩ u4)) := fun u0 u1 u2 u3 u4 =>
          ⟨_, _, _, cx, _, _, xs, gs, jds, rfl, HS.out.1, HS.out.2.1, by rw [HJ.out]; omega, HS.out.2.2.2, (hq.fr (set5_fr wr w.heap.size u0 u1 u2 u3 u4) (fun q e => by omega)).mono (by omega), gset5 hg (Nat.le_refl _), (cset5 hcu hbw).mono (by omega)⟩
        clear hq hg hcu bx br
        go_wp2
        refine bodyPost_ret (v := .agg #[.slice a0 xs.length c0, .slice a1 gs.length c1, .slice a2 k c2, .int .i64 1, .int .i64 l2]) (by rw [Tm.results_cell rfl]; go_simp) rfl (HP.out _ _ _ _ _)
set_option maxHeartbeats 8000000 in
theorem drawAsked_any (w : World) (a : Option Addr) (len cap : Nat) (hB : Cu.Bytes w w.heap.size a len) (hl : (len : Int) ≤ 1048576) :
    Calls Try.prog 6 #[.slice a len cap] w fun e w' => ∃ a0 c0 a1 c1 a2 c2 r, ∃ (p q : Int), e = .returned (.tuple #[.agg #[.slice a0 r.x.length c0, .slice a1 r.g.length c1, .slice a2 r.ids.length c2, .int .i64 r.lv, .int .i64 r.l2], .agg #[.int .i64 p, .int .i64 q]]) ∧ Small r ∧ Rd w' a0 a1 a2 r ∧ Below w.heap.size w w' := by
  go_enter Try.func6, Try.ntmps6
  go_wp2_with fail
  obtain ⟨W, hW, hsz, hBW, br, bs⟩ := new2 w [.slice none 0 0, .slice none 0 0, .slice none 0 0, .int .i64 0, .int .i64 0] [.int .i64 0, .int .i64 0] 27 29
  rw [hW]
  have hB := hB.keptB hBW.size (fun k hk => hBW.block k hk)
  refine (Cu.open_any _ _ _ _ hB hl).mono ?_
  rintro e w1 ⟨rfl, hg, hc⟩
  have br := br.keptAt hg.size (hg.block _ br.1 (fun e => by injection e with e; omega))
  have bs := bs.keptAt hg.size (hg.block _ bs.1 (fun e => by injection e with e; omega))
  have hBw : Below w.heap.size w w1 := hBW.trans ((Cu.grown_below hg (Nat.le_refl _) (Nat.le_refl _)).mono hBW.size)
  clear hg hBW hB hW
  rw [hsz] at hc ⊢
  clear hsz
  obtain ⟨b, hb⟩ : ∃ b, w.heap.size + 2 = b := ⟨_, rfl⟩
  rw [hb] at hc ⊢
  have hb1 := hc.lt
  go_wp2_with fail
  refine (rows_any w1 b 0 hc (by omega)).mono ?_
  rintro e w2 ⟨vx, vg, vi, cx, lv, l2, xs, gs, ids, rfl, h1, h2, h3, h4, hq, hg, hc2⟩
  have HS : Hid (Small ⟨xs, gs, ids, lv, l2⟩) := ⟨h1, h2, h3, h4⟩
  obtain ⟨a0, c0, a1, c1, a2, c2, rfl, rfl, rfl, -⟩ := hq.rd lv l2
  have br := br.keptAt hg.size (hg.block _ br.1 (fun e => by injection e with e; omega))
  have bs := bs.keptAt hg.size (hg.block _ bs.1 (fun e => by injection e with e; omega))
  have hBw := hBw.trans (Cu.grown_below hg (show w.heap.size ≤ b by omega) (show w.heap.size ≤ w1.heap.size by omega))
  have hs2 := hg.size
  clear hg hc h1 h2 h3 h4
  go_wp2_with fail
  obtain ⟨W3, hW3, hsz3, hB3, bx⟩ := new1 w2 [.slice a0 xs.length c0, .slice a1 gs.length c1, .slice a2 ids.length c2, .int .i64 lv, .int .i64 l2] 27
  rw [hW3]
  have HR : Hid (type_of% (hq.below hB3)) := hq.below hB3
  have HC : Hid (Cu.Cur W3 b 2000) := (hc2.keptB hB3.size (fun k hk => hB3.block k (by omega))).mono (by omega)
  have HBR : Hid (type_of% (br.below hB3)) := br.below hB3
  have HBS : Hid (type_of% (bs.below hB3)) := bs.below hB3
  have HBW : Hid (type_of% (hBw.trans (hB3.mono hBw.size))) := hBw.trans (hB3.mono hBw.size)
  obtain ⟨bo, hbo⟩ : ∃ n, w2.heap.size = n := ⟨_, rfl⟩
  rw [hbo] at bx ⊢
  have hbo1 : b < bo := by omega
  have HBX : Hid (type_of% bx) := bx
  obtain ⟨hbl, ⟨s0, s1, s2, s3, s4⟩, _⟩ := wr5 bx
  have hs3 : bo < W3.heap.size := hbl
  clear hW3 hsz3 hB3 hq hc2 br bs hBw bx hbo hbl hs2
  have S0 : (fun X : World => X.cell? ⟨bo, 0, none⟩ = some (.slice a0 xs.length c0) ∧ X.cell? ⟨bo, 1, none⟩ = some (.slice a1 gs.length c1) ∧ X.cell? ⟨bo, 2, none⟩ = some (.slice a2 ids.length c2) ∧ X.cell? ⟨bo, 3, none⟩ = some (.int .i64 lv) ∧ X.cell? ⟨bo, 4, none⟩ = some (.int .i64 l2)) W3.drew := ⟨s0, s1, s2, s3, s4⟩
  have C0 : Hid (Cu.Cur W3.drew b 2000) := HC.out.drew
  have X0 : Hid (type_of% (show Wr W3.drew bo 0 _ from HBX.out)) := HBX.out
  have R0 : Hid (type_of% (show Wr W3.drew w.heap.size 0 _ from HBR.out)) := HBR.out
  have T0 : Hid (type_of% (show Wr W3.drew (w.heap.size + 1) 0 _ from HBS.out)) := HBS.out
  have D0 : Hid (DQ W3.drew w1.heap.size (.slice a0 xs.length c0) (.slice a1 gs.length c1) (.slice a2 ids.length c2) cx xs gs ids) := ⟨HR.out.ox, HR.out.cl, HR.out.og, HR.out.oi, HR.out.ap, HR.out.ag, HR.out.nest⟩
  have B0 : Hid (Below w.heap.size w W3.drew) := HBW.out.trans ((Tm.below_drew W3).mono HBW.out.size)
  have hs0 : bo < W3.drew.heap.size := hs3
  clear HC HBX HBR HBS HR HBW s0 s1 s2 s3 s4 hs3
  refine Hd.start (fun X => X.cell? ⟨bo, 0, none⟩ = some (.slice a0 xs.length c0) ∧ X.cell? ⟨bo, 1, none⟩ = some (.slice a1 gs.length c1) ∧ X.cell? ⟨bo, 2, none⟩ = some (.slice a2 ids.length c2) ∧ X.cell? ⟨bo, 3, none⟩ = some (.int .i64 lv) ∧ X.cell? ⟨bo, 4, none⟩ = some (.int .i64 l2)) 4 (by kernel_rfl) ?_
  generalize W3.drew = w0 at S0 C0 X0 R0 T0 D0 B0 hs0 ⊢
  refine Hd.After.takeD (i := 0) (some 10) (.agg #[.slice a0 xs.length c0, .slice a1 gs.length c1, .slice a2 ids.length c2, .int .i64 lv, .int .i64 l2]) rfl rfl (by kernel_rfl) (by kernel_rfl) (by kernel_rfl) (by kernel_rfl) (by kernel_rfl) (fun _ _ _ h => h) (S0) (Or.inl ⟨by rfl, ?_⟩) ?_
  · rintro X ⟨s0, s1, s2, s3, s4⟩; go_simp; try with_reducible rfl
  (first | simp only [Act.put, List.setIfInBounds_toArray, List.set_cons_zero, List.set_cons_succ] | skip)
  refine Hd.After.pureD (i := 1) (some 11) (.pointer (some ⟨b, 0, none⟩)) rfl rfl (by kernel_rfl) (by decide) (by kernel_rfl) (by kernel_rfl) (fun _ _ _ h => h) (S0) (Or.inl ⟨by rfl, ?_⟩) ?_
  · intro X; go_simp; try with_reducible rfl
  (first | simp only [Act.put, List.setIfInBounds_toArray, List.set_cons_zero, List.set_cons_succ] | skip)
  refine Hd.After.one (i := 2) (by kernel_rfl) rfl rfl ?_
  intro K hK
  go_simp
  go_wp2_with (go_at_call 21; refine (Dsp.split_any _ _ _ C0.out (by omega)).mono ?_; rintro e w6 ⟨p, q, rfl, hg6, hc6⟩)
  have hz6 := hg6.size
  replace X0 := X0.out.keptAt hg6.size (hg6.block _ X0.out.1 (fun e => by injection e with e; omega))
  replace R0 := R0.out.keptAt hg6.size (hg6.block _ R0.out.1 (fun e => by injection e with e; omega))
  replace T0 := T0.out.keptAt hg6.size (hg6.block _ T0.out.1 (fun e => by injection e with e; omega))
  obtain ⟨hx6, ⟨s0, s1, s2, s3, s4⟩, _⟩ := wr5 X0
  obtain ⟨hr6, ⟨r0, r1, r2, r3, r4⟩, f0, f1, f2, f3, f4⟩ := wr5 R0
  obtain ⟨ht6, ⟨t0, t1⟩, f5, f6⟩ := wr2 T0
  have hB6 := B0.out.trans (Cu.grown_below hg6 (show w.heap.size ≤ b by omega) (show w.heap.size ≤ w0.heap.size by omega))
  have D6 := D0.out.fr (fr_grown (B := fun q => q = b) hg6 rfl) (fun q e => by omega)
  refine hK _ _ (fun _ => ⟨s0, s1, s2, s3, s4⟩) ?_
  clear hK K
  (first | simp only [Act.put, List.setIfInBounds_toArray, List.set_cons_zero, List.set_cons_succ] | skip)
  have hne : ¬ bo = w.heap.size := by omega
  have hne2 : ¬ w.heap.size = bo := by omega
  have hn3 : ¬ w.heap.size + 1 = w.heap.size := by omega
  have hn4 : ¬ w.heap.size = w.heap.size + 1 := by omega
  have hn5 : ¬ bo = w.heap.size + 1 := by omega
  refine Hd.After.one (i := 3) (by kernel_rfl) rfl rfl ?_
  intro K hK
  go_simp
  refine hK _ _ (fun _ => ⟨by go_simp, by go_simp, by go_simp, by go_simp, by go_simp⟩) ?_
  clear hK K
  (first | simp only [Act.put, List.setIfInBounds_toArray, List.set_cons_zero, List.set_cons_succ] | skip)
  refine Hd.After.one (i := 4) (by kernel_rfl) rfl rfl ?_
  intro K hK
  go_simp
  refine hK _ _ (fun h => by cases h) ?_
  clear hK K
  refine Hd.After.done (by kernel_rfl) ?_ _
  go_wp2
  refine bodyPost_ret (v := .tuple #[.agg #[.slice a0 xs.length c0, .slice a1 gs.length c1, .slice a2 ids.length c2, .int .i64 lv, .int .i64 l2], .agg #[.int .i64 p, .int .i64 q]]) (by rw [results_cc rfl]; go_simp) rfl ⟨a0, c0, a1, c1, a2, c2, ⟨xs, gs, ids, lv, l2⟩, p, q, rfl, HS.out, ?_, ?_⟩
  · exact (D6.fr (set7_fr _ _ _ _ _ _ _ _ _) (fun q e => by omega)).rd' lv l2
  · exact ((((((hB6.setCell (by exact Nat.le_refl _) _).setCell (by exact Nat.le_refl _) _).setCell (by exact Nat.le_refl _) _).setCell (by exact Nat.le_refl _) _).setCell (by exact Nat.le_refl _) _).setCell (by exact Nat.le_succ _) _).setCell (by exact Nat.le_succ _) _
set_option maxHeartbeats 8000000 in
theorem drawRouted_any (w : World) (a : Option Addr) (len cap : Nat) (hB : Cu.Bytes w w.heap.size a len) (hl : (len : Int) ≤ 1048576) :
    Calls Try.prog 13 #[.slice a len cap] w fun e w' => ∃ a0 c0 a1 c1 a2 c2 r, ∃ (d0 d1 : Option Addr) (e0 e1 : Nat) (t : Tr.T), e = .returned (.tuple #[.agg #[.slice a0 r.x.length c0, .slice a1 r.g.length c1, .slice a2 r.ids.length c2, .int .i64 r.lv, .int .i64 r.l2], .agg #[.slice d0 t.sp.length e0, .slice d1 t.lv.length e1]]) ∧ Small r ∧ t.sp.length + t.lv.length ≤ 100 ∧ IsP w' d0 t.sp ∧ IsL w' d1 t.lv ∧ Rd w' a0 a1 a2 r ∧ Below w.heap.size w w' := by
  go_enter Try.func13, Try.ntmps13
  go_wp2_with fail
  obtain ⟨W, hW, hsz, hBW, br, bs⟩ := new2 w [.slice none 0 0, .slice none 0 0, .slice none 0 0, .int .i64 0, .int .i64 0] [.slice none 0 0, .slice none 0 0] 27 42
  rw [hW]
  have hB := hB.keptB hBW.size (fun k hk => hBW.block k hk)
  refine (Cu.open_any _ _ _ _ hB hl).mono ?_
  rintro e w1 ⟨rfl, hg, hc⟩
  have br := br.keptAt hg.size (hg.block _ br.1 (fun e => by injection e with e; omega))
  have bs := bs.keptAt hg.size (hg.block _ bs.1 (fun e => by injection e with e; omega))
  have hBw : Below w.heap.size w w1 := hBW.trans ((Cu.grown_below hg (Nat.le_refl _) (Nat.le_refl _)).mono hBW.size)
  clear hg hBW hB hW
  rw [hsz] at hc ⊢
  clear hsz
  obtain ⟨b, hb⟩ : ∃ b, w.heap.size + 2 = b := ⟨_, rfl⟩
  rw [hb] at hc ⊢
  have hb1 := hc.lt
  go_wp2_with fail
  refine (roots_any w1 b 0 hc (by omega)).mono ?_
  rintro e w2 ⟨vx, vg, vi, cx, lv, l2, xs, gs, ids, rfl, h1, h2, h3, h4, hq, hg, hc2⟩
  have HS : Hid (Small ⟨xs, gs, ids, lv, l2⟩) := ⟨h1, h2, h3, h4⟩
  obtain ⟨a0, c0, a1, c1, a2, c2, rfl, rfl, rfl, -⟩ := hq.rd lv l2
  have br := br.keptAt hg.size (hg.block _ br.1 (fun e => by injection e with e; omega))
  have bs := bs.keptAt hg.size (hg.block _ bs.1 (fun e => by injection e with e; omega))
  have hBw := hBw.trans (Cu.grown_below hg (show w.heap.size ≤ b by omega) (show w.heap.size ≤ w1.heap.size by omega))
  have hs2 := hg.size
  clear hg hc h1 h2 h3 h4
  go_wp2_with fail
  obtain ⟨W3, hW3, hsz3, hB3, bx⟩ := new1 w2 [.slice a0 xs.length c0, .slice a1 gs.length c1, .slice a2 ids.length c2, .int .i64 lv, .int .i64 l2] 27
  rw [hW3]
  have HR : Hid (type_of% (hq.below hB3)) := hq.below hB3
  have HC : Hid (Cu.Cur W3 b 2000) := (hc2.keptB hB3.size (fun k hk => hB3.block k (by omega))).mono (by omega)
  have HBR : Hid (type_of% (br.below hB3)) := br.below hB3
  have HBS : Hid (type_of% (bs.below hB3)) := bs.below hB3
  have HBW : Hid (type_of% (hBw.trans (hB3.mono hBw.size))) := hBw.trans (hB3.mono hBw.size)
  obtain ⟨bo, hbo⟩ : ∃ n, w2.heap.size = n := ⟨_, rfl⟩
  rw [hbo] at bx ⊢
  have hbo1 : b < bo := by omega
  have HBX : Hid (type_of% bx) := bx
  obtain ⟨hbl, ⟨s0, s1, s2, s3, s4⟩, _⟩ := wr5 bx
  have hs3 : bo < W3.heap.size := hbl
  clear hW3 hsz3 hB3 hq hc2 br bs hBw bx hbo hbl hs2
  have S0 : (fun X : World => X.cell? ⟨bo, 0, none⟩ = some (.slice a0 xs.length c0) ∧ X.cell? ⟨bo, 1, none⟩ = some (.slice a1 gs.length c1) ∧ X.cell? ⟨bo, 2, none⟩ = some (.slice a2 ids.length c2) ∧ X.cell? ⟨bo, 3, none⟩ = some (.int .i64 lv) ∧ X.cell? ⟨bo, 4, none⟩ = some (.int .i64 l2)) W3.drew := ⟨s0, s1, s2, s3, s4⟩
  have C0 : Hid (Cu.Cur W3.drew b 2000) := HC.out.drew
  have X0 : Hid (type_of% (show Wr W3.drew bo 0 _ from HBX.out)) := HBX.out
  have R0 : Hid (type_of% (show Wr W3.drew w.heap.size 0 _ from HBR.out)) := HBR.out
  have T0 : Hid (type_of% (show Wr W3.drew (w.heap.size + 1) 0 _ from HBS.out)) := HBS.out
  have D0 : Hid (DQ W3.drew w1.heap.size (.slice a0 xs.length c0) (.slice a1 gs.length c1) (.slice a2 ids.length c2) cx xs gs ids) := ⟨HR.out.ox, HR.out.cl, HR.out.og, HR.out.oi, HR.out.ap, HR.out.ag, HR.out.nest⟩
  have B0 : Hid (Below w.heap.size w W3.drew) := HBW.out.trans ((Tm.below_drew W3).mono HBW.out.size)
  have hs0 : bo < W3.drew.heap.size := hs3
  clear HC HBX HBR HBS HR HBW s0 s1 s2 s3 s4 hs3
  refine Hd.start (fun X => X.cell? ⟨bo, 0, none⟩ = some (.slice a0 xs.length c0) ∧ X.cell? ⟨bo, 1, none⟩ = some (.slice a1 gs.length c1) ∧ X.cell? ⟨bo, 2, none⟩ = some (.slice a2 ids.length c2) ∧ X.cell? ⟨bo, 3, none⟩ = some (.int .i64 lv) ∧ X.cell? ⟨bo, 4, none⟩ = some (.int .i64 l2)) 4 (by kernel_rfl) ?_
  generalize W3.drew = w0 at S0 C0 X0 R0 T0 D0 B0 hs0 ⊢
  refine Hd.After.takeD (i := 0) (some 10) (.agg #[.slice a0 xs.length c0, .slice a1 gs.length c1, .slice a2 ids.length c2, .int .i64 lv, .int .i64 l2]) rfl rfl (by kernel_rfl) (by kernel_rfl) (by kernel_rfl) (by kernel_rfl) (by kernel_rfl) (fun _ _ _ h => h) (S0) (Or.inl ⟨by rfl, ?_⟩) ?_
  · rintro X ⟨s0, s1, s2, s3, s4⟩; go_simp; try with_reducible rfl
  (first | simp only [Act.put, List.setIfInBounds_toArray, List.set_cons_zero, List.set_cons_succ] | skip)
  refine Hd.After.pureD (i := 1) (some 11) (.pointer (some ⟨b, 0, none⟩)) rfl rfl (by kernel_rfl) (by decide) (by kernel_rfl) (by kernel_rfl) (fun _ _ _ h => h) (S0) (Or.inl ⟨by rfl, ?_⟩) ?_
  · intro X; go_simp; try with_reducible rfl
  (first | simp only [Act.put, List.setIfInBounds_toArray, List.set_cons_zero, List.set_cons_succ] | skip)
  refine Hd.After.one (i := 2) (by kernel_rfl) rfl rfl ?_
  intro K hK
  go_simp
  go_wp2_with (go_at_call 33; refine (Df.tree_any _ _ _ C0.out (by omega) (by omega)).mono ?_; rintro e w6 ⟨v0, v1, t, rfl, hlen, o0, o1, ap, hg6, hc6⟩)
  obtain ⟨d0, e0, rfl, _, i0⟩ := o0.isp
  obtain ⟨d1, e1, rfl, i1⟩ := o1.isl
  have hz6 := hg6.size
  replace X0 := X0.out.keptAt hg6.size (hg6.block _ X0.out.1 (fun e => by injection e with e; omega))
  replace R0 := R0.out.keptAt hg6.size (hg6.block _ R0.out.1 (fun e => by injection e with e; omega))
  replace T0 := T0.out.keptAt hg6.size (hg6.block _ T0.out.1 (fun e => by injection e with e; omega))
  obtain ⟨hx6, ⟨s0, s1, s2, s3, s4⟩, _⟩ := wr5 X0
  obtain ⟨hr6, ⟨r0, r1, r2, r3, r4⟩, f0, f1, f2, f3, f4⟩ := wr5 R0
  obtain ⟨ht6, ⟨t0, t1⟩, f5, f6⟩ := wr2 T0
  have hB6 := B0.out.trans (Cu.grown_below hg6 (show w.heap.size ≤ b by omega) (show w.heap.size ≤ w0.heap.size by omega))
  have D6 := D0.out.fr (fr_grown (B := fun q => q = b) hg6 rfl) (fun q e => by omega)
  refine hK _ _ (fun _ => ⟨s0, s1, s2, s3, s4⟩) ?_
  clear hK K
  (first | simp only [Act.put, List.setIfInBounds_toArray, List.set_cons_zero, List.set_cons_succ] | skip)
  have hne : ¬ bo = w.heap.size := by omega
  have hne2 : ¬ w.heap.size = bo := by omega
  have hn3 : ¬ w.heap.size + 1 = w.heap.size := by omega
  have hn4 : ¬ w.heap.size = w.heap.size + 1 := by omega
  have hn5 : ¬ bo = w.heap.size + 1 := by omega
  refine Hd.After.one (i := 3) (by kernel_rfl) rfl rfl ?_
  intro K hK
  go_simp
  refine hK _ _ (fun _ => ⟨by go_simp, by go_simp, by go_simp, by go_simp, by go_simp⟩) ?_
  clear hK K
  (first | simp only [Act.put, List.setIfInBounds_toArray, List.set_cons_zero, List.set_cons_succ] | skip)
  refine Hd.After.one (i := 4) (by kernel_rfl) rfl rfl ?_
  intro K hK
  go_simp
  refine hK _ _ (fun h => by cases h) ?_
  clear hK K
  refine Hd.After.done (by kernel_rfl) ?_ _
  go_wp2
  refine bodyPost_ret (v := .tuple #[.agg #[.slice a0 xs.length c0, .slice a1 gs.length c1, .slice a2 ids.length c2, .int .i64 lv, .int .i64 l2], .agg #[.slice d0 t.sp.length e0, .slice d1 t.lv.length e1]]) (by rw [results_cc rfl]; go_simp) rfl ⟨a0, c0, a1, c1, a2, c2, ⟨xs, gs, ids, lv, l2⟩, d0, d1, e0, e1, t, rfl, HS.out, hlen, ?_, ?_, ?_, ?_⟩
  · exact isp_v (Sw7.row_fr o0 (set7_fr _ _ _ _ _ _ _ _ _) (fun q e => by have := (o0.ge q e).1; omega))
  · exact isl_v (Sw7.row_fr o1 (set7_fr _ _ _ _ _ _ _ _ _) (fun q e => by have := (o1.ge q e).1; omega))
  · exact (D6.fr (set7_fr _ _ _ _ _ _ _ _ _) (fun q e => by omega)).rd' lv l2
  · exact ((((((hB6.setCell (by exact Nat.le_refl _) _).setCell (by exact Nat.le_refl _) _).setCell (by exact Nat.le_refl _) _).setCell (by exact Nat.le_refl _) _).setCell (by exact Nat.le_refl _) _).setCell (by exact Nat.le_succ _) _).setCell (by exact Nat.le_succ _) _
end Go.Proofs.Ytmfippeclkmhnaa.Dr
