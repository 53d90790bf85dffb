/-
  What the model draws for a split.
-/
import Derived.Test.YtmfippeclkmhnaaOgn
import Derived.Test.YtmfippeclkmhnaaTrM
namespace Go.Proofs.Ytmfippeclkmhnaa.Dsp
open Go.RowKit
open Go.Proofs.Ytmfippeclkmhnaa.Sv (Wr wr2)
set_option linter.unusedVariables false
set_option maxRecDepth 40000
def spMk (b H : Nat) (v : Nat → Value) : Act := ⟨#[.pointer (some ⟨b, 0, none⟩), undef, .pointer (some ⟨H, 0, none⟩), v 3, v 4, v 5, v 6, v 7, v 8, v 9, v 10, v 11, v 12, v 13, v 14, v 15, v 16, v 17, v 18, v 19, v 20, v 21, v 22, v 23, v 24], []⟩
def spKd : List Og.Kd := [.ptr, .int 0 5, .ptr, .int 0 5, .ptr, .num, .tab 3, .ptr, .int 0 2, .elem, .num, .ptr, .int 0 4, .num, .ptr, .num, .tab 2, .ptr, .int 0 1, .elem, .num, .sat (fun x => ∃ p q : Int, x = .agg #[.int .i64 p, .int .i64 q])]
def spDst : List Nat := [3, 4, 5, 6, 7, 8, 9, 10, 11, 12, 13, 14, 15, 16, 17, 18, 19, 20, 21, 22, 23, 24]
theorem spInj : ∀ i, i < 22 → ∀ j, j < 22 → spDst.getD i 100000 = spDst.getD j 100000 → i = j := by decide
theorem spLt {j : Nat} (h : j < 23) : j = 0 ∨ j = 1 ∨ j = 2 ∨ j = 3 ∨ j = 4 ∨ j = 5 ∨ j = 6 ∨ j = 7 ∨ j = 8 ∨ j = 9 ∨ j = 10 ∨ j = 11 ∨ j = 12 ∨ j = 13 ∨ j = 14 ∨ j = 15 ∨ j = 16 ∨ j = 17 ∨ j = 18 ∨ j = 19 ∨ j = 20 ∨ j = 21 ∨ j = 22 := by omega
theorem spLt0 {j : Nat} (h : j < 22) : j = 0 ∨ j = 1 ∨ j = 2 ∨ j = 3 ∨ j = 4 ∨ j = 5 ∨ j = 6 ∨ j = 7 ∨ j = 8 ∨ j = 9 ∨ j = 10 ∨ j = 11 ∨ j = 12 ∨ j = 13 ∨ j = 14 ∨ j = 15 ∨ j = 16 ∨ j = 17 ∨ j = 18 ∨ j = 19 ∨ j = 20 ∨ j = 21 := by omega
set_option maxHeartbeats 20000000 in
theorem split_any (w : World) (b : Nat) (K : Int) (hc : Cu.Cur w b K) (hK : K ≤ 10000000000000) :
    Calls Try.prog 21 #[.pointer (some ⟨b, 0, none⟩)] w fun e w' => ∃ p q : Int, e = .returned (.agg #[.int .i64 p, .int .i64 q]) ∧ w.grownBy w' (some b) ∧ Cu.Cur w' b (K + 50) := by
  have hbw := hc.lt
  go_enter Try.func21, Try.ntmps21
  go_wp2_with fail
  obtain ⟨W, hW, hsz, hB, bx⟩ := Sv.new1 w [.int .i64 0, .int .i64 0] 29
  rw [hW]
  have hcW : Cu.Cur W b K := by rw [← hW]; exact hc.alloc _
  have hgW : w.grownBy W (some b) := by rw [← hW]; exact Cu.grown_alloc (Cu.grown_refl _ _) _
  clear hW
  obtain ⟨H, hH⟩ : ∃ H, w.heap.size = H := ⟨_, rfl⟩
  rw [hH] at hsz bx hbw ⊢
  have HH : Hid (w.heap.size = H) := hH
  have hbH : ¬ H = b := by omega
  clear hH
  refine Oi.start (Og.Inv b H 22 K W (spMk b H) spKd spDst (fun a w1 => ∃ p q : Int, (∃ v, a = spMk b H v) ∧ Wr w1 H 0 [.int .i64 p, .int .i64 q] ∧ w.grownBy w1 (some b) ∧ Cu.Cur w1 b (K + 50))) (by kernel_rfl) ?_ ?_ ?_
  · exact Og.inv_start hcW (Cu.grown_refl _ _) (fun _ => undef) rfl
  · intro l a w1 j hs hI hj
    have hlt : j < 23 := Oi.ready_lt hj
    have hjf := (mem_ready.1 hj).1
    have hcl : Oi.cnt l ≤ 23 := by have := Oi.cnt_le l; rw [hs] at this; exact this
    rcases hI with ⟨_, hall, _⟩ | ⟨hn, v, rfl, hg, hcu, hv⟩
    · exact (Og.not_done hjf (hall j hlt)).elim
    have hltw := hcu.lt
    have hWw := hg.size
    rcases spLt hlt with rfl | rfl | rfl | rfl | rfl | rfl | rfl | rfl | rfl | rfl | rfl | rfl | rfl | rfl | rfl | rfl | rfl | rfl | rfl | rfl | rfl | rfl | rfl
    · refine Oi.op_step rfl rfl ?_
      intro K2 hK2
      unfold spMk
      go_simp
      refine hK2 _ _ ?_
      refine Og.act_eq (Og.inv_put (j := 0) (x := .pointer (some ⟨b, 0, none⟩)) spInj (by omega) hjf hn hv (Og.rl_refl _ _) hg (hcu.mono (by omega)) (show Og.psi b H (.ptr) _ _ from rfl)) ?_
      show spMk b H (Oi.upd v 3 _) = _
      first | rfl | simp [spMk, Oi.upd]
    · have D0 := hv 0 (by omega) (Oi.dep hj (by kernel_rfl))
      change Og.psi b H (.ptr) (v 3) w1 at D0
      have e3 : v 3 = .pointer (some ⟨b, 0, none⟩) := D0
      refine Oi.op_step rfl rfl ?_
      intro K2 hK2
      unfold spMk
      go_simp
      go_wp2_with (go_at_call 42; refine (Cu.pick_any _ _ _ hcu (by omega) _ (by omega)).mono ?_; rintro e w2 ⟨y, rfl, y0, y1, hg2, hz2, hc2⟩)
      refine Og.act_eq (Og.inv_put (j := 1) (x := .int .i64 y) spInj (by omega) hjf hn hv (Og.rl_grown hg2) (Cu.grown_trans hg hg2) (hc2.mono (by omega)) (show Og.psi b H (.int 0 5) _ _ from ⟨y, rfl, y0, by have := y1 (by omega); omega⟩)) ?_
      show spMk b H (Oi.upd v 4 _) = _
      first | rfl | simp [spMk, Oi.upd, e3]
    · refine Oi.op_step rfl rfl ?_
      intro K2 hK2
      unfold spMk
      go_simp
      refine hK2 _ _ ?_
      refine Og.act_eq (Og.inv_put (j := 2) (x := .pointer (some ⟨b, 0, none⟩)) spInj (by omega) hjf hn hv (Og.rl_refl _ _) hg (hcu.mono (by omega)) (show Og.psi b H (.ptr) _ _ from rfl)) ?_
      show spMk b H (Oi.upd v 5 _) = _
      first | rfl | simp [spMk, Oi.upd]
    · have D2 := hv 2 (by omega) (Oi.dep hj (by kernel_rfl))
      change Og.psi b H (.ptr) (v 5) w1 at D2
      have e5 : v 5 = .pointer (some ⟨b, 0, none⟩) := D2
      refine Oi.op_step rfl rfl ?_
      intro K2 hK2
      unfold spMk
      go_simp
      go_wp2_with (go_at_call 42; refine (Cu.pick_any _ _ _ hcu (by omega) _ (by omega)).mono ?_; rintro e w2 ⟨y, rfl, y0, y1, hg2, hz2, hc2⟩)
      refine Og.act_eq (Og.inv_put (j := 3) (x := .int .i64 y) spInj (by omega) hjf hn hv (Og.rl_grown hg2) (Cu.grown_trans hg hg2) (hc2.mono (by omega)) (show Og.psi b H (.int 0 5) _ _ from ⟨y, rfl, y0, by have := y1 (by omega); omega⟩)) ?_
      show spMk b H (Oi.upd v 6 _) = _
      first | rfl | simp [spMk, Oi.upd, e5]
    · refine Oi.op_step rfl rfl ?_
      intro K2 hK2
      unfold spMk
      go_simp
      refine hK2 _ _ ?_
      refine Og.act_eq (Og.inv_put (j := 4) (x := .pointer (some ⟨b, 0, none⟩)) spInj (by omega) hjf hn hv (Og.rl_refl _ _) hg (hcu.mono (by omega)) (show Og.psi b H (.ptr) _ _ from rfl)) ?_
      show spMk b H (Oi.upd v 7 _) = _
      first | rfl | simp [spMk, Oi.upd]
    · have D4 := hv 4 (by omega) (Oi.dep hj (by kernel_rfl))
      change Og.psi b H (.ptr) (v 7) w1 at D4
      have e7 : v 7 = .pointer (some ⟨b, 0, none⟩) := D4
      refine Oi.op_step rfl rfl ?_
      intro K2 hK2
      unfold spMk
      go_simp
      go_wp2_with (go_at_call 45; refine (Cu.raw_any _ _ _ hcu (by omega)).mono ?_; rintro e w2 ⟨y, rfl, _, _, hg2, hc2⟩)
      refine Og.act_eq (Og.inv_put (j := 5) (x := .int .i64 y) spInj (by omega) hjf hn hv (Og.rl_grown hg2) (Cu.grown_trans hg hg2) (hc2.mono (by omega)) (show Og.psi b H (.num) _ _ from ⟨y, rfl⟩)) ?_
      show spMk b H (Oi.upd v 8 _) = _
      first | rfl | simp [spMk, Oi.upd, e7]
    · have D1 := hv 1 (by omega) (Oi.dep hj (by kernel_rfl))
      change Og.psi b H (.int 0 5) (v 4) w1 at D1
      obtain ⟨y4, e4, l4, u4⟩ := D1
      have D3 := hv 3 (by omega) (Oi.dep hj (by kernel_rfl))
      change Og.psi b H (.int 0 5) (v 6) w1 at D3
      obtain ⟨y6, e6, l6, u6⟩ := D3
      have D5 := hv 5 (by omega) (Oi.dep hj (by kernel_rfl))
      change Og.psi b H (.num) (v 8) w1 at D5
      obtain ⟨y8, e8⟩ := D5
      refine Oi.op_step rfl rfl ?_
      intro K2 hK2
      unfold spMk
      go_simp
      refine hK2 _ _ ?_
      refine Og.act_eq (Og.inv_put (j := 6) (x := .slice (some ⟨w1.heap.size, 0, none⟩) 3 3) spInj (by omega) hjf hn hv (Og.rl_alloc _ _ _) (Cu.grown_alloc hg _) ((hcu.alloc _).mono (by omega)) (show Og.psi b H (.tab 3) _ _ from ⟨w1.heap.size, rfl, by omega, by simp, fun t ht => Og.tab_new w1 [y4, y6, y8] _ t ht⟩)) ?_
      show spMk b H (Oi.upd v 9 _) = _
      first | rfl | simp [spMk, Oi.upd, e4, e6, e8]
    · refine Oi.op_step rfl rfl ?_
      intro K2 hK2
      unfold spMk
      go_simp
      refine hK2 _ _ ?_
      refine Og.act_eq (Og.inv_put (j := 7) (x := .pointer (some ⟨b, 0, none⟩)) spInj (by omega) hjf hn hv (Og.rl_refl _ _) hg (hcu.mono (by omega)) (show Og.psi b H (.ptr) _ _ from rfl)) ?_
      show spMk b H (Oi.upd v 10 _) = _
      first | rfl | simp [spMk, Oi.upd]
    · have D7 := hv 7 (by omega) (Oi.dep hj (by kernel_rfl))
      change Og.psi b H (.ptr) (v 10) w1 at D7
      have e10 : v 10 = .pointer (some ⟨b, 0, none⟩) := D7
      refine Oi.op_step rfl rfl ?_
      intro K2 hK2
      unfold spMk
      go_simp
      go_wp2_with (go_at_call 42; refine (Cu.pick_any _ _ _ hcu (by omega) _ (by omega)).mono ?_; rintro e w2 ⟨y, rfl, y0, y1, hg2, hz2, hc2⟩)
      refine Og.act_eq (Og.inv_put (j := 8) (x := .int .i64 y) spInj (by omega) hjf hn hv (Og.rl_grown hg2) (Cu.grown_trans hg hg2) (hc2.mono (by omega)) (show Og.psi b H (.int 0 2) _ _ from ⟨y, rfl, y0, by have := y1 (by omega); omega⟩)) ?_
      show spMk b H (Oi.upd v 11 _) = _
      first | rfl | simp [spMk, Oi.upd, e10]
    · have D6 := hv 6 (by omega) (Oi.dep hj (by kernel_rfl))
      change Og.psi b H (.tab 3) (v 9) w1 at D6
      obtain ⟨g9, e9, n9, s9, c9⟩ := D6
      have D8 := hv 8 (by omega) (Oi.dep hj (by kernel_rfl))
      change Og.psi b H (.int 0 2) (v 11) w1 at D8
      obtain ⟨y11, e11, l11, u11⟩ := D8
      obtain ⟨z, hz⟩ := c9 y11.toNat (by omega)
      have v11 : y11 < 3 := by omega
      refine Oi.op_step rfl rfl ?_
      intro K2 hK2
      unfold spMk
      go_simp
      refine hK2 _ _ ?_
      refine Og.act_eq (Og.inv_put (j := 9) (x := .pointer (some ⟨g9, y11.toNat, none⟩)) spInj (by omega) hjf hn hv (Og.rl_refl _ _) hg (hcu.mono (by omega)) (show Og.psi b H (.elem) _ _ from ⟨g9, y11.toNat, z, rfl, n9, s9, hz⟩)) ?_
      show spMk b H (Oi.upd v 12 _) = _
      first | rfl | simp [spMk, Oi.upd, e9, e11]
    · have D9 := hv 9 (by omega) (Oi.dep hj (by kernel_rfl))
      change Og.psi b H (.elem) (v 12) w1 at D9
      obtain ⟨g12, t12, z12, e12, n12, s12, c12⟩ := D9
      refine Oi.op_step rfl rfl ?_
      intro K2 hK2
      unfold spMk
      go_simp
      refine hK2 _ _ ?_
      refine Og.act_eq (Og.inv_put (j := 10) (x := .int .i64 z12) spInj (by omega) hjf hn hv (Og.rl_refl _ _) hg (hcu.mono (by omega)) (show Og.psi b H (.num) _ _ from ⟨z12, rfl⟩)) ?_
      show spMk b H (Oi.upd v 13 _) = _
      first | rfl | simp [spMk, Oi.upd, e12]
    · refine Oi.op_step rfl rfl ?_
      intro K2 hK2
      unfold spMk
      go_simp
      refine hK2 _ _ ?_
      refine Og.act_eq (Og.inv_put (j := 11) (x := .pointer (some ⟨b, 0, none⟩)) spInj (by omega) hjf hn hv (Og.rl_refl _ _) hg (hcu.mono (by omega)) (show Og.psi b H (.ptr) _ _ from rfl)) ?_
      show spMk b H (Oi.upd v 14 _) = _
      first | rfl | simp [spMk, Oi.upd]
    · have D11 := hv 11 (by omega) (Oi.dep hj (by kernel_rfl))
      change Og.psi b H (.ptr) (v 14) w1 at D11
      have e14 : v 14 = .pointer (some ⟨b, 0, none⟩) := D11
      refine Oi.op_step rfl rfl ?_
      intro K2 hK2
      unfold spMk
      go_simp
      go_wp2_with (go_at_call 42; refine (Cu.pick_any _ _ _ hcu (by omega) _ (by omega)).mono ?_; rintro e w2 ⟨y, rfl, y0, y1, hg2, hz2, hc2⟩)
      refine Og.act_eq (Og.inv_put (j := 12) (x := .int .i64 y) spInj (by omega) hjf hn hv (Og.rl_grown hg2) (Cu.grown_trans hg hg2) (hc2.mono (by omega)) (show Og.psi b H (.int 0 4) _ _ from ⟨y, rfl, y0, by have := y1 (by omega); omega⟩)) ?_
      show spMk b H (Oi.upd v 15 _) = _
      first | rfl | simp [spMk, Oi.upd, e14]
    · have D12 := hv 12 (by omega) (Oi.dep hj (by kernel_rfl))
      change Og.psi b H (.int 0 4) (v 15) w1 at D12
      obtain ⟨y15, e15, l15, u15⟩ := D12
      refine Oi.op_step rfl rfl ?_
      intro K2 hK2
      unfold spMk
      go_simp
      refine hK2 _ _ ?_
      refine Og.act_eq (Og.inv_put (j := 13) (x := .int .i64 (IntKind.i64.wrap (y15 * 1000))) spInj (by omega) hjf hn hv (Og.rl_refl _ _) hg (hcu.mono (by omega)) (show Og.psi b H (.num) _ _ from ⟨_, rfl⟩)) ?_
      show spMk b H (Oi.upd v 16 _) = _
      first | rfl | simp [spMk, Oi.upd, e15]
    · refine Oi.op_step rfl rfl ?_
      intro K2 hK2
      unfold spMk
      go_simp
      refine hK2 _ _ ?_
      refine Og.act_eq (Og.inv_put (j := 14) (x := .pointer (some ⟨b, 0, none⟩)) spInj (by omega) hjf hn hv (Og.rl_refl _ _) hg (hcu.mono (by omega)) (show Og.psi b H (.ptr) _ _ from rfl)) ?_
      show spMk b H (Oi.upd v 17 _) = _
      first | rfl | simp [spMk, Oi.upd]
    · have D14 := hv 14 (by omega) (Oi.dep hj (by kernel_rfl))
      change Og.psi b H (.ptr) (v 17) w1 at D14
      have e17 : v 17 = .pointer (some ⟨b, 0, none⟩) := D14
      refine Oi.op_step rfl rfl ?_
      intro K2 hK2
      unfold spMk
      go_simp
      go_wp2_with (go_at_call 45; refine (Cu.raw_any _ _ _ hcu (by omega)).mono ?_; rintro e w2 ⟨y, rfl, _, _, hg2, hc2⟩)
      refine Og.act_eq (Og.inv_put (j := 15) (x := .int .i64 y) spInj (by omega) hjf hn hv (Og.rl_grown hg2) (Cu.grown_trans hg hg2) (hc2.mono (by omega)) (show Og.psi b H (.num) _ _ from ⟨y, rfl⟩)) ?_
      show spMk b H (Oi.upd v 18 _) = _
      first | rfl | simp [spMk, Oi.upd, e17]
    · have D13 := hv 13 (by omega) (Oi.dep hj (by kernel_rfl))
      change Og.psi b H (.num) (v 16) w1 at D13
      obtain ⟨y16, e16⟩ := D13
      have D15 := hv 15 (by omega) (Oi.dep hj (by kernel_rfl))
      change Og.psi b H (.num) (v 18) w1 at D15
      obtain ⟨y18, e18⟩ := D15
      refine Oi.op_step rfl rfl ?_
      intro K2 hK2
      unfold spMk
      go_simp
      refine hK2 _ _ ?_
      refine Og.act_eq (Og.inv_put (j := 16) (x := .slice (some ⟨w1.heap.size, 0, none⟩) 2 2) spInj (by omega) hjf hn hv (Og.rl_alloc _ _ _) (Cu.grown_alloc hg _) ((hcu.alloc _).mono (by omega)) (show Og.psi b H (.tab 2) _ _ from ⟨w1.heap.size, rfl, by omega, by simp, fun t ht => Og.tab_new w1 [y16, y18] _ t ht⟩)) ?_
      show spMk b H (Oi.upd v 19 _) = _
      first | rfl | simp [spMk, Oi.upd, e16, e18]
    · refine Oi.op_step rfl rfl ?_
      intro K2 hK2
      unfold spMk
      go_simp
      refine hK2 _ _ ?_
      refine Og.act_eq (Og.inv_put (j := 17) (x := .pointer (some ⟨b, 0, none⟩)) spInj (by omega) hjf hn hv (Og.rl_refl _ _) hg (hcu.mono (by omega)) (show Og.psi b H (.ptr) _ _ from rfl)) ?_
      show spMk b H (Oi.upd v 20 _) = _
      first | rfl | simp [spMk, Oi.upd]
    · have D17 := hv 17 (by omega) (Oi.dep hj (by kernel_rfl))
      change Og.psi b H (.ptr) (v 20) w1 at D17
      have e20 : v 20 = .pointer (some ⟨b, 0, none⟩) := D17
      refine Oi.op_step rfl rfl ?_
      intro K2 hK2
      unfold spMk
      go_simp
      go_wp2_with (go_at_call 42; refine (Cu.pick_any _ _ _ hcu (by omega) _ (by omega)).mono ?_; rintro e w2 ⟨y, rfl, y0, y1, hg2, hz2, hc2⟩)
      refine Og.act_eq (Og.inv_put (j := 18) (x := .int .i64 y) spInj (by omega) hjf hn hv (Og.rl_grown hg2) (Cu.grown_trans hg hg2) (hc2.mono (by omega)) (show Og.psi b H (.int 0 1) _ _ from ⟨y, rfl, y0, by have := y1 (by omega); omega⟩)) ?_
      show spMk b H (Oi.upd v 21 _) = _
      first | rfl | simp [spMk, Oi.upd, e20]
    · have D16 := hv 16 (by omega) (Oi.dep hj (by kernel_rfl))
      change Og.psi b H (.tab 2) (v 19) w1 at D16
      obtain ⟨g19, e19, n19, s19, c19⟩ := D16
      have D18 := hv 18 (by omega) (Oi.dep hj (by kernel_rfl))
      change Og.psi b H (.int 0 1) (v 21) w1 at D18
      obtain ⟨y21, e21, l21, u21⟩ := D18
      obtain ⟨z, hz⟩ := c19 y21.toNat (by omega)
      have v21 : y21 < 2 := by omega
      refine Oi.op_step rfl rfl ?_
      intro K2 hK2
      unfold spMk
      go_simp
      refine hK2 _ _ ?_
      refine Og.act_eq (Og.inv_put (j := 19) (x := .pointer (some ⟨g19, y21.toNat, none⟩)) spInj (by omega) hjf hn hv (Og.rl_refl _ _) hg (hcu.mono (by omega)) (show Og.psi b H (.elem) _ _ from ⟨g19, y21.toNat, z, rfl, n19, s19, hz⟩)) ?_
      show spMk b H (Oi.upd v 22 _) = _
      first | rfl | simp [spMk, Oi.upd, e19, e21]
    · have D19 := hv 19 (by omega) (Oi.dep hj (by kernel_rfl))
      change Og.psi b H (.elem) (v 22) w1 at D19
      obtain ⟨g22, t22, z22, e22, n22, s22, c22⟩ := D19
      refine Oi.op_step rfl rfl ?_
      intro K2 hK2
      unfold spMk
      go_simp
      refine hK2 _ _ ?_
      refine Og.act_eq (Og.inv_put (j := 20) (x := .int .i64 z22) spInj (by omega) hjf hn hv (Og.rl_refl _ _) hg (hcu.mono (by omega)) (show Og.psi b H (.num) _ _ from ⟨z22, rfl⟩)) ?_
      show spMk b H (Oi.upd v 23 _) = _
      first | rfl | simp [spMk, Oi.upd, e22]
    · have D10 := hv 10 (by omega) (Oi.dep hj (by kernel_rfl))
      change Og.psi b H (.num) (v 13) w1 at D10
      obtain ⟨y13, e13⟩ := D10
      have D20 := hv 20 (by omega) (Oi.dep hj (by kernel_rfl))
      change Og.psi b H (.num) (v 23) w1 at D20
      obtain ⟨y23, e23⟩ := D20
      refine Oi.op_step rfl rfl ?_
      intro K2 hK2
      unfold spMk
      go_simp
      refine hK2 _ _ ?_
      refine Og.act_eq (Og.inv_put (j := 21) (x := .agg #[.int .i64 y13, .int .i64 y23]) spInj (by omega) hjf hn hv (Og.rl_refl _ _) hg (hcu.mono (by omega)) (show Og.psi b H (.sat (fun x => ∃ p q : Int, x = .agg #[.int .i64 p, .int .i64 q])) _ _ from ⟨y13, y23, rfl⟩)) ?_
      show spMk b H (Oi.upd v 24 _) = _
      first | rfl | simp [spMk, Oi.upd, e13, e23]
    · have hall : ∀ i, i < 22 → l.getD i false = true := by
        intro i hi
        rcases spLt0 hi with rfl | rfl | rfl | rfl | rfl | rfl | rfl | rfl | rfl | rfl | rfl | rfl | rfl | rfl | rfl | rfl | rfl | rfl | rfl | rfl | rfl | rfl
        all_goals exact Oi.dep hj (by kernel_rfl)
      have D21 := hv 21 (by omega) (Oi.dep hj (by kernel_rfl))
      change Og.psi b H (.sat (fun x => ∃ p q : Int, x = .agg #[.int .i64 p, .int .i64 q])) (v 24) w1 at D21
      obtain ⟨p24, q24, e24⟩ := D21
      have bx1 : Wr w1 H 0 [.int .i64 0, .int .i64 0] := bx.keptAt hg.size (hg.block H bx.1 (fun e => hbH (by cases e; rfl)))
      obtain ⟨hl1, ⟨q0, q1⟩, f0, f1⟩ := wr2 bx1
      have ws := (bx1.set 0 (by simp) (.int .i64 p24)).set 1 (by simp) (.int .i64 q24)
      simp only [Nat.zero_add] at ws
      have hgs : w.grownBy ((w1.setCell ⟨H, 0, none⟩ (.int .i64 p24)).setCell ⟨H, 1, none⟩ (.int .i64 q24)) (some b) := by
        have h1 := Cu.grown_trans hgW hg
        have h2 := HH.out
        exact ⟨h1.os, h1.tape, h1.output, by simpa [World.setCell] using h1.size, fun k hk hne => ((Below.heap_setCell _ _ _ _ (by simp; omega)).trans (Below.heap_setCell _ _ _ _ (by simp; omega))).trans (h1.block k hk hne)⟩
      have hcs : Cu.Cur ((w1.setCell ⟨H, 0, none⟩ (.int .i64 p24)).setCell ⟨H, 1, none⟩ (.int .i64 q24)) b (K + 50) := (hcu.mono (by omega)).keptB (by simp [World.setCell]) (fun k hk => (Below.heap_setCell _ _ _ _ (by simp; omega)).trans (Below.heap_setCell _ _ _ _ (by simp; omega)))
      refine Oi.op_step rfl rfl ?_
      intro K2 hK2
      unfold spMk
      go_simp
      refine hK2 _ _ ?_
      refine Og.inv_last hs (by omega) hall ?_
      exact ⟨p24, q24, ⟨v, by first | rfl | simp [spMk, e24]⟩, by simpa using ws, hgs, hcs⟩
  · intro l a w1 hs hI hr
    have hall := Oi.all_done (by kernel_rfl) hs hr
    rcases hI with ⟨_, _, hF⟩ | ⟨hn, _⟩
    rotate_left
    · exfalso
      have := hall 22 (show 22 < 23 by omega)
      rw [hn] at this; cases this
    clear hall hs hr
    obtain ⟨p, q, ⟨v, rfl⟩, hw, hgs, hcs⟩ := hF
    obtain ⟨hl1, ⟨q0, q1⟩, f0, f1⟩ := wr2 hw
    unfold spMk
    go_wp2
    refine bodyPost_ret (v := .agg #[.int .i64 p, .int .i64 q]) (by rw [Tm.results_cell rfl]; go_simp) rfl ⟨p, q, rfl, hgs, hcs⟩
end Go.Proofs.Ytmfippeclkmhnaa.Dsp
