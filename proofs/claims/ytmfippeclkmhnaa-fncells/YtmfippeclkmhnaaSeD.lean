/-
  A table of sixteen cells: one more row in its cell (the program's add); its score.
-/
import Derived.Test.YtmfippeclkmhnaaSeS
import Derived.BigRegion
import Derived.Deep.RegionHeld3
import Derived.Deep.MidRow
namespace Go.Proofs.Ytmfippeclkmhnaa.Sw7
open Go.RowKit
open Go.Proofs.Ytmfippeclkmhnaa.Li (ret_bool ret_int below_none IsL btw)
open Go.Proofs.Ytmfippeclkmhnaa.Tm (IsP pv pv_length)
open Go.Proofs.Ytmfippeclkmhnaa.Se Go.Proofs.Ytmfippeclkmhnaa.Sv
set_option linter.unusedVariables false

set_option maxHeartbeats 2000000 in
theorem iadd (w : World) (b j : Nat) (g : Int) (cs : List (Int × Int)) (h : Wr w b 0 (pv cs)) (hl : cs.length = 16) (hj : j < 16) (hg : -2000000 ≤ g ∧ g ≤ 2000000) (hc : cok (cs.getD j (0, 0))) :
    Calls Try.prog 22 #[.pointer (some ⟨b, 0, none⟩), .int .i64 j, .int .i64 g] w fun e w' => (∃ v, e = .returned v) ∧ Wr w' b 0 (pv (bump cs j g)) ∧ w.grownBy w' (some b) ∧ w'.heap.size = w.heap.size := by
  obtain ⟨⟨c0, c1⟩, f0, f1⟩ := h.at2 j (by omega)
  have hlt := h.1
  have e0 : cs.getD j (0, 0) = cs[j]'(by omega) := by simp [List.getD_eq_getElem?_getD, hl, hj]
  have HB : Hid (bump cs j g = cs.set j ((cs[j]'(by omega)).1 + 1, (cs[j]'(by omega)).2 + g)) := by show _ = _; unfold bump; rw [Int.toNat_natCast, e0]
  rw [e0] at hc
  obtain ⟨N, hN⟩ : ∃ N, (cs[j]'(by omega)).1 = N := ⟨_, rfl⟩
  obtain ⟨G, hG⟩ : ∃ G, (cs[j]'(by omega)).2 = G := ⟨_, rfl⟩
  rw [hN] at c0 HB
  rw [hG] at c1 HB
  simp only [cok] at hc
  rw [hN, hG] at hc
  rw [Nat.zero_add] at c0 c1 f0 f1
  have HH : Hid (Wr w b 0 (pv cs)) := h
  have HL : Hid (cs.length = 16) := hl
  have hj' : (j : Int) < 16 := by omega
  obtain ⟨⟨n0, n1⟩, g0, g1⟩ := hc
  clear hN hG e0 h hl
  go_enter Try.func22, Try.ntmps22
  go_wp2
  go_region
  go_wp2
  go_region
  go_wp2
  refine bodyPost_end (results_none rfl _ _ _) rfl ⟨⟨_, rfl⟩, ?_, ?_, ?_⟩
  · rw [HB.out]
    have := HH.out.set2 j (by rw [HL.out]; exact hj) (N + 1) (G + g)
    rw [Nat.zero_add] at this
    exact this
  · have hgr := Li.grown_trans (Li.grown_set w b (j * 2) (.int .i64 (N + 1))) (Li.grown_set _ b (j * 2 + 1) (.int .i64 (G + g)))
    exact ⟨hgr.os, hgr.tape, hgr.output, hgr.size, hgr.block⟩
  · simp [World.setCell]
set_option maxHeartbeats 2000000 in
theorem iscoreT (w : World) (cs : List (Int × Int)) (l2 : Int) (hl : cs.length = 16) :
    Calls Try.prog 31 #[.agg (pv cs).toArray, .int .i64 l2] w fun e w' => e = .returned (.int .i64 (score cs l2)) ∧ Below w.heap.size w w' := by
  go_enter Try.func31, Try.ntmps31
  go_wp2_with fail
  obtain ⟨W, hW, hsz, hB, bx⟩ := new1 w (pv cs) 56
  rw [hW]
  clear hW hsz
  have hi := wr_isp bx
  refine (show Calls Try.prog 51 #[.slice (some ⟨w.heap.size, 0, none⟩) 16 16, .int .i64 l2] W fun e w' => e = .returned (.int .i64 (score cs l2)) ∧ Below W.heap.size W w' from by have := iscore W _ 16 cs l2 hi (by omega); rwa [hl] at this).mono ?_
  rintro e w1 ⟨rfl, hb⟩
  have hB := hB.trans (hb.mono hB.size)
  go_wp2
  go_ret
  exact ⟨rfl, hB⟩
end Go.Proofs.Ytmfippeclkmhnaa.Sw7
