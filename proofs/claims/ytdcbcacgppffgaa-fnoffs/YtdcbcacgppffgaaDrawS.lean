/-
  What the model draws for the draws: a number taken for a seed, a number below which to draw. New blocks alone are made.
-/
import Derived.Test.YtdcbcacgppffgaaCur
import Derived.Deep.RegionWith
namespace Go.Proofs.Ytdcbcacgppffgaa.Ds
open Go.RowKit

theorem tabI (l : List Value) (lo hi : Int) (hall : l.all (Cu.okv lo hi) = true) (y : Int) (h0 : 0 ≤ y) (h1 : y < (l.length : Int)) : ∃ v : Int, (∀ h, l[y.toNat]'h = .int .i64 v) ∧ lo ≤ v ∧ v ≤ hi := by
  have hlt : y.toNat < l.length := by omega
  obtain ⟨v, hv, hb⟩ := Cu.okv_int ((List.all_eq_true.1 hall) l[y.toNat] (by simp))
  exact ⟨v, fun _ => hv, hb⟩
theorem wrapB (x : Int) : -9223372036854775808 ≤ IntKind.i64.wrap x ∧ IntKind.i64.wrap x ≤ 9223372036854775807 := by
  rw [IntKind.wrap_i64]; omega
theorem kept {w w' : World} {b : Nat} (h : w.grownBy w' (some b)) : ∀ blk o, b < blk → blk < w.heap.size → w'.cell? ⟨blk, o, none⟩ = w.cell? ⟨blk, o, none⟩ :=
  fun blk o h1 h2 => World.cell?_of_block (a := ⟨blk, o, none⟩) (h.block blk h2 (fun e => by cases e; omega))
theorem bel {w W w' : World} {B : Nat} (h : Below B w W) (hg : W.grownBy w' (some B)) (hB : B ≤ W.heap.size) : Below B w w' := h.trans (Cu.grown_below hg (Nat.le_refl _) hB)

set_option maxHeartbeats 1000000 in
theorem aSeed_any (w : World) (b : Nat) (K : Int) (hc : Cu.Cur w b K) (hK : K ≤ 10000000000000000) :
    Calls Try.prog 37 #[.pointer (some ⟨b, 0, none⟩)] w fun e w' => ∃ x : Int, e = .returned (.int .i64 x) ∧ -9223372036854775808 ≤ x ∧ x ≤ 9223372036854775807 ∧ w.grownBy w' (some b) ∧ Cu.Cur w' b (K + 4) := by
  go_enter Try.func37, Try.ntmps37
  go_wp2_with fail
  refine (Cu.pick_any _ _ _ hc (by omega) _ (by omega)).mono ?_
  rintro e w1 ⟨x, rfl, x0, x1, hg1, hz1, hc1⟩
  have x2 : x < 256 := x1 (by omega)
  clear hz1 x1
  go_wp2_with fail
  refine (Cu.raw_any _ _ _ hc1 (by omega)).mono ?_
  rintro e w2 ⟨y, rfl, y0, y1, hg2, hc2⟩
  have hb2 : b < w2.heap.size := by obtain ⟨_, _, _, _, _, h, _⟩ := hc2; exact h
  go_wp2_with fail
  refine (Cu.pick_any _ _ _ (hc2.alloc _) (by omega) _ (by omega)).mono ?_
  rintro e w3 ⟨z, rfl, z0, z1, hg3, hz3, hc3⟩
  have z2 : z < 8 := z1 (by omega)
  obtain ⟨v, hv, v0, v1⟩ := Cu.tab _ _ (-9223372036854775808) 9223372036854775807 hg3 hb2 (by simp [Cu.okv]; omega) z z0 z2
  have hg' : w.grownBy w3 (some b) := Cu.grown_trans hg1 (Cu.grown_trans hg2 (Cu.grown_trans (World.grownBy_alloc _ _ _) hg3))
  clear hg1 hg2 hg3 z1 hz3
  go_wp2
  go_ret
  exact ⟨v, rfl, v0, v1, hg', hc3.mono (by omega)⟩

end Go.Proofs.Ytdcbcacgppffgaa.Ds
