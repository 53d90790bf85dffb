/-
  What the model draws for the draws: a number taken for a seed, a number below which to draw. New blocks alone are made.
-/
import Derived.Test.YthmenbfcjiehdaaCur
import Derived.Deep.RegionWith
namespace Go.Proofs.Ythmenbfcjiehdaa.Ds
open Go.RowKit

theorem tabI (l : List Value) (lo hi : Int) (hall : l.all (Cu.okv lo hi) = true) (y : Int) (h0 : 0 ≤ y) (h1 : y < (l.length : Int)) : ∃ v : Int, (∀ h, l[y.toNat]'h = .int .i64 v) ∧ lo ≤ v ∧ v ≤ hi := by
  have hlt : y.toNat < l.length := by omega
  obtain ⟨v, hv, hb⟩ := Cu.okv_int ((List.all_eq_true.1 hall) l[y.toNat] (by simp))
  exact ⟨v, fun _ => hv, hb⟩
theorem wrapB (x : Int) : -9223372036854775808 ≤ IntKind.i64.wrap x ∧ IntKind.i64.wrap x ≤ 9223372036854775807 := by
  rw [IntKind.wrap_i64]; omega
theorem kept {w w' : World} {b : Nat} (h : w.grownBy w' (some b)) : ∀ blk o, b < blk → blk < w.heap.size → w'.cell? ⟨blk, o, none⟩ = w.cell? ⟨blk, o, none⟩ :=
  fun blk o h1 h2 => World.cell?_of_block (a := ⟨blk, o, none⟩) (h.block blk h2 (fun e => by cases e; omega))
theorem bel {w W w' : World} {B : Nat} (h : Below B w W) (hg : W.grownBy w' (some B)) (hB : B ≤ W.heap.size) : Below B w w' := h.trans (Cu.grown_below hg (Nat.le_refl _) hB)

set_option maxHeartbeats 1000000 in
theorem aSeed_any (w : World) (b : Nat) (K : Int) (hc : Cu.Cur w b K) (hK : K ≤ 10000000000000000) :
    Calls Try.prog 28 #[.pointer (some ⟨b, 0, none⟩)] w fun e w' => ∃ x : Int, e = .returned (.int .i64 x) ∧ -9223372036854775808 ≤ x ∧ x ≤ 9223372036854775807 ∧ w.grownBy w' (some b) ∧ Cu.Cur w' b (K + 4) := by
  go_enter Try.func28, Try.ntmps28
  go_wp2_with fail
  refine (Cu.pick_any _ _ _ hc (by omega) _ (by omega)).mono ?_
  rintro e w1 ⟨x, rfl, x0, x1, hg1, hz1, hc1⟩
  have x2 : x < 256 := x1 (by omega)
  clear hz1 x1
  go_wp2_with fail
  refine (Cu.raw_any _ _ _ hc1 (by omega)).mono ?_
  rintro e w2 ⟨y, rfl, y0, y1, hg2, hc2⟩
  have hb2 : b < w2.heap.size := by obtain ⟨_, _, _, _, _, h, _⟩ := hc2; exact h
  go_wp2_with fail
  refine (Cu.pick_any _ _ _ (hc2.alloc _) (by omega) _ (by omega)).mono ?_
  rintro e w3 ⟨z, rfl, z0, z1, hg3, hz3, hc3⟩
  have z2 : z < 8 := z1 (by omega)
  obtain ⟨v, hv, v0, v1⟩ := Cu.tab _ _ (-9223372036854775808) 9223372036854775807 hg3 hb2 (by simp [Cu.okv]; omega) z z0 z2
  have hg' : w.grownBy w3 (some b) := Cu.grown_trans hg1 (Cu.grown_trans hg2 (Cu.grown_trans (World.grownBy_alloc _ _ _) hg3))
  clear hg1 hg2 hg3 z1 hz3
  go_wp2
  go_ret
  exact ⟨v, rfl, v0, v1, hg', hc3.mono (by omega)⟩

set_option maxHeartbeats 8000000 in
theorem drawBelow_any (w : World) (a : Option Addr) (len cap : Nat) (hB : Cu.Bytes w w.heap.size a len) (hl : (len : Int) ≤ 1048576) :
    Calls Try.prog 9 #[.slice a len cap] w fun e w' => ∃ x y : Int, e = .returned (.tuple #[.int .i64 x, .int .i64 y]) ∧ -9223372036854775808 ≤ x ∧ x ≤ 9223372036854775807 ∧ -9223372036854775808 ≤ y ∧ y ≤ 9223372036854775807 ∧ Below w.heap.size w w' := by
  go_enter Try.func9, Try.ntmps9
  go_wp2_with fail
  refine (Cu.open_any _ _ _ _ hB hl).mono ?_
  rintro e w1 ⟨rfl, hg, hc⟩
  go_wp2_with fail
  refine (aSeed_any _ _ _ hc (by omega)).mono ?_
  rintro e w2 ⟨x, rfl, x0, x1, hg2, hc2⟩
  have hB2 : Below w.heap.size w w2 := Cu.grown_below (Cu.grown_trans hg hg2) (Nat.le_refl _) (Nat.le_refl _)
  have hlt2 : w.heap.size < w2.heap.size := by obtain ⟨_, _, _, _, _, h, _⟩ := hc2; exact h
  clear hg hg2 hc
  go_wp2_with fail
  go_region_with (first | (go_at_call 29; refine (Cu.raw_any _ _ _ (by first | assumption | exact Cu.Cur.drew (by assumption)) (by omega)).mono ?_; rintro e w3 ⟨y, rfl, y0, y1, hg3, hc3⟩; have hlt3 : w.heap.size < w3.heap.size := (by obtain ⟨_, _, _, _, _, h, _⟩ := hc3; exact h)) | (go_at_call_of 30 (Value.int .i64 60); refine (Cu.pick_any _ _ _ (by first | assumption | exact Cu.Cur.drew (by assumption)) (by omega) _ (by omega)).mono ?_; rintro e w4 ⟨z, rfl, z0, z1, hg4, hz4, hc4⟩; have z2 : z < 60 := z1 (by omega); have hlt4 : w.heap.size < w4.heap.size := (by obtain ⟨_, _, _, _, _, h, _⟩ := hc4; exact h); clear hz4 z1) | (go_at_call_of 30 (Value.int .i64 8); refine (Cu.pick_any _ _ _ (by first | assumption | exact Cu.Cur.drew (by assumption) | exact Cu.Cur.alloc (by assumption) _ | exact Cu.Cur.drew (Cu.Cur.alloc (by assumption) _)) (by omega) _ (by omega)).mono ?_; rintro e w5 ⟨u, rfl, u0, u1, hg5, hz5, hc5⟩; have u2 := u1 (by omega); obtain ⟨v, hv, v0, v1⟩ := tabI [Value.int .i64 1, Value.int .i64 2, Value.int .i64 3, Value.int .i64 10, Value.int .i64 1000000, Value.int .i64 999999, Value.int .i64 y, Value.int .i64 (IntKind.i64.wrap (1 + z))] (-9223372036854775808) 9223372036854775807 (by have := wrapB (1 + z); simp [Cu.okv]; omega) u u0 (by simp; omega); have hk5 := kept hg5; have hz5' := Nat.le_of_eq hz5.symm; have hz5'' := Nat.le_of_eq hz5; try simp at hz5'; try simp at hz5''; try simp at hk5; have hlt5 : w.heap.size < w5.heap.size := (by omega); clear hz5 u1))
  all_goals go_wp2
  all_goals go_ret2
  all_goals refine ⟨x, v, rfl, x0, x1, v0, v1, ?_⟩
  all_goals repeat (first | exact hB2 | (refine bel ?_ hg5 (by first | omega | (simp; omega))) | (refine bel ?_ hg4 (by first | omega | (simp; omega))) | (refine bel ?_ hg3 (by first | omega | (simp; omega))) | refine Below.drew ?_ | (refine Below.alloc ?_ (by first | omega | (simp; omega)) _))
set_option maxHeartbeats 8000000 in
theorem drawPermOf_any (w : World) (a : Option Addr) (len cap : Nat) (hB : Cu.Bytes w w.heap.size a len) (hl : (len : Int) ≤ 1048576) :
    Calls Try.prog 14 #[.slice a len cap] w fun e w' => ∃ x y : Int, e = .returned (.tuple #[.int .i64 x, .int .i64 y]) ∧ -9223372036854775808 ≤ x ∧ x ≤ 9223372036854775807 ∧ -9223372036854775808 ≤ y ∧ y ≤ 9223372036854775807 ∧ Below w.heap.size w w' := by
  go_enter Try.func14, Try.ntmps14
  go_wp2_with fail
  refine (Cu.open_any _ _ _ _ hB hl).mono ?_
  rintro e w1 ⟨rfl, hg, hc⟩
  go_wp2_with fail
  refine (aSeed_any _ _ _ hc (by omega)).mono ?_
  rintro e w2 ⟨x, rfl, x0, x1, hg2, hc2⟩
  have hB2 : Below w.heap.size w w2 := Cu.grown_below (Cu.grown_trans hg hg2) (Nat.le_refl _) (Nat.le_refl _)
  have hlt2 : w.heap.size < w2.heap.size := hc2.lt
  clear hg hg2 hc
  go_wp2_with fail
  go_region_with (first | (go_at_call 29; refine (Cu.raw_any _ _ _ (by first | assumption | exact Cu.Cur.drew (by assumption)) (by omega)).mono ?_; rintro e w3 ⟨y, rfl, y0, y1, hg3, hc3⟩; have hlt3 : w.heap.size < w3.heap.size := hc3.lt) | (go_at_call_of 30 (Value.int .i64 12); refine (Cu.pick_any _ _ _ (by first | assumption | exact Cu.Cur.drew (by assumption)) (by omega) _ (by omega)).mono ?_; rintro e w4 ⟨z, rfl, z0, z1, hg4, hz4, hc4⟩; have z2 : z < 12 := z1 (by omega); have hlt4 : w.heap.size < w4.heap.size := hc4.lt; clear hz4 z1) | (go_at_call_of 30 (Value.int .i64 4); refine (Cu.pick_any _ _ _ (by first | assumption | exact Cu.Cur.drew (by assumption) | exact Cu.Cur.alloc (by assumption) _ | exact Cu.Cur.drew (Cu.Cur.alloc (by assumption) _)) (by omega) _ (by omega)).mono ?_; rintro e w5 ⟨u, rfl, u0, u1, hg5, hz5, hc5⟩; have u2 := u1 (by omega); obtain ⟨v, hv, v0, v1⟩ := tabI [Value.int .i64 z, Value.int .i64 60, Value.int .i64 61, Value.int .i64 y] (-9223372036854775808) 9223372036854775807 (by simp [Cu.okv]; omega) u u0 (by simp; omega); have hk5 := kept hg5; have hz5' := Nat.le_of_eq hz5.symm; have hz5'' := Nat.le_of_eq hz5; try simp at hz5'; try simp at hz5''; try simp at hk5; have hlt5 : w.heap.size < w5.heap.size := (by omega); clear hz5 u1))
  all_goals go_wp2
  all_goals go_ret2
  all_goals refine ⟨x, v, rfl, x0, x1, v0, v1, ?_⟩
  all_goals repeat (first | exact hB2 | (refine bel ?_ hg5 (by first | omega | (simp; omega))) | (refine bel ?_ hg4 (by first | omega | (simp; omega))) | (refine bel ?_ hg3 (by first | omega | (simp; omega))) | refine Below.drew ?_ | (refine Below.alloc ?_ (by first | omega | (simp; omega)) _))
end Go.Proofs.Ythmenbfcjiehdaa.Ds
