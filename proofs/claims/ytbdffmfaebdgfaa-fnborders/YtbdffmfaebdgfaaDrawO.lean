/-
  What the model draws for borders: a list with how many borders; borders with a number.
-/
import Derived.Test.YtbdffmfaebdgfaaDrawN
namespace Go.Proofs.Ytbdffmfaebdgfaa.Dn
open Go.RowKit
open Go.Proofs.Ytbdffmfaebdgfaa.Li Go.Proofs.Ytbdffmfaebdgfaa.Bo Go.Proofs.Ytbdffmfaebdgfaa.Ai Go.Proofs.Ytbdffmfaebdgfaa.Bs
theorem own_drew {w : World} {B : Nat} {v : Value} {xs : List Int} (h : Own w B v xs) : Own w.drew B v xs := h
theorem own_alloc {w : World} {B : Nat} {v : Value} {xs : List Int} (h : Own w B v xs) (o : Obj) : Own (w.alloc o) B v xs := World.ownsRow.alloc h _
set_option maxRecDepth 100000 in
set_option maxHeartbeats 8000000 in
theorem drawBorders_any (w : World) (a : Option Addr) (len cap : Nat) (hB : Cu.Bytes w w.heap.size a len) (hl : (len : Int) ≤ 1048576) :
    Calls Try.prog 6 #[.slice a len cap] w fun e w' => ∃ v xs, ∃ y : Int, e = .returned (.tuple #[v, .int .i64 y]) ∧ xs.length ≤ 1001 ∧ Own w' w.heap.size v xs ∧ Below w.heap.size w w' := by
  go_enter Try.func6, Try.ntmps6
  go_wp2_with fail
  refine (Cu.open_any _ _ _ _ hB hl).mono ?_
  rintro e w1 ⟨rfl, hg, hc⟩
  go_wp2_with fail
  refine (numbers_any _ _ _ hc (by omega) (by omega)).mono ?_
  rintro e w2 ⟨vl, xs, rfl, hxl, ho2, hg2, hc2⟩
  have ho2 := ho2.mono (base' := w.heap.size + 1) hc.lt
  have hB2 : Below w.heap.size w w2 := Cu.grown_below (Cu.grown_trans hg hg2) (Nat.le_refl _) (Nat.le_refl _)
  have hlt2 : w.heap.size < w2.heap.size := hc2.lt
  have HXL : Hid (xs.length ≤ 1001) := hxl
  have hbb : w.heap.size < w.heap.size + 1 := Nat.lt_succ_self _
  clear hg hg2 hc hxl
  go_wp2_with fail
  go_region_with (first | (go_at_call 19; refine (Cu.raw_any _ _ _ (by first | assumption | exact Cu.Cur.drew (by assumption)) (by omega)).mono ?_; rintro e w3 ⟨y, rfl, y0, y1, hg3, hc3⟩; have hlt3 : w.heap.size < w3.heap.size := hc3.lt) | (go_at_call_of 18 (Value.int .i64 6); refine (Cu.pick_any _ _ _ (by first | assumption | exact Cu.Cur.drew (by assumption)) (by omega) _ (by omega)).mono ?_; rintro e w4 ⟨z, rfl, z0, z1, hg4, hz4, hc4⟩; have z2 : z < 6 := z1 (by omega); have hlt4 : w.heap.size < w4.heap.size := hc4.lt; clear hz4 z1) | (go_at_call_of 18 (Value.int .i64 3); refine (Cu.pick_any _ _ _ (by first | assumption | exact Cu.Cur.drew (by assumption) | exact Cu.Cur.alloc (by assumption) _ | exact Cu.Cur.drew (Cu.Cur.alloc (by assumption) _)) (by omega) _ (by omega)).mono ?_; rintro e w5 ⟨u, rfl, u0, u1, hg5, hz5, hc5⟩; have u2 := u1 (by omega); obtain ⟨v, hv, v0, v1⟩ := tabI [Value.int .i64 z, Value.int .i64 12, Value.int .i64 y] (-9223372036854775808) 9223372036854775807 (by simp [Cu.okv]; omega) u u0 (by simp; omega); have hk5 := kept hg5; have hz5' := Nat.le_of_eq hz5.symm; have hz5'' := Nat.le_of_eq hz5; try simp at hz5'; try simp at hz5''; try simp at hk5; have hlt5 : w.heap.size < w5.heap.size := (by omega); clear hz5 u1))
  all_goals go_wp2
  all_goals go_ret2
  all_goals refine ⟨vl, xs, v, rfl, HXL.out, Own.mono (base := w.heap.size + 1) ?_ (by omega), ?_⟩
  all_goals repeat (first | exact ho2 | exact hB2 | (refine bel ?_ hg5 (by first | omega | (simp; omega))) | (refine bel ?_ hg4 (by first | omega | (simp; omega))) | (refine bel ?_ hg3 (by first | omega | (simp; omega))) | refine Below.drew ?_ | (refine Below.alloc ?_ (by first | omega | (simp; omega)) _) | refine own_cur ?_ hg5 hbb | refine own_cur ?_ hg4 hbb | refine own_cur ?_ hg3 hbb | refine own_drew ?_ | refine own_alloc ?_ _)
end Go.Proofs.Ytbdffmfaebdgfaa.Dn
