/-
  What the model draws for texts: a number that fits; a text that is short. New blocks alone are made.
-/
import Derived.Test.YtjiplokdamkccaaDoorCur
import Derived.Test.YtjiplokdamkccaaDoorRead
import Derived.Deep.RegionWith
namespace Go.Proofs.YtjiplokdamkccaaDoor.Dt
open Go.RowKit

set_option maxHeartbeats 400000 in
theorem drawText (w : World) (a : Option Addr) (len cap : Nat) (hB : Cu.Bytes w w.heap.size a len) (hl : (len : Int) ≤ 1048576) :
    Calls Tryd.prog 5 #[.slice a len cap] w fun e w' => ∃ x : Int, e = .returned (.int .i64 x) ∧ -9223372036854775808 ≤ x ∧ x ≤ 9223372036854775807 ∧ Below w.heap.size w w' := by
  go_enter Tryd.func5, Tryd.ntmps5
  go_wp2_with fail
  refine (Cu.open_any _ _ _ _ hB hl).mono ?_
  rintro e w1 ⟨rfl, hg, hc⟩
  go_wp2_with fail
  refine (Cu.rawFix_any _ _ _ hc (by omega)).mono ?_
  rintro e w2 ⟨x, rfl, x0, x1, hg2, hc2⟩
  go_wp2
  go_ret
  exact ⟨x, rfl, x0, x1, Cu.grown_below (Cu.grown_trans hg hg2) (Nat.le_refl _) (Nat.le_refl _)⟩

theorem tabS (y : Int) (h0 : 0 ≤ y) (h1 : y < 6) : ∃ t : ByteArray, (∀ h, ([Value.string ⟨#[]⟩, Value.string ⟨#[48]⟩, Value.string ⟨#[46]⟩, Value.string ⟨#[45]⟩, Value.string ⟨#[120]⟩, Value.string ⟨#[49]⟩] : List Value)[y.toNat]'h = .string t) ∧ t.size ≤ 1 := by
  have : ∀ n, n < 6 → ∃ t : ByteArray, (∀ h, ([Value.string ⟨#[]⟩, Value.string ⟨#[48]⟩, Value.string ⟨#[46]⟩, Value.string ⟨#[45]⟩, Value.string ⟨#[120]⟩, Value.string ⟨#[49]⟩] : List Value)[n]'h = .string t) ∧ t.size ≤ 1 := by
    intro n hn
    match n, hn with
    | 0, _ => exact ⟨_, fun _ => rfl, by decide⟩
    | 1, _ => exact ⟨_, fun _ => rfl, by decide⟩
    | 2, _ => exact ⟨_, fun _ => rfl, by decide⟩
    | 3, _ => exact ⟨_, fun _ => rfl, by decide⟩
    | 4, _ => exact ⟨_, fun _ => rfl, by decide⟩
    | 5, _ => exact ⟨_, fun _ => rfl, by decide⟩
  exact this y.toNat (by omega)
theorem minS (k z : Int) (n : Nat) (h0 : 0 ≤ k) (h1 : 0 ≤ z) (h2 : k ≤ 1000) (h3 : z ≤ 1000) : 0 ≤ min (n : Int) (IntKind.i64.wrap (k + z)) ∧ min (n : Int) (IntKind.i64.wrap (k + z)) ≤ (n : Int) := by
  have e : IntKind.i64.wrap (k + z) = k + z := by rw [IntKind.wrap_i64]; omega
  rw [e]; omega
theorem kept {w w' : World} {b : Nat} (h : w.grownBy w' (some b)) : ∀ blk o, b < blk → blk < w.heap.size → w'.cell? ⟨blk, o, none⟩ = w.cell? ⟨blk, o, none⟩ :=
  fun blk o h1 h2 => World.cell?_of_block (a := ⟨blk, o, none⟩) (h.block blk h2 (fun e => by cases e; omega))

theorem bel {w W w' : World} {B : Nat} (h : Below B w W) (hg : W.grownBy w' (some B)) (hB : B ≤ W.heap.size) : Below B w w' := h.trans (Cu.grown_below hg (Nat.le_refl _) hB)
theorem szS (S : List UInt8) (t : ByteArray) (k m n : Nat) (hS : S.length ≤ 12) (ht : t.size ≤ 1) : ((ByteArray.mk S.toArray).extract 0 k ++ t ++ (ByteArray.mk S.toArray).extract m n).size ≤ 1000 := by
  have e : (ByteArray.mk S.toArray).size = S.length := by simp [ByteArray.size]
  simp only [ByteArray.size_append, ByteArray.size_extract, e]
  omega

set_option maxHeartbeats 8000000 in
theorem drawRead (w : World) (a : Option Addr) (len cap : Nat) (hB : Cu.Bytes w w.heap.size a len) (hl : (len : Int) ≤ 1048576) :
    Calls Tryd.prog 9 #[.slice a len cap] w fun e w' => ∃ s : ByteArray, e = .returned (.string s) ∧ s.size ≤ 1000 ∧ Below w.heap.size w w' := by
  go_enter Tryd.func9, Tryd.ntmps9
  go_wp2_with fail
  refine (Cu.open_any _ _ _ _ hB hl).mono ?_
  rintro e w1 ⟨rfl, hg, hc⟩
  go_wp2_with fail
  refine (Cu.fix_any _ _ _ hc (by omega)).mono ?_
  rintro e w2 ⟨x, rfl, x0, x1, hg2, hc2⟩
  go_wp2_with fail
  refine (Tx.stext _ _).mono ?_
  rintro e w3 ⟨rfl, hB3⟩
  have hc3 : Cu.Cur w3 w.heap.size (0 + 1) := hc2.kept hB3.size (fun k hk => hB3.block k hk)
  have hB' : Below w.heap.size w w3 := (Cu.grown_below (Cu.grown_trans hg hg2) (Nat.le_refl _) (Nat.le_refl _)).trans (hB3.mono (Nat.le_trans hg.size hg2.size))
  have hsl := (Re.ftext_len (x := x) (by unfold Tx.fok; simp; omega)).2
  have hsp := (Re.ftext_len (x := x) (by unfold Tx.fok; simp; omega)).1
  obtain ⟨S, hS⟩ : ∃ S, S = Tx.ftext x := ⟨_, rfl⟩
  rw [← hS] at hsl hsp ⊢
  clear hS hB3 hg hg2 hc hc2
  go_wp2_with fail
  refine (Cu.once_any _ _ _ hc3 (by omega) _ (by omega) (by omega)).mono ?_
  rintro e w4 ⟨t, rfl, hg4, hz4, hc4⟩
  have hB4 : Below w.heap.size w w4 := hB'.trans (Cu.grown_below hg4 (Nat.le_refl _) hB'.size)
  clear hg4 hz4 hc3
  cases t
  · go_wp2
    go_ret
    exact ⟨_, rfl, by simp [ByteArray.size]; omega, hB4⟩
  · go_wp2_with fail
    refine (Cu.pick_any _ _ _ hc4 (by omega) _ (by omega)).mono ?_
    rintro e w5 ⟨k, rfl, k0, k1, hg5, hz5, hc5⟩
    have hB5 : Below w.heap.size w w5 := hB4.trans (Cu.grown_below hg5 (Nat.le_refl _) hB4.size)
    have k2 : k ≤ (S.length : Int) := by have := k1 (by omega); omega
    clear hg5 hz5 hc4 k1 hB4 hB'
    go_wp2_with fail
    have hlt5 : w.heap.size < w5.heap.size := by obtain ⟨_, _, _, _, _, h, _⟩ := hc5; exact h
    go_region_with (first | (go_at_call_of 20 (Value.int .i64 6); refine (Cu.pick_any _ _ _ (by first | assumption | exact Cu.Cur.drew (by assumption) | exact Cu.Cur.alloc (by assumption) _ | exact Cu.Cur.drew (Cu.Cur.alloc (by assumption) _)) (by omega) _ (by omega)).mono ?_; rintro e w6 ⟨y, rfl, y0, y1, hg6, hz6, hc6⟩; have y2 := y1 (by omega); obtain ⟨t, ht, hts⟩ := tabS y y0 (by omega); have hk6 := kept hg6; have hz6' := Nat.le_of_eq hz6.symm; have hz6'' := Nat.le_of_eq hz6; try simp at hz6'; try simp at hz6''; try simp at hk6; have hlt6 : w.heap.size < w6.heap.size := by omega; try (have hlt6' : w5.heap.size < w6.heap.size := by omega); clear hz6 y1) | (go_at_call_of 20 (Value.int .i64 2); refine (Cu.pick_any _ _ _ (by first | assumption | exact Cu.Cur.drew (by assumption) | exact Cu.Cur.alloc (by assumption) _ | exact Cu.Cur.drew (Cu.Cur.alloc (by assumption) _)) (by omega) _ (by omega)).mono ?_; rintro e w7 ⟨z, rfl, z0, z1, hg7, hz7, hc7⟩; have z2 := z1 (by omega); obtain ⟨m0, m1⟩ := minS k z S.length k0 z0 (by omega) (by omega); have hk7 := kept hg7; have hz7' := Nat.le_of_eq hz7.symm; have hz7'' := Nat.le_of_eq hz7; try simp at hz7'; try simp at hz7''; try simp at hk7; have hlt7 : w.heap.size < w7.heap.size := by omega; try (have hlt7' : w5.heap.size < w7.heap.size := by omega); clear hz7 z1))
    all_goals go_wp2
    all_goals go_ret
    all_goals refine ⟨_, rfl, szS S t _ _ _ hsl hts, ?_⟩
    all_goals repeat (first | exact hB5 | (refine bel ?_ hg7 (by first | omega | (simp; omega))) | (refine bel ?_ hg6 (by first | omega | (simp; omega))) | refine Below.drew ?_ | (refine Below.alloc ?_ (by first | omega | (simp; omega)) _))
end Go.Proofs.YtjiplokdamkccaaDoor.Dt
