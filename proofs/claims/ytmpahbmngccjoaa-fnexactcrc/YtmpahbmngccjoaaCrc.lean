/-
  Crc of the program and of the model: both are the sum of 32 bits, byte by byte, bit by bit.
-/
import Derived.Test.YtmpahbmngccjoaaRows
import Derived.WalkKit
import Derived.ProofKit
import Derived.Laws.BitsAllLaws
import Derived.Laws.BitsLemmas
import Derived.RowKit
namespace Go.Proofs.Ytmpahbmngccjoaa.Cr
set_option maxRecDepth 100000
open Go.RowKit

/-! ### The sum, as plain numbers -/
def st (x : Nat) : Nat := if x % 2 = 1 then x / 2 ^^^ 3988292384 else x / 2
def sts : Nat → Nat → Nat
  | 0, x => x
  | k + 1, x => st (sts k x)
def byte (x : Nat) (c : UInt8) : Nat := sts 8 (x ^^^ c.toNat)
def crc (l : List UInt8) : Nat := l.foldl byte 4294967295 ^^^ 4294967295
theorem xor_lt {x y : Nat} (hx : x < 4294967296) (hy : y < 4294967296) : x ^^^ y < 4294967296 := Nat.xor_lt_two_pow (n := 32) hx hy
theorem st_lt {x : Nat} (h : x < 4294967296) : st x < 4294967296 := by
  unfold st
  split
  · exact xor_lt (by omega) (by omega)
  · omega
theorem sts_lt {x : Nat} (h : x < 4294967296) : ∀ k, sts k x < 4294967296
  | 0 => h
  | k + 1 => st_lt (sts_lt h k)
theorem byte_lt {x : Nat} (h : x < 4294967296) (c : UInt8) : byte x c < 4294967296 := sts_lt (xor_lt h (by have := c.toNat_lt; omega)) 8
theorem fold_lt : ∀ (l : List UInt8) {x : Nat}, x < 4294967296 → l.foldl byte x < 4294967296
  | [], _, h => h
  | c :: l, _, h => fold_lt l (byte_lt h c)
theorem crc_lt (l : List UInt8) : crc l < 4294967296 := xor_lt (fold_lt l (by omega)) (by omega)
theorem xor_i64 (a b : Nat) (ha : a < 4294967296) (hb : b < 4294967296) : bits .xor .i64 (a : Int) (b : Int) = ((a ^^^ b : Nat) : Int) := by
  have hx : a ^^^ b < 4294967296 := xor_lt ha hb
  show IntKind.i64.wrap ((BitVec.ofInt 64 (a : Int) ^^^ BitVec.ofInt 64 (b : Int)).toNat : Int) = _
  rw [BitVec.toNat_xor, BitVec.ofInt_natCast, BitVec.toNat_ofNat, BitVec.ofInt_natCast, BitVec.toNat_ofNat, Nat.mod_eq_of_lt (by omega), Nat.mod_eq_of_lt (by omega), IntKind.wrap_i64]
  omega
theorem xor_u32 (a b : Nat) (ha : a < 4294967296) (hb : b < 4294967296) : bits .xor .u32 (a : Int) (b : Int) = ((a ^^^ b : Nat) : Int) := u32_xor_nat a b ha hb
theorem take_snoc (s : ByteArray) (k : Nat) (h : k < s.size) : s.data.toList.take (k + 1) = s.data.toList.take k ++ [s[k]] := by
  rw [List.take_succ_eq_append_getElem (by simpa using h)]; rfl
def upto (s : ByteArray) (k : Nat) : Nat := (s.data.toList.take k).foldl byte 4294967295
theorem upto_snoc (s : ByteArray) (k : Nat) (h : k < s.size) : upto s (k + 1) = sts 8 (upto s k ^^^ (s[k]).toNat) := by
  unfold upto; rw [take_snoc s k h, List.foldl_append]; rfl
theorem upto_lt (s : ByteArray) (k : Nat) : upto s k < 4294967296 := fold_lt _ (by omega)
theorem upto_all (s : ByteArray) : upto s s.size ^^^ 4294967295 = crc s.data.toList := by
  unfold upto crc
  rw [List.take_of_length_le (by simp)]

/-! ### The model's -/
set_option maxHeartbeats 4000000 in
theorem scrc (s : ByteArray) (w : World) (hs : s.size ≤ 1048576) :
    Calls Try.prog 4 #[.string s] w fun e w' => e = .returned (.int .i64 (crc s.data.toList : Nat)) ∧ w' = w := by
  go_enter Try.func4, Try.ntmps4
  go_wp2
  go_loop [3, 4] (fun x i => ∃ k : Nat, k ≤ s.size ∧ i = .int .i64 k ∧ x = .int .i64 (upto s k : Nat)) (fun _ i => s.size - (intOf i).toNat)
  case atStart => exact ⟨0, Nat.zero_le _, rfl, rfl⟩
  case round =>
    obtain ⟨k, hk, rfl, rfl⟩ := hrel
    have hu := upto_lt s k
    by_cases hlt : k < s.size
    · have HN : Hid (upto s (k + 1) = sts 8 (upto s k ^^^ (s[k]).toNat)) := upto_snoc s k hlt
      obtain ⟨u, hu0⟩ : ∃ u, upto s k = u := ⟨_, rfl⟩
      rw [hu0] at HN hu ⊢
      clear hu0
      have hc : (s[k]).toNat < 256 := (s[k]).toNat_lt
      have hx := xor_i64 u (s[k]).toNat hu (by omega)
      obtain ⟨y, hy0⟩ : ∃ y, u ^^^ (s[k]).toNat = y := ⟨_, rfl⟩
      have hy : y < 4294967296 := by rw [← hy0]; exact xor_lt hu (by omega)
      rw [hy0] at HN hx
      clear hy0
      go_wp2
      go_loop [3, 5] (fun x i => ∃ m : Nat, m ≤ 8 ∧ i = .int .i64 m ∧ x = .int .i64 (sts m y : Nat)) (fun _ i => 8 - (intOf i).toNat)
      case atStart => exact ⟨0, Nat.zero_le _, rfl, rfl⟩
      case round =>
        obtain ⟨m, hm, rfl, rfl⟩ := hrel
        have hz := sts_lt hy m
        have HS : Hid (sts (m + 1) y = st (sts m y)) := rfl
        by_cases hml : m < 8
        · obtain ⟨z, hz0⟩ : ∃ z, sts m y = z := ⟨_, rfl⟩
          rw [hz0] at HS hz ⊢
          clear hz0
          by_cases hodd : z % 2 = 1
          · have e1 : ((z : Int) % 2 == 1) = true := by simp; omega
            have e2 : bits .xor .i64 ((z : Int) / 2) 3988292384 = ((z / 2 ^^^ 3988292384 : Nat) : Int) := by
              have := xor_i64 (z / 2) 3988292384 (by omega) (by omega)
              simpa using this
            have HT : Hid (sts (m + 1) y = z / 2 ^^^ 3988292384) := by show _ = _; rw [HS.out]; unfold st; rw [if_pos hodd]
            clear hodd
            go_wp2
            go_round
            case rel => exact ⟨m + 1, by omega, by go_num, by rw [HT.out]⟩
            case measure => simp [intOf]; omega
          · have e1 : ((z : Int) % 2 == 1) = false := by simp; omega
            have HT : Hid (sts (m + 1) y = z / 2) := by show _ = _; rw [HS.out]; unfold st; rw [if_neg hodd]
            clear hodd
            go_wp2
            go_round
            case rel => exact ⟨m + 1, by omega, by go_num, by rw [HT.out]; go_num⟩
            case measure => simp [intOf]; omega
        · obtain rfl : m = 8 := by omega
          go_wp2
          go_round
          case rel => exact ⟨k + 1, by omega, by go_num, by rw [HN.out]⟩
          case measure => simp [intOf]; omega
    · obtain rfl : k = s.size := by omega
      have HA : Hid (upto s s.size ^^^ 4294967295 = crc s.data.toList) := upto_all s
      obtain ⟨u, hu0⟩ : ∃ u, upto s s.size = u := ⟨_, rfl⟩
      rw [hu0] at HA hu ⊢
      clear hu0
      have hx : bits .xor .i64 (u : Int) 4294967295 = ((u ^^^ 4294967295 : Nat) : Int) := by simpa using xor_i64 u 4294967295 hu (by omega)
      go_wp2
      go_ret
      exact ⟨by rw [HA.out]; rfl, rfl⟩

/-! ### The program's -/
set_option maxHeartbeats 4000000 in
theorem ishift (x : Nat) (w : World) (hx : x < 4294967296) :
    Calls Try.prog 6 #[.int .u32 (x : Nat)] w fun e w' => e = .returned (.int .u32 (st x : Nat)) ∧ w' = w := by
  have h1 : bits .and .u32 (x : Int) 1 = ((x % 2 : Nat) : Int) := by
    have := u32_and_nat x 1 hx (by omega)
    rw [nat_mask1] at this
    simpa using this
  have h2 : bits .xor .u32 ((x : Int) / 2) 3988292384 = ((x / 2 ^^^ 3988292384 : Nat) : Int) := by simpa using xor_u32 (x / 2) 3988292384 (by omega) (by omega)
  have HS : Hid (st x = if x % 2 = 1 then x / 2 ^^^ 3988292384 else x / 2) := rfl
  by_cases hodd : x % 2 = 1
  · rw [hodd] at h1
    rw [if_pos hodd] at HS
    clear hodd
    go_enter Try.func6, Try.ntmps6
    go_wp2
    go_ret
    exact ⟨by rw [HS.out]; rfl, rfl⟩
  · rw [show x % 2 = 0 by omega] at h1
    rw [if_neg hodd] at HS
    clear hodd
    go_enter Try.func6, Try.ntmps6
    go_wp2
    go_ret
    exact ⟨by rw [HS.out]; rfl, rfl⟩

set_option maxHeartbeats 4000000 in
theorem icrc (s : ByteArray) (w : World) (hs : s.size ≤ 1048576) :
    Calls Try.prog 5 #[.string s] w fun e w' => e = .returned (.int .i64 (crc s.data.toList : Nat)) ∧ w' = w := by
  go_enter Try.func5, Try.ntmps5
  go_wp2
  go_loop [3, 7] (fun x i => ∃ k : Nat, k ≤ s.size ∧ i = .int .i64 k ∧ x = .int .u32 (upto s k : Nat)) (fun _ i => s.size - (intOf i).toNat)
  case atStart => exact ⟨0, Nat.zero_le _, rfl, rfl⟩
  case round =>
    obtain ⟨k, hk, rfl, rfl⟩ := hrel
    have hu := upto_lt s k
    by_cases hlt : k < s.size
    · have HN : Hid (upto s (k + 1) = sts 8 (upto s k ^^^ (s[k]).toNat)) := upto_snoc s k hlt
      obtain ⟨u, hu0⟩ : ∃ u, upto s k = u := ⟨_, rfl⟩
      rw [hu0] at HN hu ⊢
      clear hu0
      have hc : (s[k]).toNat < 256 := (s[k]).toNat_lt
      have hx := xor_u32 u (s[k]).toNat hu (by omega)
      obtain ⟨y, hy0⟩ : ∃ y, u ^^^ (s[k]).toNat = y := ⟨_, rfl⟩
      have hy : y < 4294967296 := by rw [← hy0]; exact xor_lt hu (by omega)
      rw [hy0] at HN hx
      clear hy0
      go_wp2
      go_loop [3, 16] (fun x i => ∃ m : Nat, m ≤ 8 ∧ i = .int .i64 m ∧ x = .int .u32 (sts m y : Nat)) (fun _ i => 8 - (intOf i).toNat)
      case atStart => exact ⟨0, Nat.zero_le _, rfl, rfl⟩
      case round =>
        obtain ⟨m, hm, rfl, rfl⟩ := hrel
        have hz := sts_lt hy m
        have HS : Hid (sts (m + 1) y = st (sts m y)) := rfl
        by_cases hml : m < 8
        · obtain ⟨z, hz0⟩ : ∃ z, sts m y = z := ⟨_, rfl⟩
          rw [hz0] at HS hz ⊢
          clear hz0
          go_wp2_with (go_at_call 6; refine (ishift _ _ hz).mono ?_; rintro e w' ⟨rfl, hw⟩; subst w')
          go_round
          case rel => exact ⟨m + 1, by omega, by go_num, by rw [HS.out]⟩
          case measure => simp [intOf]; omega
        · obtain rfl : m = 8 := by omega
          go_wp2
          go_round
          case rel => exact ⟨k + 1, by omega, by go_num, by rw [HN.out]⟩
          case measure => simp [intOf]; omega
    · obtain rfl : k = s.size := by omega
      have HA : Hid (upto s s.size ^^^ 4294967295 = crc s.data.toList) := upto_all s
      obtain ⟨u, hu0⟩ : ∃ u, upto s s.size = u := ⟨_, rfl⟩
      rw [hu0] at HA hu ⊢
      clear hu0
      have hx : bits .xor .u32 (u : Int) 4294967295 = ((u ^^^ 4294967295 : Nat) : Int) := by simpa using xor_u32 u 4294967295 hu (by omega)
      have hl : u ^^^ 4294967295 < 4294967296 := xor_lt hu (by omega)
      obtain ⟨z, hz0⟩ : ∃ z, u ^^^ 4294967295 = z := ⟨_, rfl⟩
      rw [hz0] at HA hl hx
      clear hz0
      go_wp2
      go_ret
      exact ⟨by rw [← HA.out]; rfl, rfl⟩
end Go.Proofs.Ytmpahbmngccjoaa.Cr
