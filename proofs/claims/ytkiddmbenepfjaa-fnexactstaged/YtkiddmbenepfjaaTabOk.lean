/-
  Which schemas, rows and tables are right: plain functions of lists; contracts of the program's and of its model's tests, which answer just these.
-/
import Derived.Test.YtkiddmbenepfjaaTab
import Derived.Test.YtkiddmbenepfjaaLab
import Derived.Lib.ConvBytes
namespace Go.Proofs.Ytkiddmbenepfjaa.Tk
set_option maxRecDepth 20000
open Go.RowKit
open Go.Proofs.Ytkiddmbenepfjaa.Tb
open Go.Proofs.Ytkiddmbenepfjaa.Li (ret_bool btw between_any)

def fok (x : Int) : Bool := decide (-1000000000 ≤ x ∧ x ≤ 1000000000)
def sok (n c : Int) : Bool := decide ((0 ≤ n ∧ n ≤ 3) ∧ (0 ≤ c ∧ c ≤ 2))
def wbyte (c : UInt8) : Bool := decide ((97 ≤ c.toNat ∧ c.toNat ≤ 122) ∨ (48 ≤ c.toNat ∧ c.toNat ≤ 57) ∨ c.toNat = 95)
def wlen (s : ByteArray) : Bool := decide (1 ≤ s.size ∧ s.size ≤ 12)
def wok (s : ByteArray) : Bool := wlen s && s.data.toList.all wbyte
theorem sok_iff {n c : Int} : sok n c = true ↔ (0 ≤ n ∧ n ≤ 3) ∧ (0 ≤ c ∧ c ≤ 2) := by simp [sok]
set_option maxHeartbeats 400000 in
theorem ok_any (x : Int) (w : World) :
    Calls Try.prog 67 #[.int .i64 x] w fun e w' => e = .returned (.bool (fok x)) ∧ w' = w := by
  by_cases h1 : -1000000000 ≤ x <;> by_cases h2 : x ≤ 1000000000
  all_goals
    go_enter Try.func67, Try.ntmps67
    go_wp2
    go_ret
    refine ⟨ret_bool ?_, rfl⟩
    simp [fok, h1, h2]
set_option maxHeartbeats 400000 in
theorem iok_any (x : Int) (w : World) :
    Calls Try.prog 42 #[.int .i64 x] w fun e w' => e = .returned (.bool (fok x)) ∧ w' = w := by
  go_enter Try.func42, Try.ntmps42
  go_wp2_with (go_at_call 67; refine (ok_any _ _).mono ?_; rintro e w' ⟨rfl, rfl⟩)
  go_ret
  exact ⟨rfl, rfl⟩
set_option maxHeartbeats 400000 in
theorem sok_any (x : Int) (w : World) :
    Calls Try.prog 33 #[.int .i64 x] w fun e w' => e = .returned (.bool (fok x)) ∧ w' = w := by
  go_enter Try.func33, Try.ntmps33
  go_wp2_with (go_at_call 32; refine (between_any _ _ _ _).mono ?_; rintro e w' ⟨rfl, rfl⟩)
  go_ret
  exact ⟨rfl, rfl⟩
set_option maxHeartbeats 1000000 in
theorem isch (w : World) (n c : Int) :
    Calls Try.prog 40 #[.agg #[.int .i64 n, .int .i64 c]] w fun e w' => e = .returned (.bool (sok n c)) ∧ Below w.heap.size w w' := by
  by_cases h1 : 0 ≤ n
  · by_cases h2 : n ≤ 3
    · by_cases h3 : 0 ≤ c
      · by_cases h4 : c ≤ 2
        all_goals
          go_enter Try.func40, Try.ntmps40
          go_wp2
          go_ret
          exact ⟨ret_bool (by unfold sok; first | exact (decide_eq_true (by omega)).symm | exact (decide_eq_false (by omega)).symm), by first | exact (Below.refl _ _).alloc (Nat.le_refl _) _ | exact below_drewN ((Below.refl _ _).alloc (Nat.le_refl _) _) _⟩
      · go_enter Try.func40, Try.ntmps40
        go_wp2
        go_ret
        exact ⟨ret_bool (by unfold sok; first | exact (decide_eq_true (by omega)).symm | exact (decide_eq_false (by omega)).symm), by first | exact (Below.refl _ _).alloc (Nat.le_refl _) _ | exact below_drewN ((Below.refl _ _).alloc (Nat.le_refl _) _) _⟩
    · go_enter Try.func40, Try.ntmps40
      go_wp2
      go_ret
      exact ⟨ret_bool (by unfold sok; first | exact (decide_eq_true (by omega)).symm | exact (decide_eq_false (by omega)).symm), by first | exact (Below.refl _ _).alloc (Nat.le_refl _) _ | exact below_drewN ((Below.refl _ _).alloc (Nat.le_refl _) _) _⟩
  · go_enter Try.func40, Try.ntmps40
    go_wp2
    go_ret
    exact ⟨ret_bool (by unfold sok; first | exact (decide_eq_true (by omega)).symm | exact (decide_eq_false (by omega)).symm), by first | exact (Below.refl _ _).alloc (Nat.le_refl _) _ | exact below_drewN ((Below.refl _ _).alloc (Nat.le_refl _) _) _⟩
theorem sok_btw (n c : Int) : sok n c = (btw n 0 3 && btw c 0 2) := by simp [sok, btw]
set_option maxHeartbeats 1000000 in
theorem ssch (w : World) (n c : Int) :
    Calls Try.prog 31 #[.agg #[.int .i64 n, .int .i64 c]] w fun e w' => e = .returned (.bool (sok n c)) ∧ Below w.heap.size w w' := by
  cases h1 : btw n 0 3
  · go_enter Try.func31, Try.ntmps31
    go_wp2_with (go_at_call 32; refine (between_any _ _ _ _).mono ?_; rintro e w' ⟨rfl, rfl⟩)
    go_ret
    exact ⟨ret_bool (by rw [sok_btw, h1]; rfl), (Below.refl _ _).alloc (Nat.le_refl _) _⟩
  · go_enter Try.func31, Try.ntmps31
    go_wp2_with (go_at_call 32; refine (between_any _ _ _ _).mono ?_; rintro e w' ⟨rfl, rfl⟩)
    go_ret
    exact ⟨ret_bool (by rw [sok_btw, h1]; rfl), (Below.refl _ _).alloc (Nat.le_refl _) _⟩
set_option maxHeartbeats 1000000 in
theorem iwbyte (w : World) (c : UInt8) :
    Calls Try.prog 110 #[.int .u8 (c.toNat : Int)] w fun e w' => e = .returned (.bool (wbyte c)) ∧ w' = w := by
  by_cases h1 : 97 ≤ (c.toNat : Int) <;> by_cases h2 : (c.toNat : Int) ≤ 122 <;> by_cases h3 : 48 ≤ (c.toNat : Int) <;> by_cases h4 : (c.toNat : Int) ≤ 57 <;> by_cases h5 : (c.toNat : Int) = 95
  all_goals first | (exfalso; omega) | skip
  all_goals
    go_enter Try.func110, Try.ntmps110
    go_wp2
    go_ret
    refine ⟨ret_bool ?_, rfl⟩
    unfold wbyte
    first | exact (decide_eq_true (by omega)).symm | exact (decide_eq_false (by omega)).symm | (refine Eq.trans (b := false) (beq_eq_false_iff_ne.2 (by omega)) ?_; exact (decide_eq_false (by omega)).symm)
theorem take_snoc (s : ByteArray) (k : Nat) (h : k < s.size) : s.data.toList.take (k + 1) = s.data.toList.take k ++ [s[k]] := by
  rw [List.take_succ_eq_append_getElem (by simpa using h)]; rfl
theorem all_snoc (s : ByteArray) (k : Nat) (h : k < s.size) (ha : (s.data.toList.take k).all wbyte = true) (hb : wbyte s[k] = true) : (s.data.toList.take (k + 1)).all wbyte = true := by
  rw [take_snoc s k h]; simp only [List.all_append, ha, List.all_cons, hb, List.all_nil, Bool.and_true]
theorem all_no (s : ByteArray) (k : Nat) (h : k < s.size) (hb : wbyte s[k] = false) : s.data.toList.all wbyte = false := by
  have hm : s[k] ∈ s.data.toList := by
    have : s[k] = s.data.toList[k]'(by simpa using h) := rfl
    rw [this]; exact List.getElem_mem _
  cases e : s.data.toList.all wbyte
  · rfl
  · have := List.all_eq_true.1 e _ hm
    rw [hb] at this; cases this
theorem all_end (s : ByteArray) (ha : (s.data.toList.take s.size).all wbyte = true) : s.data.toList.all wbyte = true := by
  rwa [List.take_of_length_le (by simp)] at ha
theorem wok_no {s : ByteArray} (h : wlen s = false) : wok s = false := by unfold wok; rw [h]; rfl
theorem wok_yes {s : ByteArray} (h : wlen s = true) : wok s = s.data.toList.all wbyte := by unfold wok; rw [h]; rfl
theorem wlen_btw (s : ByteArray) : btw (s.size : Int) 1 12 = wlen s := by
  unfold btw wlen
  rw [Bool.eq_iff_iff]
  simp only [decide_eq_true_eq]
  omega
theorem btw_az (c : UInt8) (lo hi : Int) : btw (wrap64 (c.toNat : Int)) lo hi = decide (lo ≤ (c.toNat : Int) ∧ (c.toNat : Int) ≤ hi) := by
  have : c.toNat < 256 := c.toNat_lt
  rw [show wrap64 (c.toNat : Int) = (c.toNat : Int) by unfold wrap64; omega]
  rfl
theorem bytes_below (w : World) (e : TypeId) (s : ByteArray) : Below w.heap.size w (Lib.bytesWorld w e s) :=
  ⟨rfl, rfl, rfl, by rw [Lib.bytesWorld_size]; omega, fun k hk => Lib.bytesWorld_at_old w e s k hk⟩
set_option maxHeartbeats 1000000 in
theorem iword (w : World) (s : ByteArray) (hs : s.size ≤ 9223372036854775807) :
    Calls Try.prog 108 #[.string s] w fun e w' => e = .returned (.bool (wok s)) ∧ Below w.heap.size w w' := by
  cases hw : wlen s
  · have HW : Hid (wok s = false) := wok_no hw
    by_cases h1 : (s.size : Int) < 1
    · clear hw
      go_enter Try.func108, Try.ntmps108
      go_wp2
      go_ret
      exact ⟨by rw [HW.out]; rfl, Below.refl _ _⟩
    · have h2 : 12 < (s.size : Int) := by unfold wlen at hw; have := of_decide_eq_false hw; omega
      clear hw
      go_enter Try.func108, Try.ntmps108
      go_wp2
      go_ret
      exact ⟨by rw [HW.out]; rfl, Below.refl _ _⟩
  · have HW : Hid (wok s = s.data.toList.all wbyte) := wok_yes hw
    have h1 : ¬ (s.size : Int) < 1 := by unfold wlen at hw; have := of_decide_eq_true hw; omega
    have h2 : ¬ 12 < (s.size : Int) := by unfold wlen at hw; have := of_decide_eq_true hw; omega
    clear hw
    have hcv := Lib.run_convert_string_bytes (P := Try.prog) w 9 124 5 s Try.underlying9 Try.underlying124 Try.underlying5
    obtain ⟨W, hW, hB, hc⟩ : ∃ W, Lib.bytesWorld w 5 s = W ∧ Below w.heap.size w W ∧ ∀ j (hj : j < s.size), W.cell? ⟨w.heap.size, j, none⟩ = some (.int .u8 (s[j].toNat : Int)) :=
      ⟨_, rfl, bytes_below _ _ _, fun j hj => by rw [Lib.bytesWorld_cell w _ s j hj]; simp [List.getD, hj]; rfl⟩
    obtain ⟨cap, hcap⟩ : ∃ cap, grownCap w s.size 0 5 = cap := ⟨_, rfl⟩
    rw [hW, hcap] at hcv
    clear hW hcap
    go_enter Try.func108, Try.ntmps108
    go_wp2
    go_loop [16] (fun i => ∃ k : Nat, k ≤ s.size ∧ i = .int .i64 k ∧ (s.data.toList.take k).all wbyte = true) (fun i => s.size - (intOf i).toNat)
    case atStart => exact ⟨0, Nat.zero_le _, rfl, rfl⟩
    case round =>
      obtain ⟨k, hk, rfl, ha⟩ := hrel
      have HA : Hid ((s.data.toList.take k).all wbyte = true) := ha
      clear ha
      by_cases hlt : k < s.size
      · have hck := hc k hlt
        cases hq : wbyte s[k]
        · have HQ : Hid (s.data.toList.all wbyte = false) := all_no s k hlt hq
          go_wp2_with (go_at_call 110; refine (iwbyte _ _).mono ?_; rintro e w' ⟨rfl, hw'⟩; subst w')
          go_ret
          exact ⟨by rw [HW.out, HQ.out]; rfl, hB⟩
        · have HN : Hid ((s.data.toList.take (k + 1)).all wbyte = true) := all_snoc s k hlt HA.out hq
          go_wp2_with (go_at_call 110; refine (iwbyte _ _).mono ?_; rintro e w' ⟨rfl, hw'⟩; subst w')
          go_round
          case rel => exact ⟨k + 1, by omega, by go_num, HN.out⟩
          case measure => simp [intOf]; omega
      · go_wp2
        go_ret
        exact ⟨by rw [HW.out, all_end s (by have := HA.out; rwa [show k = s.size by omega] at this)]; rfl, hB⟩
end Go.Proofs.Ytkiddmbenepfjaa.Tk
