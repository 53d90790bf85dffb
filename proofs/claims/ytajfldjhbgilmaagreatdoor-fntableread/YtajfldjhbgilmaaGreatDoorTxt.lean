/-
  The texts of fixed numbers: what the program's FixText and the model's return is one and the same list of bytes; they make new blocks alone.
-/
import Derived.Test.YtajfldjhbgilmaaGreatDoorNum
namespace Go.Proofs.YtajfldjhbgilmaaGreatDoor.Tx
set_option maxRecDepth 100000
open Go.RowKit

def fok (x : Int) : Bool := decide (-1000000000 ≤ x ∧ x ≤ 1000000000)
theorem ret_bool {a b : Bool} (h : a = b) : Ending.returned (.bool a) = .returned (.bool b) := by rw [h]

set_option maxHeartbeats 400000 in
theorem ok_any (x : Int) (w : World) :
    Calls Tryz.prog 58 #[.int .i64 x] w fun e w' => e = .returned (.bool (fok x)) ∧ w' = w := by
  by_cases h1 : -1000000000 ≤ x <;> by_cases h2 : x ≤ 1000000000
  all_goals
    go_enter Tryz.func58, Tryz.ntmps58
    go_wp2
    go_ret
    refine ⟨ret_bool ?_, rfl⟩
    simp [fok, h1, h2]
def btw (n lo hi : Int) : Bool := decide (lo ≤ n ∧ n ≤ hi)
set_option maxHeartbeats 400000 in
theorem between_any (n lo hi : Int) (w : World) :
    Calls Tryz.prog 38 #[.int .i64 n, .int .i64 lo, .int .i64 hi] w fun e w' => e = .returned (.bool (btw n lo hi)) ∧ w' = w := by
  by_cases h1 : lo ≤ n <;> by_cases h2 : n ≤ hi
  all_goals
    go_enter Tryz.func38, Tryz.ntmps38
    go_wp2
    go_ret
    refine ⟨ret_bool ?_, rfl⟩
    simp [btw, h1, h2]
set_option maxHeartbeats 400000 in
theorem sok_any (x : Int) (w : World) :
    Calls Tryz.prog 49 #[.int .i64 x] w fun e w' => e = .returned (.bool (fok x)) ∧ w' = w := by
  go_enter Tryz.func49, Tryz.ntmps49
  go_wp2_with (go_at_call 38; refine (between_any _ _ _ _).mono ?_; rintro e w' ⟨rfl, rfl⟩)
  go_ret
  exact ⟨rfl, rfl⟩

def fpos (x : Int) : List UInt8 := Lib.itoa (x / 1000) ++ 46 :: (Lib.itoa (1000 + x % 1000)).drop 1
def ftext (x : Int) : List UInt8 := if fok x = true then if x < 0 then 45 :: fpos (-x) else fpos x else []

theorem ret_str {a b : ByteArray} (h : a = b) : Ending.returned (.string a) = .returned (.string b) := by rw [h]
theorem bdata (l : List UInt8) : (ByteArray.mk l.toArray).data.toList = l := by simp
theorem ba_ext {a b : ByteArray} (h : a.data.toList = b.data.toList) : a = b := by
  apply ByteArray.ext
  exact Array.toList_inj.1 h
theorem bx (p a b : List UInt8) (n : Nat) (hn : n = b.length) :
    (ByteArray.mk p.toArray) ++ (ByteArray.mk a.toArray) ++ (ByteArray.mk #[46]) ++ (ByteArray.mk b.toArray).extract 1 n = ByteArray.mk (p ++ (a ++ 46 :: b.drop 1)).toArray := by
  apply ba_ext
  simp [ByteArray.data_append, ByteArray.data_extract, hn]
  exact List.take_of_length_le (by simp)
theorem bx' (a b : List UInt8) (n : Nat) (hn : n = b.length) :
    (ByteArray.mk a.toArray) ++ (ByteArray.mk #[46]) ++ (ByteArray.mk b.toArray).extract 1 n = ByteArray.mk (a ++ 46 :: b.drop 1).toArray := by
  apply ba_ext
  simp [ByteArray.data_append, ByteArray.data_extract, hn]
  exact List.take_of_length_le (by simp)
theorem itoa_pos (n : Int) : 1 ≤ (Lib.itoa n).length := by
  unfold Lib.itoa
  split
  · simp
  · rw [Lib.decDigits_length]; exact Lib.nDigits_pos _
theorem fok_iff {a : Int} (h : fok a = true) : -1000000000 ≤ a ∧ a ≤ 1000000000 := by unfold fok at h; simpa using h
theorem fpos_len (x : Int) (h0 : 0 ≤ x) (h1 : x ≤ 1000000000) : (fpos x).length ≤ 43 := by
  have a := Nu.itoa_len (x / 1000) (by omega) (by omega)
  have b := Nu.itoa_len (1000 + x % 1000) (by omega) (by omega)
  unfold fpos
  simp
  omega

set_option maxHeartbeats 1000000 in
theorem stext_pos (x : Int) (w : World) (hf : fok x = true) (h0 : 0 ≤ x) (h1 : x ≤ 1000000000) :
    Calls Tryz.prog 32 #[.int .i64 x] w fun e w' => e = .returned (.string ⟨(fpos x).toArray⟩) ∧ Below w.heap.size w w' := by
  have hl1 := Nu.itoa_len (x / 1000) (by omega) (by omega)
  have hl2 := Nu.itoa_len (1000 + x % 1000) (by omega) (by omega)
  have hl3 := itoa_pos (1000 + x % 1000)
  go_enter Tryz.func32, Tryz.ntmps32
  go_wp2_with (go_at_call 49; refine (sok_any _ _).mono ?_; rintro e w' ⟨rfl, hw⟩; subst w')
  refine (Nu.snum _ _ (by omega) (by omega)).mono ?_
  rintro e w1 ⟨rfl, hB1⟩
  go_wp2_with fail
  refine (Nu.snum _ _ (by omega) (by omega)).mono ?_
  rintro e w2 ⟨rfl, hB2⟩
  go_wp2
  go_ret
  exact ⟨ret_str (bx [] _ _ _ rfl), hB1.trans (hB2.mono hB1.size)⟩

set_option maxHeartbeats 1000000 in
theorem stext_neg (x : Int) (w : World) (hf : fok x = true) (h0 : x < 0) (h1 : -1000000000 ≤ x) :
    Calls Tryz.prog 32 #[.int .i64 x] w fun e w' => e = .returned (.string ⟨(45 :: fpos (-x)).toArray⟩) ∧ Below w.heap.size w w' := by
  obtain ⟨y, hy⟩ : ∃ y : Int, y = -x := ⟨_, rfl⟩
  have y0 : 0 < y := by omega
  have y1 : y ≤ 1000000000 := by omega
  have hx : x = -y := by omega
  clear hy
  subst hx
  have hl1 := Nu.itoa_len (y / 1000) (by omega) (by omega)
  have hl2 := Nu.itoa_len (1000 + y % 1000) (by omega) (by omega)
  have hl3 := itoa_pos (1000 + y % 1000)
  go_enter Tryz.func32, Tryz.ntmps32
  go_wp2_with (go_at_call 49; refine (sok_any _ _).mono ?_; rintro e w' ⟨rfl, hw⟩; subst w')
  refine (Nu.snum _ _ (by omega) (by omega)).mono ?_
  rintro e w1 ⟨rfl, hB1⟩
  go_wp2_with fail
  refine (Nu.snum _ _ (by omega) (by omega)).mono ?_
  rintro e w2 ⟨rfl, hB2⟩
  go_wp2
  go_ret
  exact ⟨ret_str (by rw [Int.neg_neg]; exact bx [45] _ _ _ rfl), hB1.trans (hB2.mono hB1.size)⟩

set_option maxHeartbeats 1000000 in
theorem stext_no (x : Int) (w : World) (hf : fok x = false) :
    Calls Tryz.prog 32 #[.int .i64 x] w fun e w' => e = .returned (.string ⟨#[]⟩) ∧ w' = w := by
  go_enter Tryz.func32, Tryz.ntmps32
  go_wp2_with (go_at_call 49; refine (sok_any _ _).mono ?_; rintro e w' ⟨rfl, hw⟩; subst w')
  go_ret
  exact ⟨rfl, rfl⟩

theorem stext (x : Int) (w : World) :
    Calls Tryz.prog 32 #[.int .i64 x] w fun e w' => e = .returned (.string ⟨(ftext x).toArray⟩) ∧ Below w.heap.size w w' := by
  unfold ftext
  by_cases hf : fok x = true
  · rw [if_pos hf]
    by_cases h : x < 0
    · rw [if_pos h]; exact stext_neg x w hf h (fok_iff hf).1
    · rw [if_neg h]; exact stext_pos x w hf (by omega) (fok_iff hf).2
  · rw [if_neg hf]
    refine (stext_no x w (by simpa using hf)).mono ?_
    rintro e w' ⟨rfl, rfl⟩
    exact ⟨rfl, Below.refl _ _⟩

set_option maxHeartbeats 1000000 in
theorem text_pos (x : Int) (w : World) (hf : fok x = true) (h0 : 0 ≤ x) (h1 : x ≤ 1000000000) (hT : Nu.Tab w) :
    Calls Tryz.prog 61 #[.int .i64 x] w fun e w' => e = .returned (.string ⟨(fpos x).toArray⟩) ∧ Below w.heap.size w w' := by
  have hl1 := Nu.itoa_len (x / 1000) (by omega) (by omega)
  have hl2 := Nu.itoa_len (1000 + x % 1000) (by omega) (by omega)
  have hl3 := itoa_pos (1000 + x % 1000)
  go_enter Tryz.func61, Tryz.ntmps61
  go_wp2_with (go_at_call 58; refine (ok_any _ _).mono ?_; rintro e w' ⟨rfl, hw⟩; subst w')
  refine (Nu.inum _ _ (by omega) (by omega) hT).mono ?_
  rintro e w1 ⟨rfl, hB1⟩
  go_wp2_with fail
  refine (Nu.inum _ _ (by omega) (by omega) (hT.below hB1)).mono ?_
  rintro e w2 ⟨rfl, hB2⟩
  go_wp2
  go_ret
  exact ⟨ret_str (bx' _ _ _ rfl), hB1.trans (hB2.mono hB1.size)⟩

set_option maxHeartbeats 1000000 in
theorem text_neg (x : Int) (w : World) (hf : fok x = true) (h0 : x < 0) (h1 : -1000000000 ≤ x) (hT : Nu.Tab w) :
    Calls Tryz.prog 61 #[.int .i64 x] w fun e w' => e = .returned (.string ⟨(45 :: fpos (-x)).toArray⟩) ∧ Below w.heap.size w w' := by
  have hl1 := fpos_len (-x) (by omega) (by omega)
  have hf' : fok (-x) = true := by unfold fok; simp; omega
  go_enter Tryz.func61, Tryz.ntmps61
  go_wp2_with (go_at_call 58; refine (ok_any _ _).mono ?_; rintro e w' ⟨rfl, hw⟩; subst w')
  refine (text_pos _ _ hf' (by omega) (by omega) hT).mono ?_
  rintro e w1 ⟨rfl, hB1⟩
  go_wp2
  go_ret
  exact ⟨ret_str (by apply ba_ext; simp [ByteArray.data_append]), hB1⟩

set_option maxHeartbeats 1000000 in
theorem text_no (x : Int) (w : World) (hf : fok x = false) :
    Calls Tryz.prog 61 #[.int .i64 x] w fun e w' => e = .returned (.string ⟨#[]⟩) ∧ w' = w := by
  go_enter Tryz.func61, Tryz.ntmps61
  go_wp2_with (go_at_call 58; refine (ok_any _ _).mono ?_; rintro e w' ⟨rfl, hw⟩; subst w')
  go_ret
  exact ⟨rfl, rfl⟩

theorem text (x : Int) (w : World) (hT : Nu.Tab w) :
    Calls Tryz.prog 61 #[.int .i64 x] w fun e w' => e = .returned (.string ⟨(ftext x).toArray⟩) ∧ Below w.heap.size w w' := by
  unfold ftext
  by_cases hf : fok x = true
  · rw [if_pos hf]
    by_cases h : x < 0
    · rw [if_pos h]; exact text_neg x w hf h (fok_iff hf).1 hT
    · rw [if_neg h]; exact text_pos x w hf (by omega) (fok_iff hf).2 hT
  · rw [if_neg hf]
    refine (text_no x w (by simpa using hf)).mono ?_
    rintro e w' ⟨rfl, rfl⟩
    exact ⟨rfl, Below.refl _ _⟩

set_option maxHeartbeats 400000 in
theorem itext (x : Int) (w : World) (hT : Nu.Tab w) :
    Calls Tryz.prog 43 #[.int .i64 x] w fun e w' => e = .returned (.string ⟨(ftext x).toArray⟩) ∧ Below w.heap.size w w' := by
  go_enter Tryz.func43, Tryz.ntmps43
  go_wp2_with fail
  refine (text _ _ hT).mono ?_
  rintro e w1 ⟨rfl, hB1⟩
  go_wp2
  go_ret
  exact ⟨rfl, hB1⟩
end Go.Proofs.YtajfldjhbgilmaaGreatDoor.Tx
