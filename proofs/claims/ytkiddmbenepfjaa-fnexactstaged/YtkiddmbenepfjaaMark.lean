/-
  Marks: what the laws write into a list, a list of texts, a table of the call's own, and whether it is held afterwards.
-/
import Derived.Test.YtkiddmbenepfjaaSiz
import Derived.Deep.DeepMust
import Derived.Laws.IdiomStrings
import Derived.Lib.ItoaNum
namespace Go.Proofs.Ytkiddmbenepfjaa.Mk
set_option maxRecDepth 100000
open Go.RowKit
open Go.Proofs.Ytkiddmbenepfjaa.Tb
open Go.Proofs.Ytkiddmbenepfjaa.Li (ret_bool grown_refl grown_trans grown_set below_none)

def dg (k : Nat) : UInt8 := UInt8.ofNat (48 + k % 10)
/-- The digits of a number, none of 0. -/
def digs (k : Nat) : List UInt8 := if k = 0 then [] else Lib.decDigits k
theorem digs_step (k : Nat) (h : k ≠ 0) : digs k = digs (k / 10) ++ [dg k] := by
  unfold digs dg
  rw [if_neg h, Lib.decDigits]
  by_cases h' : k < 10
  · rw [dif_pos h', if_pos (by omega), Nat.mod_eq_of_lt h']; rfl
  · rw [dif_neg h', if_neg (by omega)]
theorem digs_zero : digs 0 = [] := rfl
theorem digs_len : ∀ (n k : Nat), k < 10 ^ n → (digs k).length ≤ n
  | 0, k, h => by obtain rfl : k = 0 := by simpa using h
                  rw [digs_zero]; simp
  | n + 1, k, h => by
    by_cases h0 : k = 0
    · subst h0; rw [digs_zero]; simp
    · rw [digs_step k h0, List.length_append]
      have := digs_len n (k / 10) (by rw [Nat.pow_succ] at h; omega)
      simp; omega
def mtext (k : Nat) : ByteArray := if k = 0 then ⟨#[109, 48]⟩ else ⟨(109 :: digs k).toArray⟩
theorem dig_toNat (u : Nat) : ((dg u).toNat : Int) = 48 + ((u % 10 : Nat) : Int) := by
  unfold dg; rw [UInt8.toNat_ofNat']; omega
theorem ba_ext {a b : ByteArray} (h : a.data.toList = b.data.toList) : a = b := by
  obtain ⟨⟨l⟩⟩ := a; obtain ⟨⟨r⟩⟩ := b; simp at h; rw [h]
theorem one_byte (W : World) (x : Int) (c : UInt8) (hx : x = (c.toNat : Int)) (T : TypeId) :
    (convert 124 9 (.slice (some ⟨W.heap.size, 0, none⟩) 1 1)).run Try.prog (W.alloc (.cells #[.int .u8 x] T)) = .ok (.string ⟨#[c]⟩) (W.alloc (.cells #[.int .u8 x] T)) := by
  subst hx
  have := run_convert_bytes_back (P := Try.prog) (W.alloc (.cells #[.int .u8 (c.toNat : Int)] T)) 124 9 5 ⟨W.heap.size, 0, none⟩ 1 [c] Try.underlying124 Try.underlying5 Try.underlying9 (fun j hj => by
    obtain rfl : j = 0 := by simp at hj; omega
    rw [Go.WideShapes.add_plain]; simp)
  exact this
set_option maxHeartbeats 1000000 in
theorem mark_text (w : World) (k : Nat) (hk : k ≤ 2000000000000) :
    Calls Try.prog 77 #[.int .i64 k] w fun e w' => e = .returned (.string (mtext k)) ∧ Below w.heap.size w w' := by
  by_cases h0 : k = 0
  · subst h0
    go_enter Try.func77, Try.ntmps77
    go_wp2
    go_ret
    exact ⟨rfl, Below.refl _ _⟩
  · have h0' : ¬ (k : Int) ≤ 0 := by omega
    go_enter Try.func77, Try.ntmps77
    go_wp2
    go_loopw [0, 3] (fun i s wr => ∃ (q : Nat) (o : ByteArray), i = .int .i64 q ∧ s = .string o ∧ q ≤ k ∧ digs q ++ o.data.toList = digs k ∧ Below w.heap.size w wr) (fun i _ _ => (intOf i).toNat)
    case atStart => exact ⟨k, ⟨#[]⟩, rfl, rfl, Nat.le_refl _, by simp, Below.refl _ _⟩
    case round =>
      obtain ⟨q, o, rfl, rfl, hq, hd, hB⟩ := hrel
      have HD : Hid (digs q ++ o.data.toList = digs k) := hd
      clear hd
      have ho : o.size ≤ 13 := by
        have h1 := digs_len 13 k (by omega)
        have h2 := congrArg List.length HD.out
        simp at h2
        omega
      by_cases hz : q = 0
      · subst hz
        go_wp2
        go_ret
        refine ⟨?_, hB⟩
        have hd := HD.out
        rw [digs_zero, List.nil_append] at hd
        have e : mtext k = ⟨#[109]⟩ ++ o := ba_ext (by unfold mtext; rw [if_neg h0]; simp [hd])
        rw [e]; rfl
      · have hcv := one_byte wr (48 + (q : Int) % 10) (dg q) (by rw [dig_toNat]; omega) 5
        have HS := digs_step q hz
        have HS : Hid (digs q = digs (q / 10) ++ [dg q]) := HS
        go_wp2
        go_roundw
        case rel =>
          refine ⟨q / 10, ⟨#[dg q]⟩ ++ o, by go_num, rfl, by omega, ?_, hB.alloc hB.size _⟩
          have := HD.out
          rw [HS.out] at this
          simpa using this
        case measure => simp [intOf]; omega
def mtexts (k n : Nat) : List ByteArray := (List.range n).map fun j => mtext (k + j)
theorem mtexts_length (k n : Nat) : (mtexts k n).length = n := by simp [mtexts]
theorem mtexts_get (k n j : Nat) (h : j < (mtexts k n).length) : (mtexts k n)[j] = mtext (k + j) := by simp [mtexts]
theorem grown_below {w wr w1 : World} {row : Option Nat} (h : w.grownBy wr row) (hB : Below wr.heap.size wr w1) : w.grownBy w1 row :=
  ⟨hB.os.trans h.os, hB.tape.trans h.tape, hB.output.trans h.output, Nat.le_trans h.size hB.size, fun k hk hr => (hB.block k (Nat.lt_of_lt_of_le hk h.size)).trans (h.block k hk hr)⟩
set_option maxHeartbeats 1000000 in
theorem mark_strs (w : World) (base : Nat) (a : Option Addr) (n cap k : Nat) (xs : List ByteArray) (hn : xs.length = n) (h : Ls.Own w base (.slice a n cap) xs) (hl : n ≤ 1048576) (k1 : k ≤ 1000000000000) :
    Calls Try.prog 59 #[.slice a n cap, .int .i64 k] w fun e w' => e = .returned (.int .i64 ((k + n : Nat) : Int)) ∧ Ls.Own w' base (.slice a n cap) (mtexts k n) ∧ w.grownBy w' (Value.slice a n cap).ownBlock := by
  go_enter Try.func59, Try.ntmps59
  go_wp2
  go_loopw [1, 5] (fun q i wr => ∃ j : Nat, j ≤ n ∧ i = .int .i64 j ∧ q = .int .i64 ((k + j : Nat) : Int) ∧ ∃ l : List ByteArray, l.length = n ∧ Ls.Like l (mtexts k n) j ∧ Ls.Own wr base (.slice a n cap) l ∧ w.grownBy wr (Value.slice a n cap).ownBlock) (fun _ i _ => n - (intOf i).toNat)
  case atStart => exact ⟨0, Nat.zero_le _, rfl, by go_num, xs, hn, fun j hj => by omega, h, grown_refl _ _⟩
  case round =>
    obtain ⟨j, hj, rfl, rfl, l, hll, hlike, hown, hg⟩ := hrel
    clear h
    by_cases hlt : j < n
    · have hown0 := hown
      rcases hown0.2 with ⟨hv, h0⟩ | ⟨g, cap', cur, hv, _⟩
      · omega
      · obtain ⟨rfl, rfl, rfl⟩ : a = some ⟨g, 0, none⟩ ∧ n = l.length ∧ cap = cap' := by simpa using hv
        clear hv hown0
        have HL : Hid (Ls.Like (l.set j (mtext (k + j))) (mtexts k l.length) (j + 1)) := by
          have := Ls.like_set hlike (by rw [mtexts_length]; exact hlt) (by rw [mtexts_length])
          rwa [mtexts_get] at this
        clear hlike
        go_wp2_with fail
        refine (mark_text _ (k + j) (by omega)).mono ?_
        rintro e w1 ⟨rfl, hB1⟩
        have hown := hown.below hB1
        have hg := grown_below hg hB1
        have hcl := hown.cell rfl j hlt
        have hcf := hown.frozen rfl j
        have HO : Hid (Ls.Own w1 base (.slice (some ⟨g, 0, none⟩) l.length cap) l) := hown
        clear hown hB1
        obtain ⟨t, ht⟩ : ∃ t, mtext (k + j) = t := ⟨_, rfl⟩
        rw [ht] at HL ⊢
        clear ht
        go_wp2
        go_roundw
        case rel => exact ⟨j + 1, by omega, by go_num, by go_num, l.set j t, by simp, HL.out, HO.out.set rfl j _, grown_trans hg (grown_set _ _ _ _)⟩
        case measure => simp [intOf]; omega
    · obtain rfl : j = n := by omega
      have HO : Hid (Ls.Own wr base (.slice a j cap) (mtexts k j)) := by
        have e := Ls.like_all (xs := mtexts k j) (by rw [mtexts_length]; exact hlike) (by rw [mtexts_length]; exact hll)
        rw [← e]; exact hown
      clear hown hlike
      go_wp2
      go_ret
      exact ⟨rfl, HO.out, hg⟩
end Go.Proofs.Ytkiddmbenepfjaa.Mk
