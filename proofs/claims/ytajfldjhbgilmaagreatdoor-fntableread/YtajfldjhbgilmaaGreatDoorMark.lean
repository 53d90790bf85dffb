/-
  Marks: what the laws write into a list, a list of texts, a table of the call's own, and whether it is held afterwards.
-/
import Derived.Test.YtajfldjhbgilmaaGreatDoorSiz
import Derived.Deep.DeepMust
import Derived.Laws.IdiomStrings
import Derived.Lib.ItoaNum
namespace Go.Proofs.YtajfldjhbgilmaaGreatDoor.Mk
set_option maxRecDepth 100000
open Go.RowKit
open Go.Proofs.YtajfldjhbgilmaaGreatDoor.Tb
open Go.Proofs.YtajfldjhbgilmaaGreatDoor.Li (ret_bool grown_refl grown_trans grown_set below_none)

def dg (k : Nat) : UInt8 := UInt8.ofNat (48 + k % 10)
/-- The digits of a number, none of 0. -/
def digs (k : Nat) : List UInt8 := if k = 0 then [] else Lib.decDigits k
theorem digs_step (k : Nat) (h : k ≠ 0) : digs k = digs (k / 10) ++ [dg k] := by
  unfold digs dg
  rw [if_neg h, Lib.decDigits]
  by_cases h' : k < 10
  · rw [dif_pos h', if_pos (by omega), Nat.mod_eq_of_lt h']; rfl
  · rw [dif_neg h', if_neg (by omega)]
theorem digs_zero : digs 0 = [] := rfl
theorem digs_len : ∀ (n k : Nat), k < 10 ^ n → (digs k).length ≤ n
  | 0, k, h => by obtain rfl : k = 0 := by simpa using h
                  rw [digs_zero]; simp
  | n + 1, k, h => by
    by_cases h0 : k = 0
    · subst h0; rw [digs_zero]; simp
    · rw [digs_step k h0, List.length_append]
      have := digs_len n (k / 10) (by rw [Nat.pow_succ] at h; omega)
      simp; omega
def mtext (k : Nat) : ByteArray := if k = 0 then ⟨#[109, 48]⟩ else ⟨(109 :: digs k).toArray⟩
theorem dig_toNat (u : Nat) : ((dg u).toNat : Int) = 48 + ((u % 10 : Nat) : Int) := by
  unfold dg; rw [UInt8.toNat_ofNat']; omega
theorem ba_ext {a b : ByteArray} (h : a.data.toList = b.data.toList) : a = b := by
  obtain ⟨⟨l⟩⟩ := a; obtain ⟨⟨r⟩⟩ := b; simp at h; rw [h]
def mtexts (k n : Nat) : List ByteArray := (List.range n).map fun j => mtext (k + j)
theorem mtexts_length (k n : Nat) : (mtexts k n).length = n := by simp [mtexts]
theorem mtexts_get (k n j : Nat) (h : j < (mtexts k n).length) : (mtexts k n)[j] = mtext (k + j) := by simp [mtexts]
theorem grown_below {w wr w1 : World} {row : Option Nat} (h : w.grownBy wr row) (hB : Below wr.heap.size wr w1) : w.grownBy w1 row :=
  ⟨hB.os.trans h.os, hB.tape.trans h.tape, hB.output.trans h.output, Nat.le_trans h.size hB.size, fun k hk hr => (hB.block k (Nat.lt_of_lt_of_le hk h.size)).trans (h.block k hk hr)⟩
end Go.Proofs.YtajfldjhbgilmaaGreatDoor.Mk
