/-
  What both readers answer, in one form; how great what was read can be.
-/
import Derived.Test.YtajfldjhbgilmaaGreatDoorRdT
import Derived.Test.YtajfldjhbgilmaaGreatDoorMarkT
namespace Go.Proofs.YtajfldjhbgilmaaGreatDoor.Su
set_option maxRecDepth 100000
open Go.RowKit
open Go.Proofs.YtajfldjhbgilmaaGreatDoor.Tb
open Go.Proofs.YtajfldjhbgilmaaGreatDoor.Tk
open Go.Proofs.YtajfldjhbgilmaaGreatDoor.Rd
def inT (T : Int × Int × List Row) (x : Int) : Int := if T.2.1 = 0 then x else 0
def lnT (T : Int × Int × List Row) : Int := if T.2.1 = 0 then 0 else T.1
def rsT (T : Int × Int × List Row) : List Row := if T.2.1 = 0 then T.2.2 else []
theorem ans {w w' : World} {n c : Int} {T : Int × Int × List Row} {e : Ending} (h : Ans w w' n c T e) :
    ∃ a cap, e = .returned (.tuple #[.agg #[.int .i64 (inT T n), .int .i64 (inT T c), .slice a (rsT T).length cap], .int .i64 (lnT T), .int .i64 T.2.1]) ∧ OwnT w' w.heap.size w'.heap.size (.slice a (rsT T).length cap) (rsT T) := by
  unfold inT lnT rsT
  rcases h with ⟨h0, v, rfl, ho⟩ | ⟨h0, rfl⟩
  · rw [if_pos h0, if_pos h0, if_pos h0, if_pos h0]
    obtain ⟨a, cap, rfl, _⟩ := ho.isr
    exact ⟨a, cap, by rw [h0], ho⟩
  · rw [if_neg h0, if_neg h0, if_neg h0, if_neg h0]
    exact ⟨none, 0, rfl, OwnT.nil _ _ _⟩
theorem lets12 : ∀ (l : List ByteArray), l.all wok = true → lets l ≤ 12 * l.length
  | [], _ => by simp [lets]
  | s :: r, h => by
    rw [List.all_cons, Bool.and_eq_true] at h
    have h1 : s.size ≤ 12 := by
      have := h.1
      unfold wok wlen at this
      simp at this
      omega
    have := lets12 r h.2
    simp only [lets, List.length_cons]; omega
theorem row_sz (N C : Nat) (hN : N ≤ 3) (hC : C ≤ 2) (ps : List ByteArray) : (Pc.rread N C ps).2.sz ≤ 29 := by
  unfold Pc.rread
  split
  · split
    · split
      · rename_i hw
        split
        · have h1 := lets12 _ hw
          have h2 : ((ps.drop N).take C).length ≤ C := by rw [List.length_take]; omega
          show ((ps.take N).map Pc.val).length + (((ps.drop N).take C).length + lets ((ps.drop N).take C)) ≤ 29
          have h3 : ((ps.take N).map Pc.val).length ≤ N := by rw [List.length_map, List.length_take]; omega
          omega
        · simp [Pc.rzero, Row.sz, lets]
      · simp [Pc.rzero, Row.sz, lets]
    · simp [Pc.rzero, Row.sz, lets]
  · simp [Pc.rzero, Row.sz, lets]
theorem szR_append (a b : List Row) : szR (a ++ b) = szR a + szR b := by
  induction a with
  | nil => simp [szR]
  | cons r a ih => simp only [List.cons_append, szR, ih]; omega
theorem lread_sz (N C : Nat) (hN : N ≤ 3) (hC : C ≤ 2) : ∀ (ls : List (List UInt8)) (k : Nat), (Pc.lread N C k ls).2.2.length ≤ ls.length ∧ szR (Pc.lread N C k ls).2.2 ≤ 29 * ls.length
  | [], k => by simp [Pc.lread, szR]
  | [l], k => by
    unfold Pc.lread
    split <;> simp [szR]
  | l :: l2 :: ls, k => by
    have ih := lread_sz N C hN hC (l2 :: ls) (k + 1)
    have hr := row_sz N C hN hC (Pc.pcs 44 l)
    unfold Pc.lread
    split
    · split
      · simp [szR]
      · unfold Pc.more
        split
        · simp only [List.length_append, szR_append, List.length_cons, szR, List.length_nil] at ih ⊢
          omega
        · simp only [List.length_cons] at ih ⊢
          omega
    · simp [szR]
/-- A table that was read is not great. -/
theorem tread_sz (n c : Int) (t : List UInt8) : (rsT (Pc.tread n c t)).length + szR (rsT (Pc.tread n c t)) ≤ 200000 := by
  unfold rsT
  split
  · unfold Pc.tread
    split
    · rename_i hq
      split
      · rename_i h6
        have hs := sok_iff.1 hq
        have h := lread_sz n.toNat c.toNat (by omega) (by omega) (Pc.pieces 10 t) 0
        have hp := Pc.pieces_len 10 t
        omega
      · simp [szR]
    · simp [szR]
  · simp [szR]
end Go.Proofs.YtajfldjhbgilmaaGreatDoor.Su
