/-
  What stands between the signs of a text: plain functions of lists.
-/
import Derived.Test.YtadjedoakenlkaaGreatDoorRows
import Derived.WalkKit
import Derived.RowKit
import Derived.Lib.Split
import Derived.Lib.SplitLaws
namespace Go.Proofs.YtadjedoakenlkaaGreatDoor.Pc
set_option maxRecDepth 100000
open Go.RowKit

def pieces (c : UInt8) : List UInt8 → List (List UInt8)
  | [] => [[]]
  | x :: r => if x = c then [] :: pieces c r else (x :: (pieces c r).headD []) :: (pieces c r).tail
theorem pieces_ne (c : UInt8) (l : List UInt8) : pieces c l ≠ [] := by cases l <;> simp [pieces]; split <;> simp
theorem pieces_no (c : UInt8) : ∀ (l : List UInt8), c ∉ l → pieces c l = [l]
  | [], _ => rfl
  | x :: r, h => by
    have h1 : ¬ x = c := fun e => h (by rw [e]; simp)
    have h2 : c ∉ r := fun e => h (by simp [e])
    simp [pieces, h1, pieces_no c r h2]
theorem pieces_cut (c : UInt8) (r : List UInt8) : ∀ (a : List UInt8), c ∉ a → pieces c (a ++ c :: r) = a :: pieces c r
  | [], _ => by simp [pieces]
  | x :: a, h => by
    have h1 : ¬ x = c := fun e => h (by rw [e]; simp)
    have h2 : c ∉ a := fun e => h (by simp [e])
    simp [pieces, h1, pieces_cut c r a h2]
theorem first_cut (c : UInt8) : ∀ (l : List UInt8), c ∉ l ∨ ∃ a r, l = a ++ c :: r ∧ c ∉ a
  | [] => .inl (by simp)
  | x :: l => by
    by_cases h : x = c
    · exact .inr ⟨[], l, by simp [h], by simp⟩
    · rcases first_cut c l with h' | ⟨a, r, e, h'⟩
      · exact .inl (by simp; exact ⟨fun e => h e.symm, h'⟩)
      · exact .inr ⟨x :: a, r, by rw [e]; rfl, by simp; exact ⟨fun e => h e.symm, h'⟩⟩
theorem index_no (c : UInt8) : ∀ (l : List UInt8), c ∉ l → Lib.index l [c] = -1
  | [], _ => rfl
  | x :: l, h => by
    have h1 : ¬ c = x := fun e => h (by rw [e]; simp)
    have h2 : c ∉ l := fun e => h (by simp [e])
    rw [Lib.index, index_no c l h2]
    simp [h1]
theorem index_at (c : UInt8) (r : List UInt8) : ∀ (a : List UInt8), c ∉ a → Lib.index (a ++ c :: r) [c] = a.length
  | [], _ => by simp [Lib.index]
  | x :: a, h => by
    have h1 : ¬ c = x := fun e => h (by rw [e]; simp)
    have h2 : c ∉ a := fun e => h (by simp [e])
    rw [List.cons_append, Lib.index, index_at c r a h2, if_neg (by simp [h1]), if_neg (by simp)]
    simp
theorem split_pieces (c : UInt8) : ∀ (k : Nat) (l : List UInt8), l.length ≤ k → Lib.splitK [c] 0 (Lib.count l [c]) l = pieces c l := by
  intro k
  induction k with
  | zero =>
    intro l h
    obtain rfl : l = [] := List.length_eq_zero_iff.1 (by omega)
    rw [Lib.count_miss (index_no c [] (by simp))]; rfl
  | succ k ih =>
    intro l h
    rcases first_cut c l with hn | ⟨a, r, rfl, hn⟩
    · rw [Lib.count_miss (index_no c l hn), pieces_no c l hn]; rfl
    · have hi := index_at c r a hn
      rw [Lib.count_hit (by simp) hi, Nat.add_comm, Lib.splitK, if_neg (by rw [hi]; simp), hi, pieces_cut c r a hn]
      have e1 : (a ++ c :: r).take ((a.length : Int).toNat + 0) = a := by simp
      have e2 : (a ++ c :: r).drop ((a.length : Int).toNat + [c].length) = r := by simp
      have e3 : (a ++ c :: r).drop (a.length + [c].length) = r := by simp
      rw [e1, e2, e3, ih r (by simp at h; omega)]
theorem cut_no (c : UInt8) (l : List UInt8) (h : c ∉ l) : Lib.cut l [c] = (l, [], false) := by
  unfold Lib.cut; rw [index_no c l h, if_neg (by omega)]
theorem cut_at (c : UInt8) (a r : List UInt8) (h : c ∉ a) : Lib.cut (a ++ c :: r) [c] = (a, r, true) := by
  unfold Lib.cut; rw [index_at c r a h, if_pos (by omega)]; simp
def ba (l : List UInt8) : ByteArray := ⟨l.toArray⟩
theorem ba_data (l : List UInt8) : (ba l).data.toList = l := by simp [ba]
theorem ba_of (s : ByteArray) : ba s.data.toList = s := by obtain ⟨⟨l⟩⟩ := s; rfl
theorem ba_size (l : List UInt8) : (ba l).size = l.length := by simp [ba, ByteArray.size]
def pcs (c : UInt8) (l : List UInt8) : List ByteArray := (pieces c l).map ba
theorem splitB_pcs (c : UInt8) (s : ByteArray) : Lib.splitB ⟨#[c]⟩ 0 (Lib.countB s ⟨#[c]⟩) s = pcs c s.data.toList := by
  have h := Lib.splitB_data ⟨#[c]⟩ 0 (Lib.countB s ⟨#[c]⟩) s
  have h2 : Lib.splitK [c] 0 (Lib.countB s ⟨#[c]⟩) s.data.toList = pieces c s.data.toList := split_pieces c _ s.data.toList (Nat.le_refl _)
  rw [show (ByteArray.mk #[c]).data.toList = [c] from rfl, h2] at h
  unfold pcs
  rw [← h, List.map_map]
  conv => lhs; rw [← List.map_id (Lib.splitB ⟨#[c]⟩ 0 (Lib.countB s ⟨#[c]⟩) s)]
  apply List.map_congr_left
  intro x _
  exact (ba_of x).symm
theorem pieces_mem (c : UInt8) : ∀ (l : List UInt8), ∀ p ∈ pieces c l, p.length ≤ l.length
  | [], p, h => by simp [pieces] at h; subst h; simp
  | x :: l, p, h => by
    unfold pieces at h
    split at h
    · rcases List.mem_cons.1 h with rfl | h
      · simp
      · have := pieces_mem c l p h; simp; omega
    · rcases List.mem_cons.1 h with rfl | h
      · have hm : (pieces c l).headD [] ∈ pieces c l := by
          cases e : pieces c l with
          | nil => exact absurd e (pieces_ne c l)
          | cons q qs => simp
        have := pieces_mem c l _ hm
        simp only [List.length_cons]; omega
      · have := pieces_mem c l p (List.mem_of_mem_tail h); simp; omega
theorem pcs_mem (c : UInt8) (l : List UInt8) : ∀ p ∈ pcs c l, p.size ≤ l.length := by
  intro p hp
  simp only [pcs, List.mem_map] at hp
  obtain ⟨q, hq, rfl⟩ := hp
  rw [ba_size]; exact pieces_mem c l q hq
theorem pieces_len (c : UInt8) : ∀ (l : List UInt8), (pieces c l).length ≤ l.length + 1
  | [] => by simp [pieces]
  | x :: l => by
    have := pieces_len c l
    unfold pieces
    split
    · simp; omega
    · simp; omega
/-! ### A row out of its parts -/
end Go.Proofs.YtadjedoakenlkaaGreatDoor.Pc
