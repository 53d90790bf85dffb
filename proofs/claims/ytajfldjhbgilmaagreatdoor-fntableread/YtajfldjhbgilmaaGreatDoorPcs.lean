/-
  A text of rows, read: plain functions of lists (what stands between the signs; a row out of its parts; the rows out of the lines, or the line and the code of the first fault).
-/
import Derived.Test.YtajfldjhbgilmaaGreatDoorTabX
import Derived.Test.YtajfldjhbgilmaaGreatDoorRead
import Derived.Lib.Split
import Derived.Lib.SplitLaws
namespace Go.Proofs.YtajfldjhbgilmaaGreatDoor.Pc
set_option maxRecDepth 100000
open Go.RowKit
open Go.Proofs.YtajfldjhbgilmaaGreatDoor.Tb
open Go.Proofs.YtajfldjhbgilmaaGreatDoor.Tk

def pieces (c : UInt8) : List UInt8 → List (List UInt8)
  | [] => [[]]
  | x :: r => if x = c then [] :: pieces c r else (x :: (pieces c r).headD []) :: (pieces c r).tail
theorem pieces_ne (c : UInt8) (l : List UInt8) : pieces c l ≠ [] := by cases l <;> simp [pieces]; split <;> simp
theorem pieces_no (c : UInt8) : ∀ (l : List UInt8), c ∉ l → pieces c l = [l]
  | [], _ => rfl
  | x :: r, h => by
    have h1 : ¬ x = c := fun e => h (by rw [e]; simp)
    have h2 : c ∉ r := fun e => h (by simp [e])
    simp [pieces, h1, pieces_no c r h2]
theorem pieces_cut (c : UInt8) (r : List UInt8) : ∀ (a : List UInt8), c ∉ a → pieces c (a ++ c :: r) = a :: pieces c r
  | [], _ => by simp [pieces]
  | x :: a, h => by
    have h1 : ¬ x = c := fun e => h (by rw [e]; simp)
    have h2 : c ∉ a := fun e => h (by simp [e])
    simp [pieces, h1, pieces_cut c r a h2]
theorem first_cut (c : UInt8) : ∀ (l : List UInt8), c ∉ l ∨ ∃ a r, l = a ++ c :: r ∧ c ∉ a
  | [] => .inl (by simp)
  | x :: l => by
    by_cases h : x = c
    · exact .inr ⟨[], l, by simp [h], by simp⟩
    · rcases first_cut c l with h' | ⟨a, r, e, h'⟩
      · exact .inl (by simp; exact ⟨fun e => h e.symm, h'⟩)
      · exact .inr ⟨x :: a, r, by rw [e]; rfl, by simp; exact ⟨fun e => h e.symm, h'⟩⟩
theorem index_no (c : UInt8) : ∀ (l : List UInt8), c ∉ l → Lib.index l [c] = -1
  | [], _ => rfl
  | x :: l, h => by
    have h1 : ¬ c = x := fun e => h (by rw [e]; simp)
    have h2 : c ∉ l := fun e => h (by simp [e])
    rw [Lib.index, index_no c l h2]
    simp [h1]
theorem index_at (c : UInt8) (r : List UInt8) : ∀ (a : List UInt8), c ∉ a → Lib.index (a ++ c :: r) [c] = a.length
  | [], _ => by simp [Lib.index]
  | x :: a, h => by
    have h1 : ¬ c = x := fun e => h (by rw [e]; simp)
    have h2 : c ∉ a := fun e => h (by simp [e])
    rw [List.cons_append, Lib.index, index_at c r a h2, if_neg (by simp [h1]), if_neg (by simp)]
    simp
theorem split_pieces (c : UInt8) : ∀ (k : Nat) (l : List UInt8), l.length ≤ k → Lib.splitK [c] 0 (Lib.count l [c]) l = pieces c l := by
  intro k
  induction k with
  | zero =>
    intro l h
    obtain rfl : l = [] := List.length_eq_zero_iff.1 (by omega)
    rw [Lib.count_miss (index_no c [] (by simp))]; rfl
  | succ k ih =>
    intro l h
    rcases first_cut c l with hn | ⟨a, r, rfl, hn⟩
    · rw [Lib.count_miss (index_no c l hn), pieces_no c l hn]; rfl
    · have hi := index_at c r a hn
      rw [Lib.count_hit (by simp) hi, Nat.add_comm, Lib.splitK, if_neg (by rw [hi]; simp), hi, pieces_cut c r a hn]
      have e1 : (a ++ c :: r).take ((a.length : Int).toNat + 0) = a := by simp
      have e2 : (a ++ c :: r).drop ((a.length : Int).toNat + [c].length) = r := by simp
      have e3 : (a ++ c :: r).drop (a.length + [c].length) = r := by simp
      rw [e1, e2, e3, ih r (by simp at h; omega)]
theorem cut_no (c : UInt8) (l : List UInt8) (h : c ∉ l) : Lib.cut l [c] = (l, [], false) := by
  unfold Lib.cut; rw [index_no c l h, if_neg (by omega)]
theorem cut_at (c : UInt8) (a r : List UInt8) (h : c ∉ a) : Lib.cut (a ++ c :: r) [c] = (a, r, true) := by
  unfold Lib.cut; rw [index_at c r a h, if_pos (by omega)]; simp
def ba (l : List UInt8) : ByteArray := ⟨l.toArray⟩
theorem ba_data (l : List UInt8) : (ba l).data.toList = l := by simp [ba]
theorem ba_of (s : ByteArray) : ba s.data.toList = s := by obtain ⟨⟨l⟩⟩ := s; rfl
theorem ba_size (l : List UInt8) : (ba l).size = l.length := by simp [ba, ByteArray.size]
def pcs (c : UInt8) (l : List UInt8) : List ByteArray := (pieces c l).map ba
theorem splitB_pcs (c : UInt8) (s : ByteArray) : Lib.splitB ⟨#[c]⟩ 0 (Lib.countB s ⟨#[c]⟩) s = pcs c s.data.toList := by
  have h := Lib.splitB_data ⟨#[c]⟩ 0 (Lib.countB s ⟨#[c]⟩) s
  have h2 : Lib.splitK [c] 0 (Lib.countB s ⟨#[c]⟩) s.data.toList = pieces c s.data.toList := split_pieces c _ s.data.toList (Nat.le_refl _)
  rw [show (ByteArray.mk #[c]).data.toList = [c] from rfl, h2] at h
  unfold pcs
  rw [← h, List.map_map]
  conv => lhs; rw [← List.map_id (Lib.splitB ⟨#[c]⟩ 0 (Lib.countB s ⟨#[c]⟩) s)]
  apply List.map_congr_left
  intro x _
  exact (ba_of x).symm
theorem pieces_mem (c : UInt8) : ∀ (l : List UInt8), ∀ p ∈ pieces c l, p.length ≤ l.length
  | [], p, h => by simp [pieces] at h; subst h; simp
  | x :: l, p, h => by
    unfold pieces at h
    split at h
    · rcases List.mem_cons.1 h with rfl | h
      · simp
      · have := pieces_mem c l p h; simp; omega
    · rcases List.mem_cons.1 h with rfl | h
      · have hm : (pieces c l).headD [] ∈ pieces c l := by
          cases e : pieces c l with
          | nil => exact absurd e (pieces_ne c l)
          | cons q qs => simp
        have := pieces_mem c l _ hm
        simp only [List.length_cons]; omega
      · have := pieces_mem c l p (List.mem_of_mem_tail h); simp; omega
theorem pcs_mem (c : UInt8) (l : List UInt8) : ∀ p ∈ pcs c l, p.size ≤ l.length := by
  intro p hp
  simp only [pcs, List.mem_map] at hp
  obtain ⟨q, hq, rfl⟩ := hp
  rw [ba_size]; exact pieces_mem c l q hq
theorem pieces_len (c : UInt8) : ∀ (l : List UInt8), (pieces c l).length ≤ l.length + 1
  | [] => by simp [pieces]
  | x :: l => by
    have := pieces_len c l
    unfold pieces
    split
    · simp; omega
    · simp; omega
/-! ### A row out of its parts -/
def tx (s : ByteArray) : Bool := Tx.fok (Re.guess s.data.toList) && (Tx.ftext (Re.guess s.data.toList) == s.data.toList)
theorem tx_iff (s : ByteArray) : tx s = true ↔ Re.Text s.data.toList := by
  unfold tx
  simp only [Bool.and_eq_true, beq_iff_eq]
  exact ⟨fun h => ⟨_, h.1, h.2⟩, fun h => Re.text_guess h⟩
def val (s : ByteArray) : Int := Re.guess s.data.toList
def lb (s : ByteArray) : Bool := tx s && lok (val s)
def rzero : Row := ⟨[], [], 0⟩
def rread (n c : Nat) (ps : List ByteArray) : Int × Row :=
  if ps.length = n + c + 1 then
    if (ps.take n).all tx = true then
      if ((ps.drop n).take c).all wok = true then
        if lb (ps.getD (n + c) ⟨#[]⟩) = true then (0, ⟨(ps.take n).map val, (ps.drop n).take c, val (ps.getD (n + c) ⟨#[]⟩)⟩) else (6, rzero)
      else (5, rzero)
    else (4, rzero)
  else (3, rzero)
/-! ### The rows out of the lines -/
def more (acc : List Row) (t : Int × Int × List Row) : Int × Int × List Row := if t.2.1 = 0 then (0, 0, acc ++ t.2.2) else t
def lread (n c : Nat) : Nat → List (List UInt8) → Int × Int × List Row
  | _, [] => (0, 0, [])
  | k, [l] => if l = [] then (0, 0, []) else ((k : Int) + 1, 2, [])
  | k, l :: l2 :: ls =>
    if (rread n c (pcs 44 l)).1 = 0 then
      if 40 ≤ k then ((k : Int) + 1, 7, []) else more [(rread n c (pcs 44 l)).2] (lread n c (k + 1) (l2 :: ls))
    else ((k : Int) + 1, (rread n c (pcs 44 l)).1, [])
def tread (n c : Int) (text : List UInt8) : Int × Int × List Row :=
  if sok n c = true then
    if text.length ≤ 6000 then lread n.toNat c.toNat 0 (pieces 10 text) else (0, 1, [])
  else (0, 8, [])
theorem more_more (a b : List Row) (t : Int × Int × List Row) : more a (more b t) = more (a ++ b) t := by
  unfold more
  by_cases h : t.2.1 = 0 <;> simp [h]
theorem more_nil (t : Int × Int × List Row) (h : t.2.1 = 0 → t.1 = 0) : more [] t = t := by
  unfold more
  split
  · rename_i e
    obtain ⟨a, b, r⟩ := t
    simp at e h ⊢
    exact ⟨(h e).symm, e.symm⟩
  · rfl
end Go.Proofs.YtajfldjhbgilmaaGreatDoor.Pc
