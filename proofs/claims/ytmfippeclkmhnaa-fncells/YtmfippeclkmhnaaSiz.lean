/-
  How great a list of texts is, as the laws count it; small laws of frames.
-/
import Derived.Test.YtmfippeclkmhnaaStrs
import Derived.Deep.RegionWith
namespace Go.Proofs.Ytmfippeclkmhnaa.Tb
open Go.RowKit
open Go.Proofs.Ytmfippeclkmhnaa.Li (ret_bool ret_int below_none)

/-- What is left when s is taken from left; -1 where it is not enough. -/
def sub (left : Int) (s : Nat) : Int := if (s : Int) ≤ left then left - s else -1
theorem sub_yes {left : Int} {s : Nat} (h : (s : Int) ≤ left) : sub left s = left - s := if_pos h
theorem sub_no {left : Int} {s : Nat} (h : ¬ (s : Int) ≤ left) : sub left s = -1 := if_neg h

/-- How many letters. -/
def lets : List ByteArray → Nat
  | [] => 0
  | s :: r => s.size + lets r
theorem lets_take (ws : List ByteArray) (k : Nat) (h : k < ws.length) : lets (ws.take (k + 1)) = lets (ws.take k) + ws[k].size := by
  induction ws generalizing k with
  | nil => simp at h
  | cons s r ih =>
    cases k with
    | zero => simp [lets]
    | succ k =>
      simp only [List.take_succ_cons, lets, List.getElem_cons_succ]
      rw [ih k (by simpa using h)]
      omega
theorem lets_le (ws : List ByteArray) (k : Nat) : lets (ws.take k) ≤ lets ws := by
  induction ws generalizing k with
  | nil => simp
  | cons s r ih =>
    cases k with
    | zero => simp [lets]
    | succ k => simp only [List.take_succ_cons, lets]; have := ih k; omega
/-- Every word is of a size that Go can have. -/
def Fits (ws : List ByteArray) : Prop := ∀ j (hj : j < ws.length), ws[j].size ≤ 9223372036854775807


/-- A draw turns nothing in memory. -/
theorem undrewB {w w1 : World} (h : Below w.drew.heap.size w.drew w1) : Below w.heap.size w w1 := ⟨h.os, h.tape, h.output, h.size, h.block⟩
theorem lets_at (ws : List ByteArray) (k : Nat) (h : k < ws.length) : ws[k].size ≤ lets ws := by
  have h1 := lets_take ws k h
  have h2 := lets_le ws (k + 1)
  omega
/-- What is made later lies apart from what is owned now, of whatever kind. -/
theorem sepR {w w' : World} {B s s' n n' : Nat} {t t' : TypeId} {v v' : Value} {xs ys : List Value} (h : w.ownsRow B t s v n xs) (h' : w'.ownsRow w.heap.size t' s' v' n' ys) : (v'.ownBlock = none ∨ v'.ownBlock ≠ v.ownBlock) ∧ (v.ownBlock = none ∨ v.ownBlock ≠ v'.ownBlock) := by
  have h1 := World.ownsRow.lt h
  have h2 := World.ownsRow.lt h'
  cases e : v.ownBlock with
  | none => exact ⟨by cases e' : v'.ownBlock <;> simp, .inl rfl⟩
  | some k =>
    cases e' : v'.ownBlock with
    | none => exact ⟨.inl rfl, by simp⟩
    | some k' =>
      have := h1 k e
      have := h2 k' e'
      exact ⟨.inr (by simp; omega), .inr (by simp; omega)⟩
theorem below_ownR {w w1 : World} {B : Nat} {v : Value} (h : w.grownBy w1 v.ownBlock) (hv : ∀ k, v.ownBlock = some k → B ≤ k) (hB : B ≤ w.heap.size) : Below B w w1 :=
  ⟨h.os, h.tape, h.output, h.size, fun k hk => h.block k (by omega) (fun e => by have := hv k e.symm; omega)⟩
theorem isl_cap {w : World} {base : Nat} {v : Value} {xs : List Int} (h : Li.Own w base v xs) : ∃ a cap, v = .slice a xs.length cap ∧ xs.length ≤ cap ∧ Li.IsL w a xs := by
  obtain ⟨a, cap, e, hi⟩ := h.isl
  refine ⟨a, cap, e, ?_, hi⟩
  rcases h.2 with ⟨h1, h0⟩ | ⟨g, cap', cur, h1, _, _, hc, _⟩
  · omega
  · rw [e] at h1
    simp at h1
    omega
end Go.Proofs.Ytmfippeclkmhnaa.Tb
