/-
  A tree's words, as the model of the document reads them: plain functions of lists.
-/
import Derived.Test.YtadjedoakenlkaaGreatDoorRsa
namespace Go.Proofs.YtadjedoakenlkaaGreatDoor.Rs
set_option maxRecDepth 20000
open Go.Proofs.YtadjedoakenlkaaGreatDoor.Mt (nums nums_cons nums_nil)
set_option linter.unusedVariables false
/-- Words, each with a blank ahead. -/
def sps : List (List UInt8) → List UInt8
  | [] => []
  | x :: ws => 32 :: (x ++ sps ws)
theorem sps_app : ∀ (a b : List (List UInt8)), sps (a ++ b) = sps a ++ sps b
  | [], b => rfl
  | x :: a, b => by simp [sps, sps_app a b]
theorem nums_sps : ∀ l : List Int, nums l = sps (l.map Lib.itoa)
  | [] => rfl
  | x :: l => by rw [nums_cons, nums_sps l]; simp [sps]
theorem pieces_sps (a : List UInt8) (ha : (32 : UInt8) ∉ a) : ∀ (ws : List (List UInt8)), (∀ x ∈ ws, (32 : UInt8) ∉ x) → Pc.pieces 32 (a ++ sps ws) = a :: ws := by
  intro ws
  induction ws generalizing a with
  | nil => intro _; rw [sps, List.append_nil]; exact Pc.pieces_no 32 a ha
  | cons x ws ih =>
    intro h
    rw [sps, Pc.pieces_cut 32 _ a ha, ih x (h x (by simp)) (fun y hy => h y (by simp [hy]))]
theorem itoa_no32 (x : Int) : (32 : UInt8) ∉ Lib.itoa x := fun h => (Rm.dig_facts (Rm.itoa_chars x 32 h)).2.2.2.1 rfl
theorem itoa_no58 (x : Int) : ¬ Lib.itoa x = [58] := fun h => (Rm.dig_facts (Rm.itoa_chars x 58 (by rw [h]; simp))).2.2.2.2 rfl
noncomputable def stree : List (List UInt8) → Bool → List Int → List Int → Option (List Int × List Int)
  | [], _, a, l => some (a, l)
  | p :: ps, leaf, a, l => if p = [58] ∧ leaf = false then stree ps true a l else match snum p with
    | none => none
    | some n => if leaf = true then stree ps leaf a (l ++ [n]) else stree ps leaf (a ++ [n]) l
def b11 (x : Int) : Prop := -100000000000 < x ∧ x < 100000000000
theorem stree_leaves : ∀ (l : List Int) (a b : List Int), (∀ x ∈ l, b11 x) → stree (l.map Lib.itoa) true a b = some (a, b ++ l)
  | [], a, b, _ => by simp [stree]
  | x :: l, a, b, h => by
    have ih := stree_leaves l a (b ++ [x]) (fun y hy => h y (by simp [hy]))
    rw [List.map_cons, stree, if_neg (by simp), snum_itoa (h x (by simp))]
    simp only [if_true]
    rw [ih]
    simp
theorem stree_back : ∀ (s l a : List Int), (∀ x ∈ s, b11 x) → (∀ x ∈ l, b11 x) → stree (s.map Lib.itoa ++ [58] :: l.map Lib.itoa) false a [] = some (a ++ s, l)
  | [], l, a, _, h => by
    have := stree_leaves l a [] h
    rw [List.map_nil, List.nil_append, stree, if_pos ⟨rfl, rfl⟩, this]
    simp
  | x :: s, l, a, h, h' => by
    have ih := stree_back s l (a ++ [x]) (fun y hy => h y (by simp [hy])) h'
    rw [List.map_cons, List.cons_append, stree, if_neg (fun e => itoa_no58 x e.1), snum_itoa (h x (by simp))]
    simp only [Bool.false_eq_true, if_false]
    rw [ih]
    simp
theorem stree_len : ∀ (ps : List (List UInt8)) (leaf : Bool) (a l a' l' : List Int), stree ps leaf a l = some (a', l') → a'.length + l'.length ≤ a.length + l.length + ps.length
  | [], leaf, a, l, a', l', h => by
    simp [stree] at h
    obtain ⟨rfl, rfl⟩ := h
    simp
  | p :: ps, leaf, a, l, a', l', h => by
    unfold stree at h
    split at h
    · have := stree_len ps true a l a' l' h
      simp only [List.length_cons]; omega
    · split at h
      · cases h
      · split at h
        · have := stree_len ps leaf a _ a' l' h
          simp only [List.length_append, List.length_cons, List.length_nil] at this ⊢; omega
        · have := stree_len ps leaf _ l a' l' h
          simp only [List.length_append, List.length_cons, List.length_nil] at this ⊢; omega
end Go.Proofs.YtadjedoakenlkaaGreatDoor.Rs
