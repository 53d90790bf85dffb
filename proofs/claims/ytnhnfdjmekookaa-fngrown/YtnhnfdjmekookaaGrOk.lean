/-
  The nodes of a grown tree hold numbers of Go's.
-/
import Derived.Test.YtnhnfdjmekookaaTrN
namespace Go.Proofs.Ytnhnfdjmekookaa.Tm
open Go.RowKit
open Go.Proofs.Ytnhnfdjmekookaa.Tr
theorem rows_all (g : Nat → Nat → Nd) (P : Nd → Prop) : ∀ k, (∀ j n, j < k → n < 2 ^ j → P (g j n)) → ∀ q ∈ rows g k, P q
  | 0, _ => by intro q hq; cases hq
  | k + 1, h => by
    intro q hq
    rcases List.mem_append.1 (show q ∈ rows g k ++ level g k from hq) with hq | hq
    · exact rows_all g P k (fun j n hj hn => h j n (by omega) hn) q hq
    · obtain ⟨n, hn, rfl⟩ := List.mem_map.1 hq
      exact h k n (by omega) (List.mem_range.1 hn)
theorem pow_le16 {k d : Nat} (h : k ≤ d) (hd : d ≤ 4) : 2 ^ k ≤ 16 := Nat.le_trans (Nat.pow_le_pow_right (by decide) (show k ≤ 4 by omega)) (by decide)
theorem grown_ok (t : T) (j : Nat) (hj : j < (grown t).length) : NdOk (grown t)[j] := by
  cases h : tok t with
  | false => rw [grown_no h] at hj; simp at hj
  | true =>
    have key : ∀ q ∈ grown t, NdOk q := by
      rw [grown_yes h]
      refine rows_all _ _ _ ?_
      intro k n hk hn
      have hd := (tok_iff.1 h).1.1
      have hp := pow_le16 (show k ≤ t.sp.length by omega) hd
      have hp2 : 2 ^ (k + 1) = 2 * 2 ^ k := by rw [Nat.pow_succ]; omega
      unfold nodeAt
      by_cases he : k = t.sp.length
      · rw [if_pos he]
        refine ⟨by unfold I64; dsimp only; omega, by unfold I64; dsimp only; omega, by unfold I64; dsimp only; omega, by unfold I64; dsimp only; omega, ?_⟩
        have hv : Bo.fok (t.lv.getD n 0) = true := by
          rw [List.getD_eq_getElem?_getD]
          by_cases hn' : n < t.lv.length
          · rw [List.getElem?_eq_getElem hn']; exact Bo.aok_at (tok_iff.1 h).2.2 _ _
          · rw [List.getElem?_eq_none (by omega)]; decide
        have := Bo.fok_iff.1 hv
        unfold I64; dsimp only; omega
      · rw [if_neg he]
        have hk' : k < t.sp.length := by omega
        have hs := tok_sp h k hk'
        have hg : t.sp.getD k (0, 0) = t.sp[k] := by rw [List.getD_eq_getElem?_getD, List.getElem?_eq_getElem hk']; rfl
        rw [hg]
        simp only [spok, Bool.and_eq_true, decide_eq_true_eq] at hs
        have hf := Bo.fok_iff.1 hs.2
        refine ⟨?_, ?_, ?_, ?_, ?_⟩
        · unfold I64; dsimp only; omega
        · unfold I64; dsimp only; omega
        · unfold I64; dsimp only; rw [hp2]; omega
        · unfold I64; dsimp only; rw [hp2]; omega
        · unfold I64; dsimp only; omega
    exact key _ (List.getElem_mem hj)
end Go.Proofs.Ytnhnfdjmekookaa.Tm
