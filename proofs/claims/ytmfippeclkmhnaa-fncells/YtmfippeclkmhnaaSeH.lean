/-
  slices.Clone of ints, at every list; what the program's Asked makes first.
-/
import Derived.Test.YtmfippeclkmhnaaSeB
namespace Go.Proofs.Ytmfippeclkmhnaa.Sw7
open Go.RowKit
open Go.Proofs.Ytmfippeclkmhnaa.Li (ret_bool ret_int below_none IsL btw iv)
open Go.Proofs.Ytmfippeclkmhnaa.Tm (IsP pv pv_length)
open Go.Proofs.Ytmfippeclkmhnaa.Se Go.Proofs.Ytmfippeclkmhnaa.Sv
set_option linter.unusedVariables false

theorem eql_nil0 {P : Program} (w : World) (t e : TypeId) (l c : Nat) (h : P.underlying t = some (.slice e)) : (binOp .eql t (.slice none l c) (.slice none 0 0)).run P w = .ok (.bool true) w := by
  simp only [binOp]
  simp [run_equal_slice_nil w t e none l c h]
set_option maxRecDepth 100000 in
set_option maxHeartbeats 1000000 in
theorem cloneI (w : World) (a : Option Addr) (n c : Nat) (xs : List Int) (hn : xs.length = n) (hx : IsL w a xs) (hl : n ≤ 1048576) :
    Calls Try.prog 48 #[.slice a n c] w fun e w' => ∃ v, e = .returned v ∧ OwI w' (fun k => w.heap.size ≤ k ∧ k < w'.heap.size) v xs ∧ Below w.heap.size w w' := by
  obtain ⟨i0, hi, hz0, hz1, hz2⟩ := info_parts Li.info_int
  cases a with
  | none =>
    have h0 : xs = [] := by
      rcases hx with h | ⟨b, off, e, _⟩
      · exact h
      · cases e
    subst h0
    have hn0 : n = 0 := by simpa using hn.symm
    subst hn0
    have hnil : ∀ w0 : World, Sem.run Try.prog (binOp .eql 25 (.slice none 0 c) (.slice none 0 0)) w0 = .ok (.bool true) w0 := fun w0 => eql_nil0 w0 _ _ _ _ Try.underlying25
    go_enter Try.func48, Try.ntmps48
    go_wp2
    go_ret
    exact ⟨_, rfl, ⟨none, 0, rfl, .inl rfl⟩, Below.refl _ _⟩
  | some x =>
    have hnil : ∀ w0 : World, Sem.run Try.prog (binOp .eql 25 (.slice (some x) n c) (.slice none 0 0)) w0 = .ok (.bool false) w0 := fun w0 => eql_nil w0 _ _ _ _ _ Try.underlying25
    have hB0 : Below w.heap.size w (w.alloc (.cells #[] 3)) := (Below.refl _ _).alloc (Nat.le_refl _) _
    by_cases h0 : n = 0
    · subst h0
      obtain rfl : xs = [] := List.length_eq_zero_iff.1 hn
      go_enter Try.func48, Try.ntmps48
      go_wp2
      go_ret
      exact ⟨_, rfl, ⟨_, _, rfl, .inl rfl⟩, hB0⟩
    · subst hn
      have h0 : 0 < xs.length := by omega
      go_enter Try.func48, Try.ntmps48
      go_wp2_with (at_builtin; refine wpList_append_lies _ rfl _ _ 25 rfl w.heap.size 3 i0 (.int .i64 0) 1 8 Try.underlying25 hi hz0 hz1 hz2 rfl (by decide) (.slice (some ⟨w.heap.size, 0, none⟩) 0 0) 0 [] rfl (Ai.own_empty w _ (Nat.le_refl _)) x xs.length c (iv xs) rfl (by rw [Li.iv_length]; omega) (Ai.news_i (hx.below hB0)) (Li.iv_one _) h0 (by unfold maxLen; omega) (by omega) (by simp) _ rfl ?_)
      intro g cap w1 hown hgrow _ _
      have ho : Li.Own w1 w.heap.size (.slice (some ⟨g, 0, none⟩) xs.length cap) xs := by
        first | exact hown | (rw [Nat.zero_add, List.nil_append] at hown; exact hown)
      have hoc := owi_own ho
      have hB1 : Below w.heap.size w w1 := Ai.below_app hB0 (by simp) hgrow (fun k hk => by simp [Value.ownBlock] at hk; omega)
      clear hown hgrow ho
      go_wp2
      go_ret
      exact ⟨_, rfl, by simpa using hoc, hB1⟩
end Go.Proofs.Ytmfippeclkmhnaa.Sw7
