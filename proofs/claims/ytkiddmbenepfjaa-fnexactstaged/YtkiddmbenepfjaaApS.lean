/-
  append of texts onto a list that has just been made empty, at every length.
-/
import Derived.Test.YtkiddmbenepfjaaApd
import Derived.Deep.AppendLies
import Derived.Deep.Upon
import Derived.Deep.RegionHeld3
namespace Go.Proofs.Ytkiddmbenepfjaa.As
open Go.RowKit
theorem run_appS (w : World) (ty : TypeId) (base g : Nat) (ad : Option Addr) (n c : Nat) (xs : List ByteArray) (hown : Ls.Own w base (.slice (some ⟨g, 0, none⟩) 0 0) []) (hn : xs.length = n) (hi : Ls.IsS w ad xs) (hl : n ≤ 1048576) (hbase : base ≤ w.heap.size) :
    ∃ k cap w', (Builtin.append_ #[39, 39] ty #[.slice (some ⟨g, 0, none⟩) 0 0, .slice ad n c]).run Try.prog w = .ok (.slice (some ⟨k, 0, none⟩) n cap) w' ∧ Ls.Own w' base (.slice (some ⟨k, 0, none⟩) n cap) xs ∧ w.grownBy w' (some g) ∧ (k = g ∨ k = w.heap.size) ∧ k < w'.heap.size := by
  obtain ⟨i0, hii, hz0, hz1, hz2⟩ := info_parts Ls.info_str
  have hgl := (World.ownsRow.lt hown g rfl).2
  cases ad with
  | none =>
    have h0 : xs = [] := by
      rcases hi with h | ⟨b, off, e, _⟩
      · exact h
      · cases e
    subst h0
    obtain rfl : n = 0 := by simpa using hn.symm
    refine ⟨g, 0, w, ?_, hown, World.grownBy.refl _ _, .inl rfl, hgl⟩
    refine run_append_nothing w _ _ _ _ i0 Try.underlying39 hii _ 0 0 (Nat.le_refl _) _ ⟨.inl ⟨_, Try.underlying39⟩, fun w' => ?_, ?_, ?_, by simp, fun u hu => by simp at hu⟩
    · simp [Builtin.lenOf]
    · simp [Builtin.firstCells]
    · simp [Builtin.firstCells]
  | some x =>
    obtain ⟨v', w', hr, h2, h3, hnil, h5⟩ := run_append_own_at (P := Try.prog) w base 39 ty 9 i0 (.string ⟨#[]⟩) 1 16 Try.underlying39 hii hz0 hz1 hz2 rfl (by decide) (.slice (some ⟨g, 0, none⟩) 0 0) 0 [] hown x n c (Ls.sv xs) (by rw [Ls.sv_length]; omega) (Ap.news_s hi) (Ls.sv_one _) (by unfold maxLen; omega) (by omega) hbase
    rw [Nat.zero_add, List.nil_append] at h2
    have hne : ¬ v' = .slice none 0 0 := fun e => by have := (hnil.1 e).1; simp at this
    have hbk : v'.ownBlock = some g ∨ v'.ownBlock = some w.heap.size := h5
    rcases h2.2 with ⟨e, _⟩ | ⟨k, cap, cur, e, hb, hh, r⟩
    · exact absurd e hne
    · subst e
      have h2' : Ls.Own w' base (.slice (some ⟨k, 0, none⟩) n cap) xs := by unfold Ls.Own; rw [hn]; exact h2
      refine ⟨k, cap, w', hr, h2', h3, ?_, (World.ownsRow.lt h2 k rfl).2⟩
      simpa [Value.ownBlock] using hbk
theorem wpl_appS {ops : Array Oper} {rest : List Oper} {o : Oper} {a : Act} {w : World} {Q : Exit → Act → World → Prop} (hgd : o.guard = none) (s x : Operand)
    (ho : o.op = .call { callee := .builtin .append, args := #[s, x], argTypes := #[39, 39] }) (base g : Nat) (ad : Option Addr) (n c : Nat) (xs : List ByteArray) (hs : a.eval s = .slice (some ⟨g, 0, none⟩) 0 0) (hx : a.eval x = .slice ad n c)
    (hown : Ls.Own w base (.slice (some ⟨g, 0, none⟩) 0 0) []) (hn : xs.length = n) (hi : Ls.IsS w ad xs) (hl : n ≤ 1048576) (hbase : base ≤ w.heap.size)
    (h : ∀ k cap w', Ls.Own w' base (.slice (some ⟨k, 0, none⟩) n cap) xs → w.grownBy w' (some g) → (k = g ∨ k = w.heap.size) → k < w'.heap.size → wpList Try.prog ops Q rest (a.put o.dst (.slice (some ⟨k, 0, none⟩) n cap)) w') :
    wpList Try.prog ops Q (o :: rest) a w := by
  obtain ⟨k, cap, w', hr, h2, h3, h4, h5⟩ := run_appS w o.type base g ad n c xs hown hn hi hl hbase
  refine wpList_plain hgd fun K hK => ?_
  unfold Oper.wp execOp
  simp only [ho, resolve, invoke, builtin, Sem.run_bind, Sem.run_pure, Result.andThen_ok, List.map_toArray, List.map_cons, List.map_nil, hs, hx, hr]
  exact hK _ _ (h k cap w' h2 h3 h4 h5)
end Go.Proofs.Ytkiddmbenepfjaa.As
