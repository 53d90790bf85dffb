/-
  Asked a tree question by question, each row comes where the tree sends it.
-/
import Derived.Test.YtmfippeclkmhnaaRtI
namespace Go.Proofs.Ytmfippeclkmhnaa.Rt
open Go.Proofs.Ytmfippeclkmhnaa.Se
set_option linter.unusedVariables false

theorem two_pow_le {k : Nat} (h : k ≤ 3) : (2 : Int) ^ k ≤ 8 := by
  have : k = 0 ∨ k = 1 ∨ k = 2 ∨ k = 3 := by omega
  rcases this with rfl | rfl | rfl | rfl <;> decide
theorem ask_row {q : R} {f b : Int} (hc : can q f = true) {i : Nat} (hi : i < q.x.length) : (asked q f b).ids.getD i 0 = q.ids.getD i 0 + (if says q f b i then q.lv else 0) := by
  rw [asked_ok b hc]
  show (idsA q f b).getD i 0 = _
  rw [idsA_get q f b i hi]
  unfold idA
  split <;> omega
/-- The first k questions asked. -/
structure Way (r : R) (t : Tr.T) (k : Nat) (q : R) : Prop where
  x : q.x = r.x
  lv : q.lv = 2 ^ k
  ok : rok q = true
  ids : ∀ i, i < r.x.length → q.ids.getD i 0 = (Tr.lf (Tr.yes t.sp (r.x.getD i [])) k : Nat)
theorem way {r : R} {t : Tr.T} (hr : rok r = true) (h1 : r.lv = 1) (ht : Tr.tok t = true) : ∀ k, k ≤ t.sp.length → Way r t k (askAll r (t.sp.take k)) := by
  intro k
  induction k with
  | zero =>
    intro _
    refine ⟨by simp [askAll], by simp [askAll, h1], by simpa [askAll] using hr, fun i hi => ?_⟩
    have h2 := ((rok_iff.1 hr).2 i hi).2.2
    simp [askAll, Tr.lf]
    rw [List.getD_eq_getElem?_getD] at h2
    omega
  | succ k ih =>
    intro hk
    obtain ⟨e1, e2, e3, e4⟩ := ih (by omega)
    have h4 := (Tr.tok_iff.1 ht).1.1
    have hs := Tr.spok_iff.1 (Tr.tok_sp ht k hk)
    rw [askAll_take r t.sp k hk]
    obtain ⟨q, hq⟩ : ∃ q, askAll r (t.sp.take k) = q := ⟨_, rfl⟩
    rw [hq] at e1 e2 e3 e4 ⊢
    have hc : can q t.sp[k].1 = true := can_iff.2 ⟨rok_iff.1 e3, by rw [e2]; exact two_pow_le (by omega), hs.1⟩
    have ha := asked_ok t.sp[k].2 hc
    refine ⟨by rw [ha]; exact e1, ?_, asked_rok _ hc, fun i hi => ?_⟩
    · rw [ha]
      show 2 * q.lv = 2 ^ (k + 1)
      rw [e2, Int.pow_succ]
      omega
    · rw [ask_row hc (by rw [e1]; exact hi), e4 i hi, e2]
      have hsay : says q t.sp[k].1 t.sp[k].2 i ↔ Tr.yes t.sp (r.x.getD i []) k = true := by
        unfold says Tr.yes
        rw [e1, List.getD_eq_getElem?_getD (l := t.sp), List.getElem?_eq_getElem hk]
        simp
      by_cases hy : Tr.yes t.sp (r.x.getD i []) k = true
      · rw [if_pos (hsay.2 hy), Tr.lf_yes hy]
        simp
      · rw [if_neg (fun h => hy (hsay.1 h)), Tr.lf_no (by simpa using hy)]
        simp
theorem rtok_iff {r : R} {t : Tr.T} : rtok r t = true ↔ rok r = true ∧ r.lv = 1 ∧ Tr.tok t = true := by
  simp [rtok, and_assoc]
theorem routed_leaf {r : R} {t : Tr.T} (h : rtok r t = true) (i : Nat) (hi : i < r.x.length) : (routed r t).ids.getD i 0 = (Tr.leafOf t (r.x.getD i []) : Nat) := by
  obtain ⟨h1, h2, h3⟩ := rtok_iff.1 h
  have hw := way h1 h2 h3 t.sp.length (Nat.le_refl _)
  rw [List.take_length] at hw
  rw [routed_ok h, hw.ids i hi, Tr.leafOf_yes (Tr.askb_iff.2 ⟨h3, ((rok_iff.1 h1).2 i hi).1⟩)]
theorem routed_lv {r : R} {t : Tr.T} (h : rtok r t = true) : (routed r t).lv = (t.lv.length : Int) := by
  obtain ⟨h1, h2, h3⟩ := rtok_iff.1 h
  have hw := way h1 h2 h3 t.sp.length (Nat.le_refl _)
  rw [List.take_length] at hw
  rw [routed_ok h, hw.lv, (Tr.tok_iff.1 h3).1.2]
  simp
theorem routed_len {r : R} {t : Tr.T} (h : rtok r t = true) : (routed r t).ids.length = r.x.length := by
  obtain ⟨h1, h2, h3⟩ := rtok_iff.1 h
  have hw := way h1 h2 h3 t.sp.length (Nat.le_refl _)
  rw [List.take_length] at hw
  rw [routed_ok h]
  have := (rok_iff.1 hw.ok).1.2.2.1
  rw [this, hw.x]
end Go.Proofs.Ytmfippeclkmhnaa.Rt
