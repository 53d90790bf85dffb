/-
  Copies of a tree: slices.Clone of questions, the model's l06Copy; where bits i and i + 1 go.
-/
import Derived.Test.YtmfippeclkmhnaaTrW
import Derived.Test.YtmfippeclkmhnaaApI
import Derived.Deep.AppendLies
import Derived.Deep.RegionHeldLaw
import Derived.Deep.RegionWith
import Derived.Laws.Cover3
namespace Go.Proofs.Ytmfippeclkmhnaa.Fw
open Go.RowKit
open Go.Proofs.Ytmfippeclkmhnaa.Li (ret_bool ret_int below_none)
open Go.Proofs.Ytmfippeclkmhnaa.Tr Go.Proofs.Ytmfippeclkmhnaa.Tm
set_option linter.unusedVariables false

theorem pv_one (ps : List (Int × Int)) : ∀ u ∈ pv ps, u.oneCell' = true := by
  induction ps with
  | nil => intro u hu; simp [pv] at hu
  | cons p ps ih =>
    intro u hu
    simp only [pv, List.mem_cons] at hu
    rcases hu with rfl | rfl | hu
    · rfl
    · rfl
    · exact ih u hu
/-- What questions read as, for an append of all of them. -/
theorem news_p {w : World} {b off : Nat} {ps : List (Int × Int)} (h : ∀ j (hj : j < ps.length), w.cell? ⟨b, off + j * 2, none⟩ = some (.int .i64 ps[j].1) ∧ w.cell? ⟨b, off + j * 2 + 1, none⟩ = some (.int .i64 ps[j].2)) : ∀ j u, (pv ps)[j]? = some u → w.cell? ((⟨b, off, none⟩ : Addr).add j) = some u := by
  intro j u hj
  have hlt : j < ps.length * 2 := by
    apply Classical.byContradiction
    intro hn
    rw [List.getElem?_eq_none (by rw [pv_length]; omega)] at hj
    cases hj
  rw [Go.WideShapes.add_plain]
  have hc := h (j / 2) (by omega)
  have hp := pv_get ps (j / 2) (by omega)
  rcases Nat.mod_two_eq_zero_or_one j with e | e
  · rw [show j / 2 * 2 = j by omega] at hp hc
    rw [hp.1] at hj
    rw [hc.1, ← hj]
  · have e2 : j / 2 * 2 + 1 = j := by omega
    have e3 : off + j / 2 * 2 + 1 = off + j := by omega
    rw [e2] at hp
    rw [e3] at hc
    rw [hp.2] at hj
    rw [hc.2, ← hj]
theorem ownP_cat {w : World} {base n : Nat} {v : Value} {ps : List (Int × Int)} (h : w.ownsRow base 29 2 v (0 + n) ([] ++ pv ps)) (hn : ps.length = n) : OwnP w base v ps := by
  subst hn
  rw [Nat.zero_add, List.nil_append] at h
  exact h
theorem own_cat0 {w : World} {base n : Nat} {v : Value} {ps : List Int} (h : w.ownsRow base 3 1 v (0 + n) ([] ++ Li.iv ps)) (hn : ps.length = n) : Li.Own w base v ps := by
  subst hn
  rw [Nat.zero_add, List.nil_append] at h
  exact h
theorem emptyP (w : World) (base : Nat) (hb : base ≤ w.heap.size) : (w.alloc (.cells #[] 29)).ownsRow base 29 2 (.slice (some ⟨w.heap.size, 0, none⟩) 0 0) 0 [] :=
  World.ownsRow_made w #[] 0 hb (by unfold maxLen; omega) (by simp)
theorem news_q {w : World} {b off : Nat} {ps : List (Int × Int)} (h : IsP w (some ⟨b, off, none⟩) ps) (h0 : 0 < ps.length) : ∀ j u, (pv ps)[j]? = some u → w.cell? ((⟨b, off, none⟩ : Addr).add j) = some u := by
  rcases h with h | ⟨b', off', e, _, hc⟩
  · rw [h] at h0; simp at h0
  · cases e; exact news_p hc
theorem bA1 (W : World) (o : Obj) : Below W.heap.size W (W.alloc o).drew := ((Below.refl _ W).alloc (Nat.le_refl _) o).drew
theorem bA2 (W : World) (o o' : Obj) : Below W.heap.size W ((W.alloc o).alloc o').drew := (((Below.refl _ W).alloc (Nat.le_refl _) o).alloc (by simp) o').drew
theorem bA3 (W : World) (o o' : Obj) : Below W.heap.size W ((W.alloc o).alloc o') := ((Below.refl _ W).alloc (Nat.le_refl _) o).alloc (by simp) o'
theorem emptyP' (w : World) (base H : Nat) (hb : base ≤ w.heap.size) (hH : w.heap.size = H) : (w.alloc (.cells #[] 29)).ownsRow base 29 2 (.slice (some ⟨H, 0, none⟩) 0 0) 0 [] := by subst hH; exact emptyP w base hb
theorem emptyI' (w : World) (base H : Nat) (hb : base ≤ w.heap.size) (hH : w.heap.size = H) : Li.Own (w.alloc (.cells #[] 3)) base (.slice (some ⟨H, 0, none⟩) 0 0) [] := by subst hH; exact Ai.own_empty w base hb
theorem eql_nil {P : Program} (w : World) (t e : TypeId) (a : Addr) (l c : Nat) (h : P.underlying t = some (.slice e)) : (binOp .eql t (.slice (some a) l c) (.slice none 0 0)).run P w = .ok (.bool false) w := by
  simp only [binOp]
  simp [run_equal_slice_nil w t e (some a) l c h]
end Go.Proofs.Ytmfippeclkmhnaa.Fw
