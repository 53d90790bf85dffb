/-
  Rows as the laws hold them, further: a copy of lists of lists, marks and whether they are held; a variable of five cells; rows as a whole.
-/
import Derived.Test.YtbnjbmajfadmaaaSeM
namespace Go.Proofs.Ytbnjbmajfadmaaa.Sv
open Go.RowKit
open Go.Proofs.Ytbnjbmajfadmaaa.Li (iv ret_bool ret_int below_none IsL)
open Go.Proofs.Ytbnjbmajfadmaaa.Tb (sub sub_yes sub_no)
open Go.Proofs.Ytbnjbmajfadmaaa.Tm (pv)
set_option linter.unusedVariables false

/-- Lists of lists that may be written, in blocks of B; each in a block of its own. -/
def OwV (w : World) (B : Nat → Prop) (v : Value) (xs : List (List Int)) : Prop :=
  ∃ a cap, v = .slice a xs.length cap ∧ (xs = [] ∨ ∃ (g off : Nat) (V : Nat → Value) (bl : Nat → Nat), a = some ⟨g, off, none⟩ ∧ B g ∧ g < w.heap.size ∧ (∀ j (hj : j < xs.length), w.cell? ⟨g, off + j, none⟩ = some (V j) ∧ OwI w (fun k => k = bl j) (V j) xs[j]) ∧ (∀ j, j < xs.length → B (bl j) ∧ ¬ bl j = g) ∧ ∀ i j, i < xs.length → j < xs.length → ¬ i = j → ¬ bl i = bl j)
theorem OwV.isv {w : World} {B : Nat → Prop} {v : Value} {xs : List (List Int)} (h : OwV w B v xs) : ∃ a cap, v = .slice a xs.length cap ∧ IsV w a xs := by
  obtain ⟨a, cap, e, h⟩ := h
  refine ⟨a, cap, e, ?_⟩
  rcases h with h | ⟨g, off, V, bl, rfl, _, hg, hc, _⟩
  · exact .inl h
  · refine .inr ⟨g, off, rfl, hg, fun j hj => ?_⟩
    obtain ⟨h1, h2⟩ := hc j hj
    obtain ⟨a', c', e', hi⟩ := h2.isl
    exact ⟨a', c', by rw [h1, e'], hi⟩
theorem OwV.fr {w w1 : World} {B B' : Nat → Prop} {v : Value} {xs : List (List Int)} (h : OwV w B v xs) (hf : Fr B' w w1) (hd : ∀ k, B k → ¬ B' k) : OwV w1 B v xs := by
  obtain ⟨a, cap, e, h⟩ := h
  refine ⟨a, cap, e, ?_⟩
  rcases h with h | ⟨g, off, V, bl, ha, hb, hg, hc, hn, hi⟩
  · exact .inl h
  · refine .inr ⟨g, off, V, bl, ha, hb, Nat.lt_of_lt_of_le hg hf.size, fun j hj => ?_, hn, hi⟩
    obtain ⟨h1, h2⟩ := hc j hj
    refine ⟨?_, h2.fr hf (fun k e => by subst e; exact hd _ (hn j hj).1)⟩
    rw [World.cell?_of_block (w := w) (a := ⟨g, off + j, none⟩) (hf.block g hg (hd g hb))]; exact h1
theorem OwV.below {w w1 : World} {B : Nat → Prop} {v : Value} {xs : List (List Int)} (h : OwV w B v xs) (hb : Below w.heap.size w w1) : OwV w1 B v xs := h.fr (fr_below (B := fun _ => False) hb) (fun _ _ e => e)
theorem OwV.mono {w : World} {B B' : Nat → Prop} {v : Value} {xs : List (List Int)} (h : OwV w B v xs) (hb : ∀ k, B k → B' k) : OwV w B' v xs := by
  obtain ⟨a, cap, e, h⟩ := h
  refine ⟨a, cap, e, ?_⟩
  rcases h with h | ⟨g, off, V, bl, ha, hg, r1, r2, hn, hi⟩
  · exact .inl h
  · exact .inr ⟨g, off, V, bl, ha, hb g hg, r1, r2, fun j hj => ⟨hb _ (hn j hj).1, (hn j hj).2⟩, hi⟩
theorem info_vec : (Try.prog.info? 50).map (fun i => (i.zero, i.size, i.bytes)) = some (some (.agg #[.slice none 0 0]), 1, 24) := by kernel_rfl
set_option maxHeartbeats 1000000 in
theorem toVec (w : World) (a : Option Addr) (c : Nat) (x : List Int) (hx : IsL w a x) (hl : x.length ≤ 1048576) :
    Calls Try.prog 101 #[.agg #[.slice a x.length c]] w fun e w' => ∃ g, e = .returned (.agg #[.slice (some ⟨g, 0, none⟩) x.length x.length]) ∧ w.heap.size ≤ g ∧ g < w'.heap.size ∧ OwI w' (fun k => k = g) (.slice (some ⟨g, 0, none⟩) x.length x.length) x ∧ Below w.heap.size w w' := by
  go_enter Try.func101, Try.ntmps101
  go_wp2_with fail
  obtain ⟨W, hW, hsz, hB, _, bx, br⟩ := new3 w [.slice a x.length c] [.slice none 0 0] [.slice none 0 0] 129 50 50
  rw [hW]
  clear hW
  refine (Li.to_any _ _ _ x (hx.below hB) (by omega)).mono ?_
  rintro e w1 ⟨rfl, ho, hB1⟩
  obtain ⟨g, hg⟩ : ∃ g, W.heap.size = g := ⟨_, rfl⟩
  have hgl := (ho.ge W.heap.size rfl).2
  rw [hg] at ho hgl ⊢
  obtain ⟨_, e1, f1⟩ := wr1 (bx.below hB1)
  obtain ⟨_, e2, f2⟩ := wr1 (br.below hB1)
  have HO : Hid (OwI w1 (fun k => k = g) (.slice (some ⟨g, 0, none⟩) x.length x.length) x) := owi_of ho rfl rfl
  have hB := hB.trans (hB1.mono hB.size)
  have hgz : w.heap.size + 3 = g := by omega
  have HG : Hid (w.heap.size + 3 = g) := hgz
  have hs1 : w.heap.size + 2 < w1.heap.size := by omega
  have hs2 : w.heap.size + 1 < w1.heap.size := by omega
  clear ho hg hB1 hsz hgz bx br
  go_wp2
  refine bodyPost_ret (v := .agg #[.slice (some ⟨g, 0, none⟩) x.length x.length]) (by rw [Tm.results_cell rfl]; go_simp) rfl ⟨g, rfl, ?_, ?_, ?_, ?_⟩
  · have := HG.out; omega
  · simpa [World.setCell] using hgl
  · have hne : ∀ k, k = g → ¬ (k = w.heap.size + 1 ∨ k = w.heap.size + 2) := fun k e => by have := HG.out; omega
    refine OwI.fr (B' := fun k => k = w.heap.size + 1 ∨ k = w.heap.size + 2) HO.out ?_ hne
    exact (fr_grown (Li.grown_set _ _ _ _) (by simp)).trans (fr_grown (Li.grown_set _ _ _ _) (by simp))
  · exact (hB.setCell (by simp; omega) _).setCell (by simp) _
end Go.Proofs.Ytbnjbmajfadmaaa.Sv
