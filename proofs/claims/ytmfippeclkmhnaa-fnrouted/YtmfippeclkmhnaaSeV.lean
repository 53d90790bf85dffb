/-
  Rows that a call answers, put into a variable of their own: what is known in whatever order the variable and the rows are made.
-/
import Derived.Test.YtmfippeclkmhnaaSeZ
import Derived.Deep.CutRange
namespace Go.Proofs.Ytmfippeclkmhnaa.Sv
set_option maxRecDepth 100000
open Go.RowKit
open Go.Proofs.Ytmfippeclkmhnaa.Se
set_option linter.unusedVariables false

theorem szr_asked (r : R) (f b : Int) : szr (asked r f b) ≤ szr r := by
  cases hc : can r f with
  | false => rw [asked_no b hc]; simp [szr, tot]
  | true =>
    rw [asked_ok b hc]
    have h := (can_iff.1 hc).1.1.2.2.1
    simp only [szr, idsA_length]
    omega
def zr5v : List Value := [.slice none 0 0, .slice none 0 0, .slice none 0 0, .int .i64 0, .int .i64 0]
/-- The rows in their variable. -/
structure Res (w wx : World) (bo lo hi : Nat) (v0 v1 v2 : Value) (q : R) : Prop where
  bx : Wr wx bo 0 [v0, v1, v2, .int .i64 q.lv, .int .i64 q.l2]
  ow : OwR wx (fun k => lo ≤ k ∧ k < hi) v0 v1 v2 q
  ge : w.heap.size ≤ bo ∧ w.heap.size ≤ lo
  nl : ¬ (lo ≤ bo ∧ bo < hi)
  hl : hi ≤ wx.heap.size
  bel : Below w.heap.size w wx
/-- How far the region has come. -/
structure Sq (w wc : World) (kp : World → Prop) (q : R) (V : Option Nat) (G : Option (Value × Value × Value × Nat × Nat)) : Prop where
  bel : Below w.heap.size w wc
  kk : kp wc
  ks : ∀ A B : World, kp A → Below A.heap.size A B → kp B
  oV : ∀ g, V = some g → Wr wc g 0 zr5v ∧ w.heap.size ≤ g
  oG : ∀ v0 v1 v2 lo hi, G = some (v0, v1, v2, lo, hi) → OwR wc (fun k => lo ≤ k ∧ k < hi) v0 v1 v2 q ∧ w.heap.size ≤ lo ∧ hi ≤ wc.heap.size
  vg : ∀ g v0 v1 v2 lo hi, V = some g → G = some (v0, v1, v2, lo, hi) → ¬ (lo ≤ g ∧ g < hi)
section
variable {w wc wn : World} {kp : World → Prop} {q : R} {V : Option Nat} {G : Option (Value × Value × Value × Nat × Nat)}
theorem Sq.init (w : World) (q : R) : Sq w w (fun _ => True) q none none := ⟨Below.refl _ _, trivial, fun _ _ _ _ => trivial, fun g e => by simp at e, fun v0 v1 v2 lo hi e => by simp at e, fun g v0 v1 v2 lo hi e => by simp at e⟩
theorem Sq.step (h : Sq w wc kp q V G) (hb : Below wc.heap.size wc wn) : Sq w wn kp q V G :=
  ⟨h.bel.trans (hb.mono h.bel.size), h.ks _ _ h.kk hb, h.ks, fun g e => ⟨(h.oV g e).1.below hb, (h.oV g e).2⟩, fun v0 v1 v2 lo hi e => ⟨(h.oG v0 v1 v2 lo hi e).1.below hb, (h.oG v0 v1 v2 lo hi e).2.1, Nat.le_trans (h.oG v0 v1 v2 lo hi e).2.2 hb.size⟩, h.vg⟩
theorem Sq.know {kp' : World → Prop} (h : Sq w wc kp q V G) (hk : kp' wc) (hs : ∀ A B : World, kp' A → Below A.heap.size A B → kp' B) : Sq w wc (fun W => kp W ∧ kp' W) q V G :=
  ⟨h.bel, ⟨h.kk, hk⟩, fun A B hA hb => ⟨h.ks A B hA.1 hb, hs A B hA.2 hb⟩, h.oV, h.oG, h.vg⟩
theorem Sq.drew (h : Sq w wc kp q V G) : Sq w wc.drew kp q V G := h.step (Tm.below_drew wc)
theorem Sq.al0 (h : Sq w wc kp q none G) : Sq w (wc.alloc (.cells #[.slice none 0 0, .slice none 0 0, .slice none 0 0, .int .i64 0, .int .i64 0] 27)) kp q (some wc.heap.size) G := by
  have hb : Below wc.heap.size wc (wc.alloc (.cells #[.slice none 0 0, .slice none 0 0, .slice none 0 0, .int .i64 0, .int .i64 0] 27)) := (Below.refl _ _).alloc (Nat.le_refl _) _
  have k := h.step hb
  refine ⟨k.bel, k.kk, k.ks, fun g e => ?_, k.oG, fun g v0 v1 v2 lo hi e e' => ?_⟩
  all_goals (cases e)
  · exact ⟨wr_new wc zr5v 27, h.bel.size⟩
  · have := (h.oG v0 v1 v2 lo hi e').2.2; omega
theorem Sq.al (h : Sq w wc kp q none G) : Sq w (wc.alloc (.cells #[.slice none 0 0, .slice none 0 0, .slice none 0 0, .int .i64 0, .int .i64 0] 27)).drew kp q (some wc.heap.size) G := h.al0.drew
theorem Sq.mkG (h : Sq w wc kp q V none) {v0 v1 v2 : Value} (hw : OwR wn (fun k => wc.heap.size ≤ k ∧ k < wn.heap.size) v0 v1 v2 q) (hb : Below wc.heap.size wc wn) : Sq w wn kp q V (some (v0, v1, v2, wc.heap.size, wn.heap.size)) := by
  have k := h.step hb
  refine ⟨k.bel, k.kk, k.ks, k.oV, fun v0 v1 v2 lo hi e => ?_, fun g v0 v1 v2 lo hi e' e => ?_⟩
  all_goals (cases e)
  · exact ⟨hw, h.bel.size, Nat.le_refl _⟩
  · have := (h.oV g e').1.1; omega
end
theorem Sq.ofSet {w wn : World} {kp : World → Prop} {q : R} {bo lo hi : Nat} {v0 v1 v2 : Value} (h : Sq w wn kp q (some bo) (some (v0, v1, v2, lo, hi))) :
    Res w (((((wn.setCell ⟨bo, 0, none⟩ v0).setCell ⟨bo, 1, none⟩ v1).setCell ⟨bo, 2, none⟩ v2).setCell ⟨bo, 3, none⟩ (.int .i64 q.lv)).setCell ⟨bo, 4, none⟩ (.int .i64 q.l2)) bo lo hi v0 v1 v2 q := by
  obtain ⟨oV, geV⟩ := h.oV bo rfl
  obtain ⟨oG, geG, hl⟩ := h.oG v0 v1 v2 lo hi rfl
  have m3 := h.vg bo v0 v1 v2 lo hi rfl rfl
  have hfr : ∀ (A : World) (o : Nat) (v : Value), Fr (fun k => k = bo) A (A.setCell ⟨bo, o, none⟩ v) := fun A o v => fr_grown (Li.grown_set A bo o v) rfl
  have hF : Fr (fun k => k = bo) wn (((((wn.setCell ⟨bo, 0, none⟩ v0).setCell ⟨bo, 1, none⟩ v1).setCell ⟨bo, 2, none⟩ v2).setCell ⟨bo, 3, none⟩ (.int .i64 q.lv)).setCell ⟨bo, 4, none⟩ (.int .i64 q.l2)) := by
    iterate 5 refine Fr.trans ?_ (hfr _ _ _)
    exact Fr.refl _ _
  refine ⟨?_, oG.fr hF (fun k hk e => by omega), ⟨geV, geG⟩, m3, Nat.le_trans hl hF.size, h.bel.trans (hF.bel (fun k hk => by omega) h.bel.size)⟩
  have h0 := oV.set 0 (by simp [zr5v]) v0
  have h1 := h0.set 1 (by simp [zr5v]) v1
  have h2 := h1.set 2 (by simp [zr5v]) v2
  have h3 := h2.set 3 (by simp [zr5v]) (.int .i64 q.lv)
  have h4 := h3.set 4 (by simp [zr5v]) (.int .i64 q.l2)
  simpa [zr5v] using h4
theorem Sq.ofNew {w wn : World} {kp : World → Prop} {q : R} {lo hi : Nat} {v0 v1 v2 : Value} (h : Sq w wn kp q none (some (v0, v1, v2, lo, hi))) :
    Res w (wn.alloc (.cells #[v0, v1, v2, .int .i64 q.lv, .int .i64 q.l2] 27)) wn.heap.size lo hi v0 v1 v2 q := by
  obtain ⟨oG, geG, hl⟩ := h.oG v0 v1 v2 lo hi rfl
  have hb : Below wn.heap.size wn (wn.alloc (.cells #[v0, v1, v2, .int .i64 q.lv, .int .i64 q.l2] 27)) := (Below.refl _ _).alloc (Nat.le_refl _) _
  exact ⟨wr_new wn [v0, v1, v2, .int .i64 q.lv, .int .i64 q.l2] 27, oG.below hb, ⟨h.bel.size, geG⟩, by omega, Nat.le_trans hl hb.size, h.bel.trans (hb.mono h.bel.size)⟩
end Go.Proofs.Ytmfippeclkmhnaa.Sv
