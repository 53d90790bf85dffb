/-
  Small readings for the laws over models: a list of the call's own under a frame; a variable of three cells; marks of a row.
-/
import Derived.Test.YtkiddmbenepfjaaMdm
namespace Go.Proofs.Ytkiddmbenepfjaa.Md
set_option maxRecDepth 20000
open Go.RowKit
open Go.Proofs.Ytkiddmbenepfjaa.Tb (ownsRow_at Row RowIs)
open Go.Proofs.Ytkiddmbenepfjaa.Sv (Fr fr_below fr_grown new1 Wr)
set_option linter.unusedVariables false
theorem own_fr {w w1 : World} {B : Nat → Prop} {base : Nat} {v : Value} {xs : List Int} (h : Li.Own w base v xs) (hf : Fr B w w1) (hd : ∀ k, v.ownBlock = some k → ¬ B k) : Li.Own w1 base v xs := ownsRow_at h (fun k e => hf.block k (h.ge k e).2 (hd k e))
theorem fr_own {w w1 : World} {B : Nat → Prop} {v : Value} (h : w.grownBy w1 v.ownBlock) (hB : ∀ k, v.ownBlock = some k → B k) : Fr B w w1 := ⟨h.os, h.tape, h.output, h.size, fun k hk hn => h.block k hk (fun e => hn (hB k e.symm))⟩
theorem wr3 {w : World} {b : Nat} {v0 v1 v2 : Value} (h : Wr w b 0 [v0, v1, v2]) : b < w.heap.size ∧ (w.cell? ⟨b, 0, none⟩ = some v0 ∧ w.cell? ⟨b, 1, none⟩ = some v1 ∧ w.cell? ⟨b, 2, none⟩ = some v2) ∧ w.frozen? ⟨b, 0, none⟩ = false ∧ w.frozen? ⟨b, 1, none⟩ = false ∧ w.frozen? ⟨b, 2, none⟩ = false :=
  ⟨h.1, ⟨(h.2 0 (by simp)).1, (h.2 1 (by simp)).1, (h.2 2 (by simp)).1⟩, (h.2 0 (by simp)).2, (h.2 1 (by simp)).2, (h.2 2 (by simp)).2⟩
/-- A row of the call's own. -/
def OwR (w : World) (B : Nat → Prop) (u0 u1 : Value) (r : Row) : Prop := (∃ b, Li.Own w b u0 r.nums) ∧ (∃ b, Ls.Own w b u1 r.cats) ∧ (∀ k, u0.ownBlock = some k → B k ∧ u1.ownBlock ≠ some k) ∧ ∀ k, u1.ownBlock = some k → B k
theorem OwR.fr {w w1 : World} {B B' : Nat → Prop} {u0 u1 : Value} {r : Row} (h : OwR w B u0 u1 r) (hf : Fr B' w w1) (hd : ∀ k, B k → ¬ B' k) : OwR w1 B u0 u1 r := by
  obtain ⟨⟨b0, h0⟩, ⟨b1, h1⟩, hs, ht⟩ := h
  exact ⟨⟨b0, own_fr h0 hf (fun k e => hd k (hs k e).1)⟩, ⟨b1, ownsRow_at h1 (fun k e => hf.block k (h1.ge k e).2 (hd k (ht k e)))⟩, hs, ht⟩
theorem OwR.below {w w1 : World} {B : Nat → Prop} {u0 u1 : Value} {r : Row} (h : OwR w B u0 u1 r) (hb : Below w.heap.size w w1) : OwR w1 B u0 u1 r := h.fr (fr_below (B := fun _ => False) hb) (fun _ _ e => e)
theorem OwR.row {w : World} {B : Nat → Prop} {u0 u1 : Value} {r : Row} (h : OwR w B u0 u1 r) : RowIs w u0 u1 (.int .i64 r.label) r := by
  obtain ⟨⟨b0, h0⟩, ⟨b1, h1⟩, _⟩ := h
  obtain ⟨a0, c0, e0, i0⟩ := h0.isl
  obtain ⟨a1, c1, e1, i1⟩ := h1.iss
  exact ⟨a0, c0, a1, c1, e0, e1, rfl, i0, i1⟩
theorem toRowO (w : World) (v0 v1 v2 : Value) (r : Row) (hr : RowIs w v0 v1 v2 r) (hl : r.sz ≤ 1048576) :
    Calls Try.prog 15 #[.agg #[v0, v1, v2]] w fun e w' => ∃ u0 u1, e = .returned (.agg #[u0, u1, .int .i64 r.label]) ∧ OwR w' (fun k => w.heap.size ≤ k ∧ k < w'.heap.size) u0 u1 r ∧ Below w.heap.size w w' := by
  refine (Tb.toRow w v0 v1 v2 r hr hl).mono ?_
  rintro e w' ⟨u0, u1, rfl, o0, o1, hap, hb⟩
  refine ⟨u0, u1, rfl, ⟨⟨_, o0⟩, ⟨_, o1⟩, fun k e => ⟨o0.ge k e, fun e' => ?_⟩, fun k e => o1.ge k e⟩, hb⟩
  rcases hap with h | h
  · rw [h] at e; cases e
  · exact h (by rw [e, e'])
set_option maxHeartbeats 1000000 in
theorem markRow (w : World) (B : Nat → Prop) (u0 u1 : Value) (q : Int) (r : Row) (h : OwR w B u0 u1 r) (hl : r.sz ≤ 1048576) (k0 : 0 ≤ q) (k1 : q ≤ 10000000000) :
    Calls Try.prog 20 #[.agg #[u0, u1, .int .i64 r.label], .int .i64 q] w fun e w' => e = .returned (.int .i64 (q + r.nums.length + r.cats.length)) ∧ Fr B w w' := by
  obtain ⟨⟨b0, h0⟩, ⟨b1, h1⟩, hs, ht⟩ := h
  unfold Row.sz at hl
  obtain ⟨a0, c0, rfl, _⟩ := h0.isl
  obtain ⟨a1, c1, rfl, _⟩ := h1.iss
  obtain ⟨n, rfl⟩ : ∃ n : Nat, q = (n : Int) := ⟨q.toNat, by omega⟩
  have h0z := h0
  have h1z := h1
  go_enter Try.func20, Try.ntmps20
  go_wp2_with fail
  obtain ⟨W, hW, hsz, hB, bx⟩ := new1 w [.slice a0 r.nums.length c0, .slice a1 r.cats.length c1, .int .i64 r.label] 45
  rw [hW]
  clear hW
  refine (Li.mark_walk _ b0 _ _ _ (n : Int) r.nums rfl (h0.below hB) (by omega) (by omega) (by omega)).mono ?_
  rintro e w1 ⟨rfl, o0, hg, _⟩
  have bx := bx.keptAt hg.size (hg.block _ bx.1 (fun e => by have := (h0z.ge _ e.symm).2; omega))
  have hf1 : Fr B W w1 := fr_own hg (fun k e => (hs k e).1)
  have h1 : Ls.Own w1 b1 (.slice a1 r.cats.length c1) r.cats := ownsRow_at (h1.below hB) (fun k e => hg.block k ((h1.below hB).ge k e).2 (fun e' => (hs k e'.symm).2 e))
  have hF : Fr B w w1 := (fr_below hB).trans hf1
  rw [show (n : Int) + (r.nums.length : Int) = ((n + r.nums.length : Nat) : Int) by omega]
  clear hg hf1 hB hsz o0 h0 h0z h1z
  obtain ⟨_, ⟨x0, x1, x2⟩, _⟩ := wr3 bx
  obtain ⟨N, hN⟩ : ∃ N, n + r.nums.length = N := ⟨_, rfl⟩
  have HN : Hid (n + r.nums.length = N) := hN
  rw [hN]
  have hN1 : N ≤ 20000000000 := by omega
  clear hN
  go_wp2_with fail
  refine (Mk.mark_strs _ b1 _ _ _ N r.cats rfl h1 (by omega) (by omega)).mono ?_
  rintro e w2 ⟨rfl, o1, hg⟩
  have hF : Fr B w w2 := hF.trans (fr_own hg ht)
  have HE : Hid (((N + r.cats.length : Nat) : Int) = (n : Int) + (r.nums.length : Int) + (r.cats.length : Int)) := by show _ = _; have := HN.out; omega
  clear hg o1 h1 bx x0 x1 x2
  rw [HE.out]
  go_wp2
  go_ret
  exact ⟨rfl, hF⟩
end Go.Proofs.Ytkiddmbenepfjaa.Md
