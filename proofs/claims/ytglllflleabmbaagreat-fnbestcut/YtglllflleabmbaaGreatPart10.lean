/-
  Contracts that the proof leans on, put together in the order in which they build.
-/
import Derived.Test.YtglllflleabmbaaGreatPart9
import Derived.Test.YtglllflleabmbaaGreatPart1
import Derived.Deep.RegionHeld3
import Derived.Deep.RegionHeldLaw
import Derived.Test.YtglllflleabmbaaGreatPart2
import Derived.Deep.AppendLies
import Derived.Deep.RegionLaw
import Derived.Deep.RegionWith
/-
  Tables of words and their numbers (CtrTab), one behind the other: what is read, what may be written; contracts of the laws' own helpers over them.
-/
namespace Go.Proofs.YtglllflleabmbaaGreat.Kt
set_option maxRecDepth 20000
open Go.RowKit
open Go.Proofs.YtglllflleabmbaaGreat.Tb (ownsRow_at)
open Go.Proofs.YtglllflleabmbaaGreat.Sv (Fr fr_below)
open Go.Proofs.YtglllflleabmbaaGreat.Mk (mtexts mtexts_length)
open Go.Proofs.YtglllflleabmbaaGreat.Li (marks marks_length)
set_option linter.unusedVariables false

structure Kv where
  ws : List ByteArray
  vs : List Int
def IsK (w : World) (a : Option Addr) (ts : List Kv) : Prop :=
  ts = [] ∨ ∃ b off, a = some ⟨b, off, none⟩ ∧ b < w.heap.size ∧ ∀ j (hj : j < ts.length), ∃ a0 c0 a1 c1, (w.cell? ⟨b, off + j * 2, none⟩ = some (.slice a0 ts[j].ws.length c0) ∧ w.cell? ⟨b, off + j * 2 + 1, none⟩ = some (.slice a1 ts[j].vs.length c1)) ∧ Ls.IsS w a0 ts[j].ws ∧ Li.IsL w a1 ts[j].vs
theorem IsK.below {w w1 : World} {a : Option Addr} {ts : List Kv} (h : IsK w a ts) (hB : Below w.heap.size w w1) : IsK w1 a ts := by
  rcases h with h | ⟨b, off, rfl, hb, hc⟩
  · exact .inl h
  · refine .inr ⟨b, off, rfl, Nat.lt_of_lt_of_le hb hB.size, fun j hj => ?_⟩
    obtain ⟨a0, c0, a1, c1, ⟨h0, h1⟩, i0, i1⟩ := hc j hj
    exact ⟨a0, c0, a1, c1, ⟨(hB.cell (by exact hb)).trans h0, (hB.cell (by exact hb)).trans h1⟩, i0.below hB, i1.below hB⟩
def OwK (w : World) (B : Nat → Prop) (v : Value) (ts : List Kv) : Prop :=
  ∃ vs : List Value, w.ownsRow 0 56 2 v ts.length vs ∧ vs.length = ts.length * 2 ∧ (∀ j (h : j < ts.length), Ls.Own w 0 (vs.getD (j * 2) undef) ts[j].ws ∧ Li.Own w 0 (vs.getD (j * 2 + 1) undef) ts[j].vs) ∧ (∀ k, v.ownBlock = some k → B k) ∧ (∀ p, p < vs.length → ∀ k, (vs.getD p undef).ownBlock = some k → B k ∧ v.ownBlock ≠ some k) ∧ (∀ p q, p < vs.length → q < vs.length → ¬ p = q → ∀ k, (vs.getD p undef).ownBlock = some k → (vs.getD q undef).ownBlock ≠ some k)
variable {w w1 : World} {B : Nat → Prop} {v : Value} {ts : List Kv}
theorem half2 {p n : Nat} (h : p < n * 2) : ∃ j, j < n ∧ (p = j * 2 ∨ p = j * 2 + 1) := ⟨p / 2, by omega, by omega⟩
theorem OwK.lt (h : OwK w B v ts) : (∀ k, v.ownBlock = some k → k < w.heap.size) := by
  obtain ⟨vs, ho, _⟩ := h
  exact fun k hk => (World.ownsRow.lt ho k hk).2
theorem OwK.nil (w : World) (B : Nat → Prop) : OwK w B (.slice none 0 0) [] :=
  ⟨[], World.ownsRow_nil _ _ _ _, rfl, fun j h => by simp at h, fun k hk => by simp [Value.ownBlock] at hk, fun p h => by simp at h, fun p q h => by simp at h⟩
theorem OwK.fr {B' : Nat → Prop} (h : OwK w B v ts) (hf : Fr B' w w1) (hd : ∀ k, B k → ¬ B' k) : OwK w1 B v ts := by
  obtain ⟨vs, ho, hl, he, hv, hb, hs⟩ := h
  refine ⟨vs, ownsRow_at ho (fun k e => hf.block k (World.ownsRow.lt ho k e).2 (hd k (hv k e))), hl, fun j hj => ?_, hv, hb, hs⟩
  obtain ⟨h0, h1⟩ := he j hj
  exact ⟨ownsRow_at h0 (fun k e => hf.block k (h0.ge k e).2 (hd k (hb _ (by omega) k e).1)), ownsRow_at h1 (fun k e => hf.block k (h1.ge k e).2 (hd k (hb _ (by omega) k e).1))⟩
theorem OwK.below (h : OwK w B v ts) (hb : Below w.heap.size w w1) : OwK w1 B v ts := h.fr (fr_below (B := fun _ => False) hb) (fun _ _ e => e)
theorem OwK.mono {B' : Nat → Prop} (h : OwK w B v ts) (hb : ∀ k, B k → B' k) : OwK w B' v ts := by
  obtain ⟨vs, ho, hl, he, hv, hbb, hs⟩ := h
  exact ⟨vs, ho, hl, he, fun k e => hb k (hv k e), fun p hp k e => ⟨hb k (hbb p hp k e).1, (hbb p hp k e).2⟩, hs⟩
theorem OwK.bound (h : OwK w B v ts) : OwK w (fun k => B k ∧ k < w.heap.size) v ts := by
  obtain ⟨vs, ho, hl, he, hv, hbb, hs⟩ := h
  refine ⟨vs, ho, hl, he, fun k e => ⟨hv k e, (World.ownsRow.lt ho k e).2⟩, fun p hp k e => ⟨⟨(hbb p hp k e).1, ?_⟩, (hbb p hp k e).2⟩, hs⟩
  obtain ⟨j, hj, rfl | rfl⟩ := half2 (n := ts.length) (p := p) (by omega)
  · exact ((he j hj).1.ge k e).2
  · exact ((he j hj).2.ge k e).2
theorem OwK.isk (h : OwK w B v ts) : ∃ a cap, v = .slice a ts.length cap ∧ IsK w a ts := by
  obtain ⟨vs, ho, hl, he, _⟩ := h
  have h' := ho
  rcases ho.2 with ⟨rfl, h0⟩ | ⟨g, cap, cur, rfl, hb, hh, _⟩
  · obtain rfl := List.length_eq_zero_iff.1 h0
    exact ⟨none, 0, rfl, .inl rfl⟩
  · refine ⟨_, cap, rfl, .inr ⟨g, 0, rfl, (Array.getElem?_eq_some_iff.1 hh).1, fun j hj => ?_⟩⟩
    obtain ⟨o0, o1⟩ := he j hj
    obtain ⟨a0, c0, e0, i0⟩ := o0.iss
    obtain ⟨a1, c1, e1, i1⟩ := o1.isl
    refine ⟨a0, c0, a1, c1, ⟨?_, ?_⟩, i0, i1⟩
    · rw [Nat.zero_add, World.ownsRow.cellAt h' _ (by omega), ← e0]
      simp [List.getElem?_eq_getElem (show j * 2 < vs.length by omega)]
    · rw [Nat.zero_add, World.ownsRow.cellAt h' _ (by omega), ← e1]
      simp [List.getElem?_eq_getElem (show j * 2 + 1 < vs.length by omega)]
theorem getD_app1 {α : Type} {xs : List α} {a b d : α} {p : Nat} (h : p < xs.length) : (xs ++ [a, b]).getD p d = xs.getD p d := by
  simp [List.getElem?_append_left h]
theorem getD_app2 {α : Type} {xs : List α} {a b d : α} : (xs ++ [a, b]).getD xs.length d = a := by simp
theorem getD_app3 {α : Type} {xs : List α} {a b d : α} : (xs ++ [a, b]).getD (xs.length + 1) d = b := by simp
theorem owk_snoc {v5 u0 u1 : Value} {x : Kv} {vs : List Value} {m : Nat} (hl : vs.length = ts.length * 2) (he : ∀ j (h : j < ts.length), Ls.Own w 0 (vs.getD (j * 2) undef) ts[j].ws ∧ Li.Own w 0 (vs.getD (j * 2 + 1) undef) ts[j].vs)
    (hv : ∀ k, v.ownBlock = some k → B k ∧ k < m) (hb : ∀ p, p < vs.length → ∀ k, (vs.getD p undef).ownBlock = some k → (B k ∧ k < m) ∧ v.ownBlock ≠ some k) (hs : ∀ p q, p < vs.length → q < vs.length → ¬ p = q → ∀ k, (vs.getD p undef).ownBlock = some k → (vs.getD q undef).ownBlock ≠ some k)
    (h0 : Ls.Own w m u0 x.ws) (h1 : Li.Own w m u1 x.vs) (h01 : ∀ k, u0.ownBlock = some k → u1.ownBlock ≠ some k) (hB : ∀ k, m ≤ k → B k) (hm : m ≤ w.heap.size)
    (ho : w1.ownsRow 0 56 2 v5 (ts.length + 1) (vs ++ [u0, u1])) (hg : w.grownBy w1 v.ownBlock) (hloc : v5.ownBlock = v.ownBlock ∨ v5.ownBlock = some w.heap.size) : OwK w1 B v5 (ts ++ [x]) := by
  have hn5 : ∀ k, k < w.heap.size → v.ownBlock ≠ some k → v5.ownBlock ≠ some k := fun k hk hn e => by
    rcases hloc with h | h
    · exact hn (h ▸ e)
    · rw [h] at e; injection e with e; omega
  have hvm : ∀ k, m ≤ k → v.ownBlock ≠ some k := fun k hk e => by have := (hv k e).2; omega
  refine ⟨vs ++ [u0, u1], by simpa using ho, by simp; omega, fun j hj => ?_, fun k e => ?_, fun p hp k e => ?_, fun p q hp hq hpq k e => ?_⟩
  · by_cases hjl : j < ts.length
    · rw [List.getElem_append_left hjl, getD_app1 (by omega), getD_app1 (by omega)]
      obtain ⟨q0, q1⟩ := he j hjl
      exact ⟨ownsRow_at q0 (fun k e => hg.block k (q0.ge k e).2 (fun e' => (hb _ (by omega) k e).2 e'.symm)), ownsRow_at q1 (fun k e => hg.block k (q1.ge k e).2 (fun e' => (hb _ (by omega) k e).2 e'.symm))⟩
    · have e1 : j = ts.length := by simp at hj; omega
      subst e1
      rw [List.getElem_append_right (by omega), ← hl, getD_app2, getD_app3]
      simp only [Nat.sub_self, List.getElem_cons_zero]
      have q0 : Ls.Own w1 m u0 x.ws := ownsRow_at h0 (fun k e => hg.block k (h0.ge k e).2 (fun e' => hvm k (h0.ge k e).1 e'.symm))
      have q1 : Li.Own w1 m u1 x.vs := ownsRow_at h1 (fun k e => hg.block k (h1.ge k e).2 (fun e' => hvm k (h1.ge k e).1 e'.symm))
      exact ⟨q0.mono (Nat.zero_le _), q1.mono (Nat.zero_le _)⟩
  · rcases hloc with h | h
    · exact (hv k (h ▸ e)).1
    · rw [h] at e; injection e with e; exact hB k (by omega)
  · by_cases hpl : p < vs.length
    · rw [getD_app1 hpl] at e
      obtain ⟨j, hj, hpj⟩ := half2 (n := ts.length) (p := p) (by omega)
      have hks : k < w.heap.size := by
        rcases hpj with rfl | rfl
        · exact ((he j hj).1.ge k e).2
        · exact ((he j hj).2.ge k e).2
      exact ⟨(hb p hpl k e).1.1, hn5 k hks (hb p hpl k e).2⟩
    · have hp' : p = vs.length ∨ p = vs.length + 1 := by simp at hp; omega
      rcases hp' with rfl | rfl
      · rw [getD_app2] at e
        exact ⟨hB k (h0.ge k e).1, hn5 k (h0.ge k e).2 (hvm k (h0.ge k e).1)⟩
      · rw [getD_app3] at e
        exact ⟨hB k (h1.ge k e).1, hn5 k (h1.ge k e).2 (hvm k (h1.ge k e).1)⟩
  · have hp' : p < vs.length ∨ p = vs.length ∨ p = vs.length + 1 := by simp at hp; omega
    have hq' : q < vs.length ∨ q = vs.length ∨ q = vs.length + 1 := by simp at hq; omega
    rcases hp' with h1' | rfl | rfl <;> rcases hq' with h2' | rfl | rfl
    · rw [getD_app1 h1'] at e; rw [getD_app1 h2']; exact hs p q h1' h2' hpq k e
    · rw [getD_app1 h1'] at e; rw [getD_app2]; intro e'; have := (hb p h1' k e).1.2; have := (h0.ge k e').1; omega
    · rw [getD_app1 h1'] at e; rw [getD_app3]; intro e'; have := (hb p h1' k e).1.2; have := (h1.ge k e').1; omega
    · rw [getD_app2] at e; rw [getD_app1 h2']; intro e'; have := (hb q h2' k e').1.2; have := (h0.ge k e).1; omega
    · exact absurd rfl hpq
    · rw [getD_app2] at e; rw [getD_app3]; exact h01 k e
    · rw [getD_app3] at e; rw [getD_app1 h2']; intro e'; have := (hb q h2' k e').1.2; have := (h1.ge k e).1; omega
    · rw [getD_app3] at e; rw [getD_app2]; intro e'; exact h01 k e' e
    · exact absurd rfl hpq
theorem OwK.set0 (h : OwK w B v ts) (j : Nat) (hj : j < ts.length) : ∃ a c, v = .slice a ts.length c ∧ ∃ g a0 c0, a = some ⟨g, 0, none⟩ ∧ w.cell? ⟨g, j * 2, none⟩ = some (.slice a0 ts[j].ws.length c0) ∧ Ls.Own w 0 (.slice a0 ts[j].ws.length c0) ts[j].ws ∧ g < w.heap.size ∧
    ∀ w1 ws', Ls.Own w1 0 (.slice a0 ts[j].ws.length c0) ws' → w.grownBy w1 (Value.slice a0 ts[j].ws.length c0).ownBlock → OwK w1 B v (ts.set j ⟨ws', ts[j].vs⟩) ∧ Fr B w w1 := by
  obtain ⟨vs, ho, hl, he, hv, hb, hs⟩ := h
  have h' := ho
  rcases ho.2 with ⟨rfl, h0⟩ | ⟨g, cap, cur, rfl, hbg, hh, _⟩
  · omega
  obtain ⟨o0, o1⟩ := he j hj
  obtain ⟨a0, c0, e0, i0⟩ := o0.iss
  refine ⟨_, cap, rfl, g, a0, c0, rfl, ?_, e0 ▸ o0, (Array.getElem?_eq_some_iff.1 hh).1, fun w1 ws' hw hg => ?_⟩
  · rw [World.ownsRow.cellAt h' _ (by omega), ← e0]
    simp [List.getElem?_eq_getElem (show j * 2 < vs.length by omega)]
  · rw [← e0] at hw hg
    have hk : ∀ p, p < vs.length → ¬ p = j * 2 → ∀ k, (vs.getD p undef).ownBlock = some k → some k ≠ (vs.getD (j * 2) undef).ownBlock := fun p hp hne k e e' => hs p (j * 2) hp (by omega) hne k e e'.symm
    refine ⟨⟨vs, by rw [List.length_set]; exact ownsRow_at h' (fun k e => hg.block k (World.ownsRow.lt h' k e).2 (fun e' => (hb (j * 2) (by omega) k e'.symm).2 e)), by simpa using hl, fun i hi => ?_, hv, hb, hs⟩, ?_⟩
    · have hi' : i < ts.length := by simpa using hi
      obtain ⟨q0, q1⟩ := he i hi'
      have k1 : Li.Own w1 0 (vs.getD (i * 2 + 1) undef) ts[i].vs := ownsRow_at q1 (fun k e => hg.block k (q1.ge k e).2 (hk _ (by omega) (by omega) k e))
      by_cases hij : j = i
      · subst hij
        rw [List.getElem_set_self]
        exact ⟨hw, k1⟩
      · rw [List.getElem_set_ne hij]
        exact ⟨ownsRow_at q0 (fun k e => hg.block k (q0.ge k e).2 (hk _ (by omega) (by omega) k e)), k1⟩
    · exact ⟨hg.os, hg.tape, hg.output, hg.size, fun k hk' hn => hg.block k hk' (fun e => hn (hb (j * 2) (by omega) k e.symm).1)⟩
theorem OwK.set1 (h : OwK w B v ts) (j : Nat) (hj : j < ts.length) : ∃ a c, v = .slice a ts.length c ∧ ∃ g a0 c0, a = some ⟨g, 0, none⟩ ∧ w.cell? ⟨g, j * 2 + 1, none⟩ = some (.slice a0 ts[j].vs.length c0) ∧ Li.Own w 0 (.slice a0 ts[j].vs.length c0) ts[j].vs ∧ g < w.heap.size ∧
    ∀ w1 vs', Li.Own w1 0 (.slice a0 ts[j].vs.length c0) vs' → w.grownBy w1 (Value.slice a0 ts[j].vs.length c0).ownBlock → OwK w1 B v (ts.set j ⟨ts[j].ws, vs'⟩) ∧ Fr B w w1 := by
  obtain ⟨vs, ho, hl, he, hv, hb, hs⟩ := h
  have h' := ho
  rcases ho.2 with ⟨rfl, h0⟩ | ⟨g, cap, cur, rfl, hbg, hh, _⟩
  · omega
  obtain ⟨o0, o1⟩ := he j hj
  obtain ⟨a0, c0, e0, i0⟩ := o1.isl
  refine ⟨_, cap, rfl, g, a0, c0, rfl, ?_, e0 ▸ o1, (Array.getElem?_eq_some_iff.1 hh).1, fun w1 ws' hw hg => ?_⟩
  · rw [World.ownsRow.cellAt h' _ (by omega), ← e0]
    simp [List.getElem?_eq_getElem (show j * 2 + 1 < vs.length by omega)]
  · rw [← e0] at hw hg
    have hk : ∀ p, p < vs.length → ¬ p = j * 2 + 1 → ∀ k, (vs.getD p undef).ownBlock = some k → some k ≠ (vs.getD (j * 2 + 1) undef).ownBlock := fun p hp hne k e e' => hs p (j * 2 + 1) hp (by omega) hne k e e'.symm
    refine ⟨⟨vs, by rw [List.length_set]; exact ownsRow_at h' (fun k e => hg.block k (World.ownsRow.lt h' k e).2 (fun e' => (hb (j * 2 + 1) (by omega) k e'.symm).2 e)), by simpa using hl, fun i hi => ?_, hv, hb, hs⟩, ?_⟩
    · have hi' : i < ts.length := by simpa using hi
      obtain ⟨q0, q1⟩ := he i hi'
      have k1 : Ls.Own w1 0 (vs.getD (i * 2) undef) ts[i].ws := ownsRow_at q0 (fun k e => hg.block k (q0.ge k e).2 (hk _ (by omega) (by omega) k e))
      by_cases hij : j = i
      · subst hij
        rw [List.getElem_set_self]
        exact ⟨k1, hw⟩
      · rw [List.getElem_set_ne hij]
        exact ⟨k1, ownsRow_at q1 (fun k e => hg.block k (q1.ge k e).2 (hk _ (by omega) (by omega) k e))⟩
    · exact ⟨hg.os, hg.tape, hg.output, hg.size, fun k hk' hn => hg.block k hk' (fun e => hn (hb (j * 2 + 1) (by omega) k e.symm).1)⟩
end Go.Proofs.YtglllflleabmbaaGreat.Kt
/-
  Tables of words and their numbers, further: whether two are the same, whether marks are held.
-/
namespace Go.Proofs.YtglllflleabmbaaGreat.Kt
set_option maxRecDepth 20000
open Go.RowKit
open Go.Proofs.YtglllflleabmbaaGreat.Sv (Fr fr_below new2 wr2)
open Go.Proofs.YtglllflleabmbaaGreat.Mk (mtexts mtexts_length)
open Go.Proofs.YtglllflleabmbaaGreat.Li (marks marks_length)
set_option linter.unusedVariables false
end Go.Proofs.YtglllflleabmbaaGreat.Kt
/-
  Tables of words and their numbers, further: one put into its place; how great they are; a copy of the laws' own.
-/
namespace Go.Proofs.YtglllflleabmbaaGreat.Kt
set_option maxRecDepth 20000
open Go.RowKit
open Go.Proofs.YtglllflleabmbaaGreat.Tb (ownsRow_at sub sub_yes sub_no lets Fits)
open Go.Proofs.YtglllflleabmbaaGreat.Sv (Fr fr_below fr_grown new1 new2 new3 wr2 Wr)
open Go.Proofs.YtglllflleabmbaaGreat.Li (below_none)
set_option linter.unusedVariables false
variable {w w1 : World} {B : Nat → Prop} {v : Value} {ts : List Kv}
theorem getD_set2 {vs : List Value} {q p : Nat} {u0 u1 : Value} (hq : q + 1 < vs.length) : ((vs.set q u0).set (q + 1) u1).getD p undef = if p = q + 1 then u1 else if p = q then u0 else vs.getD p undef := by
  by_cases h1 : p = q + 1
  · subst h1; simp [hq]
  · by_cases h0 : p = q
    · subst h0; simp [show p < vs.length by omega]
    · simp [h0, h1, Ne.symm h0, Ne.symm h1]
theorem OwK.put {m : Nat} (h : OwK w (fun k => B k ∧ k < m) v ts) (j : Nat) (hj : j < ts.length) : ∃ a c, v = .slice a ts.length c ∧ ∃ g y0 y1, a = some ⟨g, 0, none⟩ ∧ w.cell? ⟨g, j * 2, none⟩ = some y0 ∧ w.cell? ⟨g, j * 2 + 1, none⟩ = some y1 ∧ w.frozen? ⟨g, j * 2, none⟩ = false ∧ w.frozen? ⟨g, j * 2 + 1, none⟩ = false ∧ g < w.heap.size ∧ B g ∧ g < m ∧
    ∀ u0 u1 (x : Kv), Ls.Own w m u0 x.ws → Li.Own w m u1 x.vs → (∀ k, u0.ownBlock = some k → u1.ownBlock ≠ some k) → (∀ k, m ≤ k → B k) → OwK ((w.setCell ⟨g, j * 2, none⟩ u0).setCell ⟨g, j * 2 + 1, none⟩ u1) B v (ts.set j x) := by
  obtain ⟨vs, ho, hl, he, hv, hb, hs⟩ := h
  have h' := ho
  rcases ho.2 with ⟨rfl, h0⟩ | ⟨g, cap, cur, rfl, hbg, hh, _⟩
  · omega
  have k0 := World.ownsRow.cellAt h' (j * 2) (by omega)
  have k1 := World.ownsRow.cellAt h' (j * 2 + 1) (by omega)
  rw [List.getElem?_eq_getElem (by omega)] at k0 k1
  obtain ⟨hBg, hgm⟩ := hv g rfl
  refine ⟨_, cap, rfl, g, _, _, rfl, k0, k1, World.ownsRow.frozenAt h' _, World.ownsRow.frozenAt h' _, (Array.getElem?_eq_some_iff.1 hh).1, hBg, hgm, fun u0 u1 x o0 o1 h01 hB => ?_⟩
  have hst := (World.ownsRow.stored (World.ownsRow.stored h' (j * 2) u0).1 (j * 2 + 1) u1).1
  have hg : w.grownBy ((w.setCell ⟨g, j * 2, none⟩ u0).setCell ⟨g, j * 2 + 1, none⟩ u1) (some g) := Li.grown_trans (Li.grown_set _ _ _ _) (Li.grown_set _ _ _ _)
  have hq : j * 2 + 1 < vs.length := by omega
  have hne : ∀ p, p < vs.length → ∀ k, (vs.getD p undef).ownBlock = some k → ¬ k = g := fun p hp k e e' => (hb p hp k e).2 (by subst e'; rfl)
  have hn0 : ∀ k, u0.ownBlock = some k → ¬ k = g := fun k e e' => by have := (o0.ge k e).1; omega
  have hn1 : ∀ k, u1.ownBlock = some k → ¬ k = g := fun k e e' => by have := (o1.ge k e).1; omega
  refine ⟨(vs.set (j * 2) u0).set (j * 2 + 1) u1, by rw [List.length_set]; exact hst, by simpa using hl, fun i hi => ?_, fun k e => (hv k e).1, fun p hp k e => ?_, fun p q hp hq' hpq k e => ?_⟩
  · have hi' : i < ts.length := by simpa using hi
    rw [getD_set2 hq, getD_set2 hq]
    by_cases hij : j = i
    · subst hij
      rw [if_neg (by omega), if_pos rfl, if_pos rfl, List.getElem_set_self]
      have q0 : Ls.Own ((w.setCell ⟨g, j * 2, none⟩ u0).setCell ⟨g, j * 2 + 1, none⟩ u1) m u0 x.ws := ownsRow_at o0 (fun k e => hg.block k (o0.ge k e).2 (fun e' => by injection e' with e'; exact hn0 k e e'))
      have q1 : Li.Own ((w.setCell ⟨g, j * 2, none⟩ u0).setCell ⟨g, j * 2 + 1, none⟩ u1) m u1 x.vs := ownsRow_at o1 (fun k e => hg.block k (o1.ge k e).2 (fun e' => by injection e' with e'; exact hn1 k e e'))
      exact ⟨q0.mono (Nat.zero_le _), q1.mono (Nat.zero_le _)⟩
    · rw [if_neg (by omega), if_neg (by omega), if_neg (by omega), if_neg (by omega), List.getElem_set_ne hij]
      obtain ⟨q0, q1⟩ := he i hi'
      exact ⟨ownsRow_at q0 (fun k e => hg.block k (q0.ge k e).2 (fun e' => by injection e' with e'; exact hne _ (by omega) k e e')), ownsRow_at q1 (fun k e => hg.block k (q1.ge k e).2 (fun e' => by injection e' with e'; exact hne _ (by omega) k e e'))⟩
  · rw [getD_set2 hq] at e
    have hgg : ∀ k, ¬ k = g → Value.ownBlock (.slice (some ⟨g, 0, none⟩) ts.length cap) ≠ some k := fun k hk e => hk (by simp [Value.ownBlock] at e; exact e.symm)
    by_cases h1 : p = j * 2 + 1
    · rw [if_pos h1] at e; exact ⟨hB k (o1.ge k e).1, hgg k (hn1 k e)⟩
    · rw [if_neg h1] at e
      by_cases h0 : p = j * 2
      · rw [if_pos h0] at e; exact ⟨hB k (o0.ge k e).1, hgg k (hn0 k e)⟩
      · rw [if_neg h0] at e; exact ⟨(hb p (by simpa using hp) k e).1.1, (hb p (by simpa using hp) k e).2⟩
  · rw [getD_set2 hq] at e ⊢
    have hp' : p < vs.length := by simpa using hp
    have hq'' : q < vs.length := by simpa using hq'
    by_cases p1 : p = j * 2 + 1
    · rw [if_pos p1] at e
      rw [if_neg (by omega)]
      by_cases q0 : q = j * 2
      · rw [if_pos q0]; exact fun e' => h01 k e' e
      · rw [if_neg q0]; exact fun e' => by have := (hb q hq'' k e').1.2; have := (o1.ge k e).1; omega
    · rw [if_neg p1] at e
      by_cases p0 : p = j * 2
      · rw [if_pos p0] at e
        by_cases q1 : q = j * 2 + 1
        · rw [if_pos q1]; exact h01 k e
        · rw [if_neg q1, if_neg (by omega)]; exact fun e' => by have := (hb q hq'' k e').1.2; have := (o0.ge k e).1; omega
      · rw [if_neg p0] at e
        by_cases q1 : q = j * 2 + 1
        · rw [if_pos q1]; exact fun e' => by have := (hb p hp' k e).1.2; have := (o1.ge k e').1; omega
        · rw [if_neg q1]
          by_cases q0 : q = j * 2
          · rw [if_pos q0]; exact fun e' => by have := (hb p hp' k e).1.2; have := (o0.ge k e').1; omega
          · rw [if_neg q0]; exact hs p q hp' hq'' hpq k e
def ksz : List Kv → Nat
  | [] => 0
  | t :: ts => (t.ws.length + lets t.ws + t.vs.length) + ksz ts
theorem ksz_take (ts : List Kv) (k : Nat) (h : k < ts.length) : ksz (ts.take (k + 1)) = ksz (ts.take k) + (ts[k].ws.length + lets ts[k].ws + ts[k].vs.length) := by
  induction ts generalizing k with
  | nil => simp at h
  | cons s r ih =>
    cases k with
    | zero => simp [ksz]
    | succ k =>
      simp only [List.take_succ_cons, ksz, List.getElem_cons_succ]
      rw [ih k (by simpa using h)]
      omega
theorem ksz_le (ts : List Kv) (k : Nat) : ksz (ts.take k) ≤ ksz ts := by
  induction ts generalizing k with
  | nil => simp
  | cons s r ih =>
    cases k with
    | zero => simp [ksz]
    | succ k => simp only [List.take_succ_cons, ksz]; have := ih k; omega
theorem ksz_at (ts : List Kv) (k : Nat) (h : k < ts.length) : ts[k].ws.length + lets ts[k].ws + ts[k].vs.length ≤ ksz ts := by
  have h1 := ksz_take ts k h
  have h2 := ksz_le ts (k + 1)
  omega
def FitsK (ts : List Kv) : Prop := ts.length ≤ 9223372036854775807 ∧ ∀ j (hj : j < ts.length), ts[j].ws.length ≤ 9223372036854775807 ∧ Fits ts[j].ws ∧ ts[j].vs.length ≤ 9223372036854775807
def part (ts : List Kv) (k : Nat) : List Kv := ts.take k ++ List.replicate (ts.length - k) ⟨[], []⟩
end Go.Proofs.YtglllflleabmbaaGreat.Kt
/-
  Lists of trees as the laws and both texts hold them; contracts of the laws' own helpers.
-/
namespace Go.Proofs.YtglllflleabmbaaGreat.Tm
open Go.RowKit
open Go.Proofs.YtglllflleabmbaaGreat.Li (ret_bool ret_int below_none)
open Go.Proofs.YtglllflleabmbaaGreat.Tb (sub sub_yes sub_no)
set_option linter.unusedVariables false

def TrIs (w : World) (v0 v1 : Value) (t : Tr.T) : Prop :=
  ∃ a c a' c', v0 = .slice a t.sp.length c ∧ v1 = .slice a' t.lv.length c' ∧ IsP w a t.sp ∧ Li.IsL w a' t.lv
theorem TrIs.below {w w1 : World} {v0 v1 : Value} {t : Tr.T} (h : TrIs w v0 v1 t) (hB : Below w.heap.size w w1) : TrIs w1 v0 v1 t := by
  obtain ⟨a, c, a', c', e0, e1, h0, h1⟩ := h
  exact ⟨a, c, a', c', e0, e1, h0.below hB, h1.below hB⟩
def IsT (w : World) (a : Option Addr) (ts : List Tr.T) : Prop :=
  ts = [] ∨ ∃ b off, a = some ⟨b, off, none⟩ ∧ b < w.heap.size ∧ ∀ j (hj : j < ts.length), ∃ v0 v1, (w.cell? ⟨b, off + j * 2, none⟩ = some v0 ∧ w.cell? ⟨b, off + j * 2 + 1, none⟩ = some v1) ∧ TrIs w v0 v1 ts[j]
theorem IsT.below {w w1 : World} {a : Option Addr} {ts : List Tr.T} (h : IsT w a ts) (hB : Below w.heap.size w w1) : IsT w1 a ts := by
  rcases h with h | ⟨b, off, rfl, hb, hc⟩
  · exact .inl h
  · refine .inr ⟨b, off, rfl, Nat.lt_of_lt_of_le hb hB.size, fun j hj => ?_⟩
    obtain ⟨v0, v1, ⟨c0, c1⟩, hr⟩ := hc j hj
    exact ⟨v0, v1, ⟨(hB.cell (by exact hb)).trans c0, (hB.cell (by exact hb)).trans c1⟩, hr.below hB⟩
theorem IsT.drewN {w : World} {a : Option Addr} {ts : List Tr.T} (h : IsT w a ts) (n : Nat) : IsT (w.drewN n) a ts := h
def szt (t : Tr.T) : Nat := t.sp.length + t.lv.length
def szT : List Tr.T → Nat
  | [] => 0
  | t :: ts => szt t + szT ts
theorem szT_take (ts : List Tr.T) (k : Nat) (h : k < ts.length) : szT (ts.take (k + 1)) = szT (ts.take k) + szt ts[k] := by
  induction ts generalizing k with
  | nil => simp at h
  | cons s r ih =>
    cases k with
    | zero => simp [szT]
    | succ k =>
      simp only [List.take_succ_cons, szT, List.getElem_cons_succ]
      rw [ih k (by simpa using h)]
      omega
theorem szT_le (ts : List Tr.T) (k : Nat) : szT (ts.take k) ≤ szT ts := by
  induction ts generalizing k with
  | nil => simp
  | cons s r ih =>
    cases k with
    | zero => simp [szT]
    | succ k => simp only [List.take_succ_cons, szT]; have := ih k; omega
theorem szT_at (ts : List Tr.T) (k : Nat) (h : k < ts.length) : szt ts[k] ≤ szT ts := by
  have h1 := szT_take ts k h
  have h2 := szT_le ts (k + 1)
  omega
def FitsT (ts : List Tr.T) : Prop := ts.length ≤ 9223372036854775807 ∧ ∀ j (hj : j < ts.length), ts[j].sp.length ≤ 9223372036854775807 ∧ ts[j].lv.length ≤ 9223372036854775807

def NestT (w : World) (B : Nat) (V0 V1 : Nat → Value) (xs : List Value) (ts : List Tr.T) (k : Nat) : Prop :=
  ∀ i (hi : i < ts.length), i < k → (xs[i * 2]? = some (V0 i) ∧ xs[i * 2 + 1]? = some (V1 i)) ∧ OwnP w B (V0 i) ts[i].sp ∧ Li.Own w B (V1 i) ts[i].lv
theorem NestT.grown {w w1 : World} {B g k : Nat} {V0 V1 : Nat → Value} {xs : List Value} {ts : List Tr.T} (h : NestT w B V0 V1 xs ts k) (hg : w.grownBy w1 (some g)) (hgB : g < B) : NestT w1 B V0 V1 xs ts k := by
  intro i hi hik
  obtain ⟨hc, o0, o1⟩ := h i hi hik
  exact ⟨hc, ownP_off o0 hg hgB, own_off o1 hg hgB⟩
theorem NestT.below {w w1 : World} {B k : Nat} {V0 V1 : Nat → Value} {xs : List Value} {ts : List Tr.T} (h : NestT w B V0 V1 xs ts k) (hb : Below w.heap.size w w1) : NestT w1 B V0 V1 xs ts k := by
  intro i hi hik
  obtain ⟨hc, o0, o1⟩ := h i hi hik
  exact ⟨hc, o0.below hb, o1.below hb⟩
theorem info_tree : (Tryz.prog.info? 60).map (fun i => (i.zero, i.size, i.bytes)) = some (some (.agg #[.slice none 0 0, .slice none 0 0]), 2, 48) := by kernel_rfl
end Go.Proofs.YtglllflleabmbaaGreat.Tm
/-
  Lists of trees: what may be written of them, where it lies; a copy of the laps' own, marks and whether they are held.
-/
namespace Go.Proofs.YtglllflleabmbaaGreat.To
set_option maxRecDepth 20000
open Go.RowKit
open Go.Proofs.YtglllflleabmbaaGreat.Tm
open Go.Proofs.YtglllflleabmbaaGreat.Sv (Fr fr_below)
open Go.Proofs.YtglllflleabmbaaGreat.Li (marks marks_length below_none)
set_option linter.unusedVariables false
def OwT (w : World) (B : Nat → Prop) (v : Value) (ts : List Tr.T) : Prop :=
  ∃ vs : List Value, w.ownsRow 0 60 2 v ts.length vs ∧ vs.length = ts.length * 2 ∧ (∀ j (h : j < ts.length), OwnP w 0 (vs.getD (j * 2) undef) ts[j].sp ∧ Li.Own w 0 (vs.getD (j * 2 + 1) undef) ts[j].lv) ∧ (∀ k, v.ownBlock = some k → B k) ∧ (∀ p, p < vs.length → ∀ k, (vs.getD p undef).ownBlock = some k → B k ∧ v.ownBlock ≠ some k) ∧ (∀ p q, p < vs.length → q < vs.length → ¬ p = q → ∀ k, (vs.getD p undef).ownBlock = some k → (vs.getD q undef).ownBlock ≠ some k)
variable {w w1 : World} {B : Nat → Prop} {v : Value} {ts : List Tr.T}
theorem half2 {p n : Nat} (h : p < n * 2) : ∃ j, j < n ∧ (p = j * 2 ∨ p = j * 2 + 1) := ⟨p / 2, by omega, by omega⟩
theorem OwT.lt (h : OwT w B v ts) : (∀ k, v.ownBlock = some k → k < w.heap.size) := by
  obtain ⟨vs, ho, _⟩ := h
  exact fun k hk => (World.ownsRow.lt ho k hk).2
theorem OwT.nil (w : World) (B : Nat → Prop) : OwT w B (.slice none 0 0) [] :=
  ⟨[], World.ownsRow_nil _ _ _ _, rfl, fun j h => by simp at h, fun k hk => by simp [Value.ownBlock] at hk, fun p h => by simp at h, fun p q h => by simp at h⟩
theorem OwT.fr {B' : Nat → Prop} (h : OwT w B v ts) (hf : Fr B' w w1) (hd : ∀ k, B k → ¬ B' k) : OwT w1 B v ts := by
  obtain ⟨vs, ho, hl, he, hv, hb, hs⟩ := h
  refine ⟨vs, ownsRow_at ho (fun k e => hf.block k (World.ownsRow.lt ho k e).2 (hd k (hv k e))), hl, fun j hj => ?_, hv, hb, hs⟩
  obtain ⟨h0, h1⟩ := he j hj
  exact ⟨ownsRow_at h0 (fun k e => hf.block k (h0.ge k e).2 (hd k (hb _ (by omega) k e).1)), ownsRow_at h1 (fun k e => hf.block k (h1.ge k e).2 (hd k (hb _ (by omega) k e).1))⟩
theorem OwT.below (h : OwT w B v ts) (hb : Below w.heap.size w w1) : OwT w1 B v ts := h.fr (fr_below (B := fun _ => False) hb) (fun _ _ e => e)
theorem OwT.mono {B' : Nat → Prop} (h : OwT w B v ts) (hb : ∀ k, B k → B' k) : OwT w B' v ts := by
  obtain ⟨vs, ho, hl, he, hv, hbb, hs⟩ := h
  exact ⟨vs, ho, hl, he, fun k e => hb k (hv k e), fun p hp k e => ⟨hb k (hbb p hp k e).1, (hbb p hp k e).2⟩, hs⟩
theorem OwT.bound (h : OwT w B v ts) : OwT w (fun k => B k ∧ k < w.heap.size) v ts := by
  obtain ⟨vs, ho, hl, he, hv, hbb, hs⟩ := h
  refine ⟨vs, ho, hl, he, fun k e => ⟨hv k e, (World.ownsRow.lt ho k e).2⟩, fun p hp k e => ⟨⟨(hbb p hp k e).1, ?_⟩, (hbb p hp k e).2⟩, hs⟩
  obtain ⟨j, hj, rfl | rfl⟩ := half2 (n := ts.length) (p := p) (by omega)
  · exact ((he j hj).1.ge k e).2
  · exact ((he j hj).2.ge k e).2
theorem OwT.ist (h : OwT w B v ts) : ∃ a cap, v = .slice a ts.length cap ∧ IsT w a ts := by
  obtain ⟨vs, ho, hl, he, _⟩ := h
  have h' := ho
  rcases ho.2 with ⟨rfl, h0⟩ | ⟨g, cap, cur, rfl, hb, hh, _⟩
  · obtain rfl := List.length_eq_zero_iff.1 h0
    exact ⟨none, 0, rfl, .inl rfl⟩
  · refine ⟨_, cap, rfl, .inr ⟨g, 0, rfl, (Array.getElem?_eq_some_iff.1 hh).1, fun j hj => ?_⟩⟩
    obtain ⟨o0, o1⟩ := he j hj
    obtain ⟨a0, c0, e0, _, i0⟩ := o0.isp
    obtain ⟨a1, c1, e1, i1⟩ := o1.isl
    refine ⟨_, _, ⟨?_, ?_⟩, a0, c0, a1, c1, e0, e1, i0, i1⟩
    · rw [Nat.zero_add, World.ownsRow.cellAt h' _ (by omega)]
      simp [List.getElem?_eq_getElem (show j * 2 < vs.length by omega)]
    · rw [Nat.zero_add, World.ownsRow.cellAt h' _ (by omega)]
      simp [List.getElem?_eq_getElem (show j * 2 + 1 < vs.length by omega)]
theorem getD_app1 {α : Type} {xs : List α} {a b d : α} {p : Nat} (h : p < xs.length) : (xs ++ [a, b]).getD p d = xs.getD p d := by
  simp [List.getElem?_append_left h]
theorem getD_app2 {α : Type} {xs : List α} {a b d : α} : (xs ++ [a, b]).getD xs.length d = a := by simp
theorem getD_app3 {α : Type} {xs : List α} {a b d : α} : (xs ++ [a, b]).getD (xs.length + 1) d = b := by simp
theorem owt_snoc {v5 u0 u1 : Value} {x : Tr.T} {vs : List Value} {m : Nat} (hl : vs.length = ts.length * 2) (he : ∀ j (h : j < ts.length), OwnP w 0 (vs.getD (j * 2) undef) ts[j].sp ∧ Li.Own w 0 (vs.getD (j * 2 + 1) undef) ts[j].lv)
    (hv : ∀ k, v.ownBlock = some k → B k ∧ k < m) (hb : ∀ p, p < vs.length → ∀ k, (vs.getD p undef).ownBlock = some k → (B k ∧ k < m) ∧ v.ownBlock ≠ some k) (hs : ∀ p q, p < vs.length → q < vs.length → ¬ p = q → ∀ k, (vs.getD p undef).ownBlock = some k → (vs.getD q undef).ownBlock ≠ some k)
    (h0 : OwnP w m u0 x.sp) (h1 : Li.Own w m u1 x.lv) (h01 : ∀ k, u0.ownBlock = some k → u1.ownBlock ≠ some k) (hB : ∀ k, m ≤ k → B k) (hm : m ≤ w.heap.size)
    (ho : w1.ownsRow 0 60 2 v5 (ts.length + 1) (vs ++ [u0, u1])) (hg : w.grownBy w1 v.ownBlock) (hloc : v5.ownBlock = v.ownBlock ∨ v5.ownBlock = some w.heap.size) : OwT w1 B v5 (ts ++ [x]) := by
  have hn5 : ∀ k, k < w.heap.size → v.ownBlock ≠ some k → v5.ownBlock ≠ some k := fun k hk hn e => by
    rcases hloc with h | h
    · exact hn (h ▸ e)
    · rw [h] at e; injection e with e; omega
  have hvm : ∀ k, m ≤ k → v.ownBlock ≠ some k := fun k hk e => by have := (hv k e).2; omega
  refine ⟨vs ++ [u0, u1], by simpa using ho, by simp; omega, fun j hj => ?_, fun k e => ?_, fun p hp k e => ?_, fun p q hp hq hpq k e => ?_⟩
  · by_cases hjl : j < ts.length
    · rw [List.getElem_append_left hjl, getD_app1 (by omega), getD_app1 (by omega)]
      obtain ⟨q0, q1⟩ := he j hjl
      exact ⟨ownsRow_at q0 (fun k e => hg.block k (q0.ge k e).2 (fun e' => (hb _ (by omega) k e).2 e'.symm)), ownsRow_at q1 (fun k e => hg.block k (q1.ge k e).2 (fun e' => (hb _ (by omega) k e).2 e'.symm))⟩
    · have e1 : j = ts.length := by simp at hj; omega
      subst e1
      rw [List.getElem_append_right (by omega), ← hl, getD_app2, getD_app3]
      simp only [Nat.sub_self, List.getElem_cons_zero]
      have q0 : OwnP w1 m u0 x.sp := ownsRow_at h0 (fun k e => hg.block k (h0.ge k e).2 (fun e' => hvm k (h0.ge k e).1 e'.symm))
      have q1 : Li.Own w1 m u1 x.lv := ownsRow_at h1 (fun k e => hg.block k (h1.ge k e).2 (fun e' => hvm k (h1.ge k e).1 e'.symm))
      exact ⟨q0.mono (Nat.zero_le _), q1.mono (Nat.zero_le _)⟩
  · rcases hloc with h | h
    · exact (hv k (h ▸ e)).1
    · rw [h] at e; injection e with e; exact hB k (by omega)
  · by_cases hpl : p < vs.length
    · rw [getD_app1 hpl] at e
      obtain ⟨j, hj, hpj⟩ := half2 (n := ts.length) (p := p) (by omega)
      have hks : k < w.heap.size := by
        rcases hpj with rfl | rfl
        · exact ((he j hj).1.ge k e).2
        · exact ((he j hj).2.ge k e).2
      exact ⟨(hb p hpl k e).1.1, hn5 k hks (hb p hpl k e).2⟩
    · have hp' : p = vs.length ∨ p = vs.length + 1 := by simp at hp; omega
      rcases hp' with rfl | rfl
      · rw [getD_app2] at e
        exact ⟨hB k (h0.ge k e).1, hn5 k (h0.ge k e).2 (hvm k (h0.ge k e).1)⟩
      · rw [getD_app3] at e
        exact ⟨hB k (h1.ge k e).1, hn5 k (h1.ge k e).2 (hvm k (h1.ge k e).1)⟩
  · have hp' : p < vs.length ∨ p = vs.length ∨ p = vs.length + 1 := by simp at hp; omega
    have hq' : q < vs.length ∨ q = vs.length ∨ q = vs.length + 1 := by simp at hq; omega
    rcases hp' with h1' | rfl | rfl <;> rcases hq' with h2' | rfl | rfl
    · rw [getD_app1 h1'] at e; rw [getD_app1 h2']; exact hs p q h1' h2' hpq k e
    · rw [getD_app1 h1'] at e; rw [getD_app2]; intro e'; have := (hb p h1' k e).1.2; have := (h0.ge k e').1; omega
    · rw [getD_app1 h1'] at e; rw [getD_app3]; intro e'; have := (hb p h1' k e).1.2; have := (h1.ge k e').1; omega
    · rw [getD_app2] at e; rw [getD_app1 h2']; intro e'; have := (hb q h2' k e').1.2; have := (h0.ge k e).1; omega
    · exact absurd rfl hpq
    · rw [getD_app2] at e; rw [getD_app3]; exact h01 k e
    · rw [getD_app3] at e; rw [getD_app1 h2']; intro e'; have := (hb q h2' k e').1.2; have := (h1.ge k e).1; omega
    · rw [getD_app3] at e; rw [getD_app2]; intro e'; exact h01 k e' e
    · exact absurd rfl hpq
theorem OwT.set0 (h : OwT w B v ts) (j : Nat) (hj : j < ts.length) : ∃ a c, v = .slice a ts.length c ∧ ∃ g a0 c0, a = some ⟨g, 0, none⟩ ∧ w.cell? ⟨g, j * 2, none⟩ = some (.slice a0 ts[j].sp.length c0) ∧ OwnP w 0 (.slice a0 ts[j].sp.length c0) ts[j].sp ∧ g < w.heap.size ∧
    ∀ w1 ps', OwnP w1 0 (.slice a0 ts[j].sp.length c0) ps' → w.grownBy w1 (Value.slice a0 ts[j].sp.length c0).ownBlock → OwT w1 B v (ts.set j ⟨ps', ts[j].lv⟩) ∧ Fr B w w1 := by
  obtain ⟨vs, ho, hl, he, hv, hb, hs⟩ := h
  have h' := ho
  rcases ho.2 with ⟨rfl, h0⟩ | ⟨g, cap, cur, rfl, hbg, hh, _⟩
  · omega
  obtain ⟨o0, o1⟩ := he j hj
  obtain ⟨a0, c0, e0, _, i0⟩ := o0.isp
  refine ⟨_, cap, rfl, g, a0, c0, rfl, ?_, e0 ▸ o0, (Array.getElem?_eq_some_iff.1 hh).1, fun w1 ps' hw hg => ?_⟩
  · rw [World.ownsRow.cellAt h' _ (by omega), ← e0]
    simp [List.getElem?_eq_getElem (show j * 2 < vs.length by omega)]
  · rw [← e0] at hw hg
    have hk : ∀ p, p < vs.length → ¬ p = j * 2 → ∀ k, (vs.getD p undef).ownBlock = some k → some k ≠ (vs.getD (j * 2) undef).ownBlock := fun p hp hne k e e' => hs p (j * 2) hp (by omega) hne k e e'.symm
    refine ⟨⟨vs, by rw [List.length_set]; exact ownsRow_at h' (fun k e => hg.block k (World.ownsRow.lt h' k e).2 (fun e' => (hb (j * 2) (by omega) k e'.symm).2 e)), by simpa using hl, fun i hi => ?_, hv, hb, hs⟩, ?_⟩
    · have hi' : i < ts.length := by simpa using hi
      obtain ⟨q0, q1⟩ := he i hi'
      have k1 : Li.Own w1 0 (vs.getD (i * 2 + 1) undef) ts[i].lv := ownsRow_at q1 (fun k e => hg.block k (q1.ge k e).2 (hk _ (by omega) (by omega) k e))
      by_cases hij : j = i
      · subst hij
        rw [List.getElem_set_self]
        exact ⟨hw, k1⟩
      · rw [List.getElem_set_ne hij]
        exact ⟨ownsRow_at q0 (fun k e => hg.block k (q0.ge k e).2 (hk _ (by omega) (by omega) k e)), k1⟩
    · exact ⟨hg.os, hg.tape, hg.output, hg.size, fun k hk' hn => hg.block k hk' (fun e => hn (hb (j * 2) (by omega) k e.symm).1)⟩
theorem OwT.set1 (h : OwT w B v ts) (j : Nat) (hj : j < ts.length) : ∃ a c, v = .slice a ts.length c ∧ ∃ g a0 c0, a = some ⟨g, 0, none⟩ ∧ w.cell? ⟨g, j * 2 + 1, none⟩ = some (.slice a0 ts[j].lv.length c0) ∧ Li.Own w 0 (.slice a0 ts[j].lv.length c0) ts[j].lv ∧ g < w.heap.size ∧
    ∀ w1 vs', Li.Own w1 0 (.slice a0 ts[j].lv.length c0) vs' → w.grownBy w1 (Value.slice a0 ts[j].lv.length c0).ownBlock → OwT w1 B v (ts.set j ⟨ts[j].sp, vs'⟩) ∧ Fr B w w1 := by
  obtain ⟨vs, ho, hl, he, hv, hb, hs⟩ := h
  have h' := ho
  rcases ho.2 with ⟨rfl, h0⟩ | ⟨g, cap, cur, rfl, hbg, hh, _⟩
  · omega
  obtain ⟨o0, o1⟩ := he j hj
  obtain ⟨a0, c0, e0, i0⟩ := o1.isl
  refine ⟨_, cap, rfl, g, a0, c0, rfl, ?_, e0 ▸ o1, (Array.getElem?_eq_some_iff.1 hh).1, fun w1 ps' hw hg => ?_⟩
  · rw [World.ownsRow.cellAt h' _ (by omega), ← e0]
    simp [List.getElem?_eq_getElem (show j * 2 + 1 < vs.length by omega)]
  · rw [← e0] at hw hg
    have hk : ∀ p, p < vs.length → ¬ p = j * 2 + 1 → ∀ k, (vs.getD p undef).ownBlock = some k → some k ≠ (vs.getD (j * 2 + 1) undef).ownBlock := fun p hp hne k e e' => hs p (j * 2 + 1) hp (by omega) hne k e e'.symm
    refine ⟨⟨vs, by rw [List.length_set]; exact ownsRow_at h' (fun k e => hg.block k (World.ownsRow.lt h' k e).2 (fun e' => (hb (j * 2 + 1) (by omega) k e'.symm).2 e)), by simpa using hl, fun i hi => ?_, hv, hb, hs⟩, ?_⟩
    · have hi' : i < ts.length := by simpa using hi
      obtain ⟨q0, q1⟩ := he i hi'
      have k1 : OwnP w1 0 (vs.getD (i * 2) undef) ts[i].sp := ownsRow_at q0 (fun k e => hg.block k (q0.ge k e).2 (hk _ (by omega) (by omega) k e))
      by_cases hij : j = i
      · subst hij
        rw [List.getElem_set_self]
        exact ⟨k1, hw⟩
      · rw [List.getElem_set_ne hij]
        exact ⟨k1, ownsRow_at q1 (fun k e => hg.block k (q1.ge k e).2 (hk _ (by omega) (by omega) k e))⟩
    · exact ⟨hg.os, hg.tape, hg.output, hg.size, fun k hk' hn => hg.block k hk' (fun e => hn (hb (j * 2 + 1) (by omega) k e.symm).1)⟩
theorem getD_set2 {vs : List Value} {q p : Nat} {u0 u1 : Value} (hq : q + 1 < vs.length) : ((vs.set q u0).set (q + 1) u1).getD p undef = if p = q + 1 then u1 else if p = q then u0 else vs.getD p undef := by
  by_cases h1 : p = q + 1
  · subst h1; simp [hq]
  · by_cases h0 : p = q
    · subst h0; simp [show p < vs.length by omega]
    · simp [h0, h1, Ne.symm h0, Ne.symm h1]
theorem OwT.put {m : Nat} (h : OwT w (fun k => B k ∧ k < m) v ts) (j : Nat) (hj : j < ts.length) : ∃ a c, v = .slice a ts.length c ∧ ∃ g y0 y1, a = some ⟨g, 0, none⟩ ∧ w.cell? ⟨g, j * 2, none⟩ = some y0 ∧ w.cell? ⟨g, j * 2 + 1, none⟩ = some y1 ∧ w.frozen? ⟨g, j * 2, none⟩ = false ∧ w.frozen? ⟨g, j * 2 + 1, none⟩ = false ∧ g < w.heap.size ∧ B g ∧ g < m ∧
    ∀ u0 u1 (x : Tr.T), OwnP w m u0 x.sp → Li.Own w m u1 x.lv → (∀ k, u0.ownBlock = some k → u1.ownBlock ≠ some k) → (∀ k, m ≤ k → B k) → OwT ((w.setCell ⟨g, j * 2, none⟩ u0).setCell ⟨g, j * 2 + 1, none⟩ u1) B v (ts.set j x) := by
  obtain ⟨vs, ho, hl, he, hv, hb, hs⟩ := h
  have h' := ho
  rcases ho.2 with ⟨rfl, h0⟩ | ⟨g, cap, cur, rfl, hbg, hh, _⟩
  · omega
  have k0 := World.ownsRow.cellAt h' (j * 2) (by omega)
  have k1 := World.ownsRow.cellAt h' (j * 2 + 1) (by omega)
  rw [List.getElem?_eq_getElem (by omega)] at k0 k1
  obtain ⟨hBg, hgm⟩ := hv g rfl
  refine ⟨_, cap, rfl, g, _, _, rfl, k0, k1, World.ownsRow.frozenAt h' _, World.ownsRow.frozenAt h' _, (Array.getElem?_eq_some_iff.1 hh).1, hBg, hgm, fun u0 u1 x o0 o1 h01 hB => ?_⟩
  have hst := (World.ownsRow.stored (World.ownsRow.stored h' (j * 2) u0).1 (j * 2 + 1) u1).1
  have hg : w.grownBy ((w.setCell ⟨g, j * 2, none⟩ u0).setCell ⟨g, j * 2 + 1, none⟩ u1) (some g) := Li.grown_trans (Li.grown_set _ _ _ _) (Li.grown_set _ _ _ _)
  have hq : j * 2 + 1 < vs.length := by omega
  have hne : ∀ p, p < vs.length → ∀ k, (vs.getD p undef).ownBlock = some k → ¬ k = g := fun p hp k e e' => (hb p hp k e).2 (by subst e'; rfl)
  have hn0 : ∀ k, u0.ownBlock = some k → ¬ k = g := fun k e e' => by have := (o0.ge k e).1; omega
  have hn1 : ∀ k, u1.ownBlock = some k → ¬ k = g := fun k e e' => by have := (o1.ge k e).1; omega
  refine ⟨(vs.set (j * 2) u0).set (j * 2 + 1) u1, by rw [List.length_set]; exact hst, by simpa using hl, fun i hi => ?_, fun k e => (hv k e).1, fun p hp k e => ?_, fun p q hp hq' hpq k e => ?_⟩
  · have hi' : i < ts.length := by simpa using hi
    rw [getD_set2 hq, getD_set2 hq]
    by_cases hij : j = i
    · subst hij
      rw [if_neg (by omega), if_pos rfl, if_pos rfl, List.getElem_set_self]
      have q0 : OwnP ((w.setCell ⟨g, j * 2, none⟩ u0).setCell ⟨g, j * 2 + 1, none⟩ u1) m u0 x.sp := ownsRow_at o0 (fun k e => hg.block k (o0.ge k e).2 (fun e' => by injection e' with e'; exact hn0 k e e'))
      have q1 : Li.Own ((w.setCell ⟨g, j * 2, none⟩ u0).setCell ⟨g, j * 2 + 1, none⟩ u1) m u1 x.lv := ownsRow_at o1 (fun k e => hg.block k (o1.ge k e).2 (fun e' => by injection e' with e'; exact hn1 k e e'))
      exact ⟨q0.mono (Nat.zero_le _), q1.mono (Nat.zero_le _)⟩
    · rw [if_neg (by omega), if_neg (by omega), if_neg (by omega), if_neg (by omega), List.getElem_set_ne hij]
      obtain ⟨q0, q1⟩ := he i hi'
      exact ⟨ownsRow_at q0 (fun k e => hg.block k (q0.ge k e).2 (fun e' => by injection e' with e'; exact hne _ (by omega) k e e')), ownsRow_at q1 (fun k e => hg.block k (q1.ge k e).2 (fun e' => by injection e' with e'; exact hne _ (by omega) k e e'))⟩
  · rw [getD_set2 hq] at e
    have hgg : ∀ k, ¬ k = g → Value.ownBlock (.slice (some ⟨g, 0, none⟩) ts.length cap) ≠ some k := fun k hk e => hk (by simp [Value.ownBlock] at e; exact e.symm)
    by_cases h1 : p = j * 2 + 1
    · rw [if_pos h1] at e; exact ⟨hB k (o1.ge k e).1, hgg k (hn1 k e)⟩
    · rw [if_neg h1] at e
      by_cases h0 : p = j * 2
      · rw [if_pos h0] at e; exact ⟨hB k (o0.ge k e).1, hgg k (hn0 k e)⟩
      · rw [if_neg h0] at e; exact ⟨(hb p (by simpa using hp) k e).1.1, (hb p (by simpa using hp) k e).2⟩
  · rw [getD_set2 hq] at e ⊢
    have hp' : p < vs.length := by simpa using hp
    have hq'' : q < vs.length := by simpa using hq'
    by_cases p1 : p = j * 2 + 1
    · rw [if_pos p1] at e
      rw [if_neg (by omega)]
      by_cases q0 : q = j * 2
      · rw [if_pos q0]; exact fun e' => h01 k e' e
      · rw [if_neg q0]; exact fun e' => by have := (hb q hq'' k e').1.2; have := (o1.ge k e).1; omega
    · rw [if_neg p1] at e
      by_cases p0 : p = j * 2
      · rw [if_pos p0] at e
        by_cases q1 : q = j * 2 + 1
        · rw [if_pos q1]; exact h01 k e
        · rw [if_neg q1, if_neg (by omega)]; exact fun e' => by have := (hb q hq'' k e').1.2; have := (o0.ge k e).1; omega
      · rw [if_neg p0] at e
        by_cases q1 : q = j * 2 + 1
        · rw [if_pos q1]; exact fun e' => by have := (hb p hp' k e).1.2; have := (o1.ge k e').1; omega
        · rw [if_neg q1]
          by_cases q0 : q = j * 2
          · rw [if_pos q0]; exact fun e' => by have := (hb p hp' k e).1.2; have := (o0.ge k e').1; omega
          · rw [if_neg q0]; exact hs p q hp' hq'' hpq k e
def part (ts : List Tr.T) (k : Nat) : List Tr.T := ts.take k ++ List.replicate (ts.length - k) ⟨[], []⟩
end Go.Proofs.YtglllflleabmbaaGreat.To
/-
  Models as the laws and both texts hold them: what is read, what may be written, where it lies; contracts of the laws' own helpers over models.
-/
namespace Go.Proofs.YtglllflleabmbaaGreat.Md
set_option maxRecDepth 20000
open Go.RowKit
open Go.Proofs.YtglllflleabmbaaGreat.Tb (sub sub_yes sub_no)
open Go.Proofs.YtglllflleabmbaaGreat.Tm (IsT szT FitsT)
open Go.Proofs.YtglllflleabmbaaGreat.Kt (Kv IsK OwK ksz FitsK)
open Go.Proofs.YtglllflleabmbaaGreat.To (OwT)
open Go.Proofs.YtglllflleabmbaaGreat.Sv (Fr fr_below fr_grown new1 new2 new3 Wr)
set_option linter.unusedVariables false
structure M where
  n : Int
  c : Int
  prior : Int
  base : Int
  ks : List Kv
  ts : List Tr.T
def M.sz (m : M) : Nat := m.ks.length + ksz m.ks + (m.ts.length + szT m.ts)
structure Rm (w : World) (ak ax : Option Addr) (m : M) : Prop where
  k : IsK w ak m.ks
  t : IsT w ax m.ts
theorem Rm.below {w w1 : World} {ak ax : Option Addr} {m : M} (h : Rm w ak ax m) (hb : Below w.heap.size w w1) : Rm w1 ak ax m := ⟨h.k.below hb, h.t.below hb⟩
def OwM (w : World) (B : Nat → Prop) (vk vt : Value) (m : M) : Prop := ∃ P : Nat → Prop, OwK w (fun k => B k ∧ P k) vk m.ks ∧ OwT w (fun k => B k ∧ ¬ P k) vt m.ts
theorem OwM.fr {w w1 : World} {B B' : Nat → Prop} {vk vt : Value} {m : M} (h : OwM w B vk vt m) (hf : Fr B' w w1) (hd : ∀ k, B k → ¬ B' k) : OwM w1 B vk vt m := by
  obtain ⟨P, h0, h1⟩ := h
  exact ⟨P, h0.fr hf (fun k e => hd k e.1), h1.fr hf (fun k e => hd k e.1)⟩
theorem OwM.below {w w1 : World} {B : Nat → Prop} {vk vt : Value} {m : M} (h : OwM w B vk vt m) (hb : Below w.heap.size w w1) : OwM w1 B vk vt m := h.fr (fr_below (B := fun _ => False) hb) (fun _ _ e => e)
theorem OwM.mono {w : World} {B B' : Nat → Prop} {vk vt : Value} {m : M} (h : OwM w B vk vt m) (hb : ∀ k, B k → B' k) : OwM w B' vk vt m := by
  obtain ⟨P, h0, h1⟩ := h
  exact ⟨P, h0.mono (fun k e => ⟨hb k e.1, e.2⟩), h1.mono (fun k e => ⟨hb k e.1, e.2⟩)⟩
theorem OwM.bound {w : World} {B : Nat → Prop} {vk vt : Value} {m : M} (h : OwM w B vk vt m) : OwM w (fun k => B k ∧ k < w.heap.size) vk vt m := by
  obtain ⟨P, h0, h1⟩ := h
  exact ⟨P, h0.bound.mono (fun k e => ⟨⟨e.1.1, e.2⟩, e.1.2⟩), h1.bound.mono (fun k e => ⟨⟨e.1.1, e.2⟩, e.1.2⟩)⟩
theorem OwM.rm {w : World} {B : Nat → Prop} {vk vt : Value} {m : M} (h : OwM w B vk vt m) : ∃ ak ck ax ct, vk = .slice ak m.ks.length ck ∧ vt = .slice ax m.ts.length ct ∧ Rm w ak ax m := by
  obtain ⟨P, h0, h1⟩ := h
  obtain ⟨ak, ck, e0, i0⟩ := h0.isk
  obtain ⟨ax, ct, e1, i1⟩ := h1.ist
  exact ⟨ak, ck, ax, ct, e0, e1, i0, i1⟩
theorem wr6 {w : World} {b : Nat} {v0 v1 v2 v3 v4 v5 : Value} (h : Wr w b 0 [v0, v1, v2, v3, v4, v5]) :
    b < w.heap.size ∧ (w.cell? ⟨b, 0, none⟩ = some v0 ∧ w.cell? ⟨b, 1, none⟩ = some v1 ∧ w.cell? ⟨b, 2, none⟩ = some v2 ∧ w.cell? ⟨b, 3, none⟩ = some v3 ∧ w.cell? ⟨b, 4, none⟩ = some v4 ∧ w.cell? ⟨b, 5, none⟩ = some v5) ∧
    w.frozen? ⟨b, 0, none⟩ = false ∧ w.frozen? ⟨b, 1, none⟩ = false ∧ w.frozen? ⟨b, 2, none⟩ = false ∧ w.frozen? ⟨b, 3, none⟩ = false ∧ w.frozen? ⟨b, 4, none⟩ = false ∧ w.frozen? ⟨b, 5, none⟩ = false :=
  ⟨h.1, ⟨(h.2 0 (by simp)).1, (h.2 1 (by simp)).1, (h.2 2 (by simp)).1, (h.2 3 (by simp)).1, (h.2 4 (by simp)).1, (h.2 5 (by simp)).1⟩, (h.2 0 (by simp)).2, (h.2 1 (by simp)).2, (h.2 2 (by simp)).2, (h.2 3 (by simp)).2, (h.2 4 (by simp)).2, (h.2 5 (by simp)).2⟩
end Go.Proofs.YtglllflleabmbaaGreat.Md
/-
  append: a number, a text put behind a list of the call's own; a list that has just been made empty.
-/
namespace Go.Proofs.YtglllflleabmbaaGreat.Ap
open Go.RowKit
theorem one_cell (w : World) (T : TypeId) (x : Value) (_hx : x.oneCell' = true) : ∀ j u, ([x] : List Value)[j]? = some u → (w.alloc (.cells #[x] T)).cell? ((⟨w.heap.size, 0, none⟩ : Addr).add j) = some u := by
  intro j u hj
  match j, hj with
  | 0, hj => simp at hj; subst hj; simp [Addr.add]
theorem one_at {w : World} {T : TypeId} {x : Value} {H : Nat} (hx : x.oneCell' = true) (h : w.heap.size = H) : ∀ j u, ([x] : List Value)[j]? = some u → (w.alloc (.cells #[x] T)).cell? ((⟨H, 0, none⟩ : Addr).add j) = some u := by
  subst h; exact one_cell _ _ _ hx
theorem one_one (x : Value) (hx : x.oneCell' = true) : ∀ u ∈ ([x] : List Value), u.oneCell' = true := by
  intro u hu; simp at hu; subst hu; exact hx
theorem own_snoc {w : World} {base n : Nat} {v : Value} {l : List Int} {x : Int} (hn : l.length = n) (h : w.ownsRow base 3 1 v (n + 1) (Li.iv l ++ [.int .i64 x])) : Li.Own w base v (l ++ [x]) := by
  subst hn
  unfold Li.Own
  rw [← Li.iv_append, List.length_append]
  exact h
theorem own_empty (w : World) (base : Nat) (hb : base ≤ w.heap.size) : Li.Own (w.alloc (.cells #[] 3)) base (.slice (some ⟨w.heap.size, 0, none⟩) 0 0) [] :=
  World.ownsRow_made w #[] 0 hb (by unfold maxLen; omega) (by simp)
theorem sown_snoc {w : World} {base n : Nat} {v : Value} {l : List ByteArray} {x : ByteArray} (hn : l.length = n) (h : w.ownsRow base 9 1 v (n + 1) (Ls.sv l ++ [.string x])) : Ls.Own w base v (l ++ [x]) := by
  subst hn
  unfold Ls.Own
  rw [← Ls.sv_append, List.length_append]
  exact h
theorem sown_empty (w : World) (base : Nat) (hb : base ≤ w.heap.size) : Ls.Own (w.alloc (.cells #[] 9)) base (.slice (some ⟨w.heap.size, 0, none⟩) 0 0) [] :=
  World.ownsRow_made w #[] 0 hb (by unfold maxLen; omega) (by simp)
theorem below_app {w wr w1 : World} {B : Nat} {r : Option Nat} (hB : Below B w wr) (hs : B ≤ wr.heap.size) (hg : wr.grownBy w1 r) (hr : ∀ k, r = some k → B ≤ k) : Below B w w1 :=
  hB.trans ⟨hg.os, hg.tape, hg.output, hg.size, fun k hk => hg.block k (by omega) (fun e => by have := hr k e.symm; omega)⟩
theorem grown_undrew {w w1 : World} {r : Option Nat} (h : w.drew.grownBy w1 r) : w.grownBy w1 r := ⟨h.os, h.tape, h.output, h.size, h.block⟩
theorem news_i {w : World} {ad : Addr} {xs : List Int} (h : Li.IsL w (some ad) xs) : ∀ j u, (Li.iv xs)[j]? = some u → w.cell? (ad.add j) = some u := by
  intro j u hj
  rcases h with rfl | ⟨b, off, e, _, hc⟩
  · simp [Li.iv] at hj
  · cases e
    have hlt : j < xs.length := by
      apply Classical.byContradiction
      intro hn
      rw [List.getElem?_eq_none (by rw [Li.iv_length]; omega)] at hj
      cases hj
    rw [Li.iv_get xs j hlt] at hj
    rw [Go.WideShapes.add_plain, hc j hlt, hj]
theorem news_s {w : World} {ad : Addr} {xs : List ByteArray} (h : Ls.IsS w (some ad) xs) : ∀ j u, (Ls.sv xs)[j]? = some u → w.cell? (ad.add j) = some u := by
  intro j u hj
  rcases h with rfl | ⟨b, off, e, _, hc⟩
  · simp [Ls.sv] at hj
  · cases e
    have hlt : j < xs.length := by
      apply Classical.byContradiction
      intro hn
      rw [List.getElem?_eq_none (by rw [Ls.sv_length]; omega)] at hj
      cases hj
    rw [Ls.sv_get xs j hlt] at hj
    rw [Go.WideShapes.add_plain, hc j hlt, hj]
end Go.Proofs.YtglllflleabmbaaGreat.Ap
