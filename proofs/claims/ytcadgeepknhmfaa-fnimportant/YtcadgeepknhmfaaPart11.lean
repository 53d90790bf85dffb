/-
  Contracts that the proof leans on, put together in the order in which they build.
-/
import Derived.Test.YtcadgeepknhmfaaPart10
import Derived.Test.YtcadgeepknhmfaaPart1
import Derived.Deep.RegionHeld3
import Derived.Deep.RegionHeldLaw
import Derived.Test.YtcadgeepknhmfaaPart3
/-
  Tables of words and their numbers (CtrTab), one behind the other: what is read, what may be written; contracts of the laws' own helpers over them.
-/
namespace Go.Proofs.Ytcadgeepknhmfaa.Kt
set_option maxRecDepth 20000
open Go.RowKit
open Go.Proofs.Ytcadgeepknhmfaa.Tb (ownsRow_at)
open Go.Proofs.Ytcadgeepknhmfaa.Sv (Fr fr_below)
open Go.Proofs.Ytcadgeepknhmfaa.Mk (mtexts mtexts_length)
open Go.Proofs.Ytcadgeepknhmfaa.Li (marks marks_length)
set_option linter.unusedVariables false

/-- Words, and a number for each. -/
structure Kv where
  ws : List ByteArray
  vs : List Int
def ktot : List Kv → Nat
  | [] => 0
  | t :: ts => t.ws.length + t.vs.length + ktot ts
theorem ktot_take (ts : List Kv) (k : Nat) (h : k < ts.length) : ktot (ts.take (k + 1)) = ktot (ts.take k) + (ts[k].ws.length + ts[k].vs.length) := by
  induction ts generalizing k with
  | nil => simp at h
  | cons s r ih =>
    cases k with
    | zero => simp [ktot]
    | succ k =>
      simp only [List.take_succ_cons, ktot, List.getElem_cons_succ]
      rw [ih k (by simpa using h)]
      omega
theorem ktot_le (ts : List Kv) (k : Nat) : ktot (ts.take k) ≤ ktot ts := by
  induction ts generalizing k with
  | nil => simp
  | cons s r ih =>
    cases k with
    | zero => simp [ktot]
    | succ k => simp only [List.take_succ_cons, ktot]; have := ih k; omega
theorem ktot_at (ts : List Kv) (k : Nat) (h : k < ts.length) : ts[k].ws.length + ts[k].vs.length ≤ ktot ts := by
  have h1 := ktot_take ts k h
  have h2 := ktot_le ts (k + 1)
  omega
/-- What is read of them. -/
def IsK (w : World) (a : Option Addr) (ts : List Kv) : Prop :=
  ts = [] ∨ ∃ b off, a = some ⟨b, off, none⟩ ∧ b < w.heap.size ∧ ∀ j (hj : j < ts.length), ∃ a0 c0 a1 c1, (w.cell? ⟨b, off + j * 2, none⟩ = some (.slice a0 ts[j].ws.length c0) ∧ w.cell? ⟨b, off + j * 2 + 1, none⟩ = some (.slice a1 ts[j].vs.length c1)) ∧ Ls.IsS w a0 ts[j].ws ∧ Li.IsL w a1 ts[j].vs
theorem IsK.below {w w1 : World} {a : Option Addr} {ts : List Kv} (h : IsK w a ts) (hB : Below w.heap.size w w1) : IsK w1 a ts := by
  rcases h with h | ⟨b, off, rfl, hb, hc⟩
  · exact .inl h
  · refine .inr ⟨b, off, rfl, Nat.lt_of_lt_of_le hb hB.size, fun j hj => ?_⟩
    obtain ⟨a0, c0, a1, c1, ⟨h0, h1⟩, i0, i1⟩ := hc j hj
    exact ⟨a0, c0, a1, c1, ⟨(hB.cell (by exact hb)).trans h0, (hB.cell (by exact hb)).trans h1⟩, i0.below hB, i1.below hB⟩
/-- What may be written of them: all in blocks of B, no two in one. -/
def OwK (w : World) (B : Nat → Prop) (v : Value) (ts : List Kv) : Prop :=
  ∃ vs : List Value, w.ownsRow 0 54 2 v ts.length vs ∧ vs.length = ts.length * 2 ∧ (∀ j (h : j < ts.length), Ls.Own w 0 (vs.getD (j * 2) undef) ts[j].ws ∧ Li.Own w 0 (vs.getD (j * 2 + 1) undef) ts[j].vs) ∧ (∀ k, v.ownBlock = some k → B k) ∧ (∀ p, p < vs.length → ∀ k, (vs.getD p undef).ownBlock = some k → B k ∧ v.ownBlock ≠ some k) ∧ (∀ p q, p < vs.length → q < vs.length → ¬ p = q → ∀ k, (vs.getD p undef).ownBlock = some k → (vs.getD q undef).ownBlock ≠ some k)
variable {w w1 : World} {B : Nat → Prop} {v : Value} {ts : List Kv}
theorem half2 {p n : Nat} (h : p < n * 2) : ∃ j, j < n ∧ (p = j * 2 ∨ p = j * 2 + 1) := ⟨p / 2, by omega, by omega⟩
theorem OwK.lt (h : OwK w B v ts) : (∀ k, v.ownBlock = some k → k < w.heap.size) := by
  obtain ⟨vs, ho, _⟩ := h
  exact fun k hk => (World.ownsRow.lt ho k hk).2
theorem OwK.nil (w : World) (B : Nat → Prop) : OwK w B (.slice none 0 0) [] :=
  ⟨[], World.ownsRow_nil _ _ _ _, rfl, fun j h => by simp at h, fun k hk => by simp [Value.ownBlock] at hk, fun p h => by simp at h, fun p q h => by simp at h⟩
theorem OwK.fr {B' : Nat → Prop} (h : OwK w B v ts) (hf : Fr B' w w1) (hd : ∀ k, B k → ¬ B' k) : OwK w1 B v ts := by
  obtain ⟨vs, ho, hl, he, hv, hb, hs⟩ := h
  refine ⟨vs, ownsRow_at ho (fun k e => hf.block k (World.ownsRow.lt ho k e).2 (hd k (hv k e))), hl, fun j hj => ?_, hv, hb, hs⟩
  obtain ⟨h0, h1⟩ := he j hj
  exact ⟨ownsRow_at h0 (fun k e => hf.block k (h0.ge k e).2 (hd k (hb _ (by omega) k e).1)), ownsRow_at h1 (fun k e => hf.block k (h1.ge k e).2 (hd k (hb _ (by omega) k e).1))⟩
theorem OwK.below (h : OwK w B v ts) (hb : Below w.heap.size w w1) : OwK w1 B v ts := h.fr (fr_below (B := fun _ => False) hb) (fun _ _ e => e)
theorem OwK.mono {B' : Nat → Prop} (h : OwK w B v ts) (hb : ∀ k, B k → B' k) : OwK w B' v ts := by
  obtain ⟨vs, ho, hl, he, hv, hbb, hs⟩ := h
  exact ⟨vs, ho, hl, he, fun k e => hb k (hv k e), fun p hp k e => ⟨hb k (hbb p hp k e).1, (hbb p hp k e).2⟩, hs⟩
theorem OwK.bound (h : OwK w B v ts) : OwK w (fun k => B k ∧ k < w.heap.size) v ts := by
  obtain ⟨vs, ho, hl, he, hv, hbb, hs⟩ := h
  refine ⟨vs, ho, hl, he, fun k e => ⟨hv k e, (World.ownsRow.lt ho k e).2⟩, fun p hp k e => ⟨⟨(hbb p hp k e).1, ?_⟩, (hbb p hp k e).2⟩, hs⟩
  obtain ⟨j, hj, rfl | rfl⟩ := half2 (n := ts.length) (p := p) (by omega)
  · exact ((he j hj).1.ge k e).2
  · exact ((he j hj).2.ge k e).2
theorem OwK.isk (h : OwK w B v ts) : ∃ a cap, v = .slice a ts.length cap ∧ IsK w a ts := by
  obtain ⟨vs, ho, hl, he, _⟩ := h
  have h' := ho
  rcases ho.2 with ⟨rfl, h0⟩ | ⟨g, cap, cur, rfl, hb, hh, _⟩
  · obtain rfl := List.length_eq_zero_iff.1 h0
    exact ⟨none, 0, rfl, .inl rfl⟩
  · refine ⟨_, cap, rfl, .inr ⟨g, 0, rfl, (Array.getElem?_eq_some_iff.1 hh).1, fun j hj => ?_⟩⟩
    obtain ⟨o0, o1⟩ := he j hj
    obtain ⟨a0, c0, e0, i0⟩ := o0.iss
    obtain ⟨a1, c1, e1, i1⟩ := o1.isl
    refine ⟨a0, c0, a1, c1, ⟨?_, ?_⟩, i0, i1⟩
    · rw [Nat.zero_add, World.ownsRow.cellAt h' _ (by omega), ← e0]
      simp [List.getElem?_eq_getElem (show j * 2 < vs.length by omega)]
    · rw [Nat.zero_add, World.ownsRow.cellAt h' _ (by omega), ← e1]
      simp [List.getElem?_eq_getElem (show j * 2 + 1 < vs.length by omega)]
theorem getD_app1 {α : Type} {xs : List α} {a b d : α} {p : Nat} (h : p < xs.length) : (xs ++ [a, b]).getD p d = xs.getD p d := by
  simp [List.getElem?_append_left h]
theorem getD_app2 {α : Type} {xs : List α} {a b d : α} : (xs ++ [a, b]).getD xs.length d = a := by simp
theorem getD_app3 {α : Type} {xs : List α} {a b d : α} : (xs ++ [a, b]).getD (xs.length + 1) d = b := by simp
/-- One more behind the others: its words and numbers lie in blocks from m on, all that was there in blocks below. -/
theorem owk_snoc {v5 u0 u1 : Value} {x : Kv} {vs : List Value} {m : Nat} (hl : vs.length = ts.length * 2) (he : ∀ j (h : j < ts.length), Ls.Own w 0 (vs.getD (j * 2) undef) ts[j].ws ∧ Li.Own w 0 (vs.getD (j * 2 + 1) undef) ts[j].vs)
    (hv : ∀ k, v.ownBlock = some k → B k ∧ k < m) (hb : ∀ p, p < vs.length → ∀ k, (vs.getD p undef).ownBlock = some k → (B k ∧ k < m) ∧ v.ownBlock ≠ some k) (hs : ∀ p q, p < vs.length → q < vs.length → ¬ p = q → ∀ k, (vs.getD p undef).ownBlock = some k → (vs.getD q undef).ownBlock ≠ some k)
    (h0 : Ls.Own w m u0 x.ws) (h1 : Li.Own w m u1 x.vs) (h01 : ∀ k, u0.ownBlock = some k → u1.ownBlock ≠ some k) (hB : ∀ k, m ≤ k → B k) (hm : m ≤ w.heap.size)
    (ho : w1.ownsRow 0 54 2 v5 (ts.length + 1) (vs ++ [u0, u1])) (hg : w.grownBy w1 v.ownBlock) (hloc : v5.ownBlock = v.ownBlock ∨ v5.ownBlock = some w.heap.size) : OwK w1 B v5 (ts ++ [x]) := by
  have hn5 : ∀ k, k < w.heap.size → v.ownBlock ≠ some k → v5.ownBlock ≠ some k := fun k hk hn e => by
    rcases hloc with h | h
    · exact hn (h ▸ e)
    · rw [h] at e; injection e with e; omega
  have hvm : ∀ k, m ≤ k → v.ownBlock ≠ some k := fun k hk e => by have := (hv k e).2; omega
  refine ⟨vs ++ [u0, u1], by simpa using ho, by simp; omega, fun j hj => ?_, fun k e => ?_, fun p hp k e => ?_, fun p q hp hq hpq k e => ?_⟩
  · by_cases hjl : j < ts.length
    · rw [List.getElem_append_left hjl, getD_app1 (by omega), getD_app1 (by omega)]
      obtain ⟨q0, q1⟩ := he j hjl
      exact ⟨ownsRow_at q0 (fun k e => hg.block k (q0.ge k e).2 (fun e' => (hb _ (by omega) k e).2 e'.symm)), ownsRow_at q1 (fun k e => hg.block k (q1.ge k e).2 (fun e' => (hb _ (by omega) k e).2 e'.symm))⟩
    · have e1 : j = ts.length := by simp at hj; omega
      subst e1
      rw [List.getElem_append_right (by omega), ← hl, getD_app2, getD_app3]
      simp only [Nat.sub_self, List.getElem_cons_zero]
      have q0 : Ls.Own w1 m u0 x.ws := ownsRow_at h0 (fun k e => hg.block k (h0.ge k e).2 (fun e' => hvm k (h0.ge k e).1 e'.symm))
      have q1 : Li.Own w1 m u1 x.vs := ownsRow_at h1 (fun k e => hg.block k (h1.ge k e).2 (fun e' => hvm k (h1.ge k e).1 e'.symm))
      exact ⟨q0.mono (Nat.zero_le _), q1.mono (Nat.zero_le _)⟩
  · rcases hloc with h | h
    · exact (hv k (h ▸ e)).1
    · rw [h] at e; injection e with e; exact hB k (by omega)
  · by_cases hpl : p < vs.length
    · rw [getD_app1 hpl] at e
      obtain ⟨j, hj, hpj⟩ := half2 (n := ts.length) (p := p) (by omega)
      have hks : k < w.heap.size := by
        rcases hpj with rfl | rfl
        · exact ((he j hj).1.ge k e).2
        · exact ((he j hj).2.ge k e).2
      exact ⟨(hb p hpl k e).1.1, hn5 k hks (hb p hpl k e).2⟩
    · have hp' : p = vs.length ∨ p = vs.length + 1 := by simp at hp; omega
      rcases hp' with rfl | rfl
      · rw [getD_app2] at e
        exact ⟨hB k (h0.ge k e).1, hn5 k (h0.ge k e).2 (hvm k (h0.ge k e).1)⟩
      · rw [getD_app3] at e
        exact ⟨hB k (h1.ge k e).1, hn5 k (h1.ge k e).2 (hvm k (h1.ge k e).1)⟩
  · have hp' : p < vs.length ∨ p = vs.length ∨ p = vs.length + 1 := by simp at hp; omega
    have hq' : q < vs.length ∨ q = vs.length ∨ q = vs.length + 1 := by simp at hq; omega
    rcases hp' with h1' | rfl | rfl <;> rcases hq' with h2' | rfl | rfl
    · rw [getD_app1 h1'] at e; rw [getD_app1 h2']; exact hs p q h1' h2' hpq k e
    · rw [getD_app1 h1'] at e; rw [getD_app2]; intro e'; have := (hb p h1' k e).1.2; have := (h0.ge k e').1; omega
    · rw [getD_app1 h1'] at e; rw [getD_app3]; intro e'; have := (hb p h1' k e).1.2; have := (h1.ge k e').1; omega
    · rw [getD_app2] at e; rw [getD_app1 h2']; intro e'; have := (hb q h2' k e').1.2; have := (h0.ge k e).1; omega
    · exact absurd rfl hpq
    · rw [getD_app2] at e; rw [getD_app3]; exact h01 k e
    · rw [getD_app3] at e; rw [getD_app1 h2']; intro e'; have := (hb q h2' k e').1.2; have := (h1.ge k e).1; omega
    · rw [getD_app3] at e; rw [getD_app2]; intro e'; exact h01 k e' e
    · exact absurd rfl hpq
/-- Written over: the words, or the numbers, of one of them. -/
theorem OwK.set0 (h : OwK w B v ts) (j : Nat) (hj : j < ts.length) : ∃ a c, v = .slice a ts.length c ∧ ∃ g a0 c0, a = some ⟨g, 0, none⟩ ∧ w.cell? ⟨g, j * 2, none⟩ = some (.slice a0 ts[j].ws.length c0) ∧ Ls.Own w 0 (.slice a0 ts[j].ws.length c0) ts[j].ws ∧ g < w.heap.size ∧
    ∀ w1 ws', Ls.Own w1 0 (.slice a0 ts[j].ws.length c0) ws' → w.grownBy w1 (Value.slice a0 ts[j].ws.length c0).ownBlock → OwK w1 B v (ts.set j ⟨ws', ts[j].vs⟩) ∧ Fr B w w1 := by
  obtain ⟨vs, ho, hl, he, hv, hb, hs⟩ := h
  have h' := ho
  rcases ho.2 with ⟨rfl, h0⟩ | ⟨g, cap, cur, rfl, hbg, hh, _⟩
  · omega
  obtain ⟨o0, o1⟩ := he j hj
  obtain ⟨a0, c0, e0, i0⟩ := o0.iss
  refine ⟨_, cap, rfl, g, a0, c0, rfl, ?_, e0 ▸ o0, (Array.getElem?_eq_some_iff.1 hh).1, fun w1 ws' hw hg => ?_⟩
  · rw [World.ownsRow.cellAt h' _ (by omega), ← e0]
    simp [List.getElem?_eq_getElem (show j * 2 < vs.length by omega)]
  · rw [← e0] at hw hg
    have hk : ∀ p, p < vs.length → ¬ p = j * 2 → ∀ k, (vs.getD p undef).ownBlock = some k → some k ≠ (vs.getD (j * 2) undef).ownBlock := fun p hp hne k e e' => hs p (j * 2) hp (by omega) hne k e e'.symm
    refine ⟨⟨vs, by rw [List.length_set]; exact ownsRow_at h' (fun k e => hg.block k (World.ownsRow.lt h' k e).2 (fun e' => (hb (j * 2) (by omega) k e'.symm).2 e)), by simpa using hl, fun i hi => ?_, hv, hb, hs⟩, ?_⟩
    · have hi' : i < ts.length := by simpa using hi
      obtain ⟨q0, q1⟩ := he i hi'
      have k1 : Li.Own w1 0 (vs.getD (i * 2 + 1) undef) ts[i].vs := ownsRow_at q1 (fun k e => hg.block k (q1.ge k e).2 (hk _ (by omega) (by omega) k e))
      by_cases hij : j = i
      · subst hij
        rw [List.getElem_set_self]
        exact ⟨hw, k1⟩
      · rw [List.getElem_set_ne hij]
        exact ⟨ownsRow_at q0 (fun k e => hg.block k (q0.ge k e).2 (hk _ (by omega) (by omega) k e)), k1⟩
    · exact ⟨hg.os, hg.tape, hg.output, hg.size, fun k hk' hn => hg.block k hk' (fun e => hn (hb (j * 2) (by omega) k e.symm).1)⟩
theorem OwK.set1 (h : OwK w B v ts) (j : Nat) (hj : j < ts.length) : ∃ a c, v = .slice a ts.length c ∧ ∃ g a0 c0, a = some ⟨g, 0, none⟩ ∧ w.cell? ⟨g, j * 2 + 1, none⟩ = some (.slice a0 ts[j].vs.length c0) ∧ Li.Own w 0 (.slice a0 ts[j].vs.length c0) ts[j].vs ∧ g < w.heap.size ∧
    ∀ w1 vs', Li.Own w1 0 (.slice a0 ts[j].vs.length c0) vs' → w.grownBy w1 (Value.slice a0 ts[j].vs.length c0).ownBlock → OwK w1 B v (ts.set j ⟨ts[j].ws, vs'⟩) ∧ Fr B w w1 := by
  obtain ⟨vs, ho, hl, he, hv, hb, hs⟩ := h
  have h' := ho
  rcases ho.2 with ⟨rfl, h0⟩ | ⟨g, cap, cur, rfl, hbg, hh, _⟩
  · omega
  obtain ⟨o0, o1⟩ := he j hj
  obtain ⟨a0, c0, e0, i0⟩ := o1.isl
  refine ⟨_, cap, rfl, g, a0, c0, rfl, ?_, e0 ▸ o1, (Array.getElem?_eq_some_iff.1 hh).1, fun w1 ws' hw hg => ?_⟩
  · rw [World.ownsRow.cellAt h' _ (by omega), ← e0]
    simp [List.getElem?_eq_getElem (show j * 2 + 1 < vs.length by omega)]
  · rw [← e0] at hw hg
    have hk : ∀ p, p < vs.length → ¬ p = j * 2 + 1 → ∀ k, (vs.getD p undef).ownBlock = some k → some k ≠ (vs.getD (j * 2 + 1) undef).ownBlock := fun p hp hne k e e' => hs p (j * 2 + 1) hp (by omega) hne k e e'.symm
    refine ⟨⟨vs, by rw [List.length_set]; exact ownsRow_at h' (fun k e => hg.block k (World.ownsRow.lt h' k e).2 (fun e' => (hb (j * 2 + 1) (by omega) k e'.symm).2 e)), by simpa using hl, fun i hi => ?_, hv, hb, hs⟩, ?_⟩
    · have hi' : i < ts.length := by simpa using hi
      obtain ⟨q0, q1⟩ := he i hi'
      have k1 : Ls.Own w1 0 (vs.getD (i * 2) undef) ts[i].ws := ownsRow_at q0 (fun k e => hg.block k (q0.ge k e).2 (hk _ (by omega) (by omega) k e))
      by_cases hij : j = i
      · subst hij
        rw [List.getElem_set_self]
        exact ⟨k1, hw⟩
      · rw [List.getElem_set_ne hij]
        exact ⟨k1, ownsRow_at q1 (fun k e => hg.block k (q1.ge k e).2 (hk _ (by omega) (by omega) k e))⟩
    · exact ⟨hg.os, hg.tape, hg.output, hg.size, fun k hk' hn => hg.block k hk' (fun e => hn (hb (j * 2 + 1) (by omega) k e.symm).1)⟩
/-- The marks that the laws write. -/
def km (q : Nat) (t : Kv) : Kv := ⟨mtexts q t.ws.length, marks ((q + t.ws.length : Nat) : Int) t.vs.length⟩
def kmarksN (q : Nat) (ts : List Kv) : List Kv := ts.mapIdx fun j t => km (q + ktot (ts.take j)) t
theorem kmarksN_length (q : Nat) (ts : List Kv) : (kmarksN q ts).length = ts.length := by simp [kmarksN]
theorem kmarksN_get (q : Nat) (ts : List Kv) (j : Nat) (h : j < (kmarksN q ts).length) : (kmarksN q ts)[j] = km (q + ktot (ts.take j)) (ts[j]'(by rwa [kmarksN_length] at h)) := by simp [kmarksN]
def kmarks (q : Int) (ts : List Kv) : List Kv := kmarksN q.toNat ts
theorem kmarks_length (q : Int) (ts : List Kv) : (kmarks q ts).length = ts.length := kmarksN_length _ _
def Half (q : Nat) (ts l : List Kv) (i : Nat) : Prop := l.length = ts.length ∧ (∀ j, j < i → l[j]? = (kmarksN q ts)[j]?) ∧ ∀ j, i ≤ j → l[j]? = ts[j]?
theorem half_set {q : Nat} {ts l : List Kv} {i : Nat} (h : Half q ts l i) (hi : i < ts.length) : Half q ts (l.set i (km (q + ktot (ts.take i)) ts[i])) (i + 1) := by
  refine ⟨by simpa using h.1, fun j hj => ?_, fun j hj => ?_⟩
  · rw [List.getElem?_set]
    split
    · rename_i e; subst e
      rw [if_pos (by rw [h.1]; exact hi), List.getElem?_eq_getElem (by rw [kmarksN_length]; exact hi), kmarksN_get]
    · exact h.2.1 j (by omega)
  · rw [List.getElem?_set_ne (by omega)]; exact h.2.2 j (by omega)
theorem half_end {q : Nat} {ts l : List Kv} {i : Nat} (h : Half q ts l i) (hi : ¬ i < ts.length) : l = kmarksN q ts := by
  apply List.ext_getElem?
  intro j
  by_cases hj : j < i
  · exact h.2.1 j hj
  · rw [List.getElem?_eq_none (by rw [h.1]; omega), List.getElem?_eq_none (by rw [kmarksN_length]; omega)]
theorem half_at {q : Nat} {ts l : List Kv} {i : Nat} (h : Half q ts l i) (hi : i < ts.length) (hil : i < l.length) : l[i] = ts[i] := by
  have := h.2.2 i (Nat.le_refl _)
  rw [List.getElem?_eq_getElem hil, List.getElem?_eq_getElem hi] at this
  exact Option.some.inj this
theorem set_set_same {α : Type} {l : List α} {i : Nat} {x y : α} : (l.set i x).set i y = l.set i y := by simp
end Go.Proofs.Ytcadgeepknhmfaa.Kt
/-
  Tables of words and their numbers, further: whether two are the same, whether marks are held.
-/
namespace Go.Proofs.Ytcadgeepknhmfaa.Kt
set_option maxRecDepth 20000
open Go.RowKit
open Go.Proofs.Ytcadgeepknhmfaa.Sv (Fr fr_below new2 wr2)
open Go.Proofs.Ytcadgeepknhmfaa.Mk (mtexts mtexts_length)
open Go.Proofs.Ytcadgeepknhmfaa.Li (marks marks_length)
set_option linter.unusedVariables false
end Go.Proofs.Ytcadgeepknhmfaa.Kt
/-
  Tables of words and their numbers, further: one put into its place; how great they are; a copy of the laws' own.
-/
namespace Go.Proofs.Ytcadgeepknhmfaa.Kt
set_option maxRecDepth 20000
open Go.RowKit
open Go.Proofs.Ytcadgeepknhmfaa.Tb (ownsRow_at sub sub_yes sub_no lets Fits)
open Go.Proofs.Ytcadgeepknhmfaa.Sv (Fr fr_below fr_grown new1 new2 new3 wr2 Wr)
open Go.Proofs.Ytcadgeepknhmfaa.Li (below_none)
set_option linter.unusedVariables false
variable {w w1 : World} {B : Nat → Prop} {v : Value} {ts : List Kv}
theorem getD_set2 {vs : List Value} {q p : Nat} {u0 u1 : Value} (hq : q + 1 < vs.length) : ((vs.set q u0).set (q + 1) u1).getD p undef = if p = q + 1 then u1 else if p = q then u0 else vs.getD p undef := by
  by_cases h1 : p = q + 1
  · subst h1; simp [hq]
  · by_cases h0 : p = q
    · subst h0; simp [show p < vs.length by omega]
    · simp [h0, h1, Ne.symm h0, Ne.symm h1]
/-- One put into its place: its words and numbers lie in blocks from m on, all that was there in blocks below. -/
theorem OwK.put {m : Nat} (h : OwK w (fun k => B k ∧ k < m) v ts) (j : Nat) (hj : j < ts.length) : ∃ a c, v = .slice a ts.length c ∧ ∃ g y0 y1, a = some ⟨g, 0, none⟩ ∧ w.cell? ⟨g, j * 2, none⟩ = some y0 ∧ w.cell? ⟨g, j * 2 + 1, none⟩ = some y1 ∧ w.frozen? ⟨g, j * 2, none⟩ = false ∧ w.frozen? ⟨g, j * 2 + 1, none⟩ = false ∧ g < w.heap.size ∧ B g ∧ g < m ∧
    ∀ u0 u1 (x : Kv), Ls.Own w m u0 x.ws → Li.Own w m u1 x.vs → (∀ k, u0.ownBlock = some k → u1.ownBlock ≠ some k) → (∀ k, m ≤ k → B k) → OwK ((w.setCell ⟨g, j * 2, none⟩ u0).setCell ⟨g, j * 2 + 1, none⟩ u1) B v (ts.set j x) := by
  obtain ⟨vs, ho, hl, he, hv, hb, hs⟩ := h
  have h' := ho
  rcases ho.2 with ⟨rfl, h0⟩ | ⟨g, cap, cur, rfl, hbg, hh, _⟩
  · omega
  have k0 := World.ownsRow.cellAt h' (j * 2) (by omega)
  have k1 := World.ownsRow.cellAt h' (j * 2 + 1) (by omega)
  rw [List.getElem?_eq_getElem (by omega)] at k0 k1
  obtain ⟨hBg, hgm⟩ := hv g rfl
  refine ⟨_, cap, rfl, g, _, _, rfl, k0, k1, World.ownsRow.frozenAt h' _, World.ownsRow.frozenAt h' _, (Array.getElem?_eq_some_iff.1 hh).1, hBg, hgm, fun u0 u1 x o0 o1 h01 hB => ?_⟩
  have hst := (World.ownsRow.stored (World.ownsRow.stored h' (j * 2) u0).1 (j * 2 + 1) u1).1
  have hg : w.grownBy ((w.setCell ⟨g, j * 2, none⟩ u0).setCell ⟨g, j * 2 + 1, none⟩ u1) (some g) := Li.grown_trans (Li.grown_set _ _ _ _) (Li.grown_set _ _ _ _)
  have hq : j * 2 + 1 < vs.length := by omega
  have hne : ∀ p, p < vs.length → ∀ k, (vs.getD p undef).ownBlock = some k → ¬ k = g := fun p hp k e e' => (hb p hp k e).2 (by subst e'; rfl)
  have hn0 : ∀ k, u0.ownBlock = some k → ¬ k = g := fun k e e' => by have := (o0.ge k e).1; omega
  have hn1 : ∀ k, u1.ownBlock = some k → ¬ k = g := fun k e e' => by have := (o1.ge k e).1; omega
  refine ⟨(vs.set (j * 2) u0).set (j * 2 + 1) u1, by rw [List.length_set]; exact hst, by simpa using hl, fun i hi => ?_, fun k e => (hv k e).1, fun p hp k e => ?_, fun p q hp hq' hpq k e => ?_⟩
  · have hi' : i < ts.length := by simpa using hi
    rw [getD_set2 hq, getD_set2 hq]
    by_cases hij : j = i
    · subst hij
      rw [if_neg (by omega), if_pos rfl, if_pos rfl, List.getElem_set_self]
      have q0 : Ls.Own ((w.setCell ⟨g, j * 2, none⟩ u0).setCell ⟨g, j * 2 + 1, none⟩ u1) m u0 x.ws := ownsRow_at o0 (fun k e => hg.block k (o0.ge k e).2 (fun e' => by injection e' with e'; exact hn0 k e e'))
      have q1 : Li.Own ((w.setCell ⟨g, j * 2, none⟩ u0).setCell ⟨g, j * 2 + 1, none⟩ u1) m u1 x.vs := ownsRow_at o1 (fun k e => hg.block k (o1.ge k e).2 (fun e' => by injection e' with e'; exact hn1 k e e'))
      exact ⟨q0.mono (Nat.zero_le _), q1.mono (Nat.zero_le _)⟩
    · rw [if_neg (by omega), if_neg (by omega), if_neg (by omega), if_neg (by omega), List.getElem_set_ne hij]
      obtain ⟨q0, q1⟩ := he i hi'
      exact ⟨ownsRow_at q0 (fun k e => hg.block k (q0.ge k e).2 (fun e' => by injection e' with e'; exact hne _ (by omega) k e e')), ownsRow_at q1 (fun k e => hg.block k (q1.ge k e).2 (fun e' => by injection e' with e'; exact hne _ (by omega) k e e'))⟩
  · rw [getD_set2 hq] at e
    have hgg : ∀ k, ¬ k = g → Value.ownBlock (.slice (some ⟨g, 0, none⟩) ts.length cap) ≠ some k := fun k hk e => hk (by simp [Value.ownBlock] at e; exact e.symm)
    by_cases h1 : p = j * 2 + 1
    · rw [if_pos h1] at e; exact ⟨hB k (o1.ge k e).1, hgg k (hn1 k e)⟩
    · rw [if_neg h1] at e
      by_cases h0 : p = j * 2
      · rw [if_pos h0] at e; exact ⟨hB k (o0.ge k e).1, hgg k (hn0 k e)⟩
      · rw [if_neg h0] at e; exact ⟨(hb p (by simpa using hp) k e).1.1, (hb p (by simpa using hp) k e).2⟩
  · rw [getD_set2 hq] at e ⊢
    have hp' : p < vs.length := by simpa using hp
    have hq'' : q < vs.length := by simpa using hq'
    by_cases p1 : p = j * 2 + 1
    · rw [if_pos p1] at e
      rw [if_neg (by omega)]
      by_cases q0 : q = j * 2
      · rw [if_pos q0]; exact fun e' => h01 k e' e
      · rw [if_neg q0]; exact fun e' => by have := (hb q hq'' k e').1.2; have := (o1.ge k e).1; omega
    · rw [if_neg p1] at e
      by_cases p0 : p = j * 2
      · rw [if_pos p0] at e
        by_cases q1 : q = j * 2 + 1
        · rw [if_pos q1]; exact h01 k e
        · rw [if_neg q1, if_neg (by omega)]; exact fun e' => by have := (hb q hq'' k e').1.2; have := (o0.ge k e).1; omega
      · rw [if_neg p0] at e
        by_cases q1 : q = j * 2 + 1
        · rw [if_pos q1]; exact fun e' => by have := (hb p hp' k e).1.2; have := (o1.ge k e').1; omega
        · rw [if_neg q1]
          by_cases q0 : q = j * 2
          · rw [if_pos q0]; exact fun e' => by have := (hb p hp' k e).1.2; have := (o0.ge k e').1; omega
          · rw [if_neg q0]; exact hs p q hp' hq'' hpq k e
/-- As many as are made, all empty. -/
theorem made_get (n p : Nat) (hp : p < n * 2) : (madeCells (Value.agg #[.slice none 0 0, .slice none 0 0]).cells (n * 2)).toList.getD p undef = .slice none 0 0 := by
  simp [madeCells, hp, Value.cells]
  rcases Nat.mod_two_eq_zero_or_one p with e | e <;> simp [e]
theorem owk_made {base n : Nat} (h : w.ownsRow base 54 2 v n (madeCells (Value.agg #[.slice none 0 0, .slice none 0 0]).cells (n * 2)).toList) (hB : ∀ k, v.ownBlock = some k → B k) : OwK w B v (List.replicate n ⟨[], []⟩) := by
  have hlen := h.1
  have hnn : ∀ p, p < n * 2 → ∀ k, ((madeCells (Value.agg #[.slice none 0 0, .slice none 0 0]).cells (n * 2)).toList.getD p undef).ownBlock ≠ some k := fun p hp k e => by rw [made_get n p hp] at e; simp [Value.ownBlock] at e
  refine ⟨_, ?_, by simpa using hlen, fun j hj => ?_, hB, fun p hp k e => absurd e (hnn p (by omega) k), fun p q hp hq hpq k e => absurd e (hnn p (by omega) k)⟩
  · rw [List.length_replicate]
    refine ⟨h.1, ?_⟩
    rcases h.2 with h | ⟨g, cap, cur, e, hb', r⟩
    · exact .inl h
    · exact .inr ⟨g, cap, cur, e, Nat.zero_le _, r⟩
  · have hj' : j < n := by simpa using hj
    rw [made_get n _ (by omega), made_get n _ (by omega)]
    simp only [List.getElem_replicate]
    exact ⟨Ls.Own.nil _ _, Li.Own.nil _ _⟩
/-- How great they are. -/
def ksz : List Kv → Nat
  | [] => 0
  | t :: ts => (t.ws.length + lets t.ws + t.vs.length) + ksz ts
theorem ksz_take (ts : List Kv) (k : Nat) (h : k < ts.length) : ksz (ts.take (k + 1)) = ksz (ts.take k) + (ts[k].ws.length + lets ts[k].ws + ts[k].vs.length) := by
  induction ts generalizing k with
  | nil => simp at h
  | cons s r ih =>
    cases k with
    | zero => simp [ksz]
    | succ k =>
      simp only [List.take_succ_cons, ksz, List.getElem_cons_succ]
      rw [ih k (by simpa using h)]
      omega
theorem ksz_le (ts : List Kv) (k : Nat) : ksz (ts.take k) ≤ ksz ts := by
  induction ts generalizing k with
  | nil => simp
  | cons s r ih =>
    cases k with
    | zero => simp [ksz]
    | succ k => simp only [List.take_succ_cons, ksz]; have := ih k; omega
theorem ksz_at (ts : List Kv) (k : Nat) (h : k < ts.length) : ts[k].ws.length + lets ts[k].ws + ts[k].vs.length ≤ ksz ts := by
  have h1 := ksz_take ts k h
  have h2 := ksz_le ts (k + 1)
  omega
theorem ktot_ksz (ts : List Kv) : ktot ts ≤ ksz ts := by
  induction ts with
  | nil => simp [ktot, ksz]
  | cons t ts ih => simp only [ktot, ksz]; omega
def FitsK (ts : List Kv) : Prop := ts.length ≤ 9223372036854775807 ∧ ∀ j (hj : j < ts.length), ts[j].ws.length ≤ 9223372036854775807 ∧ Fits ts[j].ws ∧ ts[j].vs.length ≤ 9223372036854775807
/-- As far as k the places hold what they shall, behind it nothing. -/
def part (ts : List Kv) (k : Nat) : List Kv := ts.take k ++ List.replicate (ts.length - k) ⟨[], []⟩
theorem part_length (ts : List Kv) (k : Nat) (h : k ≤ ts.length) : (part ts k).length = ts.length := by simp [part]; omega
theorem part_zero (ts : List Kv) : part ts 0 = List.replicate ts.length ⟨[], []⟩ := by simp [part]
theorem part_all (ts : List Kv) : part ts ts.length = ts := by simp [part]
theorem part_set (ts : List Kv) (k : Nat) (h : k < ts.length) : (part ts k).set k ts[k] = part ts (k + 1) := by
  unfold part
  apply List.ext_getElem?
  intro i
  rw [List.getElem?_set]
  by_cases h1 : k = i
  · subst h1
    rw [if_pos rfl, if_pos (by simp; omega), List.getElem?_append_left (by simp; omega)]
    simp [h]
  · rw [if_neg h1]
    by_cases h2 : i < k
    · rw [List.getElem?_append_left (by simp; omega), List.getElem?_append_left (by simp; omega)]
      simp [h2, show i < k + 1 by omega]
    · rw [List.getElem?_append_right (by simp; omega), List.getElem?_append_right (by simp; omega)]
      simp only [List.length_take, List.getElem?_replicate]
      by_cases h3 : i < ts.length
      · rw [if_pos (by omega), if_pos (by omega)]
      · rw [if_neg (by omega), if_neg (by omega)]
theorem info_tab' : (Try.prog.info? 54).map (fun i => (i.zero, i.size, i.bytes)) = some (some (.agg #[.slice none 0 0, .slice none 0 0]), 2, 48) := by kernel_rfl
end Go.Proofs.Ytcadgeepknhmfaa.Kt
/-
  Lists of trees as the laws and both texts hold them; contracts of the laws' own helpers.
-/
namespace Go.Proofs.Ytcadgeepknhmfaa.Tm
open Go.RowKit
open Go.Proofs.Ytcadgeepknhmfaa.Li (ret_bool ret_int below_none)
open Go.Proofs.Ytcadgeepknhmfaa.Tb (sub sub_yes sub_no)
set_option linter.unusedVariables false

/-- Two cells that read as a tree. -/
def TrIs (w : World) (v0 v1 : Value) (t : Tr.T) : Prop :=
  ∃ a c a' c', v0 = .slice a t.sp.length c ∧ v1 = .slice a' t.lv.length c' ∧ IsP w a t.sp ∧ Li.IsL w a' t.lv
theorem TrIs.below {w w1 : World} {v0 v1 : Value} {t : Tr.T} (h : TrIs w v0 v1 t) (hB : Below w.heap.size w w1) : TrIs w1 v0 v1 t := by
  obtain ⟨a, c, a', c', e0, e1, h0, h1⟩ := h
  exact ⟨a, c, a', c', e0, e1, h0.below hB, h1.below hB⟩
/-- The slice of address a reads as these trees. -/
def IsT (w : World) (a : Option Addr) (ts : List Tr.T) : Prop :=
  ts = [] ∨ ∃ b off, a = some ⟨b, off, none⟩ ∧ b < w.heap.size ∧ ∀ j (hj : j < ts.length), ∃ v0 v1, (w.cell? ⟨b, off + j * 2, none⟩ = some v0 ∧ w.cell? ⟨b, off + j * 2 + 1, none⟩ = some v1) ∧ TrIs w v0 v1 ts[j]
theorem IsT.below {w w1 : World} {a : Option Addr} {ts : List Tr.T} (h : IsT w a ts) (hB : Below w.heap.size w w1) : IsT w1 a ts := by
  rcases h with h | ⟨b, off, rfl, hb, hc⟩
  · exact .inl h
  · refine .inr ⟨b, off, rfl, Nat.lt_of_lt_of_le hb hB.size, fun j hj => ?_⟩
    obtain ⟨v0, v1, ⟨c0, c1⟩, hr⟩ := hc j hj
    exact ⟨v0, v1, ⟨(hB.cell (by exact hb)).trans c0, (hB.cell (by exact hb)).trans c1⟩, hr.below hB⟩
theorem IsT.drewN {w : World} {a : Option Addr} {ts : List Tr.T} (h : IsT w a ts) (n : Nat) : IsT (w.drewN n) a ts := h
def szt (t : Tr.T) : Nat := t.sp.length + t.lv.length
def szT : List Tr.T → Nat
  | [] => 0
  | t :: ts => szt t + szT ts
theorem szT_take (ts : List Tr.T) (k : Nat) (h : k < ts.length) : szT (ts.take (k + 1)) = szT (ts.take k) + szt ts[k] := by
  induction ts generalizing k with
  | nil => simp at h
  | cons s r ih =>
    cases k with
    | zero => simp [szT]
    | succ k =>
      simp only [List.take_succ_cons, szT, List.getElem_cons_succ]
      rw [ih k (by simpa using h)]
      omega
theorem szT_le (ts : List Tr.T) (k : Nat) : szT (ts.take k) ≤ szT ts := by
  induction ts generalizing k with
  | nil => simp
  | cons s r ih =>
    cases k with
    | zero => simp [szT]
    | succ k => simp only [List.take_succ_cons, szT]; have := ih k; omega
theorem szT_at (ts : List Tr.T) (k : Nat) (h : k < ts.length) : szt ts[k] ≤ szT ts := by
  have h1 := szT_take ts k h
  have h2 := szT_le ts (k + 1)
  omega
theorem szT_append (ts us : List Tr.T) : szT (ts ++ us) = szT ts + szT us := by
  induction ts with
  | nil => simp [szT]
  | cons t ts ih => simp only [List.cons_append, szT, ih]; omega
/-- All of a size that Go can have. -/
def FitsT (ts : List Tr.T) : Prop := ts.length ≤ 9223372036854775807 ∧ ∀ j (hj : j < ts.length), ts[j].sp.length ≤ 9223372036854775807 ∧ ts[j].lv.length ≤ 9223372036854775807

/-- As far as k the cells of block g are trees of the call's own, in blocks from B on. -/
def NestT (w : World) (B : Nat) (V0 V1 : Nat → Value) (xs : List Value) (ts : List Tr.T) (k : Nat) : Prop :=
  ∀ i (hi : i < ts.length), i < k → (xs[i * 2]? = some (V0 i) ∧ xs[i * 2 + 1]? = some (V1 i)) ∧ OwnP w B (V0 i) ts[i].sp ∧ Li.Own w B (V1 i) ts[i].lv
def updV (V : Nat → Value) (k : Nat) (u : Value) : Nat → Value := fun i => if i = k then u else V i
theorem updV_at (V : Nat → Value) (k : Nat) (u : Value) : updV V k u k = u := if_pos rfl
theorem updV_off {V : Nat → Value} {k i : Nat} (u : Value) (h : i ≠ k) : updV V k u i = V i := if_neg h
theorem nestT_zero (w : World) (B : Nat) (V0 V1 : Nat → Value) (xs : List Value) (ts : List Tr.T) : NestT w B V0 V1 xs ts 0 := fun _ _ h => by omega
theorem NestT.grown {w w1 : World} {B g k : Nat} {V0 V1 : Nat → Value} {xs : List Value} {ts : List Tr.T} (h : NestT w B V0 V1 xs ts k) (hg : w.grownBy w1 (some g)) (hgB : g < B) : NestT w1 B V0 V1 xs ts k := by
  intro i hi hik
  obtain ⟨hc, o0, o1⟩ := h i hi hik
  exact ⟨hc, ownP_off o0 hg hgB, own_off o1 hg hgB⟩
theorem NestT.below {w w1 : World} {B k : Nat} {V0 V1 : Nat → Value} {xs : List Value} {ts : List Tr.T} (h : NestT w B V0 V1 xs ts k) (hb : Below w.heap.size w w1) : NestT w1 B V0 V1 xs ts k := by
  intro i hi hik
  obtain ⟨hc, o0, o1⟩ := h i hi hik
  exact ⟨hc, o0.below hb, o1.below hb⟩
theorem nestT_step {w : World} {B g k : Nat} {V0 V1 : Nat → Value} {xs : List Value} {ts : List Tr.T} {u0 u1 : Value} (h : NestT w B V0 V1 xs ts k) (hk : k < ts.length) (hxl : xs.length = ts.length * 2) (hg : g < B)
    (o0 : OwnP w B u0 ts[k].sp) (o1 : Li.Own w B u1 ts[k].lv) :
    NestT ((w.setCell ⟨g, k * 2, none⟩ u0).setCell ⟨g, k * 2 + 1, none⟩ u1) B (updV V0 k u0) (updV V1 k u1) ((xs.set (k * 2) u0).set (k * 2 + 1) u1) ts (k + 1) := by
  intro i hi hik
  have hg1 : w.grownBy ((w.setCell ⟨g, k * 2, none⟩ u0).setCell ⟨g, k * 2 + 1, none⟩ u1) (some g) := Li.grown_trans (Li.grown_set _ _ _ _) (Li.grown_set _ _ _ _)
  by_cases e : i = k
  · subst e
    rw [updV_at, updV_at]
    refine ⟨⟨?_, ?_⟩, ownP_off o0 hg1 hg, own_off o1 hg1 hg⟩
    · simp only [List.getElem?_set, List.length_set]; rw [if_neg (by omega), if_pos True.intro, if_pos (by omega)]
    · simp only [List.getElem?_set, List.length_set]; rw [if_pos True.intro, if_pos (by omega)]
  · rw [updV_off _ e, updV_off _ e]
    obtain ⟨⟨c0, c1⟩, p0, p1⟩ := h i hi (by omega)
    refine ⟨⟨?_, ?_⟩, ownP_off p0 hg1 hg, own_off p1 hg1 hg⟩
    · simp only [List.getElem?_set]; rw [if_neg (by omega), if_neg (by omega)]; exact c0
    · simp only [List.getElem?_set]; rw [if_neg (by omega), if_neg (by omega)]; exact c1
theorem nestT_is {w : World} {B g base cap : Nat} {V0 V1 : Nat → Value} {xs : List Value} {ts : List Tr.T} (h : NestT w B V0 V1 xs ts ts.length) (hown : w.ownsRow base 38 2 (.slice (some ⟨g, 0, none⟩) ts.length cap) ts.length xs) : IsT w (some ⟨g, 0, none⟩) ts := by
  have hlt := (World.ownsRow.lt hown g rfl).2
  refine .inr ⟨g, 0, rfl, hlt, fun j hj => ?_⟩
  obtain ⟨⟨c0, c1⟩, o0, o1⟩ := h j hj hj
  obtain ⟨a0, q0, e0, _, i0⟩ := o0.isp
  obtain ⟨a1, q1, e1, i1⟩ := o1.isl
  have hxl := hown.1
  refine ⟨V0 j, V1 j, ⟨?_, ?_⟩, a0, q0, a1, q1, e0, e1, i0, i1⟩
  · rw [Nat.zero_add, World.ownsRow.cellAt hown (j * 2) (by omega), c0]
  · rw [Nat.zero_add, World.ownsRow.cellAt hown (j * 2 + 1) (by omega), c1]
theorem info_tree : (Try.prog.info? 38).map (fun i => (i.zero, i.size, i.bytes)) = some (some (.agg #[.slice none 0 0, .slice none 0 0]), 2, 48) := by kernel_rfl
end Go.Proofs.Ytcadgeepknhmfaa.Tm
/-
  Lists of trees: what may be written of them, where it lies; a copy of the laps' own, marks and whether they are held.
-/
namespace Go.Proofs.Ytcadgeepknhmfaa.To
set_option maxRecDepth 20000
open Go.RowKit
open Go.Proofs.Ytcadgeepknhmfaa.Tm
open Go.Proofs.Ytcadgeepknhmfaa.Sv (Fr fr_below)
open Go.Proofs.Ytcadgeepknhmfaa.Li (marks marks_length below_none)
set_option linter.unusedVariables false
/-- How many marks are written into trees. -/
def ktot : List Tr.T → Nat
  | [] => 0
  | t :: ts => 2 * t.sp.length + t.lv.length + ktot ts
theorem ktot_take (ts : List Tr.T) (k : Nat) (h : k < ts.length) : ktot (ts.take (k + 1)) = ktot (ts.take k) + (2 * ts[k].sp.length + ts[k].lv.length) := by
  induction ts generalizing k with
  | nil => simp at h
  | cons s r ih =>
    cases k with
    | zero => simp [ktot]
    | succ k =>
      simp only [List.take_succ_cons, ktot, List.getElem_cons_succ]
      rw [ih k (by simpa using h)]
      omega
theorem ktot_le (ts : List Tr.T) (k : Nat) : ktot (ts.take k) ≤ ktot ts := by
  induction ts generalizing k with
  | nil => simp
  | cons s r ih =>
    cases k with
    | zero => simp [ktot]
    | succ k => simp only [List.take_succ_cons, ktot]; have := ih k; omega
theorem ktot_at (ts : List Tr.T) (k : Nat) (h : k < ts.length) : 2 * ts[k].sp.length + ts[k].lv.length ≤ ktot ts := by
  have h1 := ktot_take ts k h
  have h2 := ktot_le ts (k + 1)
  omega
theorem ktot_sz (ts : List Tr.T) : ktot ts ≤ 2 * szT ts := by
  induction ts with
  | nil => simp [ktot, szT]
  | cons t ts ih => simp only [ktot, szT, szt]; omega
theorem ownP_nil (w : World) (base : Nat) : OwnP w base (.slice none 0 0) [] := World.ownsRow_nil _ _ _ _
/-- What may be written of them: all in blocks of B, no two in one. -/
def OwT (w : World) (B : Nat → Prop) (v : Value) (ts : List Tr.T) : Prop :=
  ∃ vs : List Value, w.ownsRow 0 38 2 v ts.length vs ∧ vs.length = ts.length * 2 ∧ (∀ j (h : j < ts.length), OwnP w 0 (vs.getD (j * 2) undef) ts[j].sp ∧ Li.Own w 0 (vs.getD (j * 2 + 1) undef) ts[j].lv) ∧ (∀ k, v.ownBlock = some k → B k) ∧ (∀ p, p < vs.length → ∀ k, (vs.getD p undef).ownBlock = some k → B k ∧ v.ownBlock ≠ some k) ∧ (∀ p q, p < vs.length → q < vs.length → ¬ p = q → ∀ k, (vs.getD p undef).ownBlock = some k → (vs.getD q undef).ownBlock ≠ some k)
variable {w w1 : World} {B : Nat → Prop} {v : Value} {ts : List Tr.T}
theorem half2 {p n : Nat} (h : p < n * 2) : ∃ j, j < n ∧ (p = j * 2 ∨ p = j * 2 + 1) := ⟨p / 2, by omega, by omega⟩
theorem OwT.lt (h : OwT w B v ts) : (∀ k, v.ownBlock = some k → k < w.heap.size) := by
  obtain ⟨vs, ho, _⟩ := h
  exact fun k hk => (World.ownsRow.lt ho k hk).2
theorem OwT.nil (w : World) (B : Nat → Prop) : OwT w B (.slice none 0 0) [] :=
  ⟨[], World.ownsRow_nil _ _ _ _, rfl, fun j h => by simp at h, fun k hk => by simp [Value.ownBlock] at hk, fun p h => by simp at h, fun p q h => by simp at h⟩
theorem OwT.fr {B' : Nat → Prop} (h : OwT w B v ts) (hf : Fr B' w w1) (hd : ∀ k, B k → ¬ B' k) : OwT w1 B v ts := by
  obtain ⟨vs, ho, hl, he, hv, hb, hs⟩ := h
  refine ⟨vs, ownsRow_at ho (fun k e => hf.block k (World.ownsRow.lt ho k e).2 (hd k (hv k e))), hl, fun j hj => ?_, hv, hb, hs⟩
  obtain ⟨h0, h1⟩ := he j hj
  exact ⟨ownsRow_at h0 (fun k e => hf.block k (h0.ge k e).2 (hd k (hb _ (by omega) k e).1)), ownsRow_at h1 (fun k e => hf.block k (h1.ge k e).2 (hd k (hb _ (by omega) k e).1))⟩
theorem OwT.below (h : OwT w B v ts) (hb : Below w.heap.size w w1) : OwT w1 B v ts := h.fr (fr_below (B := fun _ => False) hb) (fun _ _ e => e)
theorem OwT.mono {B' : Nat → Prop} (h : OwT w B v ts) (hb : ∀ k, B k → B' k) : OwT w B' v ts := by
  obtain ⟨vs, ho, hl, he, hv, hbb, hs⟩ := h
  exact ⟨vs, ho, hl, he, fun k e => hb k (hv k e), fun p hp k e => ⟨hb k (hbb p hp k e).1, (hbb p hp k e).2⟩, hs⟩
theorem OwT.bound (h : OwT w B v ts) : OwT w (fun k => B k ∧ k < w.heap.size) v ts := by
  obtain ⟨vs, ho, hl, he, hv, hbb, hs⟩ := h
  refine ⟨vs, ho, hl, he, fun k e => ⟨hv k e, (World.ownsRow.lt ho k e).2⟩, fun p hp k e => ⟨⟨(hbb p hp k e).1, ?_⟩, (hbb p hp k e).2⟩, hs⟩
  obtain ⟨j, hj, rfl | rfl⟩ := half2 (n := ts.length) (p := p) (by omega)
  · exact ((he j hj).1.ge k e).2
  · exact ((he j hj).2.ge k e).2
theorem OwT.ist (h : OwT w B v ts) : ∃ a cap, v = .slice a ts.length cap ∧ IsT w a ts := by
  obtain ⟨vs, ho, hl, he, _⟩ := h
  have h' := ho
  rcases ho.2 with ⟨rfl, h0⟩ | ⟨g, cap, cur, rfl, hb, hh, _⟩
  · obtain rfl := List.length_eq_zero_iff.1 h0
    exact ⟨none, 0, rfl, .inl rfl⟩
  · refine ⟨_, cap, rfl, .inr ⟨g, 0, rfl, (Array.getElem?_eq_some_iff.1 hh).1, fun j hj => ?_⟩⟩
    obtain ⟨o0, o1⟩ := he j hj
    obtain ⟨a0, c0, e0, _, i0⟩ := o0.isp
    obtain ⟨a1, c1, e1, i1⟩ := o1.isl
    refine ⟨_, _, ⟨?_, ?_⟩, a0, c0, a1, c1, e0, e1, i0, i1⟩
    · rw [Nat.zero_add, World.ownsRow.cellAt h' _ (by omega)]
      simp [List.getElem?_eq_getElem (show j * 2 < vs.length by omega)]
    · rw [Nat.zero_add, World.ownsRow.cellAt h' _ (by omega)]
      simp [List.getElem?_eq_getElem (show j * 2 + 1 < vs.length by omega)]
theorem getD_app1 {α : Type} {xs : List α} {a b d : α} {p : Nat} (h : p < xs.length) : (xs ++ [a, b]).getD p d = xs.getD p d := by
  simp [List.getElem?_append_left h]
theorem getD_app2 {α : Type} {xs : List α} {a b d : α} : (xs ++ [a, b]).getD xs.length d = a := by simp
theorem getD_app3 {α : Type} {xs : List α} {a b d : α} : (xs ++ [a, b]).getD (xs.length + 1) d = b := by simp
/-- One more behind the others: its words and numbers lie in blocks from m on, all that was there in blocks below. -/
theorem owt_snoc {v5 u0 u1 : Value} {x : Tr.T} {vs : List Value} {m : Nat} (hl : vs.length = ts.length * 2) (he : ∀ j (h : j < ts.length), OwnP w 0 (vs.getD (j * 2) undef) ts[j].sp ∧ Li.Own w 0 (vs.getD (j * 2 + 1) undef) ts[j].lv)
    (hv : ∀ k, v.ownBlock = some k → B k ∧ k < m) (hb : ∀ p, p < vs.length → ∀ k, (vs.getD p undef).ownBlock = some k → (B k ∧ k < m) ∧ v.ownBlock ≠ some k) (hs : ∀ p q, p < vs.length → q < vs.length → ¬ p = q → ∀ k, (vs.getD p undef).ownBlock = some k → (vs.getD q undef).ownBlock ≠ some k)
    (h0 : OwnP w m u0 x.sp) (h1 : Li.Own w m u1 x.lv) (h01 : ∀ k, u0.ownBlock = some k → u1.ownBlock ≠ some k) (hB : ∀ k, m ≤ k → B k) (hm : m ≤ w.heap.size)
    (ho : w1.ownsRow 0 38 2 v5 (ts.length + 1) (vs ++ [u0, u1])) (hg : w.grownBy w1 v.ownBlock) (hloc : v5.ownBlock = v.ownBlock ∨ v5.ownBlock = some w.heap.size) : OwT w1 B v5 (ts ++ [x]) := by
  have hn5 : ∀ k, k < w.heap.size → v.ownBlock ≠ some k → v5.ownBlock ≠ some k := fun k hk hn e => by
    rcases hloc with h | h
    · exact hn (h ▸ e)
    · rw [h] at e; injection e with e; omega
  have hvm : ∀ k, m ≤ k → v.ownBlock ≠ some k := fun k hk e => by have := (hv k e).2; omega
  refine ⟨vs ++ [u0, u1], by simpa using ho, by simp; omega, fun j hj => ?_, fun k e => ?_, fun p hp k e => ?_, fun p q hp hq hpq k e => ?_⟩
  · by_cases hjl : j < ts.length
    · rw [List.getElem_append_left hjl, getD_app1 (by omega), getD_app1 (by omega)]
      obtain ⟨q0, q1⟩ := he j hjl
      exact ⟨ownsRow_at q0 (fun k e => hg.block k (q0.ge k e).2 (fun e' => (hb _ (by omega) k e).2 e'.symm)), ownsRow_at q1 (fun k e => hg.block k (q1.ge k e).2 (fun e' => (hb _ (by omega) k e).2 e'.symm))⟩
    · have e1 : j = ts.length := by simp at hj; omega
      subst e1
      rw [List.getElem_append_right (by omega), ← hl, getD_app2, getD_app3]
      simp only [Nat.sub_self, List.getElem_cons_zero]
      have q0 : OwnP w1 m u0 x.sp := ownsRow_at h0 (fun k e => hg.block k (h0.ge k e).2 (fun e' => hvm k (h0.ge k e).1 e'.symm))
      have q1 : Li.Own w1 m u1 x.lv := ownsRow_at h1 (fun k e => hg.block k (h1.ge k e).2 (fun e' => hvm k (h1.ge k e).1 e'.symm))
      exact ⟨q0.mono (Nat.zero_le _), q1.mono (Nat.zero_le _)⟩
  · rcases hloc with h | h
    · exact (hv k (h ▸ e)).1
    · rw [h] at e; injection e with e; exact hB k (by omega)
  · by_cases hpl : p < vs.length
    · rw [getD_app1 hpl] at e
      obtain ⟨j, hj, hpj⟩ := half2 (n := ts.length) (p := p) (by omega)
      have hks : k < w.heap.size := by
        rcases hpj with rfl | rfl
        · exact ((he j hj).1.ge k e).2
        · exact ((he j hj).2.ge k e).2
      exact ⟨(hb p hpl k e).1.1, hn5 k hks (hb p hpl k e).2⟩
    · have hp' : p = vs.length ∨ p = vs.length + 1 := by simp at hp; omega
      rcases hp' with rfl | rfl
      · rw [getD_app2] at e
        exact ⟨hB k (h0.ge k e).1, hn5 k (h0.ge k e).2 (hvm k (h0.ge k e).1)⟩
      · rw [getD_app3] at e
        exact ⟨hB k (h1.ge k e).1, hn5 k (h1.ge k e).2 (hvm k (h1.ge k e).1)⟩
  · have hp' : p < vs.length ∨ p = vs.length ∨ p = vs.length + 1 := by simp at hp; omega
    have hq' : q < vs.length ∨ q = vs.length ∨ q = vs.length + 1 := by simp at hq; omega
    rcases hp' with h1' | rfl | rfl <;> rcases hq' with h2' | rfl | rfl
    · rw [getD_app1 h1'] at e; rw [getD_app1 h2']; exact hs p q h1' h2' hpq k e
    · rw [getD_app1 h1'] at e; rw [getD_app2]; intro e'; have := (hb p h1' k e).1.2; have := (h0.ge k e').1; omega
    · rw [getD_app1 h1'] at e; rw [getD_app3]; intro e'; have := (hb p h1' k e).1.2; have := (h1.ge k e').1; omega
    · rw [getD_app2] at e; rw [getD_app1 h2']; intro e'; have := (hb q h2' k e').1.2; have := (h0.ge k e).1; omega
    · exact absurd rfl hpq
    · rw [getD_app2] at e; rw [getD_app3]; exact h01 k e
    · rw [getD_app3] at e; rw [getD_app1 h2']; intro e'; have := (hb q h2' k e').1.2; have := (h1.ge k e).1; omega
    · rw [getD_app3] at e; rw [getD_app2]; intro e'; exact h01 k e' e
    · exact absurd rfl hpq
/-- Written over: the words, or the numbers, of one of them. -/
theorem OwT.set0 (h : OwT w B v ts) (j : Nat) (hj : j < ts.length) : ∃ a c, v = .slice a ts.length c ∧ ∃ g a0 c0, a = some ⟨g, 0, none⟩ ∧ w.cell? ⟨g, j * 2, none⟩ = some (.slice a0 ts[j].sp.length c0) ∧ OwnP w 0 (.slice a0 ts[j].sp.length c0) ts[j].sp ∧ g < w.heap.size ∧
    ∀ w1 ps', OwnP w1 0 (.slice a0 ts[j].sp.length c0) ps' → w.grownBy w1 (Value.slice a0 ts[j].sp.length c0).ownBlock → OwT w1 B v (ts.set j ⟨ps', ts[j].lv⟩) ∧ Fr B w w1 := by
  obtain ⟨vs, ho, hl, he, hv, hb, hs⟩ := h
  have h' := ho
  rcases ho.2 with ⟨rfl, h0⟩ | ⟨g, cap, cur, rfl, hbg, hh, _⟩
  · omega
  obtain ⟨o0, o1⟩ := he j hj
  obtain ⟨a0, c0, e0, _, i0⟩ := o0.isp
  refine ⟨_, cap, rfl, g, a0, c0, rfl, ?_, e0 ▸ o0, (Array.getElem?_eq_some_iff.1 hh).1, fun w1 ps' hw hg => ?_⟩
  · rw [World.ownsRow.cellAt h' _ (by omega), ← e0]
    simp [List.getElem?_eq_getElem (show j * 2 < vs.length by omega)]
  · rw [← e0] at hw hg
    have hk : ∀ p, p < vs.length → ¬ p = j * 2 → ∀ k, (vs.getD p undef).ownBlock = some k → some k ≠ (vs.getD (j * 2) undef).ownBlock := fun p hp hne k e e' => hs p (j * 2) hp (by omega) hne k e e'.symm
    refine ⟨⟨vs, by rw [List.length_set]; exact ownsRow_at h' (fun k e => hg.block k (World.ownsRow.lt h' k e).2 (fun e' => (hb (j * 2) (by omega) k e'.symm).2 e)), by simpa using hl, fun i hi => ?_, hv, hb, hs⟩, ?_⟩
    · have hi' : i < ts.length := by simpa using hi
      obtain ⟨q0, q1⟩ := he i hi'
      have k1 : Li.Own w1 0 (vs.getD (i * 2 + 1) undef) ts[i].lv := ownsRow_at q1 (fun k e => hg.block k (q1.ge k e).2 (hk _ (by omega) (by omega) k e))
      by_cases hij : j = i
      · subst hij
        rw [List.getElem_set_self]
        exact ⟨hw, k1⟩
      · rw [List.getElem_set_ne hij]
        exact ⟨ownsRow_at q0 (fun k e => hg.block k (q0.ge k e).2 (hk _ (by omega) (by omega) k e)), k1⟩
    · exact ⟨hg.os, hg.tape, hg.output, hg.size, fun k hk' hn => hg.block k hk' (fun e => hn (hb (j * 2) (by omega) k e.symm).1)⟩
theorem OwT.set1 (h : OwT w B v ts) (j : Nat) (hj : j < ts.length) : ∃ a c, v = .slice a ts.length c ∧ ∃ g a0 c0, a = some ⟨g, 0, none⟩ ∧ w.cell? ⟨g, j * 2 + 1, none⟩ = some (.slice a0 ts[j].lv.length c0) ∧ Li.Own w 0 (.slice a0 ts[j].lv.length c0) ts[j].lv ∧ g < w.heap.size ∧
    ∀ w1 vs', Li.Own w1 0 (.slice a0 ts[j].lv.length c0) vs' → w.grownBy w1 (Value.slice a0 ts[j].lv.length c0).ownBlock → OwT w1 B v (ts.set j ⟨ts[j].sp, vs'⟩) ∧ Fr B w w1 := by
  obtain ⟨vs, ho, hl, he, hv, hb, hs⟩ := h
  have h' := ho
  rcases ho.2 with ⟨rfl, h0⟩ | ⟨g, cap, cur, rfl, hbg, hh, _⟩
  · omega
  obtain ⟨o0, o1⟩ := he j hj
  obtain ⟨a0, c0, e0, i0⟩ := o1.isl
  refine ⟨_, cap, rfl, g, a0, c0, rfl, ?_, e0 ▸ o1, (Array.getElem?_eq_some_iff.1 hh).1, fun w1 ps' hw hg => ?_⟩
  · rw [World.ownsRow.cellAt h' _ (by omega), ← e0]
    simp [List.getElem?_eq_getElem (show j * 2 + 1 < vs.length by omega)]
  · rw [← e0] at hw hg
    have hk : ∀ p, p < vs.length → ¬ p = j * 2 + 1 → ∀ k, (vs.getD p undef).ownBlock = some k → some k ≠ (vs.getD (j * 2 + 1) undef).ownBlock := fun p hp hne k e e' => hs p (j * 2 + 1) hp (by omega) hne k e e'.symm
    refine ⟨⟨vs, by rw [List.length_set]; exact ownsRow_at h' (fun k e => hg.block k (World.ownsRow.lt h' k e).2 (fun e' => (hb (j * 2 + 1) (by omega) k e'.symm).2 e)), by simpa using hl, fun i hi => ?_, hv, hb, hs⟩, ?_⟩
    · have hi' : i < ts.length := by simpa using hi
      obtain ⟨q0, q1⟩ := he i hi'
      have k1 : OwnP w1 0 (vs.getD (i * 2) undef) ts[i].sp := ownsRow_at q0 (fun k e => hg.block k (q0.ge k e).2 (hk _ (by omega) (by omega) k e))
      by_cases hij : j = i
      · subst hij
        rw [List.getElem_set_self]
        exact ⟨k1, hw⟩
      · rw [List.getElem_set_ne hij]
        exact ⟨k1, ownsRow_at q1 (fun k e => hg.block k (q1.ge k e).2 (hk _ (by omega) (by omega) k e))⟩
    · exact ⟨hg.os, hg.tape, hg.output, hg.size, fun k hk' hn => hg.block k hk' (fun e => hn (hb (j * 2 + 1) (by omega) k e.symm).1)⟩
/-- The marks that the laws write. -/
def km (q : Nat) (t : Tr.T) : Tr.T := ⟨pmarks (q : Int) t.sp.length, marks ((q + 2 * t.sp.length : Nat) : Int) t.lv.length⟩
def kmarksN (q : Nat) (ts : List Tr.T) : List Tr.T := ts.mapIdx fun j t => km (q + ktot (ts.take j)) t
theorem kmarksN_length (q : Nat) (ts : List Tr.T) : (kmarksN q ts).length = ts.length := by simp [kmarksN]
theorem kmarksN_get (q : Nat) (ts : List Tr.T) (j : Nat) (h : j < (kmarksN q ts).length) : (kmarksN q ts)[j] = km (q + ktot (ts.take j)) (ts[j]'(by rwa [kmarksN_length] at h)) := by simp [kmarksN]
def kmarks (q : Int) (ts : List Tr.T) : List Tr.T := kmarksN q.toNat ts
theorem kmarks_length (q : Int) (ts : List Tr.T) : (kmarks q ts).length = ts.length := kmarksN_length _ _
def Half (q : Nat) (ts l : List Tr.T) (i : Nat) : Prop := l.length = ts.length ∧ (∀ j, j < i → l[j]? = (kmarksN q ts)[j]?) ∧ ∀ j, i ≤ j → l[j]? = ts[j]?
theorem half_set {q : Nat} {ts l : List Tr.T} {i : Nat} (h : Half q ts l i) (hi : i < ts.length) : Half q ts (l.set i (km (q + ktot (ts.take i)) ts[i])) (i + 1) := by
  refine ⟨by simpa using h.1, fun j hj => ?_, fun j hj => ?_⟩
  · rw [List.getElem?_set]
    split
    · rename_i e; subst e
      rw [if_pos (by rw [h.1]; exact hi), List.getElem?_eq_getElem (by rw [kmarksN_length]; exact hi), kmarksN_get]
    · exact h.2.1 j (by omega)
  · rw [List.getElem?_set_ne (by omega)]; exact h.2.2 j (by omega)
theorem half_end {q : Nat} {ts l : List Tr.T} {i : Nat} (h : Half q ts l i) (hi : ¬ i < ts.length) : l = kmarksN q ts := by
  apply List.ext_getElem?
  intro j
  by_cases hj : j < i
  · exact h.2.1 j hj
  · rw [List.getElem?_eq_none (by rw [h.1]; omega), List.getElem?_eq_none (by rw [kmarksN_length]; omega)]
theorem half_at {q : Nat} {ts l : List Tr.T} {i : Nat} (h : Half q ts l i) (hi : i < ts.length) (hil : i < l.length) : l[i] = ts[i] := by
  have := h.2.2 i (Nat.le_refl _)
  rw [List.getElem?_eq_getElem hil, List.getElem?_eq_getElem hi] at this
  exact Option.some.inj this
theorem set_set_same {α : Type} {l : List α} {i : Nat} {x y : α} : (l.set i x).set i y = l.set i y := by simp
theorem getD_set2 {vs : List Value} {q p : Nat} {u0 u1 : Value} (hq : q + 1 < vs.length) : ((vs.set q u0).set (q + 1) u1).getD p undef = if p = q + 1 then u1 else if p = q then u0 else vs.getD p undef := by
  by_cases h1 : p = q + 1
  · subst h1; simp [hq]
  · by_cases h0 : p = q
    · subst h0; simp [show p < vs.length by omega]
    · simp [h0, h1, Ne.symm h0, Ne.symm h1]
/-- One put into its place: its words and numbers lie in blocks from m on, all that was there in blocks below. -/
theorem OwT.put {m : Nat} (h : OwT w (fun k => B k ∧ k < m) v ts) (j : Nat) (hj : j < ts.length) : ∃ a c, v = .slice a ts.length c ∧ ∃ g y0 y1, a = some ⟨g, 0, none⟩ ∧ w.cell? ⟨g, j * 2, none⟩ = some y0 ∧ w.cell? ⟨g, j * 2 + 1, none⟩ = some y1 ∧ w.frozen? ⟨g, j * 2, none⟩ = false ∧ w.frozen? ⟨g, j * 2 + 1, none⟩ = false ∧ g < w.heap.size ∧ B g ∧ g < m ∧
    ∀ u0 u1 (x : Tr.T), OwnP w m u0 x.sp → Li.Own w m u1 x.lv → (∀ k, u0.ownBlock = some k → u1.ownBlock ≠ some k) → (∀ k, m ≤ k → B k) → OwT ((w.setCell ⟨g, j * 2, none⟩ u0).setCell ⟨g, j * 2 + 1, none⟩ u1) B v (ts.set j x) := by
  obtain ⟨vs, ho, hl, he, hv, hb, hs⟩ := h
  have h' := ho
  rcases ho.2 with ⟨rfl, h0⟩ | ⟨g, cap, cur, rfl, hbg, hh, _⟩
  · omega
  have k0 := World.ownsRow.cellAt h' (j * 2) (by omega)
  have k1 := World.ownsRow.cellAt h' (j * 2 + 1) (by omega)
  rw [List.getElem?_eq_getElem (by omega)] at k0 k1
  obtain ⟨hBg, hgm⟩ := hv g rfl
  refine ⟨_, cap, rfl, g, _, _, rfl, k0, k1, World.ownsRow.frozenAt h' _, World.ownsRow.frozenAt h' _, (Array.getElem?_eq_some_iff.1 hh).1, hBg, hgm, fun u0 u1 x o0 o1 h01 hB => ?_⟩
  have hst := (World.ownsRow.stored (World.ownsRow.stored h' (j * 2) u0).1 (j * 2 + 1) u1).1
  have hg : w.grownBy ((w.setCell ⟨g, j * 2, none⟩ u0).setCell ⟨g, j * 2 + 1, none⟩ u1) (some g) := Li.grown_trans (Li.grown_set _ _ _ _) (Li.grown_set _ _ _ _)
  have hq : j * 2 + 1 < vs.length := by omega
  have hne : ∀ p, p < vs.length → ∀ k, (vs.getD p undef).ownBlock = some k → ¬ k = g := fun p hp k e e' => (hb p hp k e).2 (by subst e'; rfl)
  have hn0 : ∀ k, u0.ownBlock = some k → ¬ k = g := fun k e e' => by have := (o0.ge k e).1; omega
  have hn1 : ∀ k, u1.ownBlock = some k → ¬ k = g := fun k e e' => by have := (o1.ge k e).1; omega
  refine ⟨(vs.set (j * 2) u0).set (j * 2 + 1) u1, by rw [List.length_set]; exact hst, by simpa using hl, fun i hi => ?_, fun k e => (hv k e).1, fun p hp k e => ?_, fun p q hp hq' hpq k e => ?_⟩
  · have hi' : i < ts.length := by simpa using hi
    rw [getD_set2 hq, getD_set2 hq]
    by_cases hij : j = i
    · subst hij
      rw [if_neg (by omega), if_pos rfl, if_pos rfl, List.getElem_set_self]
      have q0 : OwnP ((w.setCell ⟨g, j * 2, none⟩ u0).setCell ⟨g, j * 2 + 1, none⟩ u1) m u0 x.sp := ownsRow_at o0 (fun k e => hg.block k (o0.ge k e).2 (fun e' => by injection e' with e'; exact hn0 k e e'))
      have q1 : Li.Own ((w.setCell ⟨g, j * 2, none⟩ u0).setCell ⟨g, j * 2 + 1, none⟩ u1) m u1 x.lv := ownsRow_at o1 (fun k e => hg.block k (o1.ge k e).2 (fun e' => by injection e' with e'; exact hn1 k e e'))
      exact ⟨q0.mono (Nat.zero_le _), q1.mono (Nat.zero_le _)⟩
    · rw [if_neg (by omega), if_neg (by omega), if_neg (by omega), if_neg (by omega), List.getElem_set_ne hij]
      obtain ⟨q0, q1⟩ := he i hi'
      exact ⟨ownsRow_at q0 (fun k e => hg.block k (q0.ge k e).2 (fun e' => by injection e' with e'; exact hne _ (by omega) k e e')), ownsRow_at q1 (fun k e => hg.block k (q1.ge k e).2 (fun e' => by injection e' with e'; exact hne _ (by omega) k e e'))⟩
  · rw [getD_set2 hq] at e
    have hgg : ∀ k, ¬ k = g → Value.ownBlock (.slice (some ⟨g, 0, none⟩) ts.length cap) ≠ some k := fun k hk e => hk (by simp [Value.ownBlock] at e; exact e.symm)
    by_cases h1 : p = j * 2 + 1
    · rw [if_pos h1] at e; exact ⟨hB k (o1.ge k e).1, hgg k (hn1 k e)⟩
    · rw [if_neg h1] at e
      by_cases h0 : p = j * 2
      · rw [if_pos h0] at e; exact ⟨hB k (o0.ge k e).1, hgg k (hn0 k e)⟩
      · rw [if_neg h0] at e; exact ⟨(hb p (by simpa using hp) k e).1.1, (hb p (by simpa using hp) k e).2⟩
  · rw [getD_set2 hq] at e ⊢
    have hp' : p < vs.length := by simpa using hp
    have hq'' : q < vs.length := by simpa using hq'
    by_cases p1 : p = j * 2 + 1
    · rw [if_pos p1] at e
      rw [if_neg (by omega)]
      by_cases q0 : q = j * 2
      · rw [if_pos q0]; exact fun e' => h01 k e' e
      · rw [if_neg q0]; exact fun e' => by have := (hb q hq'' k e').1.2; have := (o1.ge k e).1; omega
    · rw [if_neg p1] at e
      by_cases p0 : p = j * 2
      · rw [if_pos p0] at e
        by_cases q1 : q = j * 2 + 1
        · rw [if_pos q1]; exact h01 k e
        · rw [if_neg q1, if_neg (by omega)]; exact fun e' => by have := (hb q hq'' k e').1.2; have := (o0.ge k e).1; omega
      · rw [if_neg p0] at e
        by_cases q1 : q = j * 2 + 1
        · rw [if_pos q1]; exact fun e' => by have := (hb p hp' k e).1.2; have := (o1.ge k e').1; omega
        · rw [if_neg q1]
          by_cases q0 : q = j * 2
          · rw [if_pos q0]; exact fun e' => by have := (hb p hp' k e).1.2; have := (o0.ge k e').1; omega
          · rw [if_neg q0]; exact hs p q hp' hq'' hpq k e
/-- As many as are made, all empty. -/
theorem made_get (n p : Nat) (hp : p < n * 2) : (madeCells (Value.agg #[.slice none 0 0, .slice none 0 0]).cells (n * 2)).toList.getD p undef = .slice none 0 0 := by
  simp [madeCells, hp, Value.cells]
  rcases Nat.mod_two_eq_zero_or_one p with e | e <;> simp [e]
theorem owt_made {base n : Nat} (h : w.ownsRow base 38 2 v n (madeCells (Value.agg #[.slice none 0 0, .slice none 0 0]).cells (n * 2)).toList) (hB : ∀ k, v.ownBlock = some k → B k) : OwT w B v (List.replicate n ⟨[], []⟩) := by
  have hlen := h.1
  have hnn : ∀ p, p < n * 2 → ∀ k, ((madeCells (Value.agg #[.slice none 0 0, .slice none 0 0]).cells (n * 2)).toList.getD p undef).ownBlock ≠ some k := fun p hp k e => by rw [made_get n p hp] at e; simp [Value.ownBlock] at e
  refine ⟨_, ?_, by simpa using hlen, fun j hj => ?_, hB, fun p hp k e => absurd e (hnn p (by omega) k), fun p q hp hq hpq k e => absurd e (hnn p (by omega) k)⟩
  · rw [List.length_replicate]
    refine ⟨h.1, ?_⟩
    rcases h.2 with h | ⟨g, cap, cur, e, hb', r⟩
    · exact .inl h
    · exact .inr ⟨g, cap, cur, e, Nat.zero_le _, r⟩
  · have hj' : j < n := by simpa using hj
    rw [made_get n _ (by omega), made_get n _ (by omega)]
    simp only [List.getElem_replicate]
    exact ⟨ownP_nil _ _, Li.Own.nil _ _⟩
/-- As far as k the places hold what they shall, behind it nothing. -/
def part (ts : List Tr.T) (k : Nat) : List Tr.T := ts.take k ++ List.replicate (ts.length - k) ⟨[], []⟩
theorem part_length (ts : List Tr.T) (k : Nat) (h : k ≤ ts.length) : (part ts k).length = ts.length := by simp [part]; omega
theorem part_zero (ts : List Tr.T) : part ts 0 = List.replicate ts.length ⟨[], []⟩ := by simp [part]
theorem part_all (ts : List Tr.T) : part ts ts.length = ts := by simp [part]
theorem part_set (ts : List Tr.T) (k : Nat) (h : k < ts.length) : (part ts k).set k ts[k] = part ts (k + 1) := by
  unfold part
  apply List.ext_getElem?
  intro i
  rw [List.getElem?_set]
  by_cases h1 : k = i
  · subst h1
    rw [if_pos rfl, if_pos (by simp; omega), List.getElem?_append_left (by simp; omega)]
    simp [h]
  · rw [if_neg h1]
    by_cases h2 : i < k
    · rw [List.getElem?_append_left (by simp; omega), List.getElem?_append_left (by simp; omega)]
      simp [h2, show i < k + 1 by omega]
    · rw [List.getElem?_append_right (by simp; omega), List.getElem?_append_right (by simp; omega)]
      simp only [List.length_take, List.getElem?_replicate]
      by_cases h3 : i < ts.length
      · rw [if_pos (by omega), if_pos (by omega)]
      · rw [if_neg (by omega), if_neg (by omega)]
theorem info_tree' : (Try.prog.info? 38).map (fun i => (i.zero, i.size, i.bytes)) = some (some (.agg #[.slice none 0 0, .slice none 0 0]), 2, 48) := by kernel_rfl
end Go.Proofs.Ytcadgeepknhmfaa.To
