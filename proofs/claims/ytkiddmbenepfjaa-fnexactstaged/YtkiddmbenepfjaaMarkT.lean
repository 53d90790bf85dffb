/-
  Marks in a table of the call's own: what stands in it afterwards; nothing outside its blocks turns; whether the marks are held.
-/
import Derived.Test.YtkiddmbenepfjaaMark
import Derived.Test.YtkiddmbenepfjaaTabX
namespace Go.Proofs.Ytkiddmbenepfjaa.Mk
set_option maxRecDepth 100000
open Go.RowKit
open Go.Proofs.Ytkiddmbenepfjaa.Tb
open Go.Proofs.Ytkiddmbenepfjaa.Li (ret_bool grown_refl grown_trans grown_set below_none)

/-- Outside the blocks lo .. hi - 1 nothing that was there has turned. -/
structure Win (lo hi : Nat) (w w' : World) : Prop where
  os : w'.os = w.os
  tape : w'.tape = w.tape
  output : w'.output = w.output
  size : w.heap.size ≤ w'.heap.size
  block : ∀ k, k < w.heap.size → (k < lo ∨ hi ≤ k) → w'.heap[k]? = w.heap[k]?
theorem Win.refl (lo hi : Nat) (w : World) : Win lo hi w w := ⟨rfl, rfl, rfl, Nat.le_refl _, fun _ _ _ => rfl⟩
theorem Win.trans {lo hi : Nat} {a b c : World} (h : Win lo hi a b) (h' : Win lo hi b c) : Win lo hi a c :=
  ⟨h'.os.trans h.os, h'.tape.trans h.tape, h'.output.trans h.output, Nat.le_trans h.size h'.size, fun k hk ho => (h'.block k (Nat.lt_of_lt_of_le hk h.size) ho).trans (h.block k hk ho)⟩
theorem Win.grown {lo hi : Nat} {a w w' : World} {row : Option Nat} (h : Win lo hi a w) (hg : w.grownBy w' row) (hr : ∀ k, row = some k → lo ≤ k ∧ k < hi) : Win lo hi a w' :=
  h.trans ⟨hg.os, hg.tape, hg.output, hg.size, fun k hk ho => hg.block k hk (fun e => by have := hr k e.symm; omega)⟩
theorem Win.below {lo hi : Nat} {a w w' : World} (h : Win lo hi a w) (hB : Below w.heap.size w w') : Win lo hi a w' :=
  h.trans ⟨hB.os, hB.tape, hB.output, hB.size, fun k hk _ => hB.block k hk⟩
theorem Win.toBelow {lo hi : Nat} {w w' : World} (h : Win lo hi w w') (hlo : lo ≤ w.heap.size) : Below lo w w' :=
  ⟨h.os, h.tape, h.output, h.size, fun k hk => h.block k (by omega) (.inl hk)⟩
theorem Win.own {lo hi B : Nat} {w w' : World} {v : Value} {xs : List Int} (h : Win lo hi w w') (o : Li.Own w B v xs) (hB : ∀ k, v.ownBlock = some k → k < lo ∨ hi ≤ k) : Li.Own w' B v xs :=
  ownsRow_at o fun k e => h.block k (o.ge k e).2 (hB k e)
theorem Win.sown {lo hi B : Nat} {w w' : World} {v : Value} {xs : List ByteArray} (h : Win lo hi w w') (o : Ls.Own w B v xs) (hB : ∀ k, v.ownBlock = some k → k < lo ∨ hi ≤ k) : Ls.Own w' B v xs :=
  ownsRow_at o fun k e => h.block k (o.ge k e).2 (hB k e)
/-- A row of the table is written over: its numbers, its words, its label. -/
theorem own_marked {wr w1 w2 : World} {lo hi g i cap : Nat} {v : Value} {xs : List Value} {V0 V1 : Nat → Value} {l : List Row} (hil : i < l.length)
    (hg : ∀ k, v.ownBlock = some k → k = g ∧ k < hi) (hvg : v.ownBlock = some g) (hown : wr.ownsRow lo 45 3 v l.length xs) (hn : Nest wr lo g V0 V1 xs l l.length)
    (hh : ∀ i, i < l.length → (∀ b, (V0 i).ownBlock = some b → b < hi) ∧ (∀ b, (V1 i).ownBlock = some b → b < hi))
    {ys : List Int} {zs : List ByteArray} {lab : Int} (o0 : Li.Own w1 lo (V0 i) ys) (g1 : wr.grownBy w1 (V0 i).ownBlock) (o1 : Ls.Own w2 lo (V1 i) zs) (g2 : w1.grownBy w2 (V1 i).ownBlock)
    (hv : v = .slice (some ⟨g, 0, none⟩) l.length cap) :
    OwnT (w2.setCell ⟨g, i * 3 + 2, none⟩ (.int .i64 lab)) lo hi v (l.set i ⟨ys, zs, lab⟩) := by
  subst hv
  obtain ⟨hcells, hsp1, hsp2⟩ := hn
  have ga : ∀ (u : Value), u.ownBlock ≠ some g → ∀ {w w' : World} (k : Nat), w.grownBy w' u.ownBlock → k = g → k < w.heap.size → w'.heap[k]? = w.heap[k]? := fun u hu w w' k hgr e hk => hgr.block k hk (by subst e; exact fun e' => hu e'.symm)
  have hgl : g < wr.heap.size := (World.ownsRow.lt hown g rfl).2
  have own1 : w1.ownsRow lo 45 3 (.slice (some ⟨g, 0, none⟩) l.length cap) l.length xs := ownsRow_at hown fun k e => ga _ (hsp1 i hil).1 k g1 (hg k e).1 (World.ownsRow.lt hown k e).2
  have own2 : w2.ownsRow lo 45 3 (.slice (some ⟨g, 0, none⟩) l.length cap) l.length xs := ownsRow_at own1 fun k e => ga _ (hsp1 i hil).2 k g2 (hg k e).1 (World.ownsRow.lt own1 k e).2
  have hxl := hown.1
  have st := (World.ownsRow.stored own2 (i * 3 + 2) (.int .i64 lab)).1
  have off : ∀ {w w' : World} (u u' : Value) (k : Nat), w.grownBy w' u'.ownBlock → apart u u' → u.ownBlock = some k → k < w.heap.size → w'.heap[k]? = w.heap[k]? := fun u u' k hgr ha e hk => hgr.block k hk (by
    rcases ha with h | h
    · rw [e] at h; cases h
    · rw [← e]; exact h)
  have off' : ∀ {w w' : World} (u u' : Value) (k : Nat), w.grownBy w' u'.ownBlock → apart u' u → u.ownBlock = some k → k < w.heap.size → w'.heap[k]? = w.heap[k]? := fun u u' k hgr ha e hk => hgr.block k hk (by
    rcases ha with h | h
    · rw [h]; simp
    · rw [← e]; exact fun e' => h e'.symm)
  have tail : ∀ (u : Value) (k : Nat), u.ownBlock ≠ some g → u.ownBlock = some k → (w2.setCell ⟨g, i * 3 + 2, none⟩ (.int .i64 lab)).heap[k]? = w2.heap[k]? := fun u k hu e => Below.heap_setCell _ _ _ _ (by simp only; rintro rfl; exact hu e)
  refine ⟨g, xs.set (i * 3 + 2) (.int .i64 lab), V0, V1, fun k e => hg k e, ?_, ⟨fun j hj hjk => ?_, ?_⟩, ?_⟩
  · rw [List.length_set]; exact st
  · have hj' : j < l.length := by simpa using hj
    by_cases e : j = i
    · subst e
      obtain ⟨⟨c0, c1, c2⟩, _, _⟩ := hcells j hj' hj'
      simp only [List.getElem_set_self]
      refine ⟨⟨?_, ?_, ?_⟩, ?_, ?_⟩
      · rw [List.getElem?_set, if_neg (by omega)]; exact c0
      · rw [List.getElem?_set, if_neg (by omega)]; exact c1
      · rw [List.getElem?_set, if_pos rfl, if_pos (by omega)]
      · have o0' : Li.Own w2 lo (V0 j) ys := ownsRow_at o0 fun k e => off _ _ k g2 (hsp2 j j hj' hj').2 e (o0.ge k e).2
        exact ownsRow_at o0' fun k e => tail _ k (hsp1 j hj').1 e
      · exact ownsRow_at o1 fun k e => tail _ k (hsp1 j hj').2 e
    · obtain ⟨⟨c0, c1, c2⟩, p0, p1⟩ := hcells j hj' hj'
      have el : (l.set i ⟨ys, zs, lab⟩)[j] = l[j] := List.getElem_set_ne (fun h => e h.symm) _
      rw [el]
      refine ⟨⟨?_, ?_, ?_⟩, ?_, ?_⟩
      · rw [List.getElem?_set, if_neg (by omega)]; exact c0
      · rw [List.getElem?_set, if_neg (by omega)]; exact c1
      · rw [List.getElem?_set, if_neg (by omega)]; exact c2
      · have q1 : Li.Own w1 lo (V0 j) l[j].nums := ownsRow_at p0 fun k ek => off _ _ k g1 ((hsp2 j i hj' hil).1 e).1 ek (p0.ge k ek).2
        have q2 : Li.Own w2 lo (V0 j) l[j].nums := ownsRow_at q1 fun k ek => off _ _ k g2 (hsp2 j i hj' hil).2 ek (q1.ge k ek).2
        exact ownsRow_at q2 fun k ek => tail _ k (hsp1 j hj').1 ek
      · have q1 : Ls.Own w1 lo (V1 j) l[j].cats := ownsRow_at p1 fun k ek => off' _ _ k g1 (hsp2 i j hil hj').2 ek (p1.ge k ek).2
        have q2 : Ls.Own w2 lo (V1 j) l[j].cats := ownsRow_at q1 fun k ek => off _ _ k g2 ((hsp2 j i hj' hil).1 e).2 ek (q1.ge k ek).2
        exact ownsRow_at q2 fun k ek => tail _ k (hsp1 j hj').2 ek
  · rw [List.length_set]; exact ⟨hsp1, hsp2⟩
  · rw [List.length_set]; exact hh
def wt (r : Row) : Nat := r.nums.length + r.cats.length + 1
def wts : List Row → Nat
  | [] => 0
  | r :: rs => wt r + wts rs
theorem wts_take (rs : List Row) (k : Nat) (h : k < rs.length) : wts (rs.take (k + 1)) = wts (rs.take k) + wt rs[k] := by
  induction rs generalizing k with
  | nil => simp at h
  | cons s r ih =>
    cases k with
    | zero => simp [wts]
    | succ k =>
      simp only [List.take_succ_cons, wts, List.getElem_cons_succ]
      rw [ih k (by simpa using h)]
      omega
theorem wts_le (rs : List Row) : wts rs ≤ rs.length + szR rs := by
  induction rs with
  | nil => simp [wts]
  | cons r rs ih => simp only [wts, wt, szR, Row.sz, List.length_cons]; omega
theorem wts_pre (rs : List Row) (k : Nat) : wts (rs.take k) ≤ wts rs := by
  induction rs generalizing k with
  | nil => simp
  | cons s r ih =>
    cases k with
    | zero => simp [wts]
    | succ k => simp only [List.take_succ_cons, wts]; have := ih k; omega
def mrow (k : Nat) (r : Row) : Row := ⟨Li.marks k r.nums.length, mtexts (k + r.nums.length) r.cats.length, ((k + r.nums.length + r.cats.length : Nat) : Int)⟩
def mrows (k : Nat) (rs : List Row) : List Row := rs.mapIdx fun j r => mrow (k + wts (rs.take j)) r
theorem mrows_length (k : Nat) (rs : List Row) : (mrows k rs).length = rs.length := by simp [mrows]
theorem mrows_get (k : Nat) (rs : List Row) (j : Nat) (h : j < (mrows k rs).length) : (mrows k rs)[j] = mrow (k + wts (rs.take j)) (rs[j]'(by rwa [mrows_length] at h)) := by simp [mrows]
/-- As far as i the rows are marked, from i on they are as they were. -/
def Half (k : Nat) (rs l : List Row) (i : Nat) : Prop := l.length = rs.length ∧ (∀ j, j < i → l[j]? = (mrows k rs)[j]?) ∧ ∀ j, i ≤ j → l[j]? = rs[j]?
theorem half_set {k : Nat} {rs l : List Row} {i : Nat} (h : Half k rs l i) (hi : i < rs.length) : Half k rs (l.set i (mrow (k + wts (rs.take i)) rs[i])) (i + 1) := by
  obtain ⟨hl, h1, h2⟩ := h
  refine ⟨by simpa using hl, fun j hj => ?_, fun j hj => ?_⟩
  · rw [List.getElem?_set]
    split
    · rename_i e; subst e
      rw [if_pos (by omega), List.getElem?_eq_getElem (by rw [mrows_length]; omega), mrows_get]
    · exact h1 j (by omega)
  · rw [List.getElem?_set, if_neg (by omega)]; exact h2 j (by omega)
theorem half_end {k : Nat} {rs l : List Row} {i : Nat} (h : Half k rs l i) (hi : ¬ i < rs.length) : l = mrows k rs := by
  apply List.ext_getElem?
  intro j
  by_cases hj : j < rs.length
  · exact h.2.1 j (by omega)
  · rw [List.getElem?_eq_none (by have := h.1; omega), List.getElem?_eq_none (by rw [mrows_length]; omega)]
theorem half_at {k : Nat} {rs l : List Row} {i : Nat} (h : Half k rs l i) (hi : i < rs.length) (hil : i < l.length) : l[i] = rs[i] := by
  have := h.2.2 i (Nat.le_refl _)
  rw [List.getElem?_eq_getElem hil, List.getElem?_eq_getElem hi] at this
  exact Option.some.inj this
end Go.Proofs.Ytkiddmbenepfjaa.Mk
