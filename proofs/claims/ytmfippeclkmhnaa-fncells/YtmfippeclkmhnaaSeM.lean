/-
  Rows as the laws and both texts hold them: what is read, what may be written, where it lies; contracts of the laws' own helpers over lists of lists.
-/
import Derived.Test.YtmfippeclkmhnaaSea
import Derived.Test.YtmfippeclkmhnaaTrT
namespace Go.Proofs.Ytmfippeclkmhnaa.Sv
open Go.RowKit
open Go.Proofs.Ytmfippeclkmhnaa.Li (iv ret_bool ret_int below_none IsL)
open Go.Proofs.Ytmfippeclkmhnaa.Tb (sub sub_yes sub_no)
open Go.Proofs.Ytmfippeclkmhnaa.Tm (pv)
set_option linter.unusedVariables false

/-- What was written lies in blocks of B alone. -/
structure Fr (B : Nat → Prop) (w w1 : World) : Prop where
  os : w1.os = w.os
  tape : w1.tape = w.tape
  output : w1.output = w.output
  size : w.heap.size ≤ w1.heap.size
  block : ∀ k, k < w.heap.size → ¬ B k → w1.heap[k]? = w.heap[k]?
theorem Fr.refl (B : Nat → Prop) (w : World) : Fr B w w := ⟨rfl, rfl, rfl, Nat.le_refl _, fun _ _ _ => rfl⟩
theorem Fr.trans {B : Nat → Prop} {w w1 w2 : World} (h : Fr B w w1) (h' : Fr B w1 w2) : Fr B w w2 :=
  ⟨h'.os.trans h.os, h'.tape.trans h.tape, h'.output.trans h.output, Nat.le_trans h.size h'.size, fun k hk hb => (h'.block k (Nat.lt_of_lt_of_le hk h.size) hb).trans (h.block k hk hb)⟩
theorem Fr.mono {B B' : Nat → Prop} {w w1 : World} (h : Fr B w w1) (hb : ∀ k, B k → B' k) : Fr B' w w1 := ⟨h.os, h.tape, h.output, h.size, fun k hk hn => h.block k hk (fun e => hn (hb k e))⟩
theorem fr_below {B : Nat → Prop} {w w1 : World} (h : Below w.heap.size w w1) : Fr B w w1 := ⟨h.os, h.tape, h.output, h.size, fun k hk _ => h.block k hk⟩
theorem fr_grown {B : Nat → Prop} {w w1 : World} {g : Nat} (h : w.grownBy w1 (some g)) (hg : B g) : Fr B w w1 := ⟨h.os, h.tape, h.output, h.size, fun k hk hn => h.block k hk (fun e => by cases e; exact hn hg)⟩
theorem Fr.bel {B : Nat → Prop} {w w1 : World} {n : Nat} (h : Fr B w w1) (hb : ∀ k, B k → n ≤ k) (hn : n ≤ w.heap.size) : Below n w w1 := ⟨h.os, h.tape, h.output, h.size, fun k hk => h.block k (by omega) (fun e => by have := hb k e; omega)⟩

/-- Cells that may be written, from offset off of block g on. -/
def Wr (w : World) (g off : Nat) (vs : List Value) : Prop := g < w.heap.size ∧ ∀ j (hj : j < vs.length), w.cell? ⟨g, off + j, none⟩ = some vs[j] ∧ w.frozen? ⟨g, off + j, none⟩ = false
theorem Wr.keptAt {w w1 : World} {g off : Nat} {vs : List Value} (h : Wr w g off vs) (hs : w.heap.size ≤ w1.heap.size) (hb : w1.heap[g]? = w.heap[g]?) : Wr w1 g off vs := by
  refine ⟨by have := h.1; omega, fun j hj => ⟨?_, ?_⟩⟩
  · rw [World.cell?_of_block (w := w) (a := ⟨g, off + j, none⟩) hb]; exact (h.2 j hj).1
  · rw [World.frozen?_of_block (w := w) (a := ⟨g, off + j, none⟩) hb]; exact (h.2 j hj).2
theorem Wr.set {w : World} {g off : Nat} {vs : List Value} (h : Wr w g off vs) (j : Nat) (hj : j < vs.length) (v : Value) : Wr (w.setCell ⟨g, off + j, none⟩ v) g off (vs.set j v) := by
  refine ⟨by simpa [World.setCell] using h.1, fun i hi => ⟨?_, ?_⟩⟩
  · have hi' : i < vs.length := by simpa using hi
    by_cases e : i = j
    · subst e
      rw [World.cell?_setCell_same _ _ _ (h.2 i hj).1]
      simp
    · rw [World.cell?_setCell_other _ _ _ _ (by intro e'; injection e' with _ e'; omega), (h.2 i hi').1]
      rw [List.getElem_set_ne (by omega)]
  · have hi' : i < vs.length := by simpa using hi
    rw [World.frozen?_setCell]; exact (h.2 i hi').2
theorem own_wr {w : World} {base g n cap : Nat} {xs : List Int} (h : Li.Own w base (.slice (some ⟨g, 0, none⟩) n cap) xs) (hn : xs.length = n) : Wr w g 0 (iv xs) := by
  refine ⟨(h.ge g rfl).2, fun j hj => ?_⟩
  have hj' : j < xs.length := by simpa [iv] using hj
  rw [Nat.zero_add]
  refine ⟨?_, h.frozen hn j⟩
  rw [h.cell hn j hj']
  simp [iv]
/-- A slice of ints that may be written, in a block of B (if it is not empty). -/
def OwI (w : World) (B : Nat → Prop) (v : Value) (xs : List Int) : Prop := ∃ a cap, v = .slice a xs.length cap ∧ (xs = [] ∨ ∃ g off, a = some ⟨g, off, none⟩ ∧ B g ∧ Wr w g off (iv xs))
theorem OwI.isl {w : World} {B : Nat → Prop} {v : Value} {xs : List Int} (h : OwI w B v xs) : ∃ a cap, v = .slice a xs.length cap ∧ IsL w a xs := by
  obtain ⟨a, cap, e, h⟩ := h
  refine ⟨a, cap, e, ?_⟩
  rcases h with h | ⟨g, off, rfl, _, hw⟩
  · exact .inl h
  · refine .inr ⟨g, off, rfl, hw.1, fun j hj => ?_⟩
    have := (hw.2 j (by simpa [iv] using hj)).1
    simpa [iv] using this
theorem OwI.fr {w w1 : World} {B B' : Nat → Prop} {v : Value} {xs : List Int} (h : OwI w B v xs) (hf : Fr B' w w1) (hd : ∀ k, B k → ¬ B' k) : OwI w1 B v xs := by
  obtain ⟨a, cap, e, h⟩ := h
  refine ⟨a, cap, e, ?_⟩
  rcases h with h | ⟨g, off, ha, hb, hw⟩
  · exact .inl h
  · exact .inr ⟨g, off, ha, hb, hw.keptAt hf.size (hf.block g hw.1 (hd g hb))⟩
theorem OwI.below {w w1 : World} {B : Nat → Prop} {v : Value} {xs : List Int} (h : OwI w B v xs) (hb : Below w.heap.size w w1) : OwI w1 B v xs := h.fr (fr_below (B := fun _ => False) hb) (fun _ _ e => e)
theorem OwI.mono {w : World} {B B' : Nat → Prop} {v : Value} {xs : List Int} (h : OwI w B v xs) (hb : ∀ k, B k → B' k) : OwI w B' v xs := by
  obtain ⟨a, cap, e, h⟩ := h
  refine ⟨a, cap, e, ?_⟩
  rcases h with h | ⟨g, off, ha, hg, hw⟩
  · exact .inl h
  · exact .inr ⟨g, off, ha, hb g hg, hw⟩
theorem owi_of {w : World} {base g n cap : Nat} {B : Nat → Prop} {xs : List Int} (h : Li.Own w base (.slice (some ⟨g, 0, none⟩) n cap) xs) (hn : xs.length = n) (hb : B g) : OwI w B (.slice (some ⟨g, 0, none⟩) n cap) xs := by
  subst hn
  exact ⟨_, cap, rfl, .inr ⟨g, 0, rfl, hb, own_wr h rfl⟩⟩
theorem owi_own {w : World} {base : Nat} {v : Value} {xs : List Int} (h : Li.Own w base v xs) : OwI w (fun k => base ≤ k ∧ k < w.heap.size) v xs := by
  have h' := h
  rcases h.2 with ⟨rfl, h0⟩ | ⟨g, cap, cur, rfl, hb, hh, _⟩
  · obtain rfl := List.length_eq_zero_iff.1 h0
    exact ⟨none, 0, rfl, .inl rfl⟩
  · exact owi_of h' rfl ⟨hb, (h'.ge g rfl).2⟩

/-- Lists of ints one behind the other: what is read. -/
def IsV (w : World) (a : Option Addr) (xs : List (List Int)) : Prop :=
  xs = [] ∨ ∃ b off, a = some ⟨b, off, none⟩ ∧ b < w.heap.size ∧ ∀ j (hj : j < xs.length), ∃ a' c', w.cell? ⟨b, off + j, none⟩ = some (.slice a' xs[j].length c') ∧ IsL w a' xs[j]
theorem IsV.below {w w1 : World} {a : Option Addr} {xs : List (List Int)} (h : IsV w a xs) (hB : Below w.heap.size w w1) : IsV w1 a xs := by
  rcases h with h | ⟨b, off, rfl, hb, hc⟩
  · exact .inl h
  · refine .inr ⟨b, off, rfl, Nat.lt_of_lt_of_le hb hB.size, fun j hj => ?_⟩
    obtain ⟨a', c', hx, hi⟩ := hc j hj
    exact ⟨a', c', (hB.cell (by exact hb)).trans hx, hi.below hB⟩
theorem IsV.drewN {w : World} {a : Option Addr} {xs : List (List Int)} (h : IsV w a xs) (n : Nat) : IsV (w.drewN n) a xs := h
def tot : List (List Int) → Nat
  | [] => 0
  | x :: xs => x.length + tot xs
theorem tot_take (xs : List (List Int)) (k : Nat) (h : k < xs.length) : tot (xs.take (k + 1)) = tot (xs.take k) + xs[k].length := by
  induction xs generalizing k with
  | nil => simp at h
  | cons s r ih =>
    cases k with
    | zero => simp [tot]
    | succ k =>
      simp only [List.take_succ_cons, tot, List.getElem_cons_succ]
      rw [ih k (by simpa using h)]
      omega
theorem tot_le (xs : List (List Int)) (k : Nat) : tot (xs.take k) ≤ tot xs := by
  induction xs generalizing k with
  | nil => simp
  | cons s r ih =>
    cases k with
    | zero => simp [tot]
    | succ k => simp only [List.take_succ_cons, tot]; have := ih k; omega
theorem tot_at (xs : List (List Int)) (k : Nat) (h : k < xs.length) : xs[k].length ≤ tot xs := by
  have h1 := tot_take xs k h
  have h2 := tot_le xs (k + 1)
  omega
def FitsV (xs : List (List Int)) : Prop := xs.length ≤ 9223372036854775807 ∧ ∀ j (hj : j < xs.length), xs[j].length ≤ 9223372036854775807
/-- A variable: its cells. -/
theorem Wr.below {w w1 : World} {g off : Nat} {vs : List Value} (h : Wr w g off vs) (hb : Below w.heap.size w w1) : Wr w1 g off vs := h.keptAt hb.size (hb.block g h.1)
theorem Wr.alloc {w : World} {g off : Nat} {vs : List Value} (h : Wr w g off vs) (o : Obj) : Wr (w.alloc o) g off vs := h.below ((Below.refl _ _).alloc (Nat.le_refl _) _)
theorem Wr.setOther {w : World} {g off b o : Nat} {vs : List Value} {v : Value} (h : Wr w g off vs) (hne : ¬ g = b) : Wr (w.setCell ⟨b, o, none⟩ v) g off vs :=
  h.keptAt (by simp [World.setCell]) (Below.heap_setCell _ _ _ _ (fun e => hne (by simpa using e)))
theorem wr_new (w : World) (vs : List Value) (T : TypeId) : Wr (w.alloc (.cells vs.toArray T)) w.heap.size 0 vs :=
  ⟨by simp, fun j hj => ⟨by rw [Nat.zero_add]; simp [World.cell?_alloc_new, hj], by simp⟩⟩
theorem size_alloc (w : World) (o : Obj) : (w.alloc o).heap.size = w.heap.size + 1 := by simp
theorem wr1 {w : World} {b : Nat} {v0 : Value} (h : Wr w b 0 [v0]) : b < w.heap.size ∧ w.cell? ⟨b, 0, none⟩ = some v0 ∧ w.frozen? ⟨b, 0, none⟩ = false :=
  ⟨h.1, (h.2 0 (by simp)).1, (h.2 0 (by simp)).2⟩
theorem wr2 {w : World} {b : Nat} {v0 v1 : Value} (h : Wr w b 0 [v0, v1]) : b < w.heap.size ∧ (w.cell? ⟨b, 0, none⟩ = some v0 ∧ w.cell? ⟨b, 1, none⟩ = some v1) ∧ w.frozen? ⟨b, 0, none⟩ = false ∧ w.frozen? ⟨b, 1, none⟩ = false :=
  ⟨h.1, ⟨(h.2 0 (by simp)).1, (h.2 1 (by simp)).1⟩, (h.2 0 (by simp)).2, (h.2 1 (by simp)).2⟩
theorem wr5 {w : World} {b : Nat} {v0 v1 v2 v3 v4 : Value} (h : Wr w b 0 [v0, v1, v2, v3, v4]) :
    b < w.heap.size ∧ (w.cell? ⟨b, 0, none⟩ = some v0 ∧ w.cell? ⟨b, 1, none⟩ = some v1 ∧ w.cell? ⟨b, 2, none⟩ = some v2 ∧ w.cell? ⟨b, 3, none⟩ = some v3 ∧ w.cell? ⟨b, 4, none⟩ = some v4) ∧
    w.frozen? ⟨b, 0, none⟩ = false ∧ w.frozen? ⟨b, 1, none⟩ = false ∧ w.frozen? ⟨b, 2, none⟩ = false ∧ w.frozen? ⟨b, 3, none⟩ = false ∧ w.frozen? ⟨b, 4, none⟩ = false :=
  ⟨h.1, ⟨(h.2 0 (by simp)).1, (h.2 1 (by simp)).1, (h.2 2 (by simp)).1, (h.2 3 (by simp)).1, (h.2 4 (by simp)).1⟩, (h.2 0 (by simp)).2, (h.2 1 (by simp)).2, (h.2 2 (by simp)).2, (h.2 3 (by simp)).2, (h.2 4 (by simp)).2⟩
/-- One, two, three new variables, one behind the other. -/
theorem new1 (w : World) (vs : List Value) (T : TypeId) : ∃ W, w.alloc (.cells vs.toArray T) = W ∧ W.heap.size = w.heap.size + 1 ∧ Below w.heap.size w W ∧ Wr W w.heap.size 0 vs :=
  ⟨_, rfl, by simp, (Below.refl _ _).alloc (Nat.le_refl _) _, wr_new _ _ _⟩
theorem new2 (w : World) (vs us : List Value) (T U : TypeId) : ∃ W, (w.alloc (.cells vs.toArray T)).alloc (.cells us.toArray U) = W ∧ W.heap.size = w.heap.size + 2 ∧ Below w.heap.size w W ∧ Wr W w.heap.size 0 vs ∧ Wr W (w.heap.size + 1) 0 us := by
  refine ⟨_, rfl, by simp, ((Below.refl _ _).alloc (Nat.le_refl _) _).alloc (by simp) _, ?_, ?_⟩
  · exact (wr_new _ _ _).alloc _
  · have := wr_new (w.alloc (.cells vs.toArray T)) us U
    rwa [size_alloc] at this
theorem new3 (w : World) (vs us xs : List Value) (T U X : TypeId) : ∃ W, ((w.alloc (.cells vs.toArray T)).alloc (.cells us.toArray U)).alloc (.cells xs.toArray X) = W ∧ W.heap.size = w.heap.size + 3 ∧ Below w.heap.size w W ∧ Wr W w.heap.size 0 vs ∧ Wr W (w.heap.size + 1) 0 us ∧ Wr W (w.heap.size + 2) 0 xs := by
  refine ⟨_, rfl, by simp, (((Below.refl _ _).alloc (Nat.le_refl _) _).alloc (by simp) _).alloc (by simp; omega) _, ?_, ?_, ?_⟩
  · exact ((wr_new _ _ _).alloc _).alloc _
  · have := (wr_new (w.alloc (.cells vs.toArray T)) us U).alloc (.cells xs.toArray X)
    rwa [size_alloc] at this
  · have := wr_new ((w.alloc (.cells vs.toArray T)).alloc (.cells us.toArray U)) xs X
    rwa [size_alloc, size_alloc] at this

end Go.Proofs.Ytmfippeclkmhnaa.Sv
