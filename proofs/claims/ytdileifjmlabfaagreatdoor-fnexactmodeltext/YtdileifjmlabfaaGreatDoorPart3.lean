/-
  Contracts that the proof leans on, put together in the order in which they build.
-/
import Derived.Test.YtdileifjmlabfaaGreatDoorPart1
import Derived.Deep.RegionWith
import Derived.Test.YtdileifjmlabfaaGreatDoorPart2
import Derived.Deep.RegionHeld3
import Derived.Deep.RegionHeldLaw
/-
  Rows as the laws and both texts hold them: what is read, what may be written, where it lies; contracts of the laws' own helpers over lists of lists.
-/
namespace Go.Proofs.YtdileifjmlabfaaGreatDoor.Sv
open Go.RowKit
open Go.Proofs.YtdileifjmlabfaaGreatDoor.Li (iv ret_bool ret_int below_none IsL)
open Go.Proofs.YtdileifjmlabfaaGreatDoor.Tb (sub sub_yes sub_no)
set_option linter.unusedVariables false

/-- What was written lies in blocks of B alone. -/
structure Fr (B : Nat → Prop) (w w1 : World) : Prop where
  os : w1.os = w.os
  tape : w1.tape = w.tape
  output : w1.output = w.output
  size : w.heap.size ≤ w1.heap.size
  block : ∀ k, k < w.heap.size → ¬ B k → w1.heap[k]? = w.heap[k]?
theorem Fr.refl (B : Nat → Prop) (w : World) : Fr B w w := ⟨rfl, rfl, rfl, Nat.le_refl _, fun _ _ _ => rfl⟩
theorem Fr.trans {B : Nat → Prop} {w w1 w2 : World} (h : Fr B w w1) (h' : Fr B w1 w2) : Fr B w w2 :=
  ⟨h'.os.trans h.os, h'.tape.trans h.tape, h'.output.trans h.output, Nat.le_trans h.size h'.size, fun k hk hb => (h'.block k (Nat.lt_of_lt_of_le hk h.size) hb).trans (h.block k hk hb)⟩
theorem Fr.mono {B B' : Nat → Prop} {w w1 : World} (h : Fr B w w1) (hb : ∀ k, B k → B' k) : Fr B' w w1 := ⟨h.os, h.tape, h.output, h.size, fun k hk hn => h.block k hk (fun e => hn (hb k e))⟩
theorem fr_below {B : Nat → Prop} {w w1 : World} (h : Below w.heap.size w w1) : Fr B w w1 := ⟨h.os, h.tape, h.output, h.size, fun k hk _ => h.block k hk⟩
theorem fr_grown {B : Nat → Prop} {w w1 : World} {g : Nat} (h : w.grownBy w1 (some g)) (hg : B g) : Fr B w w1 := ⟨h.os, h.tape, h.output, h.size, fun k hk hn => h.block k hk (fun e => by cases e; exact hn hg)⟩
theorem Fr.bel {B : Nat → Prop} {w w1 : World} {n : Nat} (h : Fr B w w1) (hb : ∀ k, B k → n ≤ k) (hn : n ≤ w.heap.size) : Below n w w1 := ⟨h.os, h.tape, h.output, h.size, fun k hk => h.block k (by omega) (fun e => by have := hb k e; omega)⟩

/-- Cells that may be written, from offset off of block g on. -/
def Wr (w : World) (g off : Nat) (vs : List Value) : Prop := g < w.heap.size ∧ ∀ j (hj : j < vs.length), w.cell? ⟨g, off + j, none⟩ = some vs[j] ∧ w.frozen? ⟨g, off + j, none⟩ = false
theorem Wr.keptAt {w w1 : World} {g off : Nat} {vs : List Value} (h : Wr w g off vs) (hs : w.heap.size ≤ w1.heap.size) (hb : w1.heap[g]? = w.heap[g]?) : Wr w1 g off vs := by
  refine ⟨by have := h.1; omega, fun j hj => ⟨?_, ?_⟩⟩
  · rw [World.cell?_of_block (w := w) (a := ⟨g, off + j, none⟩) hb]; exact (h.2 j hj).1
  · rw [World.frozen?_of_block (w := w) (a := ⟨g, off + j, none⟩) hb]; exact (h.2 j hj).2
theorem Wr.set {w : World} {g off : Nat} {vs : List Value} (h : Wr w g off vs) (j : Nat) (hj : j < vs.length) (v : Value) : Wr (w.setCell ⟨g, off + j, none⟩ v) g off (vs.set j v) := by
  refine ⟨by simpa [World.setCell] using h.1, fun i hi => ⟨?_, ?_⟩⟩
  · have hi' : i < vs.length := by simpa using hi
    by_cases e : i = j
    · subst e
      rw [World.cell?_setCell_same _ _ _ (h.2 i hj).1]
      simp
    · rw [World.cell?_setCell_other _ _ _ _ (by intro e'; injection e' with _ e'; omega), (h.2 i hi').1]
      rw [List.getElem_set_ne (by omega)]
  · have hi' : i < vs.length := by simpa using hi
    rw [World.frozen?_setCell]; exact (h.2 i hi').2
theorem own_wr {w : World} {base g n cap : Nat} {xs : List Int} (h : Li.Own w base (.slice (some ⟨g, 0, none⟩) n cap) xs) (hn : xs.length = n) : Wr w g 0 (iv xs) := by
  refine ⟨(h.ge g rfl).2, fun j hj => ?_⟩
  have hj' : j < xs.length := by simpa [iv] using hj
  rw [Nat.zero_add]
  refine ⟨?_, h.frozen hn j⟩
  rw [h.cell hn j hj']
  simp [iv]
/-- A slice of ints that may be written, in a block of B (if it is not empty). -/
def OwI (w : World) (B : Nat → Prop) (v : Value) (xs : List Int) : Prop := ∃ a cap, v = .slice a xs.length cap ∧ (xs = [] ∨ ∃ g off, a = some ⟨g, off, none⟩ ∧ B g ∧ Wr w g off (iv xs))
theorem OwI.isl {w : World} {B : Nat → Prop} {v : Value} {xs : List Int} (h : OwI w B v xs) : ∃ a cap, v = .slice a xs.length cap ∧ IsL w a xs := by
  obtain ⟨a, cap, e, h⟩ := h
  refine ⟨a, cap, e, ?_⟩
  rcases h with h | ⟨g, off, rfl, _, hw⟩
  · exact .inl h
  · refine .inr ⟨g, off, rfl, hw.1, fun j hj => ?_⟩
    have := (hw.2 j (by simpa [iv] using hj)).1
    simpa [iv] using this
theorem OwI.fr {w w1 : World} {B B' : Nat → Prop} {v : Value} {xs : List Int} (h : OwI w B v xs) (hf : Fr B' w w1) (hd : ∀ k, B k → ¬ B' k) : OwI w1 B v xs := by
  obtain ⟨a, cap, e, h⟩ := h
  refine ⟨a, cap, e, ?_⟩
  rcases h with h | ⟨g, off, ha, hb, hw⟩
  · exact .inl h
  · exact .inr ⟨g, off, ha, hb, hw.keptAt hf.size (hf.block g hw.1 (hd g hb))⟩
theorem OwI.below {w w1 : World} {B : Nat → Prop} {v : Value} {xs : List Int} (h : OwI w B v xs) (hb : Below w.heap.size w w1) : OwI w1 B v xs := h.fr (fr_below (B := fun _ => False) hb) (fun _ _ e => e)
theorem OwI.mono {w : World} {B B' : Nat → Prop} {v : Value} {xs : List Int} (h : OwI w B v xs) (hb : ∀ k, B k → B' k) : OwI w B' v xs := by
  obtain ⟨a, cap, e, h⟩ := h
  refine ⟨a, cap, e, ?_⟩
  rcases h with h | ⟨g, off, ha, hg, hw⟩
  · exact .inl h
  · exact .inr ⟨g, off, ha, hb g hg, hw⟩
theorem owi_of {w : World} {base g n cap : Nat} {B : Nat → Prop} {xs : List Int} (h : Li.Own w base (.slice (some ⟨g, 0, none⟩) n cap) xs) (hn : xs.length = n) (hb : B g) : OwI w B (.slice (some ⟨g, 0, none⟩) n cap) xs := by
  subst hn
  exact ⟨_, cap, rfl, .inr ⟨g, 0, rfl, hb, own_wr h rfl⟩⟩
theorem owi_own {w : World} {base : Nat} {v : Value} {xs : List Int} (h : Li.Own w base v xs) : OwI w (fun k => base ≤ k ∧ k < w.heap.size) v xs := by
  have h' := h
  rcases h.2 with ⟨rfl, h0⟩ | ⟨g, cap, cur, rfl, hb, hh, _⟩
  · obtain rfl := List.length_eq_zero_iff.1 h0
    exact ⟨none, 0, rfl, .inl rfl⟩
  · exact owi_of h' rfl ⟨hb, (h'.ge g rfl).2⟩

/-- Lists of ints one behind the other: what is read. -/
def IsV (w : World) (a : Option Addr) (xs : List (List Int)) : Prop :=
  xs = [] ∨ ∃ b off, a = some ⟨b, off, none⟩ ∧ b < w.heap.size ∧ ∀ j (hj : j < xs.length), ∃ a' c', w.cell? ⟨b, off + j, none⟩ = some (.slice a' xs[j].length c') ∧ IsL w a' xs[j]
theorem IsV.below {w w1 : World} {a : Option Addr} {xs : List (List Int)} (h : IsV w a xs) (hB : Below w.heap.size w w1) : IsV w1 a xs := by
  rcases h with h | ⟨b, off, rfl, hb, hc⟩
  · exact .inl h
  · refine .inr ⟨b, off, rfl, Nat.lt_of_lt_of_le hb hB.size, fun j hj => ?_⟩
    obtain ⟨a', c', hx, hi⟩ := hc j hj
    exact ⟨a', c', (hB.cell (by exact hb)).trans hx, hi.below hB⟩
theorem IsV.drewN {w : World} {a : Option Addr} {xs : List (List Int)} (h : IsV w a xs) (n : Nat) : IsV (w.drewN n) a xs := h
def tot : List (List Int) → Nat
  | [] => 0
  | x :: xs => x.length + tot xs
theorem tot_take (xs : List (List Int)) (k : Nat) (h : k < xs.length) : tot (xs.take (k + 1)) = tot (xs.take k) + xs[k].length := by
  induction xs generalizing k with
  | nil => simp at h
  | cons s r ih =>
    cases k with
    | zero => simp [tot]
    | succ k =>
      simp only [List.take_succ_cons, tot, List.getElem_cons_succ]
      rw [ih k (by simpa using h)]
      omega
theorem tot_le (xs : List (List Int)) (k : Nat) : tot (xs.take k) ≤ tot xs := by
  induction xs generalizing k with
  | nil => simp
  | cons s r ih =>
    cases k with
    | zero => simp [tot]
    | succ k => simp only [List.take_succ_cons, tot]; have := ih k; omega
theorem tot_at (xs : List (List Int)) (k : Nat) (h : k < xs.length) : xs[k].length ≤ tot xs := by
  have h1 := tot_take xs k h
  have h2 := tot_le xs (k + 1)
  omega
def FitsV (xs : List (List Int)) : Prop := xs.length ≤ 9223372036854775807 ∧ ∀ j (hj : j < xs.length), xs[j].length ≤ 9223372036854775807
/-- A variable: its cells. -/
theorem Wr.below {w w1 : World} {g off : Nat} {vs : List Value} (h : Wr w g off vs) (hb : Below w.heap.size w w1) : Wr w1 g off vs := h.keptAt hb.size (hb.block g h.1)
theorem Wr.alloc {w : World} {g off : Nat} {vs : List Value} (h : Wr w g off vs) (o : Obj) : Wr (w.alloc o) g off vs := h.below ((Below.refl _ _).alloc (Nat.le_refl _) _)
theorem Wr.setOther {w : World} {g off b o : Nat} {vs : List Value} {v : Value} (h : Wr w g off vs) (hne : ¬ g = b) : Wr (w.setCell ⟨b, o, none⟩ v) g off vs :=
  h.keptAt (by simp [World.setCell]) (Below.heap_setCell _ _ _ _ (fun e => hne (by simpa using e)))
theorem wr_new (w : World) (vs : List Value) (T : TypeId) : Wr (w.alloc (.cells vs.toArray T)) w.heap.size 0 vs :=
  ⟨by simp, fun j hj => ⟨by rw [Nat.zero_add]; simp [World.cell?_alloc_new, hj], by simp⟩⟩
theorem size_alloc (w : World) (o : Obj) : (w.alloc o).heap.size = w.heap.size + 1 := by simp
theorem wr1 {w : World} {b : Nat} {v0 : Value} (h : Wr w b 0 [v0]) : b < w.heap.size ∧ w.cell? ⟨b, 0, none⟩ = some v0 ∧ w.frozen? ⟨b, 0, none⟩ = false :=
  ⟨h.1, (h.2 0 (by simp)).1, (h.2 0 (by simp)).2⟩
theorem wr2 {w : World} {b : Nat} {v0 v1 : Value} (h : Wr w b 0 [v0, v1]) : b < w.heap.size ∧ (w.cell? ⟨b, 0, none⟩ = some v0 ∧ w.cell? ⟨b, 1, none⟩ = some v1) ∧ w.frozen? ⟨b, 0, none⟩ = false ∧ w.frozen? ⟨b, 1, none⟩ = false :=
  ⟨h.1, ⟨(h.2 0 (by simp)).1, (h.2 1 (by simp)).1⟩, (h.2 0 (by simp)).2, (h.2 1 (by simp)).2⟩
theorem wr5 {w : World} {b : Nat} {v0 v1 v2 v3 v4 : Value} (h : Wr w b 0 [v0, v1, v2, v3, v4]) :
    b < w.heap.size ∧ (w.cell? ⟨b, 0, none⟩ = some v0 ∧ w.cell? ⟨b, 1, none⟩ = some v1 ∧ w.cell? ⟨b, 2, none⟩ = some v2 ∧ w.cell? ⟨b, 3, none⟩ = some v3 ∧ w.cell? ⟨b, 4, none⟩ = some v4) ∧
    w.frozen? ⟨b, 0, none⟩ = false ∧ w.frozen? ⟨b, 1, none⟩ = false ∧ w.frozen? ⟨b, 2, none⟩ = false ∧ w.frozen? ⟨b, 3, none⟩ = false ∧ w.frozen? ⟨b, 4, none⟩ = false :=
  ⟨h.1, ⟨(h.2 0 (by simp)).1, (h.2 1 (by simp)).1, (h.2 2 (by simp)).1, (h.2 3 (by simp)).1, (h.2 4 (by simp)).1⟩, (h.2 0 (by simp)).2, (h.2 1 (by simp)).2, (h.2 2 (by simp)).2, (h.2 3 (by simp)).2, (h.2 4 (by simp)).2⟩
/-- One, two, three new variables, one behind the other. -/
theorem new1 (w : World) (vs : List Value) (T : TypeId) : ∃ W, w.alloc (.cells vs.toArray T) = W ∧ W.heap.size = w.heap.size + 1 ∧ Below w.heap.size w W ∧ Wr W w.heap.size 0 vs :=
  ⟨_, rfl, by simp, (Below.refl _ _).alloc (Nat.le_refl _) _, wr_new _ _ _⟩
theorem new2 (w : World) (vs us : List Value) (T U : TypeId) : ∃ W, (w.alloc (.cells vs.toArray T)).alloc (.cells us.toArray U) = W ∧ W.heap.size = w.heap.size + 2 ∧ Below w.heap.size w W ∧ Wr W w.heap.size 0 vs ∧ Wr W (w.heap.size + 1) 0 us := by
  refine ⟨_, rfl, by simp, ((Below.refl _ _).alloc (Nat.le_refl _) _).alloc (by simp) _, ?_, ?_⟩
  · exact (wr_new _ _ _).alloc _
  · have := wr_new (w.alloc (.cells vs.toArray T)) us U
    rwa [size_alloc] at this
theorem new3 (w : World) (vs us xs : List Value) (T U X : TypeId) : ∃ W, ((w.alloc (.cells vs.toArray T)).alloc (.cells us.toArray U)).alloc (.cells xs.toArray X) = W ∧ W.heap.size = w.heap.size + 3 ∧ Below w.heap.size w W ∧ Wr W w.heap.size 0 vs ∧ Wr W (w.heap.size + 1) 0 us ∧ Wr W (w.heap.size + 2) 0 xs := by
  refine ⟨_, rfl, by simp, (((Below.refl _ _).alloc (Nat.le_refl _) _).alloc (by simp) _).alloc (by simp; omega) _, ?_, ?_, ?_⟩
  · exact ((wr_new _ _ _).alloc _).alloc _
  · have := (wr_new (w.alloc (.cells vs.toArray T)) us U).alloc (.cells xs.toArray X)
    rwa [size_alloc] at this
  · have := wr_new ((w.alloc (.cells vs.toArray T)).alloc (.cells us.toArray U)) xs X
    rwa [size_alloc, size_alloc] at this

end Go.Proofs.YtdileifjmlabfaaGreatDoor.Sv
/-
  Tables of words and their numbers (CtrTab), one behind the other: what is read, what may be written; contracts of the laws' own helpers over them.
-/
namespace Go.Proofs.YtdileifjmlabfaaGreatDoor.Kt
set_option maxRecDepth 20000
open Go.RowKit
open Go.Proofs.YtdileifjmlabfaaGreatDoor.Tb (ownsRow_at)
open Go.Proofs.YtdileifjmlabfaaGreatDoor.Sv (Fr fr_below)
open Go.Proofs.YtdileifjmlabfaaGreatDoor.Mk (mtexts mtexts_length)
open Go.Proofs.YtdileifjmlabfaaGreatDoor.Li (marks marks_length)
set_option linter.unusedVariables false

/-- Words, and a number for each. -/
structure Kv where
  ws : List ByteArray
  vs : List Int
def ktot : List Kv → Nat
  | [] => 0
  | t :: ts => t.ws.length + t.vs.length + ktot ts
theorem ktot_take (ts : List Kv) (k : Nat) (h : k < ts.length) : ktot (ts.take (k + 1)) = ktot (ts.take k) + (ts[k].ws.length + ts[k].vs.length) := by
  induction ts generalizing k with
  | nil => simp at h
  | cons s r ih =>
    cases k with
    | zero => simp [ktot]
    | succ k =>
      simp only [List.take_succ_cons, ktot, List.getElem_cons_succ]
      rw [ih k (by simpa using h)]
      omega
theorem ktot_le (ts : List Kv) (k : Nat) : ktot (ts.take k) ≤ ktot ts := by
  induction ts generalizing k with
  | nil => simp
  | cons s r ih =>
    cases k with
    | zero => simp [ktot]
    | succ k => simp only [List.take_succ_cons, ktot]; have := ih k; omega
theorem ktot_at (ts : List Kv) (k : Nat) (h : k < ts.length) : ts[k].ws.length + ts[k].vs.length ≤ ktot ts := by
  have h1 := ktot_take ts k h
  have h2 := ktot_le ts (k + 1)
  omega
/-- What is read of them. -/
def IsK (w : World) (a : Option Addr) (ts : List Kv) : Prop :=
  ts = [] ∨ ∃ b off, a = some ⟨b, off, none⟩ ∧ b < w.heap.size ∧ ∀ j (hj : j < ts.length), ∃ a0 c0 a1 c1, (w.cell? ⟨b, off + j * 2, none⟩ = some (.slice a0 ts[j].ws.length c0) ∧ w.cell? ⟨b, off + j * 2 + 1, none⟩ = some (.slice a1 ts[j].vs.length c1)) ∧ Ls.IsS w a0 ts[j].ws ∧ Li.IsL w a1 ts[j].vs
theorem IsK.below {w w1 : World} {a : Option Addr} {ts : List Kv} (h : IsK w a ts) (hB : Below w.heap.size w w1) : IsK w1 a ts := by
  rcases h with h | ⟨b, off, rfl, hb, hc⟩
  · exact .inl h
  · refine .inr ⟨b, off, rfl, Nat.lt_of_lt_of_le hb hB.size, fun j hj => ?_⟩
    obtain ⟨a0, c0, a1, c1, ⟨h0, h1⟩, i0, i1⟩ := hc j hj
    exact ⟨a0, c0, a1, c1, ⟨(hB.cell (by exact hb)).trans h0, (hB.cell (by exact hb)).trans h1⟩, i0.below hB, i1.below hB⟩
/-- What may be written of them: all in blocks of B, no two in one. -/
def OwK (w : World) (B : Nat → Prop) (v : Value) (ts : List Kv) : Prop :=
  ∃ vs : List Value, w.ownsRow 0 46 2 v ts.length vs ∧ vs.length = ts.length * 2 ∧ (∀ j (h : j < ts.length), Ls.Own w 0 (vs.getD (j * 2) undef) ts[j].ws ∧ Li.Own w 0 (vs.getD (j * 2 + 1) undef) ts[j].vs) ∧ (∀ k, v.ownBlock = some k → B k) ∧ (∀ p, p < vs.length → ∀ k, (vs.getD p undef).ownBlock = some k → B k ∧ v.ownBlock ≠ some k) ∧ (∀ p q, p < vs.length → q < vs.length → ¬ p = q → ∀ k, (vs.getD p undef).ownBlock = some k → (vs.getD q undef).ownBlock ≠ some k)
variable {w w1 : World} {B : Nat → Prop} {v : Value} {ts : List Kv}
theorem half2 {p n : Nat} (h : p < n * 2) : ∃ j, j < n ∧ (p = j * 2 ∨ p = j * 2 + 1) := ⟨p / 2, by omega, by omega⟩
theorem OwK.lt (h : OwK w B v ts) : (∀ k, v.ownBlock = some k → k < w.heap.size) := by
  obtain ⟨vs, ho, _⟩ := h
  exact fun k hk => (World.ownsRow.lt ho k hk).2
theorem OwK.nil (w : World) (B : Nat → Prop) : OwK w B (.slice none 0 0) [] :=
  ⟨[], World.ownsRow_nil _ _ _ _, rfl, fun j h => by simp at h, fun k hk => by simp [Value.ownBlock] at hk, fun p h => by simp at h, fun p q h => by simp at h⟩
theorem OwK.fr {B' : Nat → Prop} (h : OwK w B v ts) (hf : Fr B' w w1) (hd : ∀ k, B k → ¬ B' k) : OwK w1 B v ts := by
  obtain ⟨vs, ho, hl, he, hv, hb, hs⟩ := h
  refine ⟨vs, ownsRow_at ho (fun k e => hf.block k (World.ownsRow.lt ho k e).2 (hd k (hv k e))), hl, fun j hj => ?_, hv, hb, hs⟩
  obtain ⟨h0, h1⟩ := he j hj
  exact ⟨ownsRow_at h0 (fun k e => hf.block k (h0.ge k e).2 (hd k (hb _ (by omega) k e).1)), ownsRow_at h1 (fun k e => hf.block k (h1.ge k e).2 (hd k (hb _ (by omega) k e).1))⟩
theorem OwK.below (h : OwK w B v ts) (hb : Below w.heap.size w w1) : OwK w1 B v ts := h.fr (fr_below (B := fun _ => False) hb) (fun _ _ e => e)
theorem OwK.mono {B' : Nat → Prop} (h : OwK w B v ts) (hb : ∀ k, B k → B' k) : OwK w B' v ts := by
  obtain ⟨vs, ho, hl, he, hv, hbb, hs⟩ := h
  exact ⟨vs, ho, hl, he, fun k e => hb k (hv k e), fun p hp k e => ⟨hb k (hbb p hp k e).1, (hbb p hp k e).2⟩, hs⟩
theorem OwK.bound (h : OwK w B v ts) : OwK w (fun k => B k ∧ k < w.heap.size) v ts := by
  obtain ⟨vs, ho, hl, he, hv, hbb, hs⟩ := h
  refine ⟨vs, ho, hl, he, fun k e => ⟨hv k e, (World.ownsRow.lt ho k e).2⟩, fun p hp k e => ⟨⟨(hbb p hp k e).1, ?_⟩, (hbb p hp k e).2⟩, hs⟩
  obtain ⟨j, hj, rfl | rfl⟩ := half2 (n := ts.length) (p := p) (by omega)
  · exact ((he j hj).1.ge k e).2
  · exact ((he j hj).2.ge k e).2
theorem OwK.isk (h : OwK w B v ts) : ∃ a cap, v = .slice a ts.length cap ∧ IsK w a ts := by
  obtain ⟨vs, ho, hl, he, _⟩ := h
  have h' := ho
  rcases ho.2 with ⟨rfl, h0⟩ | ⟨g, cap, cur, rfl, hb, hh, _⟩
  · obtain rfl := List.length_eq_zero_iff.1 h0
    exact ⟨none, 0, rfl, .inl rfl⟩
  · refine ⟨_, cap, rfl, .inr ⟨g, 0, rfl, (Array.getElem?_eq_some_iff.1 hh).1, fun j hj => ?_⟩⟩
    obtain ⟨o0, o1⟩ := he j hj
    obtain ⟨a0, c0, e0, i0⟩ := o0.iss
    obtain ⟨a1, c1, e1, i1⟩ := o1.isl
    refine ⟨a0, c0, a1, c1, ⟨?_, ?_⟩, i0, i1⟩
    · rw [Nat.zero_add, World.ownsRow.cellAt h' _ (by omega), ← e0]
      simp [List.getElem?_eq_getElem (show j * 2 < vs.length by omega)]
    · rw [Nat.zero_add, World.ownsRow.cellAt h' _ (by omega), ← e1]
      simp [List.getElem?_eq_getElem (show j * 2 + 1 < vs.length by omega)]
theorem getD_app1 {α : Type} {xs : List α} {a b d : α} {p : Nat} (h : p < xs.length) : (xs ++ [a, b]).getD p d = xs.getD p d := by
  simp [List.getElem?_append_left h]
theorem getD_app2 {α : Type} {xs : List α} {a b d : α} : (xs ++ [a, b]).getD xs.length d = a := by simp
theorem getD_app3 {α : Type} {xs : List α} {a b d : α} : (xs ++ [a, b]).getD (xs.length + 1) d = b := by simp
/-- One more behind the others: its words and numbers lie in blocks from m on, all that was there in blocks below. -/
theorem owk_snoc {v5 u0 u1 : Value} {x : Kv} {vs : List Value} {m : Nat} (hl : vs.length = ts.length * 2) (he : ∀ j (h : j < ts.length), Ls.Own w 0 (vs.getD (j * 2) undef) ts[j].ws ∧ Li.Own w 0 (vs.getD (j * 2 + 1) undef) ts[j].vs)
    (hv : ∀ k, v.ownBlock = some k → B k ∧ k < m) (hb : ∀ p, p < vs.length → ∀ k, (vs.getD p undef).ownBlock = some k → (B k ∧ k < m) ∧ v.ownBlock ≠ some k) (hs : ∀ p q, p < vs.length → q < vs.length → ¬ p = q → ∀ k, (vs.getD p undef).ownBlock = some k → (vs.getD q undef).ownBlock ≠ some k)
    (h0 : Ls.Own w m u0 x.ws) (h1 : Li.Own w m u1 x.vs) (h01 : ∀ k, u0.ownBlock = some k → u1.ownBlock ≠ some k) (hB : ∀ k, m ≤ k → B k) (hm : m ≤ w.heap.size)
    (ho : w1.ownsRow 0 46 2 v5 (ts.length + 1) (vs ++ [u0, u1])) (hg : w.grownBy w1 v.ownBlock) (hloc : v5.ownBlock = v.ownBlock ∨ v5.ownBlock = some w.heap.size) : OwK w1 B v5 (ts ++ [x]) := by
  have hn5 : ∀ k, k < w.heap.size → v.ownBlock ≠ some k → v5.ownBlock ≠ some k := fun k hk hn e => by
    rcases hloc with h | h
    · exact hn (h ▸ e)
    · rw [h] at e; injection e with e; omega
  have hvm : ∀ k, m ≤ k → v.ownBlock ≠ some k := fun k hk e => by have := (hv k e).2; omega
  refine ⟨vs ++ [u0, u1], by simpa using ho, by simp; omega, fun j hj => ?_, fun k e => ?_, fun p hp k e => ?_, fun p q hp hq hpq k e => ?_⟩
  · by_cases hjl : j < ts.length
    · rw [List.getElem_append_left hjl, getD_app1 (by omega), getD_app1 (by omega)]
      obtain ⟨q0, q1⟩ := he j hjl
      exact ⟨ownsRow_at q0 (fun k e => hg.block k (q0.ge k e).2 (fun e' => (hb _ (by omega) k e).2 e'.symm)), ownsRow_at q1 (fun k e => hg.block k (q1.ge k e).2 (fun e' => (hb _ (by omega) k e).2 e'.symm))⟩
    · have e1 : j = ts.length := by simp at hj; omega
      subst e1
      rw [List.getElem_append_right (by omega), ← hl, getD_app2, getD_app3]
      simp only [Nat.sub_self, List.getElem_cons_zero]
      have q0 : Ls.Own w1 m u0 x.ws := ownsRow_at h0 (fun k e => hg.block k (h0.ge k e).2 (fun e' => hvm k (h0.ge k e).1 e'.symm))
      have q1 : Li.Own w1 m u1 x.vs := ownsRow_at h1 (fun k e => hg.block k (h1.ge k e).2 (fun e' => hvm k (h1.ge k e).1 e'.symm))
      exact ⟨q0.mono (Nat.zero_le _), q1.mono (Nat.zero_le _)⟩
  · rcases hloc with h | h
    · exact (hv k (h ▸ e)).1
    · rw [h] at e; injection e with e; exact hB k (by omega)
  · by_cases hpl : p < vs.length
    · rw [getD_app1 hpl] at e
      obtain ⟨j, hj, hpj⟩ := half2 (n := ts.length) (p := p) (by omega)
      have hks : k < w.heap.size := by
        rcases hpj with rfl | rfl
        · exact ((he j hj).1.ge k e).2
        · exact ((he j hj).2.ge k e).2
      exact ⟨(hb p hpl k e).1.1, hn5 k hks (hb p hpl k e).2⟩
    · have hp' : p = vs.length ∨ p = vs.length + 1 := by simp at hp; omega
      rcases hp' with rfl | rfl
      · rw [getD_app2] at e
        exact ⟨hB k (h0.ge k e).1, hn5 k (h0.ge k e).2 (hvm k (h0.ge k e).1)⟩
      · rw [getD_app3] at e
        exact ⟨hB k (h1.ge k e).1, hn5 k (h1.ge k e).2 (hvm k (h1.ge k e).1)⟩
  · have hp' : p < vs.length ∨ p = vs.length ∨ p = vs.length + 1 := by simp at hp; omega
    have hq' : q < vs.length ∨ q = vs.length ∨ q = vs.length + 1 := by simp at hq; omega
    rcases hp' with h1' | rfl | rfl <;> rcases hq' with h2' | rfl | rfl
    · rw [getD_app1 h1'] at e; rw [getD_app1 h2']; exact hs p q h1' h2' hpq k e
    · rw [getD_app1 h1'] at e; rw [getD_app2]; intro e'; have := (hb p h1' k e).1.2; have := (h0.ge k e').1; omega
    · rw [getD_app1 h1'] at e; rw [getD_app3]; intro e'; have := (hb p h1' k e).1.2; have := (h1.ge k e').1; omega
    · rw [getD_app2] at e; rw [getD_app1 h2']; intro e'; have := (hb q h2' k e').1.2; have := (h0.ge k e).1; omega
    · exact absurd rfl hpq
    · rw [getD_app2] at e; rw [getD_app3]; exact h01 k e
    · rw [getD_app3] at e; rw [getD_app1 h2']; intro e'; have := (hb q h2' k e').1.2; have := (h1.ge k e).1; omega
    · rw [getD_app3] at e; rw [getD_app2]; intro e'; exact h01 k e' e
    · exact absurd rfl hpq
/-- Written over: the words, or the numbers, of one of them. -/
theorem OwK.set0 (h : OwK w B v ts) (j : Nat) (hj : j < ts.length) : ∃ a c, v = .slice a ts.length c ∧ ∃ g a0 c0, a = some ⟨g, 0, none⟩ ∧ w.cell? ⟨g, j * 2, none⟩ = some (.slice a0 ts[j].ws.length c0) ∧ Ls.Own w 0 (.slice a0 ts[j].ws.length c0) ts[j].ws ∧ g < w.heap.size ∧
    ∀ w1 ws', Ls.Own w1 0 (.slice a0 ts[j].ws.length c0) ws' → w.grownBy w1 (Value.slice a0 ts[j].ws.length c0).ownBlock → OwK w1 B v (ts.set j ⟨ws', ts[j].vs⟩) ∧ Fr B w w1 := by
  obtain ⟨vs, ho, hl, he, hv, hb, hs⟩ := h
  have h' := ho
  rcases ho.2 with ⟨rfl, h0⟩ | ⟨g, cap, cur, rfl, hbg, hh, _⟩
  · omega
  obtain ⟨o0, o1⟩ := he j hj
  obtain ⟨a0, c0, e0, i0⟩ := o0.iss
  refine ⟨_, cap, rfl, g, a0, c0, rfl, ?_, e0 ▸ o0, (Array.getElem?_eq_some_iff.1 hh).1, fun w1 ws' hw hg => ?_⟩
  · rw [World.ownsRow.cellAt h' _ (by omega), ← e0]
    simp [List.getElem?_eq_getElem (show j * 2 < vs.length by omega)]
  · rw [← e0] at hw hg
    have hk : ∀ p, p < vs.length → ¬ p = j * 2 → ∀ k, (vs.getD p undef).ownBlock = some k → some k ≠ (vs.getD (j * 2) undef).ownBlock := fun p hp hne k e e' => hs p (j * 2) hp (by omega) hne k e e'.symm
    refine ⟨⟨vs, by rw [List.length_set]; exact ownsRow_at h' (fun k e => hg.block k (World.ownsRow.lt h' k e).2 (fun e' => (hb (j * 2) (by omega) k e'.symm).2 e)), by simpa using hl, fun i hi => ?_, hv, hb, hs⟩, ?_⟩
    · have hi' : i < ts.length := by simpa using hi
      obtain ⟨q0, q1⟩ := he i hi'
      have k1 : Li.Own w1 0 (vs.getD (i * 2 + 1) undef) ts[i].vs := ownsRow_at q1 (fun k e => hg.block k (q1.ge k e).2 (hk _ (by omega) (by omega) k e))
      by_cases hij : j = i
      · subst hij
        rw [List.getElem_set_self]
        exact ⟨hw, k1⟩
      · rw [List.getElem_set_ne hij]
        exact ⟨ownsRow_at q0 (fun k e => hg.block k (q0.ge k e).2 (hk _ (by omega) (by omega) k e)), k1⟩
    · exact ⟨hg.os, hg.tape, hg.output, hg.size, fun k hk' hn => hg.block k hk' (fun e => hn (hb (j * 2) (by omega) k e.symm).1)⟩
theorem OwK.set1 (h : OwK w B v ts) (j : Nat) (hj : j < ts.length) : ∃ a c, v = .slice a ts.length c ∧ ∃ g a0 c0, a = some ⟨g, 0, none⟩ ∧ w.cell? ⟨g, j * 2 + 1, none⟩ = some (.slice a0 ts[j].vs.length c0) ∧ Li.Own w 0 (.slice a0 ts[j].vs.length c0) ts[j].vs ∧ g < w.heap.size ∧
    ∀ w1 vs', Li.Own w1 0 (.slice a0 ts[j].vs.length c0) vs' → w.grownBy w1 (Value.slice a0 ts[j].vs.length c0).ownBlock → OwK w1 B v (ts.set j ⟨ts[j].ws, vs'⟩) ∧ Fr B w w1 := by
  obtain ⟨vs, ho, hl, he, hv, hb, hs⟩ := h
  have h' := ho
  rcases ho.2 with ⟨rfl, h0⟩ | ⟨g, cap, cur, rfl, hbg, hh, _⟩
  · omega
  obtain ⟨o0, o1⟩ := he j hj
  obtain ⟨a0, c0, e0, i0⟩ := o1.isl
  refine ⟨_, cap, rfl, g, a0, c0, rfl, ?_, e0 ▸ o1, (Array.getElem?_eq_some_iff.1 hh).1, fun w1 ws' hw hg => ?_⟩
  · rw [World.ownsRow.cellAt h' _ (by omega), ← e0]
    simp [List.getElem?_eq_getElem (show j * 2 + 1 < vs.length by omega)]
  · rw [← e0] at hw hg
    have hk : ∀ p, p < vs.length → ¬ p = j * 2 + 1 → ∀ k, (vs.getD p undef).ownBlock = some k → some k ≠ (vs.getD (j * 2 + 1) undef).ownBlock := fun p hp hne k e e' => hs p (j * 2 + 1) hp (by omega) hne k e e'.symm
    refine ⟨⟨vs, by rw [List.length_set]; exact ownsRow_at h' (fun k e => hg.block k (World.ownsRow.lt h' k e).2 (fun e' => (hb (j * 2 + 1) (by omega) k e'.symm).2 e)), by simpa using hl, fun i hi => ?_, hv, hb, hs⟩, ?_⟩
    · have hi' : i < ts.length := by simpa using hi
      obtain ⟨q0, q1⟩ := he i hi'
      have k1 : Ls.Own w1 0 (vs.getD (i * 2) undef) ts[i].ws := ownsRow_at q0 (fun k e => hg.block k (q0.ge k e).2 (hk _ (by omega) (by omega) k e))
      by_cases hij : j = i
      · subst hij
        rw [List.getElem_set_self]
        exact ⟨k1, hw⟩
      · rw [List.getElem_set_ne hij]
        exact ⟨k1, ownsRow_at q1 (fun k e => hg.block k (q1.ge k e).2 (hk _ (by omega) (by omega) k e))⟩
    · exact ⟨hg.os, hg.tape, hg.output, hg.size, fun k hk' hn => hg.block k hk' (fun e => hn (hb (j * 2 + 1) (by omega) k e.symm).1)⟩
/-- The marks that the laws write. -/
def km (q : Nat) (t : Kv) : Kv := ⟨mtexts q t.ws.length, marks ((q + t.ws.length : Nat) : Int) t.vs.length⟩
def kmarksN (q : Nat) (ts : List Kv) : List Kv := ts.mapIdx fun j t => km (q + ktot (ts.take j)) t
theorem kmarksN_length (q : Nat) (ts : List Kv) : (kmarksN q ts).length = ts.length := by simp [kmarksN]
theorem kmarksN_get (q : Nat) (ts : List Kv) (j : Nat) (h : j < (kmarksN q ts).length) : (kmarksN q ts)[j] = km (q + ktot (ts.take j)) (ts[j]'(by rwa [kmarksN_length] at h)) := by simp [kmarksN]
def kmarks (q : Int) (ts : List Kv) : List Kv := kmarksN q.toNat ts
theorem kmarks_length (q : Int) (ts : List Kv) : (kmarks q ts).length = ts.length := kmarksN_length _ _
def Half (q : Nat) (ts l : List Kv) (i : Nat) : Prop := l.length = ts.length ∧ (∀ j, j < i → l[j]? = (kmarksN q ts)[j]?) ∧ ∀ j, i ≤ j → l[j]? = ts[j]?
theorem half_set {q : Nat} {ts l : List Kv} {i : Nat} (h : Half q ts l i) (hi : i < ts.length) : Half q ts (l.set i (km (q + ktot (ts.take i)) ts[i])) (i + 1) := by
  refine ⟨by simpa using h.1, fun j hj => ?_, fun j hj => ?_⟩
  · rw [List.getElem?_set]
    split
    · rename_i e; subst e
      rw [if_pos (by rw [h.1]; exact hi), List.getElem?_eq_getElem (by rw [kmarksN_length]; exact hi), kmarksN_get]
    · exact h.2.1 j (by omega)
  · rw [List.getElem?_set_ne (by omega)]; exact h.2.2 j (by omega)
theorem half_end {q : Nat} {ts l : List Kv} {i : Nat} (h : Half q ts l i) (hi : ¬ i < ts.length) : l = kmarksN q ts := by
  apply List.ext_getElem?
  intro j
  by_cases hj : j < i
  · exact h.2.1 j hj
  · rw [List.getElem?_eq_none (by rw [h.1]; omega), List.getElem?_eq_none (by rw [kmarksN_length]; omega)]
theorem half_at {q : Nat} {ts l : List Kv} {i : Nat} (h : Half q ts l i) (hi : i < ts.length) (hil : i < l.length) : l[i] = ts[i] := by
  have := h.2.2 i (Nat.le_refl _)
  rw [List.getElem?_eq_getElem hil, List.getElem?_eq_getElem hi] at this
  exact Option.some.inj this
theorem set_set_same {α : Type} {l : List α} {i : Nat} {x y : α} : (l.set i x).set i y = l.set i y := by simp
end Go.Proofs.YtdileifjmlabfaaGreatDoor.Kt
/-
  Tables of words and their numbers, further: whether two are the same, whether marks are held.
-/
namespace Go.Proofs.YtdileifjmlabfaaGreatDoor.Kt
set_option maxRecDepth 20000
open Go.RowKit
open Go.Proofs.YtdileifjmlabfaaGreatDoor.Sv (Fr fr_below new2 wr2)
open Go.Proofs.YtdileifjmlabfaaGreatDoor.Mk (mtexts mtexts_length)
open Go.Proofs.YtdileifjmlabfaaGreatDoor.Li (marks marks_length)
set_option linter.unusedVariables false
set_option maxHeartbeats 1000000 in
theorem eqTab (w : World) (a0 a1 b0 b1 : Option Addr) (c0 c1 d0 d1 : Nat) (t : Kv) (h0 : Ls.IsS w a0 t.ws) (h1 : Li.IsL w a1 t.vs) (g0 : Ls.IsS w b0 t.ws) (g1 : Li.IsL w b1 t.vs) (hl : t.ws.length + t.vs.length ≤ 1048576) :
    Calls Tryz.prog 50 #[.agg #[.slice a0 t.ws.length c0, .slice a1 t.vs.length c1], .agg #[.slice b0 t.ws.length d0, .slice b1 t.vs.length d1]] w fun e w' => e = .returned (.bool true) ∧ Below w.heap.size w w' := by
  go_enter Tryz.func50, Tryz.ntmps50
  go_wp2_with fail
  obtain ⟨W, hW, hsz, hB, bx, bY⟩ := new2 w [.slice a0 t.ws.length c0, .slice a1 t.vs.length c1] [.slice b0 t.ws.length d0, .slice b1 t.vs.length d1] 46 46
  rw [hW]
  clear hW
  refine (Ls.eq_bel _ _ _ _ _ t.ws t.ws (h0.below hB) (g0.below hB) (by omega) (by omega)).mono ?_
  rintro e w1 ⟨rfl, hb⟩
  rw [Ls.eqs_self]
  obtain ⟨_, ⟨_, x1⟩, _⟩ := wr2 (bx.below hb)
  obtain ⟨_, ⟨_, y1⟩, _⟩ := wr2 (bY.below hb)
  have hB := hB.trans (hb.mono hB.size)
  clear hb bx bY hsz
  go_wp2_with fail
  refine (Li.eq_bel _ _ _ _ _ t.vs t.vs (h1.below hB) (g1.below hB) (by omega) (by omega)).mono ?_
  rintro e w2 ⟨rfl, hb⟩
  rw [Li.eqs_self]
  have hB := hB.trans (hb.mono hB.size)
  clear hb x1 y1
  go_wp2
  go_ret
  exact ⟨rfl, hB⟩
set_option maxHeartbeats 2000000 in
theorem eqTabs (w : World) (a b : Option Addr) (ca cb : Nat) (ts : List Kv) (hx : IsK w a ts) (hy : IsK w b ts) (hl : ts.length + ktot ts ≤ 1048576) :
    Calls Tryz.prog 25 #[.slice a ts.length ca, .slice b ts.length cb] w fun e w' => e = .returned (.bool true) ∧ Below w.heap.size w w' := by
  have hne : ((ts.length : Int) != (ts.length : Int)) = false := by simp
  go_enter Tryz.func25, Tryz.ntmps25
  go_wp2
  go_loopw [5] (fun i wr => ∃ j : Nat, j ≤ ts.length ∧ i = .int .i64 j ∧ Below w.heap.size w wr) (fun i _ => ts.length - (intOf i).toNat)
  case atStart => exact ⟨0, Nat.zero_le _, rfl, Below.refl _ _⟩
  case round =>
    obtain ⟨j, hj, rfl, hB⟩ := hrel
    by_cases hlt : j < ts.length
    · rcases hx.below hB with h0 | ⟨xb, xo, rfl, hxb, hxc⟩
      · rw [h0] at hlt; simp at hlt
      rcases hy.below hB with h0 | ⟨yb, yo, rfl, hyb, hyc⟩
      · rw [h0] at hlt; simp at hlt
      obtain ⟨a0, c0, a1, c1, ⟨x0, x1⟩, i0, i1⟩ := hxc j hlt
      obtain ⟨b0, d0, b1, d1, ⟨y0, y1⟩, k0, k1⟩ := hyc j hlt
      have hta := ktot_at ts j hlt
      obtain ⟨t, ht⟩ : ∃ t, ts[j] = t := ⟨_, rfl⟩
      rw [ht] at x0 x1 i0 i1 y0 y1 k0 k1 hta
      have HI0 : Hid (Ls.IsS wr a0 t.ws) := i0
      have HI1 : Hid (Li.IsL wr a1 t.vs) := i1
      have HK0 : Hid (Ls.IsS wr b0 t.ws) := k0
      have HK1 : Hid (Li.IsL wr b1 t.vs) := k1
      have HB : Hid (Below w.heap.size w wr) := hB
      have HBD : Hid (Below wr.heap.size wr wr.drew) := (Below.refl wr.heap.size wr).drew
      clear hxc hyc ht i0 i1 k0 k1 hB
      go_wp2_with fail
      go_region_held3 (fun w' => w'.cell? ⟨xb, xo + j * 2, none⟩ = some (.slice a0 t.ws.length c0) ∧ w'.cell? ⟨xb, xo + j * 2 + 1, none⟩ = some (.slice a1 t.vs.length c1) ∧ w'.cell? ⟨yb, yo + j * 2, none⟩ = some (.slice b0 t.ws.length d0) ∧ w'.cell? ⟨yb, yo + j * 2 + 1, none⟩ = some (.slice b1 t.vs.length d1)) (go_keep) (first
        | (go_at_call 50
           refine (eqTab wr.drew _ _ _ _ _ _ _ _ t (HI0.out.below HBD.out) (HI1.out.below HBD.out) (HK0.out.below HBD.out) (HK1.out.below HBD.out) (by omega)).mono ?_
           rintro e w1 ⟨rfl, hb⟩
           have HY0 : Hid (Below wr.heap.size wr w1) := HBD.out.trans hb
           have z0 := (HY0.out.cell (p := ⟨xb, xo + j * 2, none⟩) hxb).trans x0
           have z1 := (HY0.out.cell (p := ⟨xb, xo + j * 2 + 1, none⟩) hxb).trans x1
           have z2 := (HY0.out.cell (p := ⟨yb, yo + j * 2, none⟩) hyb).trans y0
           have z3 := (HY0.out.cell (p := ⟨yb, yo + j * 2 + 1, none⟩) hyb).trans y1
           clear hb))
      have hB1 := HB.out.trans (HY0.out.mono HB.out.size)
      clear HY0 HB HI0 HI1 HK0 HK1 HBD
      go_wp2
      go_roundw
      case rel => exact ⟨j + 1, by omega, by go_num, hB1⟩
      case measure => simp [intOf]; omega
    · go_wp2
      go_ret
      exact ⟨rfl, hB⟩
end Go.Proofs.YtdileifjmlabfaaGreatDoor.Kt
/-
  Tables of words and their numbers, further: one put into its place; how great they are; a copy of the laws' own.
-/
namespace Go.Proofs.YtdileifjmlabfaaGreatDoor.Kt
set_option maxRecDepth 20000
open Go.RowKit
open Go.Proofs.YtdileifjmlabfaaGreatDoor.Tb (ownsRow_at sub sub_yes sub_no lets Fits)
open Go.Proofs.YtdileifjmlabfaaGreatDoor.Sv (Fr fr_below fr_grown new1 new2 new3 wr2 Wr)
open Go.Proofs.YtdileifjmlabfaaGreatDoor.Li (below_none)
set_option linter.unusedVariables false
variable {w w1 : World} {B : Nat → Prop} {v : Value} {ts : List Kv}
theorem getD_set2 {vs : List Value} {q p : Nat} {u0 u1 : Value} (hq : q + 1 < vs.length) : ((vs.set q u0).set (q + 1) u1).getD p undef = if p = q + 1 then u1 else if p = q then u0 else vs.getD p undef := by
  by_cases h1 : p = q + 1
  · subst h1; simp [hq]
  · by_cases h0 : p = q
    · subst h0; simp [show p < vs.length by omega]
    · simp [h0, h1, Ne.symm h0, Ne.symm h1]
/-- One put into its place: its words and numbers lie in blocks from m on, all that was there in blocks below. -/
theorem OwK.put {m : Nat} (h : OwK w (fun k => B k ∧ k < m) v ts) (j : Nat) (hj : j < ts.length) : ∃ a c, v = .slice a ts.length c ∧ ∃ g y0 y1, a = some ⟨g, 0, none⟩ ∧ w.cell? ⟨g, j * 2, none⟩ = some y0 ∧ w.cell? ⟨g, j * 2 + 1, none⟩ = some y1 ∧ w.frozen? ⟨g, j * 2, none⟩ = false ∧ w.frozen? ⟨g, j * 2 + 1, none⟩ = false ∧ g < w.heap.size ∧ B g ∧ g < m ∧
    ∀ u0 u1 (x : Kv), Ls.Own w m u0 x.ws → Li.Own w m u1 x.vs → (∀ k, u0.ownBlock = some k → u1.ownBlock ≠ some k) → (∀ k, m ≤ k → B k) → OwK ((w.setCell ⟨g, j * 2, none⟩ u0).setCell ⟨g, j * 2 + 1, none⟩ u1) B v (ts.set j x) := by
  obtain ⟨vs, ho, hl, he, hv, hb, hs⟩ := h
  have h' := ho
  rcases ho.2 with ⟨rfl, h0⟩ | ⟨g, cap, cur, rfl, hbg, hh, _⟩
  · omega
  have k0 := World.ownsRow.cellAt h' (j * 2) (by omega)
  have k1 := World.ownsRow.cellAt h' (j * 2 + 1) (by omega)
  rw [List.getElem?_eq_getElem (by omega)] at k0 k1
  obtain ⟨hBg, hgm⟩ := hv g rfl
  refine ⟨_, cap, rfl, g, _, _, rfl, k0, k1, World.ownsRow.frozenAt h' _, World.ownsRow.frozenAt h' _, (Array.getElem?_eq_some_iff.1 hh).1, hBg, hgm, fun u0 u1 x o0 o1 h01 hB => ?_⟩
  have hst := (World.ownsRow.stored (World.ownsRow.stored h' (j * 2) u0).1 (j * 2 + 1) u1).1
  have hg : w.grownBy ((w.setCell ⟨g, j * 2, none⟩ u0).setCell ⟨g, j * 2 + 1, none⟩ u1) (some g) := Li.grown_trans (Li.grown_set _ _ _ _) (Li.grown_set _ _ _ _)
  have hq : j * 2 + 1 < vs.length := by omega
  have hne : ∀ p, p < vs.length → ∀ k, (vs.getD p undef).ownBlock = some k → ¬ k = g := fun p hp k e e' => (hb p hp k e).2 (by subst e'; rfl)
  have hn0 : ∀ k, u0.ownBlock = some k → ¬ k = g := fun k e e' => by have := (o0.ge k e).1; omega
  have hn1 : ∀ k, u1.ownBlock = some k → ¬ k = g := fun k e e' => by have := (o1.ge k e).1; omega
  refine ⟨(vs.set (j * 2) u0).set (j * 2 + 1) u1, by rw [List.length_set]; exact hst, by simpa using hl, fun i hi => ?_, fun k e => (hv k e).1, fun p hp k e => ?_, fun p q hp hq' hpq k e => ?_⟩
  · have hi' : i < ts.length := by simpa using hi
    rw [getD_set2 hq, getD_set2 hq]
    by_cases hij : j = i
    · subst hij
      rw [if_neg (by omega), if_pos rfl, if_pos rfl, List.getElem_set_self]
      have q0 : Ls.Own ((w.setCell ⟨g, j * 2, none⟩ u0).setCell ⟨g, j * 2 + 1, none⟩ u1) m u0 x.ws := ownsRow_at o0 (fun k e => hg.block k (o0.ge k e).2 (fun e' => by injection e' with e'; exact hn0 k e e'))
      have q1 : Li.Own ((w.setCell ⟨g, j * 2, none⟩ u0).setCell ⟨g, j * 2 + 1, none⟩ u1) m u1 x.vs := ownsRow_at o1 (fun k e => hg.block k (o1.ge k e).2 (fun e' => by injection e' with e'; exact hn1 k e e'))
      exact ⟨q0.mono (Nat.zero_le _), q1.mono (Nat.zero_le _)⟩
    · rw [if_neg (by omega), if_neg (by omega), if_neg (by omega), if_neg (by omega), List.getElem_set_ne hij]
      obtain ⟨q0, q1⟩ := he i hi'
      exact ⟨ownsRow_at q0 (fun k e => hg.block k (q0.ge k e).2 (fun e' => by injection e' with e'; exact hne _ (by omega) k e e')), ownsRow_at q1 (fun k e => hg.block k (q1.ge k e).2 (fun e' => by injection e' with e'; exact hne _ (by omega) k e e'))⟩
  · rw [getD_set2 hq] at e
    have hgg : ∀ k, ¬ k = g → Value.ownBlock (.slice (some ⟨g, 0, none⟩) ts.length cap) ≠ some k := fun k hk e => hk (by simp [Value.ownBlock] at e; exact e.symm)
    by_cases h1 : p = j * 2 + 1
    · rw [if_pos h1] at e; exact ⟨hB k (o1.ge k e).1, hgg k (hn1 k e)⟩
    · rw [if_neg h1] at e
      by_cases h0 : p = j * 2
      · rw [if_pos h0] at e; exact ⟨hB k (o0.ge k e).1, hgg k (hn0 k e)⟩
      · rw [if_neg h0] at e; exact ⟨(hb p (by simpa using hp) k e).1.1, (hb p (by simpa using hp) k e).2⟩
  · rw [getD_set2 hq] at e ⊢
    have hp' : p < vs.length := by simpa using hp
    have hq'' : q < vs.length := by simpa using hq'
    by_cases p1 : p = j * 2 + 1
    · rw [if_pos p1] at e
      rw [if_neg (by omega)]
      by_cases q0 : q = j * 2
      · rw [if_pos q0]; exact fun e' => h01 k e' e
      · rw [if_neg q0]; exact fun e' => by have := (hb q hq'' k e').1.2; have := (o1.ge k e).1; omega
    · rw [if_neg p1] at e
      by_cases p0 : p = j * 2
      · rw [if_pos p0] at e
        by_cases q1 : q = j * 2 + 1
        · rw [if_pos q1]; exact h01 k e
        · rw [if_neg q1, if_neg (by omega)]; exact fun e' => by have := (hb q hq'' k e').1.2; have := (o0.ge k e).1; omega
      · rw [if_neg p0] at e
        by_cases q1 : q = j * 2 + 1
        · rw [if_pos q1]; exact fun e' => by have := (hb p hp' k e).1.2; have := (o1.ge k e').1; omega
        · rw [if_neg q1]
          by_cases q0 : q = j * 2
          · rw [if_pos q0]; exact fun e' => by have := (hb p hp' k e).1.2; have := (o0.ge k e').1; omega
          · rw [if_neg q0]; exact hs p q hp' hq'' hpq k e
/-- As many as are made, all empty. -/
theorem made_get (n p : Nat) (hp : p < n * 2) : (madeCells (Value.agg #[.slice none 0 0, .slice none 0 0]).cells (n * 2)).toList.getD p undef = .slice none 0 0 := by
  simp [madeCells, hp, Value.cells]
  rcases Nat.mod_two_eq_zero_or_one p with e | e <;> simp [e]
theorem owk_made {base n : Nat} (h : w.ownsRow base 46 2 v n (madeCells (Value.agg #[.slice none 0 0, .slice none 0 0]).cells (n * 2)).toList) (hB : ∀ k, v.ownBlock = some k → B k) : OwK w B v (List.replicate n ⟨[], []⟩) := by
  have hlen := h.1
  have hnn : ∀ p, p < n * 2 → ∀ k, ((madeCells (Value.agg #[.slice none 0 0, .slice none 0 0]).cells (n * 2)).toList.getD p undef).ownBlock ≠ some k := fun p hp k e => by rw [made_get n p hp] at e; simp [Value.ownBlock] at e
  refine ⟨_, ?_, by simpa using hlen, fun j hj => ?_, hB, fun p hp k e => absurd e (hnn p (by omega) k), fun p q hp hq hpq k e => absurd e (hnn p (by omega) k)⟩
  · rw [List.length_replicate]
    refine ⟨h.1, ?_⟩
    rcases h.2 with h | ⟨g, cap, cur, e, hb', r⟩
    · exact .inl h
    · exact .inr ⟨g, cap, cur, e, Nat.zero_le _, r⟩
  · have hj' : j < n := by simpa using hj
    rw [made_get n _ (by omega), made_get n _ (by omega)]
    simp only [List.getElem_replicate]
    exact ⟨Ls.Own.nil _ _, Li.Own.nil _ _⟩
/-- How great they are. -/
def ksz : List Kv → Nat
  | [] => 0
  | t :: ts => (t.ws.length + lets t.ws + t.vs.length) + ksz ts
theorem ksz_take (ts : List Kv) (k : Nat) (h : k < ts.length) : ksz (ts.take (k + 1)) = ksz (ts.take k) + (ts[k].ws.length + lets ts[k].ws + ts[k].vs.length) := by
  induction ts generalizing k with
  | nil => simp at h
  | cons s r ih =>
    cases k with
    | zero => simp [ksz]
    | succ k =>
      simp only [List.take_succ_cons, ksz, List.getElem_cons_succ]
      rw [ih k (by simpa using h)]
      omega
theorem ksz_le (ts : List Kv) (k : Nat) : ksz (ts.take k) ≤ ksz ts := by
  induction ts generalizing k with
  | nil => simp
  | cons s r ih =>
    cases k with
    | zero => simp [ksz]
    | succ k => simp only [List.take_succ_cons, ksz]; have := ih k; omega
theorem ksz_at (ts : List Kv) (k : Nat) (h : k < ts.length) : ts[k].ws.length + lets ts[k].ws + ts[k].vs.length ≤ ksz ts := by
  have h1 := ksz_take ts k h
  have h2 := ksz_le ts (k + 1)
  omega
theorem ktot_ksz (ts : List Kv) : ktot ts ≤ ksz ts := by
  induction ts with
  | nil => simp [ktot, ksz]
  | cons t ts ih => simp only [ktot, ksz]; omega
def FitsK (ts : List Kv) : Prop := ts.length ≤ 9223372036854775807 ∧ ∀ j (hj : j < ts.length), ts[j].ws.length ≤ 9223372036854775807 ∧ Fits ts[j].ws ∧ ts[j].vs.length ≤ 9223372036854775807
set_option maxHeartbeats 1000000 in
theorem szTab (w : World) (a a' : Option Addr) (c c' : Nat) (left : Int) (t : Kv) (hx : Ls.IsS w a t.ws) (hf : Fits t.ws) (h0 : 0 ≤ left) (h1 : left ≤ 1048576) (hn : t.ws.length ≤ 9223372036854775807) (hm : t.vs.length ≤ 9223372036854775807) :
    Calls Tryz.prog 27 #[.agg #[.slice a t.ws.length c, .slice a' t.vs.length c'], .int .i64 left] w fun e w' => e = .returned (.int .i64 (sub left (t.ws.length + lets t.ws + t.vs.length))) ∧ Below w.heap.size w w' := by
  have hB : Below w.heap.size w (w.alloc (.cells #[.slice a t.ws.length c, .slice a' t.vs.length c'] 64)) := (Below.refl _ _).alloc (Nat.le_refl _) _
  obtain ⟨z, hz⟩ : ∃ z, t.ws.length + lets t.ws = z := ⟨_, rfl⟩
  go_enter Tryz.func27, Tryz.ntmps27
  go_wp2_with fail
  refine (Tb.szStrs _ _ _ _ t.ws (hx.below hB) hf h0 h1 hn).mono ?_
  rintro e w' ⟨rfl, hw⟩
  subst w'
  rw [hz]
  have HZ : Hid (t.ws.length + lets t.ws = z) := hz
  clear hz
  by_cases hfit : (z : Int) ≤ left
  · rw [sub_yes hfit]
    go_wp2_with fail
    refine (Tb.szInts _ _ _ _ _ (by omega) (by omega) hm).mono ?_
    rintro e w' ⟨rfl, hw⟩
    subst w'
    by_cases hfit2 : (t.vs.length : Int) ≤ left - z
    · rw [sub_yes hfit2]
      have HR : Hid (sub left (z + t.vs.length) = left - z - t.vs.length) := by show sub _ _ = _; rw [sub_yes (by omega)]; omega
      go_wp2
      go_ret
      exact ⟨by rw [HZ.out, HR.out]; rfl, hB⟩
    · rw [sub_no hfit2]
      have HR : Hid (sub left (z + t.vs.length) = -1) := sub_no (by omega)
      go_wp2
      go_ret
      exact ⟨by rw [HZ.out, HR.out]; rfl, hB⟩
  · rw [sub_no hfit]
    have HR : Hid (sub left (z + t.vs.length) = -1) := sub_no (by omega)
    go_wp2
    go_ret
    exact ⟨by rw [HZ.out, HR.out]; rfl, hB⟩
set_option maxHeartbeats 1000000 in
theorem szTabs (w : World) (a : Option Addr) (cap : Nat) (left : Int) (ts : List Kv) (hx : IsK w a ts) (hf : FitsK ts) (h0 : 0 ≤ left) (h1 : left ≤ 1048576) :
    Calls Tryz.prog 9 #[.slice a ts.length cap, .int .i64 left] w fun e w' => e = .returned (.int .i64 (sub left (ts.length + ksz ts))) ∧ Below w.heap.size w w' := by
  have hn := hf.1
  by_cases h : (ts.length : Int) ≤ left
  · go_enter Tryz.func9, Tryz.ntmps9
    go_wp2
    go_loopw [1, 5] (fun q i wr => ∃ k : Nat, k ≤ ts.length ∧ i = .int .i64 k ∧ q = .int .i64 (left - ts.length - ksz (ts.take k)) ∧ (ksz (ts.take k) : Int) ≤ left - ts.length ∧ Below w.heap.size w wr) (fun _ i _ => ts.length - (intOf i).toNat)
    case atStart => exact ⟨0, Nat.zero_le _, rfl, by simp [ksz], by simp [ksz]; omega, Below.refl _ _⟩
    case round =>
      obtain ⟨k, hk, rfl, rfl, hle, hB⟩ := hrel
      by_cases hlt : k < ts.length
      · rcases hx.below hB with rfl | ⟨b, off, rfl, hb, hc⟩
        · simp at hlt
        · obtain ⟨a0, c0, a1, c1, ⟨cx0, cx1⟩, i0, i1⟩ := hc k hlt
          obtain ⟨hf0, hf1, hf2⟩ := hf.2 k hlt
          have HT : Hid (ksz (ts.take (k + 1)) = ksz (ts.take k) + (ts[k].ws.length + lets ts[k].ws + ts[k].vs.length)) := ksz_take ts k hlt
          have HL : Hid (ksz (ts.take (k + 1)) ≤ ksz ts) := ksz_le ts (k + 1)
          obtain ⟨L, hL⟩ : ∃ L, ksz (ts.take k) = L := ⟨_, rfl⟩
          rw [hL] at hle HT ⊢
          clear hc hL
          go_wp2_with fail
          refine (szTab _ _ _ _ _ _ ts[k] i0 hf1 (by omega) (by omega) hf0 hf2).mono ?_
          rintro e w1 ⟨rfl, hB1⟩
          have hB := hB.trans (hB1.mono hB.size)
          clear hB1 cx0 cx1 i0 i1 hb
          obtain ⟨z, hz⟩ : ∃ z, ts[k].ws.length + lets ts[k].ws + ts[k].vs.length = z := ⟨_, rfl⟩
          rw [hz] at HT ⊢
          clear hz
          by_cases hfit : (z : Int) ≤ left - ts.length - L
          · rw [sub_yes hfit]
            go_wp2
            go_roundw
            case rel => exact ⟨k + 1, by omega, by go_num, by rw [HT.out]; go_num, by rw [HT.out]; omega, hB⟩
            case measure => simp [intOf]; omega
          · rw [sub_no hfit]
            have HR : Hid (sub left (ts.length + ksz ts) = -1) := sub_no (by have := HT.out; have := HL.out; omega)
            go_wp2
            go_ret
            exact ⟨by rw [HR.out]; rfl, hB⟩
      · obtain rfl : k = ts.length := by omega
        have ht : ts.take ts.length = ts := List.take_length
        rw [ht] at hle ⊢
        have HR : Hid (sub left (ts.length + ksz ts) = left - ts.length - ksz ts) := by show sub _ _ = _; rw [sub_yes (by omega)]; omega
        go_wp2
        go_ret
        exact ⟨by rw [HR.out]; rfl, hB⟩
  · rw [sub_no (by omega)]
    go_enter Tryz.func9, Tryz.ntmps9
    go_wp2
    go_ret
    exact ⟨rfl, Below.refl _ _⟩
set_option maxHeartbeats 2000000 in
theorem toTab (w : World) (a a' : Option Addr) (c c' : Nat) (t : Kv) (hp : Ls.IsS w a t.ws) (hx : Li.IsL w a' t.vs) (hl : t.ws.length + t.vs.length ≤ 1048576) :
    Calls Tryz.prog 35 #[.agg #[.slice a t.ws.length c, .slice a' t.vs.length c']] w fun e w' => ∃ g0 g1, e = .returned (.agg #[.slice (some ⟨g0, 0, none⟩) t.ws.length t.ws.length, .slice (some ⟨g1, 0, none⟩) t.vs.length t.vs.length]) ∧ Ls.Own w' w.heap.size (.slice (some ⟨g0, 0, none⟩) t.ws.length t.ws.length) t.ws ∧ Li.Own w' w.heap.size (.slice (some ⟨g1, 0, none⟩) t.vs.length t.vs.length) t.vs ∧ ¬ g0 = g1 ∧ Below w.heap.size w w' := by
  go_enter Tryz.func35, Tryz.ntmps35
  go_wp2_with fail
  obtain ⟨W, hW, hsz, hB, bx, br, bo⟩ := new3 w [.slice a t.ws.length c, .slice a' t.vs.length c'] [.slice none 0 0, .slice none 0 0] [.slice none 0 0, .slice none 0 0] 64 46 46
  rw [hW]
  clear hW
  refine (Ls.to_any _ _ _ t.ws (hp.below hB) (by omega)).mono ?_
  rintro e w1 ⟨rfl, o0, hB1⟩
  have bx := bx.below hB1
  have br := br.below hB1
  have bo := bo.below hB1
  have hB := hB.trans (hB1.mono hB.size)
  have hgl := (o0.ge W.heap.size rfl).2
  obtain ⟨g0, hg0⟩ : ∃ g, W.heap.size = g := ⟨_, rfl⟩
  have hg0' : w.heap.size + 3 = g0 := by omega
  rw [hg0] at o0 hgl ⊢
  clear hB1 hg0
  have HO2 : Hid (∀ v, Ls.Own (w1.setCell ⟨w.heap.size + 1 + 1, 0, none⟩ v) g0 (.slice (some ⟨g0, 0, none⟩) t.ws.length t.ws.length) t.ws) := fun v => o0.kept (Li.grown_set _ _ _ _) (.inr (by simp [Value.ownBlock]; omega))
  have HBX : Hid (∀ v, Wr (w1.setCell ⟨w.heap.size + 1 + 1, 0, none⟩ v) w.heap.size 0 [.slice a t.ws.length c, .slice a' t.vs.length c']) := fun v => bx.setOther (by omega)
  have HBR : Hid (∀ v, Wr (w1.setCell ⟨w.heap.size + 1 + 1, 0, none⟩ v) (w.heap.size + 1) 0 [.slice none 0 0, .slice none 0 0]) := fun v => br.setOther (by omega)
  have HBO : Hid (∀ v, Wr (w1.setCell ⟨w.heap.size + 1 + 1, 0, none⟩ v) (w.heap.size + 2) 0 [v, .slice none 0 0]) := fun v => bo.set 0 (by simp) v
  have HBB : Hid (∀ v, Below w.heap.size w (w1.setCell ⟨w.heap.size + 1 + 1, 0, none⟩ v)) := fun v => hB.setCell (p := ⟨w.heap.size + 1 + 1, 0, none⟩) (by simp; omega) _
  obtain ⟨_, ⟨cx0, cx1⟩, _⟩ := wr2 bx
  obtain ⟨hbo, ⟨co0, co1⟩, fo0, fo1⟩ := wr2 bo
  have HG0 : Hid (w.heap.size + 3 = g0) := hg0'
  clear hg0' hsz bx br bo o0 hB
  go_wp2_with fail
  obtain ⟨w2, hw2⟩ : ∃ w2, w1.setCell ⟨w.heap.size + 1 + 1, 0, none⟩ (.slice (some ⟨g0, 0, none⟩) t.ws.length t.ws.length) = w2 := ⟨_, rfl⟩
  have o2 := HO2.out (.slice (some ⟨g0, 0, none⟩) t.ws.length t.ws.length)
  have bx := HBX.out (.slice (some ⟨g0, 0, none⟩) t.ws.length t.ws.length)
  have br := HBR.out (.slice (some ⟨g0, 0, none⟩) t.ws.length t.ws.length)
  have bo := HBO.out (.slice (some ⟨g0, 0, none⟩) t.ws.length t.ws.length)
  have hB2 := HBB.out (.slice (some ⟨g0, 0, none⟩) t.ws.length t.ws.length)
  have hs2 : w1.heap.size ≤ (w1.setCell ⟨w.heap.size + 1 + 1, 0, none⟩ (.slice (some ⟨g0, 0, none⟩) t.ws.length t.ws.length)).heap.size := by simp [World.setCell]
  rw [hw2] at o2 bx br bo hB2 hs2 ⊢
  clear hw2 HO2 HBX HBR HBO HBB cx0 cx1 co0 co1 fo0 fo1
  refine (Li.to_any _ _ _ t.vs (hx.below hB2) (by omega)).mono ?_
  rintro e w3 ⟨rfl, o1, hB3⟩
  have bx := bx.below hB3
  have br := br.below hB3
  have bo := bo.below hB3
  have hg0l : g0 < w2.heap.size := by omega
  obtain ⟨g1, hg1⟩ : ∃ g, w2.heap.size = g := ⟨_, rfl⟩
  rw [hg1] at o1 hg0l ⊢
  have o0 := o2.below hB3
  have hB := hB2.trans (hB3.mono hB2.size)
  have hs3 : w1.heap.size ≤ w3.heap.size := by have := hB3.size; omega
  have HN : Hid (g0 < g1) := hg0l
  clear hB3 hB2 o2 hs2 hg1 hg0l
  obtain ⟨_, ⟨cx0, cx1⟩, _⟩ := wr2 bx
  obtain ⟨_, ⟨co0, co1⟩, fo0, fo1⟩ := wr2 bo
  obtain ⟨_, ⟨cr0, cr1⟩, fr0, fr1⟩ := wr2 br
  have HO0 : Hid (∀ v v' v'', Ls.Own (((w3.setCell ⟨w.heap.size + 1 + 1, 1, none⟩ v).setCell ⟨w.heap.size + 1, 0, none⟩ v').setCell ⟨w.heap.size + 1, 1, none⟩ v'') w.heap.size (.slice (some ⟨g0, 0, none⟩) t.ws.length t.ws.length) t.ws) := fun v v' v'' => by
    have := HG0.out
    exact (((o0.kept (Li.grown_set _ _ _ _) (.inr (by simp [Value.ownBlock]; omega))).kept (Li.grown_set _ _ _ _) (.inr (by simp [Value.ownBlock]; omega))).kept (Li.grown_set _ _ _ _) (.inr (by simp [Value.ownBlock]; omega))).mono (by omega)
  have HO1 : Hid (∀ v v' v'', Li.Own (((w3.setCell ⟨w.heap.size + 1 + 1, 1, none⟩ v).setCell ⟨w.heap.size + 1, 0, none⟩ v').setCell ⟨w.heap.size + 1, 1, none⟩ v'') w.heap.size (.slice (some ⟨g1, 0, none⟩) t.vs.length t.vs.length) t.vs) := fun v v' v'' => by
    have := HG0.out
    have := HN.out
    exact (((o1.kept (Li.grown_set _ _ _ _) (.inr (by simp [Value.ownBlock]; omega))).kept (Li.grown_set _ _ _ _) (.inr (by simp [Value.ownBlock]; omega))).kept (Li.grown_set _ _ _ _) (.inr (by simp [Value.ownBlock]; omega))).mono (by omega)
  have HBB : Hid (∀ v v' v'', Below w.heap.size w (((w3.setCell ⟨w.heap.size + 1 + 1, 1, none⟩ v).setCell ⟨w.heap.size + 1, 0, none⟩ v').setCell ⟨w.heap.size + 1, 1, none⟩ v'')) := fun v v' v'' => ((hB.setCell (by simp; omega) _).setCell (by simp) _).setCell (by simp) _
  clear o0 o1 hB bx bo br
  go_wp2
  refine bodyPost_ret (v := .agg #[.slice (some ⟨g0, 0, none⟩) t.ws.length t.ws.length, .slice (some ⟨g1, 0, none⟩) t.vs.length t.vs.length]) (by rw [Tb.results_cell rfl]; go_simp) rfl ⟨_, _, rfl, HO0.out _ _ _, HO1.out _ _ _, ?_, HBB.out _ _ _⟩
  have := HN.out
  omega
/-- As far as k the places hold what they shall, behind it nothing. -/
def part (ts : List Kv) (k : Nat) : List Kv := ts.take k ++ List.replicate (ts.length - k) ⟨[], []⟩
theorem part_length (ts : List Kv) (k : Nat) (h : k ≤ ts.length) : (part ts k).length = ts.length := by simp [part]; omega
theorem part_zero (ts : List Kv) : part ts 0 = List.replicate ts.length ⟨[], []⟩ := by simp [part]
theorem part_all (ts : List Kv) : part ts ts.length = ts := by simp [part]
theorem part_set (ts : List Kv) (k : Nat) (h : k < ts.length) : (part ts k).set k ts[k] = part ts (k + 1) := by
  unfold part
  apply List.ext_getElem?
  intro i
  rw [List.getElem?_set]
  by_cases h1 : k = i
  · subst h1
    rw [if_pos rfl, if_pos (by simp; omega), List.getElem?_append_left (by simp; omega)]
    simp [h]
  · rw [if_neg h1]
    by_cases h2 : i < k
    · rw [List.getElem?_append_left (by simp; omega), List.getElem?_append_left (by simp; omega)]
      simp [h2, show i < k + 1 by omega]
    · rw [List.getElem?_append_right (by simp; omega), List.getElem?_append_right (by simp; omega)]
      simp only [List.length_take, List.getElem?_replicate]
      by_cases h3 : i < ts.length
      · rw [if_pos (by omega), if_pos (by omega)]
      · rw [if_neg (by omega), if_neg (by omega)]
theorem info_tab' : (Tryz.prog.info? 46).map (fun i => (i.zero, i.size, i.bytes)) = some (some (.agg #[.slice none 0 0, .slice none 0 0]), 2, 48) := by kernel_rfl
set_option maxHeartbeats 2000000 in
theorem toTabs (w : World) (a : Option Addr) (cap : Nat) (ts : List Kv) (hx : IsK w a ts) (hl : ts.length + ktot ts ≤ 1048576) :
    Calls Tryz.prog 17 #[.slice a ts.length cap] w fun e w' => ∃ v, e = .returned v ∧ OwK w' (fun k => w.heap.size ≤ k ∧ k < w'.heap.size) v ts ∧ Below w.heap.size w w' := by
  obtain ⟨i0, hi, hz0, hz1, hz2⟩ := info_parts info_tab'
  go_enter Tryz.func17, Tryz.ntmps17
  go_wp2_with (at_make; refine wpList_make_full _ rfl _ _ 31 rfl w.heap.size 46 i0 (.agg #[.slice none 0 0, .slice none 0 0]) 2 Tryz.underlying31 hi hz0 hz1 _ _ _ _ ts.length rfl rfl (by omega) (by omega) (by rw [hz2]; omega) (by unfold maxLen; omega) (Nat.le_refl _) ?_; intro w1 hown hgrow)
  have hB1 := below_none hgrow
  have ok0 : OwK w1 (fun k => w.heap.size ≤ k) (.slice (some ⟨w.heap.size, 0, none⟩) ts.length ts.length) (part ts 0) := by rw [part_zero]; exact owk_made hown (fun k e => by simp [Value.ownBlock] at e; omega)
  clear hown hgrow
  go_loopw [4] (fun i wr => ∃ k : Nat, k ≤ ts.length ∧ i = .int .i64 k ∧ OwK wr (fun k => w.heap.size ≤ k) (.slice (some ⟨w.heap.size, 0, none⟩) ts.length ts.length) (part ts k) ∧ Below w.heap.size w wr) (fun i _ => ts.length - (intOf i).toNat)
  case atStart => exact ⟨0, Nat.zero_le _, rfl, ok0, hB1⟩
  case round =>
    obtain ⟨k, hk, rfl, ok, hB⟩ := hrel
    clear ok0
    by_cases hlt : k < ts.length
    · rcases hx.below hB with rfl | ⟨b, off, rfl, hb, hc⟩
      · simp at hlt
      · obtain ⟨a0, c0, a1, c1, ⟨cx0, cx1⟩, i0, i1⟩ := hc k hlt
        have hz := ktot_at ts k hlt
        have hkp : k < (part ts k).length := by rw [part_length ts k hk]; exact hlt
        have HPS : Hid ((part ts k).set k ts[k] = part ts (k + 1)) := part_set ts k hlt
        have HPL : Hid ((part ts k).length = ts.length) := part_length ts k hk
        clear hc
        go_wp2_with fail
        refine (toTab _ _ _ _ _ ts[k] i0 i1 (by omega)).mono ?_
        rintro e w2 ⟨g0, g1, rfl, o0, o1, hap, hB2⟩
        obtain ⟨a9, c9, e9, g, y0, y1, e10, k0, k1, f0, f1, hgl, hBg, hgm, hput⟩ := (ok.bound.below hB2).put k hkp
        rw [HPL.out] at e9
        cases e9
        cases e10
        have HOK : Hid (OwK ((w2.setCell ⟨w.heap.size, k * 2, none⟩ (.slice (some ⟨g0, 0, none⟩) ts[k].ws.length ts[k].ws.length)).setCell ⟨w.heap.size, k * 2 + 1, none⟩ (.slice (some ⟨g1, 0, none⟩) ts[k].vs.length ts[k].vs.length)) (fun k => w.heap.size ≤ k) (.slice (some ⟨w.heap.size, 0, none⟩) ts.length ts.length) (part ts (k + 1))) := by
          show OwK _ _ _ _
          rw [← HPS.out]
          exact hput _ _ ts[k] o0 o1 (fun q e e' => by simp [Value.ownBlock] at e e'; omega) (fun q hq => by have := hB.size; omega)
        have hB := hB.trans (hB2.mono hB.size)
        clear hput o0 o1 hap hB2 cx0 cx1 i0 i1 ok hkp hBg hgm
        go_wp2
        go_roundw
        case rel => exact ⟨k + 1, by omega, by go_num, HOK.out, (hB.setCell (p := ⟨w.heap.size, k * 2, none⟩) (Nat.le_refl _) _).setCell (p := ⟨w.heap.size, k * 2 + 1, none⟩) (Nat.le_refl _) _⟩
        case measure => simp [intOf]; omega
    · obtain rfl : k = ts.length := by omega
      have HO : Hid (OwK wr (fun k => w.heap.size ≤ k ∧ k < wr.heap.size) (.slice (some ⟨w.heap.size, 0, none⟩) ts.length ts.length) ts) := by
        have := ok.bound
        rw [part_all] at this
        exact this
      clear ok
      go_wp2
      go_ret
      exact ⟨_, rfl, HO.out, hB⟩
end Go.Proofs.YtdileifjmlabfaaGreatDoor.Kt
