/-
  Contracts that the proof leans on, put together in the order in which they build.
-/
import Derived.Test.YtglllflleabmbaaGreatPart17
import Derived.Test.YtglllflleabmbaaGreatPart16
import Derived.Test.YtglllflleabmbaaGreatRows
import Derived.OrdersHeld
import Derived.WalkKit
/-
  What the model draws for tables: how a table stands behind the spoiling.
-/
namespace Go.Proofs.YtglllflleabmbaaGreat.Db
set_option maxRecDepth 100000
open Go.RowKit
open Go.Proofs.YtglllflleabmbaaGreat.Tb Go.Proofs.YtglllflleabmbaaGreat.Tk
open Go.Proofs.YtglllflleabmbaaGreat.Li (Own info_int)

def RowQ (w : World) (v0 v1 v2 : Value) (r : Row) : Prop := ∃ a0 c0 a1 c1, v0 = .slice a0 r.nums.length c0 ∧ v1 = .slice a1 r.cats.length c1 ∧ v2 = .int .i64 r.label ∧ Li.IsL w a0 r.nums ∧ Ls.IsS w a1 r.cats ∧ r.cats.length ≤ c1
def IsRQ (w : World) (a : Option Addr) (rs : List Row) : Prop :=
 rs = [] ∨ ∃ b off, a = some ⟨b, off, none⟩ ∧ b < w.heap.size ∧ ∀ j (hj : j < rs.length), ∃ v0 v1 v2, (w.cell? ⟨b, off + j * 3, none⟩ = some v0 ∧ w.cell? ⟨b, off + j * 3 + 1, none⟩ = some v1 ∧ w.cell? ⟨b, off + j * 3 + 2, none⟩ = some v2) ∧ RowQ w v0 v1 v2 rs[j]
theorem rowQ_own {w : World} {B B' : Nat} {u0 u1 : Value} {r : Row} (o0 : Li.Own w B u0 r.nums) (o1 : Ls.Own w B' u1 r.cats) : RowQ w u0 u1 (.int .i64 r.label) r := by
 obtain ⟨a0, q0, e0, i0⟩ := o0.isl
 obtain ⟨a1, q1, e1, i1⟩ := o1.iss
 refine ⟨a0, q0, a1, q1, e0, e1, rfl, i0, i1, ?_⟩
 subst e1
 rcases o1.2 with ⟨e, h0⟩ | ⟨_, _, _, e, _, _, hle, _⟩
 ·
  omega
 ·
  injection e with _ _ e; rw [e]; exact hle
theorem OwnT.isq {w : World} {lo hi : Nat} {v : Value} {rs : List Row} (h : OwnT w lo hi v rs) : ∃ a cap, v = .slice a rs.length cap ∧ IsRQ w a rs := by
 obtain ⟨g, xs, V0, V1, hg, hown, ⟨hn, _⟩, _⟩ := h
 have hown' := hown
 rcases hown.2 with ⟨rfl, h0⟩ | ⟨g', cap, cur, rfl, hb, hh, _⟩
 ·
  exact ⟨none, 0, by rw [h0], .inl (List.length_eq_zero_iff.1 h0)⟩
 ·
  obtain ⟨rfl, _⟩ := hg g' rfl
  have hlt : g' < w.heap.size := (Array.getElem?_eq_some_iff.1 hh).1
  refine ⟨_, cap, rfl, .inr ⟨g', 0, rfl, hlt, fun j hj => ?_⟩⟩
  obtain ⟨⟨c0, c1, c2⟩, o0, o1⟩ := hn j hj hj
  refine ⟨V0 j, V1 j, .int .i64 rs[j].label, ⟨?_, ?_, ?_⟩, rowQ_own o0 o1⟩
  ·
   rw [Nat.zero_add, World.ownsRow.cellAt hown' _ (by omega), c0]
  ·
   rw [Nat.zero_add, World.ownsRow.cellAt hown' _ (by omega), c1]
  ·
   rw [Nat.zero_add, World.ownsRow.cellAt hown' _ (by omega), c2]
theorem isr_row0 {W W' : World} {lo g cap : Nat} {V0 V1 : Nat → Value} {xs : List Value} {r0 r' : Row} {rs : List Row} {u0 u1 u2 : Value}
  (hown : W.ownsRow lo 50 3 (.slice (some ⟨g, 0, none⟩) (r0 :: rs).length cap) (r0 :: rs).length xs) (hN : Nest W lo g V0 V1 xs (r0 :: rs) (r0 :: rs).length)
  (hs : W.heap.size ≤ W'.heap.size)
  (hrest : ∀ k, lo ≤ k → k < W.heap.size → k ≠ g → (V0 0).ownBlock ≠ some k → (V1 0).ownBlock ≠ some k → W'.heap[k]? = W.heap[k]?)
  (hcells : ∀ j, 3 ≤ j → W'.cell? ⟨g, j, none⟩ = W.cell? ⟨g, j, none⟩)
  (c0 : W'.cell? ⟨g, 0, none⟩ = some u0) (c1 : W'.cell? ⟨g, 1, none⟩ = some u1) (c2 : W'.cell? ⟨g, 2, none⟩ = some u2) (hr : RowQ W' u0 u1 u2 r') :
  IsRQ W' (some ⟨g, 0, none⟩) (r' :: rs) := by
 have hgl : g < W.heap.size := (World.ownsRow.lt hown g rfl).2
 refine .inr ⟨g, 0, rfl, by omega, fun j hj => ?_⟩
 cases j with
 | zero => exact ⟨u0, u1, u2, ⟨by simpa using c0, by simpa using c1, by simpa using c2⟩, hr⟩
 | succ j =>
  obtain ⟨hN1, hS1, hS2⟩ := hN
  have hj' : j + 1 < (r0 :: rs).length := by simpa using hj
  obtain ⟨⟨d0, d1, d2⟩, o0, o1⟩ := hN1 (j + 1) hj' hj'
  have hsep : ∀ (u : Value), apart (V0 0) u → apart (V1 0) u → u.ownBlock ≠ some g → (∀ k, u.ownBlock = some k → lo ≤ k ∧ k < W.heap.size) → ∀ k, u.ownBlock = some k → W'.heap[k]? = W.heap[k]? := by
   intro u a0 a1 hg hb k hk
   refine hrest k (hb k hk).1 (hb k hk).2 (fun e => hg (by rw [hk, e])) (fun e => ?_) (fun e => ?_)
   ·
    rcases a0 with h | h
    ·
     rw [h] at e; cases e
    ·
     exact h (by rw [e, hk])
   ·
    rcases a1 with h | h
    ·
     rw [h] at e; cases e
    ·
     exact h (by rw [e, hk])
  have z : 0 < (r0 :: rs).length := by simp
  have s0 := hS2 0 (j + 1) z hj'
  have s1 := hS2 (j + 1) 0 hj' z
  have a10 : apart (V1 0) (V0 (j + 1)) := apart_of fun k e e' => by
   rcases s1.2 with h | h
   ·
    rw [h] at e'; cases e'
   ·
    exact h (by rw [e, e'])
  have p0 : Li.Own W' lo (V0 (j + 1)) _ := ownsRow_at o0 (hsep _ (s0.1 (by omega)).1 a10 (hS1 _ hj').1 o0.ge)
  have p1 : Ls.Own W' lo (V1 (j + 1)) _ := ownsRow_at o1 (hsep _ s0.2 (s0.1 (by omega)).2 (hS1 _ hj').2 o1.ge)
  have hxl := hown.1
  refine ⟨V0 (j + 1), V1 (j + 1), _, ⟨?_, ?_, ?_⟩, rowQ_own p0 p1⟩
  ·
   rw [Nat.zero_add, hcells _ (by omega), World.ownsRow.cellAt hown _ (by omega)]; exact d0
  ·
   rw [Nat.zero_add, hcells _ (by omega), World.ownsRow.cellAt hown _ (by omega)]; exact d1
  ·
   rw [Nat.zero_add, hcells _ (by omega), World.ownsRow.cellAt hown _ (by omega)]; exact d2
def lenOf : Option Value → Nat
 | some (.slice _ n _) => n
 | _ => 0

def ReadT (W : World) (R : Nat) (a : Option Addr) (rs : List Row) : Prop := ∀ W' : World, W.heap.size ≤ W'.heap.size → (∀ k, k < W.heap.size → R < k → W'.heap[k]? = W.heap[k]?) → IsRQ W' a rs
def Any (w : World) (b : Nat) (K : Int) (e : Ending) (w' : World) : Prop :=
 ∃ (n c : Int) (a : Option Addr) (cap : Nat) (rs : List Row), e = .returned (.agg #[.int .i64 n, .int .i64 c, .slice a rs.length cap]) ∧ (rs.length ≤ 41 ∧ ∀ r ∈ rs, Row.sz r ≤ 60 ∧ Row.fits r) ∧ ReadT w' w.heap.size a rs ∧ w.grownBy w' (some b) ∧ Cu.Cur w' b (K + 2000)
theorem ReadT.alloc {W : World} {R : Nat} {a : Option Addr} {rs : List Row} (h : ReadT W R a rs) (o : Obj) : ReadT (W.alloc o) R a rs := fun W' hs hk =>
 h W' (by simp at hs; omega) (fun k hk1 hk2 => by rw [hk k (by simp; omega) hk2, Below.heap_alloc _ _ _ hk1])
theorem ReadT.isq {W : World} {R : Nat} {a : Option Addr} {rs : List Row} (h : ReadT W R a rs) : IsRQ W a rs := h W (Nat.le_refl _) (fun _ _ _ => rfl)
theorem OwnX.read {x : Nat} {w W : World} {hi cap len : Nat} {a : Option Addr} {rs : List Row} (ho : OwnX x W (w.heap.size + 1) hi (.slice a len cap) rs) : ReadT W w.heap.size a rs := fun W' _ hk => by
 obtain ⟨a', cap', e, hr⟩ := OwnT.isq (ho.keptAt (w1 := W') (fun k h1 _ h3 _ => hk k h3 (by omega))).own
 simp at e
 rw [e.1]; exact hr
theorem fin_any {w W : World} {b x len : Nat} {K K' n c : Int} {a : Option Addr} {cap : Nat} {rs : List Row} {v0 v1 v2 : Value} (h : Tt w b x K' n c (.slice a len cap) W) (hlen : len = rs.length) (hr : ReadT W w.heap.size a rs) (hb : b < w.heap.size)
  (hB : rs.length ≤ 41 ∧ ∀ r ∈ rs, Row.sz r ≤ 60 ∧ Row.fits r) (hK : K' ≤ K + 2000) :
  Any w b K (.returned (.agg #[.int .i64 n, .int .i64 c, .slice a len cap])) (((W.setCell ⟨w.heap.size, 0, none⟩ v0).setCell ⟨w.heap.size, 1, none⟩ v1).setCell ⟨w.heap.size, 2, none⟩ v2) := by
 refine ⟨n, c, a, cap, rs, by rw [hlen], hB, (fun W' hs hk' => hr W' (by simpa [World.setCell] using hs) (fun k hk hne => ?_)), grown_setN (grown_setN (grown_setN h.gr (by omega)) (by omega)) (by omega), (cur_set (cur_set (cur_set h.cu (by omega)) (by omega)) (by omega)).mono hK⟩
 have e0 := (grown_set' W w.heap.size 0 v0).block k (by omega) (by simp; omega)
 have e1 := (grown_set' (W.setCell ⟨w.heap.size, 0, none⟩ v0) w.heap.size 1 v1).block k (by simp [World.setCell]; omega) (by simp; omega)
 have e2 := (grown_set' ((W.setCell ⟨w.heap.size, 0, none⟩ v0).setCell ⟨w.heap.size, 1, none⟩ v1) w.heap.size 2 v2).block k (by simp [World.setCell]; omega) (by simp; omega)
 rw [hk' k (by simpa [World.setCell] using hk) hne, e2, e1, e0]
theorem le60 {rs : List Row} (h : rs.length ≤ 11 ∧ ∀ r ∈ rs, Row.sz r ≤ 30 ∧ Row.fits r) : rs.length ≤ 41 ∧ ∀ r ∈ rs, Row.sz r ≤ 60 ∧ Row.fits r :=
 ⟨by omega, fun r hr => ⟨by have := (h.2 r hr).1; omega, (h.2 r hr).2⟩⟩
theorem fin_same {w W : World} {b x hi : Nat} {K K' n c : Int} {a : Option Addr} {cap : Nat} {rs : List Row} {v0 v1 v2 : Value} (h : Tt w b x K' n c (.slice a rs.length cap) W) (ho : OwnX x W (w.heap.size + 1) hi (.slice a rs.length cap) rs) (hb : b < w.heap.size)
  (hB : rs.length ≤ 11 ∧ ∀ r ∈ rs, Row.sz r ≤ 30 ∧ Row.fits r) (hK : K' ≤ K + 2000) :
  Any w b K (.returned (.agg #[.int .i64 n, .int .i64 c, .slice a rs.length cap])) (((W.setCell ⟨w.heap.size, 0, none⟩ v0).setCell ⟨w.heap.size, 1, none⟩ v1).setCell ⟨w.heap.size, 2, none⟩ v2) :=
 fin_any h rfl ho.read hb (le60 hB) hK
theorem off_cell {W : World} {g o j : Nat} {v : Value} (h : ¬ j = o) : (W.setCell ⟨g, o, none⟩ v).cell? ⟨g, j, none⟩ = W.cell? ⟨g, j, none⟩ := by
 rw [World.cell?_setCell_other _ _ _ _ (fun e => h (congrArg Addr.off e).symm)]
theorem read_row0 {W W1 : World} {R g cap : Nat} {V0 V1 : Nat → Value} {xs : List Value} {r0 r' : Row} {rs : List Row} {u0 u1 : Value}
  (hown : W.ownsRow (R + 1) 50 3 (.slice (some ⟨g, 0, none⟩) (r0 :: rs).length cap) (r0 :: rs).length xs) (hN : Nest W (R + 1) g V0 V1 xs (r0 :: rs) (r0 :: rs).length)
  (hs : W.heap.size ≤ W1.heap.size)
  (hrest : ∀ k, R + 1 ≤ k → k < W.heap.size → k ≠ g → (V0 0).ownBlock ≠ some k → (V1 0).ownBlock ≠ some k → W1.heap[k]? = W.heap[k]?)
  (hcells : ∀ j, 3 ≤ j → W1.cell? ⟨g, j, none⟩ = W.cell? ⟨g, j, none⟩)
  (c0 : W1.cell? ⟨g, 0, none⟩ = some u0) (c1 : W1.cell? ⟨g, 1, none⟩ = some u1) (c2 : W1.cell? ⟨g, 2, none⟩ = some (.int .i64 r'.label))
  (o0 : Li.Own W1 (R + 1) u0 r'.nums) (o1 : Ls.Own W1 (R + 1) u1 r'.cats) : ReadT W1 R (some ⟨g, 0, none⟩) (r' :: rs) := fun W' hs' hk' => by
 have hgl := World.ownsRow.lt hown g rfl
 have eg : ∀ j, W'.cell? ⟨g, j, none⟩ = W1.cell? ⟨g, j, none⟩ := fun j => World.cell?_of_block (a := ⟨g, j, none⟩) (hk' g (by omega) (by omega))
 refine isr_row0 (u0 := u0) (u1 := u1) (u2 := .int .i64 r'.label) hown hN (by omega) (fun k h1 h2 h3 h4 h5 => ?_) (fun j hj => ?_) ?_ ?_ ?_ (rowQ_own (B := R + 1) (B' := R + 1) ?_ ?_)
 ·
  rw [hk' k (by omega) (by omega)]; exact hrest k h1 h2 h3 h4 h5
 ·
  rw [eg]; exact hcells j hj
 ·
  rw [eg]; exact c0
 ·
  rw [eg]; exact c1
 ·
  rw [eg]; exact c2
 ·
  exact ownsRow_at o0 (fun k e => hk' k (o0.ge k e).2 (by have := (o0.ge k e).1; omega))
 ·
  exact ownsRow_at o1 (fun k e => hk' k (o1.ge k e).2 (by have := (o1.ge k e).1; omega))
theorem Tt.setAt {w W : World} {b x g o : Nat} {K n c : Int} {u v : Value} (h : Tt w b x K n c u W) (hb : b < w.heap.size) (hg : w.heap.size + 1 ≤ g) (hx : g ≠ x) : Tt w b x K n c u (W.setCell ⟨g, o, none⟩ v) :=
 h.grow' hb (grown_set' _ _ _ _) (fun k e => by cases e; exact ⟨hg, hx⟩)
theorem bnd_row {r0 r' : Row} {rs : List Row} (hB : (r0 :: rs).length ≤ 11 ∧ ∀ r ∈ r0 :: rs, Row.sz r ≤ 30 ∧ Row.fits r) (hr : Row.sz r' ≤ 60 ∧ Row.fits r') : (r' :: rs).length ≤ 41 ∧ ∀ r ∈ r' :: rs, Row.sz r ≤ 60 ∧ Row.fits r := by
 refine ⟨by have := hB.1; simp at this ⊢; omega, fun r h => ?_⟩
 rcases List.mem_cons.1 h with rfl | h
 ·
  exact hr
 ·
  have := hB.2 r (by simp [h])
  exact ⟨by omega, this.2⟩
theorem read_lab {w W : World} {x hi len cap g : Nat} {q : Int} {rs : List Row} (hlen : len = rs.length) (ho : OwnX x W (w.heap.size + 1) hi (.slice (some ⟨g, 0, none⟩) len cap) rs) (hpos : 0 < len)
  (hB : rs.length ≤ 11 ∧ ∀ r ∈ rs, Row.sz r ≤ 30 ∧ Row.fits r) :
  ∃ rs', len = rs'.length ∧ (rs'.length ≤ 41 ∧ ∀ r ∈ rs', Row.sz r ≤ 60 ∧ Row.fits r) ∧ ReadT (W.setCell ⟨g, 2, none⟩ (.int .i64 q)) w.heap.size (some ⟨g, 0, none⟩) rs' := by
 match rs, hlen, ho, hB with
 | [], hlen, _, _ => rw [hlen] at hpos; simp at hpos
 | r0 :: rs, hlen, ho, hB =>
  subst hlen
  obtain ⟨g', xs, V0, V1, ⟨hg, hown, hN, hv⟩, hx, hvx⟩ := ho
  obtain rfl : g = g' := (hg g rfl).1
  have z : 0 < (r0 :: rs).length := by simp
  obtain ⟨⟨d0, d1, d2⟩, p0, p1⟩ := hN.1 0 z z
  have hc : ∀ j, j < 3 → W.cell? ⟨g, j, none⟩ = xs[j]? := fun j hj => World.ownsRow.cellAt hown _ (by simp; omega)
  have bnd := hB.2 r0 (by simp)
  refine ⟨⟨r0.nums, r0.cats, q⟩ :: rs, rfl, bnd_row hB ⟨Nat.le_trans bnd.1 (by decide), bnd.2⟩, ?_⟩
  refine read_row0 hown hN (by simp [World.setCell]) (fun k _ h2 h3 _ _ => (grown_set' W g 2 _).block k h2 (by simp; exact h3)) (fun j hj => off_cell (by omega)) (by rw [off_cell (by decide), hc 0 (by decide)]; exact d0) (by rw [off_cell (by decide), hc 1 (by decide)]; exact d1) ?_ ?_ ?_
  ·
   exact World.cell?_setCell_same _ _ _ ((hc 2 (by decide)).trans d2)
  ·
   exact p0.kept (grown_set' _ _ _ _) (.inr (hN.2.1 0 z).1)
  ·
   exact p1.kept (grown_set' _ _ _ _) (.inr (hN.2.1 0 z).2)
def CompX (x : Nat) (w : World) (lo hi : Nat) (v : Value) (rs : List Row) (g : Nat) (xs : List Value) (V0 V1 : Nat → Value) : Prop :=
 ((∀ k, v.ownBlock = some k → k = g ∧ k < hi) ∧ w.ownsRow lo 50 3 v rs.length xs ∧ Nest w lo g V0 V1 xs rs rs.length ∧
  ∀ i, i < rs.length → (∀ b, (V0 i).ownBlock = some b → b < hi) ∧ (∀ b, (V1 i).ownBlock = some b → b < hi)) ∧
  v.ownBlock ≠ some x ∧ ∀ i, i < rs.length → (V0 i).ownBlock ≠ some x ∧ (V1 i).ownBlock ≠ some x
theorem CompX.keptAt {x : Nat} {w w1 : World} {lo hi g : Nat} {v : Value} {rs : List Row} {xs : List Value} {V0 V1 : Nat → Value} (h : CompX x w lo hi v rs g xs V0 V1) (hk : ∀ k, lo ≤ k → k < hi → k < w.heap.size → k ≠ x → w1.heap[k]? = w.heap[k]?) : CompX x w1 lo hi v rs g xs V0 V1 := by
 obtain ⟨⟨hg, hown, ⟨hn, hs⟩, hv⟩, hx, hvx⟩ := h
 refine ⟨⟨hg, ownsRow_at hown (fun k e => hk k (World.ownsRow.lt hown k e).1 (hg k e).2 (World.ownsRow.lt hown k e).2 (fun e' => hx (by rw [e, e']))), ⟨fun i hi' hik => ?_, hs⟩, hv⟩, hx, hvx⟩
 obtain ⟨hc, o0, o1⟩ := hn i hi' hik
 exact ⟨hc, ownsRow_at o0 (fun k e => hk k (o0.ge k e).1 ((hv i hi').1 k e) (o0.ge k e).2 (fun e' => (hvx i hi').1 (by rw [e, e']))), ownsRow_at o1 (fun k e => hk k (o1.ge k e).1 ((hv i hi').2 k e) (o1.ge k e).2 (fun e' => (hvx i hi').2 (by rw [e, e'])))⟩
theorem CompX.off {x : Nat} {w w1 : World} {lo hi b g : Nat} {v : Value} {rs : List Row} {xs : List Value} {V0 V1 : Nat → Value} (h : CompX x w lo hi v rs g xs V0 V1) (hg : w.grownBy w1 (some b)) (hb : b < lo ∨ hi ≤ b ∨ b = x) : CompX x w1 lo hi v rs g xs V0 V1 :=
 h.keptAt fun k h1 h2 hk hx => hg.block k hk (by simp; omega)
theorem CompX.alloc {x : Nat} {w : World} {lo hi g : Nat} {v : Value} {rs : List Row} {xs : List Value} {V0 V1 : Nat → Value} (h : CompX x w lo hi v rs g xs V0 V1) (o : Obj) : CompX x (w.alloc o) lo hi v rs g xs V0 V1 :=
 h.keptAt fun _ _ _ hk _ => Below.heap_alloc _ _ _ hk
theorem CompX.cells {x : Nat} {w : World} {lo hi g cap : Nat} {rs : List Row} {xs : List Value} {V0 V1 : Nat → Value} (h : CompX x w lo hi (.slice (some ⟨g, 0, none⟩) rs.length cap) rs g xs V0 V1) (h0 : 0 < rs.length) :
  w.cell? ⟨g, 0, none⟩ = some (V0 0) ∧ w.cell? ⟨g, 1, none⟩ = some (V1 0) ∧ w.cell? ⟨g, 2, none⟩ = some (.int .i64 rs[0].label) ∧ (∀ j, w.frozen? ⟨g, j, none⟩ = false) ∧ lo ≤ g ∧ g < w.heap.size ∧ ¬ g = x := by
 obtain ⟨⟨hg, hown, hN, hv⟩, hx, hvx⟩ := h
 obtain ⟨⟨d0, d1, d2⟩, _, _⟩ := hN.1 0 h0 h0
 have hl := World.ownsRow.lt hown g rfl
 exact ⟨(World.ownsRow.cellAt hown 0 (by omega)).trans (by simpa using d0), (World.ownsRow.cellAt hown 1 (by omega)).trans (by simpa using d1), (World.ownsRow.cellAt hown 2 (by omega)).trans (by simpa using d2), World.ownsRow.frozenAt hown, hl.1, hl.2, fun e => hx (by rw [← e]; rfl)⟩
theorem apart_symm {u v : Value} (h : apart u v) : apart v u := apart_of fun k e e' => by
 rcases h with h | h
 ·
  rw [h] at e'; cases e'
 ·
  exact h (by rw [e, e'])
theorem read_nums {w W w5 : World} {x hi len cap g g' cap' nl : Nat} {y : Int} {rs : List Row} {xs : List Value} {V0 V1 : Nat → Value} (hlen : len = rs.length) (ho : CompX x W (w.heap.size + 1) hi (.slice (some ⟨g, 0, none⟩) len cap) rs g xs V0 V1) (hpos : 0 < rs.length)
  (hB : rs.length ≤ 11 ∧ ∀ r ∈ rs, Row.sz r ≤ 30 ∧ Row.fits r) (hnl : rs[0].nums.length = nl)
  (hgrow : W.grownBy w5 (V0 0).ownBlock) (hp : (V0 0).ownBlock = some g' ∨ g' = W.heap.size)
  (hown5 : w5.ownsRow (w.heap.size + 1) 3 1 (.slice (some ⟨g', 0, none⟩) (nl + 1) cap') (nl + 1) (Li.iv rs[0].nums ++ [.int .i64 y])) :
  ∃ rs', len = rs'.length ∧ (rs'.length ≤ 41 ∧ ∀ r ∈ rs', Row.sz r ≤ 60 ∧ Row.fits r) ∧ ReadT (w5.setCell ⟨g, 0, none⟩ (.slice (some ⟨g', 0, none⟩) (nl + 1) cap')) w.heap.size (some ⟨g, 0, none⟩) rs' := by
 match rs, hlen, ho, hB, hpos, hnl, hown5 with
 | r0 :: rs, hlen, ho, hB, _, hnl, hown5 =>
  subst hlen
  obtain ⟨⟨hg, hown, hN, hv⟩, hx, hvx⟩ := ho
  have z : 0 < (r0 :: rs).length := by simp
  obtain ⟨⟨d0, d1, d2⟩, p0, p1⟩ := hN.1 0 z z
  have hgl := World.ownsRow.lt hown g rfl
  have f0 := (hN.2.1 0 z).1
  have f1 := (hN.2.1 0 z).2
  have hc : ∀ j, j < 3 → W.cell? ⟨g, j, none⟩ = xs[j]? := fun j hj => World.ownsRow.cellAt hown _ (by simp; omega)
  have eb := hgrow.block g hgl.2 (fun e => f0 e.symm)
  have eg : ∀ j, w5.cell? ⟨g, j, none⟩ = W.cell? ⟨g, j, none⟩ := fun j => World.cell?_of_block (a := ⟨g, j, none⟩) eb
  have bnd := hB.2 r0 (by simp)
  have hgg : ¬ g' = g := fun e => by
   rcases hp with h | h
   ·
    rw [e] at h; exact f0 h
   ·
    omega
  have hsz : r0.nums.length + (r0.cats.length + lets r0.cats) ≤ 30 := bnd.1
  refine ⟨⟨r0.nums ++ [y], r0.cats, r0.label⟩ :: rs, rfl, bnd_row hB ⟨?_, ?_, bnd.2.2⟩, ?_⟩
  ·
   show (r0.nums ++ [y]).length + (r0.cats.length + lets r0.cats) ≤ 60
   simp; omega
  ·
   show (r0.nums ++ [y]).length ≤ _
   simp; omega
  ·
   have hs5 := hgrow.size
   refine read_row0 hown hN (by simp [World.setCell]; omega) (fun k _ h2 h3 h4 _ => ?_) (fun j hj => (off_cell (by omega)).trans (eg j)) (World.cell?_setCell_same _ _ _ (((eg 0).trans (hc 0 (by decide))).trans d0)) (by rw [off_cell (by decide), eg, hc 1 (by decide)]; exact d1) (by rw [off_cell (by decide), eg, hc 2 (by decide)]; exact d2) ?_ ?_
   ·
    rw [(grown_set' w5 g 0 _).block k (by omega) (by simp; exact h3)]
    exact hgrow.block k h2 (fun e => h4 e.symm)
   ·
    exact Li.Own.kept (own_snoc hnl hown5) (grown_set' _ _ _ _) (.inr (by simpa [Value.ownBlock] using hgg))
   ·
    exact (p1.kept hgrow (apart_symm (hN.2.2 0 0 z z).2)).kept (grown_set' _ _ _ _) (.inr f1)
theorem read_cats {w W w5 : World} {x hi len cap g g' cap' nl : Nat} {y : ByteArray} {rs : List Row} {xs : List Value} {V0 V1 : Nat → Value} (hlen : len = rs.length) (ho : CompX x W (w.heap.size + 1) hi (.slice (some ⟨g, 0, none⟩) len cap) rs g xs V0 V1) (hpos : 0 < rs.length)
  (hB : rs.length ≤ 11 ∧ ∀ r ∈ rs, Row.sz r ≤ 30 ∧ Row.fits r) (hnl : rs[0].cats.length = nl) (hy : y.size ≤ 13)
  (hgrow : W.grownBy w5 (V1 0).ownBlock) (hp : (V1 0).ownBlock = some g' ∨ g' = W.heap.size)
  (hown5 : w5.ownsRow (w.heap.size + 1) 9 1 (.slice (some ⟨g', 0, none⟩) (nl + 1) cap') (nl + 1) (Ls.sv rs[0].cats ++ [.string y])) :
  ∃ rs', len = rs'.length ∧ (rs'.length ≤ 41 ∧ ∀ r ∈ rs', Row.sz r ≤ 60 ∧ Row.fits r) ∧ ReadT (w5.setCell ⟨g, 1, none⟩ (.slice (some ⟨g', 0, none⟩) (nl + 1) cap')) w.heap.size (some ⟨g, 0, none⟩) rs' := by
 match rs, hlen, ho, hB, hpos, hnl, hown5 with
 | r0 :: rs, hlen, ho, hB, _, hnl, hown5 =>
  subst hlen
  obtain ⟨⟨hg, hown, hN, hv⟩, hx, hvx⟩ := ho
  have z : 0 < (r0 :: rs).length := by simp
  obtain ⟨⟨d0, d1, d2⟩, p0, p1⟩ := hN.1 0 z z
  have hgl := World.ownsRow.lt hown g rfl
  have f0 := (hN.2.1 0 z).1
  have f1 := (hN.2.1 0 z).2
  have hc : ∀ j, j < 3 → W.cell? ⟨g, j, none⟩ = xs[j]? := fun j hj => World.ownsRow.cellAt hown _ (by simp; omega)
  have eb := hgrow.block g hgl.2 (fun e => f1 e.symm)
  have eg : ∀ j, w5.cell? ⟨g, j, none⟩ = W.cell? ⟨g, j, none⟩ := fun j => World.cell?_of_block (a := ⟨g, j, none⟩) eb
  have bnd := hB.2 r0 (by simp)
  have hgg : ¬ g' = g := fun e => by
   rcases hp with h | h
   ·
    rw [e] at h; exact f1 h
   ·
    omega
  have hsz : r0.nums.length + (r0.cats.length + lets r0.cats) ≤ 30 := bnd.1
  have hlt : lets (r0.cats ++ [y]) = lets r0.cats + y.size := by
   generalize r0.cats = ws
   induction ws with
   | nil => simp [lets]
   | cons s ws ih => simp only [List.cons_append, lets]; omega
  refine ⟨⟨r0.nums, r0.cats ++ [y], r0.label⟩ :: rs, rfl, bnd_row hB ⟨?_, bnd.2.1, ?_, ?_⟩, ?_⟩
  ·
   show r0.nums.length + ((r0.cats ++ [y]).length + lets (r0.cats ++ [y])) ≤ 60
   rw [hlt]
   simp; omega
  ·
   show (r0.cats ++ [y]).length ≤ _
   simp; omega
  ·
   intro j hj
   have hj' : j < (r0.cats ++ [y]).length := hj
   show (r0.cats ++ [y])[j].size ≤ _
   rcases Nat.lt_or_ge j r0.cats.length with h | h
   ·
    rw [List.getElem_append_left h]; exact bnd.2.2.2 j h
   ·
    rw [List.getElem_append_right h]; simp; omega
  ·
   have hs5 := hgrow.size
   refine read_row0 hown hN (by simp [World.setCell]; omega) (fun k _ h2 h3 _ h4 => ?_) (fun j hj => (off_cell (by omega)).trans (eg j)) (by rw [off_cell (by decide), eg, hc 0 (by decide)]; exact d0) (World.cell?_setCell_same _ _ _ (((eg 1).trans (hc 1 (by decide))).trans d1)) (by rw [off_cell (by decide), eg, hc 2 (by decide)]; exact d2) ?_ ?_
   ·
    rw [(grown_set' w5 g 1 _).block k (by omega) (by simp; exact h3)]
    exact hgrow.block k h2 (fun e => h4 e.symm)
   ·
    exact (p0.kept hgrow (hN.2.2 0 0 z z).2).kept (grown_set' _ _ _ _) (.inr f0)
   ·
    exact Ls.Own.kept (sown_snoc hnl hown5) (grown_set' _ _ _ _) (.inr (by simpa [Value.ownBlock] using hgg))
theorem pushX {W w5 : World} {x lo H g0 g n cap : Nat} {V0 V1 : Nat → Value} {xs : List Value} {v u0 u1 : Value} {rs : List Row} {r : Row} (hn : rs.length = n) (h : CompX x W lo H v rs g0 xs V0 V1)
  (o0 : Li.Own W H u0 r.nums) (o1 : Ls.Own W H u1 r.cats) (ha : apart u0 u1) (hlo : lo ≤ H) (hx : x < H) (hH : H ≤ W.heap.size)
  (hgrow : W.grownBy w5 v.ownBlock) (hpos : v.ownBlock = some g ∨ g = W.heap.size) (hglt : g < w5.heap.size)
  (hown5 : w5.ownsRow lo 50 3 (.slice (some ⟨g, 0, none⟩) (n + 1) cap) (n + 1) (xs ++ [u0, u1, .int .i64 r.label])) :
  OwnX x w5 lo w5.heap.size (.slice (some ⟨g, 0, none⟩) (n + 1) cap) (rs ++ [r]) := by
 obtain ⟨⟨hg, hown, hN, hv⟩, hvx, hix⟩ := h
 refine ⟨g, _, _, _, pushC hn hg hown hN o0 o1 ha hlo hv hgrow hpos hglt hown5, fun e => ?_, fun i hi => ?_⟩
 ·
  have e : g = x := by simpa [Value.ownBlock] using e
  rcases hpos with h | h
  ·
   rw [e] at h; exact hvx h
  ·
   omega
 ·
  simp only [List.length_append, List.length_singleton] at hi
  by_cases e : i = n
  ·
   subst e
   rw [upd_at, upd_at]
   exact ⟨fun e => by have := (o0.ge x e).1; omega, fun e => by have := (o1.ge x e).1; omega⟩
  ·
   rw [upd_off _ e, upd_off _ e]
   exact hix i (by omega)
def okT : Value → Bool
 | .string s => decide (s.size ≤ 13)
 | _ => false
theorem okT_str {v : Value} (h : okT v = true) : ∃ s : ByteArray, v = .string s ∧ s.size ≤ 13 := by
 cases v <;> simp [okT] at h
 exact ⟨_, rfl, h⟩
end Go.Proofs.YtglllflleabmbaaGreat.Db
/-
  A model and a table that are being drawn.
-/
namespace Go.Proofs.YtglllflleabmbaaGreat.Dm
set_option maxRecDepth 100000
open Go.RowKit
open Go.Proofs.YtglllflleabmbaaGreat.Tb Go.Proofs.YtglllflleabmbaaGreat.Tk
open Go.Proofs.YtglllflleabmbaaGreat.Md (M OwM wr6 wr3)
open Go.Proofs.YtglllflleabmbaaGreat.Tt (set6)
open Go.Proofs.YtglllflleabmbaaGreat.Db (ReadT)
open Go.Proofs.YtglllflleabmbaaGreat.Sv (Wr Fr fr_grown fr_below new1 new2 new3 wr_new wr2)
set_option linter.unusedVariables false
def y3 : List Value := [.int .i64 0, .int .i64 0, .slice none 0 0]
def tc (n c : Int) (u : Value) : List Value := [.int .i64 n, .int .i64 c, u]
structure Mt (w wr : World) (b X2 X5 X6 : Nat) (K : Int) (m : M) (vk vt : Value) (n c : Int) (u : Value) : Prop where
 cu : Cu.Cur wr b K
 bw : Below w.heap.size w wr
 x2 : w.heap.size = X2
 b2 : X2 + 1 < b
 b5 : b < X5
 b6 : X5 < X6
 r2 : Wr wr X2 0 z6
 r3 : Wr wr (X2 + 1) 0 y3
 w5 : Wr wr X5 0 (mc m vk vt)
 w6 : Wr wr X6 0 (tc n c u)
 om : OwM wr (fun q => b < q ∧ q < X5) vk vt m
 sz : m.sz ≤ 4500
section
variable {w wr wx : World} {b X2 X5 X6 : Nat} {K K' : Int} {m : M} {vk vt u u' : Value} {n c n' c' : Int}
theorem Mt.lower (h : Mt w wr b X2 X5 X6 K m vk vt n c u) (hK : K ≤ K') : Mt w wr b X2 X5 X6 K' m vk vt n c u := { h with cu := h.cu.mono hK }
theorem Mt.frb (h : Mt w wr b X2 X5 X6 K m vk vt n c u) (hf : Fr (fun q => q = b) wr wx) (hc : Cu.Cur wx b K') : Mt w wx b X2 X5 X6 K' m vk vt n c u := by
 have l1 := h.b2; have l2 := h.b5; have l3 := h.b6; have l4 := h.x2
 exact ⟨hc, h.bw.trans (hf.bel (fun q e => by omega) h.bw.size), h.x2, h.b2, h.b5, h.b6, wrB h.r2 hf (by omega), wrB h.r3 hf (by omega), wrB h.w5 hf (by omega), wrB h.w6 hf (by omega), h.om.fr hf (fun q hq e => by omega), h.sz⟩
theorem Mt.step (h : Mt w wr b X2 X5 X6 K m vk vt n c u) (hg : wr.grownBy wx (some b)) (hc : Cu.Cur wx b K') : Mt w wx b X2 X5 X6 K' m vk vt n c u := h.frb (fr_grown hg rfl) hc
theorem Mt.frX {B : Nat → Prop} (h : Mt w wr b X2 X5 X6 K m vk vt n c u) (hf : Fr B wr wx) (hB : ∀ q, B q → X6 < q) : Mt w wx b X2 X5 X6 K m vk vt n c u := by
 have l1 := h.b2; have l2 := h.b5; have l3 := h.b6; have l4 := h.x2
 exact ⟨curF h.cu hf (fun q e => by have := hB q e; omega), h.bw.trans (hf.bel (fun q e => by have := hB q e; omega) h.bw.size), h.x2, h.b2, h.b5, h.b6, wrB h.r2 hf (fun e => by have := hB _ e; omega), wrB h.r3 hf (fun e => by have := hB _ e; omega), wrB h.w5 hf (fun e => by have := hB _ e; omega), wrB h.w6 hf (fun e => by have := hB _ e; omega), h.om.fr hf (fun q hq e => by have := hB q e; omega), h.sz⟩
theorem Mt.below (h : Mt w wr b X2 X5 X6 K m vk vt n c u) (hb : Below wr.heap.size wr wx) : Mt w wx b X2 X5 X6 K m vk vt n c u := h.frX (B := fun _ => False) (fr_below hb) (fun _ e => e.elim)
theorem Mt.drew (h : Mt w wr b X2 X5 X6 K m vk vt n c u) : Mt w wr.drew b X2 X5 X6 K m vk vt n c u := h.below (Tm.below_drew wr)
theorem Mt.alloc (h : Mt w wr b X2 X5 X6 K m vk vt n c u) (o : Obj) : Mt w (wr.alloc o) b X2 X5 X6 K m vk vt n c u := h.below ((Below.refl _ _).alloc (Nat.le_refl _) _)
theorem Mt.grow (h : Mt w wr b X2 X5 X6 K m vk vt n c u) {r : Option Nat} (hg : wr.grownBy wx r) (hr : ∀ k, r = some k → X6 + 1 ≤ k) : Mt w wx b X2 X5 X6 K m vk vt n c u :=
 h.frX (B := fun q => r = some q) ⟨hg.os, hg.tape, hg.output, hg.size, fun q hq hn => hg.block q hq (fun e => hn e.symm)⟩ (fun q e => by have := hr q e; omega)
theorem Mt.setT (h : Mt w wr b X2 X5 X6 K m vk vt n c u) (hf : Fr (fun q => q = X6) wr wx) (hw : Wr wx X6 0 (tc n' c' u')) : Mt w wx b X2 X5 X6 K m vk vt n' c' u' := by
 have l1 := h.b2; have l2 := h.b5; have l3 := h.b6; have l4 := h.x2
 exact ⟨curF h.cu hf (fun q e => by omega), h.bw.trans (hf.bel (fun q e => by omega) h.bw.size), h.x2, h.b2, h.b5, h.b6, wrB h.r2 hf (by omega), wrB h.r3 hf (by omega), wrB h.w5 hf (by omega), hw, h.om.fr hf (fun q hq e => by omega), h.sz⟩
theorem Mt.set2 (h : Mt w wr b X2 X5 X6 K m vk vt n c u) (v : Value) : Mt w (wr.setCell ⟨X6, 2, none⟩ v) b X2 X5 X6 K m vk vt n c v :=
 h.setT (Gt.fr_set v) (by have := h.w6.set 2 (by simp [tc]) v; simpa [tc] using this)
theorem Mt.set3 (h : Mt w wr b X2 X5 X6 K m vk vt n c u) (n' c' : Int) (v : Value) : Mt w (((wr.setCell ⟨X6, 0, none⟩ (.int .i64 n')).setCell ⟨X6, 1, none⟩ (.int .i64 c')).setCell ⟨X6, 2, none⟩ v) b X2 X5 X6 K m vk vt n' c' v :=
 h.setT (Dm.set3 wr X6 _ _ _) (((h.w6.set 0 (by simp [tc]) _).set 1 (by simp [tc]) _).set 2 (by simp [tc]) _)
end
theorem ReadT.low {W : World} {R R' : Nat} {a : Option Addr} {rs : List Row} (h : ReadT W R a rs) (hR : R' ≤ R) : ReadT W R' a rs := fun W' hs hk => h W' hs (fun k h1 h2 => hk k h1 (by omega))
theorem ReadT.fr {W W1 : World} {R : Nat} {a : Option Addr} {rs : List Row} {B : Nat → Prop} (h : ReadT W R a rs) (hf : Fr B W W1) (hB : ∀ q, B q → q ≤ R) : ReadT W1 R a rs :=
 fun W' hs hk => h W' (by have := hf.size; omega) (fun k h1 h2 => by rw [hk k (by have := hf.size; omega) h2]; exact hf.block k h1 (fun e => by have := hB k e; omega))
theorem OwnT.readT {w : World} {lo hi cap len : Nat} {a : Option Addr} {rs : List Row} (ho : OwnT w (lo + 1) hi (.slice a len cap) rs) : ReadT w lo a rs := fun W' _ hk => by
 obtain ⟨a', cap', e, hr⟩ := Db.OwnT.isq (ho.keptAt (w1 := W') (fun k h1 _ h3 => hk k h3 (by omega)))
 simp at e
 rw [e.1]; exact hr
end Go.Proofs.YtglllflleabmbaaGreat.Dm
/-
  A region that draws its order, by an invariant: what each operation leaves behind is said once, in whatever order they come up.
-/
namespace Go.Proofs.YtglllflleabmbaaGreat.Oi
variable {P : Program} {ops : Array Oper} {Q : Exit → Act → World → Prop} {md : Region.Mode}

def cnt (l : Array Bool) : Nat := l.toList.countP (· == true)
theorem cnt_le (l : Array Bool) : cnt l ≤ l.size := by
 unfold cnt
 have := List.countP_le_length (p := (· == true)) (l := l.toList)
 simpa using this
theorem getD_false {l : Array Bool} {j : Nat} (h : l.getD j true = false) : j < l.size ∧ l[j]? = some false := by
 rw [Array.getD_eq_getD_getElem?] at h
 cases hl : l[j]? with
 | none => rw [hl] at h; simp at h
 | some x => rw [hl] at h; simp at h; subst h; exact ⟨(Array.getElem?_eq_some_iff.1 hl).1, rfl⟩
theorem count_set : ∀ (l : List Bool) (j : Nat), l[j]? = some false → (l.set j true).countP (· == true) = l.countP (· == true) + 1
 | [], j, h => by simp at h
 | x :: l, 0, h => by simp at h; subst h; simp
 | x :: l, j + 1, h => by
  simp only [List.set_cons_succ, List.countP_cons]
  rw [count_set l j (by simpa using h)]
  omega
theorem cnt_set {l : Array Bool} {j : Nat} (h : l.getD j true = false) : cnt (l.setIfInBounds j true) = cnt l + 1 := by
 obtain ⟨_, h2⟩ := getD_false h
 unfold cnt
 rw [Array.toList_setIfInBounds]
 exact count_set _ _ (by simpa using h2)
theorem inv_any (Inv : Array Bool → Act → World → Prop)
  (step : ∀ l a w j, l.size = ops.size → Inv l a w → j ∈ Region.ready md ops l → wpOp P ops Q j (fun a' w' => Inv (l.setIfInBounds j true) a' w') a w)
  (fin : ∀ l a w, l.size = ops.size → Inv l a w → Region.ready md ops l = [] → Q .normal a w) :
  ∀ (n : Nat) (l : Array Bool) (a : Act) (w : World), l.size = ops.size → l.size ≤ n + cnt l → Inv l a w → wpAny P md ops Q n l a w
 | 0, l, a, w, hs, hn, h => by
  have hr : Region.ready md ops l = [] := by
   rw [List.eq_nil_iff_forall_not_mem]
   intro j hj
   have h1 := (mem_ready.1 hj).1
   have h2 := cnt_set h1
   have h3 := cnt_le (l.setIfInBounds j true)
   simp at h3
   omega
  exact ⟨hr, fin l a w hs h hr⟩
 | n + 1, l, a, w, hs, hn, h => ⟨fun hr => fin l a w hs h hr, fun j hj => wpOp_mono (fun a' w' h' => inv_any Inv step fin n _ a' w' (by simpa using hs) (by rw [cnt_set (mem_ready.1 hj).1]; simp; omega) h') (step l a w j hs h hj)⟩
theorem start {id : Nat} {a : Act} {w : World} (Inv : Array Bool → Act → World → Prop) (hm : P.follows .mixedOrders = true) (h0 : Inv (Array.replicate ops.size false) a w.drew)
  (step : ∀ l a w j, l.size = ops.size → Inv l a w → j ∈ Region.ready .any ops l → wpOp P ops Q j (fun a' w' => Inv (l.setIfInBounds j true) a' w') a w)
  (fin : ∀ l a w, l.size = ops.size → Inv l a w → Region.ready .any ops l = [] → Q .normal a w) : (Code.region id ops true).wp P Q a w :=
 wp_region_any hm (inv_any Inv step fin ops.size _ a _ (by simp) (by simp) h0)
def fwd (ops : Array Oper) : Bool := (List.range ops.size).all fun i => match ops[i]? with | some o => o.after.toList.all fun e => decide (e.on < i) | none => true
theorem all_done {l : Array Bool} (hf : fwd ops = true) (hs : l.size = ops.size) (hr : Region.ready md ops l = []) : ∀ i, i < ops.size → l.getD i false = true := by
 intro i
 induction i using Nat.strongRecOn with
 | ind i ih =>
  intro hi
  have hl : l[i]? = some (l[i]'(by omega)) := Array.getElem?_eq_getElem (by omega)
  cases hx : l[i]'(by omega) with
  | true => rw [Array.getD_eq_getD_getElem?, hl, hx]; rfl
  | false =>
   exfalso
   have hm : i ∈ Region.ready md ops l := by
    refine mem_ready.2 ⟨by rw [Array.getD_eq_getD_getElem?, hl, hx]; rfl, ops[i], Array.getElem?_eq_getElem hi, fun e he _ => ?_⟩
    have h1 := List.all_eq_true.1 hf i (by simpa using hi)
    rw [Array.getElem?_eq_getElem hi] at h1
    have h2 := List.all_eq_true.1 h1 e (by simpa using he)
    have h3 : e.on < i := by simpa using h2
    exact ih e.on h3 (by omega)
   rw [hr] at hm
   cases hm
def Waits (md : Region.Mode) (ops : Array Oper) (j i : Nat) : Bool := match ops[j]? with | some o => o.after.any fun e => Region.binds md e && e.on == i | none => false
theorem dep {j i : Nat} {l : Array Bool} (hj : j ∈ Region.ready md ops l) (hw : Waits md ops j i = true) : l.getD i false = true := by
 obtain ⟨_, o, ho, hall⟩ := mem_ready.1 hj
 unfold Waits at hw
 rw [ho] at hw
 rw [Array.any_eq_true'] at hw
 obtain ⟨e, he, hx⟩ := hw
 simp at hx
 rw [← hx.2]
 exact hall e he hx.1
theorem op_step {j : Nat} {o : Oper} {K : Act → World → Prop} {a : Act} {w : World} (hi : ops[j]? = some o) (hg : o.guard = none) (h : ∀ K' : Act → World → Prop, (∀ a' w', K a' w' → K' a' w') → o.wp P a w K' Q) : wpOp P ops Q j K a w := by
 unfold wpOp
 rw [hi]
 have hw : Region.wanted o (yielded ops a.tmps) = true := by simp [Region.wanted, hg]
 simp only [hw, if_true]
 exact .inl (h K fun _ _ h => h)
theorem ready_lt {j : Nat} {l : Array Bool} (hj : j ∈ Region.ready md ops l) : j < ops.size := by
 obtain ⟨_, o, ho, _⟩ := mem_ready.1 hj
 exact (Array.getElem?_eq_some_iff.1 ho).1
def upd (v : Nat → Value) (s : Nat) (x : Value) : Nat → Value := fun t => if t = s then x else v t
theorem upd_same (v : Nat → Value) (s : Nat) (x : Value) : upd v s x s = x := by simp [upd]
theorem upd_ne {v : Nat → Value} {s t : Nat} {x : Value} (h : t ≠ s) : upd v s x t = v t := by simp [upd, h]
theorem done_set {l : Array Bool} {i j : Nat} (h : (l.setIfInBounds j true).getD i false = true) (hij : i ≠ j) : l.getD i false = true := by
 rwa [getD_set_ne false (Ne.symm hij)] at h
theorem set_done {l : Array Bool} {i j : Nat} (h : l.getD i false = true) : (l.setIfInBounds j true).getD i false = true := getD_set_true h
end Go.Proofs.YtglllflleabmbaaGreat.Oi
