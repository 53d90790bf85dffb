/-
  Contracts that the proof leans on, put together in the order in which they build.
-/
import Derived.Test.YtkfjlldlbknepaaGreatPart6
/-
  A tree as the laws hold it: a copy, a comparison, marks and whether they are held.
-/
namespace Go.Proofs.YtkfjlldlbknepaaGreat.Tm
open Go.RowKit
open Go.Proofs.YtkfjlldlbknepaaGreat.Li (ret_bool ret_int below_none)
open Go.Proofs.YtkfjlldlbknepaaGreat.Tb (sub sub_yes sub_no)

/-- A variable of two cells. -/
def Box2 (w : World) (b : Nat) (v0 v1 : Value) : Prop :=
  b < w.heap.size ∧ (w.cell? ⟨b, 0, none⟩ = some v0 ∧ w.cell? ⟨b, 1, none⟩ = some v1) ∧ w.frozen? ⟨b, 0, none⟩ = false ∧ w.frozen? ⟨b, 1, none⟩ = false
theorem Box2.keptAt {w w1 : World} {b : Nat} {v0 v1 : Value} (h : Box2 w b v0 v1) (hs : w.heap.size ≤ w1.heap.size) (hb : w1.heap[b]? = w.heap[b]?) : Box2 w1 b v0 v1 := by
  obtain ⟨hlt, ⟨c0, c1⟩, f0, f1⟩ := h
  refine ⟨by omega, ⟨?_, ?_⟩, ?_, ?_⟩
  · rw [World.cell?_of_block (w := w) (a := ⟨b, 0, none⟩) hb]; exact c0
  · rw [World.cell?_of_block (w := w) (a := ⟨b, 1, none⟩) hb]; exact c1
  · rw [World.frozen?_of_block (w := w) (a := ⟨b, 0, none⟩) hb]; exact f0
  · rw [World.frozen?_of_block (w := w) (a := ⟨b, 1, none⟩) hb]; exact f1
theorem Box2.below {w w1 : World} {b : Nat} {v0 v1 : Value} (h : Box2 w b v0 v1) (hB : Below w.heap.size w w1) : Box2 w1 b v0 v1 := h.keptAt hB.size (hB.block b h.1)
theorem Box2.setOther {w : World} {b g o : Nat} {v0 v1 v : Value} (h : Box2 w b v0 v1) (hne : ¬ b = g) : Box2 (w.setCell ⟨g, o, none⟩ v) b v0 v1 :=
  h.keptAt (by simp [World.setCell]) (Below.heap_setCell _ _ _ _ (fun e => hne (by simpa using e)))
theorem Box2.set0 {w : World} {b : Nat} {v0 v1 : Value} (h : Box2 w b v0 v1) (v : Value) : Box2 (w.setCell ⟨b, 0, none⟩ v) b v v1 := by
  obtain ⟨hlt, ⟨c0, c1⟩, f0, f1⟩ := h
  refine ⟨by simpa [World.setCell] using hlt, ⟨World.cell?_setCell_same _ _ _ c0, ?_⟩, ?_, ?_⟩
  · rw [World.cell?_setCell_other _ _ _ _ (by simp)]; exact c1
  all_goals (rw [World.frozen?_setCell]; assumption)
theorem Box2.set1 {w : World} {b : Nat} {v0 v1 : Value} (h : Box2 w b v0 v1) (v : Value) : Box2 (w.setCell ⟨b, 1, none⟩ v) b v0 v := by
  obtain ⟨hlt, ⟨c0, c1⟩, f0, f1⟩ := h
  refine ⟨by simpa [World.setCell] using hlt, ⟨?_, World.cell?_setCell_same _ _ _ c1⟩, ?_, ?_⟩
  · rw [World.cell?_setCell_other _ _ _ _ (by simp)]; exact c0
  all_goals (rw [World.frozen?_setCell]; assumption)
theorem box2_new (w : World) (v0 v1 : Value) (T : TypeId) : Box2 (w.alloc (.cells #[v0, v1] T)) w.heap.size v0 v1 :=
  ⟨by simp, ⟨by simp [World.cell?_alloc_new], by simp [World.cell?_alloc_new]⟩, by simp, by simp⟩
theorem Box2.alloc {w : World} {b : Nat} {v0 v1 : Value} (h : Box2 w b v0 v1) (o : Obj) : Box2 (w.alloc o) b v0 v1 := h.below ((Below.refl _ _).alloc (Nat.le_refl _) _)
theorem Box2.drewN {w : World} {b : Nat} {v0 v1 : Value} (h : Box2 w b v0 v1) (n : Nat) : Box2 (w.drewN n) b v0 v1 := h
theorem size_alloc (w : World) (o : Obj) : (w.alloc o).heap.size = w.heap.size + 1 := by simp
/-- One, two, three variables of two cells, one behind the other. -/
theorem boxes1 (w : World) (v0 v1 : Value) (T : TypeId) : ∃ W, w.alloc (.cells #[v0, v1] T) = W ∧ W.heap.size = w.heap.size + 1 ∧ Below w.heap.size w W ∧ Box2 W w.heap.size v0 v1 :=
  ⟨_, rfl, by simp, (Below.refl _ _).alloc (Nat.le_refl _) _, box2_new _ _ _ _⟩
theorem boxes2 (w : World) (v0 v1 x0 x1 : Value) (T U : TypeId) : ∃ W, (w.alloc (.cells #[v0, v1] T)).alloc (.cells #[x0, x1] U) = W ∧ W.heap.size = w.heap.size + 2 ∧ Below w.heap.size w W ∧ Box2 W w.heap.size v0 v1 ∧ Box2 W (w.heap.size + 1) x0 x1 := by
  refine ⟨_, rfl, by simp, ((Below.refl _ _).alloc (Nat.le_refl _) _).alloc (by simp) _, ?_, ?_⟩
  · exact (box2_new _ _ _ _).alloc _
  · have := box2_new (w.alloc (.cells #[v0, v1] T)) x0 x1 U
    rwa [size_alloc] at this
theorem boxes3 (w : World) (v0 v1 x0 x1 y0 y1 : Value) (T U V : TypeId) : ∃ W, ((w.alloc (.cells #[v0, v1] T)).alloc (.cells #[x0, x1] U)).alloc (.cells #[y0, y1] V) = W ∧ W.heap.size = w.heap.size + 3 ∧ Below w.heap.size w W ∧ Box2 W w.heap.size v0 v1 ∧ Box2 W (w.heap.size + 1) x0 x1 ∧ Box2 W (w.heap.size + 2) y0 y1 := by
  refine ⟨_, rfl, by simp, (((Below.refl _ _).alloc (Nat.le_refl _) _).alloc (by simp) _).alloc (by simp; omega) _, ?_, ?_, ?_⟩
  · exact ((box2_new _ _ _ _).alloc _).alloc _
  · have := (box2_new (w.alloc (.cells #[v0, v1] T)) x0 x1 U).alloc (.cells #[y0, y1] V)
    rwa [size_alloc] at this
  · have := box2_new ((w.alloc (.cells #[v0, v1] T)).alloc (.cells #[x0, x1] U)) y0 y1 V
    rwa [size_alloc, size_alloc] at this
theorem own_off {w w1 : World} {B b : Nat} {v : Value} {xs : List Int} (h : Li.Own w B v xs) (hg : w.grownBy w1 (some b)) (hb : b < B) : Li.Own w1 B v xs := by
  refine h.kept hg ?_
  cases e : v.ownBlock with
  | none => exact .inl rfl
  | some k => exact .inr (by have := (h.ge k e).1; simp; omega)
theorem ownP_off {w w1 : World} {B b : Nat} {v : Value} {xs : List (Int × Int)} (h : OwnP w B v xs) (hg : w.grownBy w1 (some b)) (hb : b < B) : OwnP w1 B v xs := by
  refine h.kept hg ?_
  cases e : v.ownBlock with
  | none => exact .inl rfl
  | some k => exact .inr (by have := (h.ge k e).1; simp; omega)
/-- Two slices of the call's own lie apart, both ways. -/
def Apt (u v : Value) : Prop := (v.ownBlock = none ∨ v.ownBlock ≠ u.ownBlock) ∧ (u.ownBlock = none ∨ u.ownBlock ≠ v.ownBlock)
theorem apt_of {u v : Value} (h : ∀ k, u.ownBlock = some k → v.ownBlock = some k → False) : Apt u v := by
  unfold Apt
  cases e : u.ownBlock with
  | none => exact ⟨by cases e' : v.ownBlock <;> simp, .inl rfl⟩
  | some k =>
    cases e' : v.ownBlock with
    | none => exact ⟨.inl rfl, by simp⟩
    | some k' => 
      have : ¬ k = k' := fun e2 => h k e (by rw [e', e2])
      exact ⟨.inr (by simp; omega), .inr (by simp; omega)⟩

set_option maxHeartbeats 1000000 in
theorem toTree (w : World) (a a' : Option Addr) (c c' : Nat) (t : Tr.T) (hp : IsP w a t.sp) (hx : Li.IsL w a' t.lv) (hl : t.sp.length + t.lv.length ≤ 1048576) :
    Calls Tryz.prog 54 #[.agg #[.slice a t.sp.length c, .slice a' t.lv.length c']] w fun e w' => ∃ g0 g1, e = .returned (.agg #[.slice (some ⟨g0, 0, none⟩) t.sp.length t.sp.length, .slice (some ⟨g1, 0, none⟩) t.lv.length t.lv.length]) ∧ OwnP w' w.heap.size (.slice (some ⟨g0, 0, none⟩) t.sp.length t.sp.length) t.sp ∧ Li.Own w' w.heap.size (.slice (some ⟨g1, 0, none⟩) t.lv.length t.lv.length) t.lv ∧ Apt (.slice (some ⟨g0, 0, none⟩) t.sp.length t.sp.length) (.slice (some ⟨g1, 0, none⟩) t.lv.length t.lv.length) ∧ Below w.heap.size w w' := by
  go_enter Tryz.func54, Tryz.ntmps54
  go_wp2_with fail
  obtain ⟨W, hW, hsz, hB, bx, br, bo⟩ := boxes3 w (.slice a t.sp.length c) (.slice a' t.lv.length c') (.slice none 0 0) (.slice none 0 0) (.slice none 0 0) (.slice none 0 0) 80 93 93
  rw [hW]
  clear hW
  refine (toP _ _ _ t.sp (hp.below hB) (by omega)).mono ?_
  rintro e w1 ⟨rfl, o0, hB1⟩
  obtain ⟨g0, hg0⟩ : ∃ g, W.heap.size = g := ⟨_, rfl⟩
  have hg0' : w.heap.size + 3 = g0 := by omega
  rw [hg0] at o0 ⊢
  have bx := bx.below hB1
  have br := br.below hB1
  have bo := bo.below hB1
  have o0 := o0.mono (base' := w.heap.size + 3) (by omega)
  have hB := hB.trans (hB1.mono hB.size)
  have hs1 := hB1.size
  have hgl := (o0.ge g0 rfl).2
  clear hB1
  obtain ⟨w2, hw2, hB2, bx2, br2, bo2, o2⟩ : ∃ w2, w1.setCell ⟨w.heap.size + 1 + 1, 0, none⟩ (.slice (some ⟨g0, 0, none⟩) t.sp.length t.sp.length) = w2 ∧ Below w.heap.size w w2 ∧ Box2 w2 w.heap.size _ _ ∧ Box2 w2 (w.heap.size + 1) _ _ ∧ Box2 w2 (w.heap.size + 2) _ _ ∧ OwnP w2 (w.heap.size + 3) (.slice (some ⟨g0, 0, none⟩) t.sp.length t.sp.length) t.sp :=
    ⟨_, rfl, hB.setCell (p := ⟨w.heap.size + 1 + 1, 0, none⟩) (by simp; omega) _, bx.setOther (by omega), br.setOther (by omega), bo.set0 _, ownP_off o0 (Li.grown_set _ _ _ _) (by omega)⟩
  obtain ⟨_, ⟨cx0, cx1⟩, _⟩ := bx
  obtain ⟨hbo, ⟨co0, co1⟩, fo0, fo1⟩ := bo
  have hs2 : w1.heap.size ≤ w2.heap.size := by rw [← hw2]; simp [World.setCell]
  have HW : Hid (w1.setCell ⟨w.heap.size + 1 + 1, 0, none⟩ (.slice (some ⟨g0, 0, none⟩) t.sp.length t.sp.length) = w2) := hw2
  have HG0 : Hid (w.heap.size + 3 = g0) := hg0'
  clear hw2 hg0 hg0' hsz
  go_wp2_with fail
  rw [HW.out]
  clear HW cx0 cx1 co0 co1 fo0 fo1 hB br o0
  refine (Li.to_any _ _ _ t.lv (hx.below hB2) (by omega)).mono ?_
  rintro e w3 ⟨rfl, o1, hB3⟩
  obtain ⟨g1, hg1⟩ : ∃ g, w2.heap.size = g := ⟨_, rfl⟩
  have HG1 : Hid (w2.heap.size = g1) := hg1
  rw [hg1] at o1 ⊢
  have bx := bx2.below hB3
  have br := br2.below hB3
  have bo := bo2.below hB3
  have hap : Apt (.slice (some ⟨g0, 0, none⟩) t.sp.length t.sp.length) (.slice (some ⟨g1, 0, none⟩) t.lv.length t.lv.length) :=
    apt_of fun k e e' => by have := (o2.ge k e).2; have := (o1.ge k e').1; omega
  have hlo1 : w.heap.size + 3 ≤ g1 := by omega
  have o0 := o2.below hB3
  have o1 := o1.mono (base' := w.heap.size + 3) hlo1
  have hB := hB2.trans (hB3.mono hB2.size)
  clear hB3 hB2 bx2 br2 bo2 o2 hs2 hbo hs1 hg1 hlo1 hgl
  obtain ⟨_, ⟨cx0, cx1⟩, _⟩ := bx
  obtain ⟨_, ⟨co0, co1⟩, fo0, fo1⟩ := bo
  obtain ⟨_, ⟨cr0, cr1⟩, fr0, fr1⟩ := br
  go_wp2
  refine bodyPost_ret (v := .agg #[.slice (some ⟨g0, 0, none⟩) t.sp.length t.sp.length, .slice (some ⟨g1, 0, none⟩) t.lv.length t.lv.length]) (by rw [results_cell rfl]; go_simp) rfl ⟨_, _, rfl, ?_, ?_, hap, ?_⟩
  · exact (ownP_off (ownP_off (ownP_off o0 (Li.grown_set _ _ _ _) (by omega)) (Li.grown_set _ _ _ _) (by omega)) (Li.grown_set _ _ _ _) (by omega)).mono (by omega)
  · exact (own_off (own_off (own_off o1 (Li.grown_set _ _ _ _) (by omega)) (Li.grown_set _ _ _ _) (by omega)) (Li.grown_set _ _ _ _) (by omega)).mono (by omega)
  · exact ((hB.setCell (by simp; omega) _).setCell (by simp) _).setCell (by simp) _
set_option maxHeartbeats 1000000 in
theorem eqTree (w : World) (a a' b b' : Option Addr) (c c' d d' : Nat) (t u : Tr.T) (hp : IsP w a t.sp) (hx : Li.IsL w a' t.lv) (hq : IsP w b u.sp) (hy : Li.IsL w b' u.lv) (hl : t.sp.length + t.lv.length ≤ 1048576) (hl' : u.sp.length + u.lv.length ≤ 1048576) :
    Calls Tryz.prog 63 #[.agg #[.slice a t.sp.length c, .slice a' t.lv.length c'], .agg #[.slice b u.sp.length d, .slice b' u.lv.length d']] w fun e w' => e = .returned (.bool (eqp t.sp u.sp && Li.eqs t.lv u.lv)) ∧ Below w.heap.size w w' := by
  go_enter Tryz.func63, Tryz.ntmps63
  go_wp2_with fail
  obtain ⟨W, hW, hsz, hB, bx, br⟩ := boxes2 w (.slice a t.sp.length c) (.slice a' t.lv.length c') (.slice b u.sp.length d) (.slice b' u.lv.length d') 93 93
  rw [hW]
  clear hW
  refine (eqP _ _ _ _ _ t.sp u.sp (hp.below hB) (hq.below hB) (by omega) (by omega)).mono ?_
  rintro e w1 ⟨rfl, hB1⟩
  have bx := bx.below hB1
  have br := br.below hB1
  have hB := hB.trans (hB1.mono hB.size)
  clear hB1 hsz
  have hx := hx.below hB
  have hy := hy.below hB
  obtain ⟨_, ⟨cx0, cx1⟩, _⟩ := id bx
  obtain ⟨_, ⟨cr0, cr1⟩, _⟩ := id br
  cases he : eqp t.sp u.sp
  · go_wp2
    go_ret
    exact ⟨by rw [he]; rfl, hB⟩
  · go_wp2_with fail
    refine (Li.eq_bel _ _ _ _ _ t.lv u.lv hx hy (by omega) (by omega)).mono ?_
    rintro e w2 ⟨rfl, hB2⟩
    have hB := hB.trans (hB2.mono hB.size)
    cases he' : Li.eqs t.lv u.lv
    · go_wp2
      go_ret
      exact ⟨by rw [he, he']; rfl, hB⟩
    · go_wp2
      go_ret
      exact ⟨by rw [he, he']; rfl, hB⟩
/-- What two blocks alone have been written into. -/
structure Fr2 (w w1 : World) (r r' : Option Nat) : Prop where
  os : w1.os = w.os
  tape : w1.tape = w.tape
  output : w1.output = w.output
  size : w.heap.size ≤ w1.heap.size
  block : ∀ k, k < w.heap.size → ¬ some k = r → ¬ some k = r' → w1.heap[k]? = w.heap[k]?
theorem fr2_of {w w1 w2 w3 : World} {r r' : Option Nat} (h0 : Below w.heap.size w w1) (h : w1.grownBy w2 r) (h' : w2.grownBy w3 r') : Fr2 w w3 r r' :=
  ⟨h'.os.trans (h.os.trans h0.os), h'.tape.trans (h.tape.trans h0.tape), h'.output.trans (h.output.trans h0.output), Nat.le_trans h0.size (Nat.le_trans h.size h'.size),
   fun k hk hr hr' => (h'.block k (Nat.lt_of_lt_of_le hk (Nat.le_trans h0.size h.size)) hr').trans ((h.block k (Nat.lt_of_lt_of_le hk h0.size) hr).trans (h0.block k hk))⟩
theorem ownsRow_at {w w1 : World} {base : Nat} {e : TypeId} {size : Nat} {v : Value} {n : Nat} {xs : List Value} (h : w.ownsRow base e size v n xs) (hk : ∀ k, v.ownBlock = some k → w1.heap[k]? = w.heap[k]?) : w1.ownsRow base e size v n xs := by
  refine ⟨h.1, ?_⟩
  rcases h.2 with h | ⟨g, cap, cur, rfl, hb, hh, r⟩
  · exact .inl h
  · exact .inr ⟨g, cap, cur, rfl, hb, by rw [hk g rfl]; exact hh, r⟩
theorem kept2 {w w1 : World} {base s n : Nat} {t : TypeId} {v : Value} {xs : List Value} {r r' : Option Nat} (h : w.ownsRow base t s v n xs) (hg : Fr2 w w1 r r') (hne : v.ownBlock = none ∨ v.ownBlock ≠ r) (hne' : v.ownBlock = none ∨ v.ownBlock ≠ r') : w1.ownsRow base t s v n xs :=
  ownsRow_at h fun k e => hg.block k (World.ownsRow.lt h k e).2 (fun e' => by rcases hne with h1 | h1; (· rw [h1] at e; cases e); (· exact h1 (e.trans e'))) (fun e' => by rcases hne' with h1 | h1; (· rw [h1] at e; cases e); (· exact h1 (e.trans e')))
theorem Own.kept2 {w w1 : World} {base : Nat} {v : Value} {xs : List Int} {r r' : Option Nat} (h : Li.Own w base v xs) (hg : Fr2 w w1 r r') (hne : v.ownBlock = none ∨ v.ownBlock ≠ r) (hne' : v.ownBlock = none ∨ v.ownBlock ≠ r') : Li.Own w1 base v xs := Tm.kept2 h hg hne hne'
theorem OwnP.kept2 {w w1 : World} {base : Nat} {v : Value} {xs : List (Int × Int)} {r r' : Option Nat} (h : OwnP w base v xs) (hg : Fr2 w w1 r r') (hne : v.ownBlock = none ∨ v.ownBlock ≠ r) (hne' : v.ownBlock = none ∨ v.ownBlock ≠ r') : OwnP w1 base v xs := Tm.kept2 h hg hne hne'
theorem Fr2.bel {w w1 : World} {B : Nat} {u v : Value} (h : Fr2 w w1 u.ownBlock v.ownBlock) (hu : ∀ k, u.ownBlock = some k → B ≤ k) (hv : ∀ k, v.ownBlock = some k → B ≤ k) (hB : B ≤ w.heap.size) : Below B w w1 :=
  ⟨h.os, h.tape, h.output, h.size, fun k hk => h.block k (by omega) (fun e => by have := hu k e.symm; omega) (fun e => by have := hv k e.symm; omega)⟩

def pmarks (k : Int) (n : Nat) : List (Int × Int) := (List.range n).map fun (j : Nat) => (k + 2 * (j : Int), k + 2 * (j : Int) + 1)
theorem pmarks_length (k : Int) (n : Nat) : (pmarks k n).length = n := by simp [pmarks]
theorem pmarks_get (k : Int) (n j : Nat) (h : j < (pmarks k n).length) : (pmarks k n)[j] = (k + 2 * (j : Int), k + 2 * (j : Int) + 1) := by simp [pmarks]
set_option maxHeartbeats 1000000 in
theorem markP (w : World) (base : Nat) (a : Option Addr) (n cap : Nat) (k : Int) (xs : List (Int × Int)) (hn : xs.length = n) (h : OwnP w base (.slice a n cap) xs) (hl : n ≤ 1048576) (k0 : 0 ≤ k) (k1 : k ≤ 1000000000000) :
    Calls Tryz.prog 69 #[.slice a n cap, .int .i64 k] w fun e w' => e = .returned (.int .i64 (k + 2 * n)) ∧ OwnP w' base (.slice a n cap) (pmarks k n) ∧ w.grownBy w' (Value.slice a n cap).ownBlock ∧ w'.heap.size = w.heap.size := by
  go_enter Tryz.func69, Tryz.ntmps69
  go_wp2
  go_loopw [1, 5] (fun q i wr => ∃ j : Nat, j ≤ n ∧ i = .int .i64 j ∧ q = .int .i64 (k + 2 * j) ∧ ∃ l : List (Int × Int), l.length = n ∧ LikeP l (pmarks k n) j ∧ OwnP wr base (.slice a n cap) l ∧ w.grownBy wr (Value.slice a n cap).ownBlock ∧ wr.heap.size = w.heap.size) (fun _ i _ => n - (intOf i).toNat)
  case atStart => exact ⟨0, Nat.zero_le _, rfl, by go_num, xs, hn, fun j hj => by omega, h, Li.grown_refl _ _, rfl⟩
  case round =>
    obtain ⟨j, hj, rfl, rfl, l, hll, hlike, hown, hg, hz⟩ := hrel
    have HZ : Hid (wr.heap.size = w.heap.size) := hz
    clear hz h
    by_cases hlt : j < n
    · have hown0 := hown
      rcases hown0.2 with ⟨hv, h0⟩ | ⟨g, cap', cur, hv, _⟩
      · omega
      · obtain ⟨rfl, rfl, rfl⟩ : a = some ⟨g, 0, none⟩ ∧ n = l.length ∧ cap = cap' := by simpa using hv
        clear hv hown0
        obtain ⟨hc0, hc1⟩ := hown.cell rfl j hlt
        have hf0 := hown.frozen rfl (j * 2)
        have hf1 := hown.frozen rfl (j * 2 + 1)
        have HO : Hid (OwnP wr base (.slice (some ⟨g, 0, none⟩) l.length cap) l) := hown
        have HL : Hid (LikeP (l.set j (k + 2 * j, k + 2 * j + 1)) (pmarks k l.length) (j + 1)) := by
          have := likeP_set hlike (by rw [pmarks_length]; exact hlt) (by rw [pmarks_length])
          rwa [pmarks_get] at this
        clear hown hlike
        go_wp2
        go_roundw
        case rel => exact ⟨j + 1, by omega, by go_num, by go_num, l.set j (k + 2 * j, k + 2 * j + 1), by simp, HL.out, HO.out.set rfl j _ _, Li.grown_trans (Li.grown_trans hg (Li.grown_set _ _ _ _)) (Li.grown_set _ _ _ _), by simpa [World.setCell] using HZ.out⟩
        case measure => simp [intOf]; omega
    · obtain rfl : j = n := by omega
      have HO : Hid (OwnP wr base (.slice a j cap) (pmarks k j)) := by
        have e := likeP_all (xs := pmarks k j) (by rw [pmarks_length]; exact hlike) (by rw [pmarks_length]; exact hll)
        rw [← e]; exact hown
      clear hown hlike
      go_wp2
      go_ret
      exact ⟨rfl, HO.out, hg, HZ.out⟩
/-- What v owns is not block b. -/
def NB (v : Value) (b : Nat) : Prop := ∀ k, v.ownBlock = some k → ¬ k = b
theorem nbB {w : World} {base s n b : Nat} {t : TypeId} {v : Value} {xs : List Value} (h : w.ownsRow base t s v n xs) (hb : b < base) : NB v b := fun k hk => by have := (World.ownsRow.lt h k hk).1; omega
theorem nbA {w : World} {base s n : Nat} {t : TypeId} {v : Value} {xs : List Value} (h : w.ownsRow base t s v n xs) : NB v w.heap.size := fun k hk => by have := (World.ownsRow.lt h k hk).2; omega
theorem isp_of {w w1 : World} {n m : Nat} {x : Addr} {ps : List (Int × Int)} (h : ∃ a cap, Value.slice (some x) n m = .slice a ps.length cap ∧ ps.length ≤ cap ∧ IsP w a ps) (hb : Below w.heap.size w w1) : IsP w1 (some x) ps := by
  obtain ⟨a, cap, e, _, hi⟩ := h
  cases e
  exact hi.below hb
theorem isl_of' {w w1 : World} {n m : Nat} {x : Addr} {ps : List Int} (h : ∃ a cap, Value.slice (some x) n m = .slice a ps.length cap ∧ Li.IsL w a ps) (hb : Below w.heap.size w w1) : Li.IsL w1 (some x) ps := by
  obtain ⟨a, cap, e, hi⟩ := h
  cases e
  exact hi.below hb
theorem below_drew (w : World) : Below w.heap.size w w.drew := ⟨rfl, rfl, rfl, Nat.le_refl _, fun _ _ => rfl⟩
end Go.Proofs.YtkfjlldlbknepaaGreat.Tm
/-
  Lists of trees as the laws and both texts hold them; contracts of the laws' own helpers.
-/
namespace Go.Proofs.YtkfjlldlbknepaaGreat.Tm
open Go.RowKit
open Go.Proofs.YtkfjlldlbknepaaGreat.Li (ret_bool ret_int below_none)
open Go.Proofs.YtkfjlldlbknepaaGreat.Tb (sub sub_yes sub_no)
set_option linter.unusedVariables false

/-- Two cells that read as a tree. -/
def TrIs (w : World) (v0 v1 : Value) (t : Tr.T) : Prop :=
  ∃ a c a' c', v0 = .slice a t.sp.length c ∧ v1 = .slice a' t.lv.length c' ∧ IsP w a t.sp ∧ Li.IsL w a' t.lv
theorem TrIs.below {w w1 : World} {v0 v1 : Value} {t : Tr.T} (h : TrIs w v0 v1 t) (hB : Below w.heap.size w w1) : TrIs w1 v0 v1 t := by
  obtain ⟨a, c, a', c', e0, e1, h0, h1⟩ := h
  exact ⟨a, c, a', c', e0, e1, h0.below hB, h1.below hB⟩
/-- The slice of address a reads as these trees. -/
def IsT (w : World) (a : Option Addr) (ts : List Tr.T) : Prop :=
  ts = [] ∨ ∃ b off, a = some ⟨b, off, none⟩ ∧ b < w.heap.size ∧ ∀ j (hj : j < ts.length), ∃ v0 v1, (w.cell? ⟨b, off + j * 2, none⟩ = some v0 ∧ w.cell? ⟨b, off + j * 2 + 1, none⟩ = some v1) ∧ TrIs w v0 v1 ts[j]
theorem IsT.below {w w1 : World} {a : Option Addr} {ts : List Tr.T} (h : IsT w a ts) (hB : Below w.heap.size w w1) : IsT w1 a ts := by
  rcases h with h | ⟨b, off, rfl, hb, hc⟩
  · exact .inl h
  · refine .inr ⟨b, off, rfl, Nat.lt_of_lt_of_le hb hB.size, fun j hj => ?_⟩
    obtain ⟨v0, v1, ⟨c0, c1⟩, hr⟩ := hc j hj
    exact ⟨v0, v1, ⟨(hB.cell (by exact hb)).trans c0, (hB.cell (by exact hb)).trans c1⟩, hr.below hB⟩
theorem IsT.drewN {w : World} {a : Option Addr} {ts : List Tr.T} (h : IsT w a ts) (n : Nat) : IsT (w.drewN n) a ts := h
def szt (t : Tr.T) : Nat := t.sp.length + t.lv.length
def szT : List Tr.T → Nat
  | [] => 0
  | t :: ts => szt t + szT ts
theorem szT_take (ts : List Tr.T) (k : Nat) (h : k < ts.length) : szT (ts.take (k + 1)) = szT (ts.take k) + szt ts[k] := by
  induction ts generalizing k with
  | nil => simp at h
  | cons s r ih =>
    cases k with
    | zero => simp [szT]
    | succ k =>
      simp only [List.take_succ_cons, szT, List.getElem_cons_succ]
      rw [ih k (by simpa using h)]
      omega
theorem szT_le (ts : List Tr.T) (k : Nat) : szT (ts.take k) ≤ szT ts := by
  induction ts generalizing k with
  | nil => simp
  | cons s r ih =>
    cases k with
    | zero => simp [szT]
    | succ k => simp only [List.take_succ_cons, szT]; have := ih k; omega
theorem szT_at (ts : List Tr.T) (k : Nat) (h : k < ts.length) : szt ts[k] ≤ szT ts := by
  have h1 := szT_take ts k h
  have h2 := szT_le ts (k + 1)
  omega
theorem szT_append (ts us : List Tr.T) : szT (ts ++ us) = szT ts + szT us := by
  induction ts with
  | nil => simp [szT]
  | cons t ts ih => simp only [List.cons_append, szT, ih]; omega
/-- All of a size that Go can have. -/
def FitsT (ts : List Tr.T) : Prop := ts.length ≤ 9223372036854775807 ∧ ∀ j (hj : j < ts.length), ts[j].sp.length ≤ 9223372036854775807 ∧ ts[j].lv.length ≤ 9223372036854775807

set_option maxHeartbeats 1000000 in
theorem szTrees (w : World) (a : Option Addr) (cap : Nat) (left : Int) (ts : List Tr.T) (hx : IsT w a ts) (hf : FitsT ts) (h0 : 0 ≤ left) (h1 : left ≤ 1048576) :
    Calls Tryz.prog 24 #[.slice a ts.length cap, .int .i64 left] w fun e w' => e = .returned (.int .i64 (sub left (ts.length + szT ts))) ∧ Below w.heap.size w w' := by
  have hn := hf.1
  by_cases h : (ts.length : Int) ≤ left
  · go_enter Tryz.func24, Tryz.ntmps24
    go_wp2
    go_loopw [1, 5] (fun q i wr => ∃ k : Nat, k ≤ ts.length ∧ i = .int .i64 k ∧ q = .int .i64 (left - ts.length - szT (ts.take k)) ∧ (szT (ts.take k) : Int) ≤ left - ts.length ∧ Below w.heap.size w wr) (fun _ i _ => ts.length - (intOf i).toNat)
    case atStart => exact ⟨0, Nat.zero_le _, rfl, by simp [szT], by simp [szT]; omega, Below.refl _ _⟩
    case round =>
      obtain ⟨k, hk, rfl, rfl, hle, hB⟩ := hrel
      by_cases hlt : k < ts.length
      · rcases hx.below hB with rfl | ⟨b, off, rfl, hb, hc⟩
        · simp at hlt
        · obtain ⟨v0, v1, ⟨cx0, cx1⟩, a0, c0, a1, c1, rfl, rfl, i0, i1⟩ := hc k hlt
          obtain ⟨hf0, hf1⟩ := hf.2 k hlt
          have HT : Hid (szT (ts.take (k + 1)) = szT (ts.take k) + (ts[k].sp.length + ts[k].lv.length)) := szT_take ts k hlt
          have HL : Hid (szT (ts.take (k + 1)) ≤ szT ts) := szT_le ts (k + 1)
          obtain ⟨L, hL⟩ : ∃ L, szT (ts.take k) = L := ⟨_, rfl⟩
          rw [hL] at hle HT ⊢
          clear hc hL
          go_wp2_with fail
          refine (szTree _ _ _ _ _ _ _ _ (by omega) (by omega) hf0 hf1).mono ?_
          rintro e w1 ⟨rfl, hB1⟩
          have hB := hB.trans (hB1.mono hB.size)
          clear hB1 cx0 cx1 i0 i1 hb
          obtain ⟨z, hz⟩ : ∃ z, ts[k].sp.length + ts[k].lv.length = z := ⟨_, rfl⟩
          rw [hz] at HT ⊢
          clear hz
          by_cases hfit : (z : Int) ≤ left - ts.length - L
          · rw [sub_yes hfit]
            go_wp2
            go_roundw
            case rel => exact ⟨k + 1, by omega, by go_num, by rw [HT.out]; go_num, by rw [HT.out]; omega, hB⟩
            case measure => simp [intOf]; omega
          · rw [sub_no hfit]
            have HR : Hid (sub left (ts.length + szT ts) = -1) := sub_no (by have := HT.out; have := HL.out; omega)
            go_wp2
            go_ret
            exact ⟨by rw [HR.out]; rfl, hB⟩
      · obtain rfl : k = ts.length := by omega
        have ht : ts.take ts.length = ts := List.take_length
        rw [ht] at hle ⊢
        have HR : Hid (sub left (ts.length + szT ts) = left - ts.length - szT ts) := by show sub _ _ = _; rw [sub_yes (by omega)]; omega
        go_wp2
        go_ret
        exact ⟨by rw [HR.out]; rfl, hB⟩
  · rw [sub_no (by omega)]
    go_enter Tryz.func24, Tryz.ntmps24
    go_wp2
    go_ret
    exact ⟨rfl, Below.refl _ _⟩
/-- As far as k the cells of block g are trees of the call's own, in blocks from B on. -/
def NestT (w : World) (B : Nat) (V0 V1 : Nat → Value) (xs : List Value) (ts : List Tr.T) (k : Nat) : Prop :=
  ∀ i (hi : i < ts.length), i < k → (xs[i * 2]? = some (V0 i) ∧ xs[i * 2 + 1]? = some (V1 i)) ∧ OwnP w B (V0 i) ts[i].sp ∧ Li.Own w B (V1 i) ts[i].lv
def updV (V : Nat → Value) (k : Nat) (u : Value) : Nat → Value := fun i => if i = k then u else V i
theorem updV_at (V : Nat → Value) (k : Nat) (u : Value) : updV V k u k = u := if_pos rfl
theorem updV_off {V : Nat → Value} {k i : Nat} (u : Value) (h : i ≠ k) : updV V k u i = V i := if_neg h
theorem nestT_zero (w : World) (B : Nat) (V0 V1 : Nat → Value) (xs : List Value) (ts : List Tr.T) : NestT w B V0 V1 xs ts 0 := fun _ _ h => by omega
theorem NestT.grown {w w1 : World} {B g k : Nat} {V0 V1 : Nat → Value} {xs : List Value} {ts : List Tr.T} (h : NestT w B V0 V1 xs ts k) (hg : w.grownBy w1 (some g)) (hgB : g < B) : NestT w1 B V0 V1 xs ts k := by
  intro i hi hik
  obtain ⟨hc, o0, o1⟩ := h i hi hik
  exact ⟨hc, ownP_off o0 hg hgB, own_off o1 hg hgB⟩
theorem NestT.below {w w1 : World} {B k : Nat} {V0 V1 : Nat → Value} {xs : List Value} {ts : List Tr.T} (h : NestT w B V0 V1 xs ts k) (hb : Below w.heap.size w w1) : NestT w1 B V0 V1 xs ts k := by
  intro i hi hik
  obtain ⟨hc, o0, o1⟩ := h i hi hik
  exact ⟨hc, o0.below hb, o1.below hb⟩
theorem nestT_step {w : World} {B g k : Nat} {V0 V1 : Nat → Value} {xs : List Value} {ts : List Tr.T} {u0 u1 : Value} (h : NestT w B V0 V1 xs ts k) (hk : k < ts.length) (hxl : xs.length = ts.length * 2) (hg : g < B)
    (o0 : OwnP w B u0 ts[k].sp) (o1 : Li.Own w B u1 ts[k].lv) :
    NestT ((w.setCell ⟨g, k * 2, none⟩ u0).setCell ⟨g, k * 2 + 1, none⟩ u1) B (updV V0 k u0) (updV V1 k u1) ((xs.set (k * 2) u0).set (k * 2 + 1) u1) ts (k + 1) := by
  intro i hi hik
  have hg1 : w.grownBy ((w.setCell ⟨g, k * 2, none⟩ u0).setCell ⟨g, k * 2 + 1, none⟩ u1) (some g) := Li.grown_trans (Li.grown_set _ _ _ _) (Li.grown_set _ _ _ _)
  by_cases e : i = k
  · subst e
    rw [updV_at, updV_at]
    refine ⟨⟨?_, ?_⟩, ownP_off o0 hg1 hg, own_off o1 hg1 hg⟩
    · simp only [List.getElem?_set, List.length_set]; rw [if_neg (by omega), if_pos True.intro, if_pos (by omega)]
    · simp only [List.getElem?_set, List.length_set]; rw [if_pos True.intro, if_pos (by omega)]
  · rw [updV_off _ e, updV_off _ e]
    obtain ⟨⟨c0, c1⟩, p0, p1⟩ := h i hi (by omega)
    refine ⟨⟨?_, ?_⟩, ownP_off p0 hg1 hg, own_off p1 hg1 hg⟩
    · simp only [List.getElem?_set]; rw [if_neg (by omega), if_neg (by omega)]; exact c0
    · simp only [List.getElem?_set]; rw [if_neg (by omega), if_neg (by omega)]; exact c1
theorem nestT_is {w : World} {B g base cap : Nat} {V0 V1 : Nat → Value} {xs : List Value} {ts : List Tr.T} (h : NestT w B V0 V1 xs ts ts.length) (hown : w.ownsRow base 93 2 (.slice (some ⟨g, 0, none⟩) ts.length cap) ts.length xs) : IsT w (some ⟨g, 0, none⟩) ts := by
  have hlt := (World.ownsRow.lt hown g rfl).2
  refine .inr ⟨g, 0, rfl, hlt, fun j hj => ?_⟩
  obtain ⟨⟨c0, c1⟩, o0, o1⟩ := h j hj hj
  obtain ⟨a0, q0, e0, _, i0⟩ := o0.isp
  obtain ⟨a1, q1, e1, i1⟩ := o1.isl
  have hxl := hown.1
  refine ⟨V0 j, V1 j, ⟨?_, ?_⟩, a0, q0, a1, q1, e0, e1, i0, i1⟩
  · rw [Nat.zero_add, World.ownsRow.cellAt hown (j * 2) (by omega), c0]
  · rw [Nat.zero_add, World.ownsRow.cellAt hown (j * 2 + 1) (by omega), c1]
theorem info_tree : (Tryz.prog.info? 93).map (fun i => (i.zero, i.size, i.bytes)) = some (some (.agg #[.slice none 0 0, .slice none 0 0]), 2, 48) := by kernel_rfl
set_option maxHeartbeats 1000000 in
theorem toTrees (w : World) (a : Option Addr) (cap : Nat) (ts : List Tr.T) (hx : IsT w a ts) (hl : ts.length + szT ts ≤ 1048576) :
    Calls Tryz.prog 31 #[.slice a ts.length cap] w fun e w' => ∃ g, e = .returned (.slice (some ⟨g, 0, none⟩) ts.length ts.length) ∧ IsT w' (some ⟨g, 0, none⟩) ts ∧ Below w.heap.size w w' := by
  obtain ⟨i0, hi, hz0, hz1, hz2⟩ := info_parts info_tree
  go_enter Tryz.func31, Tryz.ntmps31
  go_wp2_with (at_make; refine wpList_make_full _ rfl _ _ 37 rfl w.heap.size 93 i0 (.agg #[.slice none 0 0, .slice none 0 0]) 2 Tryz.underlying37 hi hz0 hz1 _ _ _ _ ts.length rfl rfl (by omega) (by omega) (by rw [hz2]; omega) (by unfold maxLen; omega) (Nat.le_refl _) ?_; intro w1 hown hgrow)
  have hB1 := below_none hgrow
  obtain ⟨xs0, hxs⟩ : ∃ xs, (madeCells (Value.agg #[.slice none 0 0, .slice none 0 0]).cells (ts.length * 2)).toList = xs := ⟨_, rfl⟩
  rw [hxs] at hown
  clear hxs hgrow
  go_loopw [4] (fun i wr => ∃ k : Nat, k ≤ ts.length ∧ i = .int .i64 k ∧ ∃ xs V0 V1, wr.ownsRow w.heap.size 93 2 (.slice (some ⟨w.heap.size, 0, none⟩) ts.length ts.length) ts.length xs ∧ NestT wr (w.heap.size + 1) V0 V1 xs ts k ∧ Below w.heap.size w wr) (fun i _ => ts.length - (intOf i).toNat)
  case atStart => exact ⟨0, Nat.zero_le _, rfl, xs0, fun _ => undef, fun _ => undef, hown, nestT_zero _ _ _ _ _ _, hB1⟩
  case round =>
    obtain ⟨k, hk, rfl, xs, V0, V1, hown, hnest, hB⟩ := hrel
    have hxl := hown.1
    have hltr : w.heap.size < wr.heap.size := (World.ownsRow.lt hown w.heap.size rfl).2
    by_cases hlt : k < ts.length
    · rcases hx.below hB with rfl | ⟨b, off, rfl, hb, hc⟩
      · simp at hlt
      · obtain ⟨v0, v1, ⟨cx0, cx1⟩, a0, c0, a1, c1, rfl, rfl, i0, i1⟩ := hc k hlt
        have hz : ts[k].sp.length + ts[k].lv.length ≤ szT ts := szT_at ts k hlt
        clear hc
        go_wp2_with fail
        refine (toTree _ _ _ _ _ ts[k] i0 i1 (by omega)).mono ?_
        rintro e w2 ⟨g0, g1, rfl, o0, o1, hap, hB2⟩
        have HN : Hid _ := nestT_step (hnest.below hB2) hlt hxl (Nat.lt_succ_self _) (o0.mono (base' := w.heap.size + 1) (by omega)) (o1.mono (base' := w.heap.size + 1) (by omega))
        have hown2 : w2.ownsRow w.heap.size 93 2 (.slice (some ⟨w.heap.size, 0, none⟩) ts.length ts.length) ts.length xs := hown.kept (row := none) ⟨hB2.os, hB2.tape, hB2.output, hB2.size, fun q hq _ => hB2.block q hq⟩ (.inr (by simp [Value.ownBlock]))
        have k0 := World.ownsRow.cellAt hown2 (k * 2) (by omega)
        have k1 := World.ownsRow.cellAt hown2 (k * 2 + 1) (by omega)
        rw [List.getElem?_eq_getElem (by omega)] at k0 k1
        have f0 := World.ownsRow.frozenAt hown2 (k * 2)
        have f1 := World.ownsRow.frozenAt hown2 (k * 2 + 1)
        have HW : Hid _ := (World.ownsRow.stored (World.ownsRow.stored hown2 (k * 2) (.slice (some ⟨g0, 0, none⟩) ts[k].sp.length ts[k].sp.length)).1 (k * 2 + 1) (.slice (some ⟨g1, 0, none⟩) ts[k].lv.length ts[k].lv.length)).1
        have hB := hB.trans (hB2.mono hB.size)
        obtain ⟨x0, hx0⟩ : ∃ x, xs[k * 2]'(by omega) = x := ⟨_, rfl⟩
        obtain ⟨x1, hx1⟩ : ∃ x, xs[k * 2 + 1]'(by omega) = x := ⟨_, rfl⟩
        rw [hx0] at k0
        rw [hx1] at k1
        clear hx0 hx1 hown hown2 hnest o0 o1 hap hB2 cx0 cx1 i0 i1 hltr hxl
        go_wp2
        go_roundw
        case rel => exact ⟨k + 1, by omega, by go_num, _, _, _, HW.out, HN.out, (hB.setCell (p := ⟨w.heap.size, k * 2, none⟩) (Nat.le_refl _) _).setCell (p := ⟨w.heap.size, k * 2 + 1, none⟩) (Nat.le_refl _) _⟩
        case measure => simp [intOf]; omega
    · obtain rfl : k = ts.length := by omega
      have HO : Hid (IsT wr (some ⟨w.heap.size, 0, none⟩) ts) := nestT_is hnest hown
      clear hown hnest
      go_wp2
      go_ret
      exact ⟨_, rfl, HO.out, hB⟩
set_option maxHeartbeats 1000000 in
/-- A list of trees is the same as itself, wherever the two lie. -/
theorem eqTrees (w : World) (a b : Option Addr) (ca cb : Nat) (xs : List Tr.T) (hx : IsT w a xs) (hy : IsT w b xs) (hl : xs.length + szT xs ≤ 1048576) :
    Calls Tryz.prog 38 #[.slice a xs.length ca, .slice b xs.length cb] w fun e w' => e = .returned (.bool true) ∧ Below w.heap.size w w' := by
  have hb : ((xs.length : Int) != (xs.length : Int)) = false := by simp
  go_enter Tryz.func38, Tryz.ntmps38
  go_wp2
  go_loopw [5] (fun i wr => ∃ k : Nat, k ≤ xs.length ∧ i = .int .i64 k ∧ Below w.heap.size w wr) (fun i _ => xs.length - (intOf i).toNat)
  case atStart => exact ⟨0, Nat.zero_le _, rfl, Below.refl _ _⟩
  case round =>
    obtain ⟨k, hk, rfl, hB⟩ := hrel
    by_cases hlt : k < xs.length
    · rcases hx.below hB with rfl | ⟨xb, xo, rfl, hxb, hxc⟩
      · simp at hlt
      · rcases hy.below hB with rfl | ⟨yb, yo, rfl, hyb, hyc⟩
        · simp at hlt
        · obtain ⟨v0, v1, ⟨cx0, cx1⟩, a0, c0, a1, c1, rfl, rfl, i0, i1⟩ := hxc k hlt
          obtain ⟨u0, u1, ⟨cy0, cy1⟩, b0, d0, b1, d1, rfl, rfl, j0, j1⟩ := hyc k hlt
          have hz : xs[k].sp.length + xs[k].lv.length ≤ szT xs := szT_at xs k hlt
          clear hxc hyc
          go_wp2
          go_region_with (go_at_call 63; refine (eqTree _ _ _ _ _ _ _ _ _ xs[k] xs[k] (by exact i0) (by exact i1) (by exact j0) (by exact j1) (by omega) (by omega)).mono ?_; rintro e w1 ⟨rfl, hB1⟩; rw [eqp_self, Li.eqs_self])
          all_goals
            have hB : Below w.heap.size w w1 := by first | exact hB.trans (hB1.mono hB.size) | exact hB.drew.trans (hB1.mono hB.size)
            clear hB1
            go_wp2
            go_roundw
            case rel => exact ⟨k + 1, by omega, by go_num, hB⟩
            case measure => simp [intOf]; omega
    · go_wp2
      go_ret
      exact ⟨rfl, hB⟩
end Go.Proofs.YtkfjlldlbknepaaGreat.Tm
