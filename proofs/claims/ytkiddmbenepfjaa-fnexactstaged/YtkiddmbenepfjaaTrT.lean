/-
  A tree as the laws hold it: a copy, a comparison, marks and whether they are held.
-/
import Derived.Test.YtkiddmbenepfjaaTrM
namespace Go.Proofs.Ytkiddmbenepfjaa.Tm
open Go.RowKit
open Go.Proofs.Ytkiddmbenepfjaa.Li (ret_bool ret_int below_none)
open Go.Proofs.Ytkiddmbenepfjaa.Tb (sub sub_yes sub_no)

/-- A variable of two cells. -/
def Box2 (w : World) (b : Nat) (v0 v1 : Value) : Prop :=
  b < w.heap.size ∧ (w.cell? ⟨b, 0, none⟩ = some v0 ∧ w.cell? ⟨b, 1, none⟩ = some v1) ∧ w.frozen? ⟨b, 0, none⟩ = false ∧ w.frozen? ⟨b, 1, none⟩ = false
theorem Box2.keptAt {w w1 : World} {b : Nat} {v0 v1 : Value} (h : Box2 w b v0 v1) (hs : w.heap.size ≤ w1.heap.size) (hb : w1.heap[b]? = w.heap[b]?) : Box2 w1 b v0 v1 := by
  obtain ⟨hlt, ⟨c0, c1⟩, f0, f1⟩ := h
  refine ⟨by omega, ⟨?_, ?_⟩, ?_, ?_⟩
  · rw [World.cell?_of_block (w := w) (a := ⟨b, 0, none⟩) hb]; exact c0
  · rw [World.cell?_of_block (w := w) (a := ⟨b, 1, none⟩) hb]; exact c1
  · rw [World.frozen?_of_block (w := w) (a := ⟨b, 0, none⟩) hb]; exact f0
  · rw [World.frozen?_of_block (w := w) (a := ⟨b, 1, none⟩) hb]; exact f1
theorem Box2.below {w w1 : World} {b : Nat} {v0 v1 : Value} (h : Box2 w b v0 v1) (hB : Below w.heap.size w w1) : Box2 w1 b v0 v1 := h.keptAt hB.size (hB.block b h.1)
theorem Box2.setOther {w : World} {b g o : Nat} {v0 v1 v : Value} (h : Box2 w b v0 v1) (hne : ¬ b = g) : Box2 (w.setCell ⟨g, o, none⟩ v) b v0 v1 :=
  h.keptAt (by simp [World.setCell]) (Below.heap_setCell _ _ _ _ (fun e => hne (by simpa using e)))
theorem Box2.set0 {w : World} {b : Nat} {v0 v1 : Value} (h : Box2 w b v0 v1) (v : Value) : Box2 (w.setCell ⟨b, 0, none⟩ v) b v v1 := by
  obtain ⟨hlt, ⟨c0, c1⟩, f0, f1⟩ := h
  refine ⟨by simpa [World.setCell] using hlt, ⟨World.cell?_setCell_same _ _ _ c0, ?_⟩, ?_, ?_⟩
  · rw [World.cell?_setCell_other _ _ _ _ (by simp)]; exact c1
  all_goals (rw [World.frozen?_setCell]; assumption)
theorem Box2.set1 {w : World} {b : Nat} {v0 v1 : Value} (h : Box2 w b v0 v1) (v : Value) : Box2 (w.setCell ⟨b, 1, none⟩ v) b v0 v := by
  obtain ⟨hlt, ⟨c0, c1⟩, f0, f1⟩ := h
  refine ⟨by simpa [World.setCell] using hlt, ⟨?_, World.cell?_setCell_same _ _ _ c1⟩, ?_, ?_⟩
  · rw [World.cell?_setCell_other _ _ _ _ (by simp)]; exact c0
  all_goals (rw [World.frozen?_setCell]; assumption)
theorem box2_new (w : World) (v0 v1 : Value) (T : TypeId) : Box2 (w.alloc (.cells #[v0, v1] T)) w.heap.size v0 v1 :=
  ⟨by simp, ⟨by simp [World.cell?_alloc_new], by simp [World.cell?_alloc_new]⟩, by simp, by simp⟩
theorem Box2.alloc {w : World} {b : Nat} {v0 v1 : Value} (h : Box2 w b v0 v1) (o : Obj) : Box2 (w.alloc o) b v0 v1 := h.below ((Below.refl _ _).alloc (Nat.le_refl _) _)
theorem Box2.drewN {w : World} {b : Nat} {v0 v1 : Value} (h : Box2 w b v0 v1) (n : Nat) : Box2 (w.drewN n) b v0 v1 := h
theorem size_alloc (w : World) (o : Obj) : (w.alloc o).heap.size = w.heap.size + 1 := by simp
/-- One, two, three variables of two cells, one behind the other. -/
theorem boxes1 (w : World) (v0 v1 : Value) (T : TypeId) : ∃ W, w.alloc (.cells #[v0, v1] T) = W ∧ W.heap.size = w.heap.size + 1 ∧ Below w.heap.size w W ∧ Box2 W w.heap.size v0 v1 :=
  ⟨_, rfl, by simp, (Below.refl _ _).alloc (Nat.le_refl _) _, box2_new _ _ _ _⟩
theorem boxes2 (w : World) (v0 v1 x0 x1 : Value) (T U : TypeId) : ∃ W, (w.alloc (.cells #[v0, v1] T)).alloc (.cells #[x0, x1] U) = W ∧ W.heap.size = w.heap.size + 2 ∧ Below w.heap.size w W ∧ Box2 W w.heap.size v0 v1 ∧ Box2 W (w.heap.size + 1) x0 x1 := by
  refine ⟨_, rfl, by simp, ((Below.refl _ _).alloc (Nat.le_refl _) _).alloc (by simp) _, ?_, ?_⟩
  · exact (box2_new _ _ _ _).alloc _
  · have := box2_new (w.alloc (.cells #[v0, v1] T)) x0 x1 U
    rwa [size_alloc] at this
theorem boxes3 (w : World) (v0 v1 x0 x1 y0 y1 : Value) (T U V : TypeId) : ∃ W, ((w.alloc (.cells #[v0, v1] T)).alloc (.cells #[x0, x1] U)).alloc (.cells #[y0, y1] V) = W ∧ W.heap.size = w.heap.size + 3 ∧ Below w.heap.size w W ∧ Box2 W w.heap.size v0 v1 ∧ Box2 W (w.heap.size + 1) x0 x1 ∧ Box2 W (w.heap.size + 2) y0 y1 := by
  refine ⟨_, rfl, by simp, (((Below.refl _ _).alloc (Nat.le_refl _) _).alloc (by simp) _).alloc (by simp; omega) _, ?_, ?_, ?_⟩
  · exact ((box2_new _ _ _ _).alloc _).alloc _
  · have := (box2_new (w.alloc (.cells #[v0, v1] T)) x0 x1 U).alloc (.cells #[y0, y1] V)
    rwa [size_alloc] at this
  · have := box2_new ((w.alloc (.cells #[v0, v1] T)).alloc (.cells #[x0, x1] U)) y0 y1 V
    rwa [size_alloc, size_alloc] at this
theorem own_off {w w1 : World} {B b : Nat} {v : Value} {xs : List Int} (h : Li.Own w B v xs) (hg : w.grownBy w1 (some b)) (hb : b < B) : Li.Own w1 B v xs := by
  refine h.kept hg ?_
  cases e : v.ownBlock with
  | none => exact .inl rfl
  | some k => exact .inr (by have := (h.ge k e).1; simp; omega)
theorem ownP_off {w w1 : World} {B b : Nat} {v : Value} {xs : List (Int × Int)} (h : OwnP w B v xs) (hg : w.grownBy w1 (some b)) (hb : b < B) : OwnP w1 B v xs := by
  refine h.kept hg ?_
  cases e : v.ownBlock with
  | none => exact .inl rfl
  | some k => exact .inr (by have := (h.ge k e).1; simp; omega)
/-- Two slices of the call's own lie apart, both ways. -/
def Apt (u v : Value) : Prop := (v.ownBlock = none ∨ v.ownBlock ≠ u.ownBlock) ∧ (u.ownBlock = none ∨ u.ownBlock ≠ v.ownBlock)
theorem apt_of {u v : Value} (h : ∀ k, u.ownBlock = some k → v.ownBlock = some k → False) : Apt u v := by
  unfold Apt
  cases e : u.ownBlock with
  | none => exact ⟨by cases e' : v.ownBlock <;> simp, .inl rfl⟩
  | some k =>
    cases e' : v.ownBlock with
    | none => exact ⟨.inl rfl, by simp⟩
    | some k' => 
      have : ¬ k = k' := fun e2 => h k e (by rw [e', e2])
      exact ⟨.inr (by simp; omega), .inr (by simp; omega)⟩

set_option maxHeartbeats 1000000 in
theorem toTree (w : World) (a a' : Option Addr) (c c' : Nat) (t : Tr.T) (hp : IsP w a t.sp) (hx : Li.IsL w a' t.lv) (hl : t.sp.length + t.lv.length ≤ 1048576) :
    Calls Try.prog 66 #[.agg #[.slice a t.sp.length c, .slice a' t.lv.length c']] w fun e w' => ∃ g0 g1, e = .returned (.agg #[.slice (some ⟨g0, 0, none⟩) t.sp.length t.sp.length, .slice (some ⟨g1, 0, none⟩) t.lv.length t.lv.length]) ∧ OwnP w' w.heap.size (.slice (some ⟨g0, 0, none⟩) t.sp.length t.sp.length) t.sp ∧ Li.Own w' w.heap.size (.slice (some ⟨g1, 0, none⟩) t.lv.length t.lv.length) t.lv ∧ Apt (.slice (some ⟨g0, 0, none⟩) t.sp.length t.sp.length) (.slice (some ⟨g1, 0, none⟩) t.lv.length t.lv.length) ∧ Below w.heap.size w w' := by
  go_enter Try.func66, Try.ntmps66
  go_wp2_with fail
  obtain ⟨W, hW, hsz, hB, bx, br, bo⟩ := boxes3 w (.slice a t.sp.length c) (.slice a' t.lv.length c') (.slice none 0 0) (.slice none 0 0) (.slice none 0 0) (.slice none 0 0) 97 65 65
  rw [hW]
  clear hW
  refine (toP _ _ _ t.sp (hp.below hB) (by omega)).mono ?_
  rintro e w1 ⟨rfl, o0, hB1⟩
  obtain ⟨g0, hg0⟩ : ∃ g, W.heap.size = g := ⟨_, rfl⟩
  have hg0' : w.heap.size + 3 = g0 := by omega
  rw [hg0] at o0 ⊢
  have bx := bx.below hB1
  have br := br.below hB1
  have bo := bo.below hB1
  have o0 := o0.mono (base' := w.heap.size + 3) (by omega)
  have hB := hB.trans (hB1.mono hB.size)
  have hs1 := hB1.size
  have hgl := (o0.ge g0 rfl).2
  clear hB1
  obtain ⟨w2, hw2, hB2, bx2, br2, bo2, o2⟩ : ∃ w2, w1.setCell ⟨w.heap.size + 1 + 1, 0, none⟩ (.slice (some ⟨g0, 0, none⟩) t.sp.length t.sp.length) = w2 ∧ Below w.heap.size w w2 ∧ Box2 w2 w.heap.size _ _ ∧ Box2 w2 (w.heap.size + 1) _ _ ∧ Box2 w2 (w.heap.size + 2) _ _ ∧ OwnP w2 (w.heap.size + 3) (.slice (some ⟨g0, 0, none⟩) t.sp.length t.sp.length) t.sp :=
    ⟨_, rfl, hB.setCell (p := ⟨w.heap.size + 1 + 1, 0, none⟩) (by simp; omega) _, bx.setOther (by omega), br.setOther (by omega), bo.set0 _, ownP_off o0 (Li.grown_set _ _ _ _) (by omega)⟩
  obtain ⟨_, ⟨cx0, cx1⟩, _⟩ := bx
  obtain ⟨hbo, ⟨co0, co1⟩, fo0, fo1⟩ := bo
  have hs2 : w1.heap.size ≤ w2.heap.size := by rw [← hw2]; simp [World.setCell]
  have HW : Hid (w1.setCell ⟨w.heap.size + 1 + 1, 0, none⟩ (.slice (some ⟨g0, 0, none⟩) t.sp.length t.sp.length) = w2) := hw2
  have HG0 : Hid (w.heap.size + 3 = g0) := hg0'
  clear hw2 hg0 hg0' hsz
  go_wp2_with fail
  rw [HW.out]
  clear HW cx0 cx1 co0 co1 fo0 fo1 hB br o0
  refine (Li.to_any _ _ _ t.lv (hx.below hB2) (by omega)).mono ?_
  rintro e w3 ⟨rfl, o1, hB3⟩
  obtain ⟨g1, hg1⟩ : ∃ g, w2.heap.size = g := ⟨_, rfl⟩
  have HG1 : Hid (w2.heap.size = g1) := hg1
  rw [hg1] at o1 ⊢
  have bx := bx2.below hB3
  have br := br2.below hB3
  have bo := bo2.below hB3
  have hap : Apt (.slice (some ⟨g0, 0, none⟩) t.sp.length t.sp.length) (.slice (some ⟨g1, 0, none⟩) t.lv.length t.lv.length) :=
    apt_of fun k e e' => by have := (o2.ge k e).2; have := (o1.ge k e').1; omega
  have hlo1 : w.heap.size + 3 ≤ g1 := by omega
  have o0 := o2.below hB3
  have o1 := o1.mono (base' := w.heap.size + 3) hlo1
  have hB := hB2.trans (hB3.mono hB2.size)
  clear hB3 hB2 bx2 br2 bo2 o2 hs2 hbo hs1 hg1 hlo1 hgl
  obtain ⟨_, ⟨cx0, cx1⟩, _⟩ := bx
  obtain ⟨_, ⟨co0, co1⟩, fo0, fo1⟩ := bo
  obtain ⟨_, ⟨cr0, cr1⟩, fr0, fr1⟩ := br
  go_wp2
  refine bodyPost_ret (v := .agg #[.slice (some ⟨g0, 0, none⟩) t.sp.length t.sp.length, .slice (some ⟨g1, 0, none⟩) t.lv.length t.lv.length]) (by rw [results_cell rfl]; go_simp) rfl ⟨_, _, rfl, ?_, ?_, hap, ?_⟩
  · exact (ownP_off (ownP_off (ownP_off o0 (Li.grown_set _ _ _ _) (by omega)) (Li.grown_set _ _ _ _) (by omega)) (Li.grown_set _ _ _ _) (by omega)).mono (by omega)
  · exact (own_off (own_off (own_off o1 (Li.grown_set _ _ _ _) (by omega)) (Li.grown_set _ _ _ _) (by omega)) (Li.grown_set _ _ _ _) (by omega)).mono (by omega)
  · exact ((hB.setCell (by simp; omega) _).setCell (by simp) _).setCell (by simp) _
set_option maxHeartbeats 1000000 in
theorem eqTree (w : World) (a a' b b' : Option Addr) (c c' d d' : Nat) (t u : Tr.T) (hp : IsP w a t.sp) (hx : Li.IsL w a' t.lv) (hq : IsP w b u.sp) (hy : Li.IsL w b' u.lv) (hl : t.sp.length + t.lv.length ≤ 1048576) (hl' : u.sp.length + u.lv.length ≤ 1048576) :
    Calls Try.prog 72 #[.agg #[.slice a t.sp.length c, .slice a' t.lv.length c'], .agg #[.slice b u.sp.length d, .slice b' u.lv.length d']] w fun e w' => e = .returned (.bool (eqp t.sp u.sp && Li.eqs t.lv u.lv)) ∧ Below w.heap.size w w' := by
  go_enter Try.func72, Try.ntmps72
  go_wp2_with fail
  obtain ⟨W, hW, hsz, hB, bx, br⟩ := boxes2 w (.slice a t.sp.length c) (.slice a' t.lv.length c') (.slice b u.sp.length d) (.slice b' u.lv.length d') 65 65
  rw [hW]
  clear hW
  refine (eqP _ _ _ _ _ t.sp u.sp (hp.below hB) (hq.below hB) (by omega) (by omega)).mono ?_
  rintro e w1 ⟨rfl, hB1⟩
  have bx := bx.below hB1
  have br := br.below hB1
  have hB := hB.trans (hB1.mono hB.size)
  clear hB1 hsz
  have hx := hx.below hB
  have hy := hy.below hB
  obtain ⟨_, ⟨cx0, cx1⟩, _⟩ := id bx
  obtain ⟨_, ⟨cr0, cr1⟩, _⟩ := id br
  cases he : eqp t.sp u.sp
  · go_wp2
    go_ret
    exact ⟨by rw [he]; rfl, hB⟩
  · go_wp2_with fail
    refine (Li.eq_bel _ _ _ _ _ t.lv u.lv hx hy (by omega) (by omega)).mono ?_
    rintro e w2 ⟨rfl, hB2⟩
    have hB := hB.trans (hB2.mono hB.size)
    cases he' : Li.eqs t.lv u.lv
    · go_wp2
      go_ret
      exact ⟨by rw [he, he']; rfl, hB⟩
    · go_wp2
      go_ret
      exact ⟨by rw [he, he']; rfl, hB⟩
/-- What two blocks alone have been written into. -/
structure Fr2 (w w1 : World) (r r' : Option Nat) : Prop where
  os : w1.os = w.os
  tape : w1.tape = w.tape
  output : w1.output = w.output
  size : w.heap.size ≤ w1.heap.size
  block : ∀ k, k < w.heap.size → ¬ some k = r → ¬ some k = r' → w1.heap[k]? = w.heap[k]?
theorem fr2_of {w w1 w2 w3 : World} {r r' : Option Nat} (h0 : Below w.heap.size w w1) (h : w1.grownBy w2 r) (h' : w2.grownBy w3 r') : Fr2 w w3 r r' :=
  ⟨h'.os.trans (h.os.trans h0.os), h'.tape.trans (h.tape.trans h0.tape), h'.output.trans (h.output.trans h0.output), Nat.le_trans h0.size (Nat.le_trans h.size h'.size),
   fun k hk hr hr' => (h'.block k (Nat.lt_of_lt_of_le hk (Nat.le_trans h0.size h.size)) hr').trans ((h.block k (Nat.lt_of_lt_of_le hk h0.size) hr).trans (h0.block k hk))⟩
theorem ownsRow_at {w w1 : World} {base : Nat} {e : TypeId} {size : Nat} {v : Value} {n : Nat} {xs : List Value} (h : w.ownsRow base e size v n xs) (hk : ∀ k, v.ownBlock = some k → w1.heap[k]? = w.heap[k]?) : w1.ownsRow base e size v n xs := by
  refine ⟨h.1, ?_⟩
  rcases h.2 with h | ⟨g, cap, cur, rfl, hb, hh, r⟩
  · exact .inl h
  · exact .inr ⟨g, cap, cur, rfl, hb, by rw [hk g rfl]; exact hh, r⟩
theorem kept2 {w w1 : World} {base s n : Nat} {t : TypeId} {v : Value} {xs : List Value} {r r' : Option Nat} (h : w.ownsRow base t s v n xs) (hg : Fr2 w w1 r r') (hne : v.ownBlock = none ∨ v.ownBlock ≠ r) (hne' : v.ownBlock = none ∨ v.ownBlock ≠ r') : w1.ownsRow base t s v n xs :=
  ownsRow_at h fun k e => hg.block k (World.ownsRow.lt h k e).2 (fun e' => by rcases hne with h1 | h1; (· rw [h1] at e; cases e); (· exact h1 (e.trans e'))) (fun e' => by rcases hne' with h1 | h1; (· rw [h1] at e; cases e); (· exact h1 (e.trans e')))
theorem Own.kept2 {w w1 : World} {base : Nat} {v : Value} {xs : List Int} {r r' : Option Nat} (h : Li.Own w base v xs) (hg : Fr2 w w1 r r') (hne : v.ownBlock = none ∨ v.ownBlock ≠ r) (hne' : v.ownBlock = none ∨ v.ownBlock ≠ r') : Li.Own w1 base v xs := Tm.kept2 h hg hne hne'
theorem OwnP.kept2 {w w1 : World} {base : Nat} {v : Value} {xs : List (Int × Int)} {r r' : Option Nat} (h : OwnP w base v xs) (hg : Fr2 w w1 r r') (hne : v.ownBlock = none ∨ v.ownBlock ≠ r) (hne' : v.ownBlock = none ∨ v.ownBlock ≠ r') : OwnP w1 base v xs := Tm.kept2 h hg hne hne'
theorem Fr2.bel {w w1 : World} {B : Nat} {u v : Value} (h : Fr2 w w1 u.ownBlock v.ownBlock) (hu : ∀ k, u.ownBlock = some k → B ≤ k) (hv : ∀ k, v.ownBlock = some k → B ≤ k) (hB : B ≤ w.heap.size) : Below B w w1 :=
  ⟨h.os, h.tape, h.output, h.size, fun k hk => h.block k (by omega) (fun e => by have := hu k e.symm; omega) (fun e => by have := hv k e.symm; omega)⟩

def pmarks (k : Int) (n : Nat) : List (Int × Int) := (List.range n).map fun (j : Nat) => (k + 2 * (j : Int), k + 2 * (j : Int) + 1)
theorem pmarks_length (k : Int) (n : Nat) : (pmarks k n).length = n := by simp [pmarks]
theorem pmarks_get (k : Int) (n j : Nat) (h : j < (pmarks k n).length) : (pmarks k n)[j] = (k + 2 * (j : Int), k + 2 * (j : Int) + 1) := by simp [pmarks]
set_option maxHeartbeats 1000000 in
theorem markP (w : World) (base : Nat) (a : Option Addr) (n cap : Nat) (k : Int) (xs : List (Int × Int)) (hn : xs.length = n) (h : OwnP w base (.slice a n cap) xs) (hl : n ≤ 1048576) (k0 : 0 ≤ k) (k1 : k ≤ 1000000000000) :
    Calls Try.prog 76 #[.slice a n cap, .int .i64 k] w fun e w' => e = .returned (.int .i64 (k + 2 * n)) ∧ OwnP w' base (.slice a n cap) (pmarks k n) ∧ w.grownBy w' (Value.slice a n cap).ownBlock ∧ w'.heap.size = w.heap.size := by
  go_enter Try.func76, Try.ntmps76
  go_wp2
  go_loopw [1, 5] (fun q i wr => ∃ j : Nat, j ≤ n ∧ i = .int .i64 j ∧ q = .int .i64 (k + 2 * j) ∧ ∃ l : List (Int × Int), l.length = n ∧ LikeP l (pmarks k n) j ∧ OwnP wr base (.slice a n cap) l ∧ w.grownBy wr (Value.slice a n cap).ownBlock ∧ wr.heap.size = w.heap.size) (fun _ i _ => n - (intOf i).toNat)
  case atStart => exact ⟨0, Nat.zero_le _, rfl, by go_num, xs, hn, fun j hj => by omega, h, Li.grown_refl _ _, rfl⟩
  case round =>
    obtain ⟨j, hj, rfl, rfl, l, hll, hlike, hown, hg, hz⟩ := hrel
    have HZ : Hid (wr.heap.size = w.heap.size) := hz
    clear hz h
    by_cases hlt : j < n
    · have hown0 := hown
      rcases hown0.2 with ⟨hv, h0⟩ | ⟨g, cap', cur, hv, _⟩
      · omega
      · obtain ⟨rfl, rfl, rfl⟩ : a = some ⟨g, 0, none⟩ ∧ n = l.length ∧ cap = cap' := by simpa using hv
        clear hv hown0
        obtain ⟨hc0, hc1⟩ := hown.cell rfl j hlt
        have hf0 := hown.frozen rfl (j * 2)
        have hf1 := hown.frozen rfl (j * 2 + 1)
        have HO : Hid (OwnP wr base (.slice (some ⟨g, 0, none⟩) l.length cap) l) := hown
        have HL : Hid (LikeP (l.set j (k + 2 * j, k + 2 * j + 1)) (pmarks k l.length) (j + 1)) := by
          have := likeP_set hlike (by rw [pmarks_length]; exact hlt) (by rw [pmarks_length])
          rwa [pmarks_get] at this
        clear hown hlike
        go_wp2
        go_roundw
        case rel => exact ⟨j + 1, by omega, by go_num, by go_num, l.set j (k + 2 * j, k + 2 * j + 1), by simp, HL.out, HO.out.set rfl j _ _, Li.grown_trans (Li.grown_trans hg (Li.grown_set _ _ _ _)) (Li.grown_set _ _ _ _), by simpa [World.setCell] using HZ.out⟩
        case measure => simp [intOf]; omega
    · obtain rfl : j = n := by omega
      have HO : Hid (OwnP wr base (.slice a j cap) (pmarks k j)) := by
        have e := likeP_all (xs := pmarks k j) (by rw [pmarks_length]; exact hlike) (by rw [pmarks_length]; exact hll)
        rw [← e]; exact hown
      clear hown hlike
      go_wp2
      go_ret
      exact ⟨rfl, HO.out, hg, HZ.out⟩
/-- What v owns is not block b. -/
def NB (v : Value) (b : Nat) : Prop := ∀ k, v.ownBlock = some k → ¬ k = b
theorem nbB {w : World} {base s n b : Nat} {t : TypeId} {v : Value} {xs : List Value} (h : w.ownsRow base t s v n xs) (hb : b < base) : NB v b := fun k hk => by have := (World.ownsRow.lt h k hk).1; omega
theorem nbA {w : World} {base s n : Nat} {t : TypeId} {v : Value} {xs : List Value} (h : w.ownsRow base t s v n xs) : NB v w.heap.size := fun k hk => by have := (World.ownsRow.lt h k hk).2; omega
theorem isp_of {w w1 : World} {n m : Nat} {x : Addr} {ps : List (Int × Int)} (h : ∃ a cap, Value.slice (some x) n m = .slice a ps.length cap ∧ ps.length ≤ cap ∧ IsP w a ps) (hb : Below w.heap.size w w1) : IsP w1 (some x) ps := by
  obtain ⟨a, cap, e, _, hi⟩ := h
  cases e
  exact hi.below hb
theorem isl_of' {w w1 : World} {n m : Nat} {x : Addr} {ps : List Int} (h : ∃ a cap, Value.slice (some x) n m = .slice a ps.length cap ∧ Li.IsL w a ps) (hb : Below w.heap.size w w1) : Li.IsL w1 (some x) ps := by
  obtain ⟨a, cap, e, hi⟩ := h
  cases e
  exact hi.below hb
theorem below_drew (w : World) : Below w.heap.size w w.drew := ⟨rfl, rfl, rfl, Nat.le_refl _, fun _ _ => rfl⟩
end Go.Proofs.Ytkiddmbenepfjaa.Tm
