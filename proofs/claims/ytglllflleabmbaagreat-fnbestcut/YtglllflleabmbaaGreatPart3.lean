/-
  Contracts that the proof leans on, put together in the order in which they build.
-/
import Derived.Test.YtglllflleabmbaaGreatPart2
import Derived.Test.YtglllflleabmbaaGreatRows
import Derived.OrdersHeld
import Derived.WalkKit
/-
  Asked of the model: what it has put together so far, and how a row is put behind it.
-/
namespace Go.Proofs.YtglllflleabmbaaGreat.Sw7
set_option maxRecDepth 100000
open Go.RowKit
open Go.Proofs.YtglllflleabmbaaGreat.Li (ret_bool ret_int below_none IsL btw iv)
open Go.Proofs.YtglllflleabmbaaGreat.Tm (IsP pv pv_length)
open Go.Proofs.YtglllflleabmbaaGreat.Se Go.Proofs.YtglllflleabmbaaGreat.Sv
set_option linter.unusedVariables false

def zr5' : List Value := [.slice none 0 0, .slice none 0 0, .slice none 0 0, .int .i64 0, .int .i64 0]
structure SP (w wx : World) (bo lo hi : Nat) (vx vg vi : Value) (lv2 l2 f b : Int) (cx : List Value) (V : Nat → Value) (bl : Nat → Nat) (xs : List (List Int)) (k : Nat) (ids gs : List Int) (RA : List Value) : Prop where
  bv : Wr wx bo 0 [vx, vg, vi, .int .i64 lv2, .int .i64 l2]
  ox : wx.ownsRow (w.heap.size + 3) 115 1 vx k cx
  oi : Li.Own wx (w.heap.size + 3) vi ids
  og : OwI wx (fun q => lo ≤ q ∧ q < hi) vg gs
  ba : Wr wx w.heap.size 0 RA
  bs : Wr wx (w.heap.size + 1) 0 [.int .i64 f, .int .i64 b]
  br : Wr wx (w.heap.size + 1 + 1) 0 zr5'
  bel : Below w.heap.size w wx
  ge : w.heap.size + 3 ≤ bo ∧ w.heap.size + 3 ≤ lo ∧ hi ≤ wx.heap.size
  bx : ∀ q, vx.ownBlock = some q → ¬ q = bo ∧ ¬ (lo ≤ q ∧ q < hi) ∧ ¬ vi.ownBlock = some q
  bi : ∀ q, vi.ownBlock = some q → ¬ q = bo ∧ ¬ (lo ≤ q ∧ q < hi)
  bg : ¬ (lo ≤ bo ∧ bo < hi)
  nest : ∀ i (hi' : i < xs.length), i < k → cx[i]? = some (V i) ∧ OwI wx (fun q => q = bl i) (V i) xs[i] ∧ w.heap.size + 3 ≤ bl i ∧ bl i < wx.heap.size ∧ ¬ bl i = bo ∧ ¬ (lo ≤ bl i ∧ bl i < hi) ∧ ¬ vx.ownBlock = some (bl i) ∧ ¬ vi.ownBlock = some (bl i)
  inj : ∀ i j, i < j → j < k → ¬ bl i = bl j
section
variable {w wx wy : World} {bo lo hi : Nat} {vx vg vi : Value} {lv2 l2 f b : Int} {cx : List Value} {V : Nat → Value} {bl : Nat → Nat} {xs : List (List Int)} {k : Nat} {ids gs : List Int} {RA : List Value}
theorem row_below {base s n : Nat} {t : TypeId} {v : Value} {vs : List Value} (h : wx.ownsRow base t s v n vs) (hb : Below wx.heap.size wx wy) : wy.ownsRow base t s v n vs :=
  World.ownsRow.kept (row := none) h ⟨hb.os, hb.tape, hb.output, hb.size, fun k hk _ => hb.block k hk⟩ (by cases hv : v.ownBlock <;> simp)
theorem row_fr {base s n : Nat} {t : TypeId} {v : Value} {vs : List Value} {B : Nat → Prop} (h : wx.ownsRow base t s v n vs) (hf : Fr B wx wy) (hd : ∀ q, v.ownBlock = some q → ¬ B q) : wy.ownsRow base t s v n vs := by
  refine ⟨h.1, ?_⟩
  rcases h.2 with h0 | ⟨g, cap, cur, e, hb, hh, r⟩
  · exact .inl h0
  · subst e
    exact .inr ⟨g, cap, cur, rfl, hb, by rw [hf.block g (World.ownsRow.lt h g rfl).2 (hd g rfl)]; exact hh, r⟩
theorem SP.below (h : SP w wx bo lo hi vx vg vi lv2 l2 f b cx V bl xs k ids gs RA) (hb : Below wx.heap.size wx wy) : SP w wy bo lo hi vx vg vi lv2 l2 f b cx V bl xs k ids gs RA :=
  ⟨h.bv.below hb, row_below h.ox hb, h.oi.below hb, h.og.below hb, h.ba.below hb, h.bs.below hb, h.br.below hb, h.bel.trans (hb.mono h.bel.size), ⟨h.ge.1, h.ge.2.1, Nat.le_trans h.ge.2.2 hb.size⟩, h.bx, h.bi, h.bg,
   fun i hi' hk => by obtain ⟨n1, n2, n3, n4, n5⟩ := h.nest i hi' hk; exact ⟨n1, n2.below hb, n3, Nat.lt_of_lt_of_le n4 hb.size, n5⟩, h.inj⟩
theorem SP.addI {w3 : World} {g cap : Nat} {x : Int} (h : SP w wx bo lo hi vx vg vi lv2 l2 f b cx V bl xs k ids gs RA) (hown : Li.Own w3 (w.heap.size + 3) (.slice (some ⟨g, 0, none⟩) (ids.length + 1) cap) (ids ++ [x])) (hg : wx.grownBy w3 vi.ownBlock) (hp : vi.ownBlock = some g ∨ g = wx.heap.size) :
    SP w (w3.setCell ⟨bo, 2, none⟩ (.slice (some ⟨g, 0, none⟩) (ids.length + 1) cap)) bo lo hi vx vg (.slice (some ⟨g, 0, none⟩) (ids.length + 1) cap) lv2 l2 f b cx V bl xs k (ids ++ [x]) gs RA := by
  obtain ⟨g1, g2, g3⟩ := h.ge
  have hbo := h.bv.1
  have hge := h.oi.ge
  have hF1 : Fr (fun q => vi.ownBlock = some q) wx w3 := ⟨hg.os, hg.tape, hg.output, hg.size, fun q hq hn => hg.block q hq (fun e => hn e.symm)⟩
  have hF2 : Fr (fun q => q = bo) w3 (w3.setCell ⟨bo, 2, none⟩ (.slice (some ⟨g, 0, none⟩) (ids.length + 1) cap)) := fr_grown (Li.grown_set _ _ _ _) rfl
  have hnv : ∀ q, q < w.heap.size + 3 → ¬ vi.ownBlock = some q := fun q hq e => by have := (hge q e).1; omega
  have hgb : ¬ g = bo := by
    rcases hp with e | e
    · exact (h.bi g e).1
    · omega
  refine ⟨?_, row_fr (row_fr h.ox hF1 (fun q e => (h.bx q e).2.2)) hF2 (fun q e => (h.bx q e).1), ?_, (h.og.fr hF1 (fun q hq e => (h.bi q e).2 hq)).fr hF2 (fun q hq e => by subst e; exact h.bg hq), ((h.ba.fr hF1 (hnv _ (by omega))).fr hF2 (by omega)), ((h.bs.fr hF1 (hnv _ (by omega))).fr hF2 (by omega)), ((h.br.fr hF1 (hnv _ (by omega))).fr hF2 (by omega)), ?_, ⟨g1, g2, Nat.le_trans g3 (Nat.le_trans hF1.size hF2.size)⟩, ?_, ?_, h.bg, ?_, h.inj⟩
  · have hb1 : ¬ vi.ownBlock = some bo := fun e => (h.bi bo e).1 rfl
    have := (h.bv.fr hF1 hb1).set 2 (by simp) (.slice (some ⟨g, 0, none⟩) (ids.length + 1) cap)
    simpa using this
  · exact row_fr hown hF2 (fun q e => by simp [Value.ownBlock] at e; omega)
  · exact (h.bel.trans (hF1.bel (fun q e => by have := (hge q e).1; omega) h.bel.size)).trans (hF2.bel (fun q e => by omega) (Nat.le_trans h.bel.size hF1.size))
  · intro q e
    obtain ⟨b1, b2, b3⟩ := h.bx q e
    refine ⟨b1, b2, fun e' => ?_⟩
    simp [Value.ownBlock] at e'
    subst e'
    rcases hp with e' | e'
    · exact b3 e'
    · have := (World.ownsRow.lt h.ox g e).2; omega
  · intro q e
    simp [Value.ownBlock] at e
    subst e
    rcases hp with e' | e'
    · exact h.bi g e'
    · exact ⟨hgb, by omega⟩
  · intro i hi' hk
    obtain ⟨n1, n2, n3, n4, n5, n6, n7, n8⟩ := h.nest i hi' hk
    refine ⟨n1, (n2.fr hF1 (fun q e e' => by subst e; exact n8 e')).fr hF2 (fun q e e' => by omega), n3, Nat.lt_of_lt_of_le n4 (Nat.le_trans hF1.size hF2.size), n5, n6, n7, fun e => ?_⟩
    simp [Value.ownBlock] at e
    rcases hp with e' | e'
    · exact n8 (by rw [e', e])
    · omega
theorem SP.addX {w4 w5 : World} {g cap g1 : Nat} {v1 : Value} (h : SP w wx bo lo hi vx vg vi lv2 l2 f b cx V bl xs k ids gs RA) (hk : k < xs.length) (hcl : cx.length = k) (hb : Below wx.heap.size wx w4) (o1 : OwI w4 (fun q => q = g1) v1 xs[k]) (hg1 : wx.heap.size ≤ g1) (hg1' : g1 < w4.heap.size)
    (hown : w5.ownsRow (w.heap.size + 3) 115 1 (.slice (some ⟨g, 0, none⟩) (k + 1) cap) (k + 1) (cx ++ [v1])) (hg : w4.grownBy w5 vx.ownBlock) (hp : vx.ownBlock = some g ∨ g = w4.heap.size) :
    SP w (w5.setCell ⟨bo, 0, none⟩ (.slice (some ⟨g, 0, none⟩) (k + 1) cap)) bo lo hi (.slice (some ⟨g, 0, none⟩) (k + 1) cap) vg vi lv2 l2 f b (cx ++ [v1]) (fun i => if i = k then v1 else V i) (fun i => if i = k then g1 else bl i) xs (k + 1) ids gs RA := by
  have h4 := h.below hb
  obtain ⟨e1, e2, e3⟩ := h4.ge
  have e3' := h.ge.2.2
  have hbo := h.bv.1
  have hge := World.ownsRow.lt h.ox
  have hF1 : Fr (fun q => vx.ownBlock = some q) w4 w5 := ⟨hg.os, hg.tape, hg.output, hg.size, fun q hq hn => hg.block q hq (fun e => hn e.symm)⟩
  have hF2 : Fr (fun q => q = bo) w5 (w5.setCell ⟨bo, 0, none⟩ (.slice (some ⟨g, 0, none⟩) (k + 1) cap)) := fr_grown (Li.grown_set _ _ _ _) rfl
  have hnv : ∀ q, q < w.heap.size + 3 → ¬ vx.ownBlock = some q := fun q hq e => by have := (hge q e).1; omega
  have hsz := hb.size
  have hgb : ¬ g = bo := by
    rcases hp with e | e
    · exact (h.bx g e).1
    · omega
  have hg1v : ¬ vx.ownBlock = some g1 := fun e => by have := (hge g1 e).2; omega
  have hg1i : ¬ vi.ownBlock = some g1 := fun e => by have := (h.oi.ge g1 e).2; omega
  have hgg : ¬ g = g1 := by
    rcases hp with e | e
    · have := (hge g e).2; omega
    · omega
  refine ⟨?_, ?_, row_fr (row_fr h4.oi hF1 (fun q e e' => (h.bx q e').2.2 e)) hF2 (fun q e => (h.bi q e).1), (h4.og.fr hF1 (fun q hq e => (h.bx q e).2.1 hq)).fr hF2 (fun q hq e => by subst e; exact h.bg hq), ((h4.ba.fr hF1 (hnv _ (by omega))).fr hF2 (by omega)), ((h4.bs.fr hF1 (hnv _ (by omega))).fr hF2 (by omega)), ((h4.br.fr hF1 (hnv _ (by omega))).fr hF2 (by omega)), ?_, ⟨e1, e2, Nat.le_trans e3 (Nat.le_trans hF1.size hF2.size)⟩, ?_, h.bi, h.bg, ?_, ?_⟩
  · have hb1 : ¬ vx.ownBlock = some bo := fun e => (h.bx bo e).1 rfl
    have := (h4.bv.fr hF1 hb1).set 0 (by simp) (.slice (some ⟨g, 0, none⟩) (k + 1) cap)
    simpa using this
  · exact row_fr hown hF2 (fun q e => by simp [Value.ownBlock] at e; omega)
  · exact (h4.bel.trans (hF1.bel (fun q e => by have := (hge q e).1; omega) h4.bel.size)).trans (hF2.bel (fun q e => by omega) (Nat.le_trans h4.bel.size hF1.size))
  · intro q e
    simp [Value.ownBlock] at e
    subst e
    rcases hp with e' | e'
    · exact h.bx g e'
    · refine ⟨hgb, by omega, fun e'' => ?_⟩
      have := (h.oi.ge g e'').2; omega
  · intro i hi' hik
    by_cases e : i = k
    · subst e
      simp only [if_true]
      refine ⟨by rw [← hcl]; simp, (o1.fr hF1 (fun q e e' => by subst e; exact hg1v e')).fr hF2 (fun q e e' => by omega), by omega, Nat.lt_of_lt_of_le hg1' (Nat.le_trans hF1.size hF2.size), by omega, by omega, fun e => ?_, hg1i⟩
      simp [Value.ownBlock] at e; omega
    · obtain ⟨n1, n2, n3, n4, n5, n6, n7, n8⟩ := h4.nest i hi' (by omega)
      have n4' := (h.nest i hi' (by omega)).2.2.2.1
      simp only [e, if_false]
      refine ⟨by rw [List.getElem?_append_left (by omega)]; exact n1, (n2.fr hF1 (fun q e e' => by subst e; exact n7 e')).fr hF2 (fun q e e' => by omega), n3, Nat.lt_of_lt_of_le n4 (Nat.le_trans hF1.size hF2.size), n5, n6, fun e' => ?_, n8⟩
      simp [Value.ownBlock] at e'
      rcases hp with e'' | e''
      · exact n7 (by rw [e'', e'])
      · omega
  · intro i j hij hjk
    by_cases e : j = k
    · subst e
      simp only [show ¬ i = j by omega, if_false, if_true]
      have := (h.nest i (by omega) hij).2.2.2.1
      omega
    · simp only [show ¬ i = k by omega, e, if_false]
      exact h.inj i j hij (by omega)
theorem SP.own (h : SP w wx bo lo hi vx vg vi lv2 l2 f b cx V bl xs xs.length ids gs RA) (hcl : cx.length = xs.length) (lv' l2' : Int) : OwR wx (fun q => w.heap.size + 3 ≤ q ∧ q < wx.heap.size) vx vg vi ⟨xs, gs, ids, lv', l2'⟩ := by
  obtain ⟨g1, g2, g3⟩ := h.ge
  have ho := h.ox
  have o0 : OwV wx (fun q => (vx.ownBlock = some q ∨ ∃ i, i < xs.length ∧ q = bl i)) vx xs := by
    rcases h.ox.2 with ⟨e, h0⟩ | ⟨g, cap, cur, e, hb, hh, r⟩
    · obtain rfl := List.length_eq_zero_iff.1 h0
      exact ⟨none, 0, e, .inl rfl⟩
    · subst e
      refine ⟨_, cap, rfl, .inr ⟨g, 0, V, bl, rfl, .inl rfl, (World.ownsRow.lt ho g rfl).2, fun j hj => ?_, fun j hj => ⟨.inr ⟨j, hj, rfl⟩, fun e => (h.nest j hj hj).2.2.2.2.2.2.1 (by rw [e]; rfl)⟩, fun i j hi' hj hij => ?_⟩⟩
      · obtain ⟨n1, n2, _⟩ := h.nest j hj hj
        exact ⟨by rw [Nat.zero_add, World.ownsRow.cellAt ho j (by omega), n1], n2⟩
      · rcases Nat.lt_or_gt_of_ne hij with h1 | h1
        · exact h.inj i j h1 hj
        · exact fun e => h.inj j i h1 hi' e.symm
  have o2 : OwI wx (fun q => vi.ownBlock = some q) vi ids := by
    rcases h.oi.2 with ⟨e, h0⟩ | ⟨g, cap, cur, e, hb, hh, r⟩
    · obtain rfl := List.length_eq_zero_iff.1 h0
      exact ⟨none, 0, e, .inl rfl⟩
    · have := h.oi
      subst e
      exact owi_of this rfl rfl
  refine ⟨_, _, _, o0, h.og, o2, fun q hq => ?_, fun q hq => ⟨⟨by omega, by omega⟩, fun e => (h.bi q e).2 hq⟩, fun q hq => ⟨(h.oi.ge q hq).1, (h.oi.ge q hq).2⟩⟩
  rcases hq with e | ⟨i, hi', e⟩
  · exact ⟨⟨(World.ownsRow.lt ho q e).1, (World.ownsRow.lt ho q e).2⟩, (h.bx q e).2.1, (h.bx q e).2.2⟩
  · subst e
    obtain ⟨n1, n2, n3, n4, n5, n6, n7, n8⟩ := h.nest i hi' hi'
    exact ⟨⟨n3, n4⟩, n6, n8⟩
end
end Go.Proofs.YtglllflleabmbaaGreat.Sw7
/-
  A region that draws its order, of whose operations one (d) writes what others read, and waits for them: a condition on the world holds behind every operation that comes up ahead of d.
-/
namespace Go.Proofs.YtglllflleabmbaaGreat.Hd
variable {P : Program} {ops : Array Oper} {Q : Exit → Act → World → Prop} {md : Region.Mode} {S : World → Prop} {d : Nat}

def After (P : Program) (md : Region.Mode) (ops : Array Oper) (Q : Exit → Act → World → Prop) (S : World → Prop) (d : Nat) : Nat → Array Bool → Act → World → Prop
  | 0, l, a, w => Region.ready md ops l = [] ∧ Q .normal a w
  | n + 1, l, a, w => (Region.ready md ops l = [] → Q .normal a w) ∧ ∀ j ∈ Region.ready md ops l, wpOp P ops Q j (fun a' w' => ((l.setIfInBounds j true).getD d true = false → S w') ∧ After P md ops Q S d n (l.setIfInBounds j true) a' w') a w
theorem After.any : ∀ {n : Nat} {l : Array Bool} {a : Act} {w : World}, After P md ops Q S d n l a w → wpAny P md ops Q n l a w
  | 0, _, _, _, h => h
  | _ + 1, _, _, _, h => ⟨h.1, fun j hj => wpOp_mono (fun _ _ h' => h'.2.any) (h.2 j hj)⟩
theorem not_waiting {i j : Nat} {l : Array Bool} {oj : Oper} (hu : l.getD i true = false) (hj : j ∈ Region.ready md ops l) (ho : ops[j]? = some oj) (e : Edge) (he : e ∈ oj.after) (hb : Region.binds md e = true) : e.on ≠ i := by
  intro heq
  obtain ⟨_, o', ho', hall⟩ := mem_ready.1 hj
  obtain rfl : oj = o' := Option.some.inj (ho.symm.trans ho')
  have h1 := hall e he hb
  rw [heq, Array.getD_eq_getD_getElem?] at h1
  rw [Array.getD_eq_getD_getElem?] at hu
  cases hl : l[i]? with
  | none => rw [hl] at h1; simp at h1
  | some x => rw [hl] at h1 hu; simp at h1 hu; rw [h1] at hu; cases hu
def Waits (md : Region.Mode) (ops : Array Oper) (d i : Nat) : Bool := match ops[d]? with | some o => o.after.any fun e => Region.binds md e && e.on == i | none => false
theorem waits_ne {i j : Nat} {l : Array Bool} (hw : Waits md ops d i = true) (hu : l.getD i true = false) (hj : j ∈ Region.ready md ops l) : j ≠ d := by
  rintro rfl
  unfold Waits at hw
  split at hw
  · rename_i o ho
    rw [Array.any_eq_true'] at hw
    obtain ⟨e, he, hx⟩ := hw
    simp at hx
    exact not_waiting hu hj ho e he hx.1 hx.2
  · cases hw
def Clear (md : Region.Mode) (ops : Array Oper) (oi : Oper) (i : Nat) (l : Array Bool) : Prop := ∀ j oj, ops[j]? = some oj → j ≠ i → l.getD j true = false → (∀ e ∈ oj.after, Region.binds md e = true → e.on ≠ i) → oi.apart ops oj = true
theorem Clear.set {oi : Oper} {i j : Nat} {l : Array Bool} (h : Clear md ops oi i l) (hj : l.getD j true = false) : Clear md ops oi i (l.setIfInBounds j true) := by
  intro k ok hk hki hku hno
  refine h k ok hk hki ?_ hno
  by_cases ejk : j = k
  · subst ejk; exact hj
  · rwa [getD_set_ne true ejk] at hku
theorem After.take_first {i : Nat} {oi : Oper} {v : Value} (hi : ops[i]? = some oi) (hs : Region.noSelect ops = true) (hQ : ∀ c a w, Q (.panic c) (a.put oi.dst v) w → Q (.panic c) a w) (hw : Waits md ops d i = true) :
    ∀ (n : Nat) {l : Array Bool} {a : Act} {w : World}, Clear md ops oi i l → i ∈ Region.ready md ops l → YieldsIf P ops S oi v a → l.getD d true = false → S w → After P md ops Q S d n (l.setIfInBounds i true) (a.put oi.dst v) w → After P md ops Q S d (n + 1) l a w := by
  intro n
  induction n with
  | zero =>
    intro l a w _ hr hy _ hS h
    constructor
    · intro h0; rw [h0] at hr; exact absurd hr (by simp)
    · intro j hj
      have e : j = i := Classical.byContradiction fun hne => by
        have h1 := ready_mono hj hne
        rw [h.1] at h1
        exact absurd h1 (by simp)
      subst e
      exact hy.wpOp hi hS ⟨fun _ => hS, h⟩
  | succ n ih =>
    intro l a w hf hr hy hdu hS h
    constructor
    · intro h0; rw [h0] at hr; exact absurd hr (by simp)
    · intro j hj
      by_cases e : j = i
      · subst e
        exact hy.wpOp hi hS ⟨fun _ => hS, h⟩
      · have hu := (mem_ready.1 hr).1
        have hnd : j ≠ d := waits_ne hw hu hj
        obtain ⟨hju, oj, hoj, _⟩ := mem_ready.1 hj
        have hap := hf j oj hoj e hju (fun e' he' hb' => not_waiting hu hj hoj e' he' hb')
        have hdj : (l.setIfInBounds j true).getD d true = false := by rw [getD_set_ne true hnd]; exact hdu
        refine wpOp_mono ?_ (wpOp_putIf hoj hap (fun cs b => Region.noSelect_spec hs i oi cs b hi) (fun cs b => Region.noSelect_spec hs j oj cs b hoj) hQ hy (h.2 j (ready_mono hj e)))
        rintro a' w' ⟨hy', hS', h'⟩
        rw [Array.setIfInBounds_comm _ _ (Ne.symm e)] at hS' h'
        have hid : i ≠ d := by
          rintro rfl
          exact waits_ne hw hu hr rfl
        have hSw : S w' := hS' (by rw [getD_set_ne true hid]; exact hdj)
        exact ⟨fun _ => hSw, ih (hf.set hju) (ready_mono hr (Ne.symm e)) hy' hdj hSw h'⟩
theorem After.pure_first {i : Nat} {oi : Oper} {v : Value} (hi : ops[i]? = some oi) (hs : Region.noSelect ops = true) (hQ : ∀ c a w, Q (.panic c) (a.put oi.dst v) w → Q (.panic c) a w) (hid : i ≠ d) :
    ∀ (n : Nat) {l : Array Bool} {a : Act} {w : World}, Clear md ops oi i l → i ∈ Region.ready md ops l → Yields P ops oi v a → (l.getD d true = false → S w) → After P md ops Q S d n (l.setIfInBounds i true) (a.put oi.dst v) w → After P md ops Q S d (n + 1) l a w := by
  intro n
  induction n with
  | zero =>
    intro l a w _ hr hy hS h
    constructor
    · intro h0; rw [h0] at hr; exact absurd hr (by simp)
    · intro j hj
      have e : j = i := Classical.byContradiction fun hne => by
        have h1 := ready_mono hj hne
        rw [h.1] at h1
        exact absurd h1 (by simp)
      subst e
      exact hy.wpOp hi ⟨fun h0 => hS (by rwa [getD_set_ne true hid] at h0), h⟩
  | succ n ih =>
    intro l a w hf hr hy hS h
    constructor
    · intro h0; rw [h0] at hr; exact absurd hr (by simp)
    · intro j hj
      by_cases e : j = i
      · subst e
        exact hy.wpOp hi ⟨fun h0 => hS (by rwa [getD_set_ne true hid] at h0), h⟩
      · have hu := (mem_ready.1 hr).1
        obtain ⟨hju, oj, hoj, _⟩ := mem_ready.1 hj
        have hap := hf j oj hoj e hju (fun e' he' hb' => not_waiting hu hj hoj e' he' hb')
        refine wpOp_mono ?_ (wpOp_put hoj hap (fun cs b => Region.noSelect_spec hs i oi cs b hi) (fun cs b => Region.noSelect_spec hs j oj cs b hoj) hQ hy (h.2 j (ready_mono hj e)))
        rintro a' w' ⟨hy', hS', h'⟩
        rw [Array.setIfInBounds_comm _ _ (Ne.symm e)] at hS' h'
        have hSw : (l.setIfInBounds j true).getD d true = false → S w' := fun h0 => hS' (by rw [getD_set_ne true hid]; exact h0)
        exact ⟨hSw, ih (hf.set hju) (ready_mono hr (Ne.symm e)) hy' hSw h'⟩
theorem After.take {i : Nat} {oi : Oper} (v : Value) {n : Nat} {l : Array Bool} {a : Act} {w : World} (hi : ops[i]? = some oi) (hs : Region.noSelect ops = true) (hw : Waits md ops d i = true) (hf : Region.free md ops l i = true) (hr : (Region.ready md ops l).contains i = true) (hdu : l.getD d true = false)
    (hQ : ∀ c a w, Q (.panic c) (a.put oi.dst v) w → Q (.panic c) a w) (hS : S w) (hy : YieldsIf P ops S oi v a) (h : After P md ops Q S d n (l.setIfInBounds i true) (a.put oi.dst v) w) : After P md ops Q S d (n + 1) l a w :=
  After.take_first hi hs hQ hw n (Region.free_spec hi hf) (by simpa using hr) hy hdu hS h
theorem After.pure {i : Nat} {oi : Oper} (v : Value) {n : Nat} {l : Array Bool} {a : Act} {w : World} (hi : ops[i]? = some oi) (hs : Region.noSelect ops = true) (hid : i ≠ d) (hf : Region.free md ops l i = true) (hr : (Region.ready md ops l).contains i = true)
    (hQ : ∀ c a w, Q (.panic c) (a.put oi.dst v) w → Q (.panic c) a w) (hS : S w) (hy : Yields P ops oi v a) (h : After P md ops Q S d n (l.setIfInBounds i true) (a.put oi.dst v) w) : After P md ops Q S d (n + 1) l a w :=
  After.pure_first hi hs hQ hid n (Region.free_spec hi hf) (by simpa using hr) hy (fun _ => hS) h
theorem After.one {i : Nat} {o : Oper} {n : Nat} {l : Array Bool} {a : Act} {w : World} (hr : Region.ready md ops l = [i]) (hi : ops[i]? = some o) (hg : o.guard = none)
    (h : ∀ K : Act → World → Prop, (∀ a' w', ((l.setIfInBounds i true).getD d true = false → S w') → After P md ops Q S d n (l.setIfInBounds i true) a' w' → K a' w') → o.wp P a w K Q) : After P md ops Q S d (n + 1) l a w := by
  refine ⟨fun h0 => (by rw [hr] at h0; simp at h0), fun j hj => ?_⟩
  rw [hr] at hj
  obtain rfl := List.mem_singleton.1 hj
  unfold wpOp
  rw [hi]
  have hw : Region.wanted o (yielded ops a.tmps) = true := by simp [Region.wanted, hg]
  simp only [hw, if_true]
  exact .inl (h _ fun _ _ h1 h2 => ⟨h1, h2⟩)
theorem After.two {i j : Nat} {oi oj : Oper} {n : Nat} {l : Array Bool} {a : Act} {w : World} (hr : Region.ready md ops l = [i, j]) (hi : ops[i]? = some oi) (hj : ops[j]? = some oj) (hg : oi.guard = none) (hg' : oj.guard = none)
    (h : ∀ K : Act → World → Prop, (∀ a' w', ((l.setIfInBounds i true).getD d true = false → S w') → After P md ops Q S d n (l.setIfInBounds i true) a' w' → K a' w') → oi.wp P a w K Q)
    (h' : ∀ K : Act → World → Prop, (∀ a' w', ((l.setIfInBounds j true).getD d true = false → S w') → After P md ops Q S d n (l.setIfInBounds j true) a' w' → K a' w') → oj.wp P a w K Q) : After P md ops Q S d (n + 1) l a w := by
  refine ⟨fun h0 => (by rw [hr] at h0; simp at h0), fun k hk => ?_⟩
  rw [hr] at hk
  have hwi : Region.wanted oi (yielded ops a.tmps) = true := by simp [Region.wanted, hg]
  have hwj : Region.wanted oj (yielded ops a.tmps) = true := by simp [Region.wanted, hg']
  rcases List.mem_cons.1 hk with rfl | hk
  · unfold wpOp; rw [hi]; simp only [hwi, if_true]; exact .inl (h _ fun _ _ h1 h2 => ⟨h1, h2⟩)
  · obtain rfl := List.mem_singleton.1 hk
    unfold wpOp; rw [hj]; simp only [hwj, if_true]; exact .inl (h' _ fun _ _ h1 h2 => ⟨h1, h2⟩)
theorem After.done {l : Array Bool} {a : Act} {w : World} (hr : Region.ready md ops l = []) (h : Q .normal a w) : ∀ n, After P md ops Q S d n l a w
  | 0 => ⟨hr, h⟩
  | _ + 1 => ⟨fun _ => h, by rw [hr]; intro j hj; cases hj⟩
theorem start {id : Nat} {a : Act} {w : World} (S : World → Prop) (d : Nat) (hm : P.follows .mixedOrders = true) (h : After P .any ops Q S d ops.size (Array.replicate ops.size false) a w.drew) : (Code.region id ops true).wp P Q a w :=
  wp_region_any hm h.any
end Go.Proofs.YtglllflleabmbaaGreat.Hd
