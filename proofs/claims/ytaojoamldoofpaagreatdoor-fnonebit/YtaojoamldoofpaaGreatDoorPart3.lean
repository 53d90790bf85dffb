/-
  Contracts that the proof leans on, put together in the order in which they build.
-/
import Derived.Test.YtaojoamldoofpaaGreatDoorRows
import Derived.OrdersHeld
import Derived.WalkKit
/-
  A region that draws its order, of whose operations one (d) writes what others read, and waits for them: a condition on the world holds behind every operation that comes up ahead of d.
-/
namespace Go.Proofs.YtaojoamldoofpaaGreatDoor.Hd
variable {P : Program} {ops : Array Oper} {Q : Exit → Act → World → Prop} {md : Region.Mode} {S : World → Prop} {d : Nat}

def After (P : Program) (md : Region.Mode) (ops : Array Oper) (Q : Exit → Act → World → Prop) (S : World → Prop) (d : Nat) : Nat → Array Bool → Act → World → Prop
  | 0, l, a, w => Region.ready md ops l = [] ∧ Q .normal a w
  | n + 1, l, a, w => (Region.ready md ops l = [] → Q .normal a w) ∧ ∀ j ∈ Region.ready md ops l, wpOp P ops Q j (fun a' w' => ((l.setIfInBounds j true).getD d true = false → S w') ∧ After P md ops Q S d n (l.setIfInBounds j true) a' w') a w
theorem After.any : ∀ {n : Nat} {l : Array Bool} {a : Act} {w : World}, After P md ops Q S d n l a w → wpAny P md ops Q n l a w
  | 0, _, _, _, h => h
  | _ + 1, _, _, _, h => ⟨h.1, fun j hj => wpOp_mono (fun _ _ h' => h'.2.any) (h.2 j hj)⟩
theorem not_waiting {i j : Nat} {l : Array Bool} {oj : Oper} (hu : l.getD i true = false) (hj : j ∈ Region.ready md ops l) (ho : ops[j]? = some oj) (e : Edge) (he : e ∈ oj.after) (hb : Region.binds md e = true) : e.on ≠ i := by
  intro heq
  obtain ⟨_, o', ho', hall⟩ := mem_ready.1 hj
  obtain rfl : oj = o' := Option.some.inj (ho.symm.trans ho')
  have h1 := hall e he hb
  rw [heq, Array.getD_eq_getD_getElem?] at h1
  rw [Array.getD_eq_getD_getElem?] at hu
  cases hl : l[i]? with
  | none => rw [hl] at h1; simp at h1
  | some x => rw [hl] at h1 hu; simp at h1 hu; rw [h1] at hu; cases hu
def Waits (md : Region.Mode) (ops : Array Oper) (d i : Nat) : Bool := match ops[d]? with | some o => o.after.any fun e => Region.binds md e && e.on == i | none => false
theorem waits_ne {i j : Nat} {l : Array Bool} (hw : Waits md ops d i = true) (hu : l.getD i true = false) (hj : j ∈ Region.ready md ops l) : j ≠ d := by
  rintro rfl
  unfold Waits at hw
  split at hw
  · rename_i o ho
    rw [Array.any_eq_true'] at hw
    obtain ⟨e, he, hx⟩ := hw
    simp at hx
    exact not_waiting hu hj ho e he hx.1 hx.2
  · cases hw
def Clear (md : Region.Mode) (ops : Array Oper) (oi : Oper) (i : Nat) (l : Array Bool) : Prop := ∀ j oj, ops[j]? = some oj → j ≠ i → l.getD j true = false → (∀ e ∈ oj.after, Region.binds md e = true → e.on ≠ i) → oi.apart ops oj = true
theorem Clear.set {oi : Oper} {i j : Nat} {l : Array Bool} (h : Clear md ops oi i l) (hj : l.getD j true = false) : Clear md ops oi i (l.setIfInBounds j true) := by
  intro k ok hk hki hku hno
  refine h k ok hk hki ?_ hno
  by_cases ejk : j = k
  · subst ejk; exact hj
  · rwa [getD_set_ne true ejk] at hku
theorem After.take_first {i : Nat} {oi : Oper} {v : Value} (hi : ops[i]? = some oi) (hs : Region.noSelect ops = true) (hQ : ∀ c a w, Q (.panic c) (a.put oi.dst v) w → Q (.panic c) a w) (hw : Waits md ops d i = true) :
    ∀ (n : Nat) {l : Array Bool} {a : Act} {w : World}, Clear md ops oi i l → i ∈ Region.ready md ops l → YieldsIf P ops S oi v a → l.getD d true = false → S w → After P md ops Q S d n (l.setIfInBounds i true) (a.put oi.dst v) w → After P md ops Q S d (n + 1) l a w := by
  intro n
  induction n with
  | zero =>
    intro l a w _ hr hy _ hS h
    constructor
    · intro h0; rw [h0] at hr; exact absurd hr (by simp)
    · intro j hj
      have e : j = i := Classical.byContradiction fun hne => by
        have h1 := ready_mono hj hne
        rw [h.1] at h1
        exact absurd h1 (by simp)
      subst e
      exact hy.wpOp hi hS ⟨fun _ => hS, h⟩
  | succ n ih =>
    intro l a w hf hr hy hdu hS h
    constructor
    · intro h0; rw [h0] at hr; exact absurd hr (by simp)
    · intro j hj
      by_cases e : j = i
      · subst e
        exact hy.wpOp hi hS ⟨fun _ => hS, h⟩
      · have hu := (mem_ready.1 hr).1
        have hnd : j ≠ d := waits_ne hw hu hj
        obtain ⟨hju, oj, hoj, _⟩ := mem_ready.1 hj
        have hap := hf j oj hoj e hju (fun e' he' hb' => not_waiting hu hj hoj e' he' hb')
        have hdj : (l.setIfInBounds j true).getD d true = false := by rw [getD_set_ne true hnd]; exact hdu
        refine wpOp_mono ?_ (wpOp_putIf hoj hap (fun cs b => Region.noSelect_spec hs i oi cs b hi) (fun cs b => Region.noSelect_spec hs j oj cs b hoj) hQ hy (h.2 j (ready_mono hj e)))
        rintro a' w' ⟨hy', hS', h'⟩
        rw [Array.setIfInBounds_comm _ _ (Ne.symm e)] at hS' h'
        have hid : i ≠ d := by
          rintro rfl
          exact waits_ne hw hu hr rfl
        have hSw : S w' := hS' (by rw [getD_set_ne true hid]; exact hdj)
        exact ⟨fun _ => hSw, ih (hf.set hju) (ready_mono hr (Ne.symm e)) hy' hdj hSw h'⟩
theorem After.pure_first {i : Nat} {oi : Oper} {v : Value} (hi : ops[i]? = some oi) (hs : Region.noSelect ops = true) (hQ : ∀ c a w, Q (.panic c) (a.put oi.dst v) w → Q (.panic c) a w) (hid : i ≠ d) :
    ∀ (n : Nat) {l : Array Bool} {a : Act} {w : World}, Clear md ops oi i l → i ∈ Region.ready md ops l → Yields P ops oi v a → (l.getD d true = false → S w) → After P md ops Q S d n (l.setIfInBounds i true) (a.put oi.dst v) w → After P md ops Q S d (n + 1) l a w := by
  intro n
  induction n with
  | zero =>
    intro l a w _ hr hy hS h
    constructor
    · intro h0; rw [h0] at hr; exact absurd hr (by simp)
    · intro j hj
      have e : j = i := Classical.byContradiction fun hne => by
        have h1 := ready_mono hj hne
        rw [h.1] at h1
        exact absurd h1 (by simp)
      subst e
      exact hy.wpOp hi ⟨fun h0 => hS (by rwa [getD_set_ne true hid] at h0), h⟩
  | succ n ih =>
    intro l a w hf hr hy hS h
    constructor
    · intro h0; rw [h0] at hr; exact absurd hr (by simp)
    · intro j hj
      by_cases e : j = i
      · subst e
        exact hy.wpOp hi ⟨fun h0 => hS (by rwa [getD_set_ne true hid] at h0), h⟩
      · have hu := (mem_ready.1 hr).1
        obtain ⟨hju, oj, hoj, _⟩ := mem_ready.1 hj
        have hap := hf j oj hoj e hju (fun e' he' hb' => not_waiting hu hj hoj e' he' hb')
        refine wpOp_mono ?_ (wpOp_put hoj hap (fun cs b => Region.noSelect_spec hs i oi cs b hi) (fun cs b => Region.noSelect_spec hs j oj cs b hoj) hQ hy (h.2 j (ready_mono hj e)))
        rintro a' w' ⟨hy', hS', h'⟩
        rw [Array.setIfInBounds_comm _ _ (Ne.symm e)] at hS' h'
        have hSw : (l.setIfInBounds j true).getD d true = false → S w' := fun h0 => hS' (by rw [getD_set_ne true hid]; exact h0)
        exact ⟨hSw, ih (hf.set hju) (ready_mono hr (Ne.symm e)) hy' hSw h'⟩
theorem After.take {i : Nat} {oi : Oper} (v : Value) {n : Nat} {l : Array Bool} {a : Act} {w : World} (hi : ops[i]? = some oi) (hs : Region.noSelect ops = true) (hw : Waits md ops d i = true) (hf : Region.free md ops l i = true) (hr : (Region.ready md ops l).contains i = true) (hdu : l.getD d true = false)
    (hQ : ∀ c a w, Q (.panic c) (a.put oi.dst v) w → Q (.panic c) a w) (hS : S w) (hy : YieldsIf P ops S oi v a) (h : After P md ops Q S d n (l.setIfInBounds i true) (a.put oi.dst v) w) : After P md ops Q S d (n + 1) l a w :=
  After.take_first hi hs hQ hw n (Region.free_spec hi hf) (by simpa using hr) hy hdu hS h
theorem After.pure {i : Nat} {oi : Oper} (v : Value) {n : Nat} {l : Array Bool} {a : Act} {w : World} (hi : ops[i]? = some oi) (hs : Region.noSelect ops = true) (hid : i ≠ d) (hf : Region.free md ops l i = true) (hr : (Region.ready md ops l).contains i = true)
    (hQ : ∀ c a w, Q (.panic c) (a.put oi.dst v) w → Q (.panic c) a w) (hS : S w) (hy : Yields P ops oi v a) (h : After P md ops Q S d n (l.setIfInBounds i true) (a.put oi.dst v) w) : After P md ops Q S d (n + 1) l a w :=
  After.pure_first hi hs hQ hid n (Region.free_spec hi hf) (by simpa using hr) hy (fun _ => hS) h
theorem After.one {i : Nat} {o : Oper} {n : Nat} {l : Array Bool} {a : Act} {w : World} (hr : Region.ready md ops l = [i]) (hi : ops[i]? = some o) (hg : o.guard = none)
    (h : ∀ K : Act → World → Prop, (∀ a' w', ((l.setIfInBounds i true).getD d true = false → S w') → After P md ops Q S d n (l.setIfInBounds i true) a' w' → K a' w') → o.wp P a w K Q) : After P md ops Q S d (n + 1) l a w := by
  refine ⟨fun h0 => (by rw [hr] at h0; simp at h0), fun j hj => ?_⟩
  rw [hr] at hj
  obtain rfl := List.mem_singleton.1 hj
  unfold wpOp
  rw [hi]
  have hw : Region.wanted o (yielded ops a.tmps) = true := by simp [Region.wanted, hg]
  simp only [hw, if_true]
  exact .inl (h _ fun _ _ h1 h2 => ⟨h1, h2⟩)
theorem After.two {i j : Nat} {oi oj : Oper} {n : Nat} {l : Array Bool} {a : Act} {w : World} (hr : Region.ready md ops l = [i, j]) (hi : ops[i]? = some oi) (hj : ops[j]? = some oj) (hg : oi.guard = none) (hg' : oj.guard = none)
    (h : ∀ K : Act → World → Prop, (∀ a' w', ((l.setIfInBounds i true).getD d true = false → S w') → After P md ops Q S d n (l.setIfInBounds i true) a' w' → K a' w') → oi.wp P a w K Q)
    (h' : ∀ K : Act → World → Prop, (∀ a' w', ((l.setIfInBounds j true).getD d true = false → S w') → After P md ops Q S d n (l.setIfInBounds j true) a' w' → K a' w') → oj.wp P a w K Q) : After P md ops Q S d (n + 1) l a w := by
  refine ⟨fun h0 => (by rw [hr] at h0; simp at h0), fun k hk => ?_⟩
  rw [hr] at hk
  have hwi : Region.wanted oi (yielded ops a.tmps) = true := by simp [Region.wanted, hg]
  have hwj : Region.wanted oj (yielded ops a.tmps) = true := by simp [Region.wanted, hg']
  rcases List.mem_cons.1 hk with rfl | hk
  · unfold wpOp; rw [hi]; simp only [hwi, if_true]; exact .inl (h _ fun _ _ h1 h2 => ⟨h1, h2⟩)
  · obtain rfl := List.mem_singleton.1 hk
    unfold wpOp; rw [hj]; simp only [hwj, if_true]; exact .inl (h' _ fun _ _ h1 h2 => ⟨h1, h2⟩)
theorem After.done {l : Array Bool} {a : Act} {w : World} (hr : Region.ready md ops l = []) (h : Q .normal a w) : ∀ n, After P md ops Q S d n l a w
  | 0 => ⟨hr, h⟩
  | _ + 1 => ⟨fun _ => h, by rw [hr]; intro j hj; cases hj⟩
theorem start {id : Nat} {a : Act} {w : World} (S : World → Prop) (d : Nat) (hm : P.follows .mixedOrders = true) (h : After P .any ops Q S d ops.size (Array.replicate ops.size false) a w.drew) : (Code.region id ops true).wp P Q a w :=
  wp_region_any hm h.any
end Go.Proofs.YtaojoamldoofpaaGreatDoor.Hd
