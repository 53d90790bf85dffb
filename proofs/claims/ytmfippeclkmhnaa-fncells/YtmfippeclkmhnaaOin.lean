/-
  A region that draws its order, by an invariant: what each operation leaves behind is said once, in whatever order they come up.
-/
import Derived.Test.YtmfippeclkmhnaaRows
import Derived.OrdersHeld
import Derived.WalkKit
namespace Go.Proofs.Ytmfippeclkmhnaa.Oi
variable {P : Program} {ops : Array Oper} {Q : Exit → Act → World → Prop} {md : Region.Mode}

/-- How many have come up. -/
def cnt (l : Array Bool) : Nat := l.toList.countP (· == true)
theorem cnt_le (l : Array Bool) : cnt l ≤ l.size := by
  unfold cnt
  have := List.countP_le_length (p := (· == true)) (l := l.toList)
  simpa using this
theorem getD_false {l : Array Bool} {j : Nat} (h : l.getD j true = false) : j < l.size ∧ l[j]? = some false := by
  rw [Array.getD_eq_getD_getElem?] at h
  cases hl : l[j]? with
  | none => rw [hl] at h; simp at h
  | some x => rw [hl] at h; simp at h; subst h; exact ⟨(Array.getElem?_eq_some_iff.1 hl).1, rfl⟩
theorem count_set : ∀ (l : List Bool) (j : Nat), l[j]? = some false → (l.set j true).countP (· == true) = l.countP (· == true) + 1
  | [], j, h => by simp at h
  | x :: l, 0, h => by simp at h; subst h; simp
  | x :: l, j + 1, h => by
    simp only [List.set_cons_succ, List.countP_cons]
    rw [count_set l j (by simpa using h)]
    omega
theorem cnt_set {l : Array Bool} {j : Nat} (h : l.getD j true = false) : cnt (l.setIfInBounds j true) = cnt l + 1 := by
  obtain ⟨_, h2⟩ := getD_false h
  unfold cnt
  rw [Array.toList_setIfInBounds]
  exact count_set _ _ (by simpa using h2)
theorem inv_any (Inv : Array Bool → Act → World → Prop)
    (step : ∀ l a w j, l.size = ops.size → Inv l a w → j ∈ Region.ready md ops l → wpOp P ops Q j (fun a' w' => Inv (l.setIfInBounds j true) a' w') a w)
    (fin : ∀ l a w, l.size = ops.size → Inv l a w → Region.ready md ops l = [] → Q .normal a w) :
    ∀ (n : Nat) (l : Array Bool) (a : Act) (w : World), l.size = ops.size → l.size ≤ n + cnt l → Inv l a w → wpAny P md ops Q n l a w
  | 0, l, a, w, hs, hn, h => by
    have hr : Region.ready md ops l = [] := by
      rw [List.eq_nil_iff_forall_not_mem]
      intro j hj
      have h1 := (mem_ready.1 hj).1
      have h2 := cnt_set h1
      have h3 := cnt_le (l.setIfInBounds j true)
      simp at h3
      omega
    exact ⟨hr, fin l a w hs h hr⟩
  | n + 1, l, a, w, hs, hn, h => ⟨fun hr => fin l a w hs h hr, fun j hj => wpOp_mono (fun a' w' h' => inv_any Inv step fin n _ a' w' (by simpa using hs) (by rw [cnt_set (mem_ready.1 hj).1]; simp; omega) h') (step l a w j hs h hj)⟩
theorem start {id : Nat} {a : Act} {w : World} (Inv : Array Bool → Act → World → Prop) (hm : P.follows .mixedOrders = true) (h0 : Inv (Array.replicate ops.size false) a w.drew)
    (step : ∀ l a w j, l.size = ops.size → Inv l a w → j ∈ Region.ready .any ops l → wpOp P ops Q j (fun a' w' => Inv (l.setIfInBounds j true) a' w') a w)
    (fin : ∀ l a w, l.size = ops.size → Inv l a w → Region.ready .any ops l = [] → Q .normal a w) : (Code.region id ops true).wp P Q a w :=
  wp_region_any hm (inv_any Inv step fin ops.size _ a _ (by simp) (by simp) h0)
/-- Each waits for such alone as stand ahead of it. -/
def fwd (ops : Array Oper) : Bool := (List.range ops.size).all fun i => match ops[i]? with | some o => o.after.toList.all fun e => decide (e.on < i) | none => true
theorem all_done {l : Array Bool} (hf : fwd ops = true) (hs : l.size = ops.size) (hr : Region.ready md ops l = []) : ∀ i, i < ops.size → l.getD i false = true := by
  intro i
  induction i using Nat.strongRecOn with
  | ind i ih =>
    intro hi
    have hl : l[i]? = some (l[i]'(by omega)) := Array.getElem?_eq_getElem (by omega)
    cases hx : l[i]'(by omega) with
    | true => rw [Array.getD_eq_getD_getElem?, hl, hx]; rfl
    | false =>
      exfalso
      have hm : i ∈ Region.ready md ops l := by
        refine mem_ready.2 ⟨by rw [Array.getD_eq_getD_getElem?, hl, hx]; rfl, ops[i], Array.getElem?_eq_getElem hi, fun e he _ => ?_⟩
        have h1 := List.all_eq_true.1 hf i (by simpa using hi)
        rw [Array.getElem?_eq_getElem hi] at h1
        have h2 := List.all_eq_true.1 h1 e (by simpa using he)
        have h3 : e.on < i := by simpa using h2
        exact ih e.on h3 (by omega)
      rw [hr] at hm
      cases hm
/-- The same, where of the edges those alone count that bind. -/
def fwdM (md : Region.Mode) (ops : Array Oper) : Bool := (List.range ops.size).all fun i => match ops[i]? with | some o => o.after.toList.all fun e => !(Region.binds md e) || decide (e.on < i) | none => true
theorem all_doneM {l : Array Bool} (hf : fwdM md ops = true) (hs : l.size = ops.size) (hr : Region.ready md ops l = []) : ∀ i, i < ops.size → l.getD i false = true := by
  intro i
  induction i using Nat.strongRecOn with
  | ind i ih =>
    intro hi
    have hl : l[i]? = some (l[i]'(by omega)) := Array.getElem?_eq_getElem (by omega)
    cases hx : l[i]'(by omega) with
    | true => rw [Array.getD_eq_getD_getElem?, hl, hx]; rfl
    | false =>
      exfalso
      have hm : i ∈ Region.ready md ops l := by
        refine mem_ready.2 ⟨by rw [Array.getD_eq_getD_getElem?, hl, hx]; rfl, ops[i], Array.getElem?_eq_getElem hi, fun e he hb => ?_⟩
        have h1 := List.all_eq_true.1 hf i (by simpa using hi)
        rw [Array.getElem?_eq_getElem hi] at h1
        have h2 := List.all_eq_true.1 h1 e (by simpa using he)
        have h3 : e.on < i := by rw [hb] at h2; simpa using h2
        exact ih e.on h3 (by omega)
      rw [hr] at hm
      cases hm
/-- j waits for i. -/
def Waits (md : Region.Mode) (ops : Array Oper) (j i : Nat) : Bool := match ops[j]? with | some o => o.after.any fun e => Region.binds md e && e.on == i | none => false
theorem dep {j i : Nat} {l : Array Bool} (hj : j ∈ Region.ready md ops l) (hw : Waits md ops j i = true) : l.getD i false = true := by
  obtain ⟨_, o, ho, hall⟩ := mem_ready.1 hj
  unfold Waits at hw
  rw [ho] at hw
  rw [Array.any_eq_true'] at hw
  obtain ⟨e, he, hx⟩ := hw
  simp at hx
  rw [← hx.2]
  exact hall e he hx.1
theorem op_step {j : Nat} {o : Oper} {K : Act → World → Prop} {a : Act} {w : World} (hi : ops[j]? = some o) (hg : o.guard = none) (h : ∀ K' : Act → World → Prop, (∀ a' w', K a' w' → K' a' w') → o.wp P a w K' Q) : wpOp P ops Q j K a w := by
  unfold wpOp
  rw [hi]
  have hw : Region.wanted o (yielded ops a.tmps) = true := by simp [Region.wanted, hg]
  simp only [hw, if_true]
  exact .inl (h K fun _ _ h => h)
theorem ready_lt {j : Nat} {l : Array Bool} (hj : j ∈ Region.ready md ops l) : j < ops.size := by
  obtain ⟨_, o, ho, _⟩ := mem_ready.1 hj
  exact (Array.getElem?_eq_some_iff.1 ho).1
def upd (v : Nat → Value) (s : Nat) (x : Value) : Nat → Value := fun t => if t = s then x else v t
theorem upd_same (v : Nat → Value) (s : Nat) (x : Value) : upd v s x s = x := by simp [upd]
theorem upd_ne {v : Nat → Value} {s t : Nat} {x : Value} (h : t ≠ s) : upd v s x t = v t := by simp [upd, h]
theorem done_set {l : Array Bool} {i j : Nat} (h : (l.setIfInBounds j true).getD i false = true) (hij : i ≠ j) : l.getD i false = true := by
  rwa [getD_set_ne false (Ne.symm hij)] at h
theorem set_done {l : Array Bool} {i j : Nat} (h : l.getD i false = true) : (l.setIfInBounds j true).getD i false = true := getD_set_true h
end Go.Proofs.Ytmfippeclkmhnaa.Oi
