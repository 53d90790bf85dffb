/-
  Trees, as plain functions: which leaf, what a tree says, its nodes grown out, the walk over nodes, two questions changed; what follows of them.
-/
import Derived.Test.YtmfippeclkmhnaaBor
namespace Go.Proofs.Ytmfippeclkmhnaa.Tr
open Go.RowKit
open Go.Proofs.Ytmfippeclkmhnaa.Bo (fok aok)

/-- A tree: its questions (feature, border) and its leaves. -/
structure T where
  sp : List (Int × Int)
  lv : List Int
theorem T.ext' {t u : T} (h : t.sp = u.sp) (h' : t.lv = u.lv) : t = u := by cases t; cases u; simp_all

def spok (s : Int × Int) : Bool := decide (0 ≤ s.1 ∧ s.1 ≤ 5) && fok s.2
def tok (t : T) : Bool := decide (t.sp.length ≤ 4 ∧ t.lv.length = 2 ^ t.sp.length) && (t.sp.all spok && aok t.lv)
theorem tok_iff {t : T} : tok t = true ↔ (t.sp.length ≤ 4 ∧ t.lv.length = 2 ^ t.sp.length) ∧ t.sp.all spok = true ∧ aok t.lv = true := by simp [tok, and_assoc]
theorem tok_long {t : T} (h : 4 < t.sp.length) : tok t = false := by
  cases e : tok t with
  | false => rfl
  | true => have := (tok_iff.1 e).1.1; omega
theorem tok_leaves {t : T} (h : ¬ t.lv.length = 2 ^ t.sp.length) : tok t = false := by
  cases e : tok t with
  | false => rfl
  | true => exact absurd (tok_iff.1 e).1.2 h
theorem tok_bad {t : T} {k : Nat} (hk : k < t.sp.length) (h : spok t.sp[k] = false) : tok t = false := by
  cases e : tok t with
  | false => rfl
  | true =>
    have := (tok_iff.1 e).2.1
    rw [List.all_eq_true] at this
    rw [this _ (List.getElem_mem hk)] at h
    cases h
theorem tok_leaf {t : T} (h : aok t.lv = false) : tok t = false := by
  cases e : tok t with
  | false => rfl
  | true => rw [(tok_iff.1 e).2.2] at h; cases h
theorem tok_all {t : T} (h1 : t.sp.length ≤ 4) (h2 : t.lv.length = 2 ^ t.sp.length) (h3 : ∀ j (hj : j < t.sp.length), spok t.sp[j] = true) (h4 : aok t.lv = true) : tok t = true := by
  refine tok_iff.2 ⟨⟨h1, h2⟩, ?_, h4⟩
  rw [List.all_eq_true]
  intro s hs
  obtain ⟨j, hj, rfl⟩ := List.getElem_of_mem hs
  exact h3 j hj
theorem tok_sp {t : T} (h : tok t = true) (j : Nat) (hj : j < t.sp.length) : spok t.sp[j] = true := by
  have := (tok_iff.1 h).2.1
  rw [List.all_eq_true] at this
  exact this _ (List.getElem_mem hj)
theorem spok_iff {s : Int × Int} : spok s = true ↔ (0 ≤ s.1 ∧ s.1 ≤ 5) ∧ fok s.2 = true := by simp [spok]

/-- The k-th question answered. -/
def yes (sp : List (Int × Int)) (x : List Int) (k : Nat) : Bool := decide ((sp.getD k (0, 0)).2 < x.getD (sp.getD k (0, 0)).1.toNat 0)
theorem yes_at {sp : List (Int × Int)} {x : List Int} {k : Nat} (hk : k < sp.length) (hx : sp[k].1.toNat < x.length) : yes sp x k = decide (sp[k].2 < x[sp[k].1.toNat]) := by
  unfold yes
  simp [List.getD_eq_getElem?_getD, List.getElem?_eq_getElem hk, List.getElem?_eq_getElem hx]
/-- Question i counts 2 to the i. -/
def lf (y : Nat → Bool) : Nat → Nat
  | 0 => 0
  | k + 1 => lf y k + (if y k then 2 ^ k else 0)
theorem lf_yes {y : Nat → Bool} {k : Nat} (h : y k = true) : lf y (k + 1) = lf y k + 2 ^ k := by simp [lf, h]
theorem lf_no {y : Nat → Bool} {k : Nat} (h : y k = false) : lf y (k + 1) = lf y k := by simp [lf, h]
theorem lf_lt (y : Nat → Bool) (k : Nat) : lf y k < 2 ^ k := by
  induction k with
  | zero => simp [lf]
  | succ k ih => simp only [lf, Nat.pow_succ]; split <;> omega
def askb (t : T) (x : List Int) : Bool := tok t && decide (x.length = 6)
def leafOf (t : T) (x : List Int) : Nat := if askb t x then lf (yes t.sp x) t.sp.length else 0
def eval (t : T) (x : List Int) : Int := if askb t x then t.lv.getD (lf (yes t.sp x) t.sp.length) 0 else 0
theorem askb_iff {t : T} {x : List Int} : askb t x = true ↔ tok t = true ∧ x.length = 6 := by simp [askb]
theorem askb_tok {t : T} {x : List Int} (h : tok t = false) : askb t x = false := by simp [askb, h]
theorem askb_len {t : T} {x : List Int} (h : ¬ x.length = 6) : askb t x = false := by simp [askb, h]
theorem leafOf_no {t : T} {x : List Int} (h : askb t x = false) : leafOf t x = 0 := by simp [leafOf, h]
theorem leafOf_yes {t : T} {x : List Int} (h : askb t x = true) : leafOf t x = lf (yes t.sp x) t.sp.length := by simp [leafOf, h]
theorem eval_no {t : T} {x : List Int} (h : askb t x = false) : eval t x = 0 := by simp [eval, h]
theorem eval_yes {t : T} {x : List Int} (h : askb t x = true) : eval t x = t.lv.getD (lf (yes t.sp x) t.sp.length) 0 := by simp [eval, h]
theorem lf_in {t : T} {x : List Int} (h : tok t = true) : lf (yes t.sp x) t.sp.length < t.lv.length := by
  rw [(tok_iff.1 h).1.2]; exact lf_lt _ _
theorem eval_at {t : T} {x : List Int} (h : askb t x = true) : eval t x = t.lv[lf (yes t.sp x) t.sp.length]'(lf_in (askb_iff.1 h).1) := by
  rw [eval_yes h, List.getD_eq_getElem?_getD, List.getElem?_eq_getElem (lf_in (askb_iff.1 h).1)]; rfl
theorem eval_fok (t : T) (x : List Int) : fok (eval t x) = true := by
  cases h : askb t x with
  | false => rw [eval_no h]; decide
  | true => rw [eval_at h]; exact Bo.aok_at (tok_iff.1 (askb_iff.1 h).1).2.2 _ _
theorem leaf_le (t : T) (x : List Int) (h : tok t = true) : leafOf t x < t.lv.length := by
  unfold leafOf
  split
  · exact lf_in h
  · rw [(tok_iff.1 h).1.2]; exact Nat.pow_pos (by decide)

/-- A node that was grown out. -/
structure Nd where
  f : Int
  b : Int
  l : Int
  r : Int
  v : Int
def nd0 : Nd := ⟨0, 0, 0, 0, 0⟩
theorem Nd.ext' {m n : Nd} (h1 : m.f = n.f) (h2 : m.b = n.b) (h3 : m.l = n.l) (h4 : m.r = n.r) (h5 : m.v = n.v) : m = n := by cases m; cases n; simp_all
def nodeAt (t : T) (k n : Nat) : Nd :=
  if k = t.sp.length then ⟨0, 0, -1, -1, t.lv.getD n 0⟩
  else ⟨(t.sp.getD k (0, 0)).1, (t.sp.getD k (0, 0)).2, ((2 ^ (k + 1) - 1 + n : Nat) : Int), ((2 ^ (k + 1) - 1 + n + 2 ^ k : Nat) : Int), 0⟩
def level (g : Nat → Nat → Nd) (k : Nat) : List Nd := (List.range (2 ^ k)).map (g k)
def rows (g : Nat → Nat → Nd) : Nat → List Nd
  | 0 => []
  | k + 1 => rows g k ++ level g k
def grown (t : T) : List Nd := if tok t then rows (nodeAt t) (t.sp.length + 1) else []
theorem grown_no {t : T} (h : tok t = false) : grown t = [] := by simp [grown, h]
theorem grown_yes {t : T} (h : tok t = true) : grown t = rows (nodeAt t) (t.sp.length + 1) := by simp [grown, h]
theorem level_length (g : Nat → Nat → Nd) (k : Nat) : (level g k).length = 2 ^ k := by simp [level]
theorem rows_length (g : Nat → Nat → Nd) (k : Nat) : (rows g k).length = 2 ^ k - 1 := by
  induction k with
  | zero => rfl
  | succ k ih =>
    simp only [rows, List.length_append, ih, level_length, Nat.pow_succ]
    have := Nat.pow_pos (n := k) (show 0 < 2 by decide)
    omega
theorem rows_get (g : Nat → Nat → Nd) (K k n : Nat) (hk : k < K) (hn : n < 2 ^ k) : (rows g K)[2 ^ k - 1 + n]? = some (g k n) := by
  induction K with
  | zero => omega
  | succ K ih =>
    have hp := Nat.pow_pos (n := k) (show 0 < 2 by decide)
    by_cases e : k = K
    · subst e
      simp only [rows]
      rw [List.getElem?_append_right (by rw [rows_length]; omega), rows_length]
      rw [show 2 ^ k - 1 + n - (2 ^ k - 1) = n by omega]
      simp [level, hn]
    · have hlt : k + 1 ≤ K := by omega
      have h2 := Nat.pow_le_pow_right (show 0 < 2 by decide) hlt
      rw [Nat.pow_succ] at h2
      simp only [rows]
      rw [List.getElem?_append_left (by rw [rows_length]; omega)]
      exact ih (by omega)
theorem level_take (g : Nat → Nat → Nd) (k n : Nat) (hn : n < 2 ^ k) : (level g k).take (n + 1) = (level g k).take n ++ [g k n] := by
  rw [List.take_succ_eq_append_getElem (by rw [level_length]; exact hn)]
  simp [level]
theorem grown_length {t : T} (h : tok t = true) : (grown t).length = 2 * t.lv.length - 1 := by
  rw [grown_yes h, rows_length, (tok_iff.1 h).1.2, Nat.pow_succ]; omega
theorem grown_le (t : T) : (grown t).length ≤ 31 := by
  cases h : tok t with
  | false => rw [grown_no h]; simp
  | true =>
    rw [grown_yes h, rows_length]
    have := Nat.pow_le_pow_right (show 0 < 2 by decide) (show t.sp.length + 1 ≤ 5 by have := (tok_iff.1 h).1.1; omega)
    omega
/-- Nodes written one by one, each ahead of those behind it. -/
def lay (g : Nat → Nat → Nd) : Nat → Nat → Nat → List Nd → List Nd
  | 0, a, y, l => l.set (2 ^ a - 1 + y) (g a y)
  | f + 1, a, y, l => lay g f (a + 1) (y + 2 ^ a) (lay g f (a + 1) y (l.set (2 ^ a - 1 + y) (g a y)))
theorem lay_length (g : Nat → Nat → Nd) (f a y : Nat) (l : List Nd) : (lay g f a y l).length = l.length := by
  induction f generalizing a y l with
  | zero => simp [lay]
  | succ f ih => simp [lay, ih]
theorem lay_all (g : Nat → Nat → Nd) (d : Nat) (hd : d ≤ 4) (z : Nd) : lay g d 0 0 (List.replicate (2 * 2 ^ d - 1) z) = rows g (d + 1) := by
  match d, hd with
  | 0, _ => rfl
  | 1, _ => rfl
  | 2, _ => rfl
  | 3, _ => rfl
  | 4, _ => simp only [lay, rows, level, List.replicate, List.range, List.range.loop, List.set, List.map, Nat.reduceAdd, Nat.reduceMul, Nat.reducePow, Nat.reduceSub, List.cons_append, List.nil_append]
theorem lay_grown {t : T} (h : tok t = true) (z : Nd) : lay (nodeAt t) t.sp.length 0 0 (List.replicate (2 * t.lv.length - 1) z) = grown t := by
  rw [grown_yes h, (tok_iff.1 h).1.2]; exact lay_all _ _ (tok_iff.1 h).1.1 z

/-- A walk over nodes, with so many steps at most. -/
def leads (n : Nd) (at' : Nat) (count : Nat) : Bool := decide (((0 ≤ n.f ∧ n.f ≤ 5) ∧ ((at' : Int) + 1 ≤ n.l ∧ n.l ≤ (count : Int) - 1)) ∧ ((at' : Int) + 1 ≤ n.r ∧ n.r ≤ (count : Int) - 1))
def nxt (n : Nd) (x : List Int) : Nat := if n.b < x.getD n.f.toNat 0 then n.r.toNat else n.l.toNat
def wk (ns : List Nd) (x : List Int) : Nat → Nat → Int × Bool
  | 0, _ => (0, false)
  | s + 1, p =>
    if (ns.getD p nd0).l = -1 then ((ns.getD p nd0).v, true)
    else if leads (ns.getD p nd0) p ns.length then wk ns x s (nxt (ns.getD p nd0) x) else (0, false)
def walk (ns : List Nd) (x : List Int) : Int × Bool := if ns.length = 0 ∨ ¬ x.length = 6 then (0, false) else wk ns x ns.length 0
theorem leads_iff {n : Nd} {p c : Nat} : leads n p c = true ↔ ((0 ≤ n.f ∧ n.f ≤ 5) ∧ ((p : Int) + 1 ≤ n.l ∧ n.l ≤ (c : Int) - 1)) ∧ ((p : Int) + 1 ≤ n.r ∧ n.r ≤ (c : Int) - 1) := by simp [leads]
theorem nxt_lt {n : Nd} {p c : Nat} (x : List Int) (h : leads n p c = true) : p < nxt n x ∧ nxt n x < c := by
  have := leads_iff.1 h
  unfold nxt; split <;> omega
/-- More steps than there is way left change nothing. -/
theorem wk_more (ns : List Nd) (x : List Int) (s s' p : Nat) (h : ns.length ≤ s + p) (h' : ns.length ≤ s' + p) (hp : p < ns.length) : wk ns x s p = wk ns x s' p := by
  induction s generalizing s' p with
  | zero => omega
  | succ s ih =>
    cases s' with
    | zero => omega
    | succ s' =>
      simp only [wk]
      split
      · rfl
      · split
        · rename_i h2
          have := nxt_lt x h2
          exact ih s' _ (by omega) (by omega) (by omega)
        · rfl
theorem walk_no {ns : List Nd} {x : List Int} (h : ns.length = 0 ∨ ¬ x.length = 6) : walk ns x = (0, false) := by simp only [walk, if_pos h]
theorem walk_yes {ns : List Nd} {x : List Int} (h : ¬ ns.length = 0) (h' : x.length = 6) : walk ns x = wk ns x ns.length 0 := by simp only [walk]; rw [if_neg (by omega)]
theorem wk_end {ns : List Nd} {x : List Int} {s p : Nat} (hp : p < ns.length) (h : ns[p].l = -1) : wk ns x (s + 1) p = (ns[p].v, true) := by
  simp [wk, List.getD_eq_getElem?_getD, List.getElem?_eq_getElem hp, h]
theorem wk_bad {ns : List Nd} {x : List Int} {s p : Nat} (hp : p < ns.length) (h : ¬ ns[p].l = -1) (h' : leads ns[p] p ns.length = false) : wk ns x (s + 1) p = (0, false) := by
  simp [wk, List.getD_eq_getElem?_getD, List.getElem?_eq_getElem hp, h, h']
theorem wk_on {ns : List Nd} {x : List Int} {s p : Nat} (hp : p < ns.length) (h : ¬ ns[p].l = -1) (h' : leads ns[p] p ns.length = true) : wk ns x (s + 1) p = wk ns x s (nxt ns[p] x) := by
  simp [wk, List.getD_eq_getElem?_getD, List.getElem?_eq_getElem hp, h, h']
/-- Grown out, a tree says the same. -/
theorem wk_grown {t : T} {x : List Int} (h : tok t = true) (hx : x.length = 6) (s k : Nat) (hk : k ≤ t.sp.length) (hs : t.sp.length - k < s) :
    wk (grown t) x s (2 ^ k - 1 + lf (yes t.sp x) k) = (t.lv.getD (lf (yes t.sp x) t.sp.length) 0, true) := by
  induction s generalizing k with
  | zero => omega
  | succ s ih =>
    have hlt := lf_lt (yes t.sp x) k
    have hg := rows_get (nodeAt t) (t.sp.length + 1) k (lf (yes t.sp x) k) (by omega) hlt
    rw [← grown_yes h] at hg
    obtain ⟨hp, hg'⟩ := List.getElem?_eq_some_iff.1 hg
    have hlen := grown_yes h ▸ rows_length (nodeAt t) (t.sp.length + 1)
    by_cases e : k = t.sp.length
    · rw [wk_end hp (by rw [hg']; unfold nodeAt; rw [if_pos e]), hg']
      unfold nodeAt; rw [if_pos e, e]
    · have hk' : k < t.sp.length := by omega
      have hpk := Nat.pow_pos (n := k) (show 0 < 2 by decide)
      have h2 : 2 ^ (k + 1) ≤ 2 ^ t.sp.length := Nat.pow_le_pow_right (by decide) hk'
      have hsk := (spok_iff.1 (tok_sp h k hk')).1
      have en : nodeAt t k (lf (yes t.sp x) k) = ⟨t.sp[k].1, t.sp[k].2, ((2 ^ (k + 1) - 1 + lf (yes t.sp x) k : Nat) : Int), ((2 ^ (k + 1) - 1 + lf (yes t.sp x) k + 2 ^ k : Nat) : Int), 0⟩ := by
        unfold nodeAt; rw [if_neg e]; simp [List.getD_eq_getElem?_getD, List.getElem?_eq_getElem hk']
      rw [en] at hg'
      rw [Nat.pow_succ] at h2 hlen
      rw [wk_on hp (by rw [hg']; simp only; omega) (by rw [hg', leads_iff]; simp only; rw [Nat.pow_succ, hlen]; omega)]
      have := ih (k + 1) hk' (by omega)
      have en2 : nxt (grown t)[2 ^ k - 1 + lf (yes t.sp x) k] x = 2 ^ (k + 1) - 1 + lf (yes t.sp x) (k + 1) := by
        rw [hg']
        have hya := yes_at (sp := t.sp) (x := x) hk' (by omega)
        have hxa : x.getD t.sp[k].1.toNat 0 = x[t.sp[k].1.toNat]'(by omega) := by rw [List.getD_eq_getElem?_getD, List.getElem?_eq_getElem (by omega)]; rfl
        unfold nxt
        simp only
        rw [hxa]
        by_cases hy : t.sp[k].2 < x[t.sp[k].1.toNat]'(by omega)
        · rw [if_pos hy, lf_yes (by rw [hya]; simpa using hy)]; omega
        · rw [if_neg hy, lf_no (by rw [hya]; simpa using hy)]; omega
      rw [en2]; exact this
theorem walk_grown {t : T} {x : List Int} (h : tok t = true) (hx : x.length = 6) : walk (grown t) x = (eval t x, true) := by
  have hl := grown_length h
  have hlv : 0 < t.lv.length := by rw [(tok_iff.1 h).1.2]; exact Nat.pow_pos (by decide)
  rw [walk_yes (by omega) hx, eval_yes (askb_iff.2 ⟨h, hx⟩)]
  have := wk_grown (x := x) h hx (grown t).length 0 (Nat.zero_le _) (by
    have := grown_yes h ▸ rows_length (nodeAt t) (t.sp.length + 1)
    rw [this, Nat.pow_succ]
    have : t.sp.length < 2 ^ t.sp.length := Nat.lt_two_pow_self
    omega)
  simpa [lf] using this

/-- The bits i and i + 1 have changed places. -/
def mv (i n : Nat) : Nat := n - n / 2 ^ i % 2 * 2 ^ i - n / 2 ^ (i + 1) % 2 * 2 ^ (i + 1) + n / 2 ^ (i + 1) % 2 * 2 ^ i + n / 2 ^ i % 2 * 2 ^ (i + 1)
theorem mv_fin : ∀ d : Fin 5, ∀ i : Fin 3, i.val + 2 ≤ d.val → ∀ n : Fin 16, n.val < 2 ^ d.val → mv i.val n.val < 2 ^ d.val ∧ mv i.val (mv i.val n.val) = n.val := by decide +kernel
theorem mv_all (d : Nat) (hd : d ≤ 4) (i : Nat) (hi : i + 2 ≤ d) (n : Nat) (hn : n < 2 ^ d) : mv i n < 2 ^ d ∧ mv i (mv i n) = n := by
  have h16 : 2 ^ d ≤ 2 ^ 4 := Nat.pow_le_pow_right (by decide) hd
  exact mv_fin ⟨d, by omega⟩ ⟨i, by omega⟩ hi ⟨n, by omega⟩ hn
def swp (l : List (Int × Int)) (i : Nat) : List (Int × Int) := (l.set i (l.getD (i + 1) (0, 0))).set (i + 1) (l.getD i (0, 0))
theorem swp_length (l : List (Int × Int)) (i : Nat) : (swp l i).length = l.length := by simp [swp]
def flv (i : Nat) (lv : List Int) (p : Nat) : Int := lv.getD (mv i p) 0
def flipL (i : Nat) (lv : List Int) : List Int := (List.range lv.length).map (flv i lv)
theorem flipL_length (i : Nat) (lv : List Int) : (flipL i lv).length = lv.length := by simp [flipL]
def canFlip (t : T) (i : Int) : Bool := tok t && decide (0 ≤ i ∧ i ≤ (t.sp.length : Int) - 2)
def flipped (t : T) (i : Int) : T := if canFlip t i then ⟨swp t.sp i.toNat, flipL i.toNat t.lv⟩ else ⟨[], []⟩
theorem canFlip_iff {t : T} {i : Int} : canFlip t i = true ↔ tok t = true ∧ 0 ≤ i ∧ i ≤ (t.sp.length : Int) - 2 := by simp [canFlip]
theorem flipped_no {t : T} {i : Int} (h : canFlip t i = false) : flipped t i = ⟨[], []⟩ := by simp [flipped, h]
theorem flipped_yes {t : T} {i : Int} (h : canFlip t i = true) : flipped t i = ⟨swp t.sp i.toNat, flipL i.toNat t.lv⟩ := by simp [flipped, h]
theorem canFlip_tok {t : T} {i : Int} (h : tok t = false) : canFlip t i = false := by simp [canFlip, h]
theorem canFlip_i {t : T} {i : Int} (h : ¬ (0 ≤ i ∧ i ≤ (t.sp.length : Int) - 2)) : canFlip t i = false := by
  cases e : canFlip t i with
  | false => rfl
  | true => exact absurd (canFlip_iff.1 e).2 h
/-- As far as n the leaves have been put where they go. -/
def Put (i : Nat) (lv l : List Int) (d n : Nat) : Prop := l.length = lv.length ∧ ∀ p, p < 2 ^ d → mv i p < n → l[p]? = lv[mv i p]?
theorem put_zero (i : Nat) (lv l : List Int) (d : Nat) (h : l.length = lv.length) : Put i lv l d 0 := ⟨h, fun _ _ h => by omega⟩
theorem put_step {i d n : Nat} {lv l : List Int} (hd : d ≤ 4) (hi : i + 2 ≤ d) (hl : lv.length = 2 ^ d) (hn : n < lv.length) (h : Put i lv l d n) : Put i lv (l.set (mv i n) lv[n]) d (n + 1) := by
  refine ⟨by simpa using h.1, fun p hp hlt => ?_⟩
  have hm := mv_all d hd i hi
  by_cases e : mv i p = n
  · have hp' : mv i n = p := by rw [← e]; exact (hm p hp).2
    rw [hp', e, List.getElem?_set]
    rw [if_pos rfl, if_pos (by rw [h.1, hl]; exact hp), List.getElem?_eq_getElem hn]
  · rw [List.getElem?_set, if_neg (fun e' => e (by rw [← e']; exact (hm n (by omega)).2))]
    exact h.2 p hp (by omega)
theorem put_all {i d : Nat} {lv l : List Int} (hd : d ≤ 4) (hi : i + 2 ≤ d) (hl : lv.length = 2 ^ d) (h : Put i lv l d lv.length) : l = flipL i lv := by
  apply List.ext_getElem?
  intro p
  by_cases hp : p < lv.length
  · have hm := mv_all d hd i hi p (by omega)
    rw [h.2 p (by omega) (by omega)]
    simp [flipL, hp, flv, List.getElem?_eq_getElem (show mv i p < lv.length by omega), List.getD_eq_getElem?_getD]
  · rw [List.getElem?_eq_none (by rw [h.1]; omega), List.getElem?_eq_none (by rw [flipL_length]; omega)]
theorem flipL_at {i d : Nat} {lv : List Int} (hd : d ≤ 4) (hi : i + 2 ≤ d) (hl : lv.length = 2 ^ d) (p : Nat) (hp : p < 2 ^ d) : (flipL i lv)[p]? = lv[mv i p]? := by
  have hm := mv_all d hd i hi p hp
  simp [flipL, hl, hp, flv, List.getElem?_eq_getElem (show mv i p < lv.length by omega), List.getD_eq_getElem?_getD]
theorem flipL_twice {i d : Nat} {lv : List Int} (hd : d ≤ 4) (hi : i + 2 ≤ d) (hl : lv.length = 2 ^ d) : flipL i (flipL i lv) = lv := by
  apply List.ext_getElem?
  intro p
  by_cases hp : p < 2 ^ d
  · have hm := mv_all d hd i hi p hp
    rw [flipL_at hd hi (by rw [flipL_length]; exact hl) p hp, flipL_at hd hi hl _ hm.1, hm.2]
  · rw [List.getElem?_eq_none (by rw [flipL_length, flipL_length]; omega), List.getElem?_eq_none (by omega)]
theorem swp_get {l : List (Int × Int)} {i : Nat} (h : i + 2 ≤ l.length) (j : Nat) : (swp l i)[j]? = l[if j = i then i + 1 else if j = i + 1 then i else j]? := by
  unfold swp
  rw [List.getElem?_set, List.getElem?_set]
  simp only [List.length_set]
  by_cases e1 : j = i
  · subst e1
    rw [if_neg (by omega), if_pos rfl, if_pos (by omega), if_pos rfl]
    simp [List.getD_eq_getElem?_getD, List.getElem?_eq_getElem (show j + 1 < l.length by omega)]
  · by_cases e2 : j = i + 1
    · subst e2
      rw [if_pos rfl, if_pos (by omega), if_neg (by omega), if_pos rfl]
      simp [List.getD_eq_getElem?_getD, List.getElem?_eq_getElem (show i < l.length by omega)]
    · rw [if_neg (by omega), if_neg (by omega), if_neg e1, if_neg e2]
theorem swp_twice {l : List (Int × Int)} {i : Nat} (h : i + 2 ≤ l.length) : swp (swp l i) i = l := by
  apply List.ext_getElem?
  intro j
  rw [swp_get (by rw [swp_length]; exact h), swp_get h]
  congr 1
  (repeat' split) <;> omega
theorem swp_all {l : List (Int × Int)} {i : Nat} (h : i + 2 ≤ l.length) (p : Int × Int → Bool) (ha : l.all p = true) : (swp l i).all p = true := by
  rw [List.all_eq_true] at ha ⊢
  intro s hs
  obtain ⟨j, hj, rfl⟩ := List.getElem_of_mem hs
  have hg := swp_get h j
  rw [List.getElem?_eq_getElem hj] at hg
  obtain ⟨hq, hg'⟩ := List.getElem?_eq_some_iff.1 hg.symm
  rw [← hg']
  exact ha _ (List.getElem_mem hq)
theorem flipL_aok {i d : Nat} {lv : List Int} (hd : d ≤ 4) (hi : i + 2 ≤ d) (hl : lv.length = 2 ^ d) (ha : aok lv = true) : aok (flipL i lv) = true := by
  refine Bo.aok_to fun p hp => ?_
  have hp' : p < 2 ^ d := by rw [flipL_length] at hp; omega
  have hg := flipL_at hd hi hl p hp'
  rw [List.getElem?_eq_getElem hp] at hg
  obtain ⟨hq, hg'⟩ := List.getElem?_eq_some_iff.1 hg.symm
  rw [← hg']
  exact Bo.aok_at ha _ hq
theorem flip_tok {t : T} {i : Int} (h : canFlip t i = true) : tok (flipped t i) = true := by
  obtain ⟨ht, h0, h1⟩ := canFlip_iff.1 h
  obtain ⟨⟨h4, hl⟩, hs, ha⟩ := tok_iff.1 ht
  rw [flipped_yes h, tok_iff]
  simp only [swp_length, flipL_length]
  exact ⟨⟨h4, hl⟩, swp_all (by omega) _ hs, flipL_aok h4 (by omega) hl ha⟩
theorem flip_can {t : T} {i : Int} (h : canFlip t i = true) : canFlip (flipped t i) i = true := by
  obtain ⟨ht, h0, h1⟩ := canFlip_iff.1 h
  refine canFlip_iff.2 ⟨flip_tok h, h0, ?_⟩
  rw [flipped_yes h]; simp only [swp_length]; exact h1
theorem flip_back {t : T} {i : Int} (h : canFlip t i = true) : flipped (flipped t i) i = t := by
  obtain ⟨ht, h0, h1⟩ := canFlip_iff.1 h
  obtain ⟨⟨h4, hl⟩, hs, ha⟩ := tok_iff.1 ht
  rw [flipped_yes (flip_can h), flipped_yes h]
  exact T.ext' (swp_twice (by omega)) (flipL_twice h4 (by omega) hl)
theorem lf_swap (y y' : Nat → Bool) (d i : Nat) (hd : d ≤ 4) (hi : i + 2 ≤ d) (h : ∀ j, y' j = y (if j = i then i + 1 else if j = i + 1 then i else j)) : lf y' d = mv i (lf y d) := by
  match d, i, hd, hi with
  | 2, 0, _, _ => simp only [lf, h]; simp only [reduceIte, Nat.reduceEqDiff, Nat.reduceAdd]; cases y 0 <;> cases y 1 <;> rfl
  | 3, 0, _, _ => simp only [lf, h]; simp only [reduceIte, Nat.reduceEqDiff, Nat.reduceAdd]; cases y 0 <;> cases y 1 <;> cases y 2 <;> rfl
  | 3, 1, _, _ => simp only [lf, h]; simp only [reduceIte, Nat.reduceEqDiff, Nat.reduceAdd]; cases y 0 <;> cases y 1 <;> cases y 2 <;> rfl
  | 4, 0, _, _ => simp only [lf, h]; simp only [reduceIte, Nat.reduceEqDiff, Nat.reduceAdd]; cases y 0 <;> cases y 1 <;> cases y 2 <;> cases y 3 <;> rfl
  | 4, 1, _, _ => simp only [lf, h]; simp only [reduceIte, Nat.reduceEqDiff, Nat.reduceAdd]; cases y 0 <;> cases y 1 <;> cases y 2 <;> cases y 3 <;> rfl
  | 4, 2, _, _ => simp only [lf, h]; simp only [reduceIte, Nat.reduceEqDiff, Nat.reduceAdd]; cases y 0 <;> cases y 1 <;> cases y 2 <;> cases y 3 <;> rfl
/-- Two questions asked in the other order are the same tree. -/
theorem flip_eval {t : T} {i : Int} (h : canFlip t i = true) (x : List Int) : eval (flipped t i) x = eval t x := by
  obtain ⟨ht, h0, h1⟩ := canFlip_iff.1 h
  obtain ⟨⟨h4, hl⟩, hs, ha⟩ := tok_iff.1 ht
  by_cases hx : x.length = 6
  · rw [eval_yes (askb_iff.2 ⟨flip_tok h, hx⟩), eval_yes (askb_iff.2 ⟨ht, hx⟩), flipped_yes h]
    simp only [swp_length]
    have hsw := lf_swap (yes t.sp x) (yes (swp t.sp i.toNat) x) t.sp.length i.toNat h4 (by omega) (fun j => by
      unfold yes
      simp only [List.getD_eq_getElem?_getD, swp_get (show i.toNat + 2 ≤ t.sp.length by omega) j])
    rw [hsw]
    have hm := mv_all _ h4 i.toNat (by omega) _ (lf_lt (yes t.sp x) t.sp.length)
    rw [List.getD_eq_getElem?_getD, flipL_at h4 (by omega) hl _ hm.1, hm.2, List.getD_eq_getElem?_getD]
  · rw [eval_no (askb_len hx), eval_no (askb_len hx)]
end Go.Proofs.Ytmfippeclkmhnaa.Tr
