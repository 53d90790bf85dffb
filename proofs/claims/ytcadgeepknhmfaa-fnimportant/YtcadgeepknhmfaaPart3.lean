/-
  Contracts that the proof leans on, put together in the order in which they build.
-/
import Derived.Test.YtcadgeepknhmfaaPart2
import Derived.Test.YtcadgeepknhmfaaPart1
import Derived.Deep.RegionWith
import Derived.Deep.QuietTactic
import Derived.BigQuiet
/-
  Trees, as plain functions: which leaf, what a tree says, its nodes grown out, the walk over nodes, two questions changed; what follows of them.
-/
namespace Go.Proofs.Ytcadgeepknhmfaa.Tr
open Go.RowKit
open Go.Proofs.Ytcadgeepknhmfaa.Bo (fok aok)

/-- A tree: its questions (feature, border) and its leaves. -/
structure T where
  sp : List (Int × Int)
  lv : List Int
theorem T.ext' {t u : T} (h : t.sp = u.sp) (h' : t.lv = u.lv) : t = u := by cases t; cases u; simp_all

def spok (s : Int × Int) : Bool := decide (0 ≤ s.1 ∧ s.1 ≤ 5) && fok s.2
def tok (t : T) : Bool := decide (t.sp.length ≤ 4 ∧ t.lv.length = 2 ^ t.sp.length) && (t.sp.all spok && aok t.lv)
theorem tok_iff {t : T} : tok t = true ↔ (t.sp.length ≤ 4 ∧ t.lv.length = 2 ^ t.sp.length) ∧ t.sp.all spok = true ∧ aok t.lv = true := by simp [tok, and_assoc]
theorem tok_long {t : T} (h : 4 < t.sp.length) : tok t = false := by
  cases e : tok t with
  | false => rfl
  | true => have := (tok_iff.1 e).1.1; omega
theorem tok_leaves {t : T} (h : ¬ t.lv.length = 2 ^ t.sp.length) : tok t = false := by
  cases e : tok t with
  | false => rfl
  | true => exact absurd (tok_iff.1 e).1.2 h
theorem tok_bad {t : T} {k : Nat} (hk : k < t.sp.length) (h : spok t.sp[k] = false) : tok t = false := by
  cases e : tok t with
  | false => rfl
  | true =>
    have := (tok_iff.1 e).2.1
    rw [List.all_eq_true] at this
    rw [this _ (List.getElem_mem hk)] at h
    cases h
theorem tok_leaf {t : T} (h : aok t.lv = false) : tok t = false := by
  cases e : tok t with
  | false => rfl
  | true => rw [(tok_iff.1 e).2.2] at h; cases h
theorem tok_all {t : T} (h1 : t.sp.length ≤ 4) (h2 : t.lv.length = 2 ^ t.sp.length) (h3 : ∀ j (hj : j < t.sp.length), spok t.sp[j] = true) (h4 : aok t.lv = true) : tok t = true := by
  refine tok_iff.2 ⟨⟨h1, h2⟩, ?_, h4⟩
  rw [List.all_eq_true]
  intro s hs
  obtain ⟨j, hj, rfl⟩ := List.getElem_of_mem hs
  exact h3 j hj
theorem tok_sp {t : T} (h : tok t = true) (j : Nat) (hj : j < t.sp.length) : spok t.sp[j] = true := by
  have := (tok_iff.1 h).2.1
  rw [List.all_eq_true] at this
  exact this _ (List.getElem_mem hj)
theorem spok_iff {s : Int × Int} : spok s = true ↔ (0 ≤ s.1 ∧ s.1 ≤ 5) ∧ fok s.2 = true := by simp [spok]

/-- The k-th question answered. -/
def yes (sp : List (Int × Int)) (x : List Int) (k : Nat) : Bool := decide ((sp.getD k (0, 0)).2 < x.getD (sp.getD k (0, 0)).1.toNat 0)
theorem yes_at {sp : List (Int × Int)} {x : List Int} {k : Nat} (hk : k < sp.length) (hx : sp[k].1.toNat < x.length) : yes sp x k = decide (sp[k].2 < x[sp[k].1.toNat]) := by
  unfold yes
  simp [List.getD_eq_getElem?_getD, List.getElem?_eq_getElem hk, List.getElem?_eq_getElem hx]
/-- Question i counts 2 to the i. -/
def lf (y : Nat → Bool) : Nat → Nat
  | 0 => 0
  | k + 1 => lf y k + (if y k then 2 ^ k else 0)
theorem lf_yes {y : Nat → Bool} {k : Nat} (h : y k = true) : lf y (k + 1) = lf y k + 2 ^ k := by simp [lf, h]
theorem lf_no {y : Nat → Bool} {k : Nat} (h : y k = false) : lf y (k + 1) = lf y k := by simp [lf, h]
theorem lf_lt (y : Nat → Bool) (k : Nat) : lf y k < 2 ^ k := by
  induction k with
  | zero => simp [lf]
  | succ k ih => simp only [lf, Nat.pow_succ]; split <;> omega
def askb (t : T) (x : List Int) : Bool := tok t && decide (x.length = 6)
def leafOf (t : T) (x : List Int) : Nat := if askb t x then lf (yes t.sp x) t.sp.length else 0
def eval (t : T) (x : List Int) : Int := if askb t x then t.lv.getD (lf (yes t.sp x) t.sp.length) 0 else 0
theorem askb_iff {t : T} {x : List Int} : askb t x = true ↔ tok t = true ∧ x.length = 6 := by simp [askb]
theorem askb_tok {t : T} {x : List Int} (h : tok t = false) : askb t x = false := by simp [askb, h]
theorem askb_len {t : T} {x : List Int} (h : ¬ x.length = 6) : askb t x = false := by simp [askb, h]
theorem leafOf_no {t : T} {x : List Int} (h : askb t x = false) : leafOf t x = 0 := by simp [leafOf, h]
theorem leafOf_yes {t : T} {x : List Int} (h : askb t x = true) : leafOf t x = lf (yes t.sp x) t.sp.length := by simp [leafOf, h]
theorem eval_no {t : T} {x : List Int} (h : askb t x = false) : eval t x = 0 := by simp [eval, h]
theorem eval_yes {t : T} {x : List Int} (h : askb t x = true) : eval t x = t.lv.getD (lf (yes t.sp x) t.sp.length) 0 := by simp [eval, h]
theorem lf_in {t : T} {x : List Int} (h : tok t = true) : lf (yes t.sp x) t.sp.length < t.lv.length := by
  rw [(tok_iff.1 h).1.2]; exact lf_lt _ _
theorem eval_at {t : T} {x : List Int} (h : askb t x = true) : eval t x = t.lv[lf (yes t.sp x) t.sp.length]'(lf_in (askb_iff.1 h).1) := by
  rw [eval_yes h, List.getD_eq_getElem?_getD, List.getElem?_eq_getElem (lf_in (askb_iff.1 h).1)]; rfl
theorem eval_fok (t : T) (x : List Int) : fok (eval t x) = true := by
  cases h : askb t x with
  | false => rw [eval_no h]; decide
  | true => rw [eval_at h]; exact Bo.aok_at (tok_iff.1 (askb_iff.1 h).1).2.2 _ _
theorem leaf_le (t : T) (x : List Int) (h : tok t = true) : leafOf t x < t.lv.length := by
  unfold leafOf
  split
  · exact lf_in h
  · rw [(tok_iff.1 h).1.2]; exact Nat.pow_pos (by decide)

/-- A node that was grown out. -/
structure Nd where
  f : Int
  b : Int
  l : Int
  r : Int
  v : Int
def nd0 : Nd := ⟨0, 0, 0, 0, 0⟩
theorem Nd.ext' {m n : Nd} (h1 : m.f = n.f) (h2 : m.b = n.b) (h3 : m.l = n.l) (h4 : m.r = n.r) (h5 : m.v = n.v) : m = n := by cases m; cases n; simp_all
def nodeAt (t : T) (k n : Nat) : Nd :=
  if k = t.sp.length then ⟨0, 0, -1, -1, t.lv.getD n 0⟩
  else ⟨(t.sp.getD k (0, 0)).1, (t.sp.getD k (0, 0)).2, ((2 ^ (k + 1) - 1 + n : Nat) : Int), ((2 ^ (k + 1) - 1 + n + 2 ^ k : Nat) : Int), 0⟩
def level (g : Nat → Nat → Nd) (k : Nat) : List Nd := (List.range (2 ^ k)).map (g k)
def rows (g : Nat → Nat → Nd) : Nat → List Nd
  | 0 => []
  | k + 1 => rows g k ++ level g k
def grown (t : T) : List Nd := if tok t then rows (nodeAt t) (t.sp.length + 1) else []
theorem grown_no {t : T} (h : tok t = false) : grown t = [] := by simp [grown, h]
theorem grown_yes {t : T} (h : tok t = true) : grown t = rows (nodeAt t) (t.sp.length + 1) := by simp [grown, h]
theorem level_length (g : Nat → Nat → Nd) (k : Nat) : (level g k).length = 2 ^ k := by simp [level]
theorem rows_length (g : Nat → Nat → Nd) (k : Nat) : (rows g k).length = 2 ^ k - 1 := by
  induction k with
  | zero => rfl
  | succ k ih =>
    simp only [rows, List.length_append, ih, level_length, Nat.pow_succ]
    have := Nat.pow_pos (n := k) (show 0 < 2 by decide)
    omega
theorem rows_get (g : Nat → Nat → Nd) (K k n : Nat) (hk : k < K) (hn : n < 2 ^ k) : (rows g K)[2 ^ k - 1 + n]? = some (g k n) := by
  induction K with
  | zero => omega
  | succ K ih =>
    have hp := Nat.pow_pos (n := k) (show 0 < 2 by decide)
    by_cases e : k = K
    · subst e
      simp only [rows]
      rw [List.getElem?_append_right (by rw [rows_length]; omega), rows_length]
      rw [show 2 ^ k - 1 + n - (2 ^ k - 1) = n by omega]
      simp [level, hn]
    · have hlt : k + 1 ≤ K := by omega
      have h2 := Nat.pow_le_pow_right (show 0 < 2 by decide) hlt
      rw [Nat.pow_succ] at h2
      simp only [rows]
      rw [List.getElem?_append_left (by rw [rows_length]; omega)]
      exact ih (by omega)
theorem level_take (g : Nat → Nat → Nd) (k n : Nat) (hn : n < 2 ^ k) : (level g k).take (n + 1) = (level g k).take n ++ [g k n] := by
  rw [List.take_succ_eq_append_getElem (by rw [level_length]; exact hn)]
  simp [level]
theorem grown_length {t : T} (h : tok t = true) : (grown t).length = 2 * t.lv.length - 1 := by
  rw [grown_yes h, rows_length, (tok_iff.1 h).1.2, Nat.pow_succ]; omega
theorem grown_le (t : T) : (grown t).length ≤ 31 := by
  cases h : tok t with
  | false => rw [grown_no h]; simp
  | true =>
    rw [grown_yes h, rows_length]
    have := Nat.pow_le_pow_right (show 0 < 2 by decide) (show t.sp.length + 1 ≤ 5 by have := (tok_iff.1 h).1.1; omega)
    omega
/-- Nodes written one by one, each ahead of those behind it. -/
def lay (g : Nat → Nat → Nd) : Nat → Nat → Nat → List Nd → List Nd
  | 0, a, y, l => l.set (2 ^ a - 1 + y) (g a y)
  | f + 1, a, y, l => lay g f (a + 1) (y + 2 ^ a) (lay g f (a + 1) y (l.set (2 ^ a - 1 + y) (g a y)))
theorem lay_length (g : Nat → Nat → Nd) (f a y : Nat) (l : List Nd) : (lay g f a y l).length = l.length := by
  induction f generalizing a y l with
  | zero => simp [lay]
  | succ f ih => simp [lay, ih]
theorem lay_all (g : Nat → Nat → Nd) (d : Nat) (hd : d ≤ 4) (z : Nd) : lay g d 0 0 (List.replicate (2 * 2 ^ d - 1) z) = rows g (d + 1) := by
  match d, hd with
  | 0, _ => rfl
  | 1, _ => rfl
  | 2, _ => rfl
  | 3, _ => rfl
  | 4, _ => simp only [lay, rows, level, List.replicate, List.range, List.range.loop, List.set, List.map, Nat.reduceAdd, Nat.reduceMul, Nat.reducePow, Nat.reduceSub, List.cons_append, List.nil_append]
theorem lay_grown {t : T} (h : tok t = true) (z : Nd) : lay (nodeAt t) t.sp.length 0 0 (List.replicate (2 * t.lv.length - 1) z) = grown t := by
  rw [grown_yes h, (tok_iff.1 h).1.2]; exact lay_all _ _ (tok_iff.1 h).1.1 z

/-- A walk over nodes, with so many steps at most. -/
def leads (n : Nd) (at' : Nat) (count : Nat) : Bool := decide (((0 ≤ n.f ∧ n.f ≤ 5) ∧ ((at' : Int) + 1 ≤ n.l ∧ n.l ≤ (count : Int) - 1)) ∧ ((at' : Int) + 1 ≤ n.r ∧ n.r ≤ (count : Int) - 1))
def nxt (n : Nd) (x : List Int) : Nat := if n.b < x.getD n.f.toNat 0 then n.r.toNat else n.l.toNat
def wk (ns : List Nd) (x : List Int) : Nat → Nat → Int × Bool
  | 0, _ => (0, false)
  | s + 1, p =>
    if (ns.getD p nd0).l = -1 then ((ns.getD p nd0).v, true)
    else if leads (ns.getD p nd0) p ns.length then wk ns x s (nxt (ns.getD p nd0) x) else (0, false)
def walk (ns : List Nd) (x : List Int) : Int × Bool := if ns.length = 0 ∨ ¬ x.length = 6 then (0, false) else wk ns x ns.length 0
theorem leads_iff {n : Nd} {p c : Nat} : leads n p c = true ↔ ((0 ≤ n.f ∧ n.f ≤ 5) ∧ ((p : Int) + 1 ≤ n.l ∧ n.l ≤ (c : Int) - 1)) ∧ ((p : Int) + 1 ≤ n.r ∧ n.r ≤ (c : Int) - 1) := by simp [leads]
theorem nxt_lt {n : Nd} {p c : Nat} (x : List Int) (h : leads n p c = true) : p < nxt n x ∧ nxt n x < c := by
  have := leads_iff.1 h
  unfold nxt; split <;> omega
/-- More steps than there is way left change nothing. -/
theorem wk_more (ns : List Nd) (x : List Int) (s s' p : Nat) (h : ns.length ≤ s + p) (h' : ns.length ≤ s' + p) (hp : p < ns.length) : wk ns x s p = wk ns x s' p := by
  induction s generalizing s' p with
  | zero => omega
  | succ s ih =>
    cases s' with
    | zero => omega
    | succ s' =>
      simp only [wk]
      split
      · rfl
      · split
        · rename_i h2
          have := nxt_lt x h2
          exact ih s' _ (by omega) (by omega) (by omega)
        · rfl
theorem walk_no {ns : List Nd} {x : List Int} (h : ns.length = 0 ∨ ¬ x.length = 6) : walk ns x = (0, false) := by simp only [walk, if_pos h]
theorem walk_yes {ns : List Nd} {x : List Int} (h : ¬ ns.length = 0) (h' : x.length = 6) : walk ns x = wk ns x ns.length 0 := by simp only [walk]; rw [if_neg (by omega)]
theorem wk_end {ns : List Nd} {x : List Int} {s p : Nat} (hp : p < ns.length) (h : ns[p].l = -1) : wk ns x (s + 1) p = (ns[p].v, true) := by
  simp [wk, List.getD_eq_getElem?_getD, List.getElem?_eq_getElem hp, h]
theorem wk_bad {ns : List Nd} {x : List Int} {s p : Nat} (hp : p < ns.length) (h : ¬ ns[p].l = -1) (h' : leads ns[p] p ns.length = false) : wk ns x (s + 1) p = (0, false) := by
  simp [wk, List.getD_eq_getElem?_getD, List.getElem?_eq_getElem hp, h, h']
theorem wk_on {ns : List Nd} {x : List Int} {s p : Nat} (hp : p < ns.length) (h : ¬ ns[p].l = -1) (h' : leads ns[p] p ns.length = true) : wk ns x (s + 1) p = wk ns x s (nxt ns[p] x) := by
  simp [wk, List.getD_eq_getElem?_getD, List.getElem?_eq_getElem hp, h, h']
/-- Grown out, a tree says the same. -/
theorem wk_grown {t : T} {x : List Int} (h : tok t = true) (hx : x.length = 6) (s k : Nat) (hk : k ≤ t.sp.length) (hs : t.sp.length - k < s) :
    wk (grown t) x s (2 ^ k - 1 + lf (yes t.sp x) k) = (t.lv.getD (lf (yes t.sp x) t.sp.length) 0, true) := by
  induction s generalizing k with
  | zero => omega
  | succ s ih =>
    have hlt := lf_lt (yes t.sp x) k
    have hg := rows_get (nodeAt t) (t.sp.length + 1) k (lf (yes t.sp x) k) (by omega) hlt
    rw [← grown_yes h] at hg
    obtain ⟨hp, hg'⟩ := List.getElem?_eq_some_iff.1 hg
    have hlen := grown_yes h ▸ rows_length (nodeAt t) (t.sp.length + 1)
    by_cases e : k = t.sp.length
    · rw [wk_end hp (by rw [hg']; unfold nodeAt; rw [if_pos e]), hg']
      unfold nodeAt; rw [if_pos e, e]
    · have hk' : k < t.sp.length := by omega
      have hpk := Nat.pow_pos (n := k) (show 0 < 2 by decide)
      have h2 : 2 ^ (k + 1) ≤ 2 ^ t.sp.length := Nat.pow_le_pow_right (by decide) hk'
      have hsk := (spok_iff.1 (tok_sp h k hk')).1
      have en : nodeAt t k (lf (yes t.sp x) k) = ⟨t.sp[k].1, t.sp[k].2, ((2 ^ (k + 1) - 1 + lf (yes t.sp x) k : Nat) : Int), ((2 ^ (k + 1) - 1 + lf (yes t.sp x) k + 2 ^ k : Nat) : Int), 0⟩ := by
        unfold nodeAt; rw [if_neg e]; simp [List.getD_eq_getElem?_getD, List.getElem?_eq_getElem hk']
      rw [en] at hg'
      rw [Nat.pow_succ] at h2 hlen
      rw [wk_on hp (by rw [hg']; simp only; omega) (by rw [hg', leads_iff]; simp only; rw [Nat.pow_succ, hlen]; omega)]
      have := ih (k + 1) hk' (by omega)
      have en2 : nxt (grown t)[2 ^ k - 1 + lf (yes t.sp x) k] x = 2 ^ (k + 1) - 1 + lf (yes t.sp x) (k + 1) := by
        rw [hg']
        have hya := yes_at (sp := t.sp) (x := x) hk' (by omega)
        have hxa : x.getD t.sp[k].1.toNat 0 = x[t.sp[k].1.toNat]'(by omega) := by rw [List.getD_eq_getElem?_getD, List.getElem?_eq_getElem (by omega)]; rfl
        unfold nxt
        simp only
        rw [hxa]
        by_cases hy : t.sp[k].2 < x[t.sp[k].1.toNat]'(by omega)
        · rw [if_pos hy, lf_yes (by rw [hya]; simpa using hy)]; omega
        · rw [if_neg hy, lf_no (by rw [hya]; simpa using hy)]; omega
      rw [en2]; exact this
theorem walk_grown {t : T} {x : List Int} (h : tok t = true) (hx : x.length = 6) : walk (grown t) x = (eval t x, true) := by
  have hl := grown_length h
  have hlv : 0 < t.lv.length := by rw [(tok_iff.1 h).1.2]; exact Nat.pow_pos (by decide)
  rw [walk_yes (by omega) hx, eval_yes (askb_iff.2 ⟨h, hx⟩)]
  have := wk_grown (x := x) h hx (grown t).length 0 (Nat.zero_le _) (by
    have := grown_yes h ▸ rows_length (nodeAt t) (t.sp.length + 1)
    rw [this, Nat.pow_succ]
    have : t.sp.length < 2 ^ t.sp.length := Nat.lt_two_pow_self
    omega)
  simpa [lf] using this

/-- The bits i and i + 1 have changed places. -/
def mv (i n : Nat) : Nat := n - n / 2 ^ i % 2 * 2 ^ i - n / 2 ^ (i + 1) % 2 * 2 ^ (i + 1) + n / 2 ^ (i + 1) % 2 * 2 ^ i + n / 2 ^ i % 2 * 2 ^ (i + 1)
theorem mv_fin : ∀ d : Fin 5, ∀ i : Fin 3, i.val + 2 ≤ d.val → ∀ n : Fin 16, n.val < 2 ^ d.val → mv i.val n.val < 2 ^ d.val ∧ mv i.val (mv i.val n.val) = n.val := by decide +kernel
theorem mv_all (d : Nat) (hd : d ≤ 4) (i : Nat) (hi : i + 2 ≤ d) (n : Nat) (hn : n < 2 ^ d) : mv i n < 2 ^ d ∧ mv i (mv i n) = n := by
  have h16 : 2 ^ d ≤ 2 ^ 4 := Nat.pow_le_pow_right (by decide) hd
  exact mv_fin ⟨d, by omega⟩ ⟨i, by omega⟩ hi ⟨n, by omega⟩ hn
def swp (l : List (Int × Int)) (i : Nat) : List (Int × Int) := (l.set i (l.getD (i + 1) (0, 0))).set (i + 1) (l.getD i (0, 0))
theorem swp_length (l : List (Int × Int)) (i : Nat) : (swp l i).length = l.length := by simp [swp]
def flv (i : Nat) (lv : List Int) (p : Nat) : Int := lv.getD (mv i p) 0
def flipL (i : Nat) (lv : List Int) : List Int := (List.range lv.length).map (flv i lv)
theorem flipL_length (i : Nat) (lv : List Int) : (flipL i lv).length = lv.length := by simp [flipL]
def canFlip (t : T) (i : Int) : Bool := tok t && decide (0 ≤ i ∧ i ≤ (t.sp.length : Int) - 2)
def flipped (t : T) (i : Int) : T := if canFlip t i then ⟨swp t.sp i.toNat, flipL i.toNat t.lv⟩ else ⟨[], []⟩
theorem canFlip_iff {t : T} {i : Int} : canFlip t i = true ↔ tok t = true ∧ 0 ≤ i ∧ i ≤ (t.sp.length : Int) - 2 := by simp [canFlip]
theorem flipped_no {t : T} {i : Int} (h : canFlip t i = false) : flipped t i = ⟨[], []⟩ := by simp [flipped, h]
theorem flipped_yes {t : T} {i : Int} (h : canFlip t i = true) : flipped t i = ⟨swp t.sp i.toNat, flipL i.toNat t.lv⟩ := by simp [flipped, h]
theorem canFlip_tok {t : T} {i : Int} (h : tok t = false) : canFlip t i = false := by simp [canFlip, h]
theorem canFlip_i {t : T} {i : Int} (h : ¬ (0 ≤ i ∧ i ≤ (t.sp.length : Int) - 2)) : canFlip t i = false := by
  cases e : canFlip t i with
  | false => rfl
  | true => exact absurd (canFlip_iff.1 e).2 h
/-- As far as n the leaves have been put where they go. -/
def Put (i : Nat) (lv l : List Int) (d n : Nat) : Prop := l.length = lv.length ∧ ∀ p, p < 2 ^ d → mv i p < n → l[p]? = lv[mv i p]?
theorem put_zero (i : Nat) (lv l : List Int) (d : Nat) (h : l.length = lv.length) : Put i lv l d 0 := ⟨h, fun _ _ h => by omega⟩
theorem put_step {i d n : Nat} {lv l : List Int} (hd : d ≤ 4) (hi : i + 2 ≤ d) (hl : lv.length = 2 ^ d) (hn : n < lv.length) (h : Put i lv l d n) : Put i lv (l.set (mv i n) lv[n]) d (n + 1) := by
  refine ⟨by simpa using h.1, fun p hp hlt => ?_⟩
  have hm := mv_all d hd i hi
  by_cases e : mv i p = n
  · have hp' : mv i n = p := by rw [← e]; exact (hm p hp).2
    rw [hp', e, List.getElem?_set]
    rw [if_pos rfl, if_pos (by rw [h.1, hl]; exact hp), List.getElem?_eq_getElem hn]
  · rw [List.getElem?_set, if_neg (fun e' => e (by rw [← e']; exact (hm n (by omega)).2))]
    exact h.2 p hp (by omega)
theorem put_all {i d : Nat} {lv l : List Int} (hd : d ≤ 4) (hi : i + 2 ≤ d) (hl : lv.length = 2 ^ d) (h : Put i lv l d lv.length) : l = flipL i lv := by
  apply List.ext_getElem?
  intro p
  by_cases hp : p < lv.length
  · have hm := mv_all d hd i hi p (by omega)
    rw [h.2 p (by omega) (by omega)]
    simp [flipL, hp, flv, List.getElem?_eq_getElem (show mv i p < lv.length by omega), List.getD_eq_getElem?_getD]
  · rw [List.getElem?_eq_none (by rw [h.1]; omega), List.getElem?_eq_none (by rw [flipL_length]; omega)]
theorem flipL_at {i d : Nat} {lv : List Int} (hd : d ≤ 4) (hi : i + 2 ≤ d) (hl : lv.length = 2 ^ d) (p : Nat) (hp : p < 2 ^ d) : (flipL i lv)[p]? = lv[mv i p]? := by
  have hm := mv_all d hd i hi p hp
  simp [flipL, hl, hp, flv, List.getElem?_eq_getElem (show mv i p < lv.length by omega), List.getD_eq_getElem?_getD]
theorem flipL_twice {i d : Nat} {lv : List Int} (hd : d ≤ 4) (hi : i + 2 ≤ d) (hl : lv.length = 2 ^ d) : flipL i (flipL i lv) = lv := by
  apply List.ext_getElem?
  intro p
  by_cases hp : p < 2 ^ d
  · have hm := mv_all d hd i hi p hp
    rw [flipL_at hd hi (by rw [flipL_length]; exact hl) p hp, flipL_at hd hi hl _ hm.1, hm.2]
  · rw [List.getElem?_eq_none (by rw [flipL_length, flipL_length]; omega), List.getElem?_eq_none (by omega)]
theorem swp_get {l : List (Int × Int)} {i : Nat} (h : i + 2 ≤ l.length) (j : Nat) : (swp l i)[j]? = l[if j = i then i + 1 else if j = i + 1 then i else j]? := by
  unfold swp
  rw [List.getElem?_set, List.getElem?_set]
  simp only [List.length_set]
  by_cases e1 : j = i
  · subst e1
    rw [if_neg (by omega), if_pos rfl, if_pos (by omega), if_pos rfl]
    simp [List.getD_eq_getElem?_getD, List.getElem?_eq_getElem (show j + 1 < l.length by omega)]
  · by_cases e2 : j = i + 1
    · subst e2
      rw [if_pos rfl, if_pos (by omega), if_neg (by omega), if_pos rfl]
      simp [List.getD_eq_getElem?_getD, List.getElem?_eq_getElem (show i < l.length by omega)]
    · rw [if_neg (by omega), if_neg (by omega), if_neg e1, if_neg e2]
theorem swp_twice {l : List (Int × Int)} {i : Nat} (h : i + 2 ≤ l.length) : swp (swp l i) i = l := by
  apply List.ext_getElem?
  intro j
  rw [swp_get (by rw [swp_length]; exact h), swp_get h]
  congr 1
  (repeat' split) <;> omega
theorem swp_all {l : List (Int × Int)} {i : Nat} (h : i + 2 ≤ l.length) (p : Int × Int → Bool) (ha : l.all p = true) : (swp l i).all p = true := by
  rw [List.all_eq_true] at ha ⊢
  intro s hs
  obtain ⟨j, hj, rfl⟩ := List.getElem_of_mem hs
  have hg := swp_get h j
  rw [List.getElem?_eq_getElem hj] at hg
  obtain ⟨hq, hg'⟩ := List.getElem?_eq_some_iff.1 hg.symm
  rw [← hg']
  exact ha _ (List.getElem_mem hq)
theorem flipL_aok {i d : Nat} {lv : List Int} (hd : d ≤ 4) (hi : i + 2 ≤ d) (hl : lv.length = 2 ^ d) (ha : aok lv = true) : aok (flipL i lv) = true := by
  refine Bo.aok_to fun p hp => ?_
  have hp' : p < 2 ^ d := by rw [flipL_length] at hp; omega
  have hg := flipL_at hd hi hl p hp'
  rw [List.getElem?_eq_getElem hp] at hg
  obtain ⟨hq, hg'⟩ := List.getElem?_eq_some_iff.1 hg.symm
  rw [← hg']
  exact Bo.aok_at ha _ hq
theorem flip_tok {t : T} {i : Int} (h : canFlip t i = true) : tok (flipped t i) = true := by
  obtain ⟨ht, h0, h1⟩ := canFlip_iff.1 h
  obtain ⟨⟨h4, hl⟩, hs, ha⟩ := tok_iff.1 ht
  rw [flipped_yes h, tok_iff]
  simp only [swp_length, flipL_length]
  exact ⟨⟨h4, hl⟩, swp_all (by omega) _ hs, flipL_aok h4 (by omega) hl ha⟩
theorem flip_can {t : T} {i : Int} (h : canFlip t i = true) : canFlip (flipped t i) i = true := by
  obtain ⟨ht, h0, h1⟩ := canFlip_iff.1 h
  refine canFlip_iff.2 ⟨flip_tok h, h0, ?_⟩
  rw [flipped_yes h]; simp only [swp_length]; exact h1
theorem flip_back {t : T} {i : Int} (h : canFlip t i = true) : flipped (flipped t i) i = t := by
  obtain ⟨ht, h0, h1⟩ := canFlip_iff.1 h
  obtain ⟨⟨h4, hl⟩, hs, ha⟩ := tok_iff.1 ht
  rw [flipped_yes (flip_can h), flipped_yes h]
  exact T.ext' (swp_twice (by omega)) (flipL_twice h4 (by omega) hl)
theorem lf_swap (y y' : Nat → Bool) (d i : Nat) (hd : d ≤ 4) (hi : i + 2 ≤ d) (h : ∀ j, y' j = y (if j = i then i + 1 else if j = i + 1 then i else j)) : lf y' d = mv i (lf y d) := by
  match d, i, hd, hi with
  | 2, 0, _, _ => simp only [lf, h]; simp only [reduceIte, Nat.reduceEqDiff, Nat.reduceAdd]; cases y 0 <;> cases y 1 <;> rfl
  | 3, 0, _, _ => simp only [lf, h]; simp only [reduceIte, Nat.reduceEqDiff, Nat.reduceAdd]; cases y 0 <;> cases y 1 <;> cases y 2 <;> rfl
  | 3, 1, _, _ => simp only [lf, h]; simp only [reduceIte, Nat.reduceEqDiff, Nat.reduceAdd]; cases y 0 <;> cases y 1 <;> cases y 2 <;> rfl
  | 4, 0, _, _ => simp only [lf, h]; simp only [reduceIte, Nat.reduceEqDiff, Nat.reduceAdd]; cases y 0 <;> cases y 1 <;> cases y 2 <;> cases y 3 <;> rfl
  | 4, 1, _, _ => simp only [lf, h]; simp only [reduceIte, Nat.reduceEqDiff, Nat.reduceAdd]; cases y 0 <;> cases y 1 <;> cases y 2 <;> cases y 3 <;> rfl
  | 4, 2, _, _ => simp only [lf, h]; simp only [reduceIte, Nat.reduceEqDiff, Nat.reduceAdd]; cases y 0 <;> cases y 1 <;> cases y 2 <;> cases y 3 <;> rfl
/-- Two questions asked in the other order are the same tree. -/
theorem flip_eval {t : T} {i : Int} (h : canFlip t i = true) (x : List Int) : eval (flipped t i) x = eval t x := by
  obtain ⟨ht, h0, h1⟩ := canFlip_iff.1 h
  obtain ⟨⟨h4, hl⟩, hs, ha⟩ := tok_iff.1 ht
  by_cases hx : x.length = 6
  · rw [eval_yes (askb_iff.2 ⟨flip_tok h, hx⟩), eval_yes (askb_iff.2 ⟨ht, hx⟩), flipped_yes h]
    simp only [swp_length]
    have hsw := lf_swap (yes t.sp x) (yes (swp t.sp i.toNat) x) t.sp.length i.toNat h4 (by omega) (fun j => by
      unfold yes
      simp only [List.getD_eq_getElem?_getD, swp_get (show i.toNat + 2 ≤ t.sp.length by omega) j])
    rw [hsw]
    have hm := mv_all _ h4 i.toNat (by omega) _ (lf_lt (yes t.sp x) t.sp.length)
    rw [List.getD_eq_getElem?_getD, flipL_at h4 (by omega) hl _ hm.1, hm.2, List.getD_eq_getElem?_getD]
  · rw [eval_no (askb_len hx), eval_no (askb_len hx)]
end Go.Proofs.Ytcadgeepknhmfaa.Tr
/-
  Trees as the laws and both texts hold them: lists of questions, a tree; contracts of the laws' own helpers (how great, a copy, a comparison, marks and whether they are held).
-/
namespace Go.Proofs.Ytcadgeepknhmfaa.Tm
open Go.RowKit
open Go.Proofs.Ytcadgeepknhmfaa.Li (ret_bool ret_int below_none)
open Go.Proofs.Ytcadgeepknhmfaa.Tb (sub sub_yes sub_no)

/-- The cells of questions. -/
def pv : List (Int × Int) → List Value
  | [] => []
  | p :: ps => .int .i64 p.1 :: .int .i64 p.2 :: pv ps
theorem pv_length (ps : List (Int × Int)) : (pv ps).length = ps.length * 2 := by
  induction ps with
  | nil => rfl
  | cons p ps ih => simp only [pv, List.length_cons, ih]; omega
theorem pv_get (ps : List (Int × Int)) (j : Nat) (h : j < ps.length) : (pv ps)[j * 2]? = some (.int .i64 ps[j].1) ∧ (pv ps)[j * 2 + 1]? = some (.int .i64 ps[j].2) := by
  induction ps generalizing j with
  | nil => simp at h
  | cons p ps ih =>
    cases j with
    | zero => exact ⟨rfl, rfl⟩
    | succ j =>
      have := ih j (by simpa using h)
      rw [show (j + 1) * 2 = j * 2 + 1 + 1 by omega]
      simpa [pv] using this
theorem pv_set (ps : List (Int × Int)) (j : Nat) (x y : Int) : ((pv ps).set (j * 2) (.int .i64 x)).set (j * 2 + 1) (.int .i64 y) = pv (ps.set j (x, y)) := by
  induction ps generalizing j with
  | nil => simp [pv]
  | cons p ps ih =>
    cases j with
    | zero => simp [pv]
    | succ j =>
      rw [show (j + 1) * 2 = j * 2 + 1 + 1 by omega]
      simp only [pv, List.set_cons_succ, ih]
theorem pv_append (ps qs : List (Int × Int)) : pv ps ++ pv qs = pv (ps ++ qs) := by
  induction ps with
  | nil => rfl
  | cons p ps ih => simp [pv, ih]
theorem pv_zero (n : Nat) : pv (List.replicate n (0, 0)) = (List.replicate n [Value.int .i64 0, Value.int .i64 0]).flatten := by
  induction n with
  | zero => rfl
  | succ n ih => simp [List.replicate_succ, pv, ih]

/-- The slice of address a reads as these questions. -/
def IsP (w : World) (a : Option Addr) (ps : List (Int × Int)) : Prop :=
  ps = [] ∨ ∃ b off, a = some ⟨b, off, none⟩ ∧ b < w.heap.size ∧ ∀ j (hj : j < ps.length), w.cell? ⟨b, off + j * 2, none⟩ = some (.int .i64 ps[j].1) ∧ w.cell? ⟨b, off + j * 2 + 1, none⟩ = some (.int .i64 ps[j].2)
theorem IsP.keptAt {w w1 : World} {a : Option Addr} {ps : List (Int × Int)} (h : IsP w a ps) (hs : w.heap.size ≤ w1.heap.size) (hk : ∀ x, a = some x → x.block < w.heap.size → w1.heap[x.block]? = w.heap[x.block]?) : IsP w1 a ps := by
  rcases h with h | ⟨b, off, rfl, hb, hc⟩
  · exact .inl h
  · refine .inr ⟨b, off, rfl, by omega, fun j hj => ⟨?_, ?_⟩⟩
    · rw [World.cell?_of_block (w := w) (a := ⟨b, off + j * 2, none⟩) (hk ⟨b, off, none⟩ rfl hb)]; exact (hc j hj).1
    · rw [World.cell?_of_block (w := w) (a := ⟨b, off + j * 2 + 1, none⟩) (hk ⟨b, off, none⟩ rfl hb)]; exact (hc j hj).2
theorem IsP.below {w w1 : World} {a : Option Addr} {ps : List (Int × Int)} (h : IsP w a ps) (hb : Below w.heap.size w w1) : IsP w1 a ps :=
  h.keptAt hb.size (fun _ _ hx => hb.block _ hx)
theorem IsP.drewN {w : World} {a : Option Addr} {ps : List (Int × Int)} (h : IsP w a ps) (n : Nat) : IsP (w.drewN n) a ps := h
/-- A slice of questions of the call's own. -/
def OwnP (w : World) (base : Nat) (v : Value) (ps : List (Int × Int)) : Prop := w.ownsRow base 46 2 v ps.length (pv ps)
theorem OwnP.isp {w : World} {base : Nat} {v : Value} {ps : List (Int × Int)} (h : OwnP w base v ps) : ∃ a cap, v = .slice a ps.length cap ∧ ps.length ≤ cap ∧ IsP w a ps := by
  have h' := h
  rcases h.2 with ⟨rfl, h0⟩ | ⟨g, cap, cur, rfl, hb, hh, hc, _⟩
  · obtain rfl := List.length_eq_zero_iff.1 h0
    exact ⟨none, 0, rfl, Nat.le_refl _, .inl rfl⟩
  · refine ⟨_, cap, rfl, hc, .inr ⟨g, 0, rfl, (Array.getElem?_eq_some_iff.1 hh).1, fun j hj => ?_⟩⟩
    have := pv_get ps j hj
    rw [Nat.zero_add]
    exact ⟨by rw [World.ownsRow.cellAt h' (j * 2) (by omega), this.1], by rw [World.ownsRow.cellAt h' (j * 2 + 1) (by omega), this.2]⟩
theorem OwnP.kept {w w1 : World} {base : Nat} {v : Value} {ps : List (Int × Int)} {row : Option Nat} (h : OwnP w base v ps) (hg : w.grownBy w1 row) (hne : v.ownBlock = none ∨ v.ownBlock ≠ row) : OwnP w1 base v ps := World.ownsRow.kept h hg hne
theorem OwnP.below {w w1 : World} {base : Nat} {v : Value} {ps : List (Int × Int)} (h : OwnP w base v ps) (hb : Below w.heap.size w w1) : OwnP w1 base v ps :=
  World.ownsRow.kept (row := none) h ⟨hb.os, hb.tape, hb.output, hb.size, fun k hk _ => hb.block k hk⟩ (by cases hv : v.ownBlock <;> simp)
theorem ownsRow_mono {w : World} {base base' s n : Nat} {t : TypeId} {v : Value} {xs : List Value} (h : w.ownsRow base t s v n xs) (hb : base' ≤ base) : w.ownsRow base' t s v n xs := by
  refine ⟨h.1, ?_⟩
  rcases h.2 with h | ⟨g, cap, cur, e, hb', r⟩
  · exact .inl h
  · exact .inr ⟨g, cap, cur, e, by omega, r⟩
theorem OwnP.mono {w : World} {base base' : Nat} {v : Value} {ps : List (Int × Int)} (h : OwnP w base v ps) (hb : base' ≤ base) : OwnP w base' v ps := ownsRow_mono h hb
theorem OwnP.ge {w : World} {base : Nat} {v : Value} {ps : List (Int × Int)} (h : OwnP w base v ps) : ∀ k, v.ownBlock = some k → base ≤ k ∧ k < w.heap.size := World.ownsRow.lt h
theorem OwnP.cell {w : World} {base g cap n : Nat} {ps : List (Int × Int)} (h : OwnP w base (.slice (some ⟨g, 0, none⟩) n cap) ps) (hn : ps.length = n) (j : Nat) (hj : j < ps.length) : w.cell? ⟨g, j * 2, none⟩ = some (.int .i64 ps[j].1) ∧ w.cell? ⟨g, j * 2 + 1, none⟩ = some (.int .i64 ps[j].2) := by
  subst hn
  have := pv_get ps j hj
  exact ⟨by rw [World.ownsRow.cellAt h (j * 2) (by omega), this.1], by rw [World.ownsRow.cellAt h (j * 2 + 1) (by omega), this.2]⟩
theorem OwnP.frozen {w : World} {base g cap n : Nat} {ps : List (Int × Int)} (h : OwnP w base (.slice (some ⟨g, 0, none⟩) n cap) ps) (hn : ps.length = n) (j : Nat) : w.frozen? ⟨g, j, none⟩ = false := by
  subst hn
  exact World.ownsRow.frozenAt h j
theorem OwnP.set {w : World} {base g cap n : Nat} {ps : List (Int × Int)} (h : OwnP w base (.slice (some ⟨g, 0, none⟩) n cap) ps) (hn : ps.length = n) (j : Nat) (x y : Int) :
    OwnP ((w.setCell ⟨g, j * 2, none⟩ (.int .i64 x)).setCell ⟨g, j * 2 + 1, none⟩ (.int .i64 y)) base (.slice (some ⟨g, 0, none⟩) n cap) (ps.set j (x, y)) := by
  subst hn
  have := (World.ownsRow.stored (World.ownsRow.stored h (j * 2) (.int .i64 x)).1 (j * 2 + 1) (.int .i64 y)).1
  rw [pv_set] at this
  unfold OwnP
  rwa [List.length_set]
theorem ownP_made {w : World} {base n : Nat} {v : Value} (h : w.ownsRow base 46 2 v n (madeCells (Value.agg #[.int .i64 0, .int .i64 0]).cells (n * 2)).toList) : OwnP w base v (List.replicate n (0, 0)) := by
  unfold OwnP
  have e : (madeCells (Value.agg #[.int .i64 0, .int .i64 0]).cells (n * 2)).toList = pv (List.replicate n (0, 0)) := by
    apply List.ext_getElem?
    intro p
    by_cases hp : p < n * 2
    · have hz : (madeCells (Value.agg #[.int .i64 0, .int .i64 0]).cells (n * 2)).toList[p]? = some (.int .i64 0) := by
        have h2 : p % 2 < 2 := Nat.mod_lt _ (by decide)
        simp [madeCells, hp, Value.cells]
        rcases Nat.mod_two_eq_zero_or_one p with e | e <;> simp [e]
      rw [hz]
      have hg := pv_get (List.replicate n (0, 0)) (p / 2) (by simp; omega)
      rcases Nat.mod_two_eq_zero_or_one p with e | e
      · have := hg.1; rw [show p / 2 * 2 = p by omega] at this; simpa using this.symm
      · have := hg.2; rw [show p / 2 * 2 + 1 = p by omega] at this; simpa using this.symm
    · rw [List.getElem?_eq_none (by have := h.1; omega), List.getElem?_eq_none (by rw [pv_length]; simp; omega)]
  rw [e] at h
  simpa using h
theorem info_spl : (Try.prog.info? 46).map (fun i => (i.zero, i.size, i.bytes)) = some (some (.agg #[.int .i64 0, .int .i64 0]), 2, 16) := by kernel_rfl
theorem results_cell {fn : Func} {p : Tmp} {ty : TypeId} (h : fn.results = #[.cell p ty]) (tmps : Array Value) (P : Program) (w : World) :
    (results fn tmps).run P w = ((asAddr (tmps.getD p undef)).run P w).andThen fun a w₁ => (loadVar ty a).run P w₁ := by
  simp only [results, h]
  simp [Sem.run_bind, Result.andThen]
/-- Of two lists of questions the first k are alike. -/
def LikeP {α : Type} (xs ys : List α) (k : Nat) : Prop := ∀ j, j < k → xs[j]? = ys[j]?
theorem likeP_set {α : Type} {xs ys : List α} {k : Nat} (h : LikeP ys xs k) (hk : k < xs.length) (hl : ys.length = xs.length) : LikeP (ys.set k xs[k]) xs (k + 1) := by
  intro j hj
  rw [List.getElem?_set]
  split
  · rename_i e
    subst e
    rw [if_pos (by omega), List.getElem?_eq_getElem hk]
  · exact h j (by omega)
theorem likeP_all {α : Type} {xs ys : List α} (h : LikeP ys xs xs.length) (hl : ys.length = xs.length) : ys = xs := by
  apply List.ext_getElem?
  intro j
  by_cases hj : j < xs.length
  · exact h j hj
  · rw [List.getElem?_eq_none (by omega), List.getElem?_eq_none (by omega)]
theorem likeP_step {α : Type} {xs ys : List α} {k : Nat} (h : LikeP xs ys k) (hx : k < xs.length) (hy : k < ys.length) (e : xs[k] = ys[k]) : LikeP xs ys (k + 1) := by
  intro j hj
  by_cases hjk : j = k
  · subst hjk; rw [List.getElem?_eq_getElem hx, List.getElem?_eq_getElem hy, e]
  · exact h j (by omega)
theorem below_drewN' (w : World) (n : Nat) : Below w.heap.size w (w.drewN n) := ⟨rfl, rfl, rfl, Nat.le_refl _, fun _ _ => rfl⟩

def eqp (xs ys : List (Int × Int)) : Bool := decide (xs = ys)
theorem eqp_self (xs : List (Int × Int)) : eqp xs xs = true := by simp [eqp]
theorem eqp_len {xs ys : List (Int × Int)} (h : ¬ xs.length = ys.length) : eqp xs ys = false := by unfold eqp; simp; intro e; exact h (by rw [e])
theorem eqp_all {xs ys : List (Int × Int)} (h : LikeP xs ys ys.length) (hl : xs.length = ys.length) : eqp xs ys = true := by unfold eqp; simp; exact likeP_all h hl
theorem eqp_no {xs ys : List (Int × Int)} {k : Nat} (hx : k < xs.length) (hy : k < ys.length) (h : ¬ xs[k] = ys[k]) : eqp xs ys = false := by
  unfold eqp; simp; intro e; subst e; exact h rfl
end Go.Proofs.Ytcadgeepknhmfaa.Tm
/-
  A tree as the laws hold it: a copy, a comparison, marks and whether they are held.
-/
namespace Go.Proofs.Ytcadgeepknhmfaa.Tm
open Go.RowKit
open Go.Proofs.Ytcadgeepknhmfaa.Li (ret_bool ret_int below_none)
open Go.Proofs.Ytcadgeepknhmfaa.Tb (sub sub_yes sub_no)

/-- A variable of two cells. -/
def Box2 (w : World) (b : Nat) (v0 v1 : Value) : Prop :=
  b < w.heap.size ∧ (w.cell? ⟨b, 0, none⟩ = some v0 ∧ w.cell? ⟨b, 1, none⟩ = some v1) ∧ w.frozen? ⟨b, 0, none⟩ = false ∧ w.frozen? ⟨b, 1, none⟩ = false
theorem Box2.keptAt {w w1 : World} {b : Nat} {v0 v1 : Value} (h : Box2 w b v0 v1) (hs : w.heap.size ≤ w1.heap.size) (hb : w1.heap[b]? = w.heap[b]?) : Box2 w1 b v0 v1 := by
  obtain ⟨hlt, ⟨c0, c1⟩, f0, f1⟩ := h
  refine ⟨by omega, ⟨?_, ?_⟩, ?_, ?_⟩
  · rw [World.cell?_of_block (w := w) (a := ⟨b, 0, none⟩) hb]; exact c0
  · rw [World.cell?_of_block (w := w) (a := ⟨b, 1, none⟩) hb]; exact c1
  · rw [World.frozen?_of_block (w := w) (a := ⟨b, 0, none⟩) hb]; exact f0
  · rw [World.frozen?_of_block (w := w) (a := ⟨b, 1, none⟩) hb]; exact f1
theorem Box2.below {w w1 : World} {b : Nat} {v0 v1 : Value} (h : Box2 w b v0 v1) (hB : Below w.heap.size w w1) : Box2 w1 b v0 v1 := h.keptAt hB.size (hB.block b h.1)
theorem Box2.setOther {w : World} {b g o : Nat} {v0 v1 v : Value} (h : Box2 w b v0 v1) (hne : ¬ b = g) : Box2 (w.setCell ⟨g, o, none⟩ v) b v0 v1 :=
  h.keptAt (by simp [World.setCell]) (Below.heap_setCell _ _ _ _ (fun e => hne (by simpa using e)))
theorem Box2.set0 {w : World} {b : Nat} {v0 v1 : Value} (h : Box2 w b v0 v1) (v : Value) : Box2 (w.setCell ⟨b, 0, none⟩ v) b v v1 := by
  obtain ⟨hlt, ⟨c0, c1⟩, f0, f1⟩ := h
  refine ⟨by simpa [World.setCell] using hlt, ⟨World.cell?_setCell_same _ _ _ c0, ?_⟩, ?_, ?_⟩
  · rw [World.cell?_setCell_other _ _ _ _ (by simp)]; exact c1
  all_goals (rw [World.frozen?_setCell]; assumption)
theorem Box2.set1 {w : World} {b : Nat} {v0 v1 : Value} (h : Box2 w b v0 v1) (v : Value) : Box2 (w.setCell ⟨b, 1, none⟩ v) b v0 v := by
  obtain ⟨hlt, ⟨c0, c1⟩, f0, f1⟩ := h
  refine ⟨by simpa [World.setCell] using hlt, ⟨?_, World.cell?_setCell_same _ _ _ c1⟩, ?_, ?_⟩
  · rw [World.cell?_setCell_other _ _ _ _ (by simp)]; exact c0
  all_goals (rw [World.frozen?_setCell]; assumption)
theorem box2_new (w : World) (v0 v1 : Value) (T : TypeId) : Box2 (w.alloc (.cells #[v0, v1] T)) w.heap.size v0 v1 :=
  ⟨by simp, ⟨by simp [World.cell?_alloc_new], by simp [World.cell?_alloc_new]⟩, by simp, by simp⟩
theorem Box2.alloc {w : World} {b : Nat} {v0 v1 : Value} (h : Box2 w b v0 v1) (o : Obj) : Box2 (w.alloc o) b v0 v1 := h.below ((Below.refl _ _).alloc (Nat.le_refl _) _)
theorem Box2.drewN {w : World} {b : Nat} {v0 v1 : Value} (h : Box2 w b v0 v1) (n : Nat) : Box2 (w.drewN n) b v0 v1 := h
theorem size_alloc (w : World) (o : Obj) : (w.alloc o).heap.size = w.heap.size + 1 := by simp
/-- One, two, three variables of two cells, one behind the other. -/
theorem boxes1 (w : World) (v0 v1 : Value) (T : TypeId) : ∃ W, w.alloc (.cells #[v0, v1] T) = W ∧ W.heap.size = w.heap.size + 1 ∧ Below w.heap.size w W ∧ Box2 W w.heap.size v0 v1 :=
  ⟨_, rfl, by simp, (Below.refl _ _).alloc (Nat.le_refl _) _, box2_new _ _ _ _⟩
theorem boxes2 (w : World) (v0 v1 x0 x1 : Value) (T U : TypeId) : ∃ W, (w.alloc (.cells #[v0, v1] T)).alloc (.cells #[x0, x1] U) = W ∧ W.heap.size = w.heap.size + 2 ∧ Below w.heap.size w W ∧ Box2 W w.heap.size v0 v1 ∧ Box2 W (w.heap.size + 1) x0 x1 := by
  refine ⟨_, rfl, by simp, ((Below.refl _ _).alloc (Nat.le_refl _) _).alloc (by simp) _, ?_, ?_⟩
  · exact (box2_new _ _ _ _).alloc _
  · have := box2_new (w.alloc (.cells #[v0, v1] T)) x0 x1 U
    rwa [size_alloc] at this
theorem boxes3 (w : World) (v0 v1 x0 x1 y0 y1 : Value) (T U V : TypeId) : ∃ W, ((w.alloc (.cells #[v0, v1] T)).alloc (.cells #[x0, x1] U)).alloc (.cells #[y0, y1] V) = W ∧ W.heap.size = w.heap.size + 3 ∧ Below w.heap.size w W ∧ Box2 W w.heap.size v0 v1 ∧ Box2 W (w.heap.size + 1) x0 x1 ∧ Box2 W (w.heap.size + 2) y0 y1 := by
  refine ⟨_, rfl, by simp, (((Below.refl _ _).alloc (Nat.le_refl _) _).alloc (by simp) _).alloc (by simp; omega) _, ?_, ?_, ?_⟩
  · exact ((box2_new _ _ _ _).alloc _).alloc _
  · have := (box2_new (w.alloc (.cells #[v0, v1] T)) x0 x1 U).alloc (.cells #[y0, y1] V)
    rwa [size_alloc] at this
  · have := box2_new ((w.alloc (.cells #[v0, v1] T)).alloc (.cells #[x0, x1] U)) y0 y1 V
    rwa [size_alloc, size_alloc] at this
theorem own_off {w w1 : World} {B b : Nat} {v : Value} {xs : List Int} (h : Li.Own w B v xs) (hg : w.grownBy w1 (some b)) (hb : b < B) : Li.Own w1 B v xs := by
  refine h.kept hg ?_
  cases e : v.ownBlock with
  | none => exact .inl rfl
  | some k => exact .inr (by have := (h.ge k e).1; simp; omega)
theorem ownP_off {w w1 : World} {B b : Nat} {v : Value} {xs : List (Int × Int)} (h : OwnP w B v xs) (hg : w.grownBy w1 (some b)) (hb : b < B) : OwnP w1 B v xs := by
  refine h.kept hg ?_
  cases e : v.ownBlock with
  | none => exact .inl rfl
  | some k => exact .inr (by have := (h.ge k e).1; simp; omega)
/-- Two slices of the call's own lie apart, both ways. -/
def Apt (u v : Value) : Prop := (v.ownBlock = none ∨ v.ownBlock ≠ u.ownBlock) ∧ (u.ownBlock = none ∨ u.ownBlock ≠ v.ownBlock)
theorem apt_of {u v : Value} (h : ∀ k, u.ownBlock = some k → v.ownBlock = some k → False) : Apt u v := by
  unfold Apt
  cases e : u.ownBlock with
  | none => exact ⟨by cases e' : v.ownBlock <;> simp, .inl rfl⟩
  | some k =>
    cases e' : v.ownBlock with
    | none => exact ⟨.inl rfl, by simp⟩
    | some k' => 
      have : ¬ k = k' := fun e2 => h k e (by rw [e', e2])
      exact ⟨.inr (by simp; omega), .inr (by simp; omega)⟩

/-- What two blocks alone have been written into. -/
structure Fr2 (w w1 : World) (r r' : Option Nat) : Prop where
  os : w1.os = w.os
  tape : w1.tape = w.tape
  output : w1.output = w.output
  size : w.heap.size ≤ w1.heap.size
  block : ∀ k, k < w.heap.size → ¬ some k = r → ¬ some k = r' → w1.heap[k]? = w.heap[k]?
theorem fr2_of {w w1 w2 w3 : World} {r r' : Option Nat} (h0 : Below w.heap.size w w1) (h : w1.grownBy w2 r) (h' : w2.grownBy w3 r') : Fr2 w w3 r r' :=
  ⟨h'.os.trans (h.os.trans h0.os), h'.tape.trans (h.tape.trans h0.tape), h'.output.trans (h.output.trans h0.output), Nat.le_trans h0.size (Nat.le_trans h.size h'.size),
   fun k hk hr hr' => (h'.block k (Nat.lt_of_lt_of_le hk (Nat.le_trans h0.size h.size)) hr').trans ((h.block k (Nat.lt_of_lt_of_le hk h0.size) hr).trans (h0.block k hk))⟩
theorem ownsRow_at {w w1 : World} {base : Nat} {e : TypeId} {size : Nat} {v : Value} {n : Nat} {xs : List Value} (h : w.ownsRow base e size v n xs) (hk : ∀ k, v.ownBlock = some k → w1.heap[k]? = w.heap[k]?) : w1.ownsRow base e size v n xs := by
  refine ⟨h.1, ?_⟩
  rcases h.2 with h | ⟨g, cap, cur, rfl, hb, hh, r⟩
  · exact .inl h
  · exact .inr ⟨g, cap, cur, rfl, hb, by rw [hk g rfl]; exact hh, r⟩
theorem kept2 {w w1 : World} {base s n : Nat} {t : TypeId} {v : Value} {xs : List Value} {r r' : Option Nat} (h : w.ownsRow base t s v n xs) (hg : Fr2 w w1 r r') (hne : v.ownBlock = none ∨ v.ownBlock ≠ r) (hne' : v.ownBlock = none ∨ v.ownBlock ≠ r') : w1.ownsRow base t s v n xs :=
  ownsRow_at h fun k e => hg.block k (World.ownsRow.lt h k e).2 (fun e' => by rcases hne with h1 | h1; (· rw [h1] at e; cases e); (· exact h1 (e.trans e'))) (fun e' => by rcases hne' with h1 | h1; (· rw [h1] at e; cases e); (· exact h1 (e.trans e')))
theorem Own.kept2 {w w1 : World} {base : Nat} {v : Value} {xs : List Int} {r r' : Option Nat} (h : Li.Own w base v xs) (hg : Fr2 w w1 r r') (hne : v.ownBlock = none ∨ v.ownBlock ≠ r) (hne' : v.ownBlock = none ∨ v.ownBlock ≠ r') : Li.Own w1 base v xs := Tm.kept2 h hg hne hne'
theorem OwnP.kept2 {w w1 : World} {base : Nat} {v : Value} {xs : List (Int × Int)} {r r' : Option Nat} (h : OwnP w base v xs) (hg : Fr2 w w1 r r') (hne : v.ownBlock = none ∨ v.ownBlock ≠ r) (hne' : v.ownBlock = none ∨ v.ownBlock ≠ r') : OwnP w1 base v xs := Tm.kept2 h hg hne hne'
theorem Fr2.bel {w w1 : World} {B : Nat} {u v : Value} (h : Fr2 w w1 u.ownBlock v.ownBlock) (hu : ∀ k, u.ownBlock = some k → B ≤ k) (hv : ∀ k, v.ownBlock = some k → B ≤ k) (hB : B ≤ w.heap.size) : Below B w w1 :=
  ⟨h.os, h.tape, h.output, h.size, fun k hk => h.block k (by omega) (fun e => by have := hu k e.symm; omega) (fun e => by have := hv k e.symm; omega)⟩

def pmarks (k : Int) (n : Nat) : List (Int × Int) := (List.range n).map fun (j : Nat) => (k + 2 * (j : Int), k + 2 * (j : Int) + 1)
theorem pmarks_length (k : Int) (n : Nat) : (pmarks k n).length = n := by simp [pmarks]
theorem pmarks_get (k : Int) (n j : Nat) (h : j < (pmarks k n).length) : (pmarks k n)[j] = (k + 2 * (j : Int), k + 2 * (j : Int) + 1) := by simp [pmarks]
/-- What v owns is not block b. -/
def NB (v : Value) (b : Nat) : Prop := ∀ k, v.ownBlock = some k → ¬ k = b
theorem nbB {w : World} {base s n b : Nat} {t : TypeId} {v : Value} {xs : List Value} (h : w.ownsRow base t s v n xs) (hb : b < base) : NB v b := fun k hk => by have := (World.ownsRow.lt h k hk).1; omega
theorem nbA {w : World} {base s n : Nat} {t : TypeId} {v : Value} {xs : List Value} (h : w.ownsRow base t s v n xs) : NB v w.heap.size := fun k hk => by have := (World.ownsRow.lt h k hk).2; omega
theorem isp_of {w w1 : World} {n m : Nat} {x : Addr} {ps : List (Int × Int)} (h : ∃ a cap, Value.slice (some x) n m = .slice a ps.length cap ∧ ps.length ≤ cap ∧ IsP w a ps) (hb : Below w.heap.size w w1) : IsP w1 (some x) ps := by
  obtain ⟨a, cap, e, _, hi⟩ := h
  cases e
  exact hi.below hb
theorem isl_of' {w w1 : World} {n m : Nat} {x : Addr} {ps : List Int} (h : ∃ a cap, Value.slice (some x) n m = .slice a ps.length cap ∧ Li.IsL w a ps) (hb : Below w.heap.size w w1) : Li.IsL w1 (some x) ps := by
  obtain ⟨a, cap, e, hi⟩ := h
  cases e
  exact hi.below hb
theorem below_drew (w : World) : Below w.heap.size w w.drew := ⟨rfl, rfl, rfl, Nat.le_refl _, fun _ _ => rfl⟩
end Go.Proofs.Ytcadgeepknhmfaa.Tm
/-
  Rows marked, and whether the marks are held; cells as the laws hold them.
-/
namespace Go.Proofs.Ytcadgeepknhmfaa.Sv
open Go.RowKit
open Go.Proofs.Ytcadgeepknhmfaa.Li (iv ret_bool ret_int below_none IsL marks marks_length marks_get)
open Go.Proofs.Ytcadgeepknhmfaa.Tb (sub sub_yes sub_no)
open Go.Proofs.Ytcadgeepknhmfaa.Se (R)
open Go.Proofs.Ytcadgeepknhmfaa.Tm (pv pv_length pv_get pv_set IsP LikeP likeP_set likeP_all pmarks pmarks_length pmarks_get)
set_option linter.unusedVariables false

theorem Wr.fr {w w1 : World} {B : Nat → Prop} {g off : Nat} {vs : List Value} (h : Wr w g off vs) (hf : Fr B w w1) (hn : ¬ B g) : Wr w1 g off vs := h.keptAt hf.size (hf.block g h.1 hn)
/-- Cells that may be written, in a block of B. -/
def OwC (w : World) (B : Nat → Prop) (v : Value) (ps : List (Int × Int)) : Prop := ∃ a cap, v = .slice a ps.length cap ∧ (ps = [] ∨ ∃ g off, a = some ⟨g, off, none⟩ ∧ B g ∧ Wr w g off (pv ps))
theorem wr_isp {w : World} {g off : Nat} {ps : List (Int × Int)} (h : Wr w g off (pv ps)) : IsP w (some ⟨g, off, none⟩) ps := by
  refine .inr ⟨g, off, rfl, h.1, fun j hj => ?_⟩
  have hp := pv_get ps j hj
  have hl := pv_length ps
  have h1 := (h.2 (j * 2) (by omega)).1
  have h2 := (h.2 (j * 2 + 1) (by omega)).1
  rw [List.getElem?_eq_getElem (by omega)] at hp
  rw [List.getElem?_eq_getElem (by omega)] at hp
  refine ⟨by rw [h1]; exact hp.1, ?_⟩
  rw [show off + j * 2 + 1 = off + (j * 2 + 1) by omega, h2]; exact hp.2
theorem OwC.isp {w : World} {B : Nat → Prop} {v : Value} {ps : List (Int × Int)} (h : OwC w B v ps) : ∃ a cap, v = .slice a ps.length cap ∧ IsP w a ps := by
  obtain ⟨a, cap, e, h⟩ := h
  refine ⟨a, cap, e, ?_⟩
  rcases h with h | ⟨g, off, rfl, _, hw⟩
  · exact .inl h
  · exact wr_isp hw
theorem OwC.fr {w w1 : World} {B B' : Nat → Prop} {v : Value} {xs : List (Int × Int)} (h : OwC w B v xs) (hf : Fr B' w w1) (hd : ∀ k, B k → ¬ B' k) : OwC w1 B v xs := by
  obtain ⟨a, cap, e, h⟩ := h
  refine ⟨a, cap, e, ?_⟩
  rcases h with h | ⟨g, off, ha, hb, hw⟩
  · exact .inl h
  · exact .inr ⟨g, off, ha, hb, hw.fr hf (hd g hb)⟩
theorem OwC.below {w w1 : World} {B : Nat → Prop} {v : Value} {xs : List (Int × Int)} (h : OwC w B v xs) (hb : Below w.heap.size w w1) : OwC w1 B v xs := h.fr (fr_below (B := fun _ => False) hb) (fun _ _ e => e)
theorem OwC.mono {w : World} {B B' : Nat → Prop} {v : Value} {xs : List (Int × Int)} (h : OwC w B v xs) (hb : ∀ k, B k → B' k) : OwC w B' v xs := by
  obtain ⟨a, cap, e, h⟩ := h
  refine ⟨a, cap, e, ?_⟩
  rcases h with h | ⟨g, off, ha, hg, hw⟩
  · exact .inl h
  · exact .inr ⟨g, off, ha, hb g hg, hw⟩
theorem wr_row {w : World} {base g n s cap : Nat} {t : TypeId} {vs : List Value} (h : w.ownsRow base t s (.slice (some ⟨g, 0, none⟩) n cap) n vs) : Wr w g 0 vs := by
  refine ⟨(World.ownsRow.lt h g rfl).2, fun j hj => ?_⟩
  rw [Nat.zero_add]
  exact ⟨by rw [World.ownsRow.cellAt h j (by have := h.1; omega), List.getElem?_eq_getElem hj], World.ownsRow.frozenAt h j⟩
theorem owc_row {w : World} {base : Nat} {t : TypeId} {v : Value} {ps : List (Int × Int)} (h : w.ownsRow base t 2 v ps.length (pv ps)) : OwC w (fun k => base ≤ k ∧ k < w.heap.size) v ps := by
  have h' := h
  rcases h.2 with ⟨rfl, h0⟩ | ⟨g, cap, cur, rfl, hb, hh, _⟩
  · obtain rfl := List.length_eq_zero_iff.1 h0
    exact ⟨none, 0, rfl, .inl rfl⟩
  · exact ⟨_, cap, rfl, .inr ⟨g, 0, rfl, ⟨hb, (World.ownsRow.lt h' g rfl).2⟩, wr_row h'⟩⟩
theorem info_cell : (Try.prog.info? 141).map (fun i => (i.zero, i.size, i.bytes)) = some (some (.agg #[.int .i64 0, .int .i64 0]), 2, 16) := by kernel_rfl
theorem pv_made (n : Nat) : (madeCells (Value.agg #[.int .i64 0, .int .i64 0]).cells (n * 2)).toList = pv (Se.none0 n) := by
  apply List.ext_getElem?
  intro p
  by_cases hp : p < n * 2
  · have hz : (madeCells (Value.agg #[.int .i64 0, .int .i64 0]).cells (n * 2)).toList[p]? = some (.int .i64 0) := by
      have h2 : p % 2 < 2 := Nat.mod_lt _ (by decide)
      simp [madeCells, hp, Value.cells]
      rcases Nat.mod_two_eq_zero_or_one p with e | e <;> simp [e]
    rw [hz]
    have hg := pv_get (Se.none0 n) (p / 2) (by rw [Se.none0_length]; omega)
    rcases Nat.mod_two_eq_zero_or_one p with e | e
    · have := hg.1; rw [show p / 2 * 2 = p by omega] at this; rw [this]; simp [Se.none0]
    · have := hg.2; rw [show p / 2 * 2 + 1 = p by omega] at this; rw [this]; simp [Se.none0]
  · rw [List.getElem?_eq_none (by simp [madeCells]; omega), List.getElem?_eq_none (by rw [pv_length, Se.none0_length]; omega)]
theorem Wr.set2 {w : World} {g off : Nat} {ps : List (Int × Int)} (h : Wr w g off (pv ps)) (j : Nat) (hj : j < ps.length) (x y : Int) :
    Wr ((w.setCell ⟨g, off + j * 2, none⟩ (.int .i64 x)).setCell ⟨g, off + j * 2 + 1, none⟩ (.int .i64 y)) g off (pv (ps.set j (x, y))) := by
  have hl := pv_length ps
  have h1 := h.set (j * 2) (by omega) (.int .i64 x)
  have h2 := h1.set (j * 2 + 1) (by rw [List.length_set]; omega) (.int .i64 y)
  rw [pv_set] at h2
  rwa [show off + (j * 2 + 1) = off + j * 2 + 1 by omega] at h2
theorem Wr.at2 {w : World} {g off : Nat} {ps : List (Int × Int)} (h : Wr w g off (pv ps)) (j : Nat) (hj : j < ps.length) :
    (w.cell? ⟨g, off + j * 2, none⟩ = some (.int .i64 ps[j].1) ∧ w.cell? ⟨g, off + j * 2 + 1, none⟩ = some (.int .i64 ps[j].2)) ∧ w.frozen? ⟨g, off + j * 2, none⟩ = false ∧ w.frozen? ⟨g, off + j * 2 + 1, none⟩ = false := by
  have hl := pv_length ps
  rcases wr_isp h with h0 | ⟨b, o, e, _, hc⟩
  · subst h0; simp at hj
  · cases e
    refine ⟨hc j hj, (h.2 (j * 2) (by omega)).2, ?_⟩
    have := (h.2 (j * 2 + 1) (by omega)).2
    rwa [show off + (j * 2 + 1) = off + j * 2 + 1 by omega] at this
end Go.Proofs.Ytcadgeepknhmfaa.Sv
/-
  RowsOk of the program and of the model.
-/
namespace Go.Proofs.Ytcadgeepknhmfaa.Sw7
open Go.RowKit
open Go.Proofs.Ytcadgeepknhmfaa.Li (ret_bool ret_int below_none IsL btw)
open Go.Proofs.Ytcadgeepknhmfaa.Se Go.Proofs.Ytcadgeepknhmfaa.Sv
set_option linter.unusedVariables false

theorem below_box {w : World} {o : Obj} {n : Nat} : Below w.heap.size w ((w.alloc o).drewN n) := ((Below.refl _ _).alloc (Nat.le_refl _) _).trans ((Tm.below_drewN' _ _).mono (by simp))
theorem below_box1 {w : World} {o : Obj} : Below w.heap.size w (w.alloc o) := (Below.refl _ _).alloc (Nat.le_refl _) _
/-- The cells of row k. -/
theorem rd_row {w : World} {a0 a1 a2 : Option Addr} {r : R} (h : Rd w a0 a1 a2 r) (h1 : r.g.length = r.x.length) (h2 : r.ids.length = r.x.length) (k : Nat) (hk : k < r.x.length) :
    ∃ xb xo gb go ib io a' c', a0 = some ⟨xb, xo, none⟩ ∧ a1 = some ⟨gb, go, none⟩ ∧ a2 = some ⟨ib, io, none⟩ ∧ (xb < w.heap.size ∧ gb < w.heap.size ∧ ib < w.heap.size) ∧
      w.cell? ⟨xb, xo + k, none⟩ = some (.slice a' (r.x.getD k []).length c') ∧ IsL w a' (r.x.getD k []) ∧ w.cell? ⟨gb, go + k, none⟩ = some (.int .i64 (r.g.getD k 0)) ∧ w.cell? ⟨ib, io + k, none⟩ = some (.int .i64 (r.ids.getD k 0)) := by
  obtain ⟨i0, i1, i2⟩ := h
  rcases i0 with e | ⟨xb, xo, rfl, hxb, hx⟩
  · rw [e] at hk; simp at hk
  rcases i1 with e | ⟨gb, go, rfl, hgb, hg⟩
  · rw [e] at h1; simp at h1; omega
  rcases i2 with e | ⟨ib, io, rfl, hib, hi⟩
  · rw [e] at h2; simp at h2; omega
  obtain ⟨a', c', hc, hl⟩ := hx k hk
  have e0 : r.x.getD k [] = r.x[k] := by simp [List.getD_eq_getElem?_getD, hk]
  have e1 : r.g.getD k 0 = r.g[k] := by simp [List.getD_eq_getElem?_getD, h1, hk]
  have e2 : r.ids.getD k 0 = r.ids[k] := by simp [List.getD_eq_getElem?_getD, h2, hk]
  rw [e0, e1, e2]
  exact ⟨xb, xo, gb, go, ib, io, a', c', rfl, rfl, rfl, ⟨hxb, hgb, hib⟩, hc, hl, hg k (by omega), hi k (by omega)⟩
theorem sbtwv (x lo hi : Int) (b : Bool) (h : btw x lo hi = b) (w : World) : Calls Try.prog 17 #[.int .i64 x, .int .i64 lo, .int .i64 hi] w fun e w' => e = .returned (.bool b) ∧ w' = w := by subst h; exact Li.between_any x lo hi w
abbrev shp (n m k : Nat) (lv l2 : Int) : Prop := n ≤ 40 ∧ m = n ∧ k = n ∧ (1 ≤ lv ∧ lv ≤ 16) ∧ (1 ≤ l2 ∧ l2 ≤ 1000)
def shpb (n m k : Nat) (lv l2 : Int) : Bool := decide (shp n m k lv l2)
theorem shpb_yes {n m k : Nat} {lv l2 : Int} (h : shp n m k lv l2) : shpb n m k lv l2 = true := decide_eq_true h
theorem shpb_no {n m k : Nat} {lv l2 : Int} (h : ¬ shp n m k lv l2) : shpb n m k lv l2 = false := decide_eq_false h
abbrev rwk (L : Nat) (G I lv : Int) : Prop := L = 6 ∧ (-2000000 ≤ G ∧ G ≤ 2000000) ∧ (0 ≤ I ∧ I < lv)
def rwkb (L : Nat) (G I lv : Int) : Bool := decide (rwk L G I lv)
theorem rwkb_yes {L : Nat} {G I lv : Int} (h : rwk L G I lv) : rwkb L G I lv = true := decide_eq_true h
theorem rwkb_no {L : Nat} {G I lv : Int} (h : ¬ rwk L G I lv) : rwkb L G I lv = false := decide_eq_false h
end Go.Proofs.Ytcadgeepknhmfaa.Sw7
