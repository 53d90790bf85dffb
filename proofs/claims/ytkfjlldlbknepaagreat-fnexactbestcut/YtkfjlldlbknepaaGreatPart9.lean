/-
  Contracts that the proof leans on, put together in the order in which they build.
-/
import Derived.Test.YtkfjlldlbknepaaGreatPart8
import Derived.Test.YtkfjlldlbknepaaGreatPart3
import Derived.ProofKit
import Derived.ChangeSame
import Derived.Deep.Strs
import Derived.Deep.Slices
import Derived.Test.YtkfjlldlbknepaaGreatRows
import Derived.Test.YtkfjlldlbknepaaGreatPart1
import Derived.Deep.AppendLies
import Derived.Deep.RegionLaw
import Derived.Deep.RegionWith
import Derived.Shelf.LaysM
import Derived.Shelf.Strconv.Clone
import Derived.Ground.Names2Prog
import Derived.Shelf.Slices.Clone
import Derived.Ground.SlgnProg
import Derived.Shelf.SlicesE.Clone
import Derived.Test.YtkfjlldlbknepaaGreatProg
/-
  A model that was read of a law's arguments, opened.
-/
namespace Go.Proofs.YtkfjlldlbknepaaGreat.Op
open Go.ChangeShapes Go.WideShapes Go.Deep Go.RowKit
open Go.Proofs.YtkfjlldlbknepaaGreat.Kt (Kv IsK)
open Go.Proofs.YtkfjlldlbknepaaGreat.Tm (IsT)
set_option maxRecDepth 10000
section
variable {H : Type} {enc : TypeId × Value → H} {W : World}
theorem tab_cells {n : Nat} {cs : List Value} {x : DataW H × List MemPlace} (h : DataW.trod enc Tryz.prog W 0 (fun _ => true) true n 76 cs = some x) :
    ∃ t : Kv, ∃ a c d e, cs = [.slice a t.ws.length c, .slice d t.vs.length e] ∧ Ls.IsS W a t.ws ∧ Li.IsL W d t.vs ∧ t.ws.length ≤ maxLen ∧ Tb.Fits t.ws ∧ t.vs.length ≤ maxLen := by
  obtain ⟨y0, y1, m, _, hl, h0, h1⟩ := trod_struct2 Tryz.underlying76 h
  rw [show Tryz.prog.cellsOf 76 = 2 by kernel_rfl] at hl
  rw [show Tryz.prog.cellsOf 74 = 1 by kernel_rfl] at h0
  rw [show Tryz.prog.cellsOf 48 = 1 by kernel_rfl] at h1
  match cs, hl with
  | [v0, v1], _ =>
    obtain ⟨a0, ps, c0, rfl, i0, l0, f0⟩ := strs_cell (by simpa using h0)
    obtain ⟨a1, xs, c1, rfl, i1, l1⟩ := ints_cell (by simpa using h1)
    exact ⟨⟨ps, xs⟩, _, _, _, _, rfl, i0, i1, l0, f0, l1⟩
theorem tabs_cell {n : Nat} {v : Value} {x : DataW H × List MemPlace} (h : DataW.trod enc Tryz.prog W 0 (fun _ => true) true n 24 [v] = some x) :
    ∃ a ts cap, v = .slice a (ts : List Kv).length cap ∧ IsK W a ts ∧ Kt.FitsK ts := by
  rcases open_slice Tryz.underlying24 h with ⟨hcs, _⟩ | ⟨x, l, c, m, n', D, Pl, hcs, _, hl, hm, hmm, _, hx⟩
  · obtain rfl : v = _ := List.singleton_inj.1 hcs
    exact ⟨none, [], 0, rfl, .inl rfl, ⟨by simp, fun j hj => by simp at hj⟩⟩
  · obtain rfl : v = _ := List.singleton_inj.1 hcs
    have hmc : m = c := by simpa using hmm
    subst hmc
    rw [show Tryz.prog.cellsOf 76 = 2 by kernel_rfl] at hx
    obtain ⟨R, hR⟩ := pick_any (α := Kv) ⟨[], []⟩ (m := m) (p := fun i t => ∃ a0 c0 a1 c1, W.cell? (x.add (i * 2)) = some (.slice a0 t.ws.length c0) ∧ W.cell? ((x.add (i * 2)).add 1) = some (.slice a1 t.vs.length c1) ∧ Ls.IsS W a0 t.ws ∧ Li.IsL W a1 t.vs ∧ t.ws.length ≤ maxLen ∧ Tb.Fits t.ws ∧ t.vs.length ≤ maxLen) (fun i hi => by
      obtain ⟨cs', h1, h2⟩ := hx i hi
      obtain ⟨t, a, c, a', c', rfl, hp, hx, hl0, hf0, hl1⟩ := tab_cells h2
      obtain ⟨_, _, hc⟩ := World.cells?_some h1
      have e0 := hc 0 (by omega)
      have e1 := hc 1 (by omega)
      refine ⟨t, a, c, a', c', ?_, ?_, hp, hx, hl0, hf0, hl1⟩
      · simpa [Addr.add] using e0
      · simpa using e1)
    unfold maxLen at hm
    refine ⟨some x, (List.range l).map R, m, by simp, ?_, ⟨by simp; omega, fun j hj => ?_⟩⟩
    · by_cases h0 : l = 0
      · subst h0; exact .inl rfl
      · obtain ⟨cb, off, spot⟩ := x
        obtain ⟨_, _, _, _, c0, _⟩ := hR 0 (by omega)
        have hs : spot = none := by simpa [Addr.add] using World.cell?_spot c0
        subst hs
        have hlt : cb < W.heap.size := World.block_lt_of_cell? W _ c0
        refine .inr ⟨cb, off, rfl, hlt, fun j hj => ?_⟩
        have hj' : j < l := by simpa using hj
        obtain ⟨a0, c0, a1, c1, e0, e1, i0, i1, _⟩ := hR j (by omega)
        simp only [List.getElem_map, List.getElem_range]
        refine ⟨a0, c0, a1, c1, ⟨?_, ?_⟩, i0, i1⟩
        · rwa [Go.WideShapes.add_plain] at e0
        · rwa [Go.WideShapes.add_plain, Go.WideShapes.add_plain] at e1
    · have hj' : j < l := by simpa using hj
      obtain ⟨_, _, _, _, _, _, _, _, hf0, hf1, hf2⟩ := hR j (by omega)
      unfold maxLen at hf0 hf2
      simp only [List.getElem_map, List.getElem_range]
      exact ⟨by omega, hf1, by omega⟩
theorem trod_five {P : Program} {w : World} {base : Nat} {spare : Nat → Bool} {held : Bool} {t : TypeId} {f0 f1 f2 f3 f4 : Field} {fuel : Nat} {cs : List Value} {x : DataW H × List MemPlace} (ht : P.underlying t = some (.struct #[f0, f1, f2, f3, f4])) (h : DataW.trod enc P w base spare held fuel t cs = some x) :
    ∃ y0 y1 y2 y3 y4 n, cs.length = P.cellsOf t ∧ DataW.trod enc P w base spare held n f0.type ((cs.drop f0.offset).take (P.cellsOf f0.type)) = some y0 ∧ DataW.trod enc P w base spare held n f1.type ((cs.drop f1.offset).take (P.cellsOf f1.type)) = some y1 ∧ DataW.trod enc P w base spare held n f2.type ((cs.drop f2.offset).take (P.cellsOf f2.type)) = some y2 ∧ DataW.trod enc P w base spare held n f3.type ((cs.drop f3.offset).take (P.cellsOf f3.type)) = some y3 ∧ DataW.trod enc P w base spare held n f4.type ((cs.drop f4.offset).take (P.cellsOf f4.type)) = some y4 := by
  obtain ⟨xs, n, _, rfl, hl, hlen, hf⟩ := DataW.trod_struct ht h
  match xs, hlen with
  | [y0, y1, y2, y3, y4], _ => exact ⟨y0, y1, y2, y3, y4, n, hl, by simpa using hf 0 f0 rfl, by simpa using hf 1 f1 rfl, by simpa using hf 2 f2 rfl, by simpa using hf 3 f3 rfl, by simpa using hf 4 f4 rfl⟩
theorem agg6 {cs : Array Value} (h : cs.size = 6) : ∃ a b c d e f, cs = #[a, b, c, d, e, f] := by
  obtain ⟨l⟩ := cs
  match l, h with
  | [a, b, c, d, e, f], _ => exact ⟨a, b, c, d, e, f, rfl⟩
theorem model_cells {n : Nat} {cs : List Value} {x : DataW H × List MemPlace} (h : DataW.trod enc Tryz.prog W 0 (fun _ => true) true n 27 cs = some x) :
    ∃ m : Md.M, ∃ ak ck ax ct, cs = [.int .i64 m.n, .int .i64 m.c, .int .i64 m.prior, .int .i64 m.base, .slice ak m.ks.length ck, .slice ax m.ts.length ct] ∧ Md.Rm W ak ax m ∧ Md.FitsM m := by
  obtain ⟨y0, y1, y2, y3, y4, m, hl, h0, h1, h2, h3, h4⟩ := trod_five Tryz.underlying27 h
  rw [show Tryz.prog.cellsOf 27 = 6 by kernel_rfl] at hl
  rw [show Tryz.prog.cellsOf 23 = 2 by kernel_rfl] at h0
  rw [show Tryz.prog.cellsOf 3 = 1 by kernel_rfl] at h1 h2
  rw [show Tryz.prog.cellsOf 24 = 1 by kernel_rfl] at h3
  rw [show Tryz.prog.cellsOf 25 = 1 by kernel_rfl] at h4
  match cs, hl with
  | [a0, a1, a2, a3, a4, a5], _ =>
    obtain ⟨i0, i1, e, _⟩ := schema_cells (by simpa using h0)
    simp at e
    obtain ⟨rfl, rfl⟩ := e
    obtain ⟨i2, rfl, _⟩ := int_cell (by simpa using h1)
    obtain ⟨i3, rfl, _⟩ := int_cell (by simpa using h2)
    obtain ⟨ak, ks, ck, rfl, hk, fk⟩ := tabs_cell (by simpa using h3)
    obtain ⟨ax, ts, ct, rfl, ht, ft⟩ := trees_cell (by simpa using h4)
    exact ⟨⟨i0, i1, i2, i3, ks, ts⟩, ak, ck, ax, ct, rfl, ⟨hk, ht⟩, fk, ft⟩
theorem model_open {base : Nat} {v : Value} {d : DataW H} {p : List MemPlace} (hv : Value.okWide Tryz.prog W .any base 27 v) (h : DataW.Trod enc Tryz.prog W 0 (fun _ => true) true 27 v d p) :
    ∃ m : Md.M, ∃ ak ck ax ct, v = .agg #[.int .i64 m.n, .int .i64 m.c, .int .i64 m.prior, .int .i64 m.base, .slice ak m.ks.length ck, .slice ax m.ts.length ct] ∧ Md.Rm W ak ax m ∧ Md.FitsM m := by
  obtain ⟨cs, rfl, hc⟩ := okWide_struct Tryz.underlying27 hv
  rw [show Tryz.prog.cellsOf 27 = 6 by kernel_rfl] at hc
  obtain ⟨u0, u1, u2, u3, u4, u5, rfl⟩ := agg6 hc
  obtain ⟨n, hn⟩ := h
  obtain ⟨m, ak, ck, ax, ct, e, hm, hf⟩ := model_cells hn
  simp [Value.cells] at e
  obtain ⟨rfl, rfl, rfl, rfl, rfl, rfl⟩ := e
  exact ⟨m, ak, ck, ax, ct, rfl, hm, hf⟩
end
end Go.Proofs.YtkfjlldlbknepaaGreat.Op
/-
  Words told by labels, by themselves: dictionaries, pairs, tallies of a word over places, the number that a tally gives.
-/
namespace Go.Proofs.YtkfjlldlbknepaaGreat.Wd

/-- A text by itself, for keys: two texts are alike just where their bytes are. -/
theorem ba_ext {a b : ByteArray} (h : a.data.toList = b.data.toList) : a = b := by
  obtain ⟨⟨l⟩⟩ := a; obtain ⟨⟨r⟩⟩ := b; simp at h; rw [h]

/-- The place of the first of xs that is s; how many there are, where none is. -/
def fst (s : ByteArray) : List ByteArray → Nat
  | [] => 0
  | x :: r => if x = s then 0 else fst s r + 1
theorem fst_le (s : ByteArray) : ∀ xs, fst s xs ≤ xs.length
  | [] => Nat.le_refl _
  | x :: r => by
    unfold fst
    split
    · omega
    · have := fst_le s r; simp; omega
theorem fst_lt {s : ByteArray} : ∀ {xs}, fst s xs < xs.length ↔ s ∈ xs
  | [] => by simp [fst]
  | x :: r => by
    unfold fst
    split
    · rename_i h; simp [h]
    · rename_i h
      have := fst_lt (s := s) (xs := r)
      simp only [List.length_cons, Nat.add_lt_add_iff_right, List.mem_cons]
      rw [this]
      constructor
      · exact .inr
      · rintro (rfl | h')
        · exact absurd rfl h
        · exact h'
theorem fst_at {s : ByteArray} : ∀ {xs : List ByteArray} (h : fst s xs < xs.length), xs[fst s xs] = s
  | [], h => by simp at h
  | x :: r, h => by
    by_cases e : x = s
    · have h0 : fst s (x :: r) = 0 := by simp [fst, e]
      simp only [h0, List.getElem_cons_zero]
      exact e
    · have h1 : fst s (x :: r) = fst s r + 1 := by simp [fst, e]
      simp only [h1, List.getElem_cons_succ]
      exact fst_at (by simp [h1] at h; exact h)
theorem fst_min {s : ByteArray} : ∀ {xs : List ByteArray} (j : Nat) (hj : j < xs.length), xs[j] = s → fst s xs ≤ j
  | [], j, h, _ => by simp at h
  | x :: r, j, h, e => by
    unfold fst
    split
    · omega
    · rename_i hx
      cases j with
      | zero => exact absurd e hx
      | succ j => have := fst_min (s := s) (xs := r) j (by simpa using h) (by simpa using e); omega
/-- IdOf: the place, or -1. -/
def idOf (xs : List ByteArray) (s : ByteArray) : Int := if fst s xs < xs.length then (fst s xs : Int) else -1
theorem idOf_found {xs : List ByteArray} {s : ByteArray} {k : Nat} (hk : k < xs.length) (h : xs[k] = s) (hn : ∀ j (hj : j < xs.length), j < k → ¬ xs[j] = s) : idOf xs s = k := by
  have h1 := fst_min k hk h
  have h2 : fst s xs < xs.length := by omega
  have h3 := fst_at h2
  have h4 : fst s xs = k := by
    apply Classical.byContradiction
    intro hne
    exact hn _ h2 (by omega) h3
  unfold idOf
  rw [if_pos h2, h4]
theorem idOf_none {xs : List ByteArray} {s : ByteArray} (hn : ∀ j (hj : j < xs.length), ¬ xs[j] = s) : idOf xs s = -1 := by
  unfold idOf
  rw [if_neg]
  intro h
  exact hn _ h (fst_at h)
theorem idOf_neg {xs : List ByteArray} {s : ByteArray} : idOf xs s < 0 ↔ ¬ s ∈ xs := by
  unfold idOf
  split
  · rename_i h; rw [fst_lt] at h; simp [h]
  · rename_i h; rw [fst_lt] at h; simp [h]
theorem idOf_lo (xs : List ByteArray) (s : ByteArray) : -1 ≤ idOf xs s := by unfold idOf; split <;> omega
theorem idOf_hi (xs : List ByteArray) (s : ByteArray) : idOf xs s < xs.length := by unfold idOf; split <;> omega

/-- The words that came, each once, in the order in which they came first. -/
def dict : List ByteArray → List ByteArray → List ByteArray
  | acc, [] => acc
  | acc, x :: r => if fst x acc < acc.length then dict acc r else dict (acc ++ [x]) r
theorem dict_old {acc r : List ByteArray} {x : ByteArray} (h : x ∈ acc) : dict acc (x :: r) = dict acc r := by simp only [dict]; rw [if_pos (fst_lt.2 h)]
theorem dict_new {acc r : List ByteArray} {x : ByteArray} (h : ¬ x ∈ acc) : dict acc (x :: r) = dict (acc ++ [x]) r := by simp only [dict]; rw [if_neg (fun h' => h (fst_lt.1 h'))]
def dictOf (ws : List ByteArray) : List ByteArray := dict [] ws
theorem dict_app : ∀ (a b acc : List ByteArray), dict acc (a ++ b) = dict (dict acc a) b
  | [], _, _ => rfl
  | y :: r, b, acc => by
    rw [List.cons_append]
    by_cases h : y ∈ acc
    · rw [dict_old h, dict_old h, dict_app r b acc]
    · rw [dict_new h, dict_new h, dict_app r b (acc ++ [y])]
theorem dict_ext : ∀ (ws acc : List ByteArray), ∃ t, dict acc ws = acc ++ t
  | [], acc => ⟨[], by simp [dict]⟩
  | y :: r, acc => by
    by_cases h : y ∈ acc
    · rw [dict_old h]; exact dict_ext r acc
    · rw [dict_new h]
      obtain ⟨t, ht⟩ := dict_ext r (acc ++ [y])
      exact ⟨y :: t, by rw [ht]; simp⟩
theorem dict_mem (s : ByteArray) : ∀ (ws acc : List ByteArray), s ∈ dict acc ws ↔ s ∈ acc ∨ s ∈ ws
  | [], acc => by simp [dict]
  | y :: r, acc => by
    by_cases h : y ∈ acc
    · rw [dict_old h, dict_mem s r acc, List.mem_cons]
      constructor
      · rintro (h' | h')
        · exact .inl h'
        · exact .inr (.inr h')
      · rintro (h' | rfl | h')
        · exact .inl h'
        · exact .inl h
        · exact .inr h'
    · rw [dict_new h, dict_mem s r (acc ++ [y])]
      simp [or_assoc]
theorem dictOf_mem {s : ByteArray} {ws : List ByteArray} : s ∈ dictOf ws ↔ s ∈ ws := by unfold dictOf; rw [dict_mem]; simp
theorem dict_nodup : ∀ (ws acc : List ByteArray), acc.Nodup → (dict acc ws).Nodup
  | [], acc, h => h
  | y :: r, acc, h => by
    by_cases hy : y ∈ acc
    · rw [dict_old hy]; exact dict_nodup r acc h
    · rw [dict_new hy]
      refine dict_nodup r _ ?_
      rw [List.nodup_append]
      exact ⟨h, by simp, fun a ha b hb e => by simp at hb; subst hb; subst e; exact hy ha⟩
theorem dictOf_nodup (ws : List ByteArray) : (dictOf ws).Nodup := dict_nodup ws [] List.nodup_nil
theorem dict_len : ∀ (ws acc : List ByteArray), (dict acc ws).length ≤ acc.length + ws.length
  | [], acc => by simp [dict]
  | y :: r, acc => by
    by_cases hy : y ∈ acc
    · rw [dict_old hy]; have := dict_len r acc; simp; omega
    · rw [dict_new hy]; have := dict_len r (acc ++ [y]); simp at this; simp; omega
theorem dictOf_len (ws : List ByteArray) : (dictOf ws).length ≤ ws.length := by have := dict_len ws []; simpa [dictOf] using this
theorem dict_id : ∀ (ws acc : List ByteArray), (acc ++ ws).Nodup → dict acc ws = acc ++ ws
  | [], acc, _ => by simp [dict]
  | y :: r, acc, h => by
    have hy : ¬ y ∈ acc := by
      intro hy
      rw [List.nodup_append] at h
      exact h.2.2 y hy y (by simp) rfl
    rw [dict_new hy, dict_id r (acc ++ [y]) (by simpa using h)]
    simp
theorem dictOf_id {ws : List ByteArray} (h : ws.Nodup) : dictOf ws = ws := by have := dict_id ws [] (by simpa using h); simpa [dictOf] using this
theorem dictOf_dictOf (ws : List ByteArray) : dictOf (dictOf ws) = dictOf ws := dictOf_id (dictOf_nodup ws)
/-- The first k words' dictionary, a word more. -/
theorem dictOf_old {ws : List ByteArray} {k : Nat} (hk : k < ws.length) (h : ws[k] ∈ ws.take k) : dictOf (ws.take (k + 1)) = dictOf (ws.take k) := by
  rw [List.take_succ_eq_append_getElem hk]
  show dict [] _ = _
  rw [dict_app, dict_old (show ws[k] ∈ dict [] (ws.take k) from dictOf_mem.2 h)]
  rfl
theorem dictOf_new {ws : List ByteArray} {k : Nat} (hk : k < ws.length) (h : ¬ ws[k] ∈ ws.take k) : dictOf (ws.take (k + 1)) = dictOf (ws.take k) ++ [ws[k]] := by
  rw [List.take_succ_eq_append_getElem hk]
  show dict [] _ = _
  rw [dict_app, dict_new (fun h' => h (dictOf_mem.1 (show ws[k] ∈ dictOf _ from h')))]
  rfl
/-- A word came first at k just where it is not among those ahead. -/
theorem fst_first {ws : List ByteArray} {k : Nat} (hk : k < ws.length) : fst ws[k] ws = k ↔ ¬ ws[k] ∈ ws.take k := by
  constructor
  · intro h hm
    obtain ⟨j, hj, e⟩ := List.getElem_of_mem hm
    have hj' : j < k := by simp at hj; omega
    have := fst_min j (by omega) (show ws[j] = ws[k] by rw [← e]; simp)
    omega
  · intro h
    have h1 := fst_min k hk rfl
    have h2 : fst ws[k] ws < ws.length := by omega
    have h3 := fst_at h2
    apply Classical.byContradiction
    intro hne
    apply h
    rw [List.mem_take_iff_getElem]
    exact ⟨fst ws[k] ws, by omega, h3⟩
/-- A word of the dictionary stands there no later than it came. -/
theorem dict_place {ws : List ByteArray} {k : Nat} (hk : k < ws.length) : fst ws[k] (dictOf ws) ≤ k := by
  have h1 : ws[k] ∈ dictOf (ws.take (k + 1)) := dictOf_mem.2 (by rw [List.take_succ_eq_append_getElem hk]; exact List.mem_append_right _ (List.mem_singleton.2 rfl))
  have e : dictOf ws = dict (dictOf (ws.take (k + 1))) (ws.drop (k + 1)) := by
    unfold dictOf; rw [← dict_app, List.take_append_drop]
  obtain ⟨t, ht⟩ := dict_ext (ws.drop (k + 1)) (dictOf (ws.take (k + 1)))
  rw [← e] at ht
  obtain ⟨j, hj, e⟩ := List.getElem_of_mem h1
  have hl := dictOf_len (ws.take (k + 1))
  have hjk : j ≤ k := by simp at hl; omega
  refine Nat.le_trans (fst_min j (by rw [ht]; simp; omega) ?_) hjk
  simp only [ht]
  rw [List.getElem_append_left hj, e]

/-- Where each word of a list came first; 0 of one that did not come. -/
def hasL (l : List ByteArray) (s : ByteArray) : Bool := decide (fst s l < l.length)
def valL (l : List ByteArray) (s : ByteArray) : Int := if fst s l < l.length then (fst s l : Int) else 0
theorem hasL_iff {l : List ByteArray} {s : ByteArray} : hasL l s = true ↔ s ∈ l := by unfold hasL; rw [decide_eq_true_iff]; exact fst_lt
theorem hasL_no {l : List ByteArray} {s : ByteArray} (h : ¬ s ∈ l) : hasL l s = false := by
  cases e : hasL l s
  · rfl
  · exact absurd (hasL_iff.1 e) h
theorem fst_snoc_in {s : ByteArray} (x : ByteArray) : ∀ {l : List ByteArray}, s ∈ l → fst s (l ++ [x]) = fst s l
  | [], h => by simp at h
  | y :: r, h => by
    simp only [List.cons_append, fst]
    by_cases e : y = s
    · rw [if_pos e, if_pos e]
    · rw [if_neg e, if_neg e, fst_snoc_in x (by rcases List.mem_cons.1 h with h | h; exact absurd h.symm e; exact h)]
theorem fst_snoc_out {s : ByteArray} (x : ByteArray) : ∀ {l : List ByteArray}, ¬ s ∈ l → fst s (l ++ [x]) = l.length + (if x = s then 0 else 1)
  | [], _ => by simp [fst]
  | y :: r, h => by
    simp only [List.cons_append, fst, List.length_cons]
    rw [if_neg (fun e => h (by simp [e])), fst_snoc_out x (fun h' => h (by simp [h']))]
    omega
theorem snoc_old {l : List ByteArray} {x : ByteArray} (h : x ∈ l) (s : ByteArray) : hasL (l ++ [x]) s = hasL l s ∧ valL (l ++ [x]) s = valL l s := by
  by_cases hs : s ∈ l
  · have h1 := fst_lt.2 hs
    have e := fst_snoc_in x hs
    refine ⟨by rw [hasL_iff.2 hs, hasL_iff.2 (List.mem_append_left _ hs)], ?_⟩
    unfold valL
    rw [e, if_pos h1, if_pos (by simp; omega)]
  · have hx : ¬ s ∈ l ++ [x] := by
      simp only [List.mem_append, List.mem_singleton, not_or]
      exact ⟨hs, fun e => hs (e ▸ h)⟩
    refine ⟨by rw [hasL_no hs, hasL_no hx], ?_⟩
    unfold valL
    rw [if_neg (fun h' => hs (fst_lt.1 h')), if_neg (fun h' => hx (fst_lt.1 h'))]
theorem snoc_new {l : List ByteArray} {x : ByteArray} (h : ¬ x ∈ l) (s : ByteArray) : hasL (l ++ [x]) s = (if s = x then true else hasL l s) ∧ valL (l ++ [x]) s = (if s = x then (l.length : Int) else valL l s) := by
  by_cases e : s = x
  · subst e
    rw [if_pos rfl, if_pos rfl]
    have hm : s ∈ l ++ [s] := by simp
    refine ⟨hasL_iff.2 hm, ?_⟩
    unfold valL
    rw [if_pos (fst_lt.2 hm), fst_snoc_out s h, if_pos rfl]
    simp
  · rw [if_neg e, if_neg e]
    by_cases hs : s ∈ l
    · have h1 := fst_lt.2 hs
      refine ⟨by rw [hasL_iff.2 hs, hasL_iff.2 (List.mem_append_left _ hs)], ?_⟩
      unfold valL
      rw [fst_snoc_in x hs, if_pos h1, if_pos (by simp; omega)]
    · have hx : ¬ s ∈ l ++ [x] := by
        simp only [List.mem_append, List.mem_singleton, not_or]
        exact ⟨hs, e⟩
      refine ⟨by rw [hasL_no hs, hasL_no hx], ?_⟩
      unfold valL
      rw [if_neg (fun h' => hs (fst_lt.1 h')), if_neg (fun h' => hx (fst_lt.1 h'))]
theorem valL_at {ws : List ByteArray} {k : Nat} (hk : k < ws.length) : valL ws ws[k] = (fst ws[k] ws : Int) := by
  unfold valL; rw [if_pos (fst_lt.2 (List.getElem_mem hk))]
/-- Two lists of words, pair by pair, a '+' between. -/
def pr (a b : ByteArray) : ByteArray := a ++ ⟨#[43]⟩ ++ b
def paired (xs ys : List ByteArray) : List ByteArray := if xs.length = ys.length then List.zipWith pr xs ys else []
theorem paired_le (xs ys : List ByteArray) : (paired xs ys).length ≤ xs.length := by
  unfold paired
  split
  · simp; omega
  · simp
/-- The word, the label at a place. -/
def wat (ws : List ByteArray) (j : Int) : ByteArray := ws.getD j.toNat ⟨#[]⟩
def lat (ls : List Int) (j : Int) : Int := ls.getD j.toNat 0
theorem wat_get {ws : List ByteArray} {j : Int} (h : j.toNat < ws.length) : wat ws j = ws[j.toNat] := by simp [wat, List.getD_eq_getElem?_getD, List.getElem?_eq_getElem h]
theorem lat_get {ls : List Int} {j : Int} (h : j.toNat < ls.length) : lat ls j = ls[j.toNat] := by simp [lat, List.getD_eq_getElem?_getD, List.getElem?_eq_getElem h]
/-- How many of the places have the word s. -/
def tr (ws : List ByteArray) (s : ByteArray) : List Int → Int
  | [] => 0
  | j :: r => (if wat ws j = s then 1 else 0) + tr ws s r
/-- Their labels together. -/
def tl (ws : List ByteArray) (ls : List Int) (s : ByteArray) : List Int → Int
  | [] => 0
  | j :: r => (if wat ws j = s then lat ls j else 0) + tl ws ls s r
theorem tr_snoc (ws : List ByteArray) (s : ByteArray) (x : Int) : ∀ js, tr ws s (js ++ [x]) = tr ws s js + (if wat ws x = s then 1 else 0)
  | [] => by simp [tr]
  | j :: r => by simp only [List.cons_append, tr]; rw [tr_snoc ws s x r]; omega
theorem tl_snoc (ws : List ByteArray) (ls : List Int) (s : ByteArray) (x : Int) : ∀ js, tl ws ls s (js ++ [x]) = tl ws ls s js + (if wat ws x = s then lat ls x else 0)
  | [] => by simp [tl]
  | j :: r => by simp only [List.cons_append, tl]; rw [tl_snoc ws ls s x r]; omega
theorem tr_bd (ws : List ByteArray) (s : ByteArray) : ∀ js, 0 ≤ tr ws s js ∧ tr ws s js ≤ (js.length : Int)
  | [] => by simp [tr]
  | j :: r => by have := tr_bd ws s r; simp only [tr, List.length_cons]; split <;> omega
/-- Every label of the list is of a size that labels have. -/
def Sml (ls : List Int) : Prop := ∀ j : Int, -1000000 ≤ lat ls j ∧ lat ls j ≤ 1000000
theorem tl_bd {ws : List ByteArray} {ls : List Int} (h : Sml ls) (s : ByteArray) : ∀ js, -1000000 * tr ws s js ≤ tl ws ls s js ∧ tl ws ls s js ≤ 1000000 * tr ws s js
  | [] => by simp [tr, tl]
  | j :: r => by have := tl_bd (ws := ws) h s r; have := h j; simp only [tr, tl]; split <;> omega
theorem sml_of {ls : List Int} (h : ∀ x ∈ ls, -1000000 ≤ x ∧ x ≤ 1000000) : Sml ls := by
  intro j
  unfold lat
  rw [List.getD_eq_getElem?_getD]
  cases e : ls[j.toNat]? with
  | none => simp
  | some x => exact h x (List.mem_of_getElem? e)
/-- The tally of a word over places. -/
def tal (ws : List ByteArray) (ls js : List Int) (s : ByteArray) : Int × Int := (tr ws s js, tl ws ls s js)
/-- The places 0 up to n - 1. -/
def idx (n : Nat) : List Int := (List.range n).map fun (i : Nat) => (i : Int)
theorem idx_succ (n : Nat) : idx (n + 1) = idx n ++ [(n : Int)] := by simp [idx, List.range_succ]
theorem idx_len (n : Nat) : (idx n).length = n := by simp [idx]
def ups (f : ByteArray → Int × Int) (s : ByteArray) (p : Int × Int) : ByteArray → Int × Int := fun t => if t = s then p else f t
theorem tal_step (ws : List ByteArray) (ls js : List Int) (k : Nat) (hk : k < js.length) (t : ByteArray) :
    ups (tal ws ls (js.take k)) (wat ws js[k]) ((tal ws ls (js.take k) (wat ws js[k])).1 + 1, (tal ws ls (js.take k) (wat ws js[k])).2 + lat ls js[k]) t = tal ws ls (js.take (k + 1)) t := by
  rw [List.take_succ_eq_append_getElem hk]
  unfold ups tal
  rw [tr_snoc, tl_snoc]
  by_cases h : t = wat ws js[k]
  · subst h; simp
  · rw [if_neg h, if_neg (fun e => h e.symm), if_neg (fun e => h e.symm)]; simp
theorem tal_back (ws : List ByteArray) (ls js : List Int) (k : Nat) (hk : k < js.length) (t : ByteArray) :
    ups (tal ws ls (js.take (k + 1))) (wat ws js[k]) ((tal ws ls (js.take (k + 1)) (wat ws js[k])).1 - 1, (tal ws ls (js.take (k + 1)) (wat ws js[k])).2 - lat ls js[k]) t = tal ws ls (js.take k) t := by
  rw [List.take_succ_eq_append_getElem hk]
  unfold ups tal
  simp only [tr_snoc, tl_snoc]
  by_cases h : t = wat ws js[k]
  · subst h; simp
  · rw [if_neg h, if_neg (fun e => h e.symm), if_neg (fun e => h e.symm)]; simp
theorem tal_one (ws : List ByteArray) (ls js : List Int) (hs : Sml ls) (k : Nat) (hk : k < js.length) : 1 ≤ (tal ws ls (js.take (k + 1)) (wat ws js[k])).1 ∧ ((tal ws ls (js.take (k + 1)) (wat ws js[k])).1 = 1 → (tal ws ls (js.take (k + 1)) (wat ws js[k])).2 = lat ls js[k]) := by
  rw [List.take_succ_eq_append_getElem hk]
  unfold tal
  rw [tr_snoc, tl_snoc, if_pos rfl, if_pos rfl]
  have h1 := tr_bd ws (wat ws js[k]) (js.take k)
  have h2 := tl_bd (ws := ws) hs (wat ws js[k]) (js.take k)
  exact ⟨by simp only; omega, fun h => by simp only at h ⊢; omega⟩
theorem tal_bd (ws : List ByteArray) (ls js : List Int) (hs : Sml ls) (s : ByteArray) (hl : js.length ≤ 60) : 0 ≤ (tal ws ls js s).1 ∧ (tal ws ls js s).1 ≤ 60 ∧ -60000000 ≤ (tal ws ls js s).2 ∧ (tal ws ls js s).2 ≤ 60000000 := by
  have h1 := tr_bd ws s js
  have h2 := tl_bd (ws := ws) hs s js
  unfold tal
  exact ⟨by simp only; omega, by simp only; omega, by simp only; omega, by simp only; omega⟩
end Go.Proofs.YtkfjlldlbknepaaGreat.Wd
/-
  append: a number, a text put behind a list of the call's own; a list that has just been made empty.
-/
namespace Go.Proofs.YtkfjlldlbknepaaGreat.Ap
open Go.RowKit
theorem one_cell (w : World) (T : TypeId) (x : Value) (_hx : x.oneCell' = true) : ∀ j u, ([x] : List Value)[j]? = some u → (w.alloc (.cells #[x] T)).cell? ((⟨w.heap.size, 0, none⟩ : Addr).add j) = some u := by
  intro j u hj
  match j, hj with
  | 0, hj => simp at hj; subst hj; simp [Addr.add]
theorem one_at {w : World} {T : TypeId} {x : Value} {H : Nat} (hx : x.oneCell' = true) (h : w.heap.size = H) : ∀ j u, ([x] : List Value)[j]? = some u → (w.alloc (.cells #[x] T)).cell? ((⟨H, 0, none⟩ : Addr).add j) = some u := by
  subst h; exact one_cell _ _ _ hx
theorem one_one (x : Value) (hx : x.oneCell' = true) : ∀ u ∈ ([x] : List Value), u.oneCell' = true := by
  intro u hu; simp at hu; subst hu; exact hx
theorem own_snoc {w : World} {base n : Nat} {v : Value} {l : List Int} {x : Int} (hn : l.length = n) (h : w.ownsRow base 3 1 v (n + 1) (Li.iv l ++ [.int .i64 x])) : Li.Own w base v (l ++ [x]) := by
  subst hn
  unfold Li.Own
  rw [← Li.iv_append, List.length_append]
  exact h
theorem own_empty (w : World) (base : Nat) (hb : base ≤ w.heap.size) : Li.Own (w.alloc (.cells #[] 3)) base (.slice (some ⟨w.heap.size, 0, none⟩) 0 0) [] :=
  World.ownsRow_made w #[] 0 hb (by unfold maxLen; omega) (by simp)
theorem sown_snoc {w : World} {base n : Nat} {v : Value} {l : List ByteArray} {x : ByteArray} (hn : l.length = n) (h : w.ownsRow base 9 1 v (n + 1) (Ls.sv l ++ [.string x])) : Ls.Own w base v (l ++ [x]) := by
  subst hn
  unfold Ls.Own
  rw [← Ls.sv_append, List.length_append]
  exact h
theorem sown_empty (w : World) (base : Nat) (hb : base ≤ w.heap.size) : Ls.Own (w.alloc (.cells #[] 9)) base (.slice (some ⟨w.heap.size, 0, none⟩) 0 0) [] :=
  World.ownsRow_made w #[] 0 hb (by unfold maxLen; omega) (by simp)
/-- What grows in the call's own blocks turns nothing below. -/
theorem below_app {w wr w1 : World} {B : Nat} {r : Option Nat} (hB : Below B w wr) (hs : B ≤ wr.heap.size) (hg : wr.grownBy w1 r) (hr : ∀ k, r = some k → B ≤ k) : Below B w w1 :=
  hB.trans ⟨hg.os, hg.tape, hg.output, hg.size, fun k hk => hg.block k (by omega) (fun e => by have := hr k e.symm; omega)⟩
theorem grown_undrew {w w1 : World} {r : Option Nat} (h : w.drew.grownBy w1 r) : w.grownBy w1 r := ⟨h.os, h.tape, h.output, h.size, h.block⟩
/-- What a list reads as, for an append of all of it. -/
theorem news_i {w : World} {ad : Addr} {xs : List Int} (h : Li.IsL w (some ad) xs) : ∀ j u, (Li.iv xs)[j]? = some u → w.cell? (ad.add j) = some u := by
  intro j u hj
  rcases h with rfl | ⟨b, off, e, _, hc⟩
  · simp [Li.iv] at hj
  · cases e
    have hlt : j < xs.length := by
      apply Classical.byContradiction
      intro hn
      rw [List.getElem?_eq_none (by rw [Li.iv_length]; omega)] at hj
      cases hj
    rw [Li.iv_get xs j hlt] at hj
    rw [Go.WideShapes.add_plain, hc j hlt, hj]
theorem news_s {w : World} {ad : Addr} {xs : List ByteArray} (h : Ls.IsS w (some ad) xs) : ∀ j u, (Ls.sv xs)[j]? = some u → w.cell? (ad.add j) = some u := by
  intro j u hj
  rcases h with rfl | ⟨b, off, e, _, hc⟩
  · simp [Ls.sv] at hj
  · cases e
    have hlt : j < xs.length := by
      apply Classical.byContradiction
      intro hn
      rw [List.getElem?_eq_none (by rw [Ls.sv_length]; omega)] at hj
      cases hj
    rw [Ls.sv_get xs j hlt] at hj
    rw [Go.WideShapes.add_plain, hc j hlt, hj]
theorem own_all {w : World} {base : Nat} {v : Value} {xs : List Int} (h : w.ownsRow base 3 1 v (0 + xs.length) ([] ++ Li.iv xs)) : Li.Own w base v xs := by
  unfold Li.Own
  simpa using h
theorem sown_all {w : World} {base : Nat} {v : Value} {xs : List ByteArray} (h : w.ownsRow base 9 1 v (0 + xs.length) ([] ++ Ls.sv xs)) : Ls.Own w base v xs := by
  unfold Ls.Own
  simpa using h
end Go.Proofs.YtkfjlldlbknepaaGreat.Ap
/-
  Dictionaries: contracts of IdOf, of the program and of its model, over one plain function.
-/
namespace Go.Proofs.YtkfjlldlbknepaaGreat.Di
open Go.RowKit
open Go.Proofs.YtkfjlldlbknepaaGreat.Wd
open Go.Proofs.YtkfjlldlbknepaaGreat.Li (ret_int below_none)
theorem ba_beq {s t : ByteArray} (h : s = t) : (s.toList == t.toList) = true := Ls.tl_eq h
set_option maxHeartbeats 1000000 in
theorem sid0 (w : World) (a : Option Addr) (cap : Nat) (xs : List ByteArray) (s : ByteArray) (hx : Ls.IsS w a xs) (hl : xs.length ≤ 1048576) :
    Calls Tryz.prog 104 #[.slice a xs.length cap, .string s] w fun e w' => e = .returned (.int .i64 (idOf xs s)) ∧ w' = w := by
  go_enter Tryz.func104, Tryz.ntmps104
  go_wp2
  go_loop [5] (fun i => ∃ k : Nat, k ≤ xs.length ∧ i = .int .i64 k ∧ ∀ j (hj : j < xs.length), j < k → ¬ xs[j] = s) (fun i => xs.length - (intOf i).toNat)
  case atStart => exact ⟨0, Nat.zero_le _, rfl, fun j hj h => by omega⟩
  case round =>
    obtain ⟨k, hk, rfl, hn⟩ := hrel
    have HN : Hid (∀ j (hj : j < xs.length), j < k → ¬ xs[j] = s) := hn
    clear hn
    by_cases hlt : k < xs.length
    · rcases hx with rfl | ⟨b, off, rfl, hb, hc⟩
      · simp at hlt
      have hcx := hc k hlt
      clear hc
      by_cases he : xs[k] = s
      · have HR : Hid (idOf xs s = k) := idOf_found hlt he HN.out
        have he' : (xs[k].toList == s.toList) = true := Ls.tl_eq he
        clear he
        obtain ⟨x, ex⟩ : ∃ x, xs[k] = x := ⟨_, rfl⟩
        rw [ex] at hcx he'
        clear ex
        go_wp2
        go_ret
        exact ⟨ret_int HR.out.symm, rfl⟩
      · have HR : Hid (∀ j (hj : j < xs.length), j < k + 1 → ¬ xs[j] = s) := fun j hj h => by
          by_cases e : j = k
          · subst e; exact he
          · exact HN.out j hj (by omega)
        have he' : (xs[k].toList == s.toList) = false := Ls.tl_ne he
        clear he
        obtain ⟨x, ex⟩ : ∃ x, xs[k] = x := ⟨_, rfl⟩
        rw [ex] at hcx he'
        clear ex
        go_wp2
        go_round
        case rel => exact ⟨k + 1, by omega, by go_num, HR.out⟩
        case measure => simp [intOf]; omega
    · have HR : Hid (idOf xs s = -1) := idOf_none (fun j hj => HN.out j hj (by omega))
      go_wp2
      go_ret
      exact ⟨ret_int HR.out.symm, rfl⟩
theorem sid (w : World) (a : Option Addr) (cap : Nat) (xs : List ByteArray) (s : ByteArray) (hx : Ls.IsS w a xs) (hl : xs.length ≤ 1048576) :
    Calls Tryz.prog 104 #[.slice a xs.length cap, .string s] w fun e w' => e = .returned (.int .i64 (idOf xs s)) ∧ Below w.heap.size w w' := by
  refine (sid0 w a cap xs s hx hl).mono ?_
  rintro e w' ⟨rfl, rfl⟩
  exact ⟨rfl, Below.refl _ _⟩
set_option maxHeartbeats 1000000 in
theorem lid0 (w : World) (a : Option Addr) (cap : Nat) (xs : List ByteArray) (s : ByteArray) (hx : Ls.IsS w a xs) (hl : xs.length ≤ 1048576) :
    Calls Tryz.prog 132 #[.slice a xs.length cap, .string s] w fun e w' => e = .returned (.int .i64 (idOf xs s)) ∧ w' = w := by
  go_enter Tryz.func132, Tryz.ntmps132
  go_wp2
  go_loop [8] (fun i => ∃ k : Nat, k ≤ xs.length ∧ i = .int .i64 k ∧ ∀ j (hj : j < xs.length), j < k → ¬ xs[j] = s) (fun i => xs.length - (intOf i).toNat)
  case atStart => exact ⟨0, Nat.zero_le _, rfl, fun j hj h => by omega⟩
  case round =>
    obtain ⟨k, hk, rfl, hn⟩ := hrel
    have HN : Hid (∀ j (hj : j < xs.length), j < k → ¬ xs[j] = s) := hn
    clear hn
    by_cases hlt : k < xs.length
    · rcases hx with rfl | ⟨b, off, rfl, hb, hc⟩
      · simp at hlt
      have hcx := hc k hlt
      clear hc
      by_cases he : xs[k] = s
      · have HR : Hid (idOf xs s = k) := idOf_found hlt he HN.out
        have he' : (s.toList == xs[k].toList) = true := Ls.tl_eq he.symm
        clear he
        obtain ⟨x, ex⟩ : ∃ x, xs[k] = x := ⟨_, rfl⟩
        rw [ex] at hcx he'
        clear ex
        go_wp2
        go_ret
        exact ⟨ret_int HR.out.symm, rfl⟩
      · have HR : Hid (∀ j (hj : j < xs.length), j < k + 1 → ¬ xs[j] = s) := fun j hj h => by
          by_cases e : j = k
          · subst e; exact he
          · exact HN.out j hj (by omega)
        have he' : (s.toList == xs[k].toList) = false := Ls.tl_ne (fun e => he e.symm)
        clear he
        obtain ⟨x, ex⟩ : ∃ x, xs[k] = x := ⟨_, rfl⟩
        rw [ex] at hcx he'
        clear ex
        go_wp2
        go_round
        case rel => exact ⟨k + 1, by omega, by go_num, HR.out⟩
        case measure => simp [intOf]; omega
    · have HR : Hid (idOf xs s = -1) := idOf_none (fun j hj => HN.out j hj (by omega))
      go_wp2
      go_ret
      exact ⟨ret_int HR.out.symm, rfl⟩
set_option maxHeartbeats 1000000 in
theorem iid0 (w : World) (a : Option Addr) (cap : Nat) (xs : List ByteArray) (s : ByteArray) (hx : Ls.IsS w a xs) (hl : xs.length ≤ 1048576) :
    Calls Tryz.prog 122 #[.slice a xs.length cap, .string s] w fun e w' => e = .returned (.int .i64 (idOf xs s)) ∧ w' = w := by
  go_enter Tryz.func122, Tryz.ntmps122
  go_wp2_with (go_at_call 132; refine (lid0 _ _ _ xs s hx hl).mono ?_; rintro e w' ⟨rfl, hw⟩; subst w')
  go_ret
  exact ⟨rfl, rfl⟩
set_option maxHeartbeats 1000000 in
theorem iid (w : World) (a : Option Addr) (cap : Nat) (xs : List ByteArray) (s : ByteArray) (hx : Ls.IsS w a xs) (hl : xs.length ≤ 1048576) :
    Calls Tryz.prog 122 #[.slice a xs.length cap, .string s] w fun e w' => e = .returned (.int .i64 (idOf xs s)) ∧ Below w.heap.size w w' := by
  go_enter Tryz.func122, Tryz.ntmps122
  go_wp2_with (go_at_call 132; refine (lid0 _ _ _ xs s hx hl).mono ?_; rintro e w' ⟨rfl, hw⟩; subst w')
  go_ret
  exact ⟨rfl, Below.refl _ _⟩
end Go.Proofs.YtkfjlldlbknepaaGreat.Di
/-
  DERIVED: THE SHELF's CONTRACTS AT THIS DUMP, IN PLAIN WORDS (tools/lay-plain.mjs out of 'TryzShelf.lean', which tools/lay-shelf.mjs wrote): THE SAME DECLARATIONS UNDER THE SAME NAMES: 'import', 'namespace', 'open', 'def', 'theorem' AND NOTHING ELSE: no command of the shelf's: FOR A HAND-IN. Each laying: the table of numbers ('.._ren') and one theorem, a field a fact of the dump's own or the kernel's comparison; each contract: ONE APPLICATION.
-/
namespace Go.Proofs
open Go.Shelf
def Tryz.laysM316_ren : Go.Shelf.Ren := ⟨fun | 316 => 124 | n => n, fun | 9 => 9 | 3 => 3 | 4 => 4 | 37 => 145 | 0 => 0 | 127 => 149 | 5 => 5 | n => n, fun | n => n⟩
theorem Tryz.laysM316 : Go.Proofs.LaysM.n316 Tryz.prog Tryz.laysM316_ren := {
  mixed := by kernel_rfl
  f316 := Tryz.func124.trans (congrArg some (by kernel_rfl))
  t0 := Tryz.underlying0
  a0 := Tryz.isAgg0
  z0 := Tryz.sizeOf0
  v0 := Tryz.zeroValue0
  t3 := Tryz.underlying3
  a3 := Tryz.isAgg3
  z3 := Tryz.sizeOf3
  v3 := Tryz.zeroValue3
  t4 := Tryz.underlying4
  a4 := Tryz.isAgg4
  z4 := Tryz.sizeOf4
  v4 := Tryz.zeroValue4
  t9 := Tryz.underlying9
  a9 := Tryz.isAgg9
  z9 := Tryz.sizeOf9
  v9 := Tryz.zeroValue9
  t37 := Tryz.underlying145
  a37 := Tryz.isAgg145
  z37 := Tryz.sizeOf145
  v37 := Tryz.zeroValue145
  t127 := Tryz.underlying149
  a127 := Tryz.isAgg149
  z127 := Tryz.sizeOf149
  v127 := Tryz.zeroValue149
  t5 := Tryz.underlying5
  a5 := Tryz.isAgg5
  z5 := Tryz.sizeOf5
  v5 := Tryz.zeroValue5
  i0 := by kernel_rfl
  i3 := by kernel_rfl
  i4 := by kernel_rfl
  i5 := by kernel_rfl
  i9 := by kernel_rfl
  i37 := by kernel_rfl
  i127 := by kernel_rfl }
open Go.RowKit in
/-- internal/stringslite.Clone (what strings.Clone calls): "Clone returns a fresh copy of s.": THE SAME BYTES. Of what was there nothing has turned (a new row is laid, and frozen, where s is not empty). (LAID: no walk: one application.) -/
theorem Tryz.stringslite_Clone (s : ByteArray) (w : World) (hlim : s.size ≤ 281474976710656) :
    Calls Tryz.prog 124 #[.string s] w fun e w' => e = .returned (.string s) ∧ Below w.heap.size w w' := Any.stringslite_Clone Tryz.laysM316 s w hlim
def Tryz.laysNm215_ren : Go.Shelf.Ren := ⟨fun | 15 => 100 | n => n, fun | 22 => 48 | 3 => 3 | 4 => 4 | n => n, fun | n => n⟩
theorem Tryz.laysNm215 : Go.Proofs.Lays2.n15 Tryz.prog Tryz.laysNm215_ren := {
  mixed := by kernel_rfl
  f15 := Tryz.func100.trans (congrArg some (by kernel_rfl))
  t3 := Tryz.underlying3
  a3 := Tryz.isAgg3
  z3 := Tryz.sizeOf3
  v3 := Tryz.zeroValue3
  t4 := Tryz.underlying4
  a4 := Tryz.isAgg4
  z4 := Tryz.sizeOf4
  v4 := Tryz.zeroValue4
  t22 := Tryz.underlying48
  a22 := Tryz.isAgg48
  z22 := Tryz.sizeOf48
  v22 := Tryz.zeroValue48
  i3 := by kernel_rfl }
open Go.RowKit Go.Lib in
/-- slices.Clone at []int: "Clone returns a copy of the slice. The elements are copied using assignment, so this is a shallow clone. The result may have additional unused capacity. The result preserves the nilness of s.": OF A SLICE THAT IS NOT nil IT RETURNS A SLICE THAT IS NOT nil, OF THE SAME ELEMENTS, IN MEMORY OF THE CALL's OWN: in the how-to's words (6f): 'w'.ownsRow B e 1 v' n cells': v' begins at the head of a row among the blocks from B on (B: the heap's size at the call), not frozen, whose first cells are the elements · 'Below B w w'': below B all is as it was. The capacity is whatever the run-time gives. 'zs': what the cells behind the slice's address hold; 'zs.take n': its elements. (LAID: no walk: one application.) -/
theorem Tryz.slices_Clone_int (b off n c : Nat) (zs : List Int) (w : World) (hz : n ≤ zs.length) (hbig : n * 8 ≤ 140737488355328) (hc : ∀ j, j < zs.length → w.cell? ⟨b, off + j, none⟩ = some (.int .i64 (zs.getD j 0))) :
    Calls Tryz.prog 100 #[.slice (some ⟨b, off, none⟩) n c] w fun e w' => ∃ v', e = .returned v' ∧ w'.ownsRow w.heap.size 3 1 v' n ((zs.take n).map (Value.int .i64)) ∧ v' ≠ .slice none 0 0 ∧ Below w.heap.size w w' := Any.slices_Clone_int Tryz.laysNm215 b off n c zs w hz hbig hc
open Go.RowKit Go.Lib in
/-- The same at nil: nil comes back; the world is as it was. (LAID: no walk: one application.) -/
theorem Tryz.slices_Clone_int_nil (n c : Nat) (w : World) :
    Calls Tryz.prog 100 #[.slice none n c] w fun e w' => e = .returned (.slice none 0 0) ∧ w' = w := Any.slices_Clone_int_nil Tryz.laysNm215 n c w
def Tryz.laysNm216_ren : Go.Shelf.Ren := ⟨fun | 16 => 120 | n => n, fun | 24 => 74 | 9 => 9 | 4 => 4 | n => n, fun | n => n⟩
theorem Tryz.laysNm216 : Go.Proofs.Lays2.n16 Tryz.prog Tryz.laysNm216_ren := {
  mixed := by kernel_rfl
  f16 := Tryz.func120.trans (congrArg some (by kernel_rfl))
  t4 := Tryz.underlying4
  a4 := Tryz.isAgg4
  z4 := Tryz.sizeOf4
  v4 := Tryz.zeroValue4
  t9 := Tryz.underlying9
  a9 := Tryz.isAgg9
  z9 := Tryz.sizeOf9
  v9 := Tryz.zeroValue9
  t24 := Tryz.underlying74
  a24 := Tryz.isAgg74
  z24 := Tryz.sizeOf74
  v24 := Tryz.zeroValue74
  i9 := by kernel_rfl }
open Go.RowKit Go.Lib in
/-- slices.Clone at []string: "Clone returns a copy of the slice. The elements are copied using assignment, so this is a shallow clone. The result may have additional unused capacity. The result preserves the nilness of s.": OF A SLICE THAT IS NOT nil IT RETURNS A SLICE THAT IS NOT nil, OF THE SAME ELEMENTS, IN MEMORY OF THE CALL's OWN: in the how-to's words (6f): 'w'.ownsRow B e 1 v' n cells': v' begins at the head of a row among the blocks from B on (B: the heap's size at the call), not frozen, whose first cells are the elements · 'Below B w w'': below B all is as it was. The capacity is whatever the run-time gives. 'zs': what the cells behind the slice's address hold; 'zs.take n': its elements. (LAID: no walk: one application.) -/
theorem Tryz.slices_Clone_string (b off n c : Nat) (zs : List ByteArray) (w : World) (hz : n ≤ zs.length) (hbig : n * 16 ≤ 140737488355328) (hc : ∀ j, j < zs.length → w.cell? ⟨b, off + j, none⟩ = some (.string (zs.getD j ByteArray.empty))) :
    Calls Tryz.prog 120 #[.slice (some ⟨b, off, none⟩) n c] w fun e w' => ∃ v', e = .returned v' ∧ w'.ownsRow w.heap.size 9 1 v' n ((zs.take n).map (Value.string)) ∧ v' ≠ .slice none 0 0 ∧ Below w.heap.size w w' := Any.slices_Clone_string Tryz.laysNm216 b off n c zs w hz hbig hc
open Go.RowKit Go.Lib in
/-- The same at nil: nil comes back; the world is as it was. (LAID: no walk: one application.) -/
theorem Tryz.slices_Clone_string_nil (n c : Nat) (w : World) :
    Calls Tryz.prog 120 #[.slice none n c] w fun e w' => e = .returned (.slice none 0 0) ∧ w' = w := Any.slices_Clone_string_nil Tryz.laysNm216 n c w
open Go.RowKit Go.Lib in
/-- The same at a slice of length 0 that is not nil, WHATEVER ITS ADDRESS (no cell is asked for): a slice that is not nil and owns nothing comes back. (LAID: no walk: one application.) -/
theorem Tryz.slices_Clone_int_zero (a : Addr) (c : Nat) (w : World) :
    Calls Tryz.prog 100 #[.slice (some a) 0 c] w fun e w' => ∃ v', e = .returned v' ∧ w'.ownsRow w.heap.size 3 1 v' 0 [] ∧ v' ≠ .slice none 0 0 ∧ Below w.heap.size w w' := Any.slices_Clone_int_zero Tryz.laysNm215 a c w
open Go.RowKit Go.Lib in
/-- The same at a slice of length 0 that is not nil, WHATEVER ITS ADDRESS (no cell is asked for): a slice that is not nil and owns nothing comes back. (LAID: no walk: one application.) -/
theorem Tryz.slices_Clone_string_zero (a : Addr) (c : Nat) (w : World) :
    Calls Tryz.prog 120 #[.slice (some a) 0 c] w fun e w' => ∃ v', e = .returned v' ∧ w'.ownsRow w.heap.size 9 1 v' 0 [] ∧ v' ≠ .slice none 0 0 ∧ Below w.heap.size w w' := Any.slices_Clone_string_zero Tryz.laysNm216 a c w
def Tryz.laysSlE041_f100_ren : Go.Shelf.Ren := ⟨fun | 41 => 100 | n => n, fun | 22 => 48 | 23 => 3 | 4 => 4 | n => n, fun | n => n⟩
theorem Tryz.laysSlE041_f100 : Go.Proofs.SlLaysE0.n41 Tryz.prog Tryz.laysSlE041_f100_ren := {
  mixed := by kernel_rfl
  f41 := ⟨Tryz.f100.name, by decide, Tryz.func100.trans (congrArg some (by kernel_rfl))⟩
  t4 := Tryz.underlying4
  a4 := Tryz.isAgg4
  z4 := Tryz.sizeOf4
  v4 := Tryz.zeroValue4
  t22 := Tryz.underlying48
  a22 := Tryz.isAgg48
  z22 := Tryz.sizeOf48
  v22 := Tryz.zeroValue48 }
open Go.RowKit Go.Lib in
/-- slices.Clone: "Clone returns a copy of the slice. The elements are copied using assignment, so this is a shallow clone. The result may have additional unused capacity. The result preserves the nilness of s.": OF A SLICE THAT IS NOT nil IT RETURNS A SLICE THAT IS NOT nil, OF THE SAME CELLS, IN MEMORY OF THE CALL's OWN ('ownsRow': the how-to's 6f); below the heap's size at the call all is as it was. (LAID AT THE INSTANCE 'slices.Clone[[]int,int]': no walk: one application.) -/
theorem Tryz.slices_Clone_f100 (i0 : TypeInfo) (z : Value) (size bytes : Nat) (hi : Tryz.prog.info? 3 = some i0) (hz0 : i0.zero = some z) (hz1 : i0.size = size) (hz2 : i0.bytes = bytes) (hzs : z.cells.size = size) (hsz : 0 < size) (z23 : ∀ w, (Go.sizeOf 3).run Tryz.prog w = .ok size w) (b off n c : Nat) (news : List Value) (w : World) (hl : news.length = n * size) (hn : n ≤ maxLen) (hbig : n * bytes ≤ 140737488355328) (hc : ∀ j u, news[j]? = some u → w.cell? ⟨b, off + j, none⟩ = some u) (h1 : ∀ u ∈ news, u.oneCell' = true) :
    Calls Tryz.prog 100 #[.slice (some ⟨b, off, none⟩) n c] w fun e w' => ∃ v', e = .returned v' ∧ w'.ownsRow w.heap.size 3 size v' n news ∧ v' ≠ .slice none 0 0 ∧ Below w.heap.size w w' := AnyE.slices_Clone Tryz.laysSlE041_f100 i0 z size bytes hi hz0 hz1 hz2 hzs hsz z23 b off n c news w hl hn hbig hc h1
def Tryz.laysSlE041_f120_ren : Go.Shelf.Ren := ⟨fun | 41 => 120 | n => n, fun | 22 => 74 | 23 => 9 | 4 => 4 | n => n, fun | n => n⟩
theorem Tryz.laysSlE041_f120 : Go.Proofs.SlLaysE0.n41 Tryz.prog Tryz.laysSlE041_f120_ren := {
  mixed := by kernel_rfl
  f41 := ⟨Tryz.f120.name, by decide, Tryz.func120.trans (congrArg some (by kernel_rfl))⟩
  t4 := Tryz.underlying4
  a4 := Tryz.isAgg4
  z4 := Tryz.sizeOf4
  v4 := Tryz.zeroValue4
  t22 := Tryz.underlying74
  a22 := Tryz.isAgg74
  z22 := Tryz.sizeOf74
  v22 := Tryz.zeroValue74 }
open Go.RowKit Go.Lib in
/-- slices.Clone: "Clone returns a copy of the slice. The elements are copied using assignment, so this is a shallow clone. The result may have additional unused capacity. The result preserves the nilness of s.": OF A SLICE THAT IS NOT nil IT RETURNS A SLICE THAT IS NOT nil, OF THE SAME CELLS, IN MEMORY OF THE CALL's OWN ('ownsRow': the how-to's 6f); below the heap's size at the call all is as it was. (LAID AT THE INSTANCE 'slices.Clone[[]string,string]': no walk: one application.) -/
theorem Tryz.slices_Clone_f120 (i0 : TypeInfo) (z : Value) (size bytes : Nat) (hi : Tryz.prog.info? 9 = some i0) (hz0 : i0.zero = some z) (hz1 : i0.size = size) (hz2 : i0.bytes = bytes) (hzs : z.cells.size = size) (hsz : 0 < size) (z23 : ∀ w, (Go.sizeOf 9).run Tryz.prog w = .ok size w) (b off n c : Nat) (news : List Value) (w : World) (hl : news.length = n * size) (hn : n ≤ maxLen) (hbig : n * bytes ≤ 140737488355328) (hc : ∀ j u, news[j]? = some u → w.cell? ⟨b, off + j, none⟩ = some u) (h1 : ∀ u ∈ news, u.oneCell' = true) :
    Calls Tryz.prog 120 #[.slice (some ⟨b, off, none⟩) n c] w fun e w' => ∃ v', e = .returned v' ∧ w'.ownsRow w.heap.size 9 size v' n news ∧ v' ≠ .slice none 0 0 ∧ Below w.heap.size w w' := AnyE.slices_Clone Tryz.laysSlE041_f120 i0 z size bytes hi hz0 hz1 hz2 hzs hsz z23 b off n c news w hl hn hbig hc h1
open Go.RowKit Go.Lib in
/-- The same at nil: nil comes back; the world is as it was; nothing is asked of the element's type. (LAID AT THE INSTANCE 'slices.Clone[[]int,int]': no walk: one application.) -/
theorem Tryz.slices_Clone_nil_f100 (n c : Nat) (w : World) :
    Calls Tryz.prog 100 #[.slice none n c] w fun e w' => e = .returned (.slice none 0 0) ∧ w' = w := AnyE.slices_Clone_nil Tryz.laysSlE041_f100 n c w
open Go.RowKit Go.Lib in
/-- The same at nil: nil comes back; the world is as it was; nothing is asked of the element's type. (LAID AT THE INSTANCE 'slices.Clone[[]string,string]': no walk: one application.) -/
theorem Tryz.slices_Clone_nil_f120 (n c : Nat) (w : World) :
    Calls Tryz.prog 120 #[.slice none n c] w fun e w' => e = .returned (.slice none 0 0) ∧ w' = w := AnyE.slices_Clone_nil Tryz.laysSlE041_f120 n c w
end Go.Proofs
