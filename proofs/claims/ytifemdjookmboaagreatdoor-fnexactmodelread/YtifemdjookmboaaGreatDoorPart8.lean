/-
  Contracts that the proof leans on, put together in the order in which they build.
-/
import Derived.Test.YtifemdjookmboaaGreatDoorRows
import Derived.Test.YtifemdjookmboaaGreatDoorPart3
import Derived.Deep.AppendLies
import Derived.Deep.RegionLaw
import Derived.Deep.RegionWith
import Derived.Test.YtifemdjookmboaaGreatDoorPart1
import Derived.Maps.OwnSet
import Derived.Test.YtifemdjookmboaaGreatDoorPart4
import Derived.Deep.DeepMust
/-
  Words told by labels, by themselves: dictionaries, pairs, tallies of a word over places, the number that a tally gives.
-/
namespace Go.Proofs.YtifemdjookmboaaGreatDoor.Wd

/-- A text by itself, for keys: two texts are alike just where their bytes are. -/
theorem ba_ext {a b : ByteArray} (h : a.data.toList = b.data.toList) : a = b := by
  obtain ⟨⟨l⟩⟩ := a; obtain ⟨⟨r⟩⟩ := b; simp at h; rw [h]

/-- The place of the first of xs that is s; how many there are, where none is. -/
def fst (s : ByteArray) : List ByteArray → Nat
  | [] => 0
  | x :: r => if x = s then 0 else fst s r + 1
theorem fst_le (s : ByteArray) : ∀ xs, fst s xs ≤ xs.length
  | [] => Nat.le_refl _
  | x :: r => by
    unfold fst
    split
    · omega
    · have := fst_le s r; simp; omega
theorem fst_lt {s : ByteArray} : ∀ {xs}, fst s xs < xs.length ↔ s ∈ xs
  | [] => by simp [fst]
  | x :: r => by
    unfold fst
    split
    · rename_i h; simp [h]
    · rename_i h
      have := fst_lt (s := s) (xs := r)
      simp only [List.length_cons, Nat.add_lt_add_iff_right, List.mem_cons]
      rw [this]
      constructor
      · exact .inr
      · rintro (rfl | h')
        · exact absurd rfl h
        · exact h'
theorem fst_at {s : ByteArray} : ∀ {xs : List ByteArray} (h : fst s xs < xs.length), xs[fst s xs] = s
  | [], h => by simp at h
  | x :: r, h => by
    by_cases e : x = s
    · have h0 : fst s (x :: r) = 0 := by simp [fst, e]
      simp only [h0, List.getElem_cons_zero]
      exact e
    · have h1 : fst s (x :: r) = fst s r + 1 := by simp [fst, e]
      simp only [h1, List.getElem_cons_succ]
      exact fst_at (by simp [h1] at h; exact h)
theorem fst_min {s : ByteArray} : ∀ {xs : List ByteArray} (j : Nat) (hj : j < xs.length), xs[j] = s → fst s xs ≤ j
  | [], j, h, _ => by simp at h
  | x :: r, j, h, e => by
    unfold fst
    split
    · omega
    · rename_i hx
      cases j with
      | zero => exact absurd e hx
      | succ j => have := fst_min (s := s) (xs := r) j (by simpa using h) (by simpa using e); omega
/-- IdOf: the place, or -1. -/
def idOf (xs : List ByteArray) (s : ByteArray) : Int := if fst s xs < xs.length then (fst s xs : Int) else -1
theorem idOf_found {xs : List ByteArray} {s : ByteArray} {k : Nat} (hk : k < xs.length) (h : xs[k] = s) (hn : ∀ j (hj : j < xs.length), j < k → ¬ xs[j] = s) : idOf xs s = k := by
  have h1 := fst_min k hk h
  have h2 : fst s xs < xs.length := by omega
  have h3 := fst_at h2
  have h4 : fst s xs = k := by
    apply Classical.byContradiction
    intro hne
    exact hn _ h2 (by omega) h3
  unfold idOf
  rw [if_pos h2, h4]
theorem idOf_none {xs : List ByteArray} {s : ByteArray} (hn : ∀ j (hj : j < xs.length), ¬ xs[j] = s) : idOf xs s = -1 := by
  unfold idOf
  rw [if_neg]
  intro h
  exact hn _ h (fst_at h)
theorem idOf_neg {xs : List ByteArray} {s : ByteArray} : idOf xs s < 0 ↔ ¬ s ∈ xs := by
  unfold idOf
  split
  · rename_i h; rw [fst_lt] at h; simp [h]
  · rename_i h; rw [fst_lt] at h; simp [h]
theorem idOf_lo (xs : List ByteArray) (s : ByteArray) : -1 ≤ idOf xs s := by unfold idOf; split <;> omega
theorem idOf_hi (xs : List ByteArray) (s : ByteArray) : idOf xs s < xs.length := by unfold idOf; split <;> omega

/-- The words that came, each once, in the order in which they came first. -/
def dict : List ByteArray → List ByteArray → List ByteArray
  | acc, [] => acc
  | acc, x :: r => if fst x acc < acc.length then dict acc r else dict (acc ++ [x]) r
theorem dict_old {acc r : List ByteArray} {x : ByteArray} (h : x ∈ acc) : dict acc (x :: r) = dict acc r := by simp only [dict]; rw [if_pos (fst_lt.2 h)]
theorem dict_new {acc r : List ByteArray} {x : ByteArray} (h : ¬ x ∈ acc) : dict acc (x :: r) = dict (acc ++ [x]) r := by simp only [dict]; rw [if_neg (fun h' => h (fst_lt.1 h'))]
def dictOf (ws : List ByteArray) : List ByteArray := dict [] ws
theorem dict_app : ∀ (a b acc : List ByteArray), dict acc (a ++ b) = dict (dict acc a) b
  | [], _, _ => rfl
  | y :: r, b, acc => by
    rw [List.cons_append]
    by_cases h : y ∈ acc
    · rw [dict_old h, dict_old h, dict_app r b acc]
    · rw [dict_new h, dict_new h, dict_app r b (acc ++ [y])]
theorem dict_ext : ∀ (ws acc : List ByteArray), ∃ t, dict acc ws = acc ++ t
  | [], acc => ⟨[], by simp [dict]⟩
  | y :: r, acc => by
    by_cases h : y ∈ acc
    · rw [dict_old h]; exact dict_ext r acc
    · rw [dict_new h]
      obtain ⟨t, ht⟩ := dict_ext r (acc ++ [y])
      exact ⟨y :: t, by rw [ht]; simp⟩
theorem dict_mem (s : ByteArray) : ∀ (ws acc : List ByteArray), s ∈ dict acc ws ↔ s ∈ acc ∨ s ∈ ws
  | [], acc => by simp [dict]
  | y :: r, acc => by
    by_cases h : y ∈ acc
    · rw [dict_old h, dict_mem s r acc, List.mem_cons]
      constructor
      · rintro (h' | h')
        · exact .inl h'
        · exact .inr (.inr h')
      · rintro (h' | rfl | h')
        · exact .inl h'
        · exact .inl h
        · exact .inr h'
    · rw [dict_new h, dict_mem s r (acc ++ [y])]
      simp [or_assoc]
theorem dictOf_mem {s : ByteArray} {ws : List ByteArray} : s ∈ dictOf ws ↔ s ∈ ws := by unfold dictOf; rw [dict_mem]; simp
theorem dict_nodup : ∀ (ws acc : List ByteArray), acc.Nodup → (dict acc ws).Nodup
  | [], acc, h => h
  | y :: r, acc, h => by
    by_cases hy : y ∈ acc
    · rw [dict_old hy]; exact dict_nodup r acc h
    · rw [dict_new hy]
      refine dict_nodup r _ ?_
      rw [List.nodup_append]
      exact ⟨h, by simp, fun a ha b hb e => by simp at hb; subst hb; subst e; exact hy ha⟩
theorem dictOf_nodup (ws : List ByteArray) : (dictOf ws).Nodup := dict_nodup ws [] List.nodup_nil
theorem dict_len : ∀ (ws acc : List ByteArray), (dict acc ws).length ≤ acc.length + ws.length
  | [], acc => by simp [dict]
  | y :: r, acc => by
    by_cases hy : y ∈ acc
    · rw [dict_old hy]; have := dict_len r acc; simp; omega
    · rw [dict_new hy]; have := dict_len r (acc ++ [y]); simp at this; simp; omega
theorem dictOf_len (ws : List ByteArray) : (dictOf ws).length ≤ ws.length := by have := dict_len ws []; simpa [dictOf] using this
theorem dict_id : ∀ (ws acc : List ByteArray), (acc ++ ws).Nodup → dict acc ws = acc ++ ws
  | [], acc, _ => by simp [dict]
  | y :: r, acc, h => by
    have hy : ¬ y ∈ acc := by
      intro hy
      rw [List.nodup_append] at h
      exact h.2.2 y hy y (by simp) rfl
    rw [dict_new hy, dict_id r (acc ++ [y]) (by simpa using h)]
    simp
theorem dictOf_id {ws : List ByteArray} (h : ws.Nodup) : dictOf ws = ws := by have := dict_id ws [] (by simpa using h); simpa [dictOf] using this
theorem dictOf_dictOf (ws : List ByteArray) : dictOf (dictOf ws) = dictOf ws := dictOf_id (dictOf_nodup ws)
/-- The first k words' dictionary, a word more. -/
theorem dictOf_old {ws : List ByteArray} {k : Nat} (hk : k < ws.length) (h : ws[k] ∈ ws.take k) : dictOf (ws.take (k + 1)) = dictOf (ws.take k) := by
  rw [List.take_succ_eq_append_getElem hk]
  show dict [] _ = _
  rw [dict_app, dict_old (show ws[k] ∈ dict [] (ws.take k) from dictOf_mem.2 h)]
  rfl
theorem dictOf_new {ws : List ByteArray} {k : Nat} (hk : k < ws.length) (h : ¬ ws[k] ∈ ws.take k) : dictOf (ws.take (k + 1)) = dictOf (ws.take k) ++ [ws[k]] := by
  rw [List.take_succ_eq_append_getElem hk]
  show dict [] _ = _
  rw [dict_app, dict_new (fun h' => h (dictOf_mem.1 (show ws[k] ∈ dictOf _ from h')))]
  rfl
/-- A word came first at k just where it is not among those ahead. -/
theorem fst_first {ws : List ByteArray} {k : Nat} (hk : k < ws.length) : fst ws[k] ws = k ↔ ¬ ws[k] ∈ ws.take k := by
  constructor
  · intro h hm
    obtain ⟨j, hj, e⟩ := List.getElem_of_mem hm
    have hj' : j < k := by simp at hj; omega
    have := fst_min j (by omega) (show ws[j] = ws[k] by rw [← e]; simp)
    omega
  · intro h
    have h1 := fst_min k hk rfl
    have h2 : fst ws[k] ws < ws.length := by omega
    have h3 := fst_at h2
    apply Classical.byContradiction
    intro hne
    apply h
    rw [List.mem_take_iff_getElem]
    exact ⟨fst ws[k] ws, by omega, h3⟩
/-- A word of the dictionary stands there no later than it came. -/
theorem dict_place {ws : List ByteArray} {k : Nat} (hk : k < ws.length) : fst ws[k] (dictOf ws) ≤ k := by
  have h1 : ws[k] ∈ dictOf (ws.take (k + 1)) := dictOf_mem.2 (by rw [List.take_succ_eq_append_getElem hk]; exact List.mem_append_right _ (List.mem_singleton.2 rfl))
  have e : dictOf ws = dict (dictOf (ws.take (k + 1))) (ws.drop (k + 1)) := by
    unfold dictOf; rw [← dict_app, List.take_append_drop]
  obtain ⟨t, ht⟩ := dict_ext (ws.drop (k + 1)) (dictOf (ws.take (k + 1)))
  rw [← e] at ht
  obtain ⟨j, hj, e⟩ := List.getElem_of_mem h1
  have hl := dictOf_len (ws.take (k + 1))
  have hjk : j ≤ k := by simp at hl; omega
  refine Nat.le_trans (fst_min j (by rw [ht]; simp; omega) ?_) hjk
  simp only [ht]
  rw [List.getElem_append_left hj, e]

/-- Where each word of a list came first; 0 of one that did not come. -/
def hasL (l : List ByteArray) (s : ByteArray) : Bool := decide (fst s l < l.length)
def valL (l : List ByteArray) (s : ByteArray) : Int := if fst s l < l.length then (fst s l : Int) else 0
theorem hasL_iff {l : List ByteArray} {s : ByteArray} : hasL l s = true ↔ s ∈ l := by unfold hasL; rw [decide_eq_true_iff]; exact fst_lt
theorem hasL_no {l : List ByteArray} {s : ByteArray} (h : ¬ s ∈ l) : hasL l s = false := by
  cases e : hasL l s
  · rfl
  · exact absurd (hasL_iff.1 e) h
theorem fst_snoc_in {s : ByteArray} (x : ByteArray) : ∀ {l : List ByteArray}, s ∈ l → fst s (l ++ [x]) = fst s l
  | [], h => by simp at h
  | y :: r, h => by
    simp only [List.cons_append, fst]
    by_cases e : y = s
    · rw [if_pos e, if_pos e]
    · rw [if_neg e, if_neg e, fst_snoc_in x (by rcases List.mem_cons.1 h with h | h; exact absurd h.symm e; exact h)]
theorem fst_snoc_out {s : ByteArray} (x : ByteArray) : ∀ {l : List ByteArray}, ¬ s ∈ l → fst s (l ++ [x]) = l.length + (if x = s then 0 else 1)
  | [], _ => by simp [fst]
  | y :: r, h => by
    simp only [List.cons_append, fst, List.length_cons]
    rw [if_neg (fun e => h (by simp [e])), fst_snoc_out x (fun h' => h (by simp [h']))]
    omega
theorem snoc_old {l : List ByteArray} {x : ByteArray} (h : x ∈ l) (s : ByteArray) : hasL (l ++ [x]) s = hasL l s ∧ valL (l ++ [x]) s = valL l s := by
  by_cases hs : s ∈ l
  · have h1 := fst_lt.2 hs
    have e := fst_snoc_in x hs
    refine ⟨by rw [hasL_iff.2 hs, hasL_iff.2 (List.mem_append_left _ hs)], ?_⟩
    unfold valL
    rw [e, if_pos h1, if_pos (by simp; omega)]
  · have hx : ¬ s ∈ l ++ [x] := by
      simp only [List.mem_append, List.mem_singleton, not_or]
      exact ⟨hs, fun e => hs (e ▸ h)⟩
    refine ⟨by rw [hasL_no hs, hasL_no hx], ?_⟩
    unfold valL
    rw [if_neg (fun h' => hs (fst_lt.1 h')), if_neg (fun h' => hx (fst_lt.1 h'))]
theorem snoc_new {l : List ByteArray} {x : ByteArray} (h : ¬ x ∈ l) (s : ByteArray) : hasL (l ++ [x]) s = (if s = x then true else hasL l s) ∧ valL (l ++ [x]) s = (if s = x then (l.length : Int) else valL l s) := by
  by_cases e : s = x
  · subst e
    rw [if_pos rfl, if_pos rfl]
    have hm : s ∈ l ++ [s] := by simp
    refine ⟨hasL_iff.2 hm, ?_⟩
    unfold valL
    rw [if_pos (fst_lt.2 hm), fst_snoc_out s h, if_pos rfl]
    simp
  · rw [if_neg e, if_neg e]
    by_cases hs : s ∈ l
    · have h1 := fst_lt.2 hs
      refine ⟨by rw [hasL_iff.2 hs, hasL_iff.2 (List.mem_append_left _ hs)], ?_⟩
      unfold valL
      rw [fst_snoc_in x hs, if_pos h1, if_pos (by simp; omega)]
    · have hx : ¬ s ∈ l ++ [x] := by
        simp only [List.mem_append, List.mem_singleton, not_or]
        exact ⟨hs, e⟩
      refine ⟨by rw [hasL_no hs, hasL_no hx], ?_⟩
      unfold valL
      rw [if_neg (fun h' => hs (fst_lt.1 h')), if_neg (fun h' => hx (fst_lt.1 h'))]
theorem valL_at {ws : List ByteArray} {k : Nat} (hk : k < ws.length) : valL ws ws[k] = (fst ws[k] ws : Int) := by
  unfold valL; rw [if_pos (fst_lt.2 (List.getElem_mem hk))]
/-- Two lists of words, pair by pair, a '+' between. -/
def pr (a b : ByteArray) : ByteArray := a ++ ⟨#[43]⟩ ++ b
def paired (xs ys : List ByteArray) : List ByteArray := if xs.length = ys.length then List.zipWith pr xs ys else []
theorem paired_le (xs ys : List ByteArray) : (paired xs ys).length ≤ xs.length := by
  unfold paired
  split
  · simp; omega
  · simp
/-- The word, the label at a place. -/
def wat (ws : List ByteArray) (j : Int) : ByteArray := ws.getD j.toNat ⟨#[]⟩
def lat (ls : List Int) (j : Int) : Int := ls.getD j.toNat 0
theorem wat_get {ws : List ByteArray} {j : Int} (h : j.toNat < ws.length) : wat ws j = ws[j.toNat] := by simp [wat, List.getD_eq_getElem?_getD, List.getElem?_eq_getElem h]
theorem lat_get {ls : List Int} {j : Int} (h : j.toNat < ls.length) : lat ls j = ls[j.toNat] := by simp [lat, List.getD_eq_getElem?_getD, List.getElem?_eq_getElem h]
/-- How many of the places have the word s. -/
def tr (ws : List ByteArray) (s : ByteArray) : List Int → Int
  | [] => 0
  | j :: r => (if wat ws j = s then 1 else 0) + tr ws s r
/-- Their labels together. -/
def tl (ws : List ByteArray) (ls : List Int) (s : ByteArray) : List Int → Int
  | [] => 0
  | j :: r => (if wat ws j = s then lat ls j else 0) + tl ws ls s r
theorem tr_snoc (ws : List ByteArray) (s : ByteArray) (x : Int) : ∀ js, tr ws s (js ++ [x]) = tr ws s js + (if wat ws x = s then 1 else 0)
  | [] => by simp [tr]
  | j :: r => by simp only [List.cons_append, tr]; rw [tr_snoc ws s x r]; omega
theorem tl_snoc (ws : List ByteArray) (ls : List Int) (s : ByteArray) (x : Int) : ∀ js, tl ws ls s (js ++ [x]) = tl ws ls s js + (if wat ws x = s then lat ls x else 0)
  | [] => by simp [tl]
  | j :: r => by simp only [List.cons_append, tl]; rw [tl_snoc ws ls s x r]; omega
theorem tr_bd (ws : List ByteArray) (s : ByteArray) : ∀ js, 0 ≤ tr ws s js ∧ tr ws s js ≤ (js.length : Int)
  | [] => by simp [tr]
  | j :: r => by have := tr_bd ws s r; simp only [tr, List.length_cons]; split <;> omega
/-- Every label of the list is of a size that labels have. -/
def Sml (ls : List Int) : Prop := ∀ j : Int, -1000000 ≤ lat ls j ∧ lat ls j ≤ 1000000
theorem tl_bd {ws : List ByteArray} {ls : List Int} (h : Sml ls) (s : ByteArray) : ∀ js, -1000000 * tr ws s js ≤ tl ws ls s js ∧ tl ws ls s js ≤ 1000000 * tr ws s js
  | [] => by simp [tr, tl]
  | j :: r => by have := tl_bd (ws := ws) h s r; have := h j; simp only [tr, tl]; split <;> omega
theorem sml_of {ls : List Int} (h : ∀ x ∈ ls, -1000000 ≤ x ∧ x ≤ 1000000) : Sml ls := by
  intro j
  unfold lat
  rw [List.getD_eq_getElem?_getD]
  cases e : ls[j.toNat]? with
  | none => simp
  | some x => exact h x (List.mem_of_getElem? e)
/-- The tally of a word over places. -/
def tal (ws : List ByteArray) (ls js : List Int) (s : ByteArray) : Int × Int := (tr ws s js, tl ws ls s js)
/-- The places 0 up to n - 1. -/
def idx (n : Nat) : List Int := (List.range n).map fun (i : Nat) => (i : Int)
theorem idx_succ (n : Nat) : idx (n + 1) = idx n ++ [(n : Int)] := by simp [idx, List.range_succ]
theorem idx_len (n : Nat) : (idx n).length = n := by simp [idx]
def ups (f : ByteArray → Int × Int) (s : ByteArray) (p : Int × Int) : ByteArray → Int × Int := fun t => if t = s then p else f t
theorem tal_step (ws : List ByteArray) (ls js : List Int) (k : Nat) (hk : k < js.length) (t : ByteArray) :
    ups (tal ws ls (js.take k)) (wat ws js[k]) ((tal ws ls (js.take k) (wat ws js[k])).1 + 1, (tal ws ls (js.take k) (wat ws js[k])).2 + lat ls js[k]) t = tal ws ls (js.take (k + 1)) t := by
  rw [List.take_succ_eq_append_getElem hk]
  unfold ups tal
  rw [tr_snoc, tl_snoc]
  by_cases h : t = wat ws js[k]
  · subst h; simp
  · rw [if_neg h, if_neg (fun e => h e.symm), if_neg (fun e => h e.symm)]; simp
theorem tal_back (ws : List ByteArray) (ls js : List Int) (k : Nat) (hk : k < js.length) (t : ByteArray) :
    ups (tal ws ls (js.take (k + 1))) (wat ws js[k]) ((tal ws ls (js.take (k + 1)) (wat ws js[k])).1 - 1, (tal ws ls (js.take (k + 1)) (wat ws js[k])).2 - lat ls js[k]) t = tal ws ls (js.take k) t := by
  rw [List.take_succ_eq_append_getElem hk]
  unfold ups tal
  simp only [tr_snoc, tl_snoc]
  by_cases h : t = wat ws js[k]
  · subst h; simp
  · rw [if_neg h, if_neg (fun e => h e.symm), if_neg (fun e => h e.symm)]; simp
theorem tal_one (ws : List ByteArray) (ls js : List Int) (hs : Sml ls) (k : Nat) (hk : k < js.length) : 1 ≤ (tal ws ls (js.take (k + 1)) (wat ws js[k])).1 ∧ ((tal ws ls (js.take (k + 1)) (wat ws js[k])).1 = 1 → (tal ws ls (js.take (k + 1)) (wat ws js[k])).2 = lat ls js[k]) := by
  rw [List.take_succ_eq_append_getElem hk]
  unfold tal
  rw [tr_snoc, tl_snoc, if_pos rfl, if_pos rfl]
  have h1 := tr_bd ws (wat ws js[k]) (js.take k)
  have h2 := tl_bd (ws := ws) hs (wat ws js[k]) (js.take k)
  exact ⟨by simp only; omega, fun h => by simp only at h ⊢; omega⟩
theorem tal_bd (ws : List ByteArray) (ls js : List Int) (hs : Sml ls) (s : ByteArray) (hl : js.length ≤ 60) : 0 ≤ (tal ws ls js s).1 ∧ (tal ws ls js s).1 ≤ 60 ∧ -60000000 ≤ (tal ws ls js s).2 ∧ (tal ws ls js s).2 ≤ 60000000 := by
  have h1 := tr_bd ws s js
  have h2 := tl_bd (ws := ws) hs s js
  unfold tal
  exact ⟨by simp only; omega, by simp only; omega, by simp only; omega, by simp only; omega⟩
end Go.Proofs.YtifemdjookmboaaGreatDoor.Wd
/-
  append: a number, a text put behind a list of the call's own; a list that has just been made empty.
-/
namespace Go.Proofs.YtifemdjookmboaaGreatDoor.Ap
open Go.RowKit
theorem one_cell (w : World) (T : TypeId) (x : Value) (_hx : x.oneCell' = true) : ∀ j u, ([x] : List Value)[j]? = some u → (w.alloc (.cells #[x] T)).cell? ((⟨w.heap.size, 0, none⟩ : Addr).add j) = some u := by
  intro j u hj
  match j, hj with
  | 0, hj => simp at hj; subst hj; simp [Addr.add]
theorem one_at {w : World} {T : TypeId} {x : Value} {H : Nat} (hx : x.oneCell' = true) (h : w.heap.size = H) : ∀ j u, ([x] : List Value)[j]? = some u → (w.alloc (.cells #[x] T)).cell? ((⟨H, 0, none⟩ : Addr).add j) = some u := by
  subst h; exact one_cell _ _ _ hx
theorem one_one (x : Value) (hx : x.oneCell' = true) : ∀ u ∈ ([x] : List Value), u.oneCell' = true := by
  intro u hu; simp at hu; subst hu; exact hx
theorem own_snoc {w : World} {base n : Nat} {v : Value} {l : List Int} {x : Int} (hn : l.length = n) (h : w.ownsRow base 3 1 v (n + 1) (Li.iv l ++ [.int .i64 x])) : Li.Own w base v (l ++ [x]) := by
  subst hn
  unfold Li.Own
  rw [← Li.iv_append, List.length_append]
  exact h
theorem own_empty (w : World) (base : Nat) (hb : base ≤ w.heap.size) : Li.Own (w.alloc (.cells #[] 3)) base (.slice (some ⟨w.heap.size, 0, none⟩) 0 0) [] :=
  World.ownsRow_made w #[] 0 hb (by unfold maxLen; omega) (by simp)
theorem sown_snoc {w : World} {base n : Nat} {v : Value} {l : List ByteArray} {x : ByteArray} (hn : l.length = n) (h : w.ownsRow base 9 1 v (n + 1) (Ls.sv l ++ [.string x])) : Ls.Own w base v (l ++ [x]) := by
  subst hn
  unfold Ls.Own
  rw [← Ls.sv_append, List.length_append]
  exact h
theorem sown_empty (w : World) (base : Nat) (hb : base ≤ w.heap.size) : Ls.Own (w.alloc (.cells #[] 9)) base (.slice (some ⟨w.heap.size, 0, none⟩) 0 0) [] :=
  World.ownsRow_made w #[] 0 hb (by unfold maxLen; omega) (by simp)
/-- What grows in the call's own blocks turns nothing below. -/
theorem below_app {w wr w1 : World} {B : Nat} {r : Option Nat} (hB : Below B w wr) (hs : B ≤ wr.heap.size) (hg : wr.grownBy w1 r) (hr : ∀ k, r = some k → B ≤ k) : Below B w w1 :=
  hB.trans ⟨hg.os, hg.tape, hg.output, hg.size, fun k hk => hg.block k (by omega) (fun e => by have := hr k e.symm; omega)⟩
theorem grown_undrew {w w1 : World} {r : Option Nat} (h : w.drew.grownBy w1 r) : w.grownBy w1 r := ⟨h.os, h.tape, h.output, h.size, h.block⟩
/-- What a list reads as, for an append of all of it. -/
theorem news_i {w : World} {ad : Addr} {xs : List Int} (h : Li.IsL w (some ad) xs) : ∀ j u, (Li.iv xs)[j]? = some u → w.cell? (ad.add j) = some u := by
  intro j u hj
  rcases h with rfl | ⟨b, off, e, _, hc⟩
  · simp [Li.iv] at hj
  · cases e
    have hlt : j < xs.length := by
      apply Classical.byContradiction
      intro hn
      rw [List.getElem?_eq_none (by rw [Li.iv_length]; omega)] at hj
      cases hj
    rw [Li.iv_get xs j hlt] at hj
    rw [Go.WideShapes.add_plain, hc j hlt, hj]
theorem news_s {w : World} {ad : Addr} {xs : List ByteArray} (h : Ls.IsS w (some ad) xs) : ∀ j u, (Ls.sv xs)[j]? = some u → w.cell? (ad.add j) = some u := by
  intro j u hj
  rcases h with rfl | ⟨b, off, e, _, hc⟩
  · simp [Ls.sv] at hj
  · cases e
    have hlt : j < xs.length := by
      apply Classical.byContradiction
      intro hn
      rw [List.getElem?_eq_none (by rw [Ls.sv_length]; omega)] at hj
      cases hj
    rw [Ls.sv_get xs j hlt] at hj
    rw [Go.WideShapes.add_plain, hc j hlt, hj]
theorem own_all {w : World} {base : Nat} {v : Value} {xs : List Int} (h : w.ownsRow base 3 1 v (0 + xs.length) ([] ++ Li.iv xs)) : Li.Own w base v xs := by
  unfold Li.Own
  simpa using h
theorem sown_all {w : World} {base : Nat} {v : Value} {xs : List ByteArray} (h : w.ownsRow base 9 1 v (0 + xs.length) ([] ++ Ls.sv xs)) : Ls.Own w base v xs := by
  unfold Ls.Own
  simpa using h
end Go.Proofs.YtifemdjookmboaaGreatDoor.Ap
/-
  Dictionaries: contracts of IdOf, of the program and of its model, over one plain function.
-/
namespace Go.Proofs.YtifemdjookmboaaGreatDoor.Di
open Go.RowKit
open Go.Proofs.YtifemdjookmboaaGreatDoor.Wd
open Go.Proofs.YtifemdjookmboaaGreatDoor.Li (ret_int below_none)
theorem ba_beq {s t : ByteArray} (h : s = t) : (s.toList == t.toList) = true := Ls.tl_eq h
set_option maxHeartbeats 1000000 in
theorem sid0 (w : World) (a : Option Addr) (cap : Nat) (xs : List ByteArray) (s : ByteArray) (hx : Ls.IsS w a xs) (hl : xs.length ≤ 1048576) :
    Calls Tryz.prog 73 #[.slice a xs.length cap, .string s] w fun e w' => e = .returned (.int .i64 (idOf xs s)) ∧ w' = w := by
  go_enter Tryz.func73, Tryz.ntmps73
  go_wp2
  go_loop [5] (fun i => ∃ k : Nat, k ≤ xs.length ∧ i = .int .i64 k ∧ ∀ j (hj : j < xs.length), j < k → ¬ xs[j] = s) (fun i => xs.length - (intOf i).toNat)
  case atStart => exact ⟨0, Nat.zero_le _, rfl, fun j hj h => by omega⟩
  case round =>
    obtain ⟨k, hk, rfl, hn⟩ := hrel
    have HN : Hid (∀ j (hj : j < xs.length), j < k → ¬ xs[j] = s) := hn
    clear hn
    by_cases hlt : k < xs.length
    · rcases hx with rfl | ⟨b, off, rfl, hb, hc⟩
      · simp at hlt
      have hcx := hc k hlt
      clear hc
      by_cases he : xs[k] = s
      · have HR : Hid (idOf xs s = k) := idOf_found hlt he HN.out
        have he' : (xs[k].toList == s.toList) = true := Ls.tl_eq he
        clear he
        obtain ⟨x, ex⟩ : ∃ x, xs[k] = x := ⟨_, rfl⟩
        rw [ex] at hcx he'
        clear ex
        go_wp2
        go_ret
        exact ⟨ret_int HR.out.symm, rfl⟩
      · have HR : Hid (∀ j (hj : j < xs.length), j < k + 1 → ¬ xs[j] = s) := fun j hj h => by
          by_cases e : j = k
          · subst e; exact he
          · exact HN.out j hj (by omega)
        have he' : (xs[k].toList == s.toList) = false := Ls.tl_ne he
        clear he
        obtain ⟨x, ex⟩ : ∃ x, xs[k] = x := ⟨_, rfl⟩
        rw [ex] at hcx he'
        clear ex
        go_wp2
        go_round
        case rel => exact ⟨k + 1, by omega, by go_num, HR.out⟩
        case measure => simp [intOf]; omega
    · have HR : Hid (idOf xs s = -1) := idOf_none (fun j hj => HN.out j hj (by omega))
      go_wp2
      go_ret
      exact ⟨ret_int HR.out.symm, rfl⟩
theorem sid (w : World) (a : Option Addr) (cap : Nat) (xs : List ByteArray) (s : ByteArray) (hx : Ls.IsS w a xs) (hl : xs.length ≤ 1048576) :
    Calls Tryz.prog 73 #[.slice a xs.length cap, .string s] w fun e w' => e = .returned (.int .i64 (idOf xs s)) ∧ Below w.heap.size w w' := by
  refine (sid0 w a cap xs s hx hl).mono ?_
  rintro e w' ⟨rfl, rfl⟩
  exact ⟨rfl, Below.refl _ _⟩
end Go.Proofs.YtifemdjookmboaaGreatDoor.Di
/-
  Dictionaries: contracts of DictOf, of the program (by a map from words to where they came first) and of its model, over one plain function.
-/
namespace Go.Proofs.YtifemdjookmboaaGreatDoor.Di
set_option maxRecDepth 20000
open Go.RowKit Go.Maps
open Go.WideMaps (keyOf_string_mk)
open Go.Proofs.YtifemdjookmboaaGreatDoor.Wd
open Go.Proofs.YtifemdjookmboaaGreatDoor.Li (ret_int below_none)

theorem lawS : Keyed Tryz.prog 9 := string_keyed Tryz.underlying9
def ks (s : ByteArray) : Lit := .string s.data.toList
theorem ks_inj {s t : ByteArray} (h : ks s = ks t) : s = t := by
  unfold ks at h
  exact ba_ext (by simpa using h)
theorem ks_key (s : ByteArray) : WideAt.IsKeyLit (ks s) := by unfold ks; trivial
def nD (i : Int) : DataW Unit := .lit (.int .i64 i)
/-- Block b is a map of at most n entries that has the words of l, each with where it came first. -/
def PM (w : World) (b n : Nat) (l : List ByteArray) : Prop :=
  ∃ D : DataW Unit, w.ownsMap Tryz.prog 9 (plainElem Tryz.prog 3) b n D ∧ ∀ s : ByteArray, D.atKey (ks s) (nD 0) = nD (valL l s) ∧ has D (ks s) = hasL l s
theorem PM.kept {w w' : World} {b n : Nat} {l : List ByteArray} {row : Option Nat} (h : PM w b n l) (hg : w.grownBy w' row) (hne : some b ≠ row) : PM w' b n l := by
  obtain ⟨D, ho, hf⟩ := h
  exact ⟨D, ho.kept hg hne, hf⟩
theorem PM.below {w w' : World} {b n : Nat} {l : List ByteArray} (h : PM w b n l) (hB : Below w.heap.size w w') : PM w' b n l :=
  h.kept (row := none) ⟨hB.os, hB.tape, hB.output, hB.size, fun k hk _ => hB.block k hk⟩ (by simp)
theorem PM.lt {w : World} {b n : Nat} {l : List ByteArray} (h : PM w b n l) : b < w.heap.size := by obtain ⟨D, ho, _⟩ := h; exact ho.lt
theorem PM.same {w : World} {b n : Nat} {l m : List ByteArray} (h : PM w b n l) (e : ∀ s, hasL m s = hasL l s ∧ valL m s = valL l s) : PM w b n m := by
  obtain ⟨D, ho, hf⟩ := h
  exact ⟨D, ho, fun s => by rw [(e s).1, (e s).2]; exact hf s⟩
theorem PM.mono {w : World} {b n n' : Nat} {l : List ByteArray} (h : PM w b n l) (hn : n ≤ n') : PM w b n' l := by
  obtain ⟨D, ho, hf⟩ := h
  exact ⟨D, ho.mono hn, hf⟩
theorem pm_made (w : World) : PM (w.alloc (.map #[] 0)) w.heap.size 0 [] :=
  ⟨.map [], World.ownsMap_made _ _ _ _, fun _ => ⟨rfl, rfl⟩⟩
theorem zeroI (w : World) : (zeroValue 3).run Tryz.prog w = .ok (.int .i64 0) w := by kernel_rfl
section
variable (w : World) {ops : Array Oper} {rest : List Oper} {o : Oper} {a : Act} {Q : Exit → Act → World → Prop}
/-- A look-up, with and without 'ok'. -/
theorem at_pm (hg : o.guard = none) (m x : Operand) (hop : o.op = Op.lookup 151 m x false) (b n : Nat) (l : List ByteArray) (hm : a.eval m = .map (some b)) (h : PM w b n l) (s : ByteArray) (hx : a.eval x = .string s) (hs : s.size ≤ maxLen)
    (hK : wpList Tryz.prog ops Q rest (a.put o.dst (.int .i64 (valL l s))) w) : wpList Tryz.prog ops Q (o :: rest) a w := by
  obtain ⟨D, ho, hf⟩ := h
  refine wpList_lookup_own_int w hg m x 151 hop 9 3 .i64 lawS Tryz.underlying151 Tryz.underlying3 (zeroI w) b n D hm ho _ (ks s) hx (keyOf_string_mk Tryz.underlying9 hs) ?_
  intro c hat _
  have e : nD (valL l s) = nD c := (hf s).1.symm.trans hat
  have e : valL l s = c := by unfold nD at e; simpa using e
  rw [← e]; exact hK
theorem ok_pm (hg : o.guard = none) (m x : Operand) (hop : o.op = Op.lookup 151 m x true) (b n : Nat) (l : List ByteArray) (hm : a.eval m = .map (some b)) (h : PM w b n l) (s : ByteArray) (hx : a.eval x = .string s) (hs : s.size ≤ maxLen)
    (hK : wpList Tryz.prog ops Q rest (a.put o.dst (.tuple #[.int .i64 (valL l s), .bool (hasL l s)])) w) : wpList Tryz.prog ops Q (o :: rest) a w := by
  obtain ⟨D, ho, hf⟩ := h
  refine wpList_lookup_own_ok_int w hg m x 151 hop 9 3 .i64 lawS Tryz.underlying151 Tryz.underlying3 (zeroI w) b n D hm ho _ (ks s) hx (keyOf_string_mk Tryz.underlying9 hs) ?_
  intro c hat _
  have e : nD (valL l s) = nD c := (hf s).1.symm.trans hat
  have e : valL l s = c := by unfold nD at e; simpa using e
  rw [← e, (hf s).2]; exact hK
/-- A store of a word that is not yet there. -/
theorem set_pm (hg : o.guard = none) (m x v : Operand) (hop : o.op = Op.mapUpdate 151 m x v) (b n : Nat) (l : List ByteArray) (hm : a.eval m = .map (some b)) (h : PM w b n l) (hn : n ≤ 10000000) (s : ByteArray) (hx : a.eval x = .string s) (hs : s.size ≤ maxLen) (hnew : ¬ s ∈ l) (hll : l.length ≤ 10000000) (hv : a.eval v = .int .i64 (l.length : Int))
    (hK : ∀ w', PM w' b (n + 1) (l ++ [s]) → w.grownBy w' (some b) → wpList Tryz.prog ops Q rest (a.put o.dst undef) w') : wpList Tryz.prog ops Q (o :: rest) a w := by
  obtain ⟨D, ho, hf⟩ := h
  refine wpList_mapUpdate_own w hg m x v 151 hop 9 3 lawS Tryz.underlying151 _ b n D hm ho (by unfold maxLen; omega) _ _ (ks s) hx hv (keyOf_string_mk Tryz.underlying9 hs) _ [] (plainElem_int Tryz.underlying3 (WalkArith.wf_i64 (by omega))) ?_
  intro w' ho' hg'
  refine hK w' ⟨_, ho', fun t => ?_⟩ hg'
  rw [(snoc_new hnew t).1, (snoc_new hnew t).2]
  by_cases ht : t = s
  · subst ht
    rw [if_pos rfl, if_pos rfl, atKey_put_same ho.isMap (ks_key _), has_put_same ho.isMap (ks_key _)]
    exact ⟨rfl, rfl⟩
  · rw [if_neg ht, if_neg ht, atKey_put_other (fun h => ht (ks_inj h)), has_put_other (fun h => ht (ks_inj h))]
    exact hf t
/-- How many there are. -/
theorem len_pm (hg : o.guard = none) (m : Operand) (hop : o.op = Op.call { callee := Callee.builtin Builtin.len, args := #[m], argTypes := #[151] }) (b n : Nat) (l : List ByteArray) (hm : a.eval m = .map (some b)) (h : PM w b n l)
    (hK : ∀ q : Nat, q ≤ n → wpList Tryz.prog ops Q rest (a.put o.dst (.int .i64 (q : Int))) w) : wpList Tryz.prog ops Q (o :: rest) a w := by
  obtain ⟨D, ho, hf⟩ := h
  exact wpList_len_own w hg m 151 hop 9 3 Tryz.underlying151 _ b n D hm ho (hK _ ho.size_le)
end
set_option maxHeartbeats 2000000 in
theorem places (w : World) (a : Option Addr) (cap : Nat) (ws : List ByteArray) (hx : Ls.IsS w a ws) (hl : ws.length ≤ 1048576) (hz : ∀ j (h : j < ws.length), ws[j].size ≤ 1048576) :
    Calls Tryz.prog 119 #[.slice a ws.length cap] w fun e w' => e = .returned (.map (some w.heap.size)) ∧ PM w' w.heap.size ws.length ws ∧ Below w.heap.size w w' := by
  have hmm := @run_makeMap Tryz.prog
  go_enter Tryz.func119, Tryz.ntmps119
  go_wp2
  go_loopw [11] (fun i wr => ∃ k : Nat, k ≤ ws.length ∧ i = .int .i64 k ∧ PM wr w.heap.size k (ws.take k) ∧ Below w.heap.size w wr) (fun i _ => ws.length - (intOf i).toNat)
  case atStart => exact ⟨0, Nat.zero_le _, rfl, by simpa using pm_made w, (Below.refl _ _).alloc (Nat.le_refl _) _⟩
  case round =>
    obtain ⟨k, hk, rfl, hm, hB⟩ := hrel
    by_cases hlt : k < ws.length
    · rcases hx.below hB with rfl | ⟨b, off, rfl, hb, hc⟩
      · simp at hlt
      have hcx := hc k hlt
      have hs : ws[k].size ≤ maxLen := by have := hz k hlt; unfold maxLen; omega
      have HT : Hid (ws.take (k + 1) = ws.take k ++ [ws[k]]) := List.take_succ_eq_append_getElem hlt
      have HTL : Hid ((ws.take k).length = k) := by show _ = _; simp; omega
      clear hc hz
      by_cases hin : ws[k] ∈ ws.take k
      · have hh : hasL (ws.take k) ws[k] = true := hasL_iff.2 hin
        have HM : Hid (PM wr w.heap.size (k + 1) (ws.take (k + 1))) := (hm.mono (Nat.le_succ _)).same (fun s => by rw [HT.out]; exact snoc_old hin s)
        obtain ⟨x, ex⟩ : ∃ x, ws[k] = x := ⟨_, rfl⟩
        rw [ex] at hcx hs hh
        clear ex hin
        go_wp2_with (at_lookup; refine ok_pm _ rfl _ _ rfl _ _ _ rfl hm _ rfl hs ?_; rw [hh])
        go_roundw
        case rel => exact ⟨k + 1, by omega, by go_num, HM.out, hB⟩
        case measure => simp [intOf]; omega
      · have hh : hasL (ws.take k) ws[k] = false := hasL_no hin
        obtain ⟨x, ex⟩ : ∃ x, ws[k] = x := ⟨_, rfl⟩
        rw [ex] at hcx hs hh hin HT
        clear ex
        go_wp2_with (first
          | (at_lookup; refine ok_pm _ rfl _ _ rfl _ _ _ rfl hm _ rfl hs ?_; rw [hh])
          | (at_mapUpdate; refine set_pm _ rfl _ _ _ rfl _ _ _ rfl hm (by omega) _ rfl hs hin (by rw [HTL.out]; omega) (by rw [HTL.out]; rfl) ?_; intro w1 h1 g1))
        go_roundw
        case rel => exact ⟨k + 1, by omega, by go_num, by rw [HT.out]; exact h1, Ap.below_app hB hB.size g1 (fun k hk => by cases hk; exact Nat.le_refl _)⟩
        case measure => simp [intOf]; omega
    · obtain rfl : k = ws.length := by omega
      have ht : ws.take ws.length = ws := List.take_length
      rw [ht] at hm
      clear ht
      go_wp2
      go_ret
      exact ⟨rfl, hm, hB⟩
set_option maxHeartbeats 400000 in
theorem clone (w : World) (s : ByteArray) (hs : s.size ≤ 281474976710656) :
    Calls Tryz.prog 54 #[.string s] w fun e w' => e = .returned (.string s) ∧ Below w.heap.size w w' := by
  go_enter Tryz.func54, Tryz.ntmps54
  go_wp2_with (go_at_call 80; refine (Tryz.stringslite_Clone _ _ hs).mono ?_; rintro e w1 ⟨rfl, hB⟩)
  go_ret
  exact ⟨rfl, hB⟩
set_option maxHeartbeats 4000000 in
theorem idict (w : World) (a : Option Addr) (cap : Nat) (ws : List ByteArray) (hx : Ls.IsS w a ws) (hl : ws.length ≤ 1048576) (hz : ∀ j (h : j < ws.length), ws[j].size ≤ 1048576) :
    Calls Tryz.prog 108 #[.slice a ws.length cap] w fun e w' => ∃ v, e = .returned v ∧ Ls.Own w' w.heap.size v (dictOf ws) ∧ Below w.heap.size w w' := by
  obtain ⟨i0, hi, hz0, hz1, hz2⟩ := info_parts Ls.info_str
  go_enter Tryz.func108, Tryz.ntmps108
  go_wp2_with fail
  refine (places _ _ _ ws hx hl hz).mono ?_
  rintro e w1 ⟨rfl, hm, hB⟩
  have hml := hm.lt
  obtain ⟨bm, hbm⟩ : ∃ bm, w.heap.size = bm := ⟨_, rfl⟩
  rw [hbm] at hm hml hB ⊢
  have HBM : Hid (w.heap.size = bm) := hbm
  clear hbm
  go_wp2_with (first
    | (at_len; refine len_pm _ rfl _ rfl _ _ _ rfl hm ?_; intro q hq)
    | (at_make; refine wpList_make_own _ rfl _ _ 33 rfl w1.heap.size 9 i0 (.string ⟨#[]⟩) 1 Tryz.underlying33 hi hz0 hz1 _ _ _ q rfl rfl rfl (by rw [hz2]; omega) (by unfold maxLen; omega) (Nat.le_refl _) ?_; intro w2 hown hgrow))
  have ho2 : Ls.Own w2 w1.heap.size (.slice (some ⟨w1.heap.size, 0, none⟩) 0 q) [] := hown
  have hB2 := below_none hgrow
  have hm2 := hm.below hB2
  have hs2 := hB2.size
  have hB := hB.trans (hB2.mono (by omega))
  clear hown hgrow hB2 hm
  go_loopw [4, 14] (fun v i wr => ∃ k : Nat, k ≤ ws.length ∧ i = .int .i64 k ∧ Ls.Own wr w1.heap.size v (dictOf (ws.take k)) ∧ PM wr bm ws.length ws ∧ Below bm w wr ∧ w1.heap.size ≤ wr.heap.size) (fun _ i _ => ws.length - (intOf i).toNat)
  case atStart => exact ⟨0, Nat.zero_le _, rfl, by simpa [dictOf, dict] using ho2, hm2, hB, hs2⟩
  case round =>
    obtain ⟨k, hk, rfl, hown, hm, hBr, hsr⟩ := hrel
    clear ho2 hm2
    have hBw : Below w.heap.size w wr := by rw [HBM.out]; exact hBr
    by_cases hlt : k < ws.length
    · rcases hx.below hBw with rfl | ⟨b, off, rfl, hb, hc⟩
      · simp at hlt
      have hcx := hc k hlt
      have hs0 := hz k hlt
      have hs : ws[k].size ≤ maxLen := by unfold maxLen; omega
      have hval := valL_at hlt
      have hdl := dictOf_len (ws.take k)
      have hdl2 : (ws.take k).length ≤ k := by simp; omega
      have hblt : b < w.heap.size := by
        rcases hx with h | ⟨b', o', h, hb', _⟩
        · subst h; simp at hlt
        · cases h; exact hb'
      clear hc hz
      by_cases hin : ws[k] ∈ ws.take k
      · have hne : ¬ fst ws[k] ws = k := fun e => (fst_first hlt).1 e hin
        have HD : Hid (dictOf (ws.take (k + 1)) = dictOf (ws.take k)) := dictOf_old hlt hin
        have hcmp : ((fst ws[k] ws : Int) == (k : Int)) = false := by simp; omega
        obtain ⟨x, ex⟩ : ∃ x, ws[k] = x := ⟨_, rfl⟩
        rw [ex] at hcx hs hval hcmp
        obtain ⟨d, hd⟩ : ∃ d, dictOf (ws.take k) = d := ⟨_, rfl⟩
        rw [hd] at hown HD hdl
        clear ex hin hne hd
        go_wp2_with (at_lookup; refine at_pm _ rfl _ _ rfl _ _ _ rfl hm _ rfl hs ?_; rw [hval])
        go_roundw
        case rel => exact ⟨k + 1, by omega, by go_num, by rw [HD.out]; exact hown, hm, hBr, hsr⟩
        case measure => simp [intOf]; omega
      · have hne := (fst_first hlt).2 hin
        have HD : Hid (dictOf (ws.take (k + 1)) = dictOf (ws.take k) ++ [ws[k]]) := dictOf_new hlt hin
        have hcmp : ((fst ws[k] ws : Int) == (k : Int)) = true := by simp; omega
        obtain ⟨x, ex⟩ : ∃ x, ws[k] = x := ⟨_, rfl⟩
        rw [ex] at hcx hs hs0 hval hcmp HD
        obtain ⟨d, hd⟩ : ∃ d, dictOf (ws.take k) = d := ⟨_, rfl⟩
        rw [hd] at hown HD hdl
        clear ex hin hne hd
        go_wp2_with (first
          | (at_lookup; refine at_pm _ rfl _ _ rfl _ _ _ rfl hm _ rfl hs ?_; rw [hval])
          | (go_at_call 54; refine (clone _ _ (by omega)).mono ?_; rintro e w3 ⟨rfl, hB3⟩
             have hown3 := hown.below hB3
             have hm3 := hm.below hB3
             have hBr3 : Below bm w w3 := hBr.trans (hB3.mono (by have := hm.lt; omega))
             have hs3 : w1.heap.size ≤ w3.heap.size := by have := hB3.size; omega
             clear hB3)
          | (at_builtin; refine wpList_append_own _ rfl _ _ 33 rfl w1.heap.size 9 i0 (.string ⟨#[]⟩) 1 16 Tryz.underlying33 hi hz0 hz1 hz2 rfl (by decide) _ _ _ rfl (World.ownsRow.alloc hown3 _) ⟨w3.heap.size, 0, none⟩ 1 1 [.string x] rfl rfl (Ap.one_cell _ _ _ rfl) (Ap.one_one _ rfl) (by unfold maxLen; omega) (by omega) (by simp; omega) ?_; intro v5 w5 hown5 hgrow hnn))
        have ho5 := Ap.sown_snoc rfl hown5
        have hge : ∀ j, (u4 : Value).ownBlock = some j → w1.heap.size ≤ j := fun j hj => (hown3.ge j hj).1
        have hB5 : Below bm w w5 := Ap.below_app (hBr3.alloc (by have := hm3.lt; omega) _) (by have := hm3.lt; simp; omega) hgrow (fun j hj => by have := hge j hj; omega)
        have hm5 : PM w5 bm ws.length ws := (hm3.below ((Below.refl _ _).alloc (Nat.le_refl _) _)).kept hgrow (fun e => by have := hge bm e.symm; omega)
        have hs5 : w1.heap.size ≤ w5.heap.size := by have := hgrow.size; simp at this; omega
        clear hown5 hgrow hnn hge hown3 hm3 hBr3
        go_wp2
        go_roundw
        case rel => exact ⟨k + 1, by omega, by go_num, by rw [HD.out]; exact ho5, hm5, hB5, hs5⟩
        case measure => simp [intOf]; omega
    · obtain rfl : k = ws.length := by omega
      have HT : Hid (ws.take ws.length = ws) := List.take_length
      have HO : Hid (Ls.Own wr w.heap.size u4 (dictOf ws)) := by
        have h := hown
        rw [HT.out] at h
        exact h.mono (by have := HBM.out; omega)
      clear hown
      go_wp2
      go_ret
      exact ⟨_, rfl, HO.out, hBw⟩
set_option maxHeartbeats 4000000 in
theorem sdict (w : World) (a : Option Addr) (cap : Nat) (ws : List ByteArray) (hx : Ls.IsS w a ws) (hl : ws.length ≤ 1048576) :
    Calls Tryz.prog 50 #[.slice a ws.length cap] w fun e w' => ∃ v, e = .returned v ∧ Ls.Own w' w.heap.size v (dictOf ws) ∧ Below w.heap.size w w' := by
  obtain ⟨i0, hi, hz0, hz1, hz2⟩ := info_parts Ls.info_str
  have ho := Ap.sown_empty w w.heap.size (Nat.le_refl _)
  have hB1 : Below w.heap.size w (w.alloc (.cells #[] 9)) := (Below.refl _ _).alloc (Nat.le_refl _) _
  go_enter Tryz.func50, Tryz.ntmps50
  go_wp2
  go_loopw [3, 4] (fun v i wr => ∃ k : Nat, k ≤ ws.length ∧ i = .int .i64 k ∧ Ls.Own wr w.heap.size v (dictOf (ws.take k)) ∧ Below w.heap.size w wr) (fun _ i _ => ws.length - (intOf i).toNat)
  case atStart => exact ⟨0, Nat.zero_le _, rfl, by simpa [dictOf, dict] using ho, hB1⟩
  case round =>
    obtain ⟨k, hk, rfl, hown, hB⟩ := hrel
    clear ho hB1
    by_cases hlt : k < ws.length
    · rcases hx.below hB with rfl | ⟨b, off, rfl, hb, hc⟩
      · simp at hlt
      have hcx := hc k hlt
      have hdl := dictOf_len (ws.take k)
      have hdl2 : (ws.take k).length ≤ k := by simp; omega
      have hBs := hB.size
      clear hc
      by_cases hin : ws[k] ∈ ws.take k
      · have HD : Hid (dictOf (ws.take (k + 1)) = dictOf (ws.take k)) := dictOf_old hlt hin
        have hid : ¬ idOf (dictOf (ws.take k)) ws[k] < 0 := fun h => idOf_neg.1 h (dictOf_mem.2 hin)
        obtain ⟨x, ex⟩ : ∃ x, ws[k] = x := ⟨_, rfl⟩
        rw [ex] at hcx hid
        obtain ⟨d, hd⟩ : ∃ d, dictOf (ws.take k) = d := ⟨_, rfl⟩
        rw [hd] at hown HD hdl hid
        clear ex hin hd
        obtain ⟨va, vc, ev, hs⟩ := hown.iss
        subst ev
        go_wp2_with (go_at_call 73; refine (sid0 _ _ _ d x hs (by omega)).mono ?_; rintro e w' ⟨rfl, hw⟩; subst w')
        go_roundw
        case rel => exact ⟨k + 1, by omega, by go_num, by rw [HD.out]; exact hown, hB⟩
        case measure => simp [intOf]; omega
      · have HD : Hid (dictOf (ws.take (k + 1)) = dictOf (ws.take k) ++ [ws[k]]) := dictOf_new hlt hin
        have hid : idOf (dictOf (ws.take k)) ws[k] < 0 := idOf_neg.2 (fun h => hin (dictOf_mem.1 h))
        obtain ⟨x, ex⟩ : ∃ x, ws[k] = x := ⟨_, rfl⟩
        rw [ex] at hcx hid HD
        obtain ⟨d, hd⟩ : ∃ d, dictOf (ws.take k) = d := ⟨_, rfl⟩
        rw [hd] at hown HD hdl hid
        clear ex hin hd
        obtain ⟨va, vc, ev, hs⟩ := hown.iss
        subst ev
        go_wp2_with (first
          | (go_at_call 73; refine (sid0 _ _ _ d x hs (by omega)).mono ?_; rintro e w' ⟨rfl, hw⟩; subst w')
          | (at_builtin; refine wpList_append_own _ rfl _ _ 33 rfl w.heap.size 9 i0 (.string ⟨#[]⟩) 1 16 Tryz.underlying33 hi hz0 hz1 hz2 rfl (by decide) _ _ _ rfl (World.ownsRow.alloc hown _) ⟨wr.heap.size, 0, none⟩ 1 1 [.string x] rfl rfl (Ap.one_cell _ _ _ rfl) (Ap.one_one _ rfl) (by unfold maxLen; omega) (by omega) (by simp; omega) ?_; intro v5 w5 hown5 hgrow hnn))
        have ho5 := Ap.sown_snoc rfl hown5
        have hge : ∀ j, (Value.slice va d.length vc).ownBlock = some j → w.heap.size ≤ j := fun j hj => (hown.ge j hj).1
        have hB5 : Below w.heap.size w w5 := Ap.below_app (hB.alloc hBs _) (by simp; omega) hgrow hge
        clear hown5 hgrow hnn hge
        go_wp2
        go_roundw
        case rel => exact ⟨k + 1, by omega, by go_num, by rw [HD.out]; exact ho5, hB5⟩
        case measure => simp [intOf]; omega
    · obtain rfl : k = ws.length := by omega
      have HT : Hid (ws.take ws.length = ws) := List.take_length
      have HO : Hid (Ls.Own wr w.heap.size u3 (dictOf ws)) := by have h := hown; rw [HT.out] at h; exact h
      clear hown
      go_wp2
      go_ret
      exact ⟨_, rfl, HO.out, hB⟩
end Go.Proofs.YtifemdjookmboaaGreatDoor.Di
/-
  The columns of a table: contracts of Labels, Column, Words, of the program and of its model, over plain functions of lists; a table marked.
-/
namespace Go.Proofs.YtifemdjookmboaaGreatDoor.Co
set_option maxRecDepth 20000
open Go.RowKit
open Go.Proofs.YtifemdjookmboaaGreatDoor.Tb
open Go.Proofs.YtifemdjookmboaaGreatDoor.Tk
open Go.Proofs.YtifemdjookmboaaGreatDoor.Li (ret_bool grown_refl grown_trans grown_set below_none info_int btw between_any)

theorem one_cell (w : World) (T : TypeId) (x : Int) : ∀ j u, ([Value.int .i64 x] : List Value)[j]? = some u → (w.alloc (.cells #[.int .i64 x] T)).cell? ((⟨w.heap.size, 0, none⟩ : Addr).add j) = some u := by
  intro j u hj
  match j, hj with
  | 0, hj => simp at hj; subst hj; simp [Addr.add]
theorem one_one (x : Int) : ∀ u ∈ ([Value.int .i64 x] : List Value), u.oneCell' = true := by
  intro u hu; simp at hu; subst hu; rfl
theorem own_snoc {w : World} {base n : Nat} {v : Value} {l : List Int} {x : Int} (hn : l.length = n) (h : w.ownsRow base 3 1 v (n + 1) (Li.iv l ++ [.int .i64 x])) : Li.Own w base v (l ++ [x]) := by
  subst hn
  unfold Li.Own
  rw [← Li.iv_append, List.length_append]
  exact h
theorem own_empty (w : World) (base : Nat) (hb : base ≤ w.heap.size) : Li.Own (w.alloc (.cells #[] 3)) base (.slice (some ⟨w.heap.size, 0, none⟩) 0 0) [] :=
  World.ownsRow_made w #[] 0 hb (by unfold maxLen; omega) (by simp)
def labs (rs : List Row) : List Int := rs.map Row.label
def labels (n c : Int) (rs : List Row) : List Int := if tok n c rs = true then labs rs else []
theorem labs_length (rs : List Row) : (labs rs).length = rs.length := by simp [labs]
theorem labels_le (n c : Int) (rs : List Row) : (labels n c rs).length ≤ rs.length := by
  unfold labels; split
  · rw [labs_length]; exact Nat.le_refl _
  · simp
theorem labs_get (rs : List Row) (j : Nat) (h : j < rs.length) : (labs rs)[j]'(by rw [labs_length]; exact h) = rs[j].label := by simp [labs]
theorem take_get {α : Type} (xs : List α) (k : Nat) (h : k < xs.length) : xs.take (k + 1) = xs.take k ++ [xs[k]] := List.take_succ_eq_append_getElem h
/-- The numbers at a place of the rows. -/
def nat (rs : List Row) (p : Nat) : List Int := rs.map fun r => r.nums.getD p 0
def column (n c : Int) (rs : List Row) (num : Int) : List Int := if tok n c rs = true ∧ 0 ≤ num ∧ num < n then nat rs num.toNat else []
theorem nat_length (rs : List Row) (p : Nat) : (nat rs p).length = rs.length := by simp [nat]
theorem column_le (n c : Int) (rs : List Row) (num : Int) : (column n c rs num).length ≤ rs.length := by
  unfold column; split
  · rw [nat_length]; exact Nat.le_refl _
  · simp
theorem nat_get (rs : List Row) (p j : Nat) (h : j < rs.length) (hp : p < rs[j].nums.length) : (nat rs p)[j]'(by rw [nat_length]; exact h) = rs[j].nums[p] := by simp [nat, hp]
theorem tok_nums {n c : Int} {rs : List Row} (h : tok n c rs = true) (j : Nat) (hj : j < rs.length) : (rs[j].nums.length : Int) = n ∧ (rs[j].cats.length : Int) = c := by
  have h2 := (tok_iff.1 h).2.2
  have := rok_iff.1 (List.all_eq_true.1 h2 _ (List.getElem_mem hj))
  exact ⟨this.2.1, this.2.2.1⟩
end Go.Proofs.YtifemdjookmboaaGreatDoor.Co
/-
  The words of a table: contracts of Words, of the program and of its model, over a plain function of lists.
-/
namespace Go.Proofs.YtifemdjookmboaaGreatDoor.Co
set_option maxRecDepth 20000
open Go.RowKit
open Go.Proofs.YtifemdjookmboaaGreatDoor.Tb
open Go.Proofs.YtifemdjookmboaaGreatDoor.Tk
open Go.Proofs.YtifemdjookmboaaGreatDoor.Li (ret_bool grown_refl grown_trans grown_set below_none btw between_any)

theorem sone_cell (w : World) (T : TypeId) (x : ByteArray) : ∀ j u, ([Value.string x] : List Value)[j]? = some u → (w.alloc (.cells #[.string x] T)).cell? ((⟨w.heap.size, 0, none⟩ : Addr).add j) = some u := by
  intro j u hj
  match j, hj with
  | 0, hj => simp at hj; subst hj; simp [Addr.add]
theorem sone_one (x : ByteArray) : ∀ u ∈ ([Value.string x] : List Value), u.oneCell' = true := by
  intro u hu; simp at hu; subst hu; rfl
theorem sown_snoc {w : World} {base n : Nat} {v : Value} {l : List ByteArray} {x : ByteArray} (hn : l.length = n) (h : w.ownsRow base 9 1 v (n + 1) (Ls.sv l ++ [.string x])) : Ls.Own w base v (l ++ [x]) := by
  subst hn
  unfold Ls.Own
  rw [← Ls.sv_append, List.length_append]
  exact h
theorem sown_empty (w : World) (base : Nat) (hb : base ≤ w.heap.size) : Ls.Own (w.alloc (.cells #[] 9)) base (.slice (some ⟨w.heap.size, 0, none⟩) 0 0) [] :=
  World.ownsRow_made w #[] 0 hb (by unfold maxLen; omega) (by simp)
/-- The words at a place of the rows. -/
def cat (rs : List Row) (p : Nat) : List ByteArray := rs.map fun r => r.cats.getD p ⟨#[]⟩
def words (n c : Int) (rs : List Row) (num : Int) : List ByteArray := if tok n c rs = true ∧ 0 ≤ num ∧ num < c then cat rs num.toNat else []
theorem cat_length (rs : List Row) (p : Nat) : (cat rs p).length = rs.length := by simp [cat]
theorem words_le (n c : Int) (rs : List Row) (num : Int) : (words n c rs num).length ≤ rs.length := by
  unfold words; split
  · rw [cat_length]; exact Nat.le_refl _
  · simp
theorem cat_get (rs : List Row) (p j : Nat) (h : j < rs.length) (hp : p < rs[j].cats.length) : (cat rs p)[j]'(by rw [cat_length]; exact h) = rs[j].cats[p] := by simp [cat, hp]
set_option maxHeartbeats 400000 in
theorem clone (w : World) (s : ByteArray) (hs : s.size ≤ 281474976710656) :
    Calls Tryz.prog 54 #[.string s] w fun e w' => e = .returned (.string s) ∧ Below w.heap.size w w' := by
  go_enter Tryz.func54, Tryz.ntmps54
  go_wp2_with (go_at_call 80; refine (Tryz.stringslite_Clone _ _ hs).mono ?_; rintro e w1 ⟨rfl, hB⟩)
  go_ret
  exact ⟨rfl, hB⟩
set_option maxHeartbeats 2000000 in
theorem iwords (w : World) (n c : Int) (a : Option Addr) (cap : Nat) (rs : List Row) (num : Int) (hx : IsR w a rs) (hl : rs.length + szR rs ≤ 1048576) :
    Calls Tryz.prog 105 #[.agg #[.int .i64 n, .int .i64 c, .slice a rs.length cap], .int .i64 num] w fun e w' => ∃ v, e = .returned v ∧ Ls.Own w' w.heap.size v (words n c rs num) ∧ Below w.heap.size w w' := by
  obtain ⟨i0, hi, hz0, hz1, hz2⟩ := info_parts Ls.info_str
  obtain ⟨W, hW, hsz, hB, bx⟩ := box3_new' w (.int .i64 n) (.int .i64 c) (.slice a rs.length cap) 111
  have HW : Hid (w.alloc (.cells #[.int .i64 n, .int .i64 c, .slice a rs.length cap] 111) = W) := hW
  clear hW
  go_enter Tryz.func105, Tryz.ntmps105
  go_wp2_with fail
  rw [HW.out]
  clear HW
  refine (itab _ _ _ _ _ rs (hx.below hB) hl).mono ?_
  rintro e w1 ⟨rfl, hB1⟩
  have bx := bx.below hB1
  have hB := hB.trans (hB1.mono hB.size)
  clear hB1 hsz
  obtain ⟨hbx, ⟨cx0, cx1, cx2⟩, _⟩ := id bx
  cases ht : tok n c rs
  · have HR : Hid (words n c rs num = []) := by show _ = _; unfold words; rw [if_neg (by rw [ht]; simp)]
    go_wp2
    go_ret
    exact ⟨_, rfl, by rw [HR.out]; exact Ls.Own.nil _ _, hB⟩
  by_cases h0 : num < 0
  · have HR : Hid (words n c rs num = []) := by show _ = _; unfold words; rw [if_neg (by omega)]
    clear ht
    go_wp2
    go_ret
    exact ⟨_, rfl, by rw [HR.out]; exact Ls.Own.nil _ _, hB⟩
  by_cases h1 : c ≤ num
  · have HR : Hid (words n c rs num = []) := by show _ = _; unfold words; rw [if_neg (by omega)]
    clear ht
    go_wp2
    go_ret
    exact ⟨_, rfl, by rw [HR.out]; exact Ls.Own.nil _ _, hB⟩
  · have HR : Hid (words n c rs num = cat rs num.toNat) := by show _ = _; unfold words; rw [if_pos ⟨ht, by omega, by omega⟩]
    have HT : Hid (tok n c rs = true) := ht
    have hle := hB.size
    clear ht
    go_wp2_with (at_make; refine wpList_make_full _ rfl _ _ 33 rfl w.heap.size 9 i0 (.string ⟨#[]⟩) 1 Tryz.underlying33 hi hz0 hz1 _ _ _ _ rs.length rfl rfl (by omega) (by omega) (by rw [hz2]; omega) (by unfold maxLen; omega) (by omega) ?_; intro w2 hown hgrow; have bx2 := bx.below (below_none hgrow); obtain ⟨_, ⟨dx0, dx1, dx2⟩, _⟩ := id bx2)
    have hown' := Ls.own_made hown
    have hB1 := below_none hgrow
    have hB := hB.trans (hB1.mono hB.size)
    clear hown hgrow hB1
    go_loopw [29] (fun i wr => ∃ k : Nat, k ≤ rs.length ∧ i = .int .i64 k ∧ ∃ l : List ByteArray, l.length = rs.length ∧ Ls.Like l (cat rs num.toNat) k ∧ Ls.Own wr w.heap.size (.slice (some ⟨w1.heap.size, 0, none⟩) rs.length rs.length) l ∧ Below w.heap.size w wr) (fun i _ => rs.length - (intOf i).toNat)
    case atStart => exact ⟨0, Nat.zero_le _, rfl, _, by simp, fun j hj => by omega, hown', hB⟩
    case round =>
      obtain ⟨k, hk, rfl, l, hll, hlike, hown, hBr⟩ := hrel
      have hlen := cat_length rs num.toNat
      by_cases hlt : k < rs.length
      · rcases hx.below hBr with h0' | ⟨xb, xo, rfl, hxb, hxc⟩
        · rw [h0'] at hlt; simp at hlt
        · obtain ⟨v0, v1, v2, ⟨d0, d1, d2⟩, hr⟩ := hxc k hlt
          clear hxc
          obtain ⟨a0, q0, a1, q1, rfl, rfl, rfl, _, j0⟩ := hr
          have hnl := (tok_nums HT.out k hlt).2
          have hp : num.toNat < rs[k].cats.length := by omega
          have hp' : num < (rs[k].cats.length : Int) := by omega
          have hBa : Below wr.heap.size wr (wr.alloc (.cells #[.slice a0 rs[k].nums.length q0, .slice a1 rs[k].cats.length q1, .int .i64 rs[k].label] 150)) := (Below.refl _ _).alloc (Nat.le_refl _) _
          rcases j0.below hBa with h0' | ⟨yb, yo, rfl, hyb, hyc⟩
          · rw [h0'] at hp; simp at hp
          have hcy := hyc num.toNat hp
          have HL : Hid (Ls.Like (l.set k (rs[k].cats[num.toNat]'hp)) (cat rs num.toNat) (k + 1)) := by
            have := Ls.like_set hlike (by omega) (by omega)
            rwa [cat_get rs num.toNat k hlt hp] at this
          have hwl := word_le rs[k].cats num.toNat hp
          have hz := szR_at rs k hlt
          unfold Row.sz at hz
          have hxs : (rs[k].cats[num.toNat]'hp).size ≤ 1048576 := by omega
          obtain ⟨x, hx'⟩ : ∃ x, rs[k].cats[num.toNat]'hp = x := ⟨_, rfl⟩
          rw [hx'] at hcy HL hxs
          clear hx' hyc hwl hz
          have hBr' := hBr.trans (hBa.mono hBr.size)
          have hown1 := hown.below hBa
          have HNL : Hid ((rs[k].cats.length : Int) = c) := hnl
          clear hown hlike hBa hlen dx0 dx1 dx2 cx0 cx1 cx2 hnl
          go_wp2_with fail
          refine (clone _ _ (by omega)).mono ?_
          rintro e w4 ⟨rfl, hB4⟩
          have hBr' := hBr'.trans (hB4.mono hBr'.size)
          have hown1 := hown1.below hB4
          have hkl : k < l.length := by rw [hll]; exact hlt
          have hcl := hown1.cell hll k hkl
          have hcf := hown1.frozen hll k
          have hg1 := (hown1.ge w1.heap.size rfl).2
          have HO : Hid _ := hown1.set hll k x
          have HBn : Hid _ := hBr'.setCell (p := ⟨w1.heap.size, k, none⟩) (by exact hle) (.string x)
          clear hown1 hBr' hB4 d0 d1 d2 hcy
          go_wp2
          go_roundw
          case rel => exact ⟨k + 1, by omega, by go_num, l.set k x, by simpa using hll, HL.out, HO.out, HBn.out⟩
          case measure => simp [intOf]; omega
      · have e := Ls.like_all (xs := cat rs num.toNat) (ys := l) (by rw [hlen, show rs.length = k by omega]; exact hlike) (by omega)
        have HO : Hid (Ls.Own wr w.heap.size (.slice (some ⟨w1.heap.size, 0, none⟩) rs.length rs.length) (words n c rs num)) := by show Ls.Own _ _ _ _; rw [HR.out, ← e]; exact hown
        clear e hown hlike hlen hll
        go_wp2
        go_ret
        exact ⟨_, rfl, HO.out, hBr⟩
end Go.Proofs.YtifemdjookmboaaGreatDoor.Co
/-
  Pairs of words: contracts of Paired, of the program and of its model, over one plain function.
-/
namespace Go.Proofs.YtifemdjookmboaaGreatDoor.Pa
open Go.RowKit
open Go.Proofs.YtifemdjookmboaaGreatDoor.Wd
open Go.Proofs.YtifemdjookmboaaGreatDoor.Li (below_none)

theorem pr_size (a b : ByteArray) : (pr a b).size = a.size + 1 + b.size := by
  unfold pr; simp [ByteArray.size_append]; rfl
theorem paired_no {xs ys : List ByteArray} (h : ¬ xs.length = ys.length) : paired xs ys = [] := by unfold paired; rw [if_neg h]
theorem paired_yes {xs ys : List ByteArray} (h : xs.length = ys.length) : paired xs ys = List.zipWith pr xs ys := by unfold paired; rw [if_pos h]
theorem paired_len {xs ys : List ByteArray} (h : xs.length = ys.length) : (paired xs ys).length = xs.length := by rw [paired_yes h]; simp; omega
theorem paired_get {xs ys : List ByteArray} (h : xs.length = ys.length) (k : Nat) (hk : k < (paired xs ys).length) : (paired xs ys)[k] = pr (xs[k]'(by rw [paired_len h] at hk; exact hk)) (ys[k]'(by rw [paired_len h] at hk; omega)) := by
  simp [paired_yes h]
set_option maxHeartbeats 2000000 in
theorem ipair (w : World) (a b : Option Addr) (ca cb : Nat) (xs ys : List ByteArray) (hx : Ls.IsS w a xs) (hy : Ls.IsS w b ys) (hl : xs.length ≤ 1048576) (hl' : ys.length ≤ 1048576) (hz : ∀ j (h : j < xs.length), xs[j].size ≤ 1048576) (hz' : ∀ j (h : j < ys.length), ys[j].size ≤ 1048576) :
    Calls Tryz.prog 106 #[.slice a xs.length ca, .slice b ys.length cb] w fun e w' => ∃ v, e = .returned v ∧ Ls.Own w' w.heap.size v (paired xs ys) ∧ Below w.heap.size w w' := by
  by_cases he : xs.length = ys.length
  rotate_left
  · rw [paired_no he]
    have he' : ((xs.length : Int) != (ys.length : Int)) = true := by simp; omega
    go_enter Tryz.func106, Tryz.ntmps106
    go_wp2
    go_ret
    exact ⟨_, rfl, Ls.Own.nil _ _, Below.refl _ _⟩
  have he' : ((xs.length : Int) != (ys.length : Int)) = false := by simp; omega
  have hpl := paired_len he
  have HPL : Hid ((paired xs ys).length = xs.length) := hpl
  have HE : Hid (xs.length = ys.length) := he
  clear he hpl
  obtain ⟨i0, hi, hz0, hz1, hz2⟩ := info_parts Ls.info_str
  go_enter Tryz.func106, Tryz.ntmps106
  go_wp2_with (at_make; refine wpList_make_full _ rfl _ _ 33 rfl w.heap.size 9 i0 (.string ⟨#[]⟩) 1 Tryz.underlying33 hi hz0 hz1 _ _ _ _ xs.length rfl rfl (by omega) (by omega) (by rw [hz2]; omega) (by unfold maxLen; omega) (Nat.le_refl _) ?_; intro w1 hown hgrow)
  have hown' := Ls.own_made hown
  have hB1 := below_none hgrow
  clear hown hgrow
  go_loopw [18] (fun i wr => ∃ k : Nat, k ≤ xs.length ∧ i = .int .i64 k ∧ ∃ l : List ByteArray, l.length = xs.length ∧ Ls.Like l (paired xs ys) k ∧ Ls.Own wr w.heap.size (.slice (some ⟨w.heap.size, 0, none⟩) xs.length xs.length) l ∧ Below w.heap.size w wr) (fun i _ => xs.length - (intOf i).toNat)
  case atStart => exact ⟨0, Nat.zero_le _, rfl, _, by simp, fun j hj => by omega, hown', hB1⟩
  case round =>
    obtain ⟨k, hk, rfl, l, hll, hlike, hown, hB⟩ := hrel
    by_cases hlt : k < xs.length
    · have hly : k < ys.length := by have := HE.out; omega
      rcases hx with rfl | ⟨xb, xo, rfl, hxb, hxc⟩
      · simp at hlt
      rcases hy with rfl | ⟨yb, yo, rfl, hyb, hyc⟩
      · simp at hly
      have hcx : wr.cell? ⟨xb, xo + k, none⟩ = some (.string xs[k]) := (hB.cell (by exact hxb)).trans (hxc k hlt)
      have hcy : wr.cell? ⟨yb, yo + k, none⟩ = some (.string ys[k]) := (hB.cell (by exact hyb)).trans (hyc k hly)
      obtain ⟨cv, hcl⟩ : ∃ cv, wr.cell? ⟨w.heap.size, k, none⟩ = some (.string cv) := ⟨_, hown.cell hll k (by omega)⟩
      have hcf := hown.frozen hll k
      have HO : Hid (Ls.Own wr w.heap.size (.slice (some ⟨w.heap.size, 0, none⟩) xs.length xs.length) l) := hown
      have hkp : k < (paired xs ys).length := by rw [HPL.out]; exact hlt
      have HL : Hid (Ls.Like (l.set k (pr xs[k] ys[k])) (paired xs ys) (k + 1)) := by
        have := Ls.like_set hlike hkp (by rw [HPL.out]; exact hll)
        rwa [paired_get HE.out] at this
      have z1 := hz k hlt
      have z2 := hz' k hly
      have HLL : Hid (l.length = xs.length) := hll
      obtain ⟨x, ex⟩ : ∃ x, xs[k] = x := ⟨_, rfl⟩
      obtain ⟨y, ey⟩ : ∃ y, ys[k] = y := ⟨_, rfl⟩
      rw [ex] at hcx z1 HL
      rw [ey] at hcy z2 HL
      clear hown hlike hxc hyc ex ey hz hz' hll
      go_wp2
      go_roundw
      case rel => exact ⟨k + 1, by omega, by go_num, l.set k (pr x y), by simpa using HLL.out, HL.out, HO.out.set HLL.out k _, hB.setCell (p := ⟨w.heap.size, k, none⟩) (Nat.le_refl _) _⟩
      case measure => simp [intOf]; omega
    · obtain rfl : k = xs.length := by omega
      have HO : Hid (Ls.Own wr w.heap.size (.slice (some ⟨w.heap.size, 0, none⟩) xs.length xs.length) (paired xs ys)) := by
        have e := Ls.like_all (xs := paired xs ys) (by rw [HPL.out]; exact hlike) (by rw [HPL.out]; exact hll)
        rw [← e]; exact hown
      clear hown hlike hll
      go_wp2
      go_ret
      exact ⟨_, rfl, HO.out, hB⟩
end Go.Proofs.YtifemdjookmboaaGreatDoor.Pa
