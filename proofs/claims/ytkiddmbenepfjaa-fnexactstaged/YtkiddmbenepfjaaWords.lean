/-
  Words told by labels, by themselves: dictionaries, pairs, tallies of a word over places, the number that a tally gives.
-/
import Derived.Test.YtkiddmbenepfjaaRows
namespace Go.Proofs.Ytkiddmbenepfjaa.Wd

/-- A text by itself, for keys: two texts are alike just where their bytes are. -/
theorem ba_ext {a b : ByteArray} (h : a.data.toList = b.data.toList) : a = b := by
  obtain ⟨⟨l⟩⟩ := a; obtain ⟨⟨r⟩⟩ := b; simp at h; rw [h]

/-- The place of the first of xs that is s; how many there are, where none is. -/
def fst (s : ByteArray) : List ByteArray → Nat
  | [] => 0
  | x :: r => if x = s then 0 else fst s r + 1
theorem fst_le (s : ByteArray) : ∀ xs, fst s xs ≤ xs.length
  | [] => Nat.le_refl _
  | x :: r => by
    unfold fst
    split
    · omega
    · have := fst_le s r; simp; omega
theorem fst_lt {s : ByteArray} : ∀ {xs}, fst s xs < xs.length ↔ s ∈ xs
  | [] => by simp [fst]
  | x :: r => by
    unfold fst
    split
    · rename_i h; simp [h]
    · rename_i h
      have := fst_lt (s := s) (xs := r)
      simp only [List.length_cons, Nat.add_lt_add_iff_right, List.mem_cons]
      rw [this]
      constructor
      · exact .inr
      · rintro (rfl | h')
        · exact absurd rfl h
        · exact h'
theorem fst_at {s : ByteArray} : ∀ {xs : List ByteArray} (h : fst s xs < xs.length), xs[fst s xs] = s
  | [], h => by simp at h
  | x :: r, h => by
    by_cases e : x = s
    · have h0 : fst s (x :: r) = 0 := by simp [fst, e]
      simp only [h0, List.getElem_cons_zero]
      exact e
    · have h1 : fst s (x :: r) = fst s r + 1 := by simp [fst, e]
      simp only [h1, List.getElem_cons_succ]
      exact fst_at (by simp [h1] at h; exact h)
theorem fst_min {s : ByteArray} : ∀ {xs : List ByteArray} (j : Nat) (hj : j < xs.length), xs[j] = s → fst s xs ≤ j
  | [], j, h, _ => by simp at h
  | x :: r, j, h, e => by
    unfold fst
    split
    · omega
    · rename_i hx
      cases j with
      | zero => exact absurd e hx
      | succ j => have := fst_min (s := s) (xs := r) j (by simpa using h) (by simpa using e); omega
/-- IdOf: the place, or -1. -/
def idOf (xs : List ByteArray) (s : ByteArray) : Int := if fst s xs < xs.length then (fst s xs : Int) else -1
theorem idOf_found {xs : List ByteArray} {s : ByteArray} {k : Nat} (hk : k < xs.length) (h : xs[k] = s) (hn : ∀ j (hj : j < xs.length), j < k → ¬ xs[j] = s) : idOf xs s = k := by
  have h1 := fst_min k hk h
  have h2 : fst s xs < xs.length := by omega
  have h3 := fst_at h2
  have h4 : fst s xs = k := by
    apply Classical.byContradiction
    intro hne
    exact hn _ h2 (by omega) h3
  unfold idOf
  rw [if_pos h2, h4]
theorem idOf_none {xs : List ByteArray} {s : ByteArray} (hn : ∀ j (hj : j < xs.length), ¬ xs[j] = s) : idOf xs s = -1 := by
  unfold idOf
  rw [if_neg]
  intro h
  exact hn _ h (fst_at h)
theorem idOf_neg {xs : List ByteArray} {s : ByteArray} : idOf xs s < 0 ↔ ¬ s ∈ xs := by
  unfold idOf
  split
  · rename_i h; rw [fst_lt] at h; simp [h]
  · rename_i h; rw [fst_lt] at h; simp [h]
theorem idOf_lo (xs : List ByteArray) (s : ByteArray) : -1 ≤ idOf xs s := by unfold idOf; split <;> omega
theorem idOf_hi (xs : List ByteArray) (s : ByteArray) : idOf xs s < xs.length := by unfold idOf; split <;> omega

/-- The words that came, each once, in the order in which they came first. -/
def dict : List ByteArray → List ByteArray → List ByteArray
  | acc, [] => acc
  | acc, x :: r => if fst x acc < acc.length then dict acc r else dict (acc ++ [x]) r
theorem dict_old {acc r : List ByteArray} {x : ByteArray} (h : x ∈ acc) : dict acc (x :: r) = dict acc r := by simp only [dict]; rw [if_pos (fst_lt.2 h)]
theorem dict_new {acc r : List ByteArray} {x : ByteArray} (h : ¬ x ∈ acc) : dict acc (x :: r) = dict (acc ++ [x]) r := by simp only [dict]; rw [if_neg (fun h' => h (fst_lt.1 h'))]
def dictOf (ws : List ByteArray) : List ByteArray := dict [] ws
theorem dict_app : ∀ (a b acc : List ByteArray), dict acc (a ++ b) = dict (dict acc a) b
  | [], _, _ => rfl
  | y :: r, b, acc => by
    rw [List.cons_append]
    by_cases h : y ∈ acc
    · rw [dict_old h, dict_old h, dict_app r b acc]
    · rw [dict_new h, dict_new h, dict_app r b (acc ++ [y])]
theorem dict_ext : ∀ (ws acc : List ByteArray), ∃ t, dict acc ws = acc ++ t
  | [], acc => ⟨[], by simp [dict]⟩
  | y :: r, acc => by
    by_cases h : y ∈ acc
    · rw [dict_old h]; exact dict_ext r acc
    · rw [dict_new h]
      obtain ⟨t, ht⟩ := dict_ext r (acc ++ [y])
      exact ⟨y :: t, by rw [ht]; simp⟩
theorem dict_mem (s : ByteArray) : ∀ (ws acc : List ByteArray), s ∈ dict acc ws ↔ s ∈ acc ∨ s ∈ ws
  | [], acc => by simp [dict]
  | y :: r, acc => by
    by_cases h : y ∈ acc
    · rw [dict_old h, dict_mem s r acc, List.mem_cons]
      constructor
      · rintro (h' | h')
        · exact .inl h'
        · exact .inr (.inr h')
      · rintro (h' | rfl | h')
        · exact .inl h'
        · exact .inl h
        · exact .inr h'
    · rw [dict_new h, dict_mem s r (acc ++ [y])]
      simp [or_assoc]
theorem dictOf_mem {s : ByteArray} {ws : List ByteArray} : s ∈ dictOf ws ↔ s ∈ ws := by unfold dictOf; rw [dict_mem]; simp
theorem dict_nodup : ∀ (ws acc : List ByteArray), acc.Nodup → (dict acc ws).Nodup
  | [], acc, h => h
  | y :: r, acc, h => by
    by_cases hy : y ∈ acc
    · rw [dict_old hy]; exact dict_nodup r acc h
    · rw [dict_new hy]
      refine dict_nodup r _ ?_
      rw [List.nodup_append]
      exact ⟨h, by simp, fun a ha b hb e => by simp at hb; subst hb; subst e; exact hy ha⟩
theorem dictOf_nodup (ws : List ByteArray) : (dictOf ws).Nodup := dict_nodup ws [] List.nodup_nil
theorem dict_len : ∀ (ws acc : List ByteArray), (dict acc ws).length ≤ acc.length + ws.length
  | [], acc => by simp [dict]
  | y :: r, acc => by
    by_cases hy : y ∈ acc
    · rw [dict_old hy]; have := dict_len r acc; simp; omega
    · rw [dict_new hy]; have := dict_len r (acc ++ [y]); simp at this; simp; omega
theorem dictOf_len (ws : List ByteArray) : (dictOf ws).length ≤ ws.length := by have := dict_len ws []; simpa [dictOf] using this
theorem dict_id : ∀ (ws acc : List ByteArray), (acc ++ ws).Nodup → dict acc ws = acc ++ ws
  | [], acc, _ => by simp [dict]
  | y :: r, acc, h => by
    have hy : ¬ y ∈ acc := by
      intro hy
      rw [List.nodup_append] at h
      exact h.2.2 y hy y (by simp) rfl
    rw [dict_new hy, dict_id r (acc ++ [y]) (by simpa using h)]
    simp
theorem dictOf_id {ws : List ByteArray} (h : ws.Nodup) : dictOf ws = ws := by have := dict_id ws [] (by simpa using h); simpa [dictOf] using this
theorem dictOf_dictOf (ws : List ByteArray) : dictOf (dictOf ws) = dictOf ws := dictOf_id (dictOf_nodup ws)
/-- The first k words' dictionary, a word more. -/
theorem dictOf_old {ws : List ByteArray} {k : Nat} (hk : k < ws.length) (h : ws[k] ∈ ws.take k) : dictOf (ws.take (k + 1)) = dictOf (ws.take k) := by
  rw [List.take_succ_eq_append_getElem hk]
  show dict [] _ = _
  rw [dict_app, dict_old (show ws[k] ∈ dict [] (ws.take k) from dictOf_mem.2 h)]
  rfl
theorem dictOf_new {ws : List ByteArray} {k : Nat} (hk : k < ws.length) (h : ¬ ws[k] ∈ ws.take k) : dictOf (ws.take (k + 1)) = dictOf (ws.take k) ++ [ws[k]] := by
  rw [List.take_succ_eq_append_getElem hk]
  show dict [] _ = _
  rw [dict_app, dict_new (fun h' => h (dictOf_mem.1 (show ws[k] ∈ dictOf _ from h')))]
  rfl
/-- A word came first at k just where it is not among those ahead. -/
theorem fst_first {ws : List ByteArray} {k : Nat} (hk : k < ws.length) : fst ws[k] ws = k ↔ ¬ ws[k] ∈ ws.take k := by
  constructor
  · intro h hm
    obtain ⟨j, hj, e⟩ := List.getElem_of_mem hm
    have hj' : j < k := by simp at hj; omega
    have := fst_min j (by omega) (show ws[j] = ws[k] by rw [← e]; simp)
    omega
  · intro h
    have h1 := fst_min k hk rfl
    have h2 : fst ws[k] ws < ws.length := by omega
    have h3 := fst_at h2
    apply Classical.byContradiction
    intro hne
    apply h
    rw [List.mem_take_iff_getElem]
    exact ⟨fst ws[k] ws, by omega, h3⟩
/-- A word of the dictionary stands there no later than it came. -/
theorem dict_place {ws : List ByteArray} {k : Nat} (hk : k < ws.length) : fst ws[k] (dictOf ws) ≤ k := by
  have h1 : ws[k] ∈ dictOf (ws.take (k + 1)) := dictOf_mem.2 (by rw [List.take_succ_eq_append_getElem hk]; exact List.mem_append_right _ (List.mem_singleton.2 rfl))
  have e : dictOf ws = dict (dictOf (ws.take (k + 1))) (ws.drop (k + 1)) := by
    unfold dictOf; rw [← dict_app, List.take_append_drop]
  obtain ⟨t, ht⟩ := dict_ext (ws.drop (k + 1)) (dictOf (ws.take (k + 1)))
  rw [← e] at ht
  obtain ⟨j, hj, e⟩ := List.getElem_of_mem h1
  have hl := dictOf_len (ws.take (k + 1))
  have hjk : j ≤ k := by simp at hl; omega
  refine Nat.le_trans (fst_min j (by rw [ht]; simp; omega) ?_) hjk
  simp only [ht]
  rw [List.getElem_append_left hj, e]

/-- Where each word of a list came first; 0 of one that did not come. -/
def hasL (l : List ByteArray) (s : ByteArray) : Bool := decide (fst s l < l.length)
def valL (l : List ByteArray) (s : ByteArray) : Int := if fst s l < l.length then (fst s l : Int) else 0
theorem hasL_iff {l : List ByteArray} {s : ByteArray} : hasL l s = true ↔ s ∈ l := by unfold hasL; rw [decide_eq_true_iff]; exact fst_lt
theorem hasL_no {l : List ByteArray} {s : ByteArray} (h : ¬ s ∈ l) : hasL l s = false := by
  cases e : hasL l s
  · rfl
  · exact absurd (hasL_iff.1 e) h
theorem fst_snoc_in {s : ByteArray} (x : ByteArray) : ∀ {l : List ByteArray}, s ∈ l → fst s (l ++ [x]) = fst s l
  | [], h => by simp at h
  | y :: r, h => by
    simp only [List.cons_append, fst]
    by_cases e : y = s
    · rw [if_pos e, if_pos e]
    · rw [if_neg e, if_neg e, fst_snoc_in x (by rcases List.mem_cons.1 h with h | h; exact absurd h.symm e; exact h)]
theorem fst_snoc_out {s : ByteArray} (x : ByteArray) : ∀ {l : List ByteArray}, ¬ s ∈ l → fst s (l ++ [x]) = l.length + (if x = s then 0 else 1)
  | [], _ => by simp [fst]
  | y :: r, h => by
    simp only [List.cons_append, fst, List.length_cons]
    rw [if_neg (fun e => h (by simp [e])), fst_snoc_out x (fun h' => h (by simp [h']))]
    omega
theorem snoc_old {l : List ByteArray} {x : ByteArray} (h : x ∈ l) (s : ByteArray) : hasL (l ++ [x]) s = hasL l s ∧ valL (l ++ [x]) s = valL l s := by
  by_cases hs : s ∈ l
  · have h1 := fst_lt.2 hs
    have e := fst_snoc_in x hs
    refine ⟨by rw [hasL_iff.2 hs, hasL_iff.2 (List.mem_append_left _ hs)], ?_⟩
    unfold valL
    rw [e, if_pos h1, if_pos (by simp; omega)]
  · have hx : ¬ s ∈ l ++ [x] := by
      simp only [List.mem_append, List.mem_singleton, not_or]
      exact ⟨hs, fun e => hs (e ▸ h)⟩
    refine ⟨by rw [hasL_no hs, hasL_no hx], ?_⟩
    unfold valL
    rw [if_neg (fun h' => hs (fst_lt.1 h')), if_neg (fun h' => hx (fst_lt.1 h'))]
theorem snoc_new {l : List ByteArray} {x : ByteArray} (h : ¬ x ∈ l) (s : ByteArray) : hasL (l ++ [x]) s = (if s = x then true else hasL l s) ∧ valL (l ++ [x]) s = (if s = x then (l.length : Int) else valL l s) := by
  by_cases e : s = x
  · subst e
    rw [if_pos rfl, if_pos rfl]
    have hm : s ∈ l ++ [s] := by simp
    refine ⟨hasL_iff.2 hm, ?_⟩
    unfold valL
    rw [if_pos (fst_lt.2 hm), fst_snoc_out s h, if_pos rfl]
    simp
  · rw [if_neg e, if_neg e]
    by_cases hs : s ∈ l
    · have h1 := fst_lt.2 hs
      refine ⟨by rw [hasL_iff.2 hs, hasL_iff.2 (List.mem_append_left _ hs)], ?_⟩
      unfold valL
      rw [fst_snoc_in x hs, if_pos h1, if_pos (by simp; omega)]
    · have hx : ¬ s ∈ l ++ [x] := by
        simp only [List.mem_append, List.mem_singleton, not_or]
        exact ⟨hs, e⟩
      refine ⟨by rw [hasL_no hs, hasL_no hx], ?_⟩
      unfold valL
      rw [if_neg (fun h' => hs (fst_lt.1 h')), if_neg (fun h' => hx (fst_lt.1 h'))]
theorem valL_at {ws : List ByteArray} {k : Nat} (hk : k < ws.length) : valL ws ws[k] = (fst ws[k] ws : Int) := by
  unfold valL; rw [if_pos (fst_lt.2 (List.getElem_mem hk))]
/-- Two lists of words, pair by pair, a '+' between. -/
def pr (a b : ByteArray) : ByteArray := a ++ ⟨#[43]⟩ ++ b
def paired (xs ys : List ByteArray) : List ByteArray := if xs.length = ys.length then List.zipWith pr xs ys else []
theorem paired_le (xs ys : List ByteArray) : (paired xs ys).length ≤ xs.length := by
  unfold paired
  split
  · simp; omega
  · simp
/-- The word, the label at a place. -/
def wat (ws : List ByteArray) (j : Int) : ByteArray := ws.getD j.toNat ⟨#[]⟩
def lat (ls : List Int) (j : Int) : Int := ls.getD j.toNat 0
theorem wat_get {ws : List ByteArray} {j : Int} (h : j.toNat < ws.length) : wat ws j = ws[j.toNat] := by simp [wat, List.getD_eq_getElem?_getD, List.getElem?_eq_getElem h]
theorem lat_get {ls : List Int} {j : Int} (h : j.toNat < ls.length) : lat ls j = ls[j.toNat] := by simp [lat, List.getD_eq_getElem?_getD, List.getElem?_eq_getElem h]
/-- How many of the places have the word s. -/
def tr (ws : List ByteArray) (s : ByteArray) : List Int → Int
  | [] => 0
  | j :: r => (if wat ws j = s then 1 else 0) + tr ws s r
/-- Their labels together. -/
def tl (ws : List ByteArray) (ls : List Int) (s : ByteArray) : List Int → Int
  | [] => 0
  | j :: r => (if wat ws j = s then lat ls j else 0) + tl ws ls s r
theorem tr_snoc (ws : List ByteArray) (s : ByteArray) (x : Int) : ∀ js, tr ws s (js ++ [x]) = tr ws s js + (if wat ws x = s then 1 else 0)
  | [] => by simp [tr]
  | j :: r => by simp only [List.cons_append, tr]; rw [tr_snoc ws s x r]; omega
theorem tl_snoc (ws : List ByteArray) (ls : List Int) (s : ByteArray) (x : Int) : ∀ js, tl ws ls s (js ++ [x]) = tl ws ls s js + (if wat ws x = s then lat ls x else 0)
  | [] => by simp [tl]
  | j :: r => by simp only [List.cons_append, tl]; rw [tl_snoc ws ls s x r]; omega
theorem tr_bd (ws : List ByteArray) (s : ByteArray) : ∀ js, 0 ≤ tr ws s js ∧ tr ws s js ≤ (js.length : Int)
  | [] => by simp [tr]
  | j :: r => by have := tr_bd ws s r; simp only [tr, List.length_cons]; split <;> omega
/-- Every label of the list is of a size that labels have. -/
def Sml (ls : List Int) : Prop := ∀ j : Int, -1000000 ≤ lat ls j ∧ lat ls j ≤ 1000000
theorem tl_bd {ws : List ByteArray} {ls : List Int} (h : Sml ls) (s : ByteArray) : ∀ js, -1000000 * tr ws s js ≤ tl ws ls s js ∧ tl ws ls s js ≤ 1000000 * tr ws s js
  | [] => by simp [tr, tl]
  | j :: r => by have := tl_bd (ws := ws) h s r; have := h j; simp only [tr, tl]; split <;> omega
theorem sml_of {ls : List Int} (h : ∀ x ∈ ls, -1000000 ≤ x ∧ x ≤ 1000000) : Sml ls := by
  intro j
  unfold lat
  rw [List.getD_eq_getElem?_getD]
  cases e : ls[j.toNat]? with
  | none => simp
  | some x => exact h x (List.mem_of_getElem? e)
/-- The tally of a word over places. -/
def tal (ws : List ByteArray) (ls js : List Int) (s : ByteArray) : Int × Int := (tr ws s js, tl ws ls s js)
/-- The places 0 up to n - 1. -/
def idx (n : Nat) : List Int := (List.range n).map fun (i : Nat) => (i : Int)
theorem idx_succ (n : Nat) : idx (n + 1) = idx n ++ [(n : Int)] := by simp [idx, List.range_succ]
theorem idx_len (n : Nat) : (idx n).length = n := by simp [idx]
def ups (f : ByteArray → Int × Int) (s : ByteArray) (p : Int × Int) : ByteArray → Int × Int := fun t => if t = s then p else f t
theorem tal_step (ws : List ByteArray) (ls js : List Int) (k : Nat) (hk : k < js.length) (t : ByteArray) :
    ups (tal ws ls (js.take k)) (wat ws js[k]) ((tal ws ls (js.take k) (wat ws js[k])).1 + 1, (tal ws ls (js.take k) (wat ws js[k])).2 + lat ls js[k]) t = tal ws ls (js.take (k + 1)) t := by
  rw [List.take_succ_eq_append_getElem hk]
  unfold ups tal
  rw [tr_snoc, tl_snoc]
  by_cases h : t = wat ws js[k]
  · subst h; simp
  · rw [if_neg h, if_neg (fun e => h e.symm), if_neg (fun e => h e.symm)]; simp
theorem tal_back (ws : List ByteArray) (ls js : List Int) (k : Nat) (hk : k < js.length) (t : ByteArray) :
    ups (tal ws ls (js.take (k + 1))) (wat ws js[k]) ((tal ws ls (js.take (k + 1)) (wat ws js[k])).1 - 1, (tal ws ls (js.take (k + 1)) (wat ws js[k])).2 - lat ls js[k]) t = tal ws ls (js.take k) t := by
  rw [List.take_succ_eq_append_getElem hk]
  unfold ups tal
  simp only [tr_snoc, tl_snoc]
  by_cases h : t = wat ws js[k]
  · subst h; simp
  · rw [if_neg h, if_neg (fun e => h e.symm), if_neg (fun e => h e.symm)]; simp
theorem tal_one (ws : List ByteArray) (ls js : List Int) (hs : Sml ls) (k : Nat) (hk : k < js.length) : 1 ≤ (tal ws ls (js.take (k + 1)) (wat ws js[k])).1 ∧ ((tal ws ls (js.take (k + 1)) (wat ws js[k])).1 = 1 → (tal ws ls (js.take (k + 1)) (wat ws js[k])).2 = lat ls js[k]) := by
  rw [List.take_succ_eq_append_getElem hk]
  unfold tal
  rw [tr_snoc, tl_snoc, if_pos rfl, if_pos rfl]
  have h1 := tr_bd ws (wat ws js[k]) (js.take k)
  have h2 := tl_bd (ws := ws) hs (wat ws js[k]) (js.take k)
  exact ⟨by simp only; omega, fun h => by simp only at h ⊢; omega⟩
theorem tal_bd (ws : List ByteArray) (ls js : List Int) (hs : Sml ls) (s : ByteArray) (hl : js.length ≤ 60) : 0 ≤ (tal ws ls js s).1 ∧ (tal ws ls js s).1 ≤ 60 ∧ -60000000 ≤ (tal ws ls js s).2 ∧ (tal ws ls js s).2 ≤ 60000000 := by
  have h1 := tr_bd ws s js
  have h2 := tl_bd (ws := ws) hs s js
  unfold tal
  exact ⟨by simp only; omega, by simp only; omega, by simp only; omega, by simp only; omega⟩
end Go.Proofs.Ytkiddmbenepfjaa.Wd
