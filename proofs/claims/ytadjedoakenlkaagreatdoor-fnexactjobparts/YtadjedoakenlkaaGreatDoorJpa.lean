/-
  A job's text taken apart: plain functions of lists. What the model of the document says of a text ('Jp'), what the program reckons ('Ji'); the two are the same.
-/
import Derived.Test.YtadjedoakenlkaaGreatDoorRsc
namespace Go.Proofs.YtadjedoakenlkaaGreatDoor.Jp
set_option maxRecDepth 20000
open Go.Proofs.YtadjedoakenlkaaGreatDoor.Mt (nums nums_cons nums_nil)
open Go.Proofs.YtadjedoakenlkaaGreatDoor.Rs (sps nums_sps pieces_sps snum snum_itoa snum_back b11 itoa_no32)
set_option linter.unusedVariables false
/-- A line: a word, then so many numbers of at most eleven digits. -/
def NL (word : List UInt8) (k : Nat) (l : List UInt8) (xs : List Int) : Prop := l = word ++ nums xs ∧ xs.length = k ∧ ∀ x ∈ xs, b11 x
theorem b11_bd {x : Int} (h : b11 x) : -1000000000000 ≤ x ∧ x ≤ 1000000000000 := by unfold b11 at h; omega
theorem inums_of {xs : List Int} (h : ∀ x ∈ xs, b11 x) : Rm.inums (nums xs) = some xs := by
  have := Rm.inums_nums (e := []) (.inl rfl) xs (fun x hx => b11_bd (h x hx))
  rwa [List.append_nil] at this
theorem NL.one {word l : List UInt8} {k : Nat} {xs ys : List Int} (h : NL word k l xs) (h' : NL word k l ys) : xs = ys := by
  have e : nums xs = nums ys := List.append_cancel_left (h.1.symm.trans h'.1)
  have h1 := inums_of h.2.2
  have h2 := inums_of h'.2.2
  rw [e, h2] at h1
  exact (Option.some.inj h1).symm
/-! ### As the program reads such a line -/
def trim (l word : List UInt8) : List UInt8 := if word <+: l then l.drop word.length else l
theorem trim_of (word r : List UInt8) : trim (word ++ r) word = r := by
  unfold trim
  rw [if_pos (List.prefix_append _ _)]
  simp
theorem nl_yes {word l : List UInt8} {k : Nat} {xs : List Int} (h2 : xs.length = k) (h3 : word ++ nums xs = l) (h4 : ∀ x ∈ xs, b11 x) : NL word k l xs := ⟨h3.symm, h2, h4⟩
theorem nl_read {word l : List UInt8} {k : Nat} {xs : List Int} (h : NL word k l xs) : Rm.inums (trim l word) = some xs := by
  rw [h.1, trim_of]
  exact inums_of h.2.2
/-! ### As the model reads it -/
noncomputable def snums : List (List UInt8) → Option (List Int)
  | [] => some []
  | f :: fs => match snum f, snums fs with
    | some v, some vs => some (v :: vs)
    | _, _ => none
theorem snums_map : ∀ (l : List Int), (∀ x ∈ l, b11 x) → snums (l.map Lib.itoa) = some l
  | [], _ => rfl
  | x :: l, h => by
    have h1 := snum_itoa (h x (by simp))
    have h2 := snums_map l (fun y hy => h y (by simp [hy]))
    simp only [List.map_cons, snums, h1, h2]
theorem snum_b11 {s : List UInt8} {v : Int} (h : snum s = some v) : b11 v := by
  unfold snum at h
  split at h
  · rename_i hc
    have := Rs.sgn_bd hc.1.2
    cases h
    exact this
  · cases h
theorem snums_back : ∀ {fs : List (List UInt8)} {xs : List Int}, snums fs = some xs → fs = xs.map Lib.itoa ∧ (∀ x ∈ xs, b11 x)
  | [], xs, h => by cases h; simp
  | f :: fs, xs, h => by
    unfold snums at h
    cases h1 : snum f with
    | none => rw [h1] at h; cases h
    | some v =>
      cases h2 : snums fs with
      | none => rw [h1, h2] at h; cases h
      | some vs =>
        rw [h1, h2] at h
        cases h
        obtain ⟨e, hb⟩ := snums_back h2
        refine ⟨by rw [List.map_cons, snum_back h1, ← e], fun x hx => ?_⟩
        rcases List.mem_cons.1 hx with rfl | hx
        · exact snum_b11 h1
        · exact hb x hx
theorem snums_snoc : ∀ (fs : List (List UInt8)) (f : List UInt8), snums (fs ++ [f]) = (match snums fs, snum f with
    | some vs, some v => some (vs ++ [v])
    | _, _ => none)
  | [], f => by
    simp only [List.nil_append, snums]
    cases snum f <;> rfl
  | g :: fs, f => by
    have ih := snums_snoc fs f
    rw [List.cons_append, snums, ih]
    simp only [snums]
    cases snum g <;> cases snums fs <;> cases snum f <;> rfl
theorem snums_no : ∀ {fs : List (List UInt8)} {k : Nat} (hk : k < fs.length), snum fs[k] = none → snums fs = none
  | f :: fs, 0, _, h => by
    have h : snum f = none := h
    simp only [snums, h]
  | f :: fs, k + 1, hk, h => by
    have ih := snums_no (fs := fs) (k := k) (by simpa using hk) (by simpa using h)
    simp only [snums, ih]
    cases snum f <;> rfl
theorem pieces_join (c : UInt8) : ∀ (l a : List UInt8) (ws : List (List UInt8)), Pc.pieces c l = a :: ws → l = a ++ (ws.map fun x => c :: x).flatten
  | [], a, ws, h => by
    simp [Pc.pieces] at h
    obtain ⟨rfl, rfl⟩ := h
    rfl
  | x :: l, a, ws, h => by
    have hne := Pc.pieces_ne c l
    unfold Pc.pieces at h
    cases hp : Pc.pieces c l with
    | nil => exact absurd hp hne
    | cons y ys =>
      have ih := pieces_join c l y ys hp
      rw [hp] at h
      split at h
      · rename_i hx
        simp only [List.cons.injEq] at h
        obtain ⟨rfl, rfl⟩ := h
        subst hx
        simp [ih]
      · simp only [List.headD_cons, List.tail_cons, List.cons.injEq] at h
        obtain ⟨rfl, rfl⟩ := h
        rw [ih]
        simp
theorem sps_flat : ∀ ws : List (List UInt8), sps ws = (ws.map fun x => 32 :: x).flatten
  | [] => rfl
  | x :: ws => by simp [sps, sps_flat ws]
theorem nl_model {word l : List UInt8} {k : Nat} {ws : List (List UInt8)} {xs : List Int} (hp : Pc.pieces 32 l = word :: ws) (hl : ws.length = k) (hs : snums ws = some xs) : NL word k l xs := by
  obtain ⟨e, hb⟩ := snums_back hs
  refine ⟨?_, ?_, hb⟩
  · rw [pieces_join 32 l word ws hp, ← sps_flat, e, ← nums_sps]
  · rw [← hl, e, List.length_map]
theorem nl_pieces {word l : List UInt8} {k : Nat} {xs : List Int} (hw : (32 : UInt8) ∉ word) (h : NL word k l xs) : Pc.pieces 32 l = word :: xs.map Lib.itoa ∧ snums (xs.map Lib.itoa) = some xs := by
  refine ⟨?_, snums_map xs h.2.2⟩
  rw [h.1, nums_sps]
  refine pieces_sps _ hw _ (fun x hx => ?_)
  obtain ⟨y, _, rfl⟩ := List.mem_map.1 hx
  exact itoa_no32 y
/-! ### Lines -/
/-- Lines, each with its end. -/
def unl (ls : List (List UInt8)) : List UInt8 := (ls.map fun x => x ++ [10]).flatten
theorem unl_cons (x : List UInt8) (ls : List (List UInt8)) : unl (x :: ls) = x ++ 10 :: unl ls := by simp [unl]
theorem unl_nil : unl [] = [] := rfl
theorem pieces_unl : ∀ (ls : List (List UInt8)), (∀ x ∈ ls, (10 : UInt8) ∉ x) → Pc.pieces 10 (unl ls) = ls ++ [[]]
  | [], _ => rfl
  | x :: ls, h => by
    rw [unl_cons, Pc.pieces_cut 10 _ x (h x (by simp)), pieces_unl ls (fun y hy => h y (by simp [hy]))]
    rfl
theorem pieces_no10 (c : UInt8) : ∀ (l : List UInt8), ∀ x ∈ Pc.pieces c l, c ∉ x
  | [], x, hx => by simp [Pc.pieces] at hx; subst hx; simp
  | y :: l, x, hx => by
    have ih := pieces_no10 c l
    have hne := Pc.pieces_ne c l
    unfold Pc.pieces at hx
    split at hx
    · rcases List.mem_cons.1 hx with rfl | h
      · simp
      · exact ih x h
    · rename_i hy
      cases hp : Pc.pieces c l with
      | nil => exact absurd hp hne
      | cons z zs =>
        rw [hp] at hx ih
        simp only [List.headD_cons, List.tail_cons] at hx
        rcases List.mem_cons.1 hx with rfl | h
        · intro hm
          rcases List.mem_cons.1 hm with e | e
          · exact hy e.symm
          · exact ih z (by simp) e
        · exact ih x (by simp [h])
/-- Pieces the last of which is empty: the text is lines, each with its end. -/
theorem unl_of {s : List UInt8} {ls : List (List UInt8)} (h : Pc.pieces 10 s = ls ++ [[]]) : s = unl ls ∧ ∀ x ∈ ls, (10 : UInt8) ∉ x := by
  have hn := pieces_no10 10 s
  rw [h] at hn
  refine ⟨?_, fun x hx => hn x (by simp [hx])⟩
  cases ls with
  | nil =>
    have := pieces_join 10 s [] [] h
    simpa [unl] using this
  | cons a ls =>
    have := pieces_join 10 s a (ls ++ [[]]) (by rw [h]; rfl)
    rw [this, unl_cons]
    clear this hn h
    have key : ∀ (ls : List (List UInt8)), ((ls ++ [[]]).map fun x => (10 : UInt8) :: x).flatten = 10 :: unl ls := by
      intro ls
      induction ls with
      | nil => rfl
      | cons y ls ih =>
        rw [List.cons_append, List.map_cons, List.flatten_cons, ih, unl_cons]
        simp
    rw [key]
/-- A text with an end of line at its end. -/
theorem ends_lines {s : List UInt8} (h : ∃ r, s = r ++ [10]) : ∃ ls, s = unl ls ∧ ∀ x ∈ ls, (10 : UInt8) ∉ x := by
  obtain ⟨r, rfl⟩ := h
  cases hp : Pc.pieces 10 r with
  | nil => exact absurd hp (Pc.pieces_ne 10 r)
  | cons a ws =>
    have e := pieces_join 10 r a ws hp
    have hn := pieces_no10 10 r
    rw [hp] at hn
    refine ⟨a :: ws, ?_, hn⟩
    rw [e]
    clear hp e hn
    induction ws generalizing a with
    | nil => simp [unl]
    | cons y ws ih =>
      have := ih y
      rw [unl_cons, ← this]
      simp
theorem unl_ends {ls : List (List UInt8)} (h : ¬ ls = []) : ∃ r, unl ls = r ++ [10] := by
  induction ls with
  | nil => exact absurd rfl h
  | cons x ls ih =>
    rw [unl_cons]
    cases ls with
    | nil => exact ⟨x, by simp [unl]⟩
    | cons y ls =>
      obtain ⟨r, hr⟩ := ih (by simp)
      exact ⟨x ++ 10 :: r, by rw [hr]; simp⟩
/-! ### Two tables apart -/
def dd : List UInt8 := [45, 45]
def sep : List UInt8 := [10, 45, 45, 10]
def modes : List (List UInt8) := [[109, 111, 100, 101, 108], [116, 101, 108, 108], [106, 117, 100, 103, 101], [99, 114, 111, 115, 115]]
/-- The model's loop over the lines of both tables. -/
def sp : List (List UInt8) → Bool → List UInt8 → List UInt8 → Bool × List UInt8 × List UInt8
  | [], b, f, l => (b, f, l)
  | x :: xs, b, f, l => if x = dd ∧ b = false then sp xs true f l else if b = true then sp xs b f (l ++ x ++ [10]) else sp xs b (f ++ x ++ [10]) l
theorem sp_true : ∀ (ls : List (List UInt8)) (f l : List UInt8), sp ls true f l = (true, f, l ++ unl ls)
  | [], f, l => by simp [sp, unl]
  | x :: ls, f, l => by
    rw [sp, if_neg (by simp), if_pos rfl, sp_true ls f _, unl_cons]
    simp
theorem index_cons (c : UInt8) (l p : List UInt8) : Lib.index (c :: l) p = if p.isPrefixOf (c :: l) then 0 else (if Lib.index l p = -1 then -1 else Lib.index l p + 1) := by
  rw [Lib.index]
  by_cases h : Lib.index l p = -1
  · simp [h]
  · simp [h]
theorem cut_eq {s A B : List UInt8} (h : Lib.index s sep = (A.length : Int)) (e : s = A ++ sep ++ B) : Lib.cut s sep = (A, B, true) := by
  unfold Lib.cut
  rw [if_pos (by rw [h]; omega), h]
  simp [e]
/-- Where the two dashes come first. -/
theorem index_lines : ∀ (ls : List (List UInt8)), (∀ x ∈ ls, (10 : UInt8) ∉ x) → ∀ (a : List UInt8), (10 : UInt8) ∉ a → ∀ f l,
    (∃ A B, a ++ 10 :: unl ls = A ++ sep ++ B ∧ Lib.index (a ++ 10 :: unl ls) sep = (A.length : Int) ∧ sp ls false (f ++ a ++ [10]) l = (true, f ++ A ++ [10], l ++ B) ∧ ∃ C, A = a ++ C ∧ (C = [] ∨ ∃ D, C = 10 :: D)) ∨
    (Lib.index (a ++ 10 :: unl ls) sep = -1 ∧ (sp ls false (f ++ a ++ [10]) l).1 = false) := by
  intro ls
  induction ls with
  | nil =>
    intro _ a ha f l
    right
    refine ⟨?_, by simp [sp]⟩
    rw [unl_nil]
    induction a with
    | nil => decide
    | cons c a ih =>
      have hc : ¬ c = 10 := fun e => ha (by simp [e])
      have := ih (fun h => ha (by simp [h]))
      rw [List.cons_append, index_cons, this, if_neg, if_pos rfl]
      intro e
      simp [sep, List.isPrefixOf] at e
      exact hc e.1.symm
  | cons x ls ih =>
    intro hn a ha f l
    have hx := hn x (by simp)
    have hn' : ∀ y ∈ ls, (10 : UInt8) ∉ y := fun y hy => hn y (by simp [hy])
    -- the signs ahead of the end of line do not matter
    have skip : ∀ (a : List UInt8), (10 : UInt8) ∉ a → ∀ R, Lib.index (a ++ 10 :: R) sep = if Lib.index (10 :: R) sep = -1 then -1 else (a.length : Int) + Lib.index (10 :: R) sep := by
      intro a
      induction a with
      | nil => intro _ R; simp
      | cons c a ihc =>
        intro h R
        have hc : ¬ c = 10 := fun e => h (by simp [e])
        have h1 := ihc (fun h' => h (by simp [h'])) R
        have hp : ¬ sep.isPrefixOf (c :: (a ++ 10 :: R)) = true := by
          intro e
          simp [sep, List.isPrefixOf] at e
          exact hc e.1.symm
        rw [List.cons_append, index_cons, if_neg hp, h1]
        have hge : -1 ≤ Lib.index (10 :: R) sep := Lib.index_ge _ _
        by_cases h2 : Lib.index (10 :: R) sep = -1
        · simp [h2]
        · rw [if_neg h2, if_neg h2, if_neg (by omega), List.length_cons]
          omega
    by_cases hd : x = dd
    · left
      subst hd
      refine ⟨a, unl ls, ?_, ?_, ?_, [], by simp, .inl rfl⟩
      · rw [unl_cons]; simp [sep, dd]
      · rw [skip a ha, unl_cons]
        have : Lib.index (10 :: (dd ++ 10 :: unl ls)) sep = 0 := by
          rw [index_cons, if_pos]
          simp [sep, dd, List.isPrefixOf]
        rw [this]
        simp
      · rw [sp, if_pos ⟨rfl, rfl⟩, sp_true]
    · have hnp : ¬ sep.isPrefixOf (10 :: unl (x :: ls)) = true := by
        rw [unl_cons]
        intro e
        apply hd
        have e : (45 : UInt8) :: 45 :: 10 :: [] <+: x ++ 10 :: unl ls := by
          simpa [sep, List.isPrefixOf] using e
        obtain ⟨r, hr⟩ := e
        match x, hx, hr with
        | [], _, hr => simp at hr
        | [p], _, hr => simp at hr
        | [p, q], _, hr =>
          simp at hr
          obtain ⟨rfl, rfl, _⟩ := hr
          rfl
        | p :: q :: r' :: t, hx, hr =>
          simp at hr
          obtain ⟨rfl, rfl, rfl, _⟩ := hr
          simp at hx
      have hi : Lib.index (10 :: unl (x :: ls)) sep = if Lib.index (x ++ 10 :: unl ls) sep = -1 then -1 else Lib.index (x ++ 10 :: unl ls) sep + 1 := by
        rw [index_cons, if_neg hnp, unl_cons]
      have hsp : sp (x :: ls) false (f ++ a ++ [10]) l = sp ls false ((f ++ a ++ [10]) ++ x ++ [10]) l := by
        rw [sp, if_neg (fun e => hd e.1), if_neg (by simp)]
      rcases ih hn' x hx (f ++ a ++ [10]) l with ⟨A, B, e1, e2, e3, _⟩ | ⟨e2, e3⟩
      · left
        refine ⟨a ++ 10 :: A, B, ?_, ?_, ?_, 10 :: A, rfl, .inr ⟨A, rfl⟩⟩
        · rw [unl_cons, e1]; simp
        · rw [skip a ha, hi, e2, if_neg (by omega), if_neg (by omega)]
          simp
        · rw [hsp, e3]; simp
      · right
        refine ⟨?_, by rw [hsp]; exact e3⟩
        rw [skip a ha, hi, e2]
        simp
/-! ### The whole -/
def wSchema : List UInt8 := [115, 99, 104, 101, 109, 97]
def wConf : List UInt8 := [99, 111, 110, 102]
/-- As the model says it. -/
def Jp (s : List UInt8) (xs ys : List Int) (F L : List UInt8) : Prop :=
  s.length ≤ 9000 ∧ ∃ l0 l1 mode Ls, Pc.pieces 10 s = l0 :: l1 :: mode :: (Ls ++ [[]]) ∧ NL wSchema 2 l0 xs ∧ NL wConf 7 l1 ys ∧ mode ∈ modes ∧ sp Ls false (mode ++ [10]) [] = (true, F, L)
def c1 (s : List UInt8) : List UInt8 := (Lib.cut s [10]).1
def c2 (s : List UInt8) : List UInt8 := (Lib.cut s [10]).2.1
/-- As the program reckons it. -/
def Ji (s : List UInt8) (xs ys : List Int) (F L : List UInt8) : Prop :=
  s.length ≤ 9000 ∧ (∃ r, s = r ++ [10]) ∧ NL wSchema 2 (c1 s) xs ∧ NL wConf 7 (c1 (c2 s)) ys ∧ (Lib.cut (c2 (c2 s)) sep).2.2 = true ∧ c1 (Lib.cut (c2 (c2 s)) sep).1 ∈ modes ∧ F = (Lib.cut (c2 (c2 s)) sep).1 ++ [10] ∧ L = (Lib.cut (c2 (c2 s)) sep).2.1
theorem c_at {a r : List UInt8} (h : (10 : UInt8) ∉ a) : c1 (a ++ 10 :: r) = a ∧ c2 (a ++ 10 :: r) = r := by
  unfold c1 c2
  rw [Pc.cut_at 10 a r h]
  exact ⟨rfl, rfl⟩
theorem c_no {a : List UInt8} (h : (10 : UInt8) ∉ a) : c1 a = a ∧ c2 a = [] := by
  unfold c1 c2
  rw [Pc.cut_no 10 a h]
  exact ⟨rfl, rfl⟩
theorem cut_nil : Lib.cut [] sep = ([], [], false) := by decide
theorem ji_jp {s : List UInt8} {xs ys : List Int} {F L : List UInt8} : Ji s xs ys F L ↔ Jp s xs ys F L := by
  constructor
  · rintro ⟨h0, h1, h2, h3, h4, h5, rfl, rfl⟩
    obtain ⟨ls, rfl, hn⟩ := ends_lines h1
    match ls, hn with
    | [], _ => simp [unl] at h1
    | [l0], hn =>
      rw [unl_cons, unl_nil] at h4
      rw [(c_at (hn l0 (by simp))).2, (c_no (a := []) (by simp)).2, cut_nil] at h4
      cases h4
    | [l0, l1], hn =>
      rw [unl_cons, unl_cons, unl_nil] at h4
      rw [(c_at (hn l0 (by simp))).2, (c_at (hn l1 (by simp))).2, cut_nil] at h4
      cases h4
    | l0 :: l1 :: mode :: Ls, hn =>
      have n0 := hn l0 (by simp)
      have n1 := hn l1 (by simp)
      have nm := hn mode (by simp)
      have nL : ∀ x ∈ Ls, (10 : UInt8) ∉ x := fun x hx => hn x (by simp [hx])
      have e0 : c2 (c2 (unl (l0 :: l1 :: mode :: Ls))) = mode ++ 10 :: unl Ls := by
        rw [unl_cons, (c_at n0).2, unl_cons, (c_at n1).2, unl_cons]
      have e1 : c1 (unl (l0 :: l1 :: mode :: Ls)) = l0 := by rw [unl_cons, (c_at n0).1]
      have e2 : c1 (c2 (unl (l0 :: l1 :: mode :: Ls))) = l1 := by rw [unl_cons, (c_at n0).2, unl_cons, (c_at n1).1]
      rw [e0] at h4 h5
      rw [e0]
      rw [e1] at h2
      rw [e2] at h3
      rcases index_lines Ls nL mode nm [] [] with ⟨A, B, q1, q2, q3, C, rfl, hC⟩ | ⟨q2, q3⟩
      · have hcut := cut_eq q2 q1
        rw [hcut] at h5 ⊢
        have hm : c1 (mode ++ C) = mode := by
          rcases hC with rfl | ⟨D, rfl⟩
          · rw [List.append_nil]; exact (c_no nm).1
          · exact (c_at nm).1
        rw [hm] at h5
        refine ⟨h0, l0, l1, mode, Ls, ?_, h2, h3, h5, ?_⟩
        · rw [pieces_unl _ hn]; rfl
        · simpa using q3
      · unfold Lib.cut at h4
        rw [q2, if_neg (by omega)] at h4
        cases h4
  · rintro ⟨h0, l0, l1, mode, Ls, hp, h2, h3, h5, h6⟩
    obtain ⟨rfl, hn⟩ := unl_of (s := s) (ls := l0 :: l1 :: mode :: Ls) (by rw [hp]; rfl)
    have n0 := hn l0 (by simp)
    have n1 := hn l1 (by simp)
    have nm := hn mode (by simp)
    have nL : ∀ x ∈ Ls, (10 : UInt8) ∉ x := fun x hx => hn x (by simp [hx])
    have e0 : c2 (c2 (unl (l0 :: l1 :: mode :: Ls))) = mode ++ 10 :: unl Ls := by
      rw [unl_cons, (c_at n0).2, unl_cons, (c_at n1).2, unl_cons]
    have e1 : c1 (unl (l0 :: l1 :: mode :: Ls)) = l0 := by rw [unl_cons, (c_at n0).1]
    have e2 : c1 (c2 (unl (l0 :: l1 :: mode :: Ls))) = l1 := by rw [unl_cons, (c_at n0).2, unl_cons, (c_at n1).1]
    refine ⟨h0, unl_ends (by simp), by rw [e1]; exact h2, by rw [e2]; exact h3, ?_⟩
    rw [e0]
    rcases index_lines Ls nL mode nm [] [] with ⟨A, B, q1, q2, q3, C, rfl, hC⟩ | ⟨q2, q3⟩
    · have hcut := cut_eq q2 q1
      rw [hcut]
      have hm : c1 (mode ++ C) = mode := by
        rcases hC with rfl | ⟨D, rfl⟩
        · rw [List.append_nil]; exact (c_no nm).1
        · exact (c_at nm).1
      rw [List.nil_append, h6] at q3
      simp only [Prod.mk.injEq, List.nil_append, true_and] at q3
      refine ⟨rfl, by rw [hm]; exact h5, q3.1, q3.2⟩
    · rw [List.nil_append, h6] at q3
      cases q3
theorem Jp.one {s : List UInt8} {xs ys xs' ys' : List Int} {F L F' L' : List UInt8} (h : Jp s xs ys F L) (h' : Jp s xs' ys' F' L') : xs = xs' ∧ ys = ys' ∧ F = F' ∧ L = L' := by
  have h1 := ji_jp.2 h
  have h2 := ji_jp.2 h'
  obtain ⟨_, _, a1, a2, _, _, rfl, rfl⟩ := h1
  obtain ⟨_, _, b1, b2, _, _, rfl, rfl⟩ := h2
  exact ⟨a1.one b1, a2.one b2, rfl, rfl⟩
end Go.Proofs.YtadjedoakenlkaaGreatDoor.Jp
