/-
  Numbers between blanks, as the program reads them: plain functions of lists.
-/
import Derived.Test.YtadjedoakenlkaaGreatDoorMtn
import Derived.Test.YtadjedoakenlkaaGreatDoorMath
import Derived.Test.YtadjedoakenlkaaGreatDoorPca
import Derived.Shelf.Strings.FieldsAny
namespace Go.Proofs.YtadjedoakenlkaaGreatDoor.Rm
set_option maxRecDepth 20000
open Go.Proofs.YtadjedoakenlkaaGreatDoor.Mt (nums nums_cons nums_nil i64)
set_option linter.unusedVariables false
def num (f : List UInt8) : Option Int := match Lib.atoiAll f with
  | .ok v => some v
  | _ => none
def numL : List (List UInt8) → Option (List Int)
  | [] => some []
  | f :: fs => match num f, numL fs with
    | some v, some vs => some (v :: vs)
    | _, _ => none
def inums (l : List UInt8) : Option (List Int) := numL (Lib.fieldsD l)
/-! ### Numbers -/
theorem itoa_chars (x : Int) : ∀ c ∈ Lib.itoa x, c = 45 ∨ Ma.isDig c := by
  intro c hc
  unfold Lib.itoa at hc
  split at hc
  · rcases List.mem_cons.1 hc with h | h
    · exact .inl h
    · exact .inr (Ma.dec_all _ c h)
  · exact .inr (Ma.dec_all _ c hc)
theorem itoa_ne (x : Int) : Lib.itoa x ≠ [] := by
  unfold Lib.itoa
  split
  · simp
  · exact Ma.dec_ne _
theorem dig_facts {c : UInt8} (h : c = 45 ∨ Ma.isDig c) : Lib.isSp c = false ∧ c.toNat < 128 ∧ c ≠ 10 ∧ c ≠ 32 ∧ c ≠ 58 := by
  have : c.toNat = 45 ∨ (48 ≤ c.toNat ∧ c.toNat ≤ 57) := by
    rcases h with rfl | h
    · exact .inl rfl
    · exact .inr h
  have ne : ∀ k : Nat, k < 45 ∨ (k = 46 ∨ k = 47 ∨ 57 < k) → k < 256 → ¬ c = UInt8.ofNat k := fun k hk hl e => by
    have : c.toNat = k := by rw [e, UInt8.toNat_ofNat']; omega
    omega
  refine ⟨?_, by omega, ne 10 (by omega) (by omega), ne 32 (by omega) (by omega), ne 58 (by omega) (by omega)⟩
  unfold Lib.isSp
  simp only [Bool.or_eq_false_iff, beq_eq_false_iff_ne, ne_eq]
  exact ⟨⟨⟨⟨⟨ne 9 (by omega) (by omega), ne 10 (by omega) (by omega)⟩, ne 11 (by omega) (by omega)⟩, ne 12 (by omega) (by omega)⟩, ne 13 (by omega) (by omega)⟩, ne 32 (by omega) (by omega)⟩
theorem num_itoa {x : Int} (h : -1000000000000 ≤ x ∧ x ≤ 1000000000000) : num (Lib.itoa x) = some x := by
  have hp : ∀ u : Nat, u ≤ 1000000000000 → Lib.parseMag (Lib.decDigits u) = .ok u := fun u hu => by
    have h1 := Ma.parse_ok (Lib.decDigits u) 0 (Ma.dec_all u) (by rw [Ma.dec_scan]; omega)
    rw [Ma.dec_scan] at h1
    unfold Lib.parseMag
    rw [if_neg (Ma.dec_ne u)]
    exact h1
  have hd : ∀ u : Nat, ∃ c r, Lib.decDigits u = c :: r ∧ c.toNat ≠ 43 ∧ c.toNat ≠ 45 := fun u => by
    cases hq : Lib.decDigits u with
    | nil => exact absurd hq (Ma.dec_ne u)
    | cons c r =>
      have := Ma.dec_all u c (by rw [hq]; simp)
      unfold Ma.isDig at this
      exact ⟨c, r, rfl, by omega, by omega⟩
  unfold num
  by_cases hn : x < 0
  · have e : Lib.itoa x = 45 :: Lib.decDigits x.natAbs := by unfold Lib.itoa; rw [if_pos hn]
    rw [e, Lib.atoiAll_minus, hp _ (by omega)]
    have e2 : Lib.signed (.ok x.natAbs) = .ok (-(x.natAbs : Int)) := if_neg (by omega)
    rw [e2]
    show some (-(x.natAbs : Int)) = some x
    congr 1
    omega
  · have e : Lib.itoa x = Lib.decDigits x.toNat := by unfold Lib.itoa; rw [if_neg hn]
    obtain ⟨c, r, hq, h1, h2⟩ := hd x.toNat
    rw [e, hq, Lib.atoiAll_plain c r h1 h2, ← hq, hp _ (by omega)]
    have e2 : Lib.signless (.ok x.toNat) = .ok (x.toNat : Int) := if_neg (by omega)
    rw [e2]
    show some (x.toNat : Int) = some x
    congr 1
    omega
/-! ### Fields of numbers and blanks -/
theorem fg_word (d r : List UInt8) (hd : ∀ c ∈ d, Lib.isSp c = false) : ∀ cur, Lib.fieldsGo cur (d ++ r) = Lib.fieldsGo (cur ++ d) r := by
  induction d with
  | nil => intro cur; simp
  | cons c d ih =>
    intro cur
    have hc := hd c (by simp)
    rw [List.cons_append, Lib.fieldsGo, if_neg (by rw [hc]; simp), ih (fun x hx => hd x (by simp [hx]))]
    simp
def fl (cur : List UInt8) : List (List UInt8) := if cur.isEmpty then [] else [cur]
theorem fg_blank (cur r : List UInt8) : Lib.fieldsGo cur (32 :: r) = fl cur ++ Lib.fieldsGo [] r := by
  rw [Lib.fieldsGo, if_pos (by decide)]
  unfold fl
  cases cur <;> simp
theorem fg_nums (e : List UInt8) (he : e = [] ∨ e = [32]) : ∀ (l : List Int) (cur : List UInt8), Lib.fieldsGo cur (nums l ++ e) = fl cur ++ l.map Lib.itoa
  | [], cur => by
    rw [nums_nil, List.nil_append]
    rcases he with rfl | rfl
    · simp [Lib.fieldsGo, fl]
    · rw [fg_blank]; simp [Lib.fieldsGo]
  | x :: l, cur => by
    have ih := fg_nums e he l (Lib.itoa x)
    rw [nums_cons, List.cons_append, List.cons_append, fg_blank, List.append_assoc, fg_word _ _ (fun c hc => (dig_facts (itoa_chars x c hc)).1), List.nil_append, ih]
    have : fl (Lib.itoa x) = [Lib.itoa x] := by
      unfold fl
      cases h : Lib.itoa x with
      | nil => exact absurd h (itoa_ne x)
      | cons c r => rfl
    rw [this]
    simp
theorem ascii_nums : ∀ (l : List Int), ∀ c ∈ nums l, c = 32 ∨ c = 45 ∨ Ma.isDig c
  | [], c, hc => by simp [nums] at hc
  | x :: l, c, hc => by
    rw [nums_cons] at hc
    rcases List.mem_append.1 hc with h | h
    · rcases List.mem_cons.1 h with h | h
      · exact .inl h
      · exact .inr (itoa_chars x c h)
    · exact ascii_nums l c h
theorem c128 {c : UInt8} (h : c = 32 ∨ c = 45 ∨ Ma.isDig c) : c.toNat < 128 := by
  rcases h with rfl | h
  · decide
  · exact (dig_facts h).2.1
theorem numL_map : ∀ (l : List Int), (∀ x ∈ l, -1000000000000 ≤ x ∧ x ≤ 1000000000000) → numL (l.map Lib.itoa) = some l
  | [], _ => rfl
  | x :: l, h => by
    have h1 := num_itoa (h x (by simp))
    have h2 := numL_map l (fun y hy => h y (by simp [hy]))
    simp only [List.map_cons, numL, h1, h2]
/-- Numbers, each with a blank ahead; behind them one blank, or none. -/
theorem inums_nums {e : List UInt8} (he : e = [] ∨ e = [32]) (l : List Int) (h : ∀ x ∈ l, -1000000000000 ≤ x ∧ x ≤ 1000000000000) : inums (nums l ++ e) = some l := by
  unfold inums
  rw [Lib.fieldsD_ascii _ (fun c hc => by
    rcases List.mem_append.1 hc with h | h
    · exact c128 (ascii_nums l c h)
    · rcases he with rfl | rfl
      · simp at h
      · simp at h; subst h; decide)]
  unfold Lib.fields
  rw [fg_nums e he l []]
  simpa [fl] using numL_map l h
/-- The same without the first blank. -/
theorem inums_tail {e : List UInt8} (he : e = [] ∨ e = [32]) (x : Int) (l : List Int) (h : ∀ y ∈ x :: l, -1000000000000 ≤ y ∧ y ≤ 1000000000000) : inums (Lib.itoa x ++ nums l ++ e) = some (x :: l) := by
  unfold inums
  rw [Lib.fieldsD_ascii _ (fun c hc => by
    rcases List.mem_append.1 hc with h | h
    · rcases List.mem_append.1 h with h | h
      · exact (dig_facts (itoa_chars x c h)).2.1
      · exact c128 (ascii_nums l c h)
    · rcases he with rfl | rfl
      · simp at h
      · simp at h; subst h; decide)]
  unfold Lib.fields
  rw [List.append_assoc, fg_word _ _ (fun c hc => (dig_facts (itoa_chars x c hc)).1), List.nil_append, fg_nums e he l]
  have : fl (Lib.itoa x) = [Lib.itoa x] := by
    unfold fl
    cases h : Lib.itoa x with
    | nil => exact absurd h (itoa_ne x)
    | cons c r => rfl
  rw [this]
  exact numL_map (x :: l) h
theorem nums_no (l : List Int) : (10 : UInt8) ∉ nums l ∧ (58 : UInt8) ∉ nums l := by
  constructor
  · intro h
    rcases ascii_nums l _ h with h | h
    · revert h; decide
    · exact (dig_facts h).2.2.1 rfl
  · intro h
    rcases ascii_nums l _ h with h | h
    · revert h; decide
    · exact (dig_facts h).2.2.2.2 rfl
theorem itoa_no (x : Int) : (10 : UInt8) ∉ Lib.itoa x ∧ (32 : UInt8) ∉ Lib.itoa x ∧ (58 : UInt8) ∉ Lib.itoa x :=
  ⟨fun h => (dig_facts (itoa_chars x _ h)).2.2.1 rfl, fun h => (dig_facts (itoa_chars x _ h)).2.2.2.1 rfl, fun h => (dig_facts (itoa_chars x _ h)).2.2.2.2 rfl⟩
end Go.Proofs.YtadjedoakenlkaaGreatDoor.Rm
