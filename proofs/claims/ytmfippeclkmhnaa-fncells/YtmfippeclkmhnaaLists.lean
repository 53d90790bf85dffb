/-
  Lists of ints: what a slice reads as, what a call owns; contracts of the laws' own helpers (a copy, a comparison, marks and whether they are held).
-/
import Derived.Test.YtmfippeclkmhnaaRows
import Derived.WalkKit
import Derived.Deep.QuietTactic
import Derived.BigQuiet
import Derived.Below
import Derived.OpenShut
import Derived.WalkSmall
namespace Go.Proofs.Ytmfippeclkmhnaa.Li
open Go.RowKit

theorem ret_int {k : IntKind} {a b : Int} (h : a = b) : Ending.returned (.int k a) = .returned (.int k b) := by rw [h]
theorem ret_bool {a b : Bool} (h : a = b) : Ending.returned (.bool a) = .returned (.bool b) := by rw [h]

def iv (xs : List Int) : List Value := xs.map (Value.int .i64)
theorem iv_length (xs : List Int) : (iv xs).length = xs.length := by simp [iv]
theorem iv_get (xs : List Int) (j : Nat) (h : j < xs.length) : (iv xs)[j]? = some (.int .i64 xs[j]) := by simp [iv, List.getElem?_eq_getElem h]
theorem iv_set (xs : List Int) (j : Nat) (x : Int) : (iv xs).set j (.int .i64 x) = iv (xs.set j x) := by simp [iv, List.map_set]
theorem iv_append (xs ys : List Int) : iv xs ++ iv ys = iv (xs ++ ys) := by simp [iv]
theorem iv_one (xs : List Int) : ∀ u ∈ iv xs, u.oneCell' = true := by
  intro u hu
  simp only [iv, List.mem_map] at hu
  obtain ⟨c, _, rfl⟩ := hu
  rfl
theorem iv_zero (n : Nat) : List.replicate n (Value.int .i64 0) = iv (List.replicate n 0) := by simp [iv]

/-- The slice of address a reads as xs. -/
def IsL (w : World) (a : Option Addr) (xs : List Int) : Prop :=
  xs = [] ∨ ∃ b off, a = some ⟨b, off, none⟩ ∧ b < w.heap.size ∧ ∀ j (hj : j < xs.length), w.cell? ⟨b, off + j, none⟩ = some (.int .i64 xs[j])
theorem IsL.keptAt {w w1 : World} {a : Option Addr} {xs : List Int} (h : IsL w a xs) (hs : w.heap.size ≤ w1.heap.size) (hk : ∀ x, a = some x → x.block < w.heap.size → w1.heap[x.block]? = w.heap[x.block]?) : IsL w1 a xs := by
  rcases h with h | ⟨b, off, rfl, hb, hc⟩
  · exact .inl h
  · refine .inr ⟨b, off, rfl, by omega, fun j hj => ?_⟩
    rw [World.cell?_of_block (w := w) (a := ⟨b, off + j, none⟩) (hk ⟨b, off, none⟩ rfl hb)]
    exact hc j hj
theorem IsL.below {w w1 : World} {a : Option Addr} {xs : List Int} (h : IsL w a xs) (hb : Below w.heap.size w w1) : IsL w1 a xs :=
  h.keptAt hb.size (fun _ _ hx => hb.block _ hx)
theorem IsL.drewN {w : World} {a : Option Addr} {xs : List Int} (h : IsL w a xs) (n : Nat) : IsL (w.drewN n) a xs := h
theorem isl_of {w : World} {a : Option Addr} {len cap : Nat} {zs : List Int}
    (h : (a = none ∧ len = 0 ∧ cap = 0 ∧ zs = []) ∨ ∃ x, a = some x ∧ len ≤ cap ∧ cap ≤ maxLen ∧ zs.length = cap ∧ (∀ i, i < zs.length → w.cell? (x.add i) = some (.int .i64 (zs.getD i 0))) ∧ ∀ n ∈ zs, (Lit.int .i64 n).wf = true) :
    ∃ xs : List Int, xs.length = len ∧ IsL w a xs := by
  rcases h with ⟨rfl, rfl, rfl, rfl⟩ | ⟨x, rfl, hl, _, hz, hc, _⟩
  · exact ⟨[], rfl, .inl rfl⟩
  · refine ⟨zs.take len, by simp; omega, ?_⟩
    by_cases h0 : len = 0
    · subst h0; exact .inl (by simp)
    · obtain ⟨cb, off, spot⟩ := x
      have hs : spot = none := by simpa [Addr.add] using World.cell?_spot (hc 0 (by omega))
      subst hs
      have hlt : cb < w.heap.size := World.block_lt_of_cell? w _ (hc 0 (by omega))
      refine .inr ⟨cb, off, rfl, hlt, fun j hj => ?_⟩
      have hj' : j < len := by simp at hj; omega
      rw [← Go.WideShapes.add_plain, hc j (by omega)]
      simp [List.getD_eq_getElem?_getD, List.getElem?_eq_getElem (show j < zs.length by omega)]

/-- The value v is a slice of the call's own (blocks from 'base' on) that holds xs. -/
def Own (w : World) (base : Nat) (v : Value) (xs : List Int) : Prop := w.ownsRow base 3 1 v xs.length (iv xs)
theorem Own.nil (w : World) (base : Nat) : Own w base (.slice none 0 0) [] := World.ownsRow_nil _ _ _ _
theorem Own.isl {w : World} {base : Nat} {v : Value} {xs : List Int} (h : Own w base v xs) : ∃ a cap, v = .slice a xs.length cap ∧ IsL w a xs := by
  have h' := h
  rcases h.2 with ⟨rfl, h0⟩ | ⟨g, cap, cur, rfl, hb, hh, _⟩
  · obtain rfl := List.length_eq_zero_iff.1 h0
    exact ⟨none, 0, rfl, .inl rfl⟩
  · refine ⟨_, cap, rfl, .inr ⟨g, 0, rfl, (Array.getElem?_eq_some_iff.1 hh).1, fun j hj => ?_⟩⟩
    rw [Nat.zero_add, World.ownsRow.cellAt h' j (by omega), iv_get xs j hj]
theorem Own.kept {w w1 : World} {base : Nat} {v : Value} {xs : List Int} {row : Option Nat} (h : Own w base v xs) (hg : w.grownBy w1 row) (hne : v.ownBlock = none ∨ v.ownBlock ≠ row) : Own w1 base v xs := World.ownsRow.kept h hg hne
theorem Own.below {w w1 : World} {base : Nat} {v : Value} {xs : List Int} (h : Own w base v xs) (hb : Below w.heap.size w w1) : Own w1 base v xs :=
  World.ownsRow.kept (row := none) h ⟨hb.os, hb.tape, hb.output, hb.size, fun k hk _ => hb.block k hk⟩ (by cases hv : v.ownBlock <;> simp)
theorem Own.mono {w : World} {base base' : Nat} {v : Value} {xs : List Int} (h : Own w base v xs) (hb : base' ≤ base) : Own w base' v xs := by
  refine ⟨h.1, ?_⟩
  rcases h.2 with h | ⟨g, cap, cur, e, hb', r⟩
  · exact .inl h
  · exact .inr ⟨g, cap, cur, e, by omega, r⟩
theorem Own.ge {w : World} {base : Nat} {v : Value} {xs : List Int} (h : Own w base v xs) : ∀ k, v.ownBlock = some k → base ≤ k ∧ k < w.heap.size := World.ownsRow.lt h
theorem Own.drewN {w : World} {base : Nat} {v : Value} {xs : List Int} (h : Own w base v xs) (n : Nat) : Own (w.drewN n) base v xs := h
/-- A new slice that has just been made of n noughts. -/
theorem own_made {w : World} {base n : Nat} {v : Value} (h : w.ownsRow base 3 1 v n (madeCells (Value.int .i64 0).cells (n * 1)).toList) : Own w base v (List.replicate n 0) := by
  unfold Own
  have e : (madeCells (Value.int .i64 0).cells (n * 1)).toList = iv (List.replicate n 0) := by
    rw [Nat.mul_one, ← iv_zero]; exact toList_madeCells_one _ _
  rw [e] at h
  simpa using h
theorem Own.cell {w : World} {base g cap n : Nat} {xs : List Int} (h : Own w base (.slice (some ⟨g, 0, none⟩) n cap) xs) (hn : xs.length = n) (j : Nat) (hj : j < xs.length) : w.cell? ⟨g, j, none⟩ = some (.int .i64 xs[j]) := by
  subst hn
  rw [World.ownsRow.cellAt h j (by omega), iv_get xs j hj]
theorem Own.frozen {w : World} {base g cap n : Nat} {xs : List Int} (h : Own w base (.slice (some ⟨g, 0, none⟩) n cap) xs) (hn : xs.length = n) (j : Nat) : w.frozen? ⟨g, j, none⟩ = false := by
  subst hn
  exact World.ownsRow.frozenAt h j
theorem Own.set {w : World} {base g cap n : Nat} {xs : List Int} (h : Own w base (.slice (some ⟨g, 0, none⟩) n cap) xs) (hn : xs.length = n) (j : Nat) (x : Int) :
    Own (w.setCell ⟨g, j, none⟩ (.int .i64 x)) base (.slice (some ⟨g, 0, none⟩) n cap) (xs.set j x) := by
  subst hn
  have := (World.ownsRow.stored h j (.int .i64 x)).1
  rw [iv_set] at this
  unfold Own
  rwa [List.length_set]
theorem grown_refl (w : World) (r : Option Nat) : w.grownBy w r := ⟨rfl, rfl, rfl, Nat.le_refl _, fun _ _ _ => rfl⟩
theorem grown_trans {w w1 w2 : World} {r : Option Nat} (h : w.grownBy w1 r) (h' : w1.grownBy w2 r) : w.grownBy w2 r :=
  ⟨h'.os.trans h.os, h'.tape.trans h.tape, h'.output.trans h.output, Nat.le_trans h.size h'.size, fun k hk hr => (h'.block k (Nat.lt_of_lt_of_le hk h.size) hr).trans (h.block k hk hr)⟩
theorem grown_set (w : World) (b : Nat) (o : Nat) (v : Value) : w.grownBy (w.setCell ⟨b, o, none⟩ v) (some b) :=
  ⟨rfl, rfl, rfl, by simp [World.setCell], fun k _ hr => Below.heap_setCell _ _ _ _ (fun e => hr (by rw [e]))⟩
theorem below_none {w w1 : World} (h : w.grownBy w1 none) : Below w.heap.size w w1 := ⟨h.os, h.tape, h.output, h.size, fun k hk => h.block k hk (by simp)⟩
/-- What writes into a slice of the call's own alone turns nothing below. -/
theorem below_own {w w1 : World} {B : Nat} {v : Value} (h : w.grownBy w1 v.ownBlock) (hv : ∀ k, v.ownBlock = some k → B ≤ k) (hB : B ≤ w.heap.size) : Below B w w1 :=
  ⟨h.os, h.tape, h.output, h.size, fun k hk => h.block k (by omega) (fun e => by have := hv k e.symm; omega)⟩

/-- What is made later lies apart from what is owned now. -/
theorem sep {w w' : World} {B : Nat} {v v' : Value} {xs ys : List Int} (h : Own w B v xs) (h' : Own w' w.heap.size v' ys) : (v'.ownBlock = none ∨ v'.ownBlock ≠ v.ownBlock) ∧ (v.ownBlock = none ∨ v.ownBlock ≠ v'.ownBlock) := by
  have h1 := h.ge
  have h2 := h'.ge
  cases e : v.ownBlock with
  | none => exact ⟨by cases e' : v'.ownBlock <;> simp, .inl rfl⟩
  | some k =>
    cases e' : v'.ownBlock with
    | none => exact ⟨.inl rfl, by simp⟩
    | some k' =>
      have := h1 k e
      have := h2 k' e'
      exact ⟨.inr (by simp; omega), .inr (by simp; omega)⟩
theorem info_int : (Try.prog.info? 3).map (fun i => (i.zero, i.size, i.bytes)) = some (some (.int .i64 0), 1, 8) := by kernel_rfl

/-- Of two lists of one length the first k numbers are alike. -/
def Like (xs ys : List Int) (k : Nat) : Prop := ∀ j, j < k → xs[j]? = ys[j]?
theorem like_set {xs ys : List Int} {k : Nat} (h : Like ys xs k) (hk : k < xs.length) (hl : ys.length = xs.length) : Like (ys.set k xs[k]) xs (k + 1) := by
  intro j hj
  rw [List.getElem?_set]
  split
  · rename_i e
    subst e
    rw [if_pos (by omega), List.getElem?_eq_getElem hk]
  · exact h j (by omega)
theorem like_all {xs ys : List Int} (h : Like ys xs xs.length) (hl : ys.length = xs.length) : ys = xs := by
  apply List.ext_getElem?
  intro j
  by_cases hj : j < xs.length
  · exact h j hj
  · rw [List.getElem?_eq_none (by omega), List.getElem?_eq_none (by omega)]

def btw (n lo hi : Int) : Bool := decide (lo ≤ n ∧ n ≤ hi)
set_option maxHeartbeats 400000 in
theorem between_any (n lo hi : Int) (w : World) :
    Calls Try.prog 24 #[.int .i64 n, .int .i64 lo, .int .i64 hi] w fun e w' => e = .returned (.bool (btw n lo hi)) ∧ w' = w := by
  go_enter Try.func24, Try.ntmps24
  go_wp2
  all_goals go_ret
  all_goals refine ⟨ret_bool ?_, rfl⟩
  all_goals unfold btw
  all_goals simp
  all_goals omega

/-- What two lists say, held against one another number by number. -/
def eqs (xs ys : List Int) : Bool := decide (xs = ys)
theorem eqs_len {xs ys : List Int} (h : ¬ xs.length = ys.length) : eqs xs ys = false := by unfold eqs; simp; intro e; exact h (by rw [e])
theorem eqs_all {xs ys : List Int} (h : Like xs ys ys.length) (hl : xs.length = ys.length) : eqs xs ys = true := by unfold eqs; simp; exact like_all h hl
theorem eqs_no {xs ys : List Int} {k : Nat} (hx : k < xs.length) (hy : k < ys.length) (h : ¬ xs[k] = ys[k]) : eqs xs ys = false := by
  unfold eqs; simp; intro e; subst e; exact h rfl
theorem like_step {xs ys : List Int} {k : Nat} (h : Like xs ys k) (hx : k < xs.length) (hy : k < ys.length) (e : xs[k] = ys[k]) : Like xs ys (k + 1) := by
  intro j hj
  by_cases hjk : j = k
  · subst hjk; rw [List.getElem?_eq_getElem hx, List.getElem?_eq_getElem hy, e]
  · exact h j (by omega)
theorem eqs_self (xs : List Int) : eqs xs xs = true := by simp [eqs]

set_option maxHeartbeats 1000000 in
theorem same_len (w : World) (a b : Option Addr) (n m ca cb : Nat) (h : ¬ n = m) (_hn : n ≤ 1048576) (_hm : m ≤ 1048576) :
    Calls Try.prog 16 #[.slice a n ca, .slice b m cb] w fun e w' => e = .returned (.bool false) ∧ w' = w := by
  go_enter Try.func16, Try.ntmps16
  go_wp2
  go_ret
  exact ⟨rfl, rfl⟩
set_option maxHeartbeats 1000000 in
theorem same_walk (w : World) (a b : Option Addr) (ca cb : Nat) (xs ys : List Int) (hx : IsL w a xs) (hy : IsL w b ys) (he : xs.length = ys.length) (hl : xs.length ≤ 1048576) :
    Calls Try.prog 16 #[.slice a xs.length ca, .slice b ys.length cb] w fun e w' => e = .returned (.bool (eqs xs ys)) ∧ ∃ n, w' = w.drewN n := by
  have hb : ((xs.length : Int) != (ys.length : Int)) = false := by simp; omega
  go_enter Try.func16, Try.ntmps16
  go_wp2
  go_loopw [5] (fun i wr => ∃ k : Nat, k ≤ xs.length ∧ i = .int .i64 k ∧ Like xs ys k ∧ ∃ n, wr = w.drewN n) (fun i _ => xs.length - (intOf i).toNat)
  case atStart => exact ⟨0, Nat.zero_le _, rfl, fun j hj => by omega, 0, rfl⟩
  case round =>
    obtain ⟨k, hk, rfl, hlike, n, rfl⟩ := hrel
    by_cases hlt : k < xs.length
    · rcases hx with rfl | ⟨xb, xo, rfl, hxb, hxc⟩
      · simp at hlt
      · rcases hy with rfl | ⟨yb, yo, rfl, hyb, hyc⟩
        · simp at he; simp [he] at hlt
        · have hlt' : k < ys.length := by omega
          have hcx := hxc k hlt
          have hcy := hyc k hlt'
          have HL : Hid (Like xs ys k) := hlike
          clear hxc hyc hlike
          by_cases hv : xs[k] = ys[k]
          · have hv' : (xs[k] != ys[k]) = false := by simpa using hv
            have HV : Hid (xs[k] = ys[k]) := hv
            clear hv
            go_wp2
            go_quiet (fail)
            go_wp2
            go_roundw
            case rel => exact ⟨k + 1, by omega, by go_num, like_step HL.out hlt hlt' HV.out, _, rfl⟩
            case measure => simp [intOf]; omega
          · have hv' : (xs[k] != ys[k]) = true := by simpa using hv
            have HV : Hid (¬ xs[k] = ys[k]) := hv
            clear hv
            go_wp2
            go_quiet (fail)
            go_wp2
            go_ret
            exact ⟨by rw [eqs_no hlt hlt' HV.out]; rfl, _, World.drewN_drewN _ _ _⟩
    · have hk' : k = ys.length := by omega
      have HR : Hid (eqs xs ys = true) := eqs_all (hk' ▸ hlike) he
      clear hk'
      go_wp2
      go_ret
      exact ⟨by rw [HR.out]; rfl, _, rfl⟩
theorem same_any (w : World) (a b : Option Addr) (ca cb : Nat) (xs ys : List Int) (hx : IsL w a xs) (hy : IsL w b ys) (hl : xs.length ≤ 1048576) (hl' : ys.length ≤ 1048576) :
    Calls Try.prog 16 #[.slice a xs.length ca, .slice b ys.length cb] w fun e w' => e = .returned (.bool (eqs xs ys)) ∧ ∃ n, w' = w.drewN n := by
  by_cases he : xs.length = ys.length
  · exact same_walk w a b ca cb xs ys hx hy he hl
  · refine (same_len w a b _ _ ca cb he hl hl').mono ?_
    rintro e w' ⟨rfl, rfl⟩
    exact ⟨by rw [eqs_len he], 0, rfl⟩
theorem same_bel (w : World) (a b : Option Addr) (ca cb : Nat) (xs ys : List Int) (hx : IsL w a xs) (hy : IsL w b ys) (hl : xs.length ≤ 1048576) (hl' : ys.length ≤ 1048576) :
    Calls Try.prog 16 #[.slice a xs.length ca, .slice b ys.length cb] w fun e w' => e = .returned (.bool (eqs xs ys)) ∧ Below w.heap.size w w' := by
  refine (same_any w a b ca cb xs ys hx hy hl hl').mono ?_
  rintro e w' ⟨rfl, n, rfl⟩
  exact ⟨rfl, Go.below_drewN (Below.refl _ _) _⟩

def marks (k : Int) (n : Nat) : List Int := (List.range n).map fun (j : Nat) => k + (j : Int)
theorem marks_length (k : Int) (n : Nat) : (marks k n).length = n := by simp [marks]
theorem marks_get (k : Int) (n j : Nat) (h : j < (marks k n).length) : (marks k n)[j] = k + (j : Int) := by simp [marks]

end Go.Proofs.Ytmfippeclkmhnaa.Li
