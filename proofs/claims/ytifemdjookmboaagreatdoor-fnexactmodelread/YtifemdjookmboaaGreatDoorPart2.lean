/-
  Contracts that the proof leans on, put together in the order in which they build.
-/
import Derived.Test.YtifemdjookmboaaGreatDoorRows
import Derived.WalkKit
import Derived.Deep.QuietTactic
import Derived.BigQuiet
import Derived.Below
import Derived.OpenShut
import Derived.WalkSmall
import Derived.Test.YtifemdjookmboaaGreatDoorPart1
import Derived.Lib.ConvBytes
import Derived.Lib.ItoaNum
import Derived.Lib.AtoiAllCases
import Derived.Lib.Replace
import Derived.Lib.IndexBytes
import Derived.Lib.CountLaws
import Derived.RowKit
import Derived.Lib.Split
import Derived.Lib.SplitLaws
import Derived.Shelf.Strings.FieldsAny
/-
  Lists of ints: what a slice reads as, what a call owns; contracts of the laws' own helpers (a copy, a comparison, marks and whether they are held).
-/
namespace Go.Proofs.YtifemdjookmboaaGreatDoor.Li
open Go.RowKit

theorem ret_int {k : IntKind} {a b : Int} (h : a = b) : Ending.returned (.int k a) = .returned (.int k b) := by rw [h]
theorem ret_bool {a b : Bool} (h : a = b) : Ending.returned (.bool a) = .returned (.bool b) := by rw [h]

def iv (xs : List Int) : List Value := xs.map (Value.int .i64)
theorem iv_length (xs : List Int) : (iv xs).length = xs.length := by simp [iv]
theorem iv_get (xs : List Int) (j : Nat) (h : j < xs.length) : (iv xs)[j]? = some (.int .i64 xs[j]) := by simp [iv, List.getElem?_eq_getElem h]
theorem iv_set (xs : List Int) (j : Nat) (x : Int) : (iv xs).set j (.int .i64 x) = iv (xs.set j x) := by simp [iv, List.map_set]
theorem iv_append (xs ys : List Int) : iv xs ++ iv ys = iv (xs ++ ys) := by simp [iv]
theorem iv_one (xs : List Int) : ∀ u ∈ iv xs, u.oneCell' = true := by
  intro u hu
  simp only [iv, List.mem_map] at hu
  obtain ⟨c, _, rfl⟩ := hu
  rfl
theorem iv_zero (n : Nat) : List.replicate n (Value.int .i64 0) = iv (List.replicate n 0) := by simp [iv]

/-- The slice of address a reads as xs. -/
def IsL (w : World) (a : Option Addr) (xs : List Int) : Prop :=
  xs = [] ∨ ∃ b off, a = some ⟨b, off, none⟩ ∧ b < w.heap.size ∧ ∀ j (hj : j < xs.length), w.cell? ⟨b, off + j, none⟩ = some (.int .i64 xs[j])
theorem IsL.keptAt {w w1 : World} {a : Option Addr} {xs : List Int} (h : IsL w a xs) (hs : w.heap.size ≤ w1.heap.size) (hk : ∀ x, a = some x → x.block < w.heap.size → w1.heap[x.block]? = w.heap[x.block]?) : IsL w1 a xs := by
  rcases h with h | ⟨b, off, rfl, hb, hc⟩
  · exact .inl h
  · refine .inr ⟨b, off, rfl, by omega, fun j hj => ?_⟩
    rw [World.cell?_of_block (w := w) (a := ⟨b, off + j, none⟩) (hk ⟨b, off, none⟩ rfl hb)]
    exact hc j hj
theorem IsL.below {w w1 : World} {a : Option Addr} {xs : List Int} (h : IsL w a xs) (hb : Below w.heap.size w w1) : IsL w1 a xs :=
  h.keptAt hb.size (fun _ _ hx => hb.block _ hx)
theorem IsL.drewN {w : World} {a : Option Addr} {xs : List Int} (h : IsL w a xs) (n : Nat) : IsL (w.drewN n) a xs := h
theorem isl_of {w : World} {a : Option Addr} {len cap : Nat} {zs : List Int}
    (h : (a = none ∧ len = 0 ∧ cap = 0 ∧ zs = []) ∨ ∃ x, a = some x ∧ len ≤ cap ∧ cap ≤ maxLen ∧ zs.length = cap ∧ (∀ i, i < zs.length → w.cell? (x.add i) = some (.int .i64 (zs.getD i 0))) ∧ ∀ n ∈ zs, (Lit.int .i64 n).wf = true) :
    ∃ xs : List Int, xs.length = len ∧ IsL w a xs := by
  rcases h with ⟨rfl, rfl, rfl, rfl⟩ | ⟨x, rfl, hl, _, hz, hc, _⟩
  · exact ⟨[], rfl, .inl rfl⟩
  · refine ⟨zs.take len, by simp; omega, ?_⟩
    by_cases h0 : len = 0
    · subst h0; exact .inl (by simp)
    · obtain ⟨cb, off, spot⟩ := x
      have hs : spot = none := by simpa [Addr.add] using World.cell?_spot (hc 0 (by omega))
      subst hs
      have hlt : cb < w.heap.size := World.block_lt_of_cell? w _ (hc 0 (by omega))
      refine .inr ⟨cb, off, rfl, hlt, fun j hj => ?_⟩
      have hj' : j < len := by simp at hj; omega
      rw [← Go.WideShapes.add_plain, hc j (by omega)]
      simp [List.getD_eq_getElem?_getD, List.getElem?_eq_getElem (show j < zs.length by omega)]

/-- The value v is a slice of the call's own (blocks from 'base' on) that holds xs. -/
def Own (w : World) (base : Nat) (v : Value) (xs : List Int) : Prop := w.ownsRow base 3 1 v xs.length (iv xs)
theorem Own.nil (w : World) (base : Nat) : Own w base (.slice none 0 0) [] := World.ownsRow_nil _ _ _ _
theorem Own.isl {w : World} {base : Nat} {v : Value} {xs : List Int} (h : Own w base v xs) : ∃ a cap, v = .slice a xs.length cap ∧ IsL w a xs := by
  have h' := h
  rcases h.2 with ⟨rfl, h0⟩ | ⟨g, cap, cur, rfl, hb, hh, _⟩
  · obtain rfl := List.length_eq_zero_iff.1 h0
    exact ⟨none, 0, rfl, .inl rfl⟩
  · refine ⟨_, cap, rfl, .inr ⟨g, 0, rfl, (Array.getElem?_eq_some_iff.1 hh).1, fun j hj => ?_⟩⟩
    rw [Nat.zero_add, World.ownsRow.cellAt h' j (by omega), iv_get xs j hj]
theorem Own.kept {w w1 : World} {base : Nat} {v : Value} {xs : List Int} {row : Option Nat} (h : Own w base v xs) (hg : w.grownBy w1 row) (hne : v.ownBlock = none ∨ v.ownBlock ≠ row) : Own w1 base v xs := World.ownsRow.kept h hg hne
theorem Own.below {w w1 : World} {base : Nat} {v : Value} {xs : List Int} (h : Own w base v xs) (hb : Below w.heap.size w w1) : Own w1 base v xs :=
  World.ownsRow.kept (row := none) h ⟨hb.os, hb.tape, hb.output, hb.size, fun k hk _ => hb.block k hk⟩ (by cases hv : v.ownBlock <;> simp)
theorem Own.mono {w : World} {base base' : Nat} {v : Value} {xs : List Int} (h : Own w base v xs) (hb : base' ≤ base) : Own w base' v xs := by
  refine ⟨h.1, ?_⟩
  rcases h.2 with h | ⟨g, cap, cur, e, hb', r⟩
  · exact .inl h
  · exact .inr ⟨g, cap, cur, e, by omega, r⟩
theorem Own.ge {w : World} {base : Nat} {v : Value} {xs : List Int} (h : Own w base v xs) : ∀ k, v.ownBlock = some k → base ≤ k ∧ k < w.heap.size := World.ownsRow.lt h
theorem Own.drewN {w : World} {base : Nat} {v : Value} {xs : List Int} (h : Own w base v xs) (n : Nat) : Own (w.drewN n) base v xs := h
/-- A new slice that has just been made of n noughts. -/
theorem own_made {w : World} {base n : Nat} {v : Value} (h : w.ownsRow base 3 1 v n (madeCells (Value.int .i64 0).cells (n * 1)).toList) : Own w base v (List.replicate n 0) := by
  unfold Own
  have e : (madeCells (Value.int .i64 0).cells (n * 1)).toList = iv (List.replicate n 0) := by
    rw [Nat.mul_one, ← iv_zero]; exact toList_madeCells_one _ _
  rw [e] at h
  simpa using h
theorem Own.cell {w : World} {base g cap n : Nat} {xs : List Int} (h : Own w base (.slice (some ⟨g, 0, none⟩) n cap) xs) (hn : xs.length = n) (j : Nat) (hj : j < xs.length) : w.cell? ⟨g, j, none⟩ = some (.int .i64 xs[j]) := by
  subst hn
  rw [World.ownsRow.cellAt h j (by omega), iv_get xs j hj]
theorem Own.frozen {w : World} {base g cap n : Nat} {xs : List Int} (h : Own w base (.slice (some ⟨g, 0, none⟩) n cap) xs) (hn : xs.length = n) (j : Nat) : w.frozen? ⟨g, j, none⟩ = false := by
  subst hn
  exact World.ownsRow.frozenAt h j
theorem Own.set {w : World} {base g cap n : Nat} {xs : List Int} (h : Own w base (.slice (some ⟨g, 0, none⟩) n cap) xs) (hn : xs.length = n) (j : Nat) (x : Int) :
    Own (w.setCell ⟨g, j, none⟩ (.int .i64 x)) base (.slice (some ⟨g, 0, none⟩) n cap) (xs.set j x) := by
  subst hn
  have := (World.ownsRow.stored h j (.int .i64 x)).1
  rw [iv_set] at this
  unfold Own
  rwa [List.length_set]
theorem grown_refl (w : World) (r : Option Nat) : w.grownBy w r := ⟨rfl, rfl, rfl, Nat.le_refl _, fun _ _ _ => rfl⟩
theorem grown_trans {w w1 w2 : World} {r : Option Nat} (h : w.grownBy w1 r) (h' : w1.grownBy w2 r) : w.grownBy w2 r :=
  ⟨h'.os.trans h.os, h'.tape.trans h.tape, h'.output.trans h.output, Nat.le_trans h.size h'.size, fun k hk hr => (h'.block k (Nat.lt_of_lt_of_le hk h.size) hr).trans (h.block k hk hr)⟩
theorem grown_set (w : World) (b : Nat) (o : Nat) (v : Value) : w.grownBy (w.setCell ⟨b, o, none⟩ v) (some b) :=
  ⟨rfl, rfl, rfl, by simp [World.setCell], fun k _ hr => Below.heap_setCell _ _ _ _ (fun e => hr (by rw [e]))⟩
theorem below_none {w w1 : World} (h : w.grownBy w1 none) : Below w.heap.size w w1 := ⟨h.os, h.tape, h.output, h.size, fun k hk => h.block k hk (by simp)⟩
/-- What writes into a slice of the call's own alone turns nothing below. -/
theorem below_own {w w1 : World} {B : Nat} {v : Value} (h : w.grownBy w1 v.ownBlock) (hv : ∀ k, v.ownBlock = some k → B ≤ k) (hB : B ≤ w.heap.size) : Below B w w1 :=
  ⟨h.os, h.tape, h.output, h.size, fun k hk => h.block k (by omega) (fun e => by have := hv k e.symm; omega)⟩

/-- What is made later lies apart from what is owned now. -/
theorem sep {w w' : World} {B : Nat} {v v' : Value} {xs ys : List Int} (h : Own w B v xs) (h' : Own w' w.heap.size v' ys) : (v'.ownBlock = none ∨ v'.ownBlock ≠ v.ownBlock) ∧ (v.ownBlock = none ∨ v.ownBlock ≠ v'.ownBlock) := by
  have h1 := h.ge
  have h2 := h'.ge
  cases e : v.ownBlock with
  | none => exact ⟨by cases e' : v'.ownBlock <;> simp, .inl rfl⟩
  | some k =>
    cases e' : v'.ownBlock with
    | none => exact ⟨.inl rfl, by simp⟩
    | some k' =>
      have := h1 k e
      have := h2 k' e'
      exact ⟨.inr (by simp; omega), .inr (by simp; omega)⟩
theorem info_int : (Tryz.prog.info? 3).map (fun i => (i.zero, i.size, i.bytes)) = some (some (.int .i64 0), 1, 8) := by kernel_rfl

/-- Of two lists of one length the first k numbers are alike. -/
def Like (xs ys : List Int) (k : Nat) : Prop := ∀ j, j < k → xs[j]? = ys[j]?
theorem like_set {xs ys : List Int} {k : Nat} (h : Like ys xs k) (hk : k < xs.length) (hl : ys.length = xs.length) : Like (ys.set k xs[k]) xs (k + 1) := by
  intro j hj
  rw [List.getElem?_set]
  split
  · rename_i e
    subst e
    rw [if_pos (by omega), List.getElem?_eq_getElem hk]
  · exact h j (by omega)
theorem like_all {xs ys : List Int} (h : Like ys xs xs.length) (hl : ys.length = xs.length) : ys = xs := by
  apply List.ext_getElem?
  intro j
  by_cases hj : j < xs.length
  · exact h j hj
  · rw [List.getElem?_eq_none (by omega), List.getElem?_eq_none (by omega)]

def btw (n lo hi : Int) : Bool := decide (lo ≤ n ∧ n ≤ hi)
set_option maxHeartbeats 400000 in
theorem between_any (n lo hi : Int) (w : World) :
    Calls Tryz.prog 11 #[.int .i64 n, .int .i64 lo, .int .i64 hi] w fun e w' => e = .returned (.bool (btw n lo hi)) ∧ w' = w := by
  go_enter Tryz.func11, Tryz.ntmps11
  go_wp2
  all_goals go_ret
  all_goals refine ⟨ret_bool ?_, rfl⟩
  all_goals unfold btw
  all_goals simp
  all_goals omega

/-- What two lists say, held against one another number by number. -/
def eqs (xs ys : List Int) : Bool := decide (xs = ys)
theorem eqs_len {xs ys : List Int} (h : ¬ xs.length = ys.length) : eqs xs ys = false := by unfold eqs; simp; intro e; exact h (by rw [e])
theorem eqs_all {xs ys : List Int} (h : Like xs ys ys.length) (hl : xs.length = ys.length) : eqs xs ys = true := by unfold eqs; simp; exact like_all h hl
theorem eqs_no {xs ys : List Int} {k : Nat} (hx : k < xs.length) (hy : k < ys.length) (h : ¬ xs[k] = ys[k]) : eqs xs ys = false := by
  unfold eqs; simp; intro e; subst e; exact h rfl
theorem like_step {xs ys : List Int} {k : Nat} (h : Like xs ys k) (hx : k < xs.length) (hy : k < ys.length) (e : xs[k] = ys[k]) : Like xs ys (k + 1) := by
  intro j hj
  by_cases hjk : j = k
  · subst hjk; rw [List.getElem?_eq_getElem hx, List.getElem?_eq_getElem hy, e]
  · exact h j (by omega)
theorem eqs_self (xs : List Int) : eqs xs xs = true := by simp [eqs]

set_option maxHeartbeats 1000000 in
theorem eq_len (w : World) (a b : Option Addr) (n m ca cb : Nat) (h : ¬ n = m) (_hn : n ≤ 1048576) (_hm : m ≤ 1048576) :
    Calls Tryz.prog 70 #[.slice a n ca, .slice b m cb] w fun e w' => e = .returned (.bool false) ∧ w' = w := by
  go_enter Tryz.func70, Tryz.ntmps70
  go_wp2
  go_ret
  exact ⟨rfl, rfl⟩
set_option maxHeartbeats 1000000 in
theorem eq_walk (w : World) (a b : Option Addr) (ca cb : Nat) (xs ys : List Int) (hx : IsL w a xs) (hy : IsL w b ys) (he : xs.length = ys.length) (hl : xs.length ≤ 1048576) :
    Calls Tryz.prog 70 #[.slice a xs.length ca, .slice b ys.length cb] w fun e w' => e = .returned (.bool (eqs xs ys)) ∧ ∃ n, w' = w.drewN n := by
  have hb : ((xs.length : Int) != (ys.length : Int)) = false := by simp; omega
  go_enter Tryz.func70, Tryz.ntmps70
  go_wp2
  go_loopw [5] (fun i wr => ∃ k : Nat, k ≤ xs.length ∧ i = .int .i64 k ∧ Like xs ys k ∧ ∃ n, wr = w.drewN n) (fun i _ => xs.length - (intOf i).toNat)
  case atStart => exact ⟨0, Nat.zero_le _, rfl, fun j hj => by omega, 0, rfl⟩
  case round =>
    obtain ⟨k, hk, rfl, hlike, n, rfl⟩ := hrel
    by_cases hlt : k < xs.length
    · rcases hx with rfl | ⟨xb, xo, rfl, hxb, hxc⟩
      · simp at hlt
      · rcases hy with rfl | ⟨yb, yo, rfl, hyb, hyc⟩
        · simp at he; simp [he] at hlt
        · have hlt' : k < ys.length := by omega
          have hcx := hxc k hlt
          have hcy := hyc k hlt'
          have HL : Hid (Like xs ys k) := hlike
          clear hxc hyc hlike
          by_cases hv : xs[k] = ys[k]
          · have hv' : (xs[k] != ys[k]) = false := by simpa using hv
            have HV : Hid (xs[k] = ys[k]) := hv
            clear hv
            go_wp2
            go_quiet (fail)
            go_wp2
            go_roundw
            case rel => exact ⟨k + 1, by omega, by go_num, like_step HL.out hlt hlt' HV.out, _, rfl⟩
            case measure => simp [intOf]; omega
          · have hv' : (xs[k] != ys[k]) = true := by simpa using hv
            have HV : Hid (¬ xs[k] = ys[k]) := hv
            clear hv
            go_wp2
            go_quiet (fail)
            go_wp2
            go_ret
            exact ⟨by rw [eqs_no hlt hlt' HV.out]; rfl, _, World.drewN_drewN _ _ _⟩
    · have hk' : k = ys.length := by omega
      have HR : Hid (eqs xs ys = true) := eqs_all (hk' ▸ hlike) he
      clear hk'
      go_wp2
      go_ret
      exact ⟨by rw [HR.out]; rfl, _, rfl⟩
theorem eq_any (w : World) (a b : Option Addr) (ca cb : Nat) (xs ys : List Int) (hx : IsL w a xs) (hy : IsL w b ys) (hl : xs.length ≤ 1048576) (hl' : ys.length ≤ 1048576) :
    Calls Tryz.prog 70 #[.slice a xs.length ca, .slice b ys.length cb] w fun e w' => e = .returned (.bool (eqs xs ys)) ∧ ∃ n, w' = w.drewN n := by
  by_cases he : xs.length = ys.length
  · exact eq_walk w a b ca cb xs ys hx hy he hl
  · refine (eq_len w a b _ _ ca cb he hl hl').mono ?_
    rintro e w' ⟨rfl, rfl⟩
    exact ⟨by rw [eqs_len he], 0, rfl⟩
theorem eq_bel (w : World) (a b : Option Addr) (ca cb : Nat) (xs ys : List Int) (hx : IsL w a xs) (hy : IsL w b ys) (hl : xs.length ≤ 1048576) (hl' : ys.length ≤ 1048576) :
    Calls Tryz.prog 70 #[.slice a xs.length ca, .slice b ys.length cb] w fun e w' => e = .returned (.bool (eqs xs ys)) ∧ Below w.heap.size w w' := by
  refine (eq_any w a b ca cb xs ys hx hy hl hl').mono ?_
  rintro e w' ⟨rfl, n, rfl⟩
  exact ⟨rfl, Go.below_drewN (Below.refl _ _) _⟩

def marks (k : Int) (n : Nat) : List Int := (List.range n).map fun (j : Nat) => k + (j : Int)
theorem marks_length (k : Int) (n : Nat) : (marks k n).length = n := by simp [marks]
theorem marks_get (k : Int) (n j : Nat) (h : j < (marks k n).length) : (marks k n)[j] = k + (j : Int) := by simp [marks]

set_option maxHeartbeats 1000000 in
theorem mark_walk (w : World) (base : Nat) (a : Option Addr) (n cap : Nat) (k : Int) (xs : List Int) (hn : xs.length = n) (h : Own w base (.slice a n cap) xs) (hl : n ≤ 1048576) (k0 : 0 ≤ k) (k1 : k ≤ 1000000000000) :
    Calls Tryz.prog 41 #[.slice a n cap, .int .i64 k] w fun e w' => e = .returned (.int .i64 (k + n)) ∧ Own w' base (.slice a n cap) (marks k n) ∧ w.grownBy w' (Value.slice a n cap).ownBlock ∧ w'.heap.size = w.heap.size := by
  go_enter Tryz.func41, Tryz.ntmps41
  go_wp2
  go_loopw [1, 5] (fun q i wr => ∃ j : Nat, j ≤ n ∧ i = .int .i64 j ∧ q = .int .i64 (k + j) ∧ ∃ l : List Int, l.length = n ∧ Like l (marks k n) j ∧ Own wr base (.slice a n cap) l ∧ w.grownBy wr (Value.slice a n cap).ownBlock ∧ wr.heap.size = w.heap.size) (fun _ i _ => n - (intOf i).toNat)
  case atStart => exact ⟨0, Nat.zero_le _, rfl, by go_num, xs, hn, fun j hj => by omega, h, grown_refl _ _, rfl⟩
  case round =>
    obtain ⟨j, hj, rfl, rfl, l, hll, hlike, hown, hg, hz⟩ := hrel
    have HZ : Hid (wr.heap.size = w.heap.size) := hz
    clear hz h
    by_cases hlt : j < n
    · have hown0 := hown
      rcases hown0.2 with ⟨hv, h0⟩ | ⟨g, cap', cur, hv, _⟩
      · omega
      · obtain ⟨rfl, rfl, rfl⟩ : a = some ⟨g, 0, none⟩ ∧ n = l.length ∧ cap = cap' := by simpa using hv
        clear hv hown0
        have hcl := hown.cell rfl j hlt
        have hcf := hown.frozen rfl j
        have HO : Hid (Own wr base (.slice (some ⟨g, 0, none⟩) l.length cap) l) := hown
        have HL : Hid (Like (l.set j (k + j)) (marks k l.length) (j + 1)) := by
          have := like_set hlike (by rw [marks_length]; exact hlt) (by rw [marks_length])
          rwa [marks_get] at this
        clear hown hlike
        go_wp2
        go_roundw
        case rel => exact ⟨j + 1, by omega, by go_num, by go_num, l.set j (k + j), by simp, HL.out, HO.out.set rfl j _, grown_trans hg (grown_set _ _ _ _), by simpa [World.setCell] using HZ.out⟩
        case measure => simp [intOf]; omega
    · obtain rfl : j = n := by omega
      have HO : Hid (Own wr base (.slice a j cap) (marks k j)) := by
        have e := like_all (xs := marks k j) (by rw [marks_length]; exact hlike) (by rw [marks_length]; exact hll)
        rw [← e]; exact hown
      clear hown hlike
      go_wp2
      go_ret
      exact ⟨rfl, HO.out, hg, HZ.out⟩
set_option maxHeartbeats 1000000 in
theorem held_walk (w : World) (a : Option Addr) (n cap : Nat) (k : Int) (h : IsL w a (marks k n)) (hl : n ≤ 1048576) (k0 : 0 ≤ k) (k1 : k ≤ 1000000000000) :
    Calls Tryz.prog 44 #[.slice a n cap, .int .i64 k] w fun e w' => e = .returned (.int .i64 (k + n)) ∧ w' = w := by
  go_enter Tryz.func44, Tryz.ntmps44
  go_wp2
  go_loop [1, 5] (fun q i => ∃ j : Nat, j ≤ n ∧ i = .int .i64 j ∧ q = .int .i64 (k + j)) (fun _ i => n - (intOf i).toNat)
  case atStart => exact ⟨0, Nat.zero_le _, rfl, by go_num⟩
  case round =>
    obtain ⟨j, hj, rfl, rfl⟩ := hrel
    by_cases hlt : j < n
    · rcases h with h | ⟨b, off, rfl, hb, hc⟩
      · have := marks_length k n; rw [h] at this; simp at this; omega
      · have hcx := hc j (by rw [marks_length]; exact hlt)
        rw [marks_get] at hcx
        clear hc
        go_wp2
        go_round
        case rel => exact ⟨j + 1, by omega, by go_num, by go_num⟩
        case measure => simp [intOf]; omega
    · obtain rfl : j = n := by omega
      go_wp2
      go_ret
      exact ⟨rfl, rfl⟩
end Go.Proofs.YtifemdjookmboaaGreatDoor.Li
/-
  Numbers as texts, each with a blank ahead: plain functions of lists.
-/
namespace Go.Proofs.YtifemdjookmboaaGreatDoor.Mt
set_option maxRecDepth 20000
open Go.RowKit
set_option linter.unusedVariables false
theorem ba_ext {a b : ByteArray} (h : a.data.toList = b.data.toList) : a = b := by
  apply ByteArray.ext
  exact Array.toList_inj.1 h
theorem ba_size (l : List UInt8) : (ByteArray.mk l.toArray).size = l.length := by simp [ByteArray.size]
theorem bc_len (l : List UInt8) : (Lib.byteCells l).length = l.length := by simp [Lib.byteCells]
theorem cells_more (l : List UInt8) (s : ByteArray) : Lib.byteCells l ++ Lib.strCells s = Lib.byteCells (l ++ s.data.toList) := by simp [Lib.byteCells, Lib.strCells]
theorem ret_str {a b : ByteArray} (h : a = b) : Ending.returned (.string a) = .returned (.string b) := by rw [h]
/-- A number of Go's. -/
def i64 (x : Int) : Prop := -9223372036854775808 ≤ x ∧ x ≤ 9223372036854775807
/-- Numbers, each with a blank ahead. -/
def nums (l : List Int) : List UInt8 := (l.map fun x => 32 :: Lib.itoa x).flatten
theorem nums_nil : nums [] = [] := rfl
theorem nums_cons (x : Int) (l : List Int) : nums (x :: l) = 32 :: Lib.itoa x ++ nums l := by simp [nums]
theorem nums_one (x : Int) : nums [x] = 32 :: Lib.itoa x := by simp [nums]
theorem nums_take (l : List Int) (k : Nat) (h : k < l.length) : nums (l.take (k + 1)) = nums (l.take k) ++ 32 :: Lib.itoa l[k] := by
  unfold nums
  rw [List.take_succ_eq_append_getElem h, List.map_append, List.flatten_append]
  simp
theorem nums_len : ∀ (l : List Int), (∀ x ∈ l, i64 x) → (nums l).length ≤ 22 * l.length
  | [], _ => by simp [nums]
  | x :: l, h => by
    have h1 := nums_len l (fun y hy => h y (by simp [hy]))
    have h2 := h x (by simp)
    have h3 := Nu.itoa_len x h2.1 h2.2
    rw [nums_cons]
    simp only [List.length_append, List.length_cons]
    omega
theorem take_mem {α : Type} {p : α → Prop} {l : List α} (h : ∀ t ∈ l, p t) (k : Nat) : ∀ t ∈ l.take k, p t := fun t ht => h t (List.mem_of_mem_take ht)
theorem isl_lit (w : World) (l : List Int) (T : TypeId) (b : Nat) (cs : Array Value) (hb : b = w.heap.size) (hc : cs = (l.map fun x => Value.int .i64 x).toArray) : Li.IsL (w.alloc (.cells cs T)) (some ⟨b, 0, none⟩) l := by
  subst hb; subst hc
  refine .inr ⟨w.heap.size, 0, rfl, by simp, fun j hj => ?_⟩
  rw [Nat.zero_add]
  have : (w.alloc (.cells (l.map fun x => Value.int .i64 x).toArray T)).heap[w.heap.size]? = some (.cells (l.map fun x => Value.int .i64 x).toArray T) := heap_alloc_new w _
  simp only [World.cell?, this]
  simp [hj]
end Go.Proofs.YtifemdjookmboaaGreatDoor.Mt
/-
  Plain lists of bytes: the numeral with a point, what a scan of its digits gives, and what is left of it without the point. No program stands in this text.
-/
namespace Go.Proofs.YtifemdjookmboaaGreatDoor.Ma
open Go.Lib

def isDig (c : UInt8) : Prop := 48 ≤ c.toNat ∧ c.toNat ≤ 57
def step (n : Nat) (c : UInt8) : Nat := if 48 ≤ c.toNat ∧ c.toNat ≤ 57 then 10 * n + (c.toNat - 48) else n
def scan (l : List UInt8) : Nat := l.foldl step 0

theorem dig_of (k : Nat) (h : k < 10) : (UInt8.ofNat (48 + k)).toNat = 48 + k := by rw [UInt8.toNat_ofNat']; omega
theorem isDig_of (k : Nat) (h : k < 10) : isDig (UInt8.ofNat (48 + k)) := by unfold isDig; rw [dig_of k h]; omega
theorem step_of (n k : Nat) (h : k < 10) : step n (UInt8.ofNat (48 + k)) = 10 * n + k := by
  have hd := isDig_of k h
  unfold isDig at hd
  unfold step; rw [if_pos hd, dig_of k h]; omega

theorem dec_all (u : Nat) : ∀ c ∈ decDigits u, isDig c := by
  induction u using Nat.strongRecOn with
  | _ u ih =>
    rw [decDigits]
    split
    · intro c hc; rw [List.mem_singleton] at hc; subst hc; exact isDig_of u ‹_›
    · intro c hc
      rcases List.mem_append.1 hc with h | h
      · exact ih (u / 10) (by omega) c h
      · rw [List.mem_singleton] at h; subst h; exact isDig_of (u % 10) (by omega)
theorem dec_scan (u : Nat) : (decDigits u).foldl step 0 = u := by
  induction u using Nat.strongRecOn with
  | _ u ih =>
    rw [decDigits]
    split
    · rw [List.foldl_cons, List.foldl_nil, step_of 0 u ‹_›]; omega
    · rw [List.foldl_append, ih (u / 10) (by omega)]
      simp only [List.foldl_cons, List.foldl_nil]
      rw [step_of _ _ (by omega)]; omega
theorem dec_four (r : Nat) (h : r < 1000) : (decDigits (1000 + r)).drop 1 = [UInt8.ofNat (48 + r / 100), UInt8.ofNat (48 + r / 10 % 10), UInt8.ofNat (48 + r % 10)] := by
  rw [decDigits, dif_neg (by omega), decDigits, dif_neg (by omega), decDigits, dif_neg (by omega), decDigits, dif_pos (by omega)]
  simp only [List.cons_append, List.nil_append, List.drop_succ_cons, List.drop_zero]
  rw [show (1000 + r) / 10 / 10 % 10 = r / 100 by omega, show (1000 + r) / 10 % 10 = r / 10 % 10 by omega, show (1000 + r) % 10 = r % 10 by omega]

/-- The numeral of so many thousandths. -/
def pos (y : Nat) : List UInt8 := decDigits (y / 1000) ++ 46 :: (decDigits (1000 + y % 1000)).drop 1
def bare (y : Nat) : List UInt8 := decDigits (y / 1000) ++ (decDigits (1000 + y % 1000)).drop 1

theorem tail_scan (n r : Nat) (h : r < 1000) : ((decDigits (1000 + r)).drop 1).foldl step n = 1000 * n + r := by
  rw [dec_four r h]
  simp only [List.foldl_cons, List.foldl_nil]
  rw [step_of _ _ (by omega), step_of _ _ (by omega), step_of _ _ (by omega)]; omega
theorem tail_all (r : Nat) : ∀ c ∈ (decDigits (1000 + r)).drop 1, isDig c := by
  intro c hc
  exact dec_all (1000 + r) c (List.mem_of_mem_drop hc)
theorem pos_scan (y : Nat) : (pos y).foldl step 0 = y := by
  unfold pos
  rw [List.foldl_append, dec_scan, List.foldl_cons]
  have : step (y / 1000) 46 = y / 1000 := by unfold step; rw [if_neg (by decide)]
  rw [this, tail_scan _ _ (by omega)]; omega
theorem neg_scan (y : Nat) : (45 :: pos y).foldl step 0 = y := by
  rw [List.foldl_cons]
  have : step 0 45 = 0 := by unfold step; rw [if_neg (by decide)]
  rw [this, pos_scan]
theorem bare_scan (y : Nat) : (bare y).foldl step 0 = y := by
  unfold bare
  rw [List.foldl_append, dec_scan, tail_scan _ _ (by omega)]; omega
theorem bare_all (y : Nat) : ∀ c ∈ bare y, isDig c := by
  intro c hc
  rcases List.mem_append.1 hc with h | h
  · exact dec_all _ c h
  · exact tail_all _ c h

theorem step_le (n : Nat) (c : UInt8) : n ≤ step n c := by unfold step; split <;> omega
theorem scan_le : ∀ (l : List UInt8) (n : Nat), n ≤ l.foldl step n
  | [], _ => Nat.le_refl _
  | c :: l, n => Nat.le_trans (step_le n c) (scan_le l _)
theorem parse_ok : ∀ (l : List UInt8) (n : Nat), (∀ c ∈ l, isDig c) → l.foldl step n ≤ 1000000000000000 → parseUint10 n l = .ok (l.foldl step n)
  | [], n, _, _ => rfl
  | c :: l, n, h, hb => by
    have hc : isDig c := h c (by simp)
    unfold isDig at hc
    have e : step n c = n * 10 + (c.toNat - 48) := by unfold step; rw [if_pos hc]; omega
    rw [List.foldl_cons] at hb ⊢
    have h1 := scan_le l (step n c)
    rw [parseUint10, if_pos hc, if_neg (by omega), if_neg (by omega), ← e]
    exact parse_ok l _ (fun c' hc' => h c' (by simp [hc'])) hb
theorem dec_ne (u : Nat) : decDigits u ≠ [] := by
  intro h
  have := decDigits_length u
  rw [h] at this
  have := nDigits_pos u
  simp at *
  omega
theorem bare_ne (y : Nat) : bare y ≠ [] := by
  unfold bare
  intro h
  exact dec_ne _ (List.append_eq_nil_iff.1 h).1
theorem mag_ok (y : Nat) (h : y ≤ 1000000000) : parseMag (bare y) = .ok y := by
  unfold parseMag
  rw [if_neg (bare_ne y), parse_ok _ _ (bare_all y) (by rw [bare_scan]; omega), bare_scan]
theorem atoi_pos (y : Nat) (h : y ≤ 1000000000) : atoiAll (bare y) = .ok (y : Int) := by
  have hm := mag_ok y h
  cases hb : bare y with
  | nil => exact absurd hb (bare_ne y)
  | cons c r =>
    have hc : isDig c := bare_all y c (by rw [hb]; simp)
    unfold isDig at hc
    rw [atoiAll_plain c r (by omega) (by omega), ← hb, hm]
    unfold signless
    simp
    omega
theorem atoi_neg (y : Nat) (h : y ≤ 1000000000) : atoiAll (45 :: bare y) = .ok (-(y : Int)) := by
  rw [atoiAll_minus, mag_ok y h]
  unfold signed
  simp
  omega

/-! ### The point struck -/
theorem index_at (a r : List UInt8) (h : ∀ c ∈ a, c ≠ 46) : index (a ++ 46 :: r) [46] = a.length := by
  induction a with
  | nil => simp [index]
  | cons c a ih =>
    have hc : c ≠ 46 := h c (by simp)
    have := ih (fun c' hc' => h c' (by simp [hc']))
    rw [List.cons_append, index, this]
    rw [if_neg (by simp; intro e; exact hc e.symm), if_neg (by simp)]
    simp
theorem strike (a r : List UInt8) (h : ∀ c ∈ a, c ≠ 46) : replace (a ++ 46 :: r) [46] [] 1 = a ++ r := by
  have hi := index_at a r h
  have hc := count_hit (s := a ++ 46 :: r) (sub := [46]) (by simp) hi
  unfold replace
  rw [if_neg (by decide)]
  have hn : replaceNum (a ++ 46 :: r) [46] 1 = 1 := by
    unfold replaceNum
    rw [if_neg (by omega)]; rfl
  rw [hn, replaceK_hit _ _ 0 _ _ hi]
  simp [replaceK]
theorem dig_ne {c : UInt8} (h : isDig c) : c ≠ 46 := by rintro rfl; unfold isDig at h; revert h; decide
theorem strike_pos (y : Nat) : replace (pos y) [46] [] 1 = bare y := strike _ _ (fun c hc => dig_ne (dec_all _ c hc))
theorem strike_neg (y : Nat) : replace (45 :: pos y) [46] [] 1 = 45 :: bare y := by
  have := strike (45 :: decDigits (y / 1000)) ((decDigits (1000 + y % 1000)).drop 1) (fun c hc => by
    rcases List.mem_cons.1 hc with rfl | h
    · decide
    · exact dig_ne (dec_all _ c h))
  exact this
theorem replaceK_len : ∀ (k : Nat) (s : List UInt8), (replaceK [46] [] k s).length ≤ s.length
  | 0, s => by simp [replaceK]
  | k + 1, s => by
    rw [replaceK]
    split
    · exact Nat.le_refl _
    · have := replaceK_len k (s.drop ((index s [46]).toNat + [(46 : UInt8)].length))
      simp only [List.length_append, List.length_take, List.length_nil, List.length_drop, List.length_cons] at this ⊢
      omega
theorem replace_len (s : List UInt8) : (replace s [46] [] 1).length ≤ s.length := by
  unfold replace
  rw [if_neg (by decide)]
  exact replaceK_len _ _
theorem strike_nil : replace [] [46] [] 1 = [] := by decide +kernel
theorem count_one (s : List UInt8) : count s [46] ≤ s.length + 1 := count_le _ _

theorem pos_len (y : Nat) (h : y ≤ 1000000000) : (pos y).length ≤ 11 := by
  unfold pos
  rw [List.length_append, List.length_cons, dec_four _ (by omega), decDigits_length]
  have : nDigits (y / 1000) ≤ 7 := by
    by_cases hy : y / 1000 = 0
    · rw [hy]; decide +kernel
    · rcases Nat.lt_or_ge (nDigits (y / 1000)) 8 with h | h
      · omega
      · exfalso
        have h7 : ∀ k u, 1 ≤ k → nDigits u = k → u ≠ 0 → 10 ^ (k - 1) ≤ u := by
          intro k
          induction k with
          | zero => intro u hk; omega
          | succ k ih =>
            intro u _ hu h0
            by_cases hlt : u < 10
            · rw [nDigits_small hlt] at hu
              obtain rfl : k = 0 := by omega
              simp; omega
            · rw [nDigits_big hlt] at hu
              have hk1 : 1 ≤ k := by have := nDigits_pos (u / 10); omega
              have := ih (u / 10) hk1 (by omega) (by omega)
              have e : 10 ^ (k + 1 - 1) = 10 ^ (k - 1) * 10 := by rw [← Nat.pow_succ]; congr 1; omega
              rw [e]; omega
        have := h7 _ _ (by omega) rfl hy
        have h8 : 10 ^ 7 ≤ 10 ^ (nDigits (y / 1000) - 1) := Nat.pow_le_pow_right (by omega) (by omega)
        omega
  simp
  omega
end Go.Proofs.YtifemdjookmboaaGreatDoor.Ma
/-
  What stands between the signs of a text: plain functions of lists.
-/
namespace Go.Proofs.YtifemdjookmboaaGreatDoor.Pc
set_option maxRecDepth 100000
open Go.RowKit

def pieces (c : UInt8) : List UInt8 → List (List UInt8)
  | [] => [[]]
  | x :: r => if x = c then [] :: pieces c r else (x :: (pieces c r).headD []) :: (pieces c r).tail
theorem pieces_ne (c : UInt8) (l : List UInt8) : pieces c l ≠ [] := by cases l <;> simp [pieces]; split <;> simp
theorem pieces_no (c : UInt8) : ∀ (l : List UInt8), c ∉ l → pieces c l = [l]
  | [], _ => rfl
  | x :: r, h => by
    have h1 : ¬ x = c := fun e => h (by rw [e]; simp)
    have h2 : c ∉ r := fun e => h (by simp [e])
    simp [pieces, h1, pieces_no c r h2]
theorem pieces_cut (c : UInt8) (r : List UInt8) : ∀ (a : List UInt8), c ∉ a → pieces c (a ++ c :: r) = a :: pieces c r
  | [], _ => by simp [pieces]
  | x :: a, h => by
    have h1 : ¬ x = c := fun e => h (by rw [e]; simp)
    have h2 : c ∉ a := fun e => h (by simp [e])
    simp [pieces, h1, pieces_cut c r a h2]
theorem first_cut (c : UInt8) : ∀ (l : List UInt8), c ∉ l ∨ ∃ a r, l = a ++ c :: r ∧ c ∉ a
  | [] => .inl (by simp)
  | x :: l => by
    by_cases h : x = c
    · exact .inr ⟨[], l, by simp [h], by simp⟩
    · rcases first_cut c l with h' | ⟨a, r, e, h'⟩
      · exact .inl (by simp; exact ⟨fun e => h e.symm, h'⟩)
      · exact .inr ⟨x :: a, r, by rw [e]; rfl, by simp; exact ⟨fun e => h e.symm, h'⟩⟩
theorem index_no (c : UInt8) : ∀ (l : List UInt8), c ∉ l → Lib.index l [c] = -1
  | [], _ => rfl
  | x :: l, h => by
    have h1 : ¬ c = x := fun e => h (by rw [e]; simp)
    have h2 : c ∉ l := fun e => h (by simp [e])
    rw [Lib.index, index_no c l h2]
    simp [h1]
theorem index_at (c : UInt8) (r : List UInt8) : ∀ (a : List UInt8), c ∉ a → Lib.index (a ++ c :: r) [c] = a.length
  | [], _ => by simp [Lib.index]
  | x :: a, h => by
    have h1 : ¬ c = x := fun e => h (by rw [e]; simp)
    have h2 : c ∉ a := fun e => h (by simp [e])
    rw [List.cons_append, Lib.index, index_at c r a h2, if_neg (by simp [h1]), if_neg (by simp)]
    simp
theorem split_pieces (c : UInt8) : ∀ (k : Nat) (l : List UInt8), l.length ≤ k → Lib.splitK [c] 0 (Lib.count l [c]) l = pieces c l := by
  intro k
  induction k with
  | zero =>
    intro l h
    obtain rfl : l = [] := List.length_eq_zero_iff.1 (by omega)
    rw [Lib.count_miss (index_no c [] (by simp))]; rfl
  | succ k ih =>
    intro l h
    rcases first_cut c l with hn | ⟨a, r, rfl, hn⟩
    · rw [Lib.count_miss (index_no c l hn), pieces_no c l hn]; rfl
    · have hi := index_at c r a hn
      rw [Lib.count_hit (by simp) hi, Nat.add_comm, Lib.splitK, if_neg (by rw [hi]; simp), hi, pieces_cut c r a hn]
      have e1 : (a ++ c :: r).take ((a.length : Int).toNat + 0) = a := by simp
      have e2 : (a ++ c :: r).drop ((a.length : Int).toNat + [c].length) = r := by simp
      have e3 : (a ++ c :: r).drop (a.length + [c].length) = r := by simp
      rw [e1, e2, e3, ih r (by simp at h; omega)]
theorem cut_no (c : UInt8) (l : List UInt8) (h : c ∉ l) : Lib.cut l [c] = (l, [], false) := by
  unfold Lib.cut; rw [index_no c l h, if_neg (by omega)]
theorem cut_at (c : UInt8) (a r : List UInt8) (h : c ∉ a) : Lib.cut (a ++ c :: r) [c] = (a, r, true) := by
  unfold Lib.cut; rw [index_at c r a h, if_pos (by omega)]; simp
def ba (l : List UInt8) : ByteArray := ⟨l.toArray⟩
theorem ba_data (l : List UInt8) : (ba l).data.toList = l := by simp [ba]
theorem ba_of (s : ByteArray) : ba s.data.toList = s := by obtain ⟨⟨l⟩⟩ := s; rfl
theorem ba_size (l : List UInt8) : (ba l).size = l.length := by simp [ba, ByteArray.size]
def pcs (c : UInt8) (l : List UInt8) : List ByteArray := (pieces c l).map ba
theorem splitB_pcs (c : UInt8) (s : ByteArray) : Lib.splitB ⟨#[c]⟩ 0 (Lib.countB s ⟨#[c]⟩) s = pcs c s.data.toList := by
  have h := Lib.splitB_data ⟨#[c]⟩ 0 (Lib.countB s ⟨#[c]⟩) s
  have h2 : Lib.splitK [c] 0 (Lib.countB s ⟨#[c]⟩) s.data.toList = pieces c s.data.toList := split_pieces c _ s.data.toList (Nat.le_refl _)
  rw [show (ByteArray.mk #[c]).data.toList = [c] from rfl, h2] at h
  unfold pcs
  rw [← h, List.map_map]
  conv => lhs; rw [← List.map_id (Lib.splitB ⟨#[c]⟩ 0 (Lib.countB s ⟨#[c]⟩) s)]
  apply List.map_congr_left
  intro x _
  exact (ba_of x).symm
theorem pieces_mem (c : UInt8) : ∀ (l : List UInt8), ∀ p ∈ pieces c l, p.length ≤ l.length
  | [], p, h => by simp [pieces] at h; subst h; simp
  | x :: l, p, h => by
    unfold pieces at h
    split at h
    · rcases List.mem_cons.1 h with rfl | h
      · simp
      · have := pieces_mem c l p h; simp; omega
    · rcases List.mem_cons.1 h with rfl | h
      · have hm : (pieces c l).headD [] ∈ pieces c l := by
          cases e : pieces c l with
          | nil => exact absurd e (pieces_ne c l)
          | cons q qs => simp
        have := pieces_mem c l _ hm
        simp only [List.length_cons]; omega
      · have := pieces_mem c l p (List.mem_of_mem_tail h); simp; omega
theorem pcs_mem (c : UInt8) (l : List UInt8) : ∀ p ∈ pcs c l, p.size ≤ l.length := by
  intro p hp
  simp only [pcs, List.mem_map] at hp
  obtain ⟨q, hq, rfl⟩ := hp
  rw [ba_size]; exact pieces_mem c l q hq
theorem pieces_len (c : UInt8) : ∀ (l : List UInt8), (pieces c l).length ≤ l.length + 1
  | [] => by simp [pieces]
  | x :: l => by
    have := pieces_len c l
    unfold pieces
    split
    · simp; omega
    · simp; omega
/-! ### A row out of its parts -/
end Go.Proofs.YtifemdjookmboaaGreatDoor.Pc
/-
  Numbers between blanks, as the program reads them: plain functions of lists.
-/
namespace Go.Proofs.YtifemdjookmboaaGreatDoor.Rm
set_option maxRecDepth 20000
open Go.Proofs.YtifemdjookmboaaGreatDoor.Mt (nums nums_cons nums_nil i64)
set_option linter.unusedVariables false
def num (f : List UInt8) : Option Int := match Lib.atoiAll f with
  | .ok v => some v
  | _ => none
def numL : List (List UInt8) → Option (List Int)
  | [] => some []
  | f :: fs => match num f, numL fs with
    | some v, some vs => some (v :: vs)
    | _, _ => none
def inums (l : List UInt8) : Option (List Int) := numL (Lib.fieldsD l)
/-! ### Numbers -/
theorem itoa_chars (x : Int) : ∀ c ∈ Lib.itoa x, c = 45 ∨ Ma.isDig c := by
  intro c hc
  unfold Lib.itoa at hc
  split at hc
  · rcases List.mem_cons.1 hc with h | h
    · exact .inl h
    · exact .inr (Ma.dec_all _ c h)
  · exact .inr (Ma.dec_all _ c hc)
theorem itoa_ne (x : Int) : Lib.itoa x ≠ [] := by
  unfold Lib.itoa
  split
  · simp
  · exact Ma.dec_ne _
theorem dig_facts {c : UInt8} (h : c = 45 ∨ Ma.isDig c) : Lib.isSp c = false ∧ c.toNat < 128 ∧ c ≠ 10 ∧ c ≠ 32 ∧ c ≠ 58 := by
  have : c.toNat = 45 ∨ (48 ≤ c.toNat ∧ c.toNat ≤ 57) := by
    rcases h with rfl | h
    · exact .inl rfl
    · exact .inr h
  have ne : ∀ k : Nat, k < 45 ∨ (k = 46 ∨ k = 47 ∨ 57 < k) → k < 256 → ¬ c = UInt8.ofNat k := fun k hk hl e => by
    have : c.toNat = k := by rw [e, UInt8.toNat_ofNat']; omega
    omega
  refine ⟨?_, by omega, ne 10 (by omega) (by omega), ne 32 (by omega) (by omega), ne 58 (by omega) (by omega)⟩
  unfold Lib.isSp
  simp only [Bool.or_eq_false_iff, beq_eq_false_iff_ne, ne_eq]
  exact ⟨⟨⟨⟨⟨ne 9 (by omega) (by omega), ne 10 (by omega) (by omega)⟩, ne 11 (by omega) (by omega)⟩, ne 12 (by omega) (by omega)⟩, ne 13 (by omega) (by omega)⟩, ne 32 (by omega) (by omega)⟩
theorem num_itoa {x : Int} (h : -1000000000000 ≤ x ∧ x ≤ 1000000000000) : num (Lib.itoa x) = some x := by
  have hp : ∀ u : Nat, u ≤ 1000000000000 → Lib.parseMag (Lib.decDigits u) = .ok u := fun u hu => by
    have h1 := Ma.parse_ok (Lib.decDigits u) 0 (Ma.dec_all u) (by rw [Ma.dec_scan]; omega)
    rw [Ma.dec_scan] at h1
    unfold Lib.parseMag
    rw [if_neg (Ma.dec_ne u)]
    exact h1
  have hd : ∀ u : Nat, ∃ c r, Lib.decDigits u = c :: r ∧ c.toNat ≠ 43 ∧ c.toNat ≠ 45 := fun u => by
    cases hq : Lib.decDigits u with
    | nil => exact absurd hq (Ma.dec_ne u)
    | cons c r =>
      have := Ma.dec_all u c (by rw [hq]; simp)
      unfold Ma.isDig at this
      exact ⟨c, r, rfl, by omega, by omega⟩
  unfold num
  by_cases hn : x < 0
  · have e : Lib.itoa x = 45 :: Lib.decDigits x.natAbs := by unfold Lib.itoa; rw [if_pos hn]
    rw [e, Lib.atoiAll_minus, hp _ (by omega)]
    have e2 : Lib.signed (.ok x.natAbs) = .ok (-(x.natAbs : Int)) := if_neg (by omega)
    rw [e2]
    show some (-(x.natAbs : Int)) = some x
    congr 1
    omega
  · have e : Lib.itoa x = Lib.decDigits x.toNat := by unfold Lib.itoa; rw [if_neg hn]
    obtain ⟨c, r, hq, h1, h2⟩ := hd x.toNat
    rw [e, hq, Lib.atoiAll_plain c r h1 h2, ← hq, hp _ (by omega)]
    have e2 : Lib.signless (.ok x.toNat) = .ok (x.toNat : Int) := if_neg (by omega)
    rw [e2]
    show some (x.toNat : Int) = some x
    congr 1
    omega
/-! ### Fields of numbers and blanks -/
theorem fg_word (d r : List UInt8) (hd : ∀ c ∈ d, Lib.isSp c = false) : ∀ cur, Lib.fieldsGo cur (d ++ r) = Lib.fieldsGo (cur ++ d) r := by
  induction d with
  | nil => intro cur; simp
  | cons c d ih =>
    intro cur
    have hc := hd c (by simp)
    rw [List.cons_append, Lib.fieldsGo, if_neg (by rw [hc]; simp), ih (fun x hx => hd x (by simp [hx]))]
    simp
def fl (cur : List UInt8) : List (List UInt8) := if cur.isEmpty then [] else [cur]
theorem fg_blank (cur r : List UInt8) : Lib.fieldsGo cur (32 :: r) = fl cur ++ Lib.fieldsGo [] r := by
  rw [Lib.fieldsGo, if_pos (by decide)]
  unfold fl
  cases cur <;> simp
theorem fg_nums (e : List UInt8) (he : e = [] ∨ e = [32]) : ∀ (l : List Int) (cur : List UInt8), Lib.fieldsGo cur (nums l ++ e) = fl cur ++ l.map Lib.itoa
  | [], cur => by
    rw [nums_nil, List.nil_append]
    rcases he with rfl | rfl
    · simp [Lib.fieldsGo, fl]
    · rw [fg_blank]; simp [Lib.fieldsGo]
  | x :: l, cur => by
    have ih := fg_nums e he l (Lib.itoa x)
    rw [nums_cons, List.cons_append, List.cons_append, fg_blank, List.append_assoc, fg_word _ _ (fun c hc => (dig_facts (itoa_chars x c hc)).1), List.nil_append, ih]
    have : fl (Lib.itoa x) = [Lib.itoa x] := by
      unfold fl
      cases h : Lib.itoa x with
      | nil => exact absurd h (itoa_ne x)
      | cons c r => rfl
    rw [this]
    simp
theorem ascii_nums : ∀ (l : List Int), ∀ c ∈ nums l, c = 32 ∨ c = 45 ∨ Ma.isDig c
  | [], c, hc => by simp [nums] at hc
  | x :: l, c, hc => by
    rw [nums_cons] at hc
    rcases List.mem_append.1 hc with h | h
    · rcases List.mem_cons.1 h with h | h
      · exact .inl h
      · exact .inr (itoa_chars x c h)
    · exact ascii_nums l c h
theorem c128 {c : UInt8} (h : c = 32 ∨ c = 45 ∨ Ma.isDig c) : c.toNat < 128 := by
  rcases h with rfl | h
  · decide
  · exact (dig_facts h).2.1
theorem numL_map : ∀ (l : List Int), (∀ x ∈ l, -1000000000000 ≤ x ∧ x ≤ 1000000000000) → numL (l.map Lib.itoa) = some l
  | [], _ => rfl
  | x :: l, h => by
    have h1 := num_itoa (h x (by simp))
    have h2 := numL_map l (fun y hy => h y (by simp [hy]))
    simp only [List.map_cons, numL, h1, h2]
/-- Numbers, each with a blank ahead; behind them one blank, or none. -/
theorem inums_nums {e : List UInt8} (he : e = [] ∨ e = [32]) (l : List Int) (h : ∀ x ∈ l, -1000000000000 ≤ x ∧ x ≤ 1000000000000) : inums (nums l ++ e) = some l := by
  unfold inums
  rw [Lib.fieldsD_ascii _ (fun c hc => by
    rcases List.mem_append.1 hc with h | h
    · exact c128 (ascii_nums l c h)
    · rcases he with rfl | rfl
      · simp at h
      · simp at h; subst h; decide)]
  unfold Lib.fields
  rw [fg_nums e he l []]
  simpa [fl] using numL_map l h
/-- The same without the first blank. -/
theorem inums_tail {e : List UInt8} (he : e = [] ∨ e = [32]) (x : Int) (l : List Int) (h : ∀ y ∈ x :: l, -1000000000000 ≤ y ∧ y ≤ 1000000000000) : inums (Lib.itoa x ++ nums l ++ e) = some (x :: l) := by
  unfold inums
  rw [Lib.fieldsD_ascii _ (fun c hc => by
    rcases List.mem_append.1 hc with h | h
    · rcases List.mem_append.1 h with h | h
      · exact (dig_facts (itoa_chars x c h)).2.1
      · exact c128 (ascii_nums l c h)
    · rcases he with rfl | rfl
      · simp at h
      · simp at h; subst h; decide)]
  unfold Lib.fields
  rw [List.append_assoc, fg_word _ _ (fun c hc => (dig_facts (itoa_chars x c hc)).1), List.nil_append, fg_nums e he l]
  have : fl (Lib.itoa x) = [Lib.itoa x] := by
    unfold fl
    cases h : Lib.itoa x with
    | nil => exact absurd h (itoa_ne x)
    | cons c r => rfl
  rw [this]
  exact numL_map (x :: l) h
theorem nums_no (l : List Int) : (10 : UInt8) ∉ nums l ∧ (58 : UInt8) ∉ nums l := by
  constructor
  · intro h
    rcases ascii_nums l _ h with h | h
    · revert h; decide
    · exact (dig_facts h).2.2.1 rfl
  · intro h
    rcases ascii_nums l _ h with h | h
    · revert h; decide
    · exact (dig_facts h).2.2.2.2 rfl
theorem itoa_no (x : Int) : (10 : UInt8) ∉ Lib.itoa x ∧ (32 : UInt8) ∉ Lib.itoa x ∧ (58 : UInt8) ∉ Lib.itoa x :=
  ⟨fun h => (dig_facts (itoa_chars x _ h)).2.2.1 rfl, fun h => (dig_facts (itoa_chars x _ h)).2.2.2.1 rfl, fun h => (dig_facts (itoa_chars x _ h)).2.2.2.2 rfl⟩
end Go.Proofs.YtifemdjookmboaaGreatDoor.Rm
/-
  A number in a model's text, as the model of the document reads it: plain functions of lists.
-/
namespace Go.Proofs.YtifemdjookmboaaGreatDoor.Rs
set_option maxRecDepth 20000
open Go.Proofs.YtifemdjookmboaaGreatDoor.Ma (isDig scan)
set_option linter.unusedVariables false
def dg : List UInt8 → List UInt8
  | [] => []
  | c :: r => if c = 45 then r else c :: r
def sgn (s : List UInt8) : Int := if dg s = s then (scan (dg s) : Int) else -(scan (dg s) : Int)
open Classical in
noncomputable def snum (s : List UInt8) : Option Int := if (1 ≤ (dg s).length ∧ (dg s).length ≤ 11) ∧ (∀ c ∈ dg s, isDig c) ∧ Lib.itoa (sgn s) = s then some (sgn s) else none
theorem snum_no1 {s : List UInt8} (h : ¬ (1 ≤ (dg s).length ∧ (dg s).length ≤ 11)) : snum s = none := if_neg (fun e => h e.1)
theorem snum_no2 {s : List UInt8} (h : ¬ ∀ c ∈ dg s, isDig c) : snum s = none := if_neg (fun e => h e.2.1)
theorem snum_no3 {s : List UInt8} (h : ¬ Lib.itoa (sgn s) = s) : snum s = none := if_neg (fun e => h e.2.2)
theorem snum_yes {s : List UInt8} (h : 1 ≤ (dg s).length ∧ (dg s).length ≤ 11) (h2 : ∀ c ∈ dg s, isDig c) (h3 : Lib.itoa (sgn s) = s) : snum s = some (sgn s) := if_pos ⟨h, h2, h3⟩
theorem snum_back {s : List UInt8} {v : Int} (h : snum s = some v) : Lib.itoa v = s := by
  unfold snum at h
  split at h
  · rename_i e
    injection h with h
    rw [← h]
    exact e.2.2
  · cases h
theorem scan_lt : ∀ (l : List UInt8) (n m : Nat), n < m → l.foldl Ma.step n < m * 10 ^ l.length
  | [], n, m, h => by simpa using h
  | c :: l, n, m, h => by
    have h1 : Ma.step n c < m * 10 := by
      unfold Ma.step
      split <;> omega
    have := scan_lt l (Ma.step n c) (m * 10) h1
    simp only [List.foldl_cons, List.length_cons, Nat.pow_succ]
    rw [show m * (10 ^ l.length * 10) = m * 10 * 10 ^ l.length by rw [Nat.mul_comm (10 ^ l.length) 10, ← Nat.mul_assoc]]
    exact this
theorem pow_mono11 {k : Nat} (h : k ≤ 11) : 10 ^ k ≤ 100000000000 := Nat.pow_le_pow_right (by decide) h
theorem scan_bd (l : List UInt8) (h : l.length ≤ 11) : scan l < 100000000000 := by
  have h1 := scan_lt l 0 1 (by decide)
  have h2 := pow_mono11 h
  unfold scan
  omega
theorem sgn_bd {s : List UInt8} (h : (dg s).length ≤ 11) : -100000000000 < sgn s ∧ sgn s < 100000000000 := by
  have := scan_bd _ h
  unfold sgn
  split <;> omega
theorem dec_len11 (u : Nat) (h : u < 100000000000) : (Lib.decDigits u).length ≤ 11 := by
  have key : ∀ (k u : Nat), u < 10 ^ (k + 1) → (Lib.decDigits u).length ≤ k + 1 := by
    intro k
    induction k with
    | zero => intro u hu; rw [Lib.decDigits, dif_pos (by simpa using hu)]; simp
    | succ k ih =>
      intro u hu
      rw [Lib.decDigits]
      split
      · simp
      · have := ih (u / 10) (by rw [Nat.pow_succ] at hu; omega)
        rw [List.length_append]
        simp
        omega
  exact key 10 u (by simpa using h)
theorem snum_itoa {x : Int} (h : -100000000000 < x ∧ x < 100000000000) : snum (Lib.itoa x) = some x := by
  by_cases hn : x < 0
  · have e : Lib.itoa x = 45 :: Lib.decDigits x.natAbs := by unfold Lib.itoa; rw [if_pos hn]
    have hd : dg (Lib.itoa x) = Lib.decDigits x.natAbs := by rw [e]; simp [dg]
    have hs : sgn (Lib.itoa x) = x := by
      unfold sgn
      rw [hd, if_neg (by rw [e]; intro h; have := congrArg List.length h; simp at this)]
      unfold scan
      rw [Ma.dec_scan]
      omega
    have hl := dec_len11 x.natAbs (by omega)
    have h0 := List.length_pos_iff.2 (Ma.dec_ne x.natAbs)
    rw [snum_yes (by rw [hd]; omega) (by rw [hd]; exact Ma.dec_all _) (by rw [hs]), hs]
  · have e : Lib.itoa x = Lib.decDigits x.toNat := by unfold Lib.itoa; rw [if_neg hn]
    have hd : dg (Lib.itoa x) = Lib.itoa x := by
      rw [e]
      cases hq : Lib.decDigits x.toNat with
      | nil => exact absurd hq (Ma.dec_ne _)
      | cons c r =>
        have := Ma.dec_all x.toNat c (by rw [hq]; simp)
        refine if_neg ?_
        rintro rfl
        unfold isDig at this
        revert this
        decide
    have hs : sgn (Lib.itoa x) = x := by
      unfold sgn
      rw [hd, if_pos rfl, e]
      unfold scan
      rw [Ma.dec_scan]
      omega
    have hl := dec_len11 x.toNat (by omega)
    have h0 := List.length_pos_iff.2 (Ma.dec_ne x.toNat)
    rw [snum_yes (by rw [hd, e]; omega) (by rw [hd, e]; exact Ma.dec_all _) (by rw [hs]), hs]
end Go.Proofs.YtifemdjookmboaaGreatDoor.Rs
/-
  A tree's words, as the model of the document reads them: plain functions of lists.
-/
namespace Go.Proofs.YtifemdjookmboaaGreatDoor.Rs
set_option maxRecDepth 20000
open Go.Proofs.YtifemdjookmboaaGreatDoor.Mt (nums nums_cons nums_nil)
set_option linter.unusedVariables false
/-- Words, each with a blank ahead. -/
def sps : List (List UInt8) → List UInt8
  | [] => []
  | x :: ws => 32 :: (x ++ sps ws)
theorem sps_app : ∀ (a b : List (List UInt8)), sps (a ++ b) = sps a ++ sps b
  | [], b => rfl
  | x :: a, b => by simp [sps, sps_app a b]
theorem nums_sps : ∀ l : List Int, nums l = sps (l.map Lib.itoa)
  | [] => rfl
  | x :: l => by rw [nums_cons, nums_sps l]; simp [sps]
theorem pieces_sps (a : List UInt8) (ha : (32 : UInt8) ∉ a) : ∀ (ws : List (List UInt8)), (∀ x ∈ ws, (32 : UInt8) ∉ x) → Pc.pieces 32 (a ++ sps ws) = a :: ws := by
  intro ws
  induction ws generalizing a with
  | nil => intro _; rw [sps, List.append_nil]; exact Pc.pieces_no 32 a ha
  | cons x ws ih =>
    intro h
    rw [sps, Pc.pieces_cut 32 _ a ha, ih x (h x (by simp)) (fun y hy => h y (by simp [hy]))]
theorem itoa_no32 (x : Int) : (32 : UInt8) ∉ Lib.itoa x := fun h => (Rm.dig_facts (Rm.itoa_chars x 32 h)).2.2.2.1 rfl
theorem itoa_no58 (x : Int) : ¬ Lib.itoa x = [58] := fun h => (Rm.dig_facts (Rm.itoa_chars x 58 (by rw [h]; simp))).2.2.2.2 rfl
noncomputable def stree : List (List UInt8) → Bool → List Int → List Int → Option (List Int × List Int)
  | [], _, a, l => some (a, l)
  | p :: ps, leaf, a, l => if p = [58] ∧ leaf = false then stree ps true a l else match snum p with
    | none => none
    | some n => if leaf = true then stree ps leaf a (l ++ [n]) else stree ps leaf (a ++ [n]) l
def b11 (x : Int) : Prop := -100000000000 < x ∧ x < 100000000000
theorem stree_leaves : ∀ (l : List Int) (a b : List Int), (∀ x ∈ l, b11 x) → stree (l.map Lib.itoa) true a b = some (a, b ++ l)
  | [], a, b, _ => by simp [stree]
  | x :: l, a, b, h => by
    have ih := stree_leaves l a (b ++ [x]) (fun y hy => h y (by simp [hy]))
    rw [List.map_cons, stree, if_neg (by simp), snum_itoa (h x (by simp))]
    simp only [if_true]
    rw [ih]
    simp
theorem stree_back : ∀ (s l a : List Int), (∀ x ∈ s, b11 x) → (∀ x ∈ l, b11 x) → stree (s.map Lib.itoa ++ [58] :: l.map Lib.itoa) false a [] = some (a ++ s, l)
  | [], l, a, _, h => by
    have := stree_leaves l a [] h
    rw [List.map_nil, List.nil_append, stree, if_pos ⟨rfl, rfl⟩, this]
    simp
  | x :: s, l, a, h, h' => by
    have ih := stree_back s l (a ++ [x]) (fun y hy => h y (by simp [hy])) h'
    rw [List.map_cons, List.cons_append, stree, if_neg (fun e => itoa_no58 x e.1), snum_itoa (h x (by simp))]
    simp only [Bool.false_eq_true, if_false]
    rw [ih]
    simp
theorem stree_len : ∀ (ps : List (List UInt8)) (leaf : Bool) (a l a' l' : List Int), stree ps leaf a l = some (a', l') → a'.length + l'.length ≤ a.length + l.length + ps.length
  | [], leaf, a, l, a', l', h => by
    simp [stree] at h
    obtain ⟨rfl, rfl⟩ := h
    simp
  | p :: ps, leaf, a, l, a', l', h => by
    unfold stree at h
    split at h
    · have := stree_len ps true a l a' l' h
      simp only [List.length_cons]; omega
    · split at h
      · cases h
      · split at h
        · have := stree_len ps leaf a _ a' l' h
          simp only [List.length_append, List.length_cons, List.length_nil] at this ⊢; omega
        · have := stree_len ps leaf _ l a' l' h
          simp only [List.length_append, List.length_cons, List.length_nil] at this ⊢; omega
end Go.Proofs.YtifemdjookmboaaGreatDoor.Rs
