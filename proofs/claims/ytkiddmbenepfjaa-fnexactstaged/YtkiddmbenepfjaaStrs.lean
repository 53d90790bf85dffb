/-
  Lists of texts: what a slice reads as, what a call owns; contracts of the laws' own helpers (a copy, a comparison, marks and whether they are held).
-/
import Derived.Test.YtkiddmbenepfjaaLists
import Derived.WalkKit
import Derived.Deep.QuietTactic
import Derived.BigQuiet
import Derived.Below
import Derived.OpenShut
import Derived.WalkSmall
import Derived.Lib.Strings
namespace Go.Proofs.Ytkiddmbenepfjaa.Ls
open Go.RowKit
open Go.Proofs.Ytkiddmbenepfjaa.Li (below_none ret_bool ret_int grown_refl grown_trans grown_set)

def sv (xs : List ByteArray) : List Value := xs.map Value.string
theorem sv_length (xs : List ByteArray) : (sv xs).length = xs.length := by simp [sv]
theorem sv_get (xs : List ByteArray) (j : Nat) (h : j < xs.length) : (sv xs)[j]? = some (.string xs[j]) := by simp [sv, List.getElem?_eq_getElem h]
theorem sv_set (xs : List ByteArray) (j : Nat) (x : ByteArray) : (sv xs).set j (.string x) = sv (xs.set j x) := by simp [sv, List.map_set]
theorem sv_append (xs ys : List ByteArray) : sv xs ++ sv ys = sv (xs ++ ys) := by simp [sv]
theorem sv_one (xs : List ByteArray) : ∀ u ∈ sv xs, u.oneCell' = true := by
  intro u hu
  simp only [sv, List.mem_map] at hu
  obtain ⟨c, _, rfl⟩ := hu
  rfl
theorem sv_zero (n : Nat) : List.replicate n (Value.string ⟨#[]⟩) = sv (List.replicate n ⟨#[]⟩) := by simp [sv]

/-- The slice of address a reads as xs. -/
def IsS (w : World) (a : Option Addr) (xs : List ByteArray) : Prop :=
  xs = [] ∨ ∃ b off, a = some ⟨b, off, none⟩ ∧ b < w.heap.size ∧ ∀ j (hj : j < xs.length), w.cell? ⟨b, off + j, none⟩ = some (.string xs[j])
theorem IsS.keptAt {w w1 : World} {a : Option Addr} {xs : List ByteArray} (h : IsS w a xs) (hs : w.heap.size ≤ w1.heap.size) (hk : ∀ x, a = some x → x.block < w.heap.size → w1.heap[x.block]? = w.heap[x.block]?) : IsS w1 a xs := by
  rcases h with h | ⟨b, off, rfl, hb, hc⟩
  · exact .inl h
  · refine .inr ⟨b, off, rfl, by omega, fun j hj => ?_⟩
    rw [World.cell?_of_block (w := w) (a := ⟨b, off + j, none⟩) (hk ⟨b, off, none⟩ rfl hb)]
    exact hc j hj
theorem IsS.below {w w1 : World} {a : Option Addr} {xs : List ByteArray} (h : IsS w a xs) (hb : Below w.heap.size w w1) : IsS w1 a xs :=
  h.keptAt hb.size (fun _ _ hx => hb.block _ hx)
theorem IsS.drewN {w : World} {a : Option Addr} {xs : List ByteArray} (h : IsS w a xs) (n : Nat) : IsS (w.drewN n) a xs := h
/-- The value v is a slice of the call's own (blocks from 'base' on) that holds xs. -/
def Own (w : World) (base : Nat) (v : Value) (xs : List ByteArray) : Prop := w.ownsRow base 9 1 v xs.length (sv xs)
theorem Own.nil (w : World) (base : Nat) : Own w base (.slice none 0 0) [] := World.ownsRow_nil _ _ _ _
theorem Own.iss {w : World} {base : Nat} {v : Value} {xs : List ByteArray} (h : Own w base v xs) : ∃ a cap, v = .slice a xs.length cap ∧ IsS w a xs := by
  have h' := h
  rcases h.2 with ⟨rfl, h0⟩ | ⟨g, cap, cur, rfl, hb, hh, _⟩
  · obtain rfl := List.length_eq_zero_iff.1 h0
    exact ⟨none, 0, rfl, .inl rfl⟩
  · refine ⟨_, cap, rfl, .inr ⟨g, 0, rfl, (Array.getElem?_eq_some_iff.1 hh).1, fun j hj => ?_⟩⟩
    rw [Nat.zero_add, World.ownsRow.cellAt h' j (by omega), sv_get xs j hj]
theorem Own.kept {w w1 : World} {base : Nat} {v : Value} {xs : List ByteArray} {row : Option Nat} (h : Own w base v xs) (hg : w.grownBy w1 row) (hne : v.ownBlock = none ∨ v.ownBlock ≠ row) : Own w1 base v xs := World.ownsRow.kept h hg hne
theorem Own.below {w w1 : World} {base : Nat} {v : Value} {xs : List ByteArray} (h : Own w base v xs) (hb : Below w.heap.size w w1) : Own w1 base v xs :=
  World.ownsRow.kept (row := none) h ⟨hb.os, hb.tape, hb.output, hb.size, fun k hk _ => hb.block k hk⟩ (by cases hv : v.ownBlock <;> simp)
theorem Own.mono {w : World} {base base' : Nat} {v : Value} {xs : List ByteArray} (h : Own w base v xs) (hb : base' ≤ base) : Own w base' v xs := by
  refine ⟨h.1, ?_⟩
  rcases h.2 with h | ⟨g, cap, cur, e, hb', r⟩
  · exact .inl h
  · exact .inr ⟨g, cap, cur, e, by omega, r⟩
theorem Own.ge {w : World} {base : Nat} {v : Value} {xs : List ByteArray} (h : Own w base v xs) : ∀ k, v.ownBlock = some k → base ≤ k ∧ k < w.heap.size := World.ownsRow.lt h
theorem Own.drewN {w : World} {base : Nat} {v : Value} {xs : List ByteArray} (h : Own w base v xs) (n : Nat) : Own (w.drewN n) base v xs := h
/-- A new slice that has just been made of n noughts. -/
theorem own_made {w : World} {base n : Nat} {v : Value} (h : w.ownsRow base 9 1 v n (madeCells (Value.string ⟨#[]⟩).cells (n * 1)).toList) : Own w base v (List.replicate n ⟨#[]⟩) := by
  unfold Own
  have e : (madeCells (Value.string ⟨#[]⟩).cells (n * 1)).toList = sv (List.replicate n ⟨#[]⟩) := by
    rw [Nat.mul_one, ← sv_zero]; exact toList_madeCells_one _ _
  rw [e] at h
  simpa using h
theorem Own.cell {w : World} {base g cap n : Nat} {xs : List ByteArray} (h : Own w base (.slice (some ⟨g, 0, none⟩) n cap) xs) (hn : xs.length = n) (j : Nat) (hj : j < xs.length) : w.cell? ⟨g, j, none⟩ = some (.string xs[j]) := by
  subst hn
  rw [World.ownsRow.cellAt h j (by omega), sv_get xs j hj]
theorem Own.frozen {w : World} {base g cap n : Nat} {xs : List ByteArray} (h : Own w base (.slice (some ⟨g, 0, none⟩) n cap) xs) (hn : xs.length = n) (j : Nat) : w.frozen? ⟨g, j, none⟩ = false := by
  subst hn
  exact World.ownsRow.frozenAt h j
theorem Own.set {w : World} {base g cap n : Nat} {xs : List ByteArray} (h : Own w base (.slice (some ⟨g, 0, none⟩) n cap) xs) (hn : xs.length = n) (j : Nat) (x : ByteArray) :
    Own (w.setCell ⟨g, j, none⟩ (.string x)) base (.slice (some ⟨g, 0, none⟩) n cap) (xs.set j x) := by
  subst hn
  have := (World.ownsRow.stored h j (.string x)).1
  rw [sv_set] at this
  unfold Own
  rwa [List.length_set]
theorem info_str : (Try.prog.info? 9).map (fun i => (i.zero, i.size, i.bytes)) = some (some (.string ⟨#[]⟩), 1, 16) := by kernel_rfl

/-- Of two lists of one length the first k numbers are alike. -/
def Like (xs ys : List ByteArray) (k : Nat) : Prop := ∀ j, j < k → xs[j]? = ys[j]?
theorem like_set {xs ys : List ByteArray} {k : Nat} (h : Like ys xs k) (hk : k < xs.length) (hl : ys.length = xs.length) : Like (ys.set k xs[k]) xs (k + 1) := by
  intro j hj
  rw [List.getElem?_set]
  split
  · rename_i e
    subst e
    rw [if_pos (by omega), List.getElem?_eq_getElem hk]
  · exact h j (by omega)
theorem like_all {xs ys : List ByteArray} (h : Like ys xs xs.length) (hl : ys.length = xs.length) : ys = xs := by
  apply List.ext_getElem?
  intro j
  by_cases hj : j < xs.length
  · exact h j hj
  · rw [List.getElem?_eq_none (by omega), List.getElem?_eq_none (by omega)]

set_option maxHeartbeats 1000000 in
theorem to_any (w : World) (a : Option Addr) (cap : Nat) (xs : List ByteArray) (hx : IsS w a xs) (hl : xs.length ≤ 1048576) :
    Calls Try.prog 53 #[.slice a xs.length cap] w fun e w' => e = .returned (.slice (some ⟨w.heap.size, 0, none⟩) xs.length xs.length) ∧ Own w' w.heap.size (.slice (some ⟨w.heap.size, 0, none⟩) xs.length xs.length) xs ∧ Below w.heap.size w w' := by
  obtain ⟨i0, hi, hz0, hz1, hz2⟩ := info_parts info_str
  go_enter Try.func53, Try.ntmps53
  go_wp2_with (at_make; refine wpList_make_full _ rfl _ _ 39 rfl w.heap.size 9 i0 (.string ⟨#[]⟩) 1 Try.underlying39 hi hz0 hz1 _ _ _ _ xs.length rfl rfl (by omega) (by omega) (by rw [hz2]; omega) (by unfold maxLen; omega) (Nat.le_refl _) ?_; intro w1 hown hgrow)
  have hown' := own_made hown
  have hB1 := below_none hgrow
  clear hown hgrow
  go_loopw [4] (fun i wr => ∃ k : Nat, k ≤ xs.length ∧ i = .int .i64 k ∧ ∃ l : List ByteArray, l.length = xs.length ∧ Like l xs k ∧ Own wr w.heap.size (.slice (some ⟨w.heap.size, 0, none⟩) xs.length xs.length) l ∧ Below w.heap.size w wr) (fun i _ => xs.length - (intOf i).toNat)
  case atStart => exact ⟨0, Nat.zero_le _, rfl, _, by simp, fun j hj => by omega, hown', hB1⟩
  case round =>
    obtain ⟨k, hk, rfl, l, hll, hlike, hown, hB⟩ := hrel
    by_cases hlt : k < xs.length
    · rcases hx with rfl | ⟨b, off, rfl, hb, hc⟩
      · simp at hlt
      · have hcx : wr.cell? ⟨b, off + k, none⟩ = some (.string xs[k]) := (hB.cell (by exact hb)).trans (hc k hlt)
        have hcl := hown.cell hll k (by omega)
        have hcf := hown.frozen hll k
        have HO : Hid (Own wr w.heap.size (.slice (some ⟨w.heap.size, 0, none⟩) xs.length xs.length) l) := hown
        have HL : Hid (Like (l.set k xs[k]) xs (k + 1)) := like_set hlike hlt hll
        clear hown hlike hc
        go_wp2
        go_roundw
        case rel => exact ⟨k + 1, by omega, by go_num, l.set k xs[k], by simpa using hll, HL.out, HO.out.set hll k _, hB.setCell (p := ⟨w.heap.size, k, none⟩) (Nat.le_refl _) _⟩
        case measure => simp [intOf]; omega
    · obtain rfl : k = xs.length := by omega
      obtain rfl := like_all hlike hll
      go_wp2
      go_ret
      exact ⟨rfl, hown, hB⟩

theorem tl_inj {s t : ByteArray} (h : s.toList = t.toList) : s = t := by
  rw [Lib.toList_data, Lib.toList_data] at h
  obtain ⟨⟨l⟩⟩ := s
  obtain ⟨⟨r⟩⟩ := t
  simp at h
  rw [h]
theorem tl_eq {s t : ByteArray} (h : s = t) : (s.toList == t.toList) = true := by rw [h]; simp
theorem tl_ne {s t : ByteArray} (h : ¬ s = t) : (s.toList == t.toList) = false := by
  simp only [beq_eq_false_iff_ne]
  exact fun e => h (tl_inj e)
/-- What two lists say, held against one another number by number. -/
def eqs (xs ys : List ByteArray) : Bool := decide (xs = ys)
theorem eqs_len {xs ys : List ByteArray} (h : ¬ xs.length = ys.length) : eqs xs ys = false := by unfold eqs; simp; intro e; exact h (by rw [e])
theorem eqs_all {xs ys : List ByteArray} (h : Like xs ys ys.length) (hl : xs.length = ys.length) : eqs xs ys = true := by unfold eqs; simp; exact like_all h hl
theorem eqs_no {xs ys : List ByteArray} {k : Nat} (hx : k < xs.length) (hy : k < ys.length) (h : ¬ xs[k] = ys[k]) : eqs xs ys = false := by
  unfold eqs; simp; intro e; subst e; exact h rfl
theorem like_step {xs ys : List ByteArray} {k : Nat} (h : Like xs ys k) (hx : k < xs.length) (hy : k < ys.length) (e : xs[k] = ys[k]) : Like xs ys (k + 1) := by
  intro j hj
  by_cases hjk : j = k
  · subst hjk; rw [List.getElem?_eq_getElem hx, List.getElem?_eq_getElem hy, e]
  · exact h j (by omega)
theorem eqs_self (xs : List ByteArray) : eqs xs xs = true := by simp [eqs]

set_option maxHeartbeats 1000000 in
theorem eq_len (w : World) (a b : Option Addr) (n m ca cb : Nat) (h : ¬ n = m) (_hn : n ≤ 1048576) (_hm : m ≤ 1048576) :
    Calls Try.prog 56 #[.slice a n ca, .slice b m cb] w fun e w' => e = .returned (.bool false) ∧ w' = w := by
  go_enter Try.func56, Try.ntmps56
  go_wp2
  go_ret
  exact ⟨rfl, rfl⟩
set_option maxHeartbeats 1000000 in
theorem eq_walk (w : World) (a b : Option Addr) (ca cb : Nat) (xs ys : List ByteArray) (hx : IsS w a xs) (hy : IsS w b ys) (he : xs.length = ys.length) (hl : xs.length ≤ 1048576) :
    Calls Try.prog 56 #[.slice a xs.length ca, .slice b ys.length cb] w fun e w' => e = .returned (.bool (eqs xs ys)) ∧ ∃ n, w' = w.drewN n := by
  have hb : ((xs.length : Int) != (ys.length : Int)) = false := by simp; omega
  go_enter Try.func56, Try.ntmps56
  go_wp2
  go_loopw [5] (fun i wr => ∃ k : Nat, k ≤ xs.length ∧ i = .int .i64 k ∧ Like xs ys k ∧ ∃ n, wr = w.drewN n) (fun i _ => xs.length - (intOf i).toNat)
  case atStart => exact ⟨0, Nat.zero_le _, rfl, fun j hj => by omega, 0, rfl⟩
  case round =>
    obtain ⟨k, hk, rfl, hlike, n, rfl⟩ := hrel
    by_cases hlt : k < xs.length
    · rcases hx with rfl | ⟨xb, xo, rfl, hxb, hxc⟩
      · simp at hlt
      · rcases hy with rfl | ⟨yb, yo, rfl, hyb, hyc⟩
        · simp at he; simp [he] at hlt
        · have hlt' : k < ys.length := by omega
          have hcx := hxc k hlt
          have hcy := hyc k hlt'
          have HL : Hid (Like xs ys k) := hlike
          clear hxc hyc hlike
          by_cases hv : xs[k] = ys[k]
          · have hv' : (xs[k].toList == ys[k].toList) = true := tl_eq hv
            have HV : Hid (xs[k] = ys[k]) := hv
            clear hv
            go_wp2
            go_quiet (fail)
            go_wp2
            go_roundw
            case rel => exact ⟨k + 1, by omega, by go_num, like_step HL.out hlt hlt' HV.out, _, rfl⟩
            case measure => simp [intOf]; omega
          · have hv' : (xs[k].toList == ys[k].toList) = false := tl_ne hv
            have HV : Hid (¬ xs[k] = ys[k]) := hv
            clear hv
            go_wp2
            go_quiet (fail)
            go_wp2
            go_ret
            exact ⟨by rw [eqs_no hlt hlt' HV.out]; rfl, _, World.drewN_drewN _ _ _⟩
    · have hk' : k = ys.length := by omega
      have HR : Hid (eqs xs ys = true) := eqs_all (hk' ▸ hlike) he
      clear hk'
      go_wp2
      go_ret
      exact ⟨by rw [HR.out]; rfl, _, rfl⟩
theorem eq_any (w : World) (a b : Option Addr) (ca cb : Nat) (xs ys : List ByteArray) (hx : IsS w a xs) (hy : IsS w b ys) (hl : xs.length ≤ 1048576) (hl' : ys.length ≤ 1048576) :
    Calls Try.prog 56 #[.slice a xs.length ca, .slice b ys.length cb] w fun e w' => e = .returned (.bool (eqs xs ys)) ∧ ∃ n, w' = w.drewN n := by
  by_cases he : xs.length = ys.length
  · exact eq_walk w a b ca cb xs ys hx hy he hl
  · refine (eq_len w a b _ _ ca cb he hl hl').mono ?_
    rintro e w' ⟨rfl, rfl⟩
    exact ⟨by rw [eqs_len he], 0, rfl⟩
theorem eq_bel (w : World) (a b : Option Addr) (ca cb : Nat) (xs ys : List ByteArray) (hx : IsS w a xs) (hy : IsS w b ys) (hl : xs.length ≤ 1048576) (hl' : ys.length ≤ 1048576) :
    Calls Try.prog 56 #[.slice a xs.length ca, .slice b ys.length cb] w fun e w' => e = .returned (.bool (eqs xs ys)) ∧ Below w.heap.size w w' := by
  refine (eq_any w a b ca cb xs ys hx hy hl hl').mono ?_
  rintro e w' ⟨rfl, n, rfl⟩
  exact ⟨rfl, below_drewN (Below.refl _ _) _⟩
end Go.Proofs.Ytkiddmbenepfjaa.Ls
