/-
  Contracts that the proof leans on, put together in the order in which they build.
-/
import Derived.Test.YtifemdjookmboaaGreatDoorPart2
import Derived.WalkKit
import Derived.Deep.QuietTactic
import Derived.BigQuiet
import Derived.Below
import Derived.OpenShut
import Derived.WalkSmall
import Derived.Lib.Strings
import Derived.Deep.RegionWith
import Derived.Deep.DeepMust
import Derived.Laws.IdiomStrings
import Derived.Lib.ItoaNum
import Derived.Lib.ConvBytes
/-
  Lists of texts: what a slice reads as, what a call owns; contracts of the laws' own helpers (a copy, a comparison, marks and whether they are held).
-/
namespace Go.Proofs.YtifemdjookmboaaGreatDoor.Ls
open Go.RowKit
open Go.Proofs.YtifemdjookmboaaGreatDoor.Li (below_none ret_bool ret_int grown_refl grown_trans grown_set)

def sv (xs : List ByteArray) : List Value := xs.map Value.string
theorem sv_length (xs : List ByteArray) : (sv xs).length = xs.length := by simp [sv]
theorem sv_get (xs : List ByteArray) (j : Nat) (h : j < xs.length) : (sv xs)[j]? = some (.string xs[j]) := by simp [sv, List.getElem?_eq_getElem h]
theorem sv_set (xs : List ByteArray) (j : Nat) (x : ByteArray) : (sv xs).set j (.string x) = sv (xs.set j x) := by simp [sv, List.map_set]
theorem sv_append (xs ys : List ByteArray) : sv xs ++ sv ys = sv (xs ++ ys) := by simp [sv]
theorem sv_one (xs : List ByteArray) : ∀ u ∈ sv xs, u.oneCell' = true := by
  intro u hu
  simp only [sv, List.mem_map] at hu
  obtain ⟨c, _, rfl⟩ := hu
  rfl
theorem sv_zero (n : Nat) : List.replicate n (Value.string ⟨#[]⟩) = sv (List.replicate n ⟨#[]⟩) := by simp [sv]

/-- The slice of address a reads as xs. -/
def IsS (w : World) (a : Option Addr) (xs : List ByteArray) : Prop :=
  xs = [] ∨ ∃ b off, a = some ⟨b, off, none⟩ ∧ b < w.heap.size ∧ ∀ j (hj : j < xs.length), w.cell? ⟨b, off + j, none⟩ = some (.string xs[j])
theorem IsS.keptAt {w w1 : World} {a : Option Addr} {xs : List ByteArray} (h : IsS w a xs) (hs : w.heap.size ≤ w1.heap.size) (hk : ∀ x, a = some x → x.block < w.heap.size → w1.heap[x.block]? = w.heap[x.block]?) : IsS w1 a xs := by
  rcases h with h | ⟨b, off, rfl, hb, hc⟩
  · exact .inl h
  · refine .inr ⟨b, off, rfl, by omega, fun j hj => ?_⟩
    rw [World.cell?_of_block (w := w) (a := ⟨b, off + j, none⟩) (hk ⟨b, off, none⟩ rfl hb)]
    exact hc j hj
theorem IsS.below {w w1 : World} {a : Option Addr} {xs : List ByteArray} (h : IsS w a xs) (hb : Below w.heap.size w w1) : IsS w1 a xs :=
  h.keptAt hb.size (fun _ _ hx => hb.block _ hx)
theorem IsS.drewN {w : World} {a : Option Addr} {xs : List ByteArray} (h : IsS w a xs) (n : Nat) : IsS (w.drewN n) a xs := h
/-- The value v is a slice of the call's own (blocks from 'base' on) that holds xs. -/
def Own (w : World) (base : Nat) (v : Value) (xs : List ByteArray) : Prop := w.ownsRow base 9 1 v xs.length (sv xs)
theorem Own.nil (w : World) (base : Nat) : Own w base (.slice none 0 0) [] := World.ownsRow_nil _ _ _ _
theorem Own.iss {w : World} {base : Nat} {v : Value} {xs : List ByteArray} (h : Own w base v xs) : ∃ a cap, v = .slice a xs.length cap ∧ IsS w a xs := by
  have h' := h
  rcases h.2 with ⟨rfl, h0⟩ | ⟨g, cap, cur, rfl, hb, hh, _⟩
  · obtain rfl := List.length_eq_zero_iff.1 h0
    exact ⟨none, 0, rfl, .inl rfl⟩
  · refine ⟨_, cap, rfl, .inr ⟨g, 0, rfl, (Array.getElem?_eq_some_iff.1 hh).1, fun j hj => ?_⟩⟩
    rw [Nat.zero_add, World.ownsRow.cellAt h' j (by omega), sv_get xs j hj]
theorem Own.kept {w w1 : World} {base : Nat} {v : Value} {xs : List ByteArray} {row : Option Nat} (h : Own w base v xs) (hg : w.grownBy w1 row) (hne : v.ownBlock = none ∨ v.ownBlock ≠ row) : Own w1 base v xs := World.ownsRow.kept h hg hne
theorem Own.below {w w1 : World} {base : Nat} {v : Value} {xs : List ByteArray} (h : Own w base v xs) (hb : Below w.heap.size w w1) : Own w1 base v xs :=
  World.ownsRow.kept (row := none) h ⟨hb.os, hb.tape, hb.output, hb.size, fun k hk _ => hb.block k hk⟩ (by cases hv : v.ownBlock <;> simp)
theorem Own.mono {w : World} {base base' : Nat} {v : Value} {xs : List ByteArray} (h : Own w base v xs) (hb : base' ≤ base) : Own w base' v xs := by
  refine ⟨h.1, ?_⟩
  rcases h.2 with h | ⟨g, cap, cur, e, hb', r⟩
  · exact .inl h
  · exact .inr ⟨g, cap, cur, e, by omega, r⟩
theorem Own.ge {w : World} {base : Nat} {v : Value} {xs : List ByteArray} (h : Own w base v xs) : ∀ k, v.ownBlock = some k → base ≤ k ∧ k < w.heap.size := World.ownsRow.lt h
theorem Own.drewN {w : World} {base : Nat} {v : Value} {xs : List ByteArray} (h : Own w base v xs) (n : Nat) : Own (w.drewN n) base v xs := h
/-- A new slice that has just been made of n noughts. -/
theorem own_made {w : World} {base n : Nat} {v : Value} (h : w.ownsRow base 9 1 v n (madeCells (Value.string ⟨#[]⟩).cells (n * 1)).toList) : Own w base v (List.replicate n ⟨#[]⟩) := by
  unfold Own
  have e : (madeCells (Value.string ⟨#[]⟩).cells (n * 1)).toList = sv (List.replicate n ⟨#[]⟩) := by
    rw [Nat.mul_one, ← sv_zero]; exact toList_madeCells_one _ _
  rw [e] at h
  simpa using h
theorem Own.cell {w : World} {base g cap n : Nat} {xs : List ByteArray} (h : Own w base (.slice (some ⟨g, 0, none⟩) n cap) xs) (hn : xs.length = n) (j : Nat) (hj : j < xs.length) : w.cell? ⟨g, j, none⟩ = some (.string xs[j]) := by
  subst hn
  rw [World.ownsRow.cellAt h j (by omega), sv_get xs j hj]
theorem Own.frozen {w : World} {base g cap n : Nat} {xs : List ByteArray} (h : Own w base (.slice (some ⟨g, 0, none⟩) n cap) xs) (hn : xs.length = n) (j : Nat) : w.frozen? ⟨g, j, none⟩ = false := by
  subst hn
  exact World.ownsRow.frozenAt h j
theorem Own.set {w : World} {base g cap n : Nat} {xs : List ByteArray} (h : Own w base (.slice (some ⟨g, 0, none⟩) n cap) xs) (hn : xs.length = n) (j : Nat) (x : ByteArray) :
    Own (w.setCell ⟨g, j, none⟩ (.string x)) base (.slice (some ⟨g, 0, none⟩) n cap) (xs.set j x) := by
  subst hn
  have := (World.ownsRow.stored h j (.string x)).1
  rw [sv_set] at this
  unfold Own
  rwa [List.length_set]
theorem info_str : (Tryz.prog.info? 9).map (fun i => (i.zero, i.size, i.bytes)) = some (some (.string ⟨#[]⟩), 1, 16) := by kernel_rfl

/-- Of two lists of one length the first k numbers are alike. -/
def Like (xs ys : List ByteArray) (k : Nat) : Prop := ∀ j, j < k → xs[j]? = ys[j]?
theorem like_set {xs ys : List ByteArray} {k : Nat} (h : Like ys xs k) (hk : k < xs.length) (hl : ys.length = xs.length) : Like (ys.set k xs[k]) xs (k + 1) := by
  intro j hj
  rw [List.getElem?_set]
  split
  · rename_i e
    subst e
    rw [if_pos (by omega), List.getElem?_eq_getElem hk]
  · exact h j (by omega)
theorem like_all {xs ys : List ByteArray} (h : Like ys xs xs.length) (hl : ys.length = xs.length) : ys = xs := by
  apply List.ext_getElem?
  intro j
  by_cases hj : j < xs.length
  · exact h j hj
  · rw [List.getElem?_eq_none (by omega), List.getElem?_eq_none (by omega)]


theorem tl_inj {s t : ByteArray} (h : s.toList = t.toList) : s = t := by
  rw [Lib.toList_data, Lib.toList_data] at h
  obtain ⟨⟨l⟩⟩ := s
  obtain ⟨⟨r⟩⟩ := t
  simp at h
  rw [h]
theorem tl_eq {s t : ByteArray} (h : s = t) : (s.toList == t.toList) = true := by rw [h]; simp
theorem tl_ne {s t : ByteArray} (h : ¬ s = t) : (s.toList == t.toList) = false := by
  simp only [beq_eq_false_iff_ne]
  exact fun e => h (tl_inj e)
/-- What two lists say, held against one another number by number. -/
def eqs (xs ys : List ByteArray) : Bool := decide (xs = ys)
theorem eqs_len {xs ys : List ByteArray} (h : ¬ xs.length = ys.length) : eqs xs ys = false := by unfold eqs; simp; intro e; exact h (by rw [e])
theorem eqs_all {xs ys : List ByteArray} (h : Like xs ys ys.length) (hl : xs.length = ys.length) : eqs xs ys = true := by unfold eqs; simp; exact like_all h hl
theorem eqs_no {xs ys : List ByteArray} {k : Nat} (hx : k < xs.length) (hy : k < ys.length) (h : ¬ xs[k] = ys[k]) : eqs xs ys = false := by
  unfold eqs; simp; intro e; subst e; exact h rfl
theorem like_step {xs ys : List ByteArray} {k : Nat} (h : Like xs ys k) (hx : k < xs.length) (hy : k < ys.length) (e : xs[k] = ys[k]) : Like xs ys (k + 1) := by
  intro j hj
  by_cases hjk : j = k
  · subst hjk; rw [List.getElem?_eq_getElem hx, List.getElem?_eq_getElem hy, e]
  · exact h j (by omega)
theorem eqs_self (xs : List ByteArray) : eqs xs xs = true := by simp [eqs]

set_option maxHeartbeats 1000000 in
theorem eq_len (w : World) (a b : Option Addr) (n m ca cb : Nat) (h : ¬ n = m) (_hn : n ≤ 1048576) (_hm : m ≤ 1048576) :
    Calls Tryz.prog 69 #[.slice a n ca, .slice b m cb] w fun e w' => e = .returned (.bool false) ∧ w' = w := by
  go_enter Tryz.func69, Tryz.ntmps69
  go_wp2
  go_ret
  exact ⟨rfl, rfl⟩
set_option maxHeartbeats 1000000 in
theorem eq_walk (w : World) (a b : Option Addr) (ca cb : Nat) (xs ys : List ByteArray) (hx : IsS w a xs) (hy : IsS w b ys) (he : xs.length = ys.length) (hl : xs.length ≤ 1048576) :
    Calls Tryz.prog 69 #[.slice a xs.length ca, .slice b ys.length cb] w fun e w' => e = .returned (.bool (eqs xs ys)) ∧ ∃ n, w' = w.drewN n := by
  have hb : ((xs.length : Int) != (ys.length : Int)) = false := by simp; omega
  go_enter Tryz.func69, Tryz.ntmps69
  go_wp2
  go_loopw [5] (fun i wr => ∃ k : Nat, k ≤ xs.length ∧ i = .int .i64 k ∧ Like xs ys k ∧ ∃ n, wr = w.drewN n) (fun i _ => xs.length - (intOf i).toNat)
  case atStart => exact ⟨0, Nat.zero_le _, rfl, fun j hj => by omega, 0, rfl⟩
  case round =>
    obtain ⟨k, hk, rfl, hlike, n, rfl⟩ := hrel
    by_cases hlt : k < xs.length
    · rcases hx with rfl | ⟨xb, xo, rfl, hxb, hxc⟩
      · simp at hlt
      · rcases hy with rfl | ⟨yb, yo, rfl, hyb, hyc⟩
        · simp at he; simp [he] at hlt
        · have hlt' : k < ys.length := by omega
          have hcx := hxc k hlt
          have hcy := hyc k hlt'
          have HL : Hid (Like xs ys k) := hlike
          clear hxc hyc hlike
          by_cases hv : xs[k] = ys[k]
          · have hv' : (xs[k].toList == ys[k].toList) = true := tl_eq hv
            have HV : Hid (xs[k] = ys[k]) := hv
            clear hv
            go_wp2
            go_quiet (fail)
            go_wp2
            go_roundw
            case rel => exact ⟨k + 1, by omega, by go_num, like_step HL.out hlt hlt' HV.out, _, rfl⟩
            case measure => simp [intOf]; omega
          · have hv' : (xs[k].toList == ys[k].toList) = false := tl_ne hv
            have HV : Hid (¬ xs[k] = ys[k]) := hv
            clear hv
            go_wp2
            go_quiet (fail)
            go_wp2
            go_ret
            exact ⟨by rw [eqs_no hlt hlt' HV.out]; rfl, _, World.drewN_drewN _ _ _⟩
    · have hk' : k = ys.length := by omega
      have HR : Hid (eqs xs ys = true) := eqs_all (hk' ▸ hlike) he
      clear hk'
      go_wp2
      go_ret
      exact ⟨by rw [HR.out]; rfl, _, rfl⟩
theorem eq_any (w : World) (a b : Option Addr) (ca cb : Nat) (xs ys : List ByteArray) (hx : IsS w a xs) (hy : IsS w b ys) (hl : xs.length ≤ 1048576) (hl' : ys.length ≤ 1048576) :
    Calls Tryz.prog 69 #[.slice a xs.length ca, .slice b ys.length cb] w fun e w' => e = .returned (.bool (eqs xs ys)) ∧ ∃ n, w' = w.drewN n := by
  by_cases he : xs.length = ys.length
  · exact eq_walk w a b ca cb xs ys hx hy he hl
  · refine (eq_len w a b _ _ ca cb he hl hl').mono ?_
    rintro e w' ⟨rfl, rfl⟩
    exact ⟨by rw [eqs_len he], 0, rfl⟩
theorem eq_bel (w : World) (a b : Option Addr) (ca cb : Nat) (xs ys : List ByteArray) (hx : IsS w a xs) (hy : IsS w b ys) (hl : xs.length ≤ 1048576) (hl' : ys.length ≤ 1048576) :
    Calls Tryz.prog 69 #[.slice a xs.length ca, .slice b ys.length cb] w fun e w' => e = .returned (.bool (eqs xs ys)) ∧ Below w.heap.size w w' := by
  refine (eq_any w a b ca cb xs ys hx hy hl hl').mono ?_
  rintro e w' ⟨rfl, n, rfl⟩
  exact ⟨rfl, Go.below_drewN (Below.refl _ _) _⟩
end Go.Proofs.YtifemdjookmboaaGreatDoor.Ls
/-
  How great a list of texts is, as the laws count it; small laws of frames.
-/
namespace Go.Proofs.YtifemdjookmboaaGreatDoor.Tb
open Go.RowKit
open Go.Proofs.YtifemdjookmboaaGreatDoor.Li (ret_bool ret_int below_none)

/-- What is left when s is taken from left; -1 where it is not enough. -/
def sub (left : Int) (s : Nat) : Int := if (s : Int) ≤ left then left - s else -1
theorem sub_yes {left : Int} {s : Nat} (h : (s : Int) ≤ left) : sub left s = left - s := if_pos h
theorem sub_no {left : Int} {s : Nat} (h : ¬ (s : Int) ≤ left) : sub left s = -1 := if_neg h

/-- How many letters. -/
def lets : List ByteArray → Nat
  | [] => 0
  | s :: r => s.size + lets r
theorem lets_take (ws : List ByteArray) (k : Nat) (h : k < ws.length) : lets (ws.take (k + 1)) = lets (ws.take k) + ws[k].size := by
  induction ws generalizing k with
  | nil => simp at h
  | cons s r ih =>
    cases k with
    | zero => simp [lets]
    | succ k =>
      simp only [List.take_succ_cons, lets, List.getElem_cons_succ]
      rw [ih k (by simpa using h)]
      omega
theorem lets_le (ws : List ByteArray) (k : Nat) : lets (ws.take k) ≤ lets ws := by
  induction ws generalizing k with
  | nil => simp
  | cons s r ih =>
    cases k with
    | zero => simp [lets]
    | succ k => simp only [List.take_succ_cons, lets]; have := ih k; omega
/-- Every word is of a size that Go can have. -/
def Fits (ws : List ByteArray) : Prop := ∀ j (hj : j < ws.length), ws[j].size ≤ 9223372036854775807


/-- A draw turns nothing in memory. -/
theorem undrewB {w w1 : World} (h : Below w.drew.heap.size w.drew w1) : Below w.heap.size w w1 := ⟨h.os, h.tape, h.output, h.size, h.block⟩
theorem lets_at (ws : List ByteArray) (k : Nat) (h : k < ws.length) : ws[k].size ≤ lets ws := by
  have h1 := lets_take ws k h
  have h2 := lets_le ws (k + 1)
  omega
/-- What is made later lies apart from what is owned now, of whatever kind. -/
theorem sepR {w w' : World} {B s s' n n' : Nat} {t t' : TypeId} {v v' : Value} {xs ys : List Value} (h : w.ownsRow B t s v n xs) (h' : w'.ownsRow w.heap.size t' s' v' n' ys) : (v'.ownBlock = none ∨ v'.ownBlock ≠ v.ownBlock) ∧ (v.ownBlock = none ∨ v.ownBlock ≠ v'.ownBlock) := by
  have h1 := World.ownsRow.lt h
  have h2 := World.ownsRow.lt h'
  cases e : v.ownBlock with
  | none => exact ⟨by cases e' : v'.ownBlock <;> simp, .inl rfl⟩
  | some k =>
    cases e' : v'.ownBlock with
    | none => exact ⟨.inl rfl, by simp⟩
    | some k' =>
      have := h1 k e
      have := h2 k' e'
      exact ⟨.inr (by simp; omega), .inr (by simp; omega)⟩
theorem below_ownR {w w1 : World} {B : Nat} {v : Value} (h : w.grownBy w1 v.ownBlock) (hv : ∀ k, v.ownBlock = some k → B ≤ k) (hB : B ≤ w.heap.size) : Below B w w1 :=
  ⟨h.os, h.tape, h.output, h.size, fun k hk => h.block k (by omega) (fun e => by have := hv k e.symm; omega)⟩
theorem isl_cap {w : World} {base : Nat} {v : Value} {xs : List Int} (h : Li.Own w base v xs) : ∃ a cap, v = .slice a xs.length cap ∧ xs.length ≤ cap ∧ Li.IsL w a xs := by
  obtain ⟨a, cap, e, hi⟩ := h.isl
  refine ⟨a, cap, e, ?_, hi⟩
  rcases h.2 with ⟨h1, h0⟩ | ⟨g, cap', cur, h1, _, _, hc, _⟩
  · omega
  · rw [e] at h1
    simp at h1
    omega
end Go.Proofs.YtifemdjookmboaaGreatDoor.Tb
/-
  Marks: what the laws write into a list, a list of texts, a table of the call's own, and whether it is held afterwards.
-/
namespace Go.Proofs.YtifemdjookmboaaGreatDoor.Mk
set_option maxRecDepth 100000
open Go.RowKit
open Go.Proofs.YtifemdjookmboaaGreatDoor.Tb
open Go.Proofs.YtifemdjookmboaaGreatDoor.Li (ret_bool grown_refl grown_trans grown_set below_none)

def dg (k : Nat) : UInt8 := UInt8.ofNat (48 + k % 10)
/-- The digits of a number, none of 0. -/
def digs (k : Nat) : List UInt8 := if k = 0 then [] else Lib.decDigits k
theorem digs_step (k : Nat) (h : k ≠ 0) : digs k = digs (k / 10) ++ [dg k] := by
  unfold digs dg
  rw [if_neg h, Lib.decDigits]
  by_cases h' : k < 10
  · rw [dif_pos h', if_pos (by omega), Nat.mod_eq_of_lt h']; rfl
  · rw [dif_neg h', if_neg (by omega)]
theorem digs_zero : digs 0 = [] := rfl
theorem digs_len : ∀ (n k : Nat), k < 10 ^ n → (digs k).length ≤ n
  | 0, k, h => by obtain rfl : k = 0 := by simpa using h
                  rw [digs_zero]; simp
  | n + 1, k, h => by
    by_cases h0 : k = 0
    · subst h0; rw [digs_zero]; simp
    · rw [digs_step k h0, List.length_append]
      have := digs_len n (k / 10) (by rw [Nat.pow_succ] at h; omega)
      simp; omega
def mtext (k : Nat) : ByteArray := if k = 0 then ⟨#[109, 48]⟩ else ⟨(109 :: digs k).toArray⟩
theorem dig_toNat (u : Nat) : ((dg u).toNat : Int) = 48 + ((u % 10 : Nat) : Int) := by
  unfold dg; rw [UInt8.toNat_ofNat']; omega
theorem ba_ext {a b : ByteArray} (h : a.data.toList = b.data.toList) : a = b := by
  obtain ⟨⟨l⟩⟩ := a; obtain ⟨⟨r⟩⟩ := b; simp at h; rw [h]
theorem one_byte (W : World) (x : Int) (c : UInt8) (hx : x = (c.toNat : Int)) (T : TypeId) :
    (convert 58 9 (.slice (some ⟨W.heap.size, 0, none⟩) 1 1)).run Tryz.prog (W.alloc (.cells #[.int .u8 x] T)) = .ok (.string ⟨#[c]⟩) (W.alloc (.cells #[.int .u8 x] T)) := by
  subst hx
  have := run_convert_bytes_back (P := Tryz.prog) (W.alloc (.cells #[.int .u8 (c.toNat : Int)] T)) 58 9 5 ⟨W.heap.size, 0, none⟩ 1 [c] Tryz.underlying58 Tryz.underlying5 Tryz.underlying9 (fun j hj => by
    obtain rfl : j = 0 := by simp at hj; omega
    rw [Go.WideShapes.add_plain]; simp)
  exact this
set_option maxHeartbeats 1000000 in
theorem mark_text (w : World) (k : Nat) (hk : k ≤ 2000000000000) :
    Calls Tryz.prog 72 #[.int .i64 k] w fun e w' => e = .returned (.string (mtext k)) ∧ Below w.heap.size w w' := by
  by_cases h0 : k = 0
  · subst h0
    go_enter Tryz.func72, Tryz.ntmps72
    go_wp2
    go_ret
    exact ⟨rfl, Below.refl _ _⟩
  · have h0' : ¬ (k : Int) ≤ 0 := by omega
    go_enter Tryz.func72, Tryz.ntmps72
    go_wp2
    go_loopw [0, 3] (fun i s wr => ∃ (q : Nat) (o : ByteArray), i = .int .i64 q ∧ s = .string o ∧ q ≤ k ∧ digs q ++ o.data.toList = digs k ∧ Below w.heap.size w wr) (fun i _ _ => (intOf i).toNat)
    case atStart => exact ⟨k, ⟨#[]⟩, rfl, rfl, Nat.le_refl _, by simp, Below.refl _ _⟩
    case round =>
      obtain ⟨q, o, rfl, rfl, hq, hd, hB⟩ := hrel
      have HD : Hid (digs q ++ o.data.toList = digs k) := hd
      clear hd
      have ho : o.size ≤ 13 := by
        have h1 := digs_len 13 k (by omega)
        have h2 := congrArg List.length HD.out
        simp at h2
        omega
      by_cases hz : q = 0
      · subst hz
        go_wp2
        go_ret
        refine ⟨?_, hB⟩
        have hd := HD.out
        rw [digs_zero, List.nil_append] at hd
        have e : mtext k = ⟨#[109]⟩ ++ o := ba_ext (by unfold mtext; rw [if_neg h0]; simp [hd])
        rw [e]; rfl
      · have hcv := one_byte wr (48 + (q : Int) % 10) (dg q) (by rw [dig_toNat]; omega) 5
        have HS := digs_step q hz
        have HS : Hid (digs q = digs (q / 10) ++ [dg q]) := HS
        go_wp2
        go_roundw
        case rel =>
          refine ⟨q / 10, ⟨#[dg q]⟩ ++ o, by go_num, rfl, by omega, ?_, hB.alloc hB.size _⟩
          have := HD.out
          rw [HS.out] at this
          simpa using this
        case measure => simp [intOf]; omega
def mtexts (k n : Nat) : List ByteArray := (List.range n).map fun j => mtext (k + j)
theorem mtexts_length (k n : Nat) : (mtexts k n).length = n := by simp [mtexts]
theorem mtexts_get (k n j : Nat) (h : j < (mtexts k n).length) : (mtexts k n)[j] = mtext (k + j) := by simp [mtexts]
theorem grown_below {w wr w1 : World} {row : Option Nat} (h : w.grownBy wr row) (hB : Below wr.heap.size wr w1) : w.grownBy w1 row :=
  ⟨hB.os.trans h.os, hB.tape.trans h.tape, hB.output.trans h.output, Nat.le_trans h.size hB.size, fun k hk hr => (hB.block k (Nat.lt_of_lt_of_le hk h.size)).trans (h.block k hk hr)⟩
set_option maxHeartbeats 1000000 in
theorem mark_strs (w : World) (base : Nat) (a : Option Addr) (n cap k : Nat) (xs : List ByteArray) (hn : xs.length = n) (h : Ls.Own w base (.slice a n cap) xs) (hl : n ≤ 1048576) (k1 : k ≤ 1000000000000) :
    Calls Tryz.prog 40 #[.slice a n cap, .int .i64 k] w fun e w' => e = .returned (.int .i64 ((k + n : Nat) : Int)) ∧ Ls.Own w' base (.slice a n cap) (mtexts k n) ∧ w.grownBy w' (Value.slice a n cap).ownBlock := by
  go_enter Tryz.func40, Tryz.ntmps40
  go_wp2
  go_loopw [1, 5] (fun q i wr => ∃ j : Nat, j ≤ n ∧ i = .int .i64 j ∧ q = .int .i64 ((k + j : Nat) : Int) ∧ ∃ l : List ByteArray, l.length = n ∧ Ls.Like l (mtexts k n) j ∧ Ls.Own wr base (.slice a n cap) l ∧ w.grownBy wr (Value.slice a n cap).ownBlock) (fun _ i _ => n - (intOf i).toNat)
  case atStart => exact ⟨0, Nat.zero_le _, rfl, by go_num, xs, hn, fun j hj => by omega, h, grown_refl _ _⟩
  case round =>
    obtain ⟨j, hj, rfl, rfl, l, hll, hlike, hown, hg⟩ := hrel
    clear h
    by_cases hlt : j < n
    · have hown0 := hown
      rcases hown0.2 with ⟨hv, h0⟩ | ⟨g, cap', cur, hv, _⟩
      · omega
      · obtain ⟨rfl, rfl, rfl⟩ : a = some ⟨g, 0, none⟩ ∧ n = l.length ∧ cap = cap' := by simpa using hv
        clear hv hown0
        have HL : Hid (Ls.Like (l.set j (mtext (k + j))) (mtexts k l.length) (j + 1)) := by
          have := Ls.like_set hlike (by rw [mtexts_length]; exact hlt) (by rw [mtexts_length])
          rwa [mtexts_get] at this
        clear hlike
        go_wp2_with fail
        refine (mark_text _ (k + j) (by omega)).mono ?_
        rintro e w1 ⟨rfl, hB1⟩
        have hown := hown.below hB1
        have hg := grown_below hg hB1
        have hcl := hown.cell rfl j hlt
        have hcf := hown.frozen rfl j
        have HO : Hid (Ls.Own w1 base (.slice (some ⟨g, 0, none⟩) l.length cap) l) := hown
        clear hown hB1
        obtain ⟨t, ht⟩ : ∃ t, mtext (k + j) = t := ⟨_, rfl⟩
        rw [ht] at HL ⊢
        clear ht
        go_wp2
        go_roundw
        case rel => exact ⟨j + 1, by omega, by go_num, by go_num, l.set j t, by simp, HL.out, HO.out.set rfl j _, grown_trans hg (grown_set _ _ _ _)⟩
        case measure => simp [intOf]; omega
    · obtain rfl : j = n := by omega
      have HO : Hid (Ls.Own wr base (.slice a j cap) (mtexts k j)) := by
        have e := Ls.like_all (xs := mtexts k j) (by rw [mtexts_length]; exact hlike) (by rw [mtexts_length]; exact hll)
        rw [← e]; exact hown
      clear hown hlike
      go_wp2
      go_ret
      exact ⟨rfl, HO.out, hg⟩
set_option maxHeartbeats 1000000 in
theorem held_strs (w : World) (a : Option Addr) (n cap k : Nat) (h : Ls.IsS w a (mtexts k n)) (hl : n ≤ 1048576) (k1 : k ≤ 1000000000000) :
    Calls Tryz.prog 43 #[.slice a n cap, .int .i64 k] w fun e w' => e = .returned (.int .i64 ((k + n : Nat) : Int)) ∧ Below w.heap.size w w' := by
  go_enter Tryz.func43, Tryz.ntmps43
  go_wp2
  go_loopw [1, 5] (fun q i wr => ∃ j : Nat, j ≤ n ∧ i = .int .i64 j ∧ q = .int .i64 ((k + j : Nat) : Int) ∧ Below w.heap.size w wr) (fun _ i _ => n - (intOf i).toNat)
  case atStart => exact ⟨0, Nat.zero_le _, rfl, by go_num, Below.refl _ _⟩
  case round =>
    obtain ⟨j, hj, rfl, rfl, hB⟩ := hrel
    by_cases hlt : j < n
    · rcases h.below hB with h | ⟨b, off, rfl, hb, hc⟩
      · have := mtexts_length k n; rw [h] at this; simp at this; omega
      · have hcx := hc j (by rw [mtexts_length]; exact hlt)
        rw [mtexts_get] at hcx
        clear hc
        go_wp2
        go_region_with (go_at_call 72; refine (mark_text _ (k + j) (by omega)).mono ?_; rintro e w1 ⟨rfl, hB1⟩; have hk1 : Hid (Below wr.heap.size wr w1) := by first | exact hB1 | exact Tb.undrewB hB1
                        have hc1 : w1.cell? ⟨b, off + j, none⟩ = some (.string (mtext (k + j))) := (hk1.out.cell (by exact hb)).trans hcx
                        clear hB1)
        all_goals
          have hB := hB.trans (hk1.out.mono hB.size)
          have hss : ((mtext (k + j)).toList == (mtext (k + j)).toList) = true := Ls.tl_eq rfl
          go_wp2
          go_roundw
          case rel => exact ⟨j + 1, by omega, by go_num, by go_num, hB⟩
          case measure => simp [intOf]; omega
    · obtain rfl : j = n := by omega
      go_wp2
      go_ret
      exact ⟨rfl, hB⟩
end Go.Proofs.YtifemdjookmboaaGreatDoor.Mk
/-
  Tables as the laws and both texts hold them: rows of numbers, words and a label; contracts of the laws' own helpers (how great, a copy, a comparison).
-/
namespace Go.Proofs.YtifemdjookmboaaGreatDoor.Tb
open Go.RowKit
open Go.Proofs.YtifemdjookmboaaGreatDoor.Li (ret_bool ret_int below_none)

/-- A row of a table. -/
structure Row where
  nums : List Int
  cats : List ByteArray
  label : Int
/-- Three cells that read as a row. -/
def RowIs (w : World) (v0 v1 v2 : Value) (r : Row) : Prop :=
  ∃ a0 c0 a1 c1, v0 = .slice a0 r.nums.length c0 ∧ v1 = .slice a1 r.cats.length c1 ∧ v2 = .int .i64 r.label ∧ Li.IsL w a0 r.nums ∧ Ls.IsS w a1 r.cats
/-- Of a size that Go can have. -/
def Row.fits (r : Row) : Prop := r.nums.length ≤ 9223372036854775807 ∧ r.cats.length ≤ 9223372036854775807 ∧ Fits r.cats
def Row.sz (r : Row) : Nat := r.nums.length + (r.cats.length + lets r.cats)
theorem RowIs.below {w w1 : World} {v0 v1 v2 : Value} {r : Row} (h : RowIs w v0 v1 v2 r) (hB : Below w.heap.size w w1) : RowIs w1 v0 v1 v2 r := by
  obtain ⟨a0, c0, a1, c1, e0, e1, e2, h0, h1⟩ := h
  exact ⟨a0, c0, a1, c1, e0, e1, e2, h0.below hB, h1.below hB⟩

theorem grown_set' (w : World) (b o : Nat) (v : Value) : w.grownBy (w.setCell ⟨b, o, none⟩ v) (some b) := Li.grown_set w b o v
theorem own_off {w w1 : World} {B b : Nat} {v : Value} {xs : List Int} (h : Li.Own w B v xs) (hg : w.grownBy w1 (some b)) (hb : b < B) : Li.Own w1 B v xs := by
  refine h.kept hg ?_
  cases e : v.ownBlock with
  | none => exact .inl rfl
  | some k => exact .inr (by have := (h.ge k e).1; simp; omega)
theorem sown_off {w w1 : World} {B b : Nat} {v : Value} {xs : List ByteArray} (h : Ls.Own w B v xs) (hg : w.grownBy w1 (some b)) (hb : b < B) : Ls.Own w1 B v xs := by
  refine h.kept hg ?_
  cases e : v.ownBlock with
  | none => exact .inl rfl
  | some k => exact .inr (by have := (h.ge k e).1; simp; omega)
/-- A variable of three cells. -/
def Box3 (w : World) (b : Nat) (v0 v1 v2 : Value) : Prop :=
  b < w.heap.size ∧ (w.cell? ⟨b, 0, none⟩ = some v0 ∧ w.cell? ⟨b, 1, none⟩ = some v1 ∧ w.cell? ⟨b, 2, none⟩ = some v2) ∧ w.frozen? ⟨b, 0, none⟩ = false ∧ w.frozen? ⟨b, 1, none⟩ = false ∧ w.frozen? ⟨b, 2, none⟩ = false
theorem Box3.keptAt {w w1 : World} {b : Nat} {v0 v1 v2 : Value} (h : Box3 w b v0 v1 v2) (hs : w.heap.size ≤ w1.heap.size) (hb : w1.heap[b]? = w.heap[b]?) : Box3 w1 b v0 v1 v2 := by
  obtain ⟨hlt, ⟨c0, c1, c2⟩, f0, f1, f2⟩ := h
  refine ⟨by omega, ⟨?_, ?_, ?_⟩, ?_, ?_, ?_⟩
  · rw [World.cell?_of_block (w := w) (a := ⟨b, 0, none⟩) hb]; exact c0
  · rw [World.cell?_of_block (w := w) (a := ⟨b, 1, none⟩) hb]; exact c1
  · rw [World.cell?_of_block (w := w) (a := ⟨b, 2, none⟩) hb]; exact c2
  · rw [World.frozen?_of_block (w := w) (a := ⟨b, 0, none⟩) hb]; exact f0
  · rw [World.frozen?_of_block (w := w) (a := ⟨b, 1, none⟩) hb]; exact f1
  · rw [World.frozen?_of_block (w := w) (a := ⟨b, 2, none⟩) hb]; exact f2
theorem Box3.below {w w1 : World} {b : Nat} {v0 v1 v2 : Value} (h : Box3 w b v0 v1 v2) (hB : Below w.heap.size w w1) : Box3 w1 b v0 v1 v2 := h.keptAt hB.size (hB.block b h.1)
theorem Box3.setOther {w : World} {b g o : Nat} {v0 v1 v2 v : Value} (h : Box3 w b v0 v1 v2) (hne : ¬ b = g) : Box3 (w.setCell ⟨g, o, none⟩ v) b v0 v1 v2 :=
  h.keptAt (by simp [World.setCell]) (Below.heap_setCell _ _ _ _ (fun e => hne (by simpa using e)))
theorem Box3.set0 {w : World} {b : Nat} {v0 v1 v2 : Value} (h : Box3 w b v0 v1 v2) (v : Value) : Box3 (w.setCell ⟨b, 0, none⟩ v) b v v1 v2 := by
  obtain ⟨hlt, ⟨c0, c1, c2⟩, f0, f1, f2⟩ := h
  refine ⟨by simpa [World.setCell] using hlt, ⟨World.cell?_setCell_same _ _ _ c0, ?_, ?_⟩, ?_, ?_, ?_⟩
  · rw [World.cell?_setCell_other _ _ _ _ (by simp)]; exact c1
  · rw [World.cell?_setCell_other _ _ _ _ (by simp)]; exact c2
  all_goals (rw [World.frozen?_setCell]; assumption)
theorem Box3.set1 {w : World} {b : Nat} {v0 v1 v2 : Value} (h : Box3 w b v0 v1 v2) (v : Value) : Box3 (w.setCell ⟨b, 1, none⟩ v) b v0 v v2 := by
  obtain ⟨hlt, ⟨c0, c1, c2⟩, f0, f1, f2⟩ := h
  refine ⟨by simpa [World.setCell] using hlt, ⟨?_, World.cell?_setCell_same _ _ _ c1, ?_⟩, ?_, ?_, ?_⟩
  · rw [World.cell?_setCell_other _ _ _ _ (by simp)]; exact c0
  · rw [World.cell?_setCell_other _ _ _ _ (by simp)]; exact c2
  all_goals (rw [World.frozen?_setCell]; assumption)
theorem box3_new (w : World) (v0 v1 v2 : Value) (T : TypeId) : Box3 (w.alloc (.cells #[v0, v1, v2] T)) w.heap.size v0 v1 v2 :=
  ⟨by simp, ⟨by simp [World.cell?_alloc_new], by simp [World.cell?_alloc_new], by simp [World.cell?_alloc_new]⟩, by simp, by simp, by simp⟩
theorem Box3.alloc {w : World} {b : Nat} {v0 v1 v2 : Value} (h : Box3 w b v0 v1 v2) (o : Obj) : Box3 (w.alloc o) b v0 v1 v2 := h.below ((Below.refl _ _).alloc (Nat.le_refl _) _)
theorem size_alloc (w : World) (o : Obj) : (w.alloc o).heap.size = w.heap.size + 1 := by simp
/-- Three variables of three cells, one behind the other. -/
theorem boxes3 (w : World) (v0 v1 v2 x0 x1 x2 y0 y1 y2 : Value) (T U V : TypeId) : ∃ W, ((w.alloc (.cells #[v0, v1, v2] T)).alloc (.cells #[x0, x1, x2] U)).alloc (.cells #[y0, y1, y2] V) = W ∧ W.heap.size = w.heap.size + 3 ∧ Below w.heap.size w W ∧ Box3 W w.heap.size v0 v1 v2 ∧ Box3 W (w.heap.size + 1) x0 x1 x2 ∧ Box3 W (w.heap.size + 2) y0 y1 y2 := by
  refine ⟨_, rfl, by simp, (((Below.refl _ _).alloc (Nat.le_refl _) _).alloc (by simp) _).alloc (by simp; omega) _, ?_, ?_, ?_⟩
  · exact ((box3_new _ _ _ _ _).alloc _).alloc _
  · have := (box3_new (w.alloc (.cells #[v0, v1, v2] T)) x0 x1 x2 U).alloc (.cells #[y0, y1, y2] V)
    rwa [size_alloc] at this
  · have := box3_new ((w.alloc (.cells #[v0, v1, v2] T)).alloc (.cells #[x0, x1, x2] U)) y0 y1 y2 V
    rwa [size_alloc, size_alloc] at this
theorem boxes2 (w : World) (v0 v1 v2 x0 x1 x2 : Value) (T U : TypeId) : ∃ W, (w.alloc (.cells #[v0, v1, v2] T)).alloc (.cells #[x0, x1, x2] U) = W ∧ W.heap.size = w.heap.size + 2 ∧ Below w.heap.size w W ∧ Box3 W w.heap.size v0 v1 v2 ∧ Box3 W (w.heap.size + 1) x0 x1 x2 := by
  refine ⟨_, rfl, by simp, ((Below.refl _ _).alloc (Nat.le_refl _) _).alloc (by simp) _, ?_, ?_⟩
  · exact (box3_new _ _ _ _ _).alloc _
  · have := box3_new (w.alloc (.cells #[v0, v1, v2] T)) x0 x1 x2 U
    rwa [size_alloc] at this
theorem results_cell {fn : Func} {p : Tmp} {ty : TypeId} (h : fn.results = #[.cell p ty]) (tmps : Array Value) (P : Program) (w : World) :
    (results fn tmps).run P w = ((asAddr (tmps.getD p undef)).run P w).andThen fun a w₁ => (loadVar ty a).run P w₁ := by
  simp only [results, h]
  simp [Sem.run_bind, Result.andThen]
set_option maxHeartbeats 1000000 in
theorem eqSchema (w : World) (n c n' c' : Int) :
    Calls Tryz.prog 16 #[.agg #[.int .i64 n, .int .i64 c], .agg #[.int .i64 n', .int .i64 c']] w fun e w' => e = .returned (.bool (decide (n = n' ∧ c = c'))) ∧ Below w.heap.size w w' := by
  go_enter Tryz.func16, Tryz.ntmps16
  go_wp2
  all_goals go_ret
  all_goals refine ⟨ret_bool ?_, ((Below.refl _ _).alloc (Nat.le_refl _) _).alloc (by simp) _⟩
  all_goals simp at *
  all_goals omega
/-- The slice of address a reads as these rows. -/
def IsR (w : World) (a : Option Addr) (rs : List Row) : Prop :=
  rs = [] ∨ ∃ b off, a = some ⟨b, off, none⟩ ∧ b < w.heap.size ∧ ∀ j (hj : j < rs.length), ∃ v0 v1 v2, (w.cell? ⟨b, off + j * 3, none⟩ = some v0 ∧ w.cell? ⟨b, off + j * 3 + 1, none⟩ = some v1 ∧ w.cell? ⟨b, off + j * 3 + 2, none⟩ = some v2) ∧ RowIs w v0 v1 v2 rs[j]
theorem IsR.below {w w1 : World} {a : Option Addr} {rs : List Row} (h : IsR w a rs) (hB : Below w.heap.size w w1) : IsR w1 a rs := by
  rcases h with h | ⟨b, off, rfl, hb, hc⟩
  · exact .inl h
  · refine .inr ⟨b, off, rfl, Nat.lt_of_lt_of_le hb hB.size, fun j hj => ?_⟩
    obtain ⟨v0, v1, v2, ⟨c0, c1, c2⟩, hr⟩ := hc j hj
    exact ⟨v0, v1, v2, ⟨(hB.cell (by exact hb)).trans c0, (hB.cell (by exact hb)).trans c1, (hB.cell (by exact hb)).trans c2⟩, hr.below hB⟩
def szR : List Row → Nat
  | [] => 0
  | r :: rs => r.sz + szR rs
theorem szR_take (rs : List Row) (k : Nat) (h : k < rs.length) : szR (rs.take (k + 1)) = szR (rs.take k) + rs[k].sz := by
  induction rs generalizing k with
  | nil => simp at h
  | cons s r ih =>
    cases k with
    | zero => simp [szR]
    | succ k =>
      simp only [List.take_succ_cons, szR, List.getElem_cons_succ]
      rw [ih k (by simpa using h)]
      omega
theorem szR_le (rs : List Row) (k : Nat) : szR (rs.take k) ≤ szR rs := by
  induction rs generalizing k with
  | nil => simp
  | cons s r ih =>
    cases k with
    | zero => simp [szR]
    | succ k => simp only [List.take_succ_cons, szR]; have := ih k; omega
theorem szR_at (rs : List Row) (k : Nat) (h : k < rs.length) : rs[k].sz ≤ szR rs := by
  have h1 := szR_take rs k h
  have h2 := szR_le rs (k + 1)
  omega
/-- All rows of a size that Go can have. -/
def FitsR (rs : List Row) : Prop := rs.length ≤ 9223372036854775807 ∧ ∀ j (hj : j < rs.length), rs[j].fits

theorem info_smp : (Tryz.prog.info? 150).map (fun i => (i.zero, i.size, i.bytes)) = some (some (.agg #[.slice none 0 0, .slice none 0 0, .int .i64 0]), 3, 56) := by kernel_rfl
/-- What u owns lies apart from what v owns. -/
def apart (u v : Value) : Prop := u.ownBlock = none ∨ u.ownBlock ≠ v.ownBlock
theorem apart_of {u v : Value} (h : ∀ k, u.ownBlock = some k → v.ownBlock = some k → False) : apart u v := by
  cases e : u.ownBlock with
  | none => exact .inl e
  | some k => exact .inr fun e' => h k e (by rw [← e', e])
/-- The rows' own slices, as far as k, lie apart from one another and from block g. -/
def Sp (V0 V1 : Nat → Value) (g k : Nat) : Prop :=
  (∀ i, i < k → (V0 i).ownBlock ≠ some g ∧ (V1 i).ownBlock ≠ some g) ∧
  ∀ i j, i < k → j < k → (i ≠ j → apart (V0 i) (V0 j) ∧ apart (V1 i) (V1 j)) ∧ apart (V0 i) (V1 j)
def Nest (w : World) (B g : Nat) (V0 V1 : Nat → Value) (xs : List Value) (rs : List Row) (k : Nat) : Prop :=
  (∀ i (hi : i < rs.length), i < k → (xs[i * 3]? = some (V0 i) ∧ xs[i * 3 + 1]? = some (V1 i) ∧ xs[i * 3 + 2]? = some (.int .i64 rs[i].label)) ∧ Li.Own w B (V0 i) rs[i].nums ∧ Ls.Own w B (V1 i) rs[i].cats) ∧ Sp V0 V1 g k
theorem nest_zero (w : World) (B g : Nat) (V0 V1 : Nat → Value) (xs : List Value) (rs : List Row) : Nest w B g V0 V1 xs rs 0 :=
  ⟨fun _ _ h => by omega, fun _ h => by omega, fun _ _ h => by omega⟩
def upd (V : Nat → Value) (k : Nat) (u : Value) : Nat → Value := fun i => if i = k then u else V i
theorem upd_at (V : Nat → Value) (k : Nat) (u : Value) : upd V k u k = u := if_pos rfl
theorem upd_off {V : Nat → Value} {k i : Nat} (u : Value) (h : i ≠ k) : upd V k u i = V i := if_neg h
theorem nest_step {wr w2 : World} {B g k : Nat} {V0 V1 : Nat → Value} {xs : List Value} {rs : List Row} {u0 u1 : Value} (h : Nest wr B g V0 V1 xs rs k) (hk : k < rs.length) (hxl : xs.length = rs.length * 3)
    (hg : g < B) (hB : B ≤ wr.heap.size) (o0 : Li.Own w2 wr.heap.size u0 rs[k].nums) (o1 : Ls.Own w2 wr.heap.size u1 rs[k].cats) (ha : apart u0 u1) (hb : Below wr.heap.size wr w2) :
    Nest (((w2.setCell ⟨g, k * 3, none⟩ u0).setCell ⟨g, k * 3 + 1, none⟩ u1).setCell ⟨g, k * 3 + 2, none⟩ (.int .i64 rs[k].label)) B g (upd V0 k u0) (upd V1 k u1) (((xs.set (k * 3) u0).set (k * 3 + 1) u1).set (k * 3 + 2) (.int .i64 rs[k].label)) rs (k + 1) := by
  obtain ⟨h1, h2, h3⟩ := h
  have old0 : ∀ i (hi : i < rs.length), i < k → ∀ b, (V0 i).ownBlock = some b → B ≤ b ∧ b < wr.heap.size := fun i hi hik b e => ((h1 i hi hik).2.1).ge b e
  have old1 : ∀ i (hi : i < rs.length), i < k → ∀ b, (V1 i).ownBlock = some b → B ≤ b ∧ b < wr.heap.size := fun i hi hik b e => ((h1 i hi hik).2.2).ge b e
  have new0 : ∀ b, u0.ownBlock = some b → wr.heap.size ≤ b := fun b e => (o0.ge b e).1
  have new1 : ∀ b, u1.ownBlock = some b → wr.heap.size ≤ b := fun b e => (o1.ge b e).1
  have s3 : ∀ {v : Value} {ys : List Int}, Li.Own w2 B v ys → Li.Own (((w2.setCell ⟨g, k * 3, none⟩ u0).setCell ⟨g, k * 3 + 1, none⟩ u1).setCell ⟨g, k * 3 + 2, none⟩ (.int .i64 rs[k].label)) B v ys :=
    fun o => own_off (own_off (own_off o (grown_set' _ _ _ _) hg) (grown_set' _ _ _ _) hg) (grown_set' _ _ _ _) hg
  have t3 : ∀ {v : Value} {ys : List ByteArray}, Ls.Own w2 B v ys → Ls.Own (((w2.setCell ⟨g, k * 3, none⟩ u0).setCell ⟨g, k * 3 + 1, none⟩ u1).setCell ⟨g, k * 3 + 2, none⟩ (.int .i64 rs[k].label)) B v ys :=
    fun o => sown_off (sown_off (sown_off o (grown_set' _ _ _ _) hg) (grown_set' _ _ _ _) hg) (grown_set' _ _ _ _) hg
  refine ⟨fun i hi hik => ?_, fun i hik => ?_, fun i j hik hjk => ?_⟩
  · by_cases e : i = k
    · subst e
      rw [upd_at, upd_at]
      refine ⟨⟨?_, ?_, ?_⟩, s3 (o0.mono hB), t3 (o1.mono hB)⟩
      · simp only [List.getElem?_set, List.length_set]; rw [if_neg (by omega), if_neg (by omega), if_pos True.intro, if_pos (by omega)]
      · simp only [List.getElem?_set, List.length_set]; rw [if_neg (by omega), if_pos True.intro, if_pos (by omega)]
      · simp only [List.getElem?_set, List.length_set]; rw [if_pos True.intro, if_pos (by omega)]
    · rw [upd_off _ e, upd_off _ e]
      obtain ⟨⟨c0, c1, c2⟩, p0, p1⟩ := h1 i hi (by omega)
      refine ⟨⟨?_, ?_, ?_⟩, s3 (p0.below hb), t3 (p1.below hb)⟩
      · simp only [List.getElem?_set]; rw [if_neg (by omega), if_neg (by omega), if_neg (by omega)]; exact c0
      · simp only [List.getElem?_set]; rw [if_neg (by omega), if_neg (by omega), if_neg (by omega)]; exact c1
      · simp only [List.getElem?_set]; rw [if_neg (by omega), if_neg (by omega), if_neg (by omega)]; exact c2
  · by_cases e : i = k
    · subst e
      rw [upd_at, upd_at]
      exact ⟨fun e => by have := new0 g e; omega, fun e => by have := new1 g e; omega⟩
    · rw [upd_off _ e, upd_off _ e]
      exact h2 i (by omega)
  · by_cases ei : i = k
    · by_cases ej : j = k
      · subst ei; subst ej
        rw [upd_at, upd_at]
        exact ⟨fun h => absurd rfl h, ha⟩
      · subst ei
        rw [upd_at, upd_at, upd_off _ ej, upd_off _ ej]
        have a0 := old0 j (by omega) (by omega)
        have a1 := old1 j (by omega) (by omega)
        exact ⟨fun _ => ⟨apart_of fun b e e' => by have := new0 b e; have := (a0 b e').2; omega, apart_of fun b e e' => by have := new1 b e; have := (a1 b e').2; omega⟩, apart_of fun b e e' => by have := new0 b e; have := (a1 b e').2; omega⟩
    · by_cases ej : j = k
      · subst ej
        rw [upd_at, upd_at, upd_off _ ei, upd_off _ ei]
        have a0 := old0 i (by omega) (by omega)
        have a1 := old1 i (by omega) (by omega)
        exact ⟨fun _ => ⟨apart_of fun b e e' => by have := new0 b e'; have := (a0 b e).2; omega, apart_of fun b e e' => by have := new1 b e'; have := (a1 b e).2; omega⟩, apart_of fun b e e' => by have := new1 b e'; have := (a0 b e).2; omega⟩
      · rw [upd_off _ ei, upd_off _ ej, upd_off _ ei, upd_off _ ej]
        exact h3 i j (by omega) (by omega)
/-- What a slice of the call's own holds hangs on its own block alone. -/
theorem ownsRow_at {w w1 : World} {base : Nat} {e : TypeId} {size : Nat} {v : Value} {n : Nat} {xs : List Value} (h : w.ownsRow base e size v n xs) (hk : ∀ k, v.ownBlock = some k → w1.heap[k]? = w.heap[k]?) : w1.ownsRow base e size v n xs := by
  refine ⟨h.1, ?_⟩
  rcases h.2 with h | ⟨g, cap, cur, rfl, hb, hh, r⟩
  · exact .inl h
  · exact .inr ⟨g, cap, cur, rfl, hb, by rw [hk g rfl]; exact hh, r⟩
/-- A slice of rows of the call's own, all the way down, in blocks from lo on, below hi. -/
def OwnT (w : World) (lo hi : Nat) (v : Value) (rs : List Row) : Prop :=
  ∃ g xs V0 V1, (∀ k, v.ownBlock = some k → k = g ∧ k < hi) ∧ w.ownsRow lo 150 3 v rs.length xs ∧ Nest w lo g V0 V1 xs rs rs.length ∧
    ∀ i, i < rs.length → (∀ b, (V0 i).ownBlock = some b → b < hi) ∧ (∀ b, (V1 i).ownBlock = some b → b < hi)
theorem OwnT.isr {w : World} {lo hi : Nat} {v : Value} {rs : List Row} (h : OwnT w lo hi v rs) : ∃ a cap, v = .slice a rs.length cap ∧ IsR w a rs := by
  obtain ⟨g, xs, V0, V1, hg, hown, ⟨hn, _⟩, _⟩ := h
  have hown' := hown
  rcases hown.2 with ⟨rfl, h0⟩ | ⟨g', cap, cur, rfl, hb, hh, _⟩
  · exact ⟨none, 0, by rw [h0], .inl (List.length_eq_zero_iff.1 h0)⟩
  · obtain ⟨rfl, _⟩ := hg g' rfl
    have hlt : g' < w.heap.size := (Array.getElem?_eq_some_iff.1 hh).1
    refine ⟨_, cap, rfl, .inr ⟨g', 0, rfl, hlt, fun j hj => ?_⟩⟩
    obtain ⟨⟨c0, c1, c2⟩, o0, o1⟩ := hn j hj hj
    refine ⟨V0 j, V1 j, .int .i64 rs[j].label, ⟨?_, ?_, ?_⟩, ?_⟩
    · rw [Nat.zero_add, World.ownsRow.cellAt hown' _ (by omega), c0]
    · rw [Nat.zero_add, World.ownsRow.cellAt hown' _ (by omega), c1]
    · rw [Nat.zero_add, World.ownsRow.cellAt hown' _ (by omega), c2]
    · obtain ⟨a0, q0, e0, i0⟩ := o0.isl
      obtain ⟨a1, q1, e1, i1⟩ := o1.iss
      exact ⟨a0, q0, a1, q1, e0, e1, rfl, i0, i1⟩
/-- Nothing in lo .. hi - 1 has turned: what is owned there stands. -/
theorem OwnT.keptAt {w w1 : World} {lo hi : Nat} {v : Value} {rs : List Row} (h : OwnT w lo hi v rs) (hk : ∀ k, lo ≤ k → k < hi → k < w.heap.size → w1.heap[k]? = w.heap[k]?) : OwnT w1 lo hi v rs := by
  obtain ⟨g, xs, V0, V1, hg, hown, ⟨hn, hs⟩, hv⟩ := h
  refine ⟨g, xs, V0, V1, hg, ownsRow_at hown (fun k e => hk k (World.ownsRow.lt hown k e).1 (hg k e).2 (World.ownsRow.lt hown k e).2), ⟨fun i hi' hik => ?_, hs⟩, hv⟩
  obtain ⟨hc, o0, o1⟩ := hn i hi' hik
  exact ⟨hc, ownsRow_at o0 (fun k e => hk k (o0.ge k e).1 ((hv i hi').1 k e) (o0.ge k e).2), ownsRow_at o1 (fun k e => hk k (o1.ge k e).1 ((hv i hi').2 k e) (o1.ge k e).2)⟩
theorem OwnT.below {w w1 : World} {lo hi : Nat} {v : Value} {rs : List Row} (h : OwnT w lo hi v rs) (hB : Below w.heap.size w w1) : OwnT w1 lo hi v rs :=
  h.keptAt fun k _ _ hk => hB.block k hk
theorem OwnT.off {w w1 : World} {lo hi b : Nat} {v : Value} {rs : List Row} (h : OwnT w lo hi v rs) (hg : w.grownBy w1 (some b)) (hb : b < lo ∨ hi ≤ b) : OwnT w1 lo hi v rs :=
  h.keptAt fun k h1 h2 hk => hg.block k hk (by simp; omega)
theorem OwnT.mono {w : World} {lo lo' hi hi' : Nat} {v : Value} {rs : List Row} (h : OwnT w lo hi v rs) (hl : lo' ≤ lo) (hh : hi ≤ hi') : OwnT w lo' hi' v rs := by
  obtain ⟨g, xs, V0, V1, hg, hown, ⟨hn, hs⟩, hv⟩ := h
  refine ⟨g, xs, V0, V1, fun k e => ⟨(hg k e).1, by have := (hg k e).2; omega⟩, ?_, ⟨fun i hi' hik => ?_, hs⟩, fun i hi' => ⟨fun b e => by have := (hv i hi').1 b e; omega, fun b e => by have := (hv i hi').2 b e; omega⟩⟩
  · refine ⟨hown.1, ?_⟩
    rcases hown.2 with h | ⟨g', cap, cur, e, hb', r⟩
    · exact .inl h
    · exact .inr ⟨g', cap, cur, e, by omega, r⟩
  · obtain ⟨hc, o0, o1⟩ := hn i hi' hik
    exact ⟨hc, o0.mono hl, o1.mono hl⟩
theorem OwnT.nil (w : World) (lo hi : Nat) : OwnT w lo hi (.slice none 0 0) [] :=
  ⟨0, [], fun _ => undef, fun _ => undef, fun k e => by simp [Value.ownBlock] at e, World.ownsRow_nil _ _ _ _, nest_zero _ _ _ _ _ _ _, fun i h => by simp at h⟩
theorem Box3.set2 {w : World} {b : Nat} {v0 v1 v2 : Value} (h : Box3 w b v0 v1 v2) (v : Value) : Box3 (w.setCell ⟨b, 2, none⟩ v) b v0 v1 v := by
  obtain ⟨hlt, ⟨c0, c1, c2⟩, f0, f1, f2⟩ := h
  refine ⟨by simpa [World.setCell] using hlt, ⟨?_, ?_, World.cell?_setCell_same _ _ _ c2⟩, ?_, ?_, ?_⟩
  · rw [World.cell?_setCell_other _ _ _ _ (by simp)]; exact c0
  · rw [World.cell?_setCell_other _ _ _ _ (by simp)]; exact c1
  all_goals (rw [World.frozen?_setCell]; assumption)
end Go.Proofs.YtifemdjookmboaaGreatDoor.Tb
/-
  Which labels are right; contracts of both tests of a label.
-/
namespace Go.Proofs.YtifemdjookmboaaGreatDoor.Tk
open Go.RowKit
open Go.Proofs.YtifemdjookmboaaGreatDoor.Li (ret_bool btw between_any)

def lok (l : Int) : Bool := decide (-1000000 ≤ l ∧ l ≤ 1000000)
set_option maxHeartbeats 400000 in
theorem ilab (w : World) (l : Int) :
    Calls Tryz.prog 131 #[.int .i64 l] w fun e w' => e = .returned (.bool (lok l)) ∧ w' = w := by
  by_cases h1 : -1000000 ≤ l <;> by_cases h2 : l ≤ 1000000
  all_goals
    go_enter Tryz.func131, Tryz.ntmps131
    go_wp2
    go_ret
    refine ⟨ret_bool ?_, rfl⟩
    simp [lok, h1, h2]
end Go.Proofs.YtifemdjookmboaaGreatDoor.Tk
/-
  Which schemas, rows and tables are right: plain functions of lists; contracts of the program's and of its model's tests, which answer just these.
-/
namespace Go.Proofs.YtifemdjookmboaaGreatDoor.Tk
set_option maxRecDepth 20000
open Go.RowKit
open Go.Proofs.YtifemdjookmboaaGreatDoor.Tb
open Go.Proofs.YtifemdjookmboaaGreatDoor.Li (ret_bool btw between_any)

def fok (x : Int) : Bool := decide (-1000000000 ≤ x ∧ x ≤ 1000000000)
def sok (n c : Int) : Bool := decide ((0 ≤ n ∧ n ≤ 3) ∧ (0 ≤ c ∧ c ≤ 2))
def wbyte (c : UInt8) : Bool := decide ((97 ≤ c.toNat ∧ c.toNat ≤ 122) ∨ (48 ≤ c.toNat ∧ c.toNat ≤ 57) ∨ c.toNat = 95)
def wlen (s : ByteArray) : Bool := decide (1 ≤ s.size ∧ s.size ≤ 12)
def wok (s : ByteArray) : Bool := wlen s && s.data.toList.all wbyte
theorem sok_iff {n c : Int} : sok n c = true ↔ (0 ≤ n ∧ n ≤ 3) ∧ (0 ≤ c ∧ c ≤ 2) := by simp [sok]
set_option maxHeartbeats 400000 in
theorem ok_any (x : Int) (w : World) :
    Calls Tryz.prog 82 #[.int .i64 x] w fun e w' => e = .returned (.bool (fok x)) ∧ w' = w := by
  by_cases h1 : -1000000000 ≤ x <;> by_cases h2 : x ≤ 1000000000
  all_goals
    go_enter Tryz.func82, Tryz.ntmps82
    go_wp2
    go_ret
    refine ⟨ret_bool ?_, rfl⟩
    simp [fok, h1, h2]
set_option maxHeartbeats 400000 in
theorem iok_any (x : Int) (w : World) :
    Calls Tryz.prog 58 #[.int .i64 x] w fun e w' => e = .returned (.bool (fok x)) ∧ w' = w := by
  go_enter Tryz.func58, Tryz.ntmps58
  go_wp2_with (go_at_call 82; refine (ok_any _ _).mono ?_; rintro e w' ⟨rfl, rfl⟩)
  go_ret
  exact ⟨rfl, rfl⟩
set_option maxHeartbeats 400000 in
theorem sok_any (x : Int) (w : World) :
    Calls Tryz.prog 47 #[.int .i64 x] w fun e w' => e = .returned (.bool (fok x)) ∧ w' = w := by
  go_enter Tryz.func47, Tryz.ntmps47
  go_wp2_with (go_at_call 11; refine (between_any _ _ _ _).mono ?_; rintro e w' ⟨rfl, rfl⟩)
  go_ret
  exact ⟨rfl, rfl⟩
set_option maxHeartbeats 1000000 in
theorem isch (w : World) (n c : Int) :
    Calls Tryz.prog 56 #[.agg #[.int .i64 n, .int .i64 c]] w fun e w' => e = .returned (.bool (sok n c)) ∧ Below w.heap.size w w' := by
  by_cases h1 : 0 ≤ n
  · by_cases h2 : n ≤ 3
    · by_cases h3 : 0 ≤ c
      · by_cases h4 : c ≤ 2
        all_goals
          go_enter Tryz.func56, Tryz.ntmps56
          go_wp2
          go_ret
          exact ⟨ret_bool (by unfold sok; first | exact (decide_eq_true (by omega)).symm | exact (decide_eq_false (by omega)).symm), by first | exact (Below.refl _ _).alloc (Nat.le_refl _) _ | exact Go.below_drewN ((Below.refl _ _).alloc (Nat.le_refl _) _) _⟩
      · go_enter Tryz.func56, Tryz.ntmps56
        go_wp2
        go_ret
        exact ⟨ret_bool (by unfold sok; first | exact (decide_eq_true (by omega)).symm | exact (decide_eq_false (by omega)).symm), by first | exact (Below.refl _ _).alloc (Nat.le_refl _) _ | exact Go.below_drewN ((Below.refl _ _).alloc (Nat.le_refl _) _) _⟩
    · go_enter Tryz.func56, Tryz.ntmps56
      go_wp2
      go_ret
      exact ⟨ret_bool (by unfold sok; first | exact (decide_eq_true (by omega)).symm | exact (decide_eq_false (by omega)).symm), by first | exact (Below.refl _ _).alloc (Nat.le_refl _) _ | exact Go.below_drewN ((Below.refl _ _).alloc (Nat.le_refl _) _) _⟩
  · go_enter Tryz.func56, Tryz.ntmps56
    go_wp2
    go_ret
    exact ⟨ret_bool (by unfold sok; first | exact (decide_eq_true (by omega)).symm | exact (decide_eq_false (by omega)).symm), by first | exact (Below.refl _ _).alloc (Nat.le_refl _) _ | exact Go.below_drewN ((Below.refl _ _).alloc (Nat.le_refl _) _) _⟩
theorem sok_btw (n c : Int) : sok n c = (btw n 0 3 && btw c 0 2) := by simp [sok, btw]
set_option maxHeartbeats 1000000 in
theorem ssch (w : World) (n c : Int) :
    Calls Tryz.prog 46 #[.agg #[.int .i64 n, .int .i64 c]] w fun e w' => e = .returned (.bool (sok n c)) ∧ Below w.heap.size w w' := by
  cases h1 : btw n 0 3
  · go_enter Tryz.func46, Tryz.ntmps46
    go_wp2_with (go_at_call 11; refine (between_any _ _ _ _).mono ?_; rintro e w' ⟨rfl, rfl⟩)
    go_ret
    exact ⟨ret_bool (by rw [sok_btw, h1]; rfl), (Below.refl _ _).alloc (Nat.le_refl _) _⟩
  · go_enter Tryz.func46, Tryz.ntmps46
    go_wp2_with (go_at_call 11; refine (between_any _ _ _ _).mono ?_; rintro e w' ⟨rfl, rfl⟩)
    go_ret
    exact ⟨ret_bool (by rw [sok_btw, h1]; rfl), (Below.refl _ _).alloc (Nat.le_refl _) _⟩
set_option maxHeartbeats 1000000 in
theorem iwbyte (w : World) (c : UInt8) :
    Calls Tryz.prog 137 #[.int .u8 (c.toNat : Int)] w fun e w' => e = .returned (.bool (wbyte c)) ∧ w' = w := by
  by_cases h1 : 97 ≤ (c.toNat : Int) <;> by_cases h2 : (c.toNat : Int) ≤ 122 <;> by_cases h3 : 48 ≤ (c.toNat : Int) <;> by_cases h4 : (c.toNat : Int) ≤ 57 <;> by_cases h5 : (c.toNat : Int) = 95
  all_goals first | (exfalso; omega) | skip
  all_goals
    go_enter Tryz.func137, Tryz.ntmps137
    go_wp2
    go_ret
    refine ⟨ret_bool ?_, rfl⟩
    unfold wbyte
    first | exact (decide_eq_true (by omega)).symm | exact (decide_eq_false (by omega)).symm | (refine Eq.trans (b := false) (beq_eq_false_iff_ne.2 (by omega)) ?_; exact (decide_eq_false (by omega)).symm)
theorem take_snoc (s : ByteArray) (k : Nat) (h : k < s.size) : s.data.toList.take (k + 1) = s.data.toList.take k ++ [s[k]] := by
  rw [List.take_succ_eq_append_getElem (by simpa using h)]; rfl
theorem all_snoc (s : ByteArray) (k : Nat) (h : k < s.size) (ha : (s.data.toList.take k).all wbyte = true) (hb : wbyte s[k] = true) : (s.data.toList.take (k + 1)).all wbyte = true := by
  rw [take_snoc s k h]; simp only [List.all_append, ha, List.all_cons, hb, List.all_nil, Bool.and_true]
theorem all_no (s : ByteArray) (k : Nat) (h : k < s.size) (hb : wbyte s[k] = false) : s.data.toList.all wbyte = false := by
  have hm : s[k] ∈ s.data.toList := by
    have : s[k] = s.data.toList[k]'(by simpa using h) := rfl
    rw [this]; exact List.getElem_mem _
  cases e : s.data.toList.all wbyte
  · rfl
  · have := List.all_eq_true.1 e _ hm
    rw [hb] at this; cases this
theorem all_end (s : ByteArray) (ha : (s.data.toList.take s.size).all wbyte = true) : s.data.toList.all wbyte = true := by
  rwa [List.take_of_length_le (by simp)] at ha
theorem wok_no {s : ByteArray} (h : wlen s = false) : wok s = false := by unfold wok; rw [h]; rfl
theorem wok_yes {s : ByteArray} (h : wlen s = true) : wok s = s.data.toList.all wbyte := by unfold wok; rw [h]; rfl
theorem wlen_btw (s : ByteArray) : btw (s.size : Int) 1 12 = wlen s := by
  unfold btw wlen
  rw [Bool.eq_iff_iff]
  simp only [decide_eq_true_eq]
  omega
theorem btw_az (c : UInt8) (lo hi : Int) : btw (wrap64 (c.toNat : Int)) lo hi = decide (lo ≤ (c.toNat : Int) ∧ (c.toNat : Int) ≤ hi) := by
  have : c.toNat < 256 := c.toNat_lt
  rw [show wrap64 (c.toNat : Int) = (c.toNat : Int) by unfold wrap64; omega]
  rfl
theorem bytes_below (w : World) (e : TypeId) (s : ByteArray) : Below w.heap.size w (Lib.bytesWorld w e s) :=
  ⟨rfl, rfl, rfl, by rw [Lib.bytesWorld_size]; omega, fun k hk => Lib.bytesWorld_at_old w e s k hk⟩
set_option maxHeartbeats 1000000 in
theorem iword (w : World) (s : ByteArray) (hs : s.size ≤ 9223372036854775807) :
    Calls Tryz.prog 130 #[.string s] w fun e w' => e = .returned (.bool (wok s)) ∧ Below w.heap.size w w' := by
  cases hw : wlen s
  · have HW : Hid (wok s = false) := wok_no hw
    by_cases h1 : (s.size : Int) < 1
    · clear hw
      go_enter Tryz.func130, Tryz.ntmps130
      go_wp2
      go_ret
      exact ⟨by rw [HW.out]; rfl, Below.refl _ _⟩
    · have h2 : 12 < (s.size : Int) := by unfold wlen at hw; have := of_decide_eq_false hw; omega
      clear hw
      go_enter Tryz.func130, Tryz.ntmps130
      go_wp2
      go_ret
      exact ⟨by rw [HW.out]; rfl, Below.refl _ _⟩
  · have HW : Hid (wok s = s.data.toList.all wbyte) := wok_yes hw
    have h1 : ¬ (s.size : Int) < 1 := by unfold wlen at hw; have := of_decide_eq_true hw; omega
    have h2 : ¬ 12 < (s.size : Int) := by unfold wlen at hw; have := of_decide_eq_true hw; omega
    clear hw
    have hcv := Lib.run_convert_string_bytes (P := Tryz.prog) w 9 58 5 s Tryz.underlying9 Tryz.underlying58 Tryz.underlying5
    obtain ⟨W, hW, hB, hc⟩ : ∃ W, Lib.bytesWorld w 5 s = W ∧ Below w.heap.size w W ∧ ∀ j (hj : j < s.size), W.cell? ⟨w.heap.size, j, none⟩ = some (.int .u8 (s[j].toNat : Int)) :=
      ⟨_, rfl, bytes_below _ _ _, fun j hj => by rw [Lib.bytesWorld_cell w _ s j hj]; simp [List.getD, hj]; rfl⟩
    obtain ⟨cap, hcap⟩ : ∃ cap, grownCap w s.size 0 5 = cap := ⟨_, rfl⟩
    rw [hW, hcap] at hcv
    clear hW hcap
    go_enter Tryz.func130, Tryz.ntmps130
    go_wp2
    go_loop [16] (fun i => ∃ k : Nat, k ≤ s.size ∧ i = .int .i64 k ∧ (s.data.toList.take k).all wbyte = true) (fun i => s.size - (intOf i).toNat)
    case atStart => exact ⟨0, Nat.zero_le _, rfl, rfl⟩
    case round =>
      obtain ⟨k, hk, rfl, ha⟩ := hrel
      have HA : Hid ((s.data.toList.take k).all wbyte = true) := ha
      clear ha
      by_cases hlt : k < s.size
      · have hck := hc k hlt
        cases hq : wbyte s[k]
        · have HQ : Hid (s.data.toList.all wbyte = false) := all_no s k hlt hq
          go_wp2_with (go_at_call 137; refine (iwbyte _ _).mono ?_; rintro e w' ⟨rfl, hw'⟩; subst w')
          go_ret
          exact ⟨by rw [HW.out, HQ.out]; rfl, hB⟩
        · have HN : Hid ((s.data.toList.take (k + 1)).all wbyte = true) := all_snoc s k hlt HA.out hq
          go_wp2_with (go_at_call 137; refine (iwbyte _ _).mono ?_; rintro e w' ⟨rfl, hw'⟩; subst w')
          go_round
          case rel => exact ⟨k + 1, by omega, by go_num, HN.out⟩
          case measure => simp [intOf]; omega
      · go_wp2
        go_ret
        exact ⟨by rw [HW.out, all_end s (by have := HA.out; rwa [show k = s.size by omega] at this)]; rfl, hB⟩
end Go.Proofs.YtifemdjookmboaaGreatDoor.Tk
