/-
  Contracts that the proof leans on, put together in the order in which they build.
-/
import Derived.Test.YtkfjlldlbknepaaGreatPart2
import Derived.ProofKit
import Derived.ChangeSame
import Derived.Deep.Strs
import Derived.Deep.Slices
import Derived.Test.YtkfjlldlbknepaaGreatPart1
import Derived.Deep.DeepMust
import Derived.Laws.IdiomStrings
import Derived.Lib.ItoaNum
import Derived.Lib.ConvBytes
/-
  The arguments of the laws over tables, opened: a schema, a row, a table that came in, out of what the row's reader read of them.
-/
namespace Go.Proofs.YtkfjlldlbknepaaGreat.Op
open Go.ChangeShapes Go.WideShapes Go.Deep Go.RowKit
open Go.Proofs.YtkfjlldlbknepaaGreat.Tb
set_option maxRecDepth 10000

section
variable {H : Type} {enc : TypeId × Value → H} {W : World}
theorem schema_cells {n : Nat} {cs : List Value} {x : DataW H × List MemPlace} (h : DataW.trod enc Tryz.prog W 0 (fun _ => true) true n 23 cs = some x) :
    ∃ i j : Int, cs = [.int .i64 i, .int .i64 j] ∧ (-9223372036854775808 ≤ i ∧ i ≤ 9223372036854775807) ∧ (-9223372036854775808 ≤ j ∧ j ≤ 9223372036854775807) := by
  obtain ⟨y0, y1, m, _, hl, h0, h1⟩ := trod_struct2 Tryz.underlying23 h
  rw [show Tryz.prog.cellsOf 23 = 2 by kernel_rfl] at hl
  rw [show Tryz.prog.cellsOf 3 = 1 by kernel_rfl] at h0 h1
  match cs, hl with
  | [a, b], _ =>
    obtain ⟨i, rfl, hi⟩ := int_cell (by simpa using h0)
    obtain ⟨j, rfl, hj⟩ := int_cell (by simpa using h1)
    exact ⟨i, j, rfl, hi, hj⟩
theorem schema_open {base : Nat} {v : Value} {d : DataW H} {p : List MemPlace} (hv : Value.okWide Tryz.prog W .any base 23 v) (h : DataW.Trod enc Tryz.prog W 0 (fun _ => true) true 23 v d p) :
    ∃ i j : Int, v = .agg #[.int .i64 i, .int .i64 j] ∧ (-9223372036854775808 ≤ i ∧ i ≤ 9223372036854775807) ∧ (-9223372036854775808 ≤ j ∧ j ≤ 9223372036854775807) := by
  obtain ⟨cs, rfl, hc⟩ := okWide_struct Tryz.underlying23 hv
  rw [show Tryz.prog.cellsOf 23 = 2 by kernel_rfl] at hc
  obtain ⟨a, b, rfl⟩ := agg2 hc
  obtain ⟨n, hn⟩ := h
  obtain ⟨i, j, e, hi, hj⟩ := schema_cells hn
  simp [Value.cells] at e
  obtain ⟨rfl, rfl⟩ := e
  exact ⟨i, j, rfl, hi, hj⟩
theorem sample_cells {n : Nat} {cs : List Value} {x : DataW H × List MemPlace} (h : DataW.trod enc Tryz.prog W 0 (fun _ => true) true n 83 cs = some x) :
    ∃ v0 v1 v2 r, cs = [v0, v1, v2] ∧ RowIs W v0 v1 v2 r ∧ r.fits ∧ (-9223372036854775808 ≤ r.label ∧ r.label ≤ 9223372036854775807) := by
  obtain ⟨y0, y1, y2, m, _, hl, h0, h1, h2⟩ := trod_struct3 Tryz.underlying83 h
  rw [show Tryz.prog.cellsOf 83 = 3 by kernel_rfl] at hl
  rw [show Tryz.prog.cellsOf 48 = 1 by kernel_rfl] at h0
  rw [show Tryz.prog.cellsOf 74 = 1 by kernel_rfl] at h1
  rw [show Tryz.prog.cellsOf 3 = 1 by kernel_rfl] at h2
  match cs, hl with
  | [a, b, c], _ =>
    obtain ⟨a0, xs, c0, rfl, i0, b0⟩ := ints_cell (by simpa using h0)
    obtain ⟨a1, ss, c1, rfl, i1, b1, hf⟩ := strs_cell (by simpa using h1)
    obtain ⟨l, rfl, hl⟩ := int_cell (by simpa using h2)
    unfold maxLen at b0 b1
    exact ⟨_, _, _, ⟨xs, ss, l⟩, rfl, ⟨a0, c0, a1, c1, rfl, rfl, rfl, i0, i1⟩, ⟨by simp only; omega, by simp only; omega, hf⟩, hl⟩
theorem sample_open {base : Nat} {v : Value} {d : DataW H} {p : List MemPlace} (hv : Value.okWide Tryz.prog W .any base 83 v) (h : DataW.Trod enc Tryz.prog W 0 (fun _ => true) true 83 v d p) :
    ∃ v0 v1 v2 r, v = .agg #[v0, v1, v2] ∧ RowIs W v0 v1 v2 r ∧ r.fits ∧ (-9223372036854775808 ≤ r.label ∧ r.label ≤ 9223372036854775807) := by
  obtain ⟨cs, rfl, hc⟩ := okWide_struct Tryz.underlying83 hv
  rw [show Tryz.prog.cellsOf 83 = 3 by kernel_rfl] at hc
  obtain ⟨a, b, c, rfl⟩ := agg3 hc
  obtain ⟨n, hn⟩ := h
  obtain ⟨v0, v1, v2, r, e, hr, hf, hl⟩ := sample_cells hn
  simp [Value.cells] at e
  obtain ⟨rfl, rfl, rfl⟩ := e
  exact ⟨_, _, _, r, rfl, hr, hf, hl⟩
/-- Every label is a number of Go's. -/
def Labs (rs : List Row) : Prop := ∀ j (hj : j < rs.length), -9223372036854775808 ≤ rs[j].label ∧ rs[j].label ≤ 9223372036854775807
theorem pick_row {m : Nat} {p : Nat → Row → Prop} (h : ∀ i, i < m → ∃ r, p i r) : ∃ R : Nat → Row, ∀ i, i < m → p i (R i) := by
  have : ∀ i, ∃ r, i < m → p i r := fun i => by
    by_cases hi : i < m
    · obtain ⟨r, hr⟩ := h i hi; exact ⟨r, fun _ => hr⟩
    · exact ⟨⟨[], [], 0⟩, fun h => absurd h hi⟩
  exact ⟨fun i => (this i).choose, fun i hi => (this i).choose_spec hi⟩
theorem rows_cell {n : Nat} {v : Value} {x : DataW H × List MemPlace} (h : DataW.trod enc Tryz.prog W 0 (fun _ => true) true n 28 [v] = some x) :
    ∃ a rs cap, v = .slice a (rs : List Row).length cap ∧ IsR W a rs ∧ FitsR rs ∧ Labs rs := by
  rcases open_slice Tryz.underlying28 h with ⟨hcs, _⟩ | ⟨x, l, c, m, n', D, Pl, hcs, _, hl, hm, hmm, _, hx⟩
  · obtain rfl : v = _ := List.singleton_inj.1 hcs
    exact ⟨none, [], 0, rfl, .inl rfl, ⟨by simp, fun j hj => by simp at hj⟩, fun j hj => by simp at hj⟩
  · obtain rfl : v = _ := List.singleton_inj.1 hcs
    have hmc : m = c := by simpa using hmm
    subst hmc
    rw [show Tryz.prog.cellsOf 83 = 3 by kernel_rfl] at hx
    obtain ⟨R, hR⟩ := pick_row (m := m) (p := fun i r => ∃ v0 v1 v2, W.cell? (x.add (i * 3)) = some v0 ∧ W.cell? ((x.add (i * 3)).add 1) = some v1 ∧ W.cell? ((x.add (i * 3)).add 2) = some v2 ∧ RowIs W v0 v1 v2 r ∧ r.fits ∧ (-9223372036854775808 ≤ r.label ∧ r.label ≤ 9223372036854775807)) (fun i hi => by
      obtain ⟨cs', h1, h2⟩ := hx i hi
      obtain ⟨v0, v1, v2, r, rfl, hr⟩ := sample_cells h2
      obtain ⟨_, _, hc⟩ := World.cells?_some h1
      have e0 := hc 0 (by omega)
      have e1 := hc 1 (by omega)
      have e2 := hc 2 (by omega)
      refine ⟨r, v0, v1, v2, ?_, ?_, ?_, hr⟩
      · simpa [Addr.add] using e0
      · simpa using e1
      · simpa using e2)
    unfold maxLen at hm
    refine ⟨some x, (List.range l).map R, m, by simp, ?_, ⟨by simp; omega, fun j hj => ?_⟩, fun j hj => ?_⟩
    · by_cases h0 : l = 0
      · subst h0; exact .inl rfl
      · obtain ⟨cb, off, spot⟩ := x
        obtain ⟨_, _, _, c0, _⟩ := hR 0 (by omega)
        have hs : spot = none := by simpa [Addr.add] using World.cell?_spot c0
        subst hs
        have hlt : cb < W.heap.size := World.block_lt_of_cell? W _ c0
        refine .inr ⟨cb, off, rfl, hlt, fun j hj => ?_⟩
        have hj' : j < l := by simpa using hj
        obtain ⟨v0, v1, v2, e0, e1, e2, hr, _⟩ := hR j (by omega)
        refine ⟨v0, v1, v2, ⟨?_, ?_, ?_⟩, by simpa using hr⟩
        · rwa [Go.WideShapes.add_plain] at e0
        · rwa [Go.WideShapes.add_plain, Go.WideShapes.add_plain] at e1
        · rwa [Go.WideShapes.add_plain, Go.WideShapes.add_plain] at e2
    · have hj' : j < l := by simpa using hj
      obtain ⟨_, _, _, _, _, _, _, hf, _⟩ := hR j (by omega)
      simpa using hf
    · have hj' : j < l := by simpa using hj
      obtain ⟨_, _, _, _, _, _, _, _, hlb⟩ := hR j (by omega)
      simpa using hlb
theorem table_open {base : Nat} {v : Value} {d : DataW H} {p : List MemPlace} (hv : Value.okWide Tryz.prog W .any base 30 v) (h : DataW.Trod enc Tryz.prog W 0 (fun _ => true) true 30 v d p) :
    ∃ (i j : Int) (a : Option Addr) (rs : List Row) (cap : Nat), v = .agg #[.int .i64 i, .int .i64 j, .slice a rs.length cap] ∧ (-9223372036854775808 ≤ i ∧ i ≤ 9223372036854775807) ∧ (-9223372036854775808 ≤ j ∧ j ≤ 9223372036854775807) ∧ IsR W a rs ∧ FitsR rs ∧ Labs rs := by
  obtain ⟨cs, rfl, hc⟩ := okWide_struct Tryz.underlying30 hv
  rw [show Tryz.prog.cellsOf 30 = 3 by kernel_rfl] at hc
  obtain ⟨a, b, c, rfl⟩ := agg3 hc
  obtain ⟨n, hn⟩ := h
  obtain ⟨y0, y1, m, _, hl, h0, h1⟩ := trod_struct2 Tryz.underlying30 hn
  rw [show Tryz.prog.cellsOf 23 = 2 by kernel_rfl] at h0
  rw [show Tryz.prog.cellsOf 28 = 1 by kernel_rfl] at h1
  obtain ⟨i, j, e, hi, hj⟩ := schema_cells h0
  simp [Value.cells] at e
  obtain ⟨rfl, rfl⟩ := e
  obtain ⟨ad, rs, cap, rfl, hr, hf, hlb⟩ := rows_cell (by simpa [Value.cells] using h1)
  exact ⟨i, j, ad, rs, cap, rfl, hi, hj, hr, hf, hlb⟩
end
end Go.Proofs.YtkfjlldlbknepaaGreat.Op
/-
  Marks: what the laws write into a list, a list of texts, a table of the call's own, and whether it is held afterwards.
-/
namespace Go.Proofs.YtkfjlldlbknepaaGreat.Mk
set_option maxRecDepth 100000
open Go.RowKit
open Go.Proofs.YtkfjlldlbknepaaGreat.Tb
open Go.Proofs.YtkfjlldlbknepaaGreat.Li (ret_bool grown_refl grown_trans grown_set below_none)

def dg (k : Nat) : UInt8 := UInt8.ofNat (48 + k % 10)
/-- The digits of a number, none of 0. -/
def digs (k : Nat) : List UInt8 := if k = 0 then [] else Lib.decDigits k
theorem digs_step (k : Nat) (h : k ≠ 0) : digs k = digs (k / 10) ++ [dg k] := by
  unfold digs dg
  rw [if_neg h, Lib.decDigits]
  by_cases h' : k < 10
  · rw [dif_pos h', if_pos (by omega), Nat.mod_eq_of_lt h']; rfl
  · rw [dif_neg h', if_neg (by omega)]
theorem digs_zero : digs 0 = [] := rfl
theorem digs_len : ∀ (n k : Nat), k < 10 ^ n → (digs k).length ≤ n
  | 0, k, h => by obtain rfl : k = 0 := by simpa using h
                  rw [digs_zero]; simp
  | n + 1, k, h => by
    by_cases h0 : k = 0
    · subst h0; rw [digs_zero]; simp
    · rw [digs_step k h0, List.length_append]
      have := digs_len n (k / 10) (by rw [Nat.pow_succ] at h; omega)
      simp; omega
def mtext (k : Nat) : ByteArray := if k = 0 then ⟨#[109, 48]⟩ else ⟨(109 :: digs k).toArray⟩
theorem dig_toNat (u : Nat) : ((dg u).toNat : Int) = 48 + ((u % 10 : Nat) : Int) := by
  unfold dg; rw [UInt8.toNat_ofNat']; omega
theorem ba_ext {a b : ByteArray} (h : a.data.toList = b.data.toList) : a = b := by
  obtain ⟨⟨l⟩⟩ := a; obtain ⟨⟨r⟩⟩ := b; simp at h; rw [h]
theorem one_byte (W : World) (x : Int) (c : UInt8) (hx : x = (c.toNat : Int)) (T : TypeId) :
    (convert 145 9 (.slice (some ⟨W.heap.size, 0, none⟩) 1 1)).run Tryz.prog (W.alloc (.cells #[.int .u8 x] T)) = .ok (.string ⟨#[c]⟩) (W.alloc (.cells #[.int .u8 x] T)) := by
  subst hx
  have := run_convert_bytes_back (P := Tryz.prog) (W.alloc (.cells #[.int .u8 (c.toNat : Int)] T)) 145 9 5 ⟨W.heap.size, 0, none⟩ 1 [c] Tryz.underlying145 Tryz.underlying5 Tryz.underlying9 (fun j hj => by
    obtain rfl : j = 0 := by simp at hj; omega
    rw [Go.WideShapes.add_plain]; simp)
  exact this
set_option maxHeartbeats 1000000 in
theorem mark_text (w : World) (k : Nat) (hk : k ≤ 2000000000000) :
    Calls Tryz.prog 103 #[.int .i64 k] w fun e w' => e = .returned (.string (mtext k)) ∧ Below w.heap.size w w' := by
  by_cases h0 : k = 0
  · subst h0
    go_enter Tryz.func103, Tryz.ntmps103
    go_wp2
    go_ret
    exact ⟨rfl, Below.refl _ _⟩
  · have h0' : ¬ (k : Int) ≤ 0 := by omega
    go_enter Tryz.func103, Tryz.ntmps103
    go_wp2
    go_loopw [0, 3] (fun i s wr => ∃ (q : Nat) (o : ByteArray), i = .int .i64 q ∧ s = .string o ∧ q ≤ k ∧ digs q ++ o.data.toList = digs k ∧ Below w.heap.size w wr) (fun i _ _ => (intOf i).toNat)
    case atStart => exact ⟨k, ⟨#[]⟩, rfl, rfl, Nat.le_refl _, by simp, Below.refl _ _⟩
    case round =>
      obtain ⟨q, o, rfl, rfl, hq, hd, hB⟩ := hrel
      have HD : Hid (digs q ++ o.data.toList = digs k) := hd
      clear hd
      have ho : o.size ≤ 13 := by
        have h1 := digs_len 13 k (by omega)
        have h2 := congrArg List.length HD.out
        simp at h2
        omega
      by_cases hz : q = 0
      · subst hz
        go_wp2
        go_ret
        refine ⟨?_, hB⟩
        have hd := HD.out
        rw [digs_zero, List.nil_append] at hd
        have e : mtext k = ⟨#[109]⟩ ++ o := ba_ext (by unfold mtext; rw [if_neg h0]; simp [hd])
        rw [e]; rfl
      · have hcv := one_byte wr (48 + (q : Int) % 10) (dg q) (by rw [dig_toNat]; omega) 5
        have HS := digs_step q hz
        have HS : Hid (digs q = digs (q / 10) ++ [dg q]) := HS
        go_wp2
        go_roundw
        case rel =>
          refine ⟨q / 10, ⟨#[dg q]⟩ ++ o, by go_num, rfl, by omega, ?_, hB.alloc hB.size _⟩
          have := HD.out
          rw [HS.out] at this
          simpa using this
        case measure => simp [intOf]; omega
def mtexts (k n : Nat) : List ByteArray := (List.range n).map fun j => mtext (k + j)
theorem mtexts_length (k n : Nat) : (mtexts k n).length = n := by simp [mtexts]
theorem mtexts_get (k n j : Nat) (h : j < (mtexts k n).length) : (mtexts k n)[j] = mtext (k + j) := by simp [mtexts]
theorem grown_below {w wr w1 : World} {row : Option Nat} (h : w.grownBy wr row) (hB : Below wr.heap.size wr w1) : w.grownBy w1 row :=
  ⟨hB.os.trans h.os, hB.tape.trans h.tape, hB.output.trans h.output, Nat.le_trans h.size hB.size, fun k hk hr => (hB.block k (Nat.lt_of_lt_of_le hk h.size)).trans (h.block k hk hr)⟩
set_option maxHeartbeats 1000000 in
theorem mark_strs (w : World) (base : Nat) (a : Option Addr) (n cap k : Nat) (xs : List ByteArray) (hn : xs.length = n) (h : Ls.Own w base (.slice a n cap) xs) (hl : n ≤ 1048576) (k1 : k ≤ 1000000000000) :
    Calls Tryz.prog 68 #[.slice a n cap, .int .i64 k] w fun e w' => e = .returned (.int .i64 ((k + n : Nat) : Int)) ∧ Ls.Own w' base (.slice a n cap) (mtexts k n) ∧ w.grownBy w' (Value.slice a n cap).ownBlock := by
  go_enter Tryz.func68, Tryz.ntmps68
  go_wp2
  go_loopw [1, 5] (fun q i wr => ∃ j : Nat, j ≤ n ∧ i = .int .i64 j ∧ q = .int .i64 ((k + j : Nat) : Int) ∧ ∃ l : List ByteArray, l.length = n ∧ Ls.Like l (mtexts k n) j ∧ Ls.Own wr base (.slice a n cap) l ∧ w.grownBy wr (Value.slice a n cap).ownBlock) (fun _ i _ => n - (intOf i).toNat)
  case atStart => exact ⟨0, Nat.zero_le _, rfl, by go_num, xs, hn, fun j hj => by omega, h, grown_refl _ _⟩
  case round =>
    obtain ⟨j, hj, rfl, rfl, l, hll, hlike, hown, hg⟩ := hrel
    clear h
    by_cases hlt : j < n
    · have hown0 := hown
      rcases hown0.2 with ⟨hv, h0⟩ | ⟨g, cap', cur, hv, _⟩
      · omega
      · obtain ⟨rfl, rfl, rfl⟩ : a = some ⟨g, 0, none⟩ ∧ n = l.length ∧ cap = cap' := by simpa using hv
        clear hv hown0
        have HL : Hid (Ls.Like (l.set j (mtext (k + j))) (mtexts k l.length) (j + 1)) := by
          have := Ls.like_set hlike (by rw [mtexts_length]; exact hlt) (by rw [mtexts_length])
          rwa [mtexts_get] at this
        clear hlike
        go_wp2_with fail
        refine (mark_text _ (k + j) (by omega)).mono ?_
        rintro e w1 ⟨rfl, hB1⟩
        have hown := hown.below hB1
        have hg := grown_below hg hB1
        have hcl := hown.cell rfl j hlt
        have hcf := hown.frozen rfl j
        have HO : Hid (Ls.Own w1 base (.slice (some ⟨g, 0, none⟩) l.length cap) l) := hown
        clear hown hB1
        obtain ⟨t, ht⟩ : ∃ t, mtext (k + j) = t := ⟨_, rfl⟩
        rw [ht] at HL ⊢
        clear ht
        go_wp2
        go_roundw
        case rel => exact ⟨j + 1, by omega, by go_num, by go_num, l.set j t, by simp, HL.out, HO.out.set rfl j _, grown_trans hg (grown_set _ _ _ _)⟩
        case measure => simp [intOf]; omega
    · obtain rfl : j = n := by omega
      have HO : Hid (Ls.Own wr base (.slice a j cap) (mtexts k j)) := by
        have e := Ls.like_all (xs := mtexts k j) (by rw [mtexts_length]; exact hlike) (by rw [mtexts_length]; exact hll)
        rw [← e]; exact hown
      clear hown hlike
      go_wp2
      go_ret
      exact ⟨rfl, HO.out, hg⟩
end Go.Proofs.YtkfjlldlbknepaaGreat.Mk
/-
  Which labels are right; contracts of both tests of a label.
-/
namespace Go.Proofs.YtkfjlldlbknepaaGreat.Tk
open Go.RowKit
open Go.Proofs.YtkfjlldlbknepaaGreat.Li (ret_bool btw between_any)

def lok (l : Int) : Bool := decide (-1000000 ≤ l ∧ l ≤ 1000000)
set_option maxHeartbeats 400000 in
theorem ilab (w : World) (l : Int) :
    Calls Tryz.prog 114 #[.int .i64 l] w fun e w' => e = .returned (.bool (lok l)) ∧ w' = w := by
  by_cases h1 : -1000000 ≤ l <;> by_cases h2 : l ≤ 1000000
  all_goals
    go_enter Tryz.func114, Tryz.ntmps114
    go_wp2
    go_ret
    refine ⟨ret_bool ?_, rfl⟩
    simp [lok, h1, h2]
set_option maxHeartbeats 400000 in
theorem slab (w : World) (l : Int) :
    Calls Tryz.prog 105 #[.int .i64 l] w fun e w' => e = .returned (.bool (lok l)) ∧ w' = w := by
  go_enter Tryz.func105, Tryz.ntmps105
  go_wp2_with (go_at_call 74; refine (between_any _ _ _ _).mono ?_; rintro e w' ⟨rfl, rfl⟩)
  go_ret
  exact ⟨rfl, rfl⟩
end Go.Proofs.YtkfjlldlbknepaaGreat.Tk
/-
  Which schemas, rows and tables are right: plain functions of lists; contracts of the program's and of its model's tests, which answer just these.
-/
namespace Go.Proofs.YtkfjlldlbknepaaGreat.Tk
set_option maxRecDepth 20000
open Go.RowKit
open Go.Proofs.YtkfjlldlbknepaaGreat.Tb
open Go.Proofs.YtkfjlldlbknepaaGreat.Li (ret_bool btw between_any)

def fok (x : Int) : Bool := decide (-1000000000 ≤ x ∧ x ≤ 1000000000)
def sok (n c : Int) : Bool := decide ((0 ≤ n ∧ n ≤ 3) ∧ (0 ≤ c ∧ c ≤ 2))
def wbyte (c : UInt8) : Bool := decide ((97 ≤ c.toNat ∧ c.toNat ≤ 122) ∨ (48 ≤ c.toNat ∧ c.toNat ≤ 57) ∨ c.toNat = 95)
def wlen (s : ByteArray) : Bool := decide (1 ≤ s.size ∧ s.size ≤ 12)
def wok (s : ByteArray) : Bool := wlen s && s.data.toList.all wbyte
theorem sok_iff {n c : Int} : sok n c = true ↔ (0 ≤ n ∧ n ≤ 3) ∧ (0 ≤ c ∧ c ≤ 2) := by simp [sok]
set_option maxHeartbeats 400000 in
theorem ok_any (x : Int) (w : World) :
    Calls Tryz.prog 110 #[.int .i64 x] w fun e w' => e = .returned (.bool (fok x)) ∧ w' = w := by
  by_cases h1 : -1000000000 ≤ x <;> by_cases h2 : x ≤ 1000000000
  all_goals
    go_enter Tryz.func110, Tryz.ntmps110
    go_wp2
    go_ret
    refine ⟨ret_bool ?_, rfl⟩
    simp [fok, h1, h2]
set_option maxHeartbeats 400000 in
theorem iok_any (x : Int) (w : World) :
    Calls Tryz.prog 87 #[.int .i64 x] w fun e w' => e = .returned (.bool (fok x)) ∧ w' = w := by
  go_enter Tryz.func87, Tryz.ntmps87
  go_wp2_with (go_at_call 110; refine (ok_any _ _).mono ?_; rintro e w' ⟨rfl, rfl⟩)
  go_ret
  exact ⟨rfl, rfl⟩
set_option maxHeartbeats 400000 in
theorem sok_any (x : Int) (w : World) :
    Calls Tryz.prog 75 #[.int .i64 x] w fun e w' => e = .returned (.bool (fok x)) ∧ w' = w := by
  go_enter Tryz.func75, Tryz.ntmps75
  go_wp2_with (go_at_call 74; refine (between_any _ _ _ _).mono ?_; rintro e w' ⟨rfl, rfl⟩)
  go_ret
  exact ⟨rfl, rfl⟩
set_option maxHeartbeats 1000000 in
theorem isch (w : World) (n c : Int) :
    Calls Tryz.prog 85 #[.agg #[.int .i64 n, .int .i64 c]] w fun e w' => e = .returned (.bool (sok n c)) ∧ Below w.heap.size w w' := by
  by_cases h1 : 0 ≤ n
  · by_cases h2 : n ≤ 3
    · by_cases h3 : 0 ≤ c
      · by_cases h4 : c ≤ 2
        all_goals
          go_enter Tryz.func85, Tryz.ntmps85
          go_wp2
          go_ret
          exact ⟨ret_bool (by unfold sok; first | exact (decide_eq_true (by omega)).symm | exact (decide_eq_false (by omega)).symm), by first | exact (Below.refl _ _).alloc (Nat.le_refl _) _ | exact below_drewN ((Below.refl _ _).alloc (Nat.le_refl _) _) _⟩
      · go_enter Tryz.func85, Tryz.ntmps85
        go_wp2
        go_ret
        exact ⟨ret_bool (by unfold sok; first | exact (decide_eq_true (by omega)).symm | exact (decide_eq_false (by omega)).symm), by first | exact (Below.refl _ _).alloc (Nat.le_refl _) _ | exact below_drewN ((Below.refl _ _).alloc (Nat.le_refl _) _) _⟩
    · go_enter Tryz.func85, Tryz.ntmps85
      go_wp2
      go_ret
      exact ⟨ret_bool (by unfold sok; first | exact (decide_eq_true (by omega)).symm | exact (decide_eq_false (by omega)).symm), by first | exact (Below.refl _ _).alloc (Nat.le_refl _) _ | exact below_drewN ((Below.refl _ _).alloc (Nat.le_refl _) _) _⟩
  · go_enter Tryz.func85, Tryz.ntmps85
    go_wp2
    go_ret
    exact ⟨ret_bool (by unfold sok; first | exact (decide_eq_true (by omega)).symm | exact (decide_eq_false (by omega)).symm), by first | exact (Below.refl _ _).alloc (Nat.le_refl _) _ | exact below_drewN ((Below.refl _ _).alloc (Nat.le_refl _) _) _⟩
theorem sok_btw (n c : Int) : sok n c = (btw n 0 3 && btw c 0 2) := by simp [sok, btw]
set_option maxHeartbeats 1000000 in
theorem ssch (w : World) (n c : Int) :
    Calls Tryz.prog 73 #[.agg #[.int .i64 n, .int .i64 c]] w fun e w' => e = .returned (.bool (sok n c)) ∧ Below w.heap.size w w' := by
  cases h1 : btw n 0 3
  · go_enter Tryz.func73, Tryz.ntmps73
    go_wp2_with (go_at_call 74; refine (between_any _ _ _ _).mono ?_; rintro e w' ⟨rfl, rfl⟩)
    go_ret
    exact ⟨ret_bool (by rw [sok_btw, h1]; rfl), (Below.refl _ _).alloc (Nat.le_refl _) _⟩
  · go_enter Tryz.func73, Tryz.ntmps73
    go_wp2_with (go_at_call 74; refine (between_any _ _ _ _).mono ?_; rintro e w' ⟨rfl, rfl⟩)
    go_ret
    exact ⟨ret_bool (by rw [sok_btw, h1]; rfl), (Below.refl _ _).alloc (Nat.le_refl _) _⟩
set_option maxHeartbeats 1000000 in
theorem iwbyte (w : World) (c : UInt8) :
    Calls Tryz.prog 129 #[.int .u8 (c.toNat : Int)] w fun e w' => e = .returned (.bool (wbyte c)) ∧ w' = w := by
  by_cases h1 : 97 ≤ (c.toNat : Int) <;> by_cases h2 : (c.toNat : Int) ≤ 122 <;> by_cases h3 : 48 ≤ (c.toNat : Int) <;> by_cases h4 : (c.toNat : Int) ≤ 57 <;> by_cases h5 : (c.toNat : Int) = 95
  all_goals first | (exfalso; omega) | skip
  all_goals
    go_enter Tryz.func129, Tryz.ntmps129
    go_wp2
    go_ret
    refine ⟨ret_bool ?_, rfl⟩
    unfold wbyte
    first | exact (decide_eq_true (by omega)).symm | exact (decide_eq_false (by omega)).symm | (refine Eq.trans (b := false) (beq_eq_false_iff_ne.2 (by omega)) ?_; exact (decide_eq_false (by omega)).symm)
theorem take_snoc (s : ByteArray) (k : Nat) (h : k < s.size) : s.data.toList.take (k + 1) = s.data.toList.take k ++ [s[k]] := by
  rw [List.take_succ_eq_append_getElem (by simpa using h)]; rfl
theorem all_snoc (s : ByteArray) (k : Nat) (h : k < s.size) (ha : (s.data.toList.take k).all wbyte = true) (hb : wbyte s[k] = true) : (s.data.toList.take (k + 1)).all wbyte = true := by
  rw [take_snoc s k h]; simp only [List.all_append, ha, List.all_cons, hb, List.all_nil, Bool.and_true]
theorem all_no (s : ByteArray) (k : Nat) (h : k < s.size) (hb : wbyte s[k] = false) : s.data.toList.all wbyte = false := by
  have hm : s[k] ∈ s.data.toList := by
    have : s[k] = s.data.toList[k]'(by simpa using h) := rfl
    rw [this]; exact List.getElem_mem _
  cases e : s.data.toList.all wbyte
  · rfl
  · have := List.all_eq_true.1 e _ hm
    rw [hb] at this; cases this
theorem all_end (s : ByteArray) (ha : (s.data.toList.take s.size).all wbyte = true) : s.data.toList.all wbyte = true := by
  rwa [List.take_of_length_le (by simp)] at ha
theorem wok_no {s : ByteArray} (h : wlen s = false) : wok s = false := by unfold wok; rw [h]; rfl
theorem wok_yes {s : ByteArray} (h : wlen s = true) : wok s = s.data.toList.all wbyte := by unfold wok; rw [h]; rfl
theorem wlen_btw (s : ByteArray) : btw (s.size : Int) 1 12 = wlen s := by
  unfold btw wlen
  rw [Bool.eq_iff_iff]
  simp only [decide_eq_true_eq]
  omega
theorem btw_az (c : UInt8) (lo hi : Int) : btw (wrap64 (c.toNat : Int)) lo hi = decide (lo ≤ (c.toNat : Int) ∧ (c.toNat : Int) ≤ hi) := by
  have : c.toNat < 256 := c.toNat_lt
  rw [show wrap64 (c.toNat : Int) = (c.toNat : Int) by unfold wrap64; omega]
  rfl
set_option maxHeartbeats 1000000 in
theorem sword (w : World) (s : ByteArray) (hs : s.size ≤ 9223372036854775807) :
    Calls Tryz.prog 106 #[.string s] w fun e w' => e = .returned (.bool (wok s)) ∧ ∃ n, w' = w.drewN n := by
  cases hw : wlen s
  · have HW : Hid (wok s = false) := wok_no hw
    have hb : btw (s.size : Int) 1 12 = false := (wlen_btw s).trans hw
    clear hw
    go_enter Tryz.func106, Tryz.ntmps106
    go_wp2_with (go_at_call 74; refine (between_any _ _ _ _).mono ?_; rintro e w' ⟨rfl, hw'⟩; subst w')
    go_ret
    exact ⟨by rw [HW.out]; rfl, 0, rfl⟩
  · have HW : Hid (wok s = s.data.toList.all wbyte) := wok_yes hw
    have hb : btw (s.size : Int) 1 12 = true := (wlen_btw s).trans hw
    clear hw
    go_enter Tryz.func106, Tryz.ntmps106
    go_wp2_with (go_at_call 74; refine (between_any _ _ _ _).mono ?_; rintro e w' ⟨rfl, hw'⟩; subst w')
    go_loopw [3] (fun i wr => ∃ k : Nat, k ≤ s.size ∧ i = .int .i64 k ∧ (s.data.toList.take k).all wbyte = true ∧ ∃ n, wr = w.drewN n) (fun i _ => s.size - (intOf i).toNat)
    case atStart => exact ⟨0, Nat.zero_le _, rfl, rfl, 0, rfl⟩
    case round =>
      obtain ⟨k, hk, rfl, ha, n, rfl⟩ := hrel
      have HA : Hid ((s.data.toList.take k).all wbyte = true) := ha
      clear ha
      by_cases hlt : k < s.size
      · cases hq : wbyte s[k]
        · have HQ : Hid (s.data.toList.all wbyte = false) := all_no s k hlt hq
          have h1 : btw (wrap64 (s[k].toNat : Int)) 97 122 = false := by rw [btw_az]; unfold wbyte at hq; have := of_decide_eq_false hq; exact decide_eq_false (by omega)
          have h2 : btw (wrap64 (s[k].toNat : Int)) 48 57 = false := by rw [btw_az]; unfold wbyte at hq; have := of_decide_eq_false hq; exact decide_eq_false (by omega)
          have h3 : ((s[k].toNat : Int) != 95) = true := by unfold wbyte at hq; have := of_decide_eq_false hq; exact bne_iff_ne.2 (by omega)
          clear hq
          go_wp2_with (go_at_call 74; refine (between_any _ _ _ _).mono ?_; rintro e w' ⟨rfl, hw'⟩; subst w')
          go_ret
          exact ⟨by rw [HW.out, HQ.out]; rfl, _, rfl⟩
        · have HN : Hid ((s.data.toList.take (k + 1)).all wbyte = true) := all_snoc s k hlt HA.out hq
          unfold wbyte at hq
          have hq := of_decide_eq_true hq
          by_cases c1 : 97 ≤ s[k].toNat ∧ s[k].toNat ≤ 122
          · have h1 : btw (wrap64 (s[k].toNat : Int)) 97 122 = true := by rw [btw_az]; exact decide_eq_true (by omega)
            clear hq c1
            go_wp2_with (go_at_call 74; refine (between_any _ _ _ _).mono ?_; rintro e w' ⟨rfl, hw'⟩; subst w')
            go_roundw
            case rel => exact ⟨k + 1, by omega, by go_num, HN.out, _, rfl⟩
            case measure => simp [intOf]; omega
          · have h1 : btw (wrap64 (s[k].toNat : Int)) 97 122 = false := by rw [btw_az]; exact decide_eq_false (by omega)
            by_cases c2 : 48 ≤ s[k].toNat ∧ s[k].toNat ≤ 57
            · have h2 : btw (wrap64 (s[k].toNat : Int)) 48 57 = true := by rw [btw_az]; exact decide_eq_true (by omega)
              clear hq c1 c2
              go_wp2_with (go_at_call 74; refine (between_any _ _ _ _).mono ?_; rintro e w' ⟨rfl, hw'⟩; subst w')
              go_roundw
              case rel => exact ⟨k + 1, by omega, by go_num, HN.out, _, rfl⟩
              case measure => simp [intOf]; omega
            · have h2 : btw (wrap64 (s[k].toNat : Int)) 48 57 = false := by rw [btw_az]; exact decide_eq_false (by omega)
              have h3 : ((s[k].toNat : Int) != 95) = false := bne_eq_false_iff_eq.2 (by omega)
              clear hq c1 c2
              go_wp2_with (go_at_call 74; refine (between_any _ _ _ _).mono ?_; rintro e w' ⟨rfl, hw'⟩; subst w')
              go_roundw
              case rel => exact ⟨k + 1, by omega, by go_num, HN.out, _, rfl⟩
              case measure => simp [intOf]; omega
      · go_wp2
        go_ret
        exact ⟨by rw [HW.out, all_end s (by have := HA.out; rwa [show k = s.size by omega] at this)]; rfl, _, rfl⟩
theorem bytes_below (w : World) (e : TypeId) (s : ByteArray) : Below w.heap.size w (Lib.bytesWorld w e s) :=
  ⟨rfl, rfl, rfl, by rw [Lib.bytesWorld_size]; omega, fun k hk => Lib.bytesWorld_at_old w e s k hk⟩
set_option maxHeartbeats 1000000 in
theorem iword (w : World) (s : ByteArray) (hs : s.size ≤ 9223372036854775807) :
    Calls Tryz.prog 113 #[.string s] w fun e w' => e = .returned (.bool (wok s)) ∧ Below w.heap.size w w' := by
  cases hw : wlen s
  · have HW : Hid (wok s = false) := wok_no hw
    by_cases h1 : (s.size : Int) < 1
    · clear hw
      go_enter Tryz.func113, Tryz.ntmps113
      go_wp2
      go_ret
      exact ⟨by rw [HW.out]; rfl, Below.refl _ _⟩
    · have h2 : 12 < (s.size : Int) := by unfold wlen at hw; have := of_decide_eq_false hw; omega
      clear hw
      go_enter Tryz.func113, Tryz.ntmps113
      go_wp2
      go_ret
      exact ⟨by rw [HW.out]; rfl, Below.refl _ _⟩
  · have HW : Hid (wok s = s.data.toList.all wbyte) := wok_yes hw
    have h1 : ¬ (s.size : Int) < 1 := by unfold wlen at hw; have := of_decide_eq_true hw; omega
    have h2 : ¬ 12 < (s.size : Int) := by unfold wlen at hw; have := of_decide_eq_true hw; omega
    clear hw
    have hcv := Lib.run_convert_string_bytes (P := Tryz.prog) w 9 145 5 s Tryz.underlying9 Tryz.underlying145 Tryz.underlying5
    obtain ⟨W, hW, hB, hc⟩ : ∃ W, Lib.bytesWorld w 5 s = W ∧ Below w.heap.size w W ∧ ∀ j (hj : j < s.size), W.cell? ⟨w.heap.size, j, none⟩ = some (.int .u8 (s[j].toNat : Int)) :=
      ⟨_, rfl, bytes_below _ _ _, fun j hj => by rw [Lib.bytesWorld_cell w _ s j hj]; simp [List.getD, hj]; rfl⟩
    obtain ⟨cap, hcap⟩ : ∃ cap, grownCap w s.size 0 5 = cap := ⟨_, rfl⟩
    rw [hW, hcap] at hcv
    clear hW hcap
    go_enter Tryz.func113, Tryz.ntmps113
    go_wp2
    go_loop [16] (fun i => ∃ k : Nat, k ≤ s.size ∧ i = .int .i64 k ∧ (s.data.toList.take k).all wbyte = true) (fun i => s.size - (intOf i).toNat)
    case atStart => exact ⟨0, Nat.zero_le _, rfl, rfl⟩
    case round =>
      obtain ⟨k, hk, rfl, ha⟩ := hrel
      have HA : Hid ((s.data.toList.take k).all wbyte = true) := ha
      clear ha
      by_cases hlt : k < s.size
      · have hck := hc k hlt
        cases hq : wbyte s[k]
        · have HQ : Hid (s.data.toList.all wbyte = false) := all_no s k hlt hq
          go_wp2_with (go_at_call 129; refine (iwbyte _ _).mono ?_; rintro e w' ⟨rfl, hw'⟩; subst w')
          go_ret
          exact ⟨by rw [HW.out, HQ.out]; rfl, hB⟩
        · have HN : Hid ((s.data.toList.take (k + 1)).all wbyte = true) := all_snoc s k hlt HA.out hq
          go_wp2_with (go_at_call 129; refine (iwbyte _ _).mono ?_; rintro e w' ⟨rfl, hw'⟩; subst w')
          go_round
          case rel => exact ⟨k + 1, by omega, by go_num, HN.out⟩
          case measure => simp [intOf]; omega
      · go_wp2
        go_ret
        exact ⟨by rw [HW.out, all_end s (by have := HA.out; rwa [show k = s.size by omega] at this)]; rfl, hB⟩
end Go.Proofs.YtkfjlldlbknepaaGreat.Tk
/-
  Which rows and tables are right: contracts of SampleOk and TableOk, of the program and of its model, over the plain functions 'rok', 'tok'.
-/
namespace Go.Proofs.YtkfjlldlbknepaaGreat.Tk
set_option maxRecDepth 20000
open Go.RowKit
open Go.Proofs.YtkfjlldlbknepaaGreat.Tb
open Go.Proofs.YtkfjlldlbknepaaGreat.Li (ret_bool btw between_any)

def nok (xs : List Int) : Bool := xs.all fok
def cok (ws : List ByteArray) : Bool := ws.all wok
def rok (n c : Int) (r : Row) : Bool := sok n c && (decide ((r.nums.length : Int) = n) && (decide ((r.cats.length : Int) = c) && (nok r.nums && (cok r.cats && lok r.label))))
theorem rok_sok {n c : Int} {r : Row} (h : sok n c = false) : rok n c r = false := by simp [rok, h]
theorem rok_n {n c : Int} {r : Row} (h : ¬ (r.nums.length : Int) = n) : rok n c r = false := by simp [rok, h]
theorem rok_c {n c : Int} {r : Row} (h : ¬ (r.cats.length : Int) = c) : rok n c r = false := by simp [rok, h]
theorem rok_nok {n c : Int} {r : Row} (h : nok r.nums = false) : rok n c r = false := by simp [rok, h]
theorem rok_cok {n c : Int} {r : Row} (h : cok r.cats = false) : rok n c r = false := by simp [rok, h]
theorem rok_lok {n c : Int} {r : Row} (h : lok r.label = false) : rok n c r = false := by simp [rok, h]
theorem rok_all {n c : Int} {r : Row} (h0 : sok n c = true) (h1 : (r.nums.length : Int) = n) (h2 : (r.cats.length : Int) = c) (h3 : nok r.nums = true) (h4 : cok r.cats = true) (h5 : lok r.label = true) : rok n c r = true := by
  simp [rok, h0, h1, h2, h3, h4, h5]
theorem rok_iff {n c : Int} {r : Row} : rok n c r = true ↔ sok n c = true ∧ (r.nums.length : Int) = n ∧ (r.cats.length : Int) = c ∧ nok r.nums = true ∧ cok r.cats = true ∧ lok r.label = true := by
  simp [rok]
theorem pre_snoc {α : Type} (p : α → Bool) (xs : List α) (k : Nat) (h : k < xs.length) (ha : (xs.take k).all p = true) (hb : p xs[k] = true) : (xs.take (k + 1)).all p = true := by
  rw [List.take_succ_eq_append_getElem h]; simp only [List.all_append, ha, List.all_cons, hb, List.all_nil, Bool.and_true]
theorem pre_no {α : Type} (p : α → Bool) (xs : List α) (k : Nat) (h : k < xs.length) (hb : p xs[k] = false) : xs.all p = false := by
  cases e : xs.all p
  · rfl
  · have := List.all_eq_true.1 e _ (List.getElem_mem h)
    rw [hb] at this; cases this
theorem pre_end {α : Type} (p : α → Bool) (xs : List α) (k : Nat) (h : ¬ k < xs.length) (ha : (xs.take k).all p = true) : xs.all p = true := by
  rwa [List.take_of_length_le (by omega)] at ha
theorem word_le (ws : List ByteArray) (k : Nat) (h : k < ws.length) : ws[k].size ≤ lets ws := by
  have h1 := lets_take ws k h
  have h2 := lets_le ws (k + 1)
  omega
/-- A variable of two cells. -/
def Box2 (w : World) (b : Nat) (v0 v1 : Value) : Prop :=
  b < w.heap.size ∧ w.cell? ⟨b, 0, none⟩ = some v0 ∧ w.cell? ⟨b, 1, none⟩ = some v1
theorem Box2.below {w w1 : World} {b : Nat} {v0 v1 : Value} (h : Box2 w b v0 v1) (hB : Below w.heap.size w w1) : Box2 w1 b v0 v1 := by
  obtain ⟨hlt, c0, c1⟩ := h
  exact ⟨Nat.lt_of_lt_of_le hlt hB.size, (hB.cell (by exact hlt)).trans c0, (hB.cell (by exact hlt)).trans c1⟩
theorem boxes23 (w : World) (s0 s1 v0 v1 v2 : Value) (T U : TypeId) : ∃ W, (w.alloc (.cells #[s0, s1] T)).alloc (.cells #[v0, v1, v2] U) = W ∧ W.heap.size = w.heap.size + 2 ∧ Below w.heap.size w W ∧ Box2 W w.heap.size s0 s1 ∧ Box3 W (w.heap.size + 1) v0 v1 v2 := by
  refine ⟨_, rfl, by simp, ((Below.refl _ _).alloc (Nat.le_refl _) _).alloc (by simp) _, ⟨by simp; omega, ?_, ?_⟩, ?_⟩
  · rw [World.cell?_alloc_lt _ _ ⟨w.heap.size, 0, none⟩ (by simp)]; simp
  · rw [World.cell?_alloc_lt _ _ ⟨w.heap.size, 1, none⟩ (by simp)]; simp
  · have := box3_new (w.alloc (.cells #[s0, s1] T)) v0 v1 v2 U
    rwa [size_alloc] at this
set_option maxHeartbeats 2000000 in
theorem isam (w : World) (n c : Int) (v0 v1 v2 : Value) (r : Row) (hr : RowIs w v0 v1 v2 r) (hl : r.sz ≤ 1048576) :
    Calls Tryz.prog 90 #[.agg #[.int .i64 n, .int .i64 c], .agg #[v0, v1, v2]] w fun e w' => e = .returned (.bool (rok n c r)) ∧ Below w.heap.size w w' := by
  obtain ⟨a0, c0, a1, c1, rfl, rfl, rfl, i0, i1⟩ := hr
  unfold Row.sz at hl
  obtain ⟨W, hW, hsz, hB, bs, bx⟩ := boxes23 w (.int .i64 n) (.int .i64 c) (.slice a0 r.nums.length c0) (.slice a1 r.cats.length c1) (.int .i64 r.label) 35 87
  have HW : Hid ((w.alloc (.cells #[.int .i64 n, .int .i64 c] 35)).alloc (.cells #[.slice a0 r.nums.length c0, .slice a1 r.cats.length c1, .int .i64 r.label] 87) = W) := hW
  clear hW
  go_enter Tryz.func90, Tryz.ntmps90
  go_wp2_with fail
  rw [HW.out]
  clear HW
  refine (isch _ _ _).mono ?_
  rintro e w1 ⟨rfl, hB1⟩
  have bs := bs.below hB1
  have bx := bx.below hB1
  have hB := hB.trans (hB1.mono hB.size)
  clear hB1 hsz
  have i0 := i0.below hB
  have i1 := i1.below hB
  obtain ⟨_, cs0, cs1⟩ := bs
  obtain ⟨hbx, ⟨cx0, cx1, cx2⟩, _⟩ := id bx
  cases hs : sok n c
  · have HR : Hid (rok n c r = false) := rok_sok hs
    go_wp2
    go_ret
    exact ⟨by rw [HR.out]; rfl, hB⟩
  by_cases hn : (r.nums.length : Int) = n
  rotate_left
  · have HR : Hid (rok n c r = false) := rok_n hn
    have hn' : ((r.nums.length : Int) != n) = true := bne_iff_ne.2 hn
    clear hn
    go_wp2
    go_ret
    exact ⟨by rw [HR.out]; rfl, hB⟩
  have hn' : ((r.nums.length : Int) != n) = false := bne_eq_false_iff_eq.2 hn
  by_cases hc : (r.cats.length : Int) = c
  rotate_left
  · have HR : Hid (rok n c r = false) := rok_c hc
    have hc' : ((r.cats.length : Int) != c) = true := bne_iff_ne.2 hc
    clear hc hn
    go_wp2
    go_ret
    exact ⟨by rw [HR.out]; rfl, hB⟩
  have hc' : ((r.cats.length : Int) != c) = false := bne_eq_false_iff_eq.2 hc
  have HS : Hid (sok n c = true ∧ (r.nums.length : Int) = n ∧ (r.cats.length : Int) = c) := ⟨hs, hn, hc⟩
  clear hn hc
  go_wp2
  go_loop [31] (fun i => ∃ k : Nat, k ≤ r.nums.length ∧ i = .int .i64 k ∧ (r.nums.take k).all fok = true) (fun i => r.nums.length - (intOf i).toNat)
  case atStart => exact ⟨0, Nat.zero_le _, rfl, rfl⟩
  case round =>
    obtain ⟨k, hk, rfl, ha⟩ := hrel
    have HA : Hid ((r.nums.take k).all fok = true) := ha
    clear ha
    by_cases hlt : k < r.nums.length
    · rcases i0 with h0 | ⟨xb, xo, rfl, hxb, hxc⟩
      · rw [h0] at hlt; simp at hlt
      · have hcx := hxc k hlt
        clear hxc
        cases hq : fok r.nums[k]
        · have HR : Hid (rok n c r = false) := rok_nok (pre_no fok r.nums k hlt hq)
          go_wp2_with (go_at_call 87; refine (iok_any _ _).mono ?_; rintro e w' ⟨rfl, hw'⟩; subst w')
          go_ret
          exact ⟨by rw [HR.out]; rfl, hB⟩
        · have HN : Hid ((r.nums.take (k + 1)).all fok = true) := pre_snoc fok r.nums k hlt HA.out hq
          go_wp2_with (go_at_call 87; refine (iok_any _ _).mono ?_; rintro e w' ⟨rfl, hw'⟩; subst w')
          go_round
          case rel => exact ⟨k + 1, by omega, by go_num, HN.out⟩
          case measure => simp [intOf]; omega
    · have HN : Hid (nok r.nums = true) := pre_end fok r.nums k hlt HA.out
      clear HA
      go_wp2
      go_loopw [42] (fun i wr => ∃ k : Nat, k ≤ r.cats.length ∧ i = .int .i64 k ∧ (r.cats.take k).all wok = true ∧ Below w1.heap.size w1 wr) (fun i _ => r.cats.length - (intOf i).toNat)
      case atStart => exact ⟨0, Nat.zero_le _, rfl, rfl, Below.refl _ _⟩
      case round =>
        obtain ⟨k, hk, rfl, ha, hBr⟩ := hrel
        have HA : Hid ((r.cats.take k).all wok = true) := ha
        clear ha
        by_cases hlt : k < r.cats.length
        · rcases i1.below hBr with h0 | ⟨xb, xo, rfl, hxb, hxc⟩
          · rw [h0] at hlt; simp at hlt
          · have hcx := hxc k hlt
            have hwl := word_le r.cats k hlt
            clear hxc
            go_wp2_with fail
            refine (iword _ _ (by omega)).mono ?_
            rintro e w2 ⟨rfl, hB2⟩
            have hBr := hBr.trans (hB2.mono hBr.size)
            have hB := hB.trans (hBr.mono hB.size)
            clear hB2
            cases hq : wok r.cats[k]
            · have HR : Hid (rok n c r = false) := rok_cok (pre_no wok r.cats k hlt hq)
              go_wp2
              go_ret
              exact ⟨by rw [HR.out]; rfl, hB⟩
            · have HC : Hid ((r.cats.take (k + 1)).all wok = true) := pre_snoc wok r.cats k hlt HA.out hq
              go_wp2
              go_roundw
              case rel => exact ⟨k + 1, by omega, by go_num, HC.out, hBr⟩
              case measure => simp [intOf]; omega
        · have HC : Hid (cok r.cats = true) := pre_end wok r.cats k hlt HA.out
          have hB := hB.trans (hBr.mono hB.size)
          have bx := bx.below hBr
          obtain ⟨_, ⟨cx0, cx1, cx2⟩, _⟩ := bx
          have HR : Hid (rok n c r = lok r.label) := by
            cases hq : lok r.label
            · exact rok_lok hq
            · exact rok_all HS.out.1 HS.out.2.1 HS.out.2.2 HN.out HC.out hq
          clear hBr HA
          go_wp2_with (go_at_call 114; refine (ilab _ _).mono ?_; rintro e w' ⟨rfl, hw'⟩; subst w')
          go_ret
          exact ⟨by rw [HR.out]; rfl, hB⟩
set_option maxHeartbeats 2000000 in
theorem ssam (w : World) (n c : Int) (v0 v1 v2 : Value) (r : Row) (hr : RowIs w v0 v1 v2 r) (hl : r.sz ≤ 1048576) :
    Calls Tryz.prog 79 #[.agg #[.int .i64 n, .int .i64 c], .agg #[v0, v1, v2]] w fun e w' => e = .returned (.bool (rok n c r)) ∧ Below w.heap.size w w' := by
  obtain ⟨a0, c0, a1, c1, rfl, rfl, rfl, i0, i1⟩ := hr
  unfold Row.sz at hl
  obtain ⟨W, hW, hsz, hB, bs, bx⟩ := boxes23 w (.int .i64 n) (.int .i64 c) (.slice a0 r.nums.length c0) (.slice a1 r.cats.length c1) (.int .i64 r.label) 35 87
  have HW : Hid ((w.alloc (.cells #[.int .i64 n, .int .i64 c] 35)).alloc (.cells #[.slice a0 r.nums.length c0, .slice a1 r.cats.length c1, .int .i64 r.label] 87) = W) := hW
  clear hW
  go_enter Tryz.func79, Tryz.ntmps79
  go_wp2_with fail
  rw [HW.out]
  clear HW
  refine (ssch _ _ _).mono ?_
  rintro e w1 ⟨rfl, hB1⟩
  have bs := bs.below hB1
  have bx := bx.below hB1
  have hB := hB.trans (hB1.mono hB.size)
  clear hB1 hsz
  have i0 := i0.below hB
  have i1 := i1.below hB
  obtain ⟨_, cs0, cs1⟩ := bs
  obtain ⟨hbx, ⟨cx0, cx1, cx2⟩, _⟩ := id bx
  cases hs : sok n c
  · have HR : Hid (rok n c r = false) := rok_sok hs
    go_wp2
    go_ret
    exact ⟨by rw [HR.out]; rfl, hB⟩
  by_cases hn : (r.nums.length : Int) = n
  rotate_left
  · have HR : Hid (rok n c r = false) := rok_n hn
    have hn' : ((r.nums.length : Int) != n) = true := bne_iff_ne.2 hn
    clear hn
    go_wp2
    go_ret
    exact ⟨by rw [HR.out]; rfl, hB⟩
  have hn' : ((r.nums.length : Int) != n) = false := bne_eq_false_iff_eq.2 hn
  by_cases hc : (r.cats.length : Int) = c
  rotate_left
  · have HR : Hid (rok n c r = false) := rok_c hc
    have hc' : ((r.cats.length : Int) != c) = true := bne_iff_ne.2 hc
    clear hc hn
    go_wp2
    go_ret
    exact ⟨by rw [HR.out]; rfl, hB⟩
  have hc' : ((r.cats.length : Int) != c) = false := bne_eq_false_iff_eq.2 hc
  cases hlb : lok r.label
  · have HR : Hid (rok n c r = false) := rok_lok hlb
    clear hn hc
    go_wp2_with (go_at_call 105; refine (slab _ _).mono ?_; rintro e w' ⟨rfl, hw'⟩; subst w')
    go_ret
    exact ⟨by rw [HR.out]; rfl, hB⟩
  have HS : Hid (sok n c = true ∧ (r.nums.length : Int) = n ∧ (r.cats.length : Int) = c ∧ lok r.label = true) := ⟨hs, hn, hc, hlb⟩
  clear hn hc
  go_wp2_with (go_at_call 105; refine (slab _ _).mono ?_; rintro e w' ⟨rfl, hw'⟩; subst w')
  clear hlb
  go_loopw [5] (fun i wr => ∃ k : Nat, k ≤ r.nums.length ∧ i = .int .i64 k ∧ (r.nums.take k).all fok = true ∧ ∃ n, wr = w1.drewN n) (fun i _ => r.nums.length - (intOf i).toNat)
  case atStart => exact ⟨0, Nat.zero_le _, rfl, rfl, 0, rfl⟩
  case round =>
    obtain ⟨k, hk, rfl, ha, nd, rfl⟩ := hrel
    have HA : Hid ((r.nums.take k).all fok = true) := ha
    clear ha
    by_cases hlt : k < r.nums.length
    · rcases i0 with h0 | ⟨xb, xo, rfl, hxb, hxc⟩
      · rw [h0] at hlt; simp at hlt
      · have hcx := hxc k hlt
        clear hxc
        cases hq : fok r.nums[k]
        · have HR : Hid (rok n c r = false) := rok_nok (pre_no fok r.nums k hlt hq)
          go_wp2_with (go_at_call 75; refine (sok_any _ _).mono ?_; rintro e w' ⟨rfl, hw'⟩; subst w')
          go_ret
          exact ⟨by rw [HR.out]; rfl, below_drewN hB _⟩
        · have HN : Hid ((r.nums.take (k + 1)).all fok = true) := pre_snoc fok r.nums k hlt HA.out hq
          go_wp2_with (go_at_call 75; refine (sok_any _ _).mono ?_; rintro e w' ⟨rfl, hw'⟩; subst w')
          go_roundw
          case rel => exact ⟨k + 1, by omega, by go_num, HN.out, _, rfl⟩
          case measure => simp [intOf]; omega
    · have HN : Hid (nok r.nums = true) := pre_end fok r.nums k hlt HA.out
      clear HA
      go_wp2
      go_loopw [6] (fun i wr => ∃ k : Nat, k ≤ r.cats.length ∧ i = .int .i64 k ∧ (r.cats.take k).all wok = true ∧ ∃ n, wr = w1.drewN n) (fun i _ => r.cats.length - (intOf i).toNat)
      case atStart => exact ⟨0, Nat.zero_le _, rfl, rfl, _, rfl⟩
      case round =>
        obtain ⟨k, hk, rfl, ha, nd', rfl⟩ := hrel
        have HA : Hid ((r.cats.take k).all wok = true) := ha
        clear ha
        by_cases hlt : k < r.cats.length
        · rcases i1 with h0 | ⟨xb, xo, rfl, hxb, hxc⟩
          · rw [h0] at hlt; simp at hlt
          · have hcx := hxc k hlt
            have hwl := word_le r.cats k hlt
            clear hxc
            go_wp2_with fail
            refine (sword _ _ (by omega)).mono ?_
            rintro e w2 ⟨rfl, nd2, hw2⟩
            subst w2
            cases hq : wok r.cats[k]
            · have HR : Hid (rok n c r = false) := rok_cok (pre_no wok r.cats k hlt hq)
              go_wp2
              go_ret
              exact ⟨by rw [HR.out]; rfl, by first | exact below_drewN hB _ | exact below_drewN (below_drewN hB _) _⟩
            · have HC : Hid ((r.cats.take (k + 1)).all wok = true) := pre_snoc wok r.cats k hlt HA.out hq
              go_wp2
              go_roundw
              case rel => exact ⟨k + 1, by omega, by go_num, HC.out, _, by first | rfl | exact World.drewN_drewN _ _ _⟩
              case measure => simp [intOf]; omega
        · have HC : Hid (cok r.cats = true) := pre_end wok r.cats k hlt HA.out
          have HR : Hid (rok n c r = true) := rok_all HS.out.1 HS.out.2.1 HS.out.2.2.1 HN.out HC.out HS.out.2.2.2
          clear HA
          go_wp2
          go_ret
          exact ⟨by rw [HR.out]; rfl, below_drewN hB _⟩
def tok (n c : Int) (rs : List Row) : Bool := sok n c && (decide (rs.length ≤ 40) && rs.all (rok n c))
theorem tok_sok {n c : Int} {rs : List Row} (h : sok n c = false) : tok n c rs = false := by simp [tok, h]
theorem tok_len {n c : Int} {rs : List Row} (h : ¬ rs.length ≤ 40) : tok n c rs = false := by simp [tok, h]
theorem tok_row {n c : Int} {rs : List Row} (h : rs.all (rok n c) = false) : tok n c rs = false := by unfold tok; rw [h]; simp
theorem tok_all {n c : Int} {rs : List Row} (h0 : sok n c = true) (h1 : rs.length ≤ 40) (h2 : rs.all (rok n c) = true) : tok n c rs = true := by unfold tok; rw [h0, h2]; simp [h1]
theorem tok_iff {n c : Int} {rs : List Row} : tok n c rs = true ↔ sok n c = true ∧ rs.length ≤ 40 ∧ rs.all (rok n c) = true := by unfold tok; simp
theorem box3_new' (w : World) (v0 v1 v2 : Value) (T : TypeId) : ∃ W, w.alloc (.cells #[v0, v1, v2] T) = W ∧ W.heap.size = w.heap.size + 1 ∧ Below w.heap.size w W ∧ Box3 W w.heap.size v0 v1 v2 :=
  ⟨_, rfl, by simp, (Below.refl _ _).alloc (Nat.le_refl _) _, box3_new _ _ _ _ _⟩
set_option maxHeartbeats 2000000 in
theorem itab (w : World) (n c : Int) (a : Option Addr) (cap : Nat) (rs : List Row) (hx : IsR w a rs) (hl : rs.length + szR rs ≤ 1048576) :
    Calls Tryz.prog 57 #[.agg #[.int .i64 n, .int .i64 c, .slice a rs.length cap]] w fun e w' => e = .returned (.bool (tok n c rs)) ∧ Below w.heap.size w w' := by
  obtain ⟨W, hW, hsz, hB, bx⟩ := box3_new' w (.int .i64 n) (.int .i64 c) (.slice a rs.length cap) 43
  have HW : Hid (w.alloc (.cells #[.int .i64 n, .int .i64 c, .slice a rs.length cap] 43) = W) := hW
  clear hW
  go_enter Tryz.func57, Tryz.ntmps57
  go_wp2_with fail
  rw [HW.out]
  clear HW
  refine (isch _ _ _).mono ?_
  rintro e w1 ⟨rfl, hB1⟩
  have bx := bx.below hB1
  have hB := hB.trans (hB1.mono hB.size)
  clear hB1 hsz
  have hx := hx.below hB
  obtain ⟨hbx, ⟨cx0, cx1, cx2⟩, _⟩ := id bx
  cases hs : sok n c
  · have HR : Hid (tok n c rs = false) := tok_sok hs
    go_wp2
    go_ret
    exact ⟨by rw [HR.out]; rfl, hB⟩
  by_cases hn : rs.length ≤ 40
  rotate_left
  · have HR : Hid (tok n c rs = false) := tok_len hn
    have hn' : (40 : Int) < rs.length := by omega
    clear hn
    go_wp2
    go_ret
    exact ⟨by rw [HR.out]; rfl, hB⟩
  have hn' : ¬ (40 : Int) < rs.length := by omega
  have HS : Hid (sok n c = true) := hs
  clear hs
  go_wp2
  go_loopw [18] (fun i wr => ∃ k : Nat, k ≤ rs.length ∧ i = .int .i64 k ∧ (rs.take k).all (rok n c) = true ∧ Below w1.heap.size w1 wr) (fun i _ => rs.length - (intOf i).toNat)
  case atStart => exact ⟨0, Nat.zero_le _, rfl, rfl, Below.refl _ _⟩
  case round =>
    obtain ⟨k, hk, rfl, ha, hBr⟩ := hrel
    have HA : Hid ((rs.take k).all (rok n c) = true) := ha
    clear ha
    by_cases hlt : k < rs.length
    · rcases hx.below hBr with h0 | ⟨xb, xo, rfl, hxb, hxc⟩
      · rw [h0] at hlt; simp at hlt
      · obtain ⟨v0, v1, v2, ⟨d0, d1, d2⟩, hr⟩ := hxc k hlt
        have hz := szR_at rs k hlt
        have bxr := bx.below hBr
        obtain ⟨_, ⟨cx0, cx1, cx2⟩, _⟩ := id bxr
        clear hxc
        have hr' := hr
        obtain ⟨a0, q0, a1, q1, rfl, rfl, rfl, _, _⟩ := hr'
        go_wp2_with fail
        have hBa : Below wr.heap.size wr (wr.alloc (.cells #[.slice a0 rs[k].nums.length q0, .slice a1 rs[k].cats.length q1, .int .i64 rs[k].label] 87)) := (Below.refl _ _).alloc (Nat.le_refl _) _
        refine (isam _ _ _ _ _ _ rs[k] (hr.below hBa) (by omega)).mono ?_
        rintro e w2 ⟨rfl, hB2⟩
        have hB2 := hBa.trans (hB2.mono hBa.size)
        have hBr := hBr.trans (hB2.mono hBr.size)
        have hB := hB.trans (hBr.mono hB.size)
        clear hB2 hBa hr d0 d1 d2
        cases hq : rok n c rs[k]
        · have HR : Hid (tok n c rs = false) := tok_row (pre_no _ rs k hlt hq)
          go_wp2
          go_ret
          exact ⟨by rw [HR.out]; rfl, hB⟩
        · have HN : Hid ((rs.take (k + 1)).all (rok n c) = true) := pre_snoc _ rs k hlt HA.out hq
          go_wp2
          go_roundw
          case rel => exact ⟨k + 1, by omega, by go_num, HN.out, hBr⟩
          case measure => simp [intOf]; omega
    · have HR : Hid (tok n c rs = true) := tok_all HS.out hn (pre_end _ rs k hlt HA.out)
      have hB := hB.trans (hBr.mono hB.size)
      go_wp2
      go_ret
      exact ⟨by rw [HR.out]; rfl, hB⟩
set_option maxHeartbeats 2000000 in
theorem stab (w : World) (n c : Int) (a : Option Addr) (cap : Nat) (rs : List Row) (hx : IsR w a rs) (hl : rs.length + szR rs ≤ 1048576) :
    Calls Tryz.prog 50 #[.agg #[.int .i64 n, .int .i64 c, .slice a rs.length cap]] w fun e w' => e = .returned (.bool (tok n c rs)) ∧ Below w.heap.size w w' := by
  obtain ⟨W, hW, hsz, hB, bx⟩ := box3_new' w (.int .i64 n) (.int .i64 c) (.slice a rs.length cap) 43
  have HW : Hid (w.alloc (.cells #[.int .i64 n, .int .i64 c, .slice a rs.length cap] 43) = W) := hW
  clear hW
  go_enter Tryz.func50, Tryz.ntmps50
  go_wp2_with fail
  rw [HW.out]
  clear HW
  refine (ssch _ _ _).mono ?_
  rintro e w1 ⟨rfl, hB1⟩
  have bx := bx.below hB1
  have hB := hB.trans (hB1.mono hB.size)
  clear hB1 hsz
  have hx := hx.below hB
  obtain ⟨hbx, ⟨cx0, cx1, cx2⟩, _⟩ := id bx
  cases hs : sok n c
  · have HR : Hid (tok n c rs = false) := tok_sok hs
    go_wp2
    go_ret
    exact ⟨by rw [HR.out]; rfl, hB⟩
  by_cases hn : rs.length ≤ 40
  rotate_left
  · have HR : Hid (tok n c rs = false) := tok_len hn
    have hn' : (40 : Int) < rs.length := by omega
    clear hn
    go_wp2
    go_ret
    exact ⟨by rw [HR.out]; rfl, hB⟩
  have hn' : ¬ (40 : Int) < rs.length := by omega
  have HS : Hid (sok n c = true) := hs
  clear hs
  go_wp2
  go_loopw [3] (fun i wr => ∃ k : Nat, k ≤ rs.length ∧ i = .int .i64 k ∧ (rs.take k).all (rok n c) = true ∧ Below w1.heap.size w1 wr) (fun i _ => rs.length - (intOf i).toNat)
  case atStart => exact ⟨0, Nat.zero_le _, rfl, rfl, Below.refl _ _⟩
  case round =>
    obtain ⟨k, hk, rfl, ha, hBr⟩ := hrel
    have HA : Hid ((rs.take k).all (rok n c) = true) := ha
    clear ha
    have bxr := bx.below hBr
    obtain ⟨_, ⟨cx0, cx1, cx2⟩, _⟩ := id bxr
    by_cases hlt : k < rs.length
    · rcases hx.below hBr with h0 | ⟨xb, xo, rfl, hxb, hxc⟩
      · rw [h0] at hlt; simp at hlt
      · obtain ⟨v0, v1, v2, ⟨d0, d1, d2⟩, hr⟩ := hxc k hlt
        have hz := szR_at rs k hlt
        clear hxc
        go_wp2
        go_region_with (go_at_call 79; refine (ssam _ _ _ _ _ _ rs[k] (by exact hr) (by omega)).mono ?_; rintro e w2 ⟨rfl, hB2⟩)
        all_goals
          have hBr : Below w1.heap.size w1 w2 := by first | exact hBr.trans (hB2.mono hBr.size) | exact hBr.drew.trans (hB2.mono hBr.size)
          have hB := hB.trans (hBr.mono hB.size)
          clear hB2 hr d0 d1 d2
          cases hq : rok n c rs[k]
          · have HR : Hid (tok n c rs = false) := tok_row (pre_no _ rs k hlt hq)
            go_wp2
            go_ret
            exact ⟨by rw [HR.out]; rfl, hB⟩
          · have HN : Hid ((rs.take (k + 1)).all (rok n c) = true) := pre_snoc _ rs k hlt HA.out hq
            go_wp2
            go_roundw
            case rel => exact ⟨k + 1, by omega, by go_num, HN.out, hBr⟩
            case measure => simp [intOf]; omega
    · have HR : Hid (tok n c rs = true) := tok_all HS.out hn (pre_end _ rs k hlt HA.out)
      have hB := hB.trans (hBr.mono hB.size)
      go_wp2
      go_ret
      exact ⟨by rw [HR.out]; rfl, hB⟩
end Go.Proofs.YtkfjlldlbknepaaGreat.Tk
/-
  Small laws for the walks over tables: frames behind a draw; a row of the call's own; a box of two cells.
-/
namespace Go.Proofs.YtkfjlldlbknepaaGreat.Tk
set_option maxRecDepth 20000
open Go.RowKit
open Go.Proofs.YtkfjlldlbknepaaGreat.Tb
/-- A draw turns nothing in memory. -/
theorem undrew {w w1 : World} (h : Below w.drew.heap.size w.drew w1) : Below w.heap.size w w1 := ⟨h.os, h.tape, h.output, h.size, h.block⟩
theorem rowIs_own {w : World} {B : Nat} {u0 u1 : Value} {r : Row} (o0 : Li.Own w B u0 r.nums) (o1 : Ls.Own w B u1 r.cats) : RowIs w u0 u1 (.int .i64 r.label) r := by
  obtain ⟨a0, q0, e0, i0⟩ := o0.isl
  obtain ⟨a1, q1, e1, i1⟩ := o1.iss
  exact ⟨a0, q0, a1, q1, e0, e1, rfl, i0, i1⟩
end Go.Proofs.YtkfjlldlbknepaaGreat.Tk
