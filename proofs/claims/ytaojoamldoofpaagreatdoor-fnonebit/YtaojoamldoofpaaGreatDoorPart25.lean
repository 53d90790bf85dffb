/-
  Contracts that the proof leans on, put together in the order in which they build.
-/
import Derived.Test.YtaojoamldoofpaaGreatDoorRows
import Derived.Test.YtaojoamldoofpaaGreatDoorPart12
import Derived.WalkKit
import Derived.Below
import Derived.Lib.ItoaNum
import Derived.OpenShut
import Derived.Laws.IdiomStrings
import Derived.WalkSmall
import Derived.Test.YtaojoamldoofpaaGreatDoorPart1
import Derived.Lib.ConvBytes
import Derived.ProofKit
import Derived.Laws.BitsAllLaws
import Derived.Laws.BitsLemmas
import Derived.RowKit
import Derived.Test.YtaojoamldoofpaaGreatDoorPart24
import Derived.Lib.AtoiAllCases
import Derived.Lib.Replace
import Derived.Lib.IndexBytes
import Derived.Lib.CountLaws
import Derived.Lib.Split
import Derived.Lib.SplitLaws
import Derived.Shelf.Strings.FieldsAny
/-
  The model's NumText: what it returns is the decimal numeral; it makes new blocks alone.
-/
namespace Go.Proofs.YtaojoamldoofpaaGreatDoor.Nu
set_option maxRecDepth 100000
open Go.RowKit

theorem hide {p : Prop} (h : p) : Hid p := h
theorem unhide {p : Prop} (h : Hid p) : p := h
def pre (u : Nat) : List UInt8 := if u = 0 then [] else Lib.decDigits u
theorem pre_step (u : Nat) (h : u ≠ 0) : pre u = pre (u / 10) ++ [UInt8.ofNat (48 + u % 10)] := by
  unfold pre
  rw [if_neg h, Lib.decDigits]
  by_cases h' : u < 10
  · rw [dif_pos h', if_pos (by omega), Nat.mod_eq_of_lt h']; rfl
  · rw [dif_neg h', if_neg (by omega)]

theorem Tryz.info8 : (Tryz.prog.info? 5).map (fun i => (i.zero, i.size, i.bytes)) = some (some (.int .u8 0), 1, 1) := by kernel_rfl

set_option maxHeartbeats 400000 in
theorem snum_zero (w : World) : Calls Tryz.prog 26 #[.int .i64 0] w fun e w' => e = .returned (.string ⟨(Lib.itoa 0).toArray⟩) ∧ w' = w := by
  go_enter Tryz.func26, Tryz.ntmps26
  go_wp2
  go_ret
  exact ⟨by rw [show Lib.itoa 0 = [48] by decide +kernel]; rfl, rfl⟩

theorem pre_len : ∀ (k u : Nat), u < 10 ^ k → (pre u).length ≤ k
  | 0, u, h => by have : u = 0 := by simpa using h
                  subst this; simp [pre]
  | k + 1, u, h => by
    by_cases h0 : u = 0
    · subst h0; simp [pre]
    · rw [pre_step u h0, List.length_append]
      have := pre_len k (u / 10) (by rw [Nat.pow_succ] at h; omega)
      simp; omega
theorem len_of {n : Int} {a : Nat} {xs : List UInt8} (h : pre a ++ xs = pre n.natAbs) (h0 : -9223372036854775808 ≤ n) (h1 : n ≤ 9223372036854775807) : xs.length ≤ 20 := by
  have := pre_len 20 n.natAbs (by omega)
  rw [← h, List.length_append] at this
  omega
theorem dig_toNat (u : Nat) : ((UInt8.ofNat (48 + u % 10)).toNat : Int) = 48 + ((u % 10 : Nat) : Int) := by
  rw [UInt8.toNat_ofNat']; omega

theorem dec_len (u : Nat) (h : u < 10 ^ 20) : (Lib.decDigits u).length ≤ 20 := by
  by_cases h0 : u = 0
  · subst h0; decide +kernel
  · have := pre_len 20 u h
    unfold pre at this
    rwa [if_neg h0] at this
theorem itoa_len (n : Int) (h0 : -9223372036854775808 ≤ n) (h1 : n ≤ 9223372036854775807) : (Lib.itoa n).length ≤ 21 := by
  unfold Lib.itoa
  split
  · have := dec_len n.natAbs (by omega)
    simp; omega
  · have := dec_len n.toNat (by omega)
    omega

theorem own_lit (w : World) (base : Nat) (hb : base ≤ w.heap.size) (v : Value) (T : TypeId) : (w.alloc (.cells #[v] T)).ownsRow base T 1 (.slice (some ⟨w.heap.size, 0, none⟩) 1 1) 1 [v] :=
  ⟨by simp, .inr ⟨w.heap.size, 1, #[v], rfl, hb, heap_alloc_new w _, Nat.le_refl _, by decide, by simp, by simp⟩⟩

def bv (l : List UInt8) : List Value := l.map fun c => .int .u8 (c.toNat : Int)
theorem bv_length (l : List UInt8) : (bv l).length = l.length := by simp [bv]
theorem bv_cell {w : World} {g : Nat} {xs : List UInt8} (hc : ∀ j (hj : j < xs.length), w.cell? ⟨g, j, none⟩ = some (.int .u8 (xs[j].toNat : Int))) :
    ∀ j u, (bv xs)[j]? = some u → w.cell? ((⟨g, 0, none⟩ : Addr).add j) = some u := by
  intro j u hj
  rw [Go.WideShapes.add_plain, Nat.zero_add]
  have hl : j < xs.length := by have := (List.getElem?_eq_some_iff.1 hj).1; simpa [bv] using this
  rw [hc j hl]
  simp [bv, List.getElem?_eq_getElem hl] at hj
  rw [← hj]
theorem bv_one {xs : List UInt8} : ∀ u ∈ bv xs, u.oneCell' = true := by
  intro u hu
  simp only [bv, List.mem_map] at hu
  obtain ⟨c, _, rfl⟩ := hu
  rfl

theorem own_bytes {w : World} {base : Nat} {T : TypeId} {v : Value} {n : Nat} {xs : List UInt8} (h : w.ownsRow base T 1 v n (bv xs)) (hn : 0 < n) :
    ∃ g cap, v = .slice (some ⟨g, 0, none⟩) xs.length cap ∧ base ≤ g ∧ g < w.heap.size ∧ ∀ j (hj : j < xs.length), w.cell? ⟨g, j, none⟩ = some (.int .u8 (xs[j].toNat : Int)) := by
  obtain ⟨hl, h⟩ := h
  rw [bv_length] at hl
  rcases h with ⟨_, h0⟩ | ⟨g, cap, cur, rfl, hb, hh, hc, hm, hs, ht⟩
  · omega
  · obtain rfl : n = xs.length := by omega
    refine ⟨g, cap, rfl, hb, ?_, fun j hj => ?_⟩
    · rcases Nat.lt_or_ge g w.heap.size with h | h
      · exact h
      · rw [Array.getElem?_eq_none h] at hh; cases hh
    · have hj' : (bv xs)[j]? = some (.int .u8 (xs[j].toNat : Int)) := by simp [bv, List.getElem?_eq_getElem hj]
      rw [← ht] at hj'
      rw [List.getElem?_take, if_pos (by omega)] at hj'
      simp only [World.cell?, hh]
      simpa using hj'

set_option maxHeartbeats 1000000 in
theorem snum_any (n : Int) (w : World) (h0 : -9223372036854775808 ≤ n) (h1 : n ≤ 9223372036854775807) (hn : ¬ n = 0) :
    Calls Tryz.prog 26 #[.int .i64 n] w fun e w' => e = .returned (.string ⟨(Lib.itoa n).toArray⟩) ∧ Below w.heap.size w w' := by
  obtain ⟨i0, hi, hz0, hz1, hz2⟩ := info_parts Tryz.info8
  have hn' : (n == 0) = false := by simpa using hn
  go_enter Tryz.func26, Tryz.ntmps26
  go_wp2
  go_loopw [3, 4] (fun v m wr => ∃ (q : Int) (xs : List UInt8) (g cap : Nat), m = .int .i64 q ∧ -9223372036854775808 ≤ q ∧ q ≤ 9223372036854775807 ∧ v = .slice (some ⟨g, 0, none⟩) xs.length cap ∧ (∀ j (hj : j < xs.length), wr.cell? ⟨g, j, none⟩ = some (.int .u8 (xs[j].toNat : Int))) ∧ Below w.heap.size w wr ∧ g < wr.heap.size ∧ pre q.natAbs ++ xs = pre n.natAbs)
    (fun _ m _ => (intOf m).natAbs)
  case atStart => exact ⟨n, [], w.heap.size, 0, rfl, h0, h1, rfl, fun j hj => by simp at hj, (Below.refl _ _).alloc (Nat.le_refl _) _, by simp, by simp⟩
  case round =>
    obtain ⟨q, xs, g, cap, rfl, q0, q1, rfl, hc, hB, hg, hp⟩ := hrel
    have hl := len_of hp h0 h1
    have HP : Hid (pre q.natAbs ++ xs = pre n.natAbs) := hp
    have HC : Hid (∀ j (hj : j < xs.length), wr.cell? ⟨g, j, none⟩ = some (.int .u8 (xs[j].toNat : Int))) := hc
    clear hp hc
    have hsz := hB.size
    by_cases hq : q = 0
    · subst hq
      have HX : Hid (xs = Lib.decDigits n.natAbs) := by have := HP.out; simp [pre, hn] at this; exact this
      clear HP
      by_cases hneg : n < 0
      · go_wp2_with (at_builtin; refine wpList_append_own _ rfl _ _ 22 rfl w.heap.size 5 i0 (.int .u8 0) 1 1 Tryz.underlying22 hi hz0 hz1 hz2 rfl (by decide) _ _ _ rfl (own_lit wr w.heap.size hsz _ _) ⟨g, 0, none⟩ xs.length cap (bv xs) rfl (by rw [bv_length]; omega) (bv_cell (fun j hj => by rw [World.cell?_alloc_lt _ _ _ hg]; exact HC.out j hj)) bv_one (by unfold maxLen; omega) (by omega) (by simp; omega) ?_)
        · intro v' w1 hown hgrow hnn
          clear hnn
          obtain ⟨g', cap', hv, hb', hlt', hc'⟩ := own_bytes (xs := 45 :: xs) hown (by omega)
          have hB1 : Below w.heap.size w w1 := (hB.alloc hsz _).grown hgrow (by simp; omega) (fun k hk => by cases hk; exact hsz)
          clear hown hgrow HC
          rw [hv]
          have hcv := run_convert_bytes_back (P := Tryz.prog) w1 22 9 5 ⟨g', 0, none⟩ cap' (45 :: xs) Tryz.underlying22 Tryz.underlying5 Tryz.underlying9 (fun j hj => by rw [Go.WideShapes.add_plain, Nat.zero_add]; exact hc' j hj)
          simp only [List.length_cons] at hcv ⊢
          clear hc' hv
          go_wp2
          go_ret
          refine ⟨?_, hB1⟩
          rw [HX.out]
          unfold Lib.itoa
          rw [if_pos hneg]
          rfl
      · have hcv := run_convert_bytes_back (P := Tryz.prog) wr 22 9 5 ⟨g, 0, none⟩ cap xs Tryz.underlying22 Tryz.underlying5 Tryz.underlying9 (fun j hj => by rw [Go.WideShapes.add_plain, Nat.zero_add]; exact HC.out j hj)
        go_wp2
        go_ret
        refine ⟨?_, hB⟩
        rw [HX.out]
        unfold Lib.itoa
        rw [if_neg (by omega), show n.toNat = n.natAbs by omega]
        rfl
    · obtain ⟨r, hr⟩ : ∃ r, q.tmod 10 = r := ⟨_, rfl⟩
      obtain ⟨t, ht⟩ : ∃ t, q.tdiv 10 = t := ⟨_, rfl⟩
      have HR : Hid (r.natAbs = q.natAbs % 10) := by show _ = _; rw [← hr, Int.natAbs_tmod]; rfl
      have HT : Hid (t.natAbs = q.natAbs / 10) := by show _ = _; rw [← ht, Int.natAbs_tdiv]; rfl
      have r0 : -9 ≤ r := by have := HR.out; omega
      have r1 : r ≤ 9 := by have := HR.out; omega
      have t0 : -922337203685477580 ≤ t := by have := HT.out; omega
      have t1 : t ≤ 922337203685477580 := by have := HT.out; omega
      by_cases hneg : r < 0
      · go_wp2_with (at_builtin; refine wpList_append_own _ rfl _ _ 22 rfl w.heap.size 5 i0 (.int .u8 0) 1 1 Tryz.underlying22 hi hz0 hz1 hz2 rfl (by decide) _ _ _ rfl (own_lit wr w.heap.size hsz _ _) ⟨g, 0, none⟩ xs.length cap (bv xs) rfl (by rw [bv_length]; omega) (bv_cell (fun j hj => by rw [World.cell?_alloc_lt _ _ _ hg]; exact HC.out j hj)) bv_one (by unfold maxLen; omega) (by omega) (by simp; omega) ?_)
        intro v' w1 hown hgrow hnn
        clear hnn
        have he : 48 + -r = ((UInt8.ofNat (48 + q.natAbs % 10)).toNat : Int) := by rw [dig_toNat]; have := HR.out; omega
        rw [he] at hown
        obtain ⟨g', cap', hv, hb', hlt', hc'⟩ := own_bytes (xs := UInt8.ofNat (48 + q.natAbs % 10) :: xs) hown (by omega)
        have hB1 : Below w.heap.size w w1 := (hB.alloc hsz _).grown hgrow (by simp; omega) (fun k hk => by cases hk; exact hsz)
        have HC' := hide hc'
        clear hown hgrow HC hc' he
        have HP' : Hid (pre t.natAbs ++ (UInt8.ofNat (48 + q.natAbs % 10) :: xs) = pre n.natAbs) := by
          show _ = _
          rw [← HP.out, pre_step q.natAbs (by omega), HT.out]
          simp
        rw [hv]
        have Hv := hide hv
        clear hv HP
        go_wp2
        go_roundw
        case rel => exact ⟨t, _, g', cap', rfl, by omega, by omega, rfl, unhide HC', hB1, hlt', HP'.out⟩
        case measure => simp [intOf]; have := HT.out; omega
      · go_wp2_with (at_builtin; refine wpList_append_own _ rfl _ _ 22 rfl w.heap.size 5 i0 (.int .u8 0) 1 1 Tryz.underlying22 hi hz0 hz1 hz2 rfl (by decide) _ _ _ rfl (own_lit wr w.heap.size hsz _ _) ⟨g, 0, none⟩ xs.length cap (bv xs) rfl (by rw [bv_length]; omega) (bv_cell (fun j hj => by rw [World.cell?_alloc_lt _ _ _ hg]; exact HC.out j hj)) bv_one (by unfold maxLen; omega) (by omega) (by simp; omega) ?_)
        intro v' w1 hown hgrow hnn
        clear hnn
        have he : 48 + r = ((UInt8.ofNat (48 + q.natAbs % 10)).toNat : Int) := by rw [dig_toNat]; have := HR.out; omega
        rw [he] at hown
        obtain ⟨g', cap', hv, hb', hlt', hc'⟩ := own_bytes (xs := UInt8.ofNat (48 + q.natAbs % 10) :: xs) hown (by omega)
        have hB1 : Below w.heap.size w w1 := (hB.alloc hsz _).grown hgrow (by simp; omega) (fun k hk => by cases hk; exact hsz)
        have HC' := hide hc'
        clear hown hgrow HC hc' he
        have HP' : Hid (pre t.natAbs ++ (UInt8.ofNat (48 + q.natAbs % 10) :: xs) = pre n.natAbs) := by
          show _ = _
          rw [← HP.out, pre_step q.natAbs (by omega), HT.out]
          simp
        rw [hv]
        have Hv := hide hv
        clear hv HP
        go_wp2
        go_roundw
        case rel => exact ⟨t, _, g', cap', rfl, by omega, by omega, rfl, unhide HC', hB1, hlt', HP'.out⟩
        case measure => simp [intOf]; have := HT.out; omega

theorem snum (n : Int) (w : World) (h0 : -9223372036854775808 ≤ n) (h1 : n ≤ 9223372036854775807) :
    Calls Tryz.prog 26 #[.int .i64 n] w fun e w' => e = .returned (.string ⟨(Lib.itoa n).toArray⟩) ∧ Below w.heap.size w w' := by
  by_cases h : n = 0
  · subst h
    refine (snum_zero w).mono ?_
    rintro e w' ⟨rfl, rfl⟩
    exact ⟨rfl, Below.refl _ _⟩
  · exact snum_any n w h0 h1 h

theorem below_grow (w : World) (k : Nat) (os : Array Obj) : Below w.heap.size w (Sort.grow (w.drewN k) os) :=
  ⟨rfl, rfl, rfl, by simp [Sort.grow], fun i hi => by simp only [Sort.grow]; rw [Array.getElem?_append_left (by exact hi)]; rfl⟩

def Tab (w : World) : Prop := Lib.TabIs Tryz.prog w "internal/strconv.uint64pow10" .u64 Lib.pow10Tab
theorem gTab : Tryz.prog.globalNamed "internal/strconv.uint64pow10" = some 5 := by kernel_rfl
theorem tTab : (Tryz.prog.globals[(5 : Nat)]?).map (·.type) = some 215 := by kernel_rfl
theorem Tab.lt {w : World} (h : Tab w) : 5 < w.heap.size := World.block_lt_of_cell? w _ (Lib.TabIs.cell h gTab 0 (by decide))
theorem Tab.below {w w' : World} (h : Tab w) (hb : Below w.heap.size w w') : Tab w' := var?_below hb gTab h.lt h
set_option maxHeartbeats 400000 in
theorem inum (n : Int) (w : World) (h0 : -9223372036854775808 ≤ n) (h1 : n ≤ 9223372036854775807) (hT : Tab w) :
    Calls Tryz.prog 52 #[.int .i64 n] w fun e w' => e = .returned (.string ⟨(Lib.itoa n).toArray⟩) ∧ Below w.heap.size w w' := by
  go_enter Tryz.func52, Tryz.ntmps52
  go_wp2_with fail
  refine (Tryz.strconv_Itoa n h0 h1 w hT).mono ?_
  rintro e w' ⟨rfl, k, os, rfl⟩
  go_wp2
  go_ret
  exact ⟨rfl, below_grow _ _ _⟩

end Go.Proofs.YtaojoamldoofpaaGreatDoor.Nu
/-
  Numbers as texts, each with a blank ahead: plain functions of lists.
-/
namespace Go.Proofs.YtaojoamldoofpaaGreatDoor.Mt
set_option maxRecDepth 20000
open Go.RowKit
set_option linter.unusedVariables false
theorem ba_ext {a b : ByteArray} (h : a.data.toList = b.data.toList) : a = b := by
  apply ByteArray.ext
  exact Array.toList_inj.1 h
theorem ba_size (l : List UInt8) : (ByteArray.mk l.toArray).size = l.length := by simp [ByteArray.size]
theorem bc_len (l : List UInt8) : (Lib.byteCells l).length = l.length := by simp [Lib.byteCells]
theorem cells_more (l : List UInt8) (s : ByteArray) : Lib.byteCells l ++ Lib.strCells s = Lib.byteCells (l ++ s.data.toList) := by simp [Lib.byteCells, Lib.strCells]
theorem ret_str {a b : ByteArray} (h : a = b) : Ending.returned (.string a) = .returned (.string b) := by rw [h]
def i64 (x : Int) : Prop := -9223372036854775808 ≤ x ∧ x ≤ 9223372036854775807
def nums (l : List Int) : List UInt8 := (l.map fun x => 32 :: Lib.itoa x).flatten
theorem nums_nil : nums [] = [] := rfl
theorem nums_cons (x : Int) (l : List Int) : nums (x :: l) = 32 :: Lib.itoa x ++ nums l := by simp [nums]
theorem nums_one (x : Int) : nums [x] = 32 :: Lib.itoa x := by simp [nums]
theorem nums_take (l : List Int) (k : Nat) (h : k < l.length) : nums (l.take (k + 1)) = nums (l.take k) ++ 32 :: Lib.itoa l[k] := by
  unfold nums
  rw [List.take_succ_eq_append_getElem h, List.map_append, List.flatten_append]
  simp
theorem nums_len : ∀ (l : List Int), (∀ x ∈ l, i64 x) → (nums l).length ≤ 22 * l.length
  | [], _ => by simp [nums]
  | x :: l, h => by
    have h1 := nums_len l (fun y hy => h y (by simp [hy]))
    have h2 := h x (by simp)
    have h3 := Nu.itoa_len x h2.1 h2.2
    rw [nums_cons]
    simp only [List.length_append, List.length_cons]
    omega
theorem take_mem {α : Type} {p : α → Prop} {l : List α} (h : ∀ t ∈ l, p t) (k : Nat) : ∀ t ∈ l.take k, p t := fun t ht => h t (List.mem_of_mem_take ht)
theorem isl_lit (w : World) (l : List Int) (T : TypeId) (b : Nat) (cs : Array Value) (hb : b = w.heap.size) (hc : cs = (l.map fun x => Value.int .i64 x).toArray) : Li.IsL (w.alloc (.cells cs T)) (some ⟨b, 0, none⟩) l := by
  subst hb; subst hc
  refine .inr ⟨w.heap.size, 0, rfl, by simp, fun j hj => ?_⟩
  rw [Nat.zero_add]
  have : (w.alloc (.cells (l.map fun x => Value.int .i64 x).toArray T)).heap[w.heap.size]? = some (.cells (l.map fun x => Value.int .i64 x).toArray T) := heap_alloc_new w _
  simp only [World.cell?, this]
  simp [hj]
end Go.Proofs.YtaojoamldoofpaaGreatDoor.Mt
/-
  Crc of the program and of the model: both are the sum of 32 bits, byte by byte, bit by bit.
-/
namespace Go.Proofs.YtaojoamldoofpaaGreatDoor.Cr
set_option maxRecDepth 100000
open Go.RowKit

/-! ### The sum, as plain numbers -/
def st (x : Nat) : Nat := if x % 2 = 1 then x / 2 ^^^ 3988292384 else x / 2
def sts : Nat → Nat → Nat
  | 0, x => x
  | k + 1, x => st (sts k x)
def byte (x : Nat) (c : UInt8) : Nat := sts 8 (x ^^^ c.toNat)
def crc (l : List UInt8) : Nat := l.foldl byte 4294967295 ^^^ 4294967295
theorem xor_lt {x y : Nat} (hx : x < 4294967296) (hy : y < 4294967296) : x ^^^ y < 4294967296 := Nat.xor_lt_two_pow (n := 32) hx hy
theorem st_lt {x : Nat} (h : x < 4294967296) : st x < 4294967296 := by
  unfold st
  split
  · exact xor_lt (by omega) (by omega)
  · omega
theorem sts_lt {x : Nat} (h : x < 4294967296) : ∀ k, sts k x < 4294967296
  | 0 => h
  | k + 1 => st_lt (sts_lt h k)
theorem byte_lt {x : Nat} (h : x < 4294967296) (c : UInt8) : byte x c < 4294967296 := sts_lt (xor_lt h (by have := c.toNat_lt; omega)) 8
theorem fold_lt : ∀ (l : List UInt8) {x : Nat}, x < 4294967296 → l.foldl byte x < 4294967296
  | [], _, h => h
  | c :: l, _, h => fold_lt l (byte_lt h c)
theorem crc_lt (l : List UInt8) : crc l < 4294967296 := xor_lt (fold_lt l (by omega)) (by omega)
theorem xor_i64 (a b : Nat) (ha : a < 4294967296) (hb : b < 4294967296) : bits .xor .i64 (a : Int) (b : Int) = ((a ^^^ b : Nat) : Int) := by
  have hx : a ^^^ b < 4294967296 := xor_lt ha hb
  show IntKind.i64.wrap ((BitVec.ofInt 64 (a : Int) ^^^ BitVec.ofInt 64 (b : Int)).toNat : Int) = _
  rw [BitVec.toNat_xor, BitVec.ofInt_natCast, BitVec.toNat_ofNat, BitVec.ofInt_natCast, BitVec.toNat_ofNat, Nat.mod_eq_of_lt (by omega), Nat.mod_eq_of_lt (by omega), IntKind.wrap_i64]
  omega
theorem xor_u32 (a b : Nat) (ha : a < 4294967296) (hb : b < 4294967296) : bits .xor .u32 (a : Int) (b : Int) = ((a ^^^ b : Nat) : Int) := u32_xor_nat a b ha hb
theorem take_snoc (s : ByteArray) (k : Nat) (h : k < s.size) : s.data.toList.take (k + 1) = s.data.toList.take k ++ [s[k]] := by
  rw [List.take_succ_eq_append_getElem (by simpa using h)]; rfl
def upto (s : ByteArray) (k : Nat) : Nat := (s.data.toList.take k).foldl byte 4294967295
theorem upto_snoc (s : ByteArray) (k : Nat) (h : k < s.size) : upto s (k + 1) = sts 8 (upto s k ^^^ (s[k]).toNat) := by
  unfold upto; rw [take_snoc s k h, List.foldl_append]; rfl
theorem upto_lt (s : ByteArray) (k : Nat) : upto s k < 4294967296 := fold_lt _ (by omega)
theorem upto_all (s : ByteArray) : upto s s.size ^^^ 4294967295 = crc s.data.toList := by
  unfold upto crc
  rw [List.take_of_length_le (by simp)]

/-! ### The model's -/
set_option maxHeartbeats 4000000 in
theorem scrc (s : ByteArray) (w : World) (hs : s.size ≤ 1048576) :
    Calls Tryz.prog 16 #[.string s] w fun e w' => e = .returned (.int .i64 (crc s.data.toList : Nat)) ∧ w' = w := by
  go_enter Tryz.func16, Tryz.ntmps16
  go_wp2
  go_loop [3, 4] (fun x i => ∃ k : Nat, k ≤ s.size ∧ i = .int .i64 k ∧ x = .int .i64 (upto s k : Nat)) (fun _ i => s.size - (intOf i).toNat)
  case atStart => exact ⟨0, Nat.zero_le _, rfl, rfl⟩
  case round =>
    obtain ⟨k, hk, rfl, rfl⟩ := hrel
    have hu := upto_lt s k
    by_cases hlt : k < s.size
    · have HN : Hid (upto s (k + 1) = sts 8 (upto s k ^^^ (s[k]).toNat)) := upto_snoc s k hlt
      obtain ⟨u, hu0⟩ : ∃ u, upto s k = u := ⟨_, rfl⟩
      rw [hu0] at HN hu ⊢
      clear hu0
      have hc : (s[k]).toNat < 256 := (s[k]).toNat_lt
      have hx := xor_i64 u (s[k]).toNat hu (by omega)
      obtain ⟨y, hy0⟩ : ∃ y, u ^^^ (s[k]).toNat = y := ⟨_, rfl⟩
      have hy : y < 4294967296 := by rw [← hy0]; exact xor_lt hu (by omega)
      rw [hy0] at HN hx
      clear hy0
      go_wp2
      go_loop [3, 5] (fun x i => ∃ m : Nat, m ≤ 8 ∧ i = .int .i64 m ∧ x = .int .i64 (sts m y : Nat)) (fun _ i => 8 - (intOf i).toNat)
      case atStart => exact ⟨0, Nat.zero_le _, rfl, rfl⟩
      case round =>
        obtain ⟨m, hm, rfl, rfl⟩ := hrel
        have hz := sts_lt hy m
        have HS : Hid (sts (m + 1) y = st (sts m y)) := rfl
        by_cases hml : m < 8
        · obtain ⟨z, hz0⟩ : ∃ z, sts m y = z := ⟨_, rfl⟩
          rw [hz0] at HS hz ⊢
          clear hz0
          by_cases hodd : z % 2 = 1
          · have e1 : ((z : Int) % 2 == 1) = true := by simp; omega
            have e2 : bits .xor .i64 ((z : Int) / 2) 3988292384 = ((z / 2 ^^^ 3988292384 : Nat) : Int) := by
              have := xor_i64 (z / 2) 3988292384 (by omega) (by omega)
              simpa using this
            have HT : Hid (sts (m + 1) y = z / 2 ^^^ 3988292384) := by show _ = _; rw [HS.out]; unfold st; rw [if_pos hodd]
            clear hodd
            go_wp2
            go_round
            case rel => exact ⟨m + 1, by omega, by go_num, by rw [HT.out]⟩
            case measure => simp [intOf]; omega
          · have e1 : ((z : Int) % 2 == 1) = false := by simp; omega
            have HT : Hid (sts (m + 1) y = z / 2) := by show _ = _; rw [HS.out]; unfold st; rw [if_neg hodd]
            clear hodd
            go_wp2
            go_round
            case rel => exact ⟨m + 1, by omega, by go_num, by rw [HT.out]; go_num⟩
            case measure => simp [intOf]; omega
        · obtain rfl : m = 8 := by omega
          go_wp2
          go_round
          case rel => exact ⟨k + 1, by omega, by go_num, by rw [HN.out]⟩
          case measure => simp [intOf]; omega
    · obtain rfl : k = s.size := by omega
      have HA : Hid (upto s s.size ^^^ 4294967295 = crc s.data.toList) := upto_all s
      obtain ⟨u, hu0⟩ : ∃ u, upto s s.size = u := ⟨_, rfl⟩
      rw [hu0] at HA hu ⊢
      clear hu0
      have hx : bits .xor .i64 (u : Int) 4294967295 = ((u ^^^ 4294967295 : Nat) : Int) := by simpa using xor_i64 u 4294967295 hu (by omega)
      go_wp2
      go_ret
      exact ⟨by rw [HA.out]; rfl, rfl⟩

/-! ### The program's -/
set_option maxHeartbeats 4000000 in
theorem ishift (x : Nat) (w : World) (hx : x < 4294967296) :
    Calls Tryz.prog 40 #[.int .u32 (x : Nat)] w fun e w' => e = .returned (.int .u32 (st x : Nat)) ∧ w' = w := by
  have h1 : bits .and .u32 (x : Int) 1 = ((x % 2 : Nat) : Int) := by
    have := u32_and_nat x 1 hx (by omega)
    rw [nat_mask1] at this
    simpa using this
  have h2 : bits .xor .u32 ((x : Int) / 2) 3988292384 = ((x / 2 ^^^ 3988292384 : Nat) : Int) := by simpa using xor_u32 (x / 2) 3988292384 (by omega) (by omega)
  have HS : Hid (st x = if x % 2 = 1 then x / 2 ^^^ 3988292384 else x / 2) := rfl
  by_cases hodd : x % 2 = 1
  · rw [hodd] at h1
    rw [if_pos hodd] at HS
    clear hodd
    go_enter Tryz.func40, Tryz.ntmps40
    go_wp2
    go_ret
    exact ⟨by rw [HS.out]; rfl, rfl⟩
  · rw [show x % 2 = 0 by omega] at h1
    rw [if_neg hodd] at HS
    clear hodd
    go_enter Tryz.func40, Tryz.ntmps40
    go_wp2
    go_ret
    exact ⟨by rw [HS.out]; rfl, rfl⟩

set_option maxHeartbeats 4000000 in
theorem icrc (s : ByteArray) (w : World) (hs : s.size ≤ 1048576) :
    Calls Tryz.prog 15 #[.string s] w fun e w' => e = .returned (.int .i64 (crc s.data.toList : Nat)) ∧ w' = w := by
  go_enter Tryz.func15, Tryz.ntmps15
  go_wp2
  go_loop [3, 7] (fun x i => ∃ k : Nat, k ≤ s.size ∧ i = .int .i64 k ∧ x = .int .u32 (upto s k : Nat)) (fun _ i => s.size - (intOf i).toNat)
  case atStart => exact ⟨0, Nat.zero_le _, rfl, rfl⟩
  case round =>
    obtain ⟨k, hk, rfl, rfl⟩ := hrel
    have hu := upto_lt s k
    by_cases hlt : k < s.size
    · have HN : Hid (upto s (k + 1) = sts 8 (upto s k ^^^ (s[k]).toNat)) := upto_snoc s k hlt
      obtain ⟨u, hu0⟩ : ∃ u, upto s k = u := ⟨_, rfl⟩
      rw [hu0] at HN hu ⊢
      clear hu0
      have hc : (s[k]).toNat < 256 := (s[k]).toNat_lt
      have hx := xor_u32 u (s[k]).toNat hu (by omega)
      obtain ⟨y, hy0⟩ : ∃ y, u ^^^ (s[k]).toNat = y := ⟨_, rfl⟩
      have hy : y < 4294967296 := by rw [← hy0]; exact xor_lt hu (by omega)
      rw [hy0] at HN hx
      clear hy0
      go_wp2
      go_loop [3, 16] (fun x i => ∃ m : Nat, m ≤ 8 ∧ i = .int .i64 m ∧ x = .int .u32 (sts m y : Nat)) (fun _ i => 8 - (intOf i).toNat)
      case atStart => exact ⟨0, Nat.zero_le _, rfl, rfl⟩
      case round =>
        obtain ⟨m, hm, rfl, rfl⟩ := hrel
        have hz := sts_lt hy m
        have HS : Hid (sts (m + 1) y = st (sts m y)) := rfl
        by_cases hml : m < 8
        · obtain ⟨z, hz0⟩ : ∃ z, sts m y = z := ⟨_, rfl⟩
          rw [hz0] at HS hz ⊢
          clear hz0
          go_wp2_with (go_at_call 40; refine (ishift _ _ hz).mono ?_; rintro e w' ⟨rfl, hw⟩; subst w')
          go_round
          case rel => exact ⟨m + 1, by omega, by go_num, by rw [HS.out]⟩
          case measure => simp [intOf]; omega
        · obtain rfl : m = 8 := by omega
          go_wp2
          go_round
          case rel => exact ⟨k + 1, by omega, by go_num, by rw [HN.out]⟩
          case measure => simp [intOf]; omega
    · obtain rfl : k = s.size := by omega
      have HA : Hid (upto s s.size ^^^ 4294967295 = crc s.data.toList) := upto_all s
      obtain ⟨u, hu0⟩ : ∃ u, upto s s.size = u := ⟨_, rfl⟩
      rw [hu0] at HA hu ⊢
      clear hu0
      have hx : bits .xor .u32 (u : Int) 4294967295 = ((u ^^^ 4294967295 : Nat) : Int) := by simpa using xor_u32 u 4294967295 hu (by omega)
      have hl : u ^^^ 4294967295 < 4294967296 := xor_lt hu (by omega)
      obtain ⟨z, hz0⟩ : ∃ z, u ^^^ 4294967295 = z := ⟨_, rfl⟩
      rw [hz0] at HA hl hx
      clear hz0
      go_wp2
      go_ret
      exact ⟨by rw [← HA.out]; rfl, rfl⟩
end Go.Proofs.YtaojoamldoofpaaGreatDoor.Cr
/-
  The text of a model: plain functions of lists.
-/
namespace Go.Proofs.YtaojoamldoofpaaGreatDoor.Mt
set_option maxRecDepth 20000
open Go.RowKit
open Go.Proofs.YtaojoamldoofpaaGreatDoor.Md (M mok mok_parts kok kok_parts)
open Go.Proofs.YtaojoamldoofpaaGreatDoor.Kt (Kv)
set_option linter.unusedVariables false

def wline (v : Int) (s : ByteArray) : List UInt8 := Lib.itoa v ++ (32 :: s.data.toList ++ [10])
def wlines : List Int → List ByteArray → List UInt8
  | v :: vs, s :: ss => wline v s ++ wlines vs ss
  | _, _ => []
def head (m : M) : List UInt8 := [109, 111, 100, 101, 108] ++ nums [m.n, m.c, m.prior, m.base] ++ [10]
def ctxt (t : Kv) : List UInt8 := [99, 116, 114] ++ nums [(t.ws.length : Int)] ++ [10] ++ wlines t.vs t.ws
def spt (ps : List (Int × Int)) : List UInt8 := (ps.map fun p => nums [p.1, p.2]).flatten
def ttxt (t : Tr.T) : List UInt8 := [116, 114, 101, 101] ++ spt t.sp ++ ([32, 58] ++ nums t.lv ++ [10])
def ctxts (ks : List Kv) : List UInt8 := (ks.map ctxt).flatten
def ttxts (ts : List Tr.T) : List UInt8 := (ts.map ttxt).flatten
def body (m : M) : List UInt8 := head m ++ ctxts m.ks ++ ttxts m.ts
def whole (m : M) : List UInt8 := body m ++ ([115, 117, 109] ++ nums [(Cr.crc (body m) : Int)] ++ [10])
def hasLf (s : ByteArray) : Bool := s.data.toList.contains 10
def anyLf (ks : List Kv) : Bool := ks.any fun t => t.ws.any hasLf
def mtext (m : M) : List UInt8 := if mok m = true ∧ anyLf m.ks = false then whole m else []

theorem wline_len (v : Int) (s : ByteArray) (h : i64 v) (hs : s.size ≤ 25) : (wline v s).length ≤ 48 := by
  have h3 := Nu.itoa_len v h.1 h.2
  unfold wline
  simp only [List.length_append, List.length_cons, List.length_nil, Array.length_toList]
  have : s.data.size = s.size := rfl
  omega
theorem wlines_len : ∀ (vs : List Int) (ss : List ByteArray), (∀ x ∈ vs, i64 x) → (∀ s ∈ ss, s.size ≤ 25) → (wlines vs ss).length ≤ 48 * ss.length
  | [], ss, _, _ => by simp [wlines]
  | v :: vs, [], _, _ => by simp [wlines]
  | v :: vs, s :: ss, h, hs => by
    have h1 := wlines_len vs ss (fun y hy => h y (by simp [hy])) (fun y hy => hs y (by simp [hy]))
    have h2 := wline_len v s (h v (by simp)) (hs s (by simp))
    simp only [wlines, List.length_append, List.length_cons]
    omega
theorem wlines_take : ∀ (vs : List Int) (ss : List ByteArray) (k : Nat) (h : k < ss.length) (h' : k < vs.length), wlines (vs.take (k + 1)) (ss.take (k + 1)) = wlines (vs.take k) (ss.take k) ++ wline vs[k] ss[k]
  | v :: vs, s :: ss, 0, _, _ => by simp [wlines]
  | v :: vs, s :: ss, k + 1, h, h' => by
    have := wlines_take vs ss k (by simpa using h) (by simpa using h')
    simp only [List.take_succ_cons, wlines, List.getElem_cons_succ, this, List.append_assoc]
theorem spt_take (l : List (Int × Int)) (k : Nat) (h : k < l.length) : spt (l.take (k + 1)) = spt (l.take k) ++ nums [l[k].1, l[k].2] := by
  unfold spt
  rw [List.take_succ_eq_append_getElem h, List.map_append, List.flatten_append]
  simp
theorem spt_len : ∀ (l : List (Int × Int)), (∀ p ∈ l, i64 p.1 ∧ i64 p.2) → (spt l).length ≤ 44 * l.length
  | [], _ => by simp [spt]
  | p :: l, h => by
    have h1 := spt_len l (fun y hy => h y (by simp [hy]))
    have h2 := h p (by simp)
    have h3 := nums_len [p.1, p.2] (by intro x hx; simp at hx; rcases hx with rfl | rfl; exact h2.1; exact h2.2)
    unfold spt at h1 ⊢
    simp only [List.map_cons, List.flatten_cons, List.length_append, List.length_cons, List.length_nil] at h3 ⊢
    omega
theorem ctxts_take (l : List Kv) (k : Nat) (h : k < l.length) : ctxts (l.take (k + 1)) = ctxts (l.take k) ++ ctxt l[k] := by
  unfold ctxts
  rw [List.take_succ_eq_append_getElem h, List.map_append, List.flatten_append]
  simp
theorem ttxts_take (l : List Tr.T) (k : Nat) (h : k < l.length) : ttxts (l.take (k + 1)) = ttxts (l.take k) ++ ttxt l[k] := by
  unfold ttxts
  rw [List.take_succ_eq_append_getElem h, List.map_append, List.flatten_append]
  simp
theorem fok_i64 {x : Int} (h : Bo.fok x = true) : i64 x := by
  have : -1000000000 ≤ x ∧ x ≤ 1000000000 := by simpa [Bo.fok] using h
  unfold i64; omega
theorem aok_i64 {l : List Int} (h : Bo.aok l = true) : ∀ x ∈ l, i64 x := by
  intro x hx
  exact fok_i64 (List.all_eq_true.1 h x hx)
def Kn (t : Kv) : Prop := t.ws.length ≤ 40 ∧ t.vs.length = t.ws.length ∧ (∀ x ∈ t.vs, i64 x) ∧ ∀ s ∈ t.ws, s.size ≤ 25
theorem kok_kn {t : Kv} (h : kok t = true) : Kn t := by
  obtain ⟨h1, h2, h3, h4, _⟩ := kok_parts h
  refine ⟨h1, h2, aok_i64 h3, fun s hs => ?_⟩
  have := List.all_eq_true.1 h4 s hs
  unfold Md.cwok at this
  have := of_decide_eq_true this
  omega
def Tn (t : Tr.T) : Prop := t.sp.length ≤ 4 ∧ t.lv.length ≤ 16 ∧ (∀ p ∈ t.sp, i64 p.1 ∧ i64 p.2) ∧ ∀ x ∈ t.lv, i64 x
theorem tok_tn {t : Tr.T} (h : Tr.tok t = true) : Tn t := by
  obtain ⟨⟨h1, h2⟩, h3, h4⟩ := Tr.tok_iff.1 h
  refine ⟨h1, ?_, fun p hp => ?_, aok_i64 h4⟩
  · rw [h2]
    have := Nat.pow_le_pow_right (n := 2) (by omega) h1
    simpa using this
  · have := List.all_eq_true.1 h3 p hp
    unfold Tr.spok at this
    simp only [Bool.and_eq_true, decide_eq_true_eq] at this
    exact ⟨by unfold i64; omega, fok_i64 this.2⟩
structure Mn (m : M) : Prop where
  h : ∀ x ∈ [m.n, m.c, m.prior, m.base], i64 x
  k : m.ks.length ≤ 3
  t : m.ts.length ≤ 12
  ks : ∀ t ∈ m.ks, Kn t
  ts : ∀ t ∈ m.ts, Tn t
theorem mok_mn {m : M} (h : mok m = true) : Mn m := by
  obtain ⟨h1, h2, h3, h4, h5, h6, h7⟩ := mok_parts h
  obtain ⟨s0, s1, s2⟩ := Tk.sok_iff.1 h1
  refine ⟨?_, ?_, h4, fun t ht => kok_kn (List.all_eq_true.1 h7 t ht), fun t ht => tok_tn (List.all_eq_true.1 h6 t ht)⟩
  · have hp : -1000000 ≤ m.prior ∧ m.prior ≤ 1000000 := by simpa [Li.btw] using h2
    intro x hx
    simp at hx
    rcases hx with rfl | rfl | rfl | rfl
    · unfold i64; omega
    · unfold i64; omega
    · unfold i64; omega
    · exact fok_i64 h3
  · unfold Md.ncol at h5
    split at h5 <;> omega
theorem head_len {m : M} (h : Mn m) : (head m).length ≤ 94 := by
  have := nums_len _ h.h
  unfold head
  simp only [List.length_append, List.length_cons, List.length_nil] at this ⊢
  omega
theorem ctxt_len {t : Kv} (h : Kn t) : (ctxt t).length ≤ 1946 := by
  obtain ⟨h1, h2, h3, h4⟩ := h
  have := nums_len [(t.ws.length : Int)] (by intro x hx; simp at hx; subst hx; unfold i64; omega)
  have h5 := wlines_len t.vs t.ws h3 h4
  unfold ctxt
  simp only [List.length_append, List.length_cons, List.length_nil] at this ⊢
  omega
theorem ttxt_len {t : Tr.T} (h : Tn t) : (ttxt t).length ≤ 535 := by
  obtain ⟨h1, h2, h3, h4⟩ := h
  have := nums_len t.lv h4
  have h5 := spt_len t.sp h3
  unfold ttxt
  simp only [List.length_append, List.length_cons, List.length_nil]
  omega
theorem flat_len {α : Type} (f : α → List UInt8) (n : Nat) : ∀ (l : List α), (∀ t ∈ l, (f t).length ≤ n) → ((l.map f).flatten).length ≤ n * l.length
  | [], _ => by simp
  | t :: l, h => by
    have h1 := flat_len f n l (fun y hy => h y (by simp [hy]))
    have h2 := h t (by simp)
    simp only [List.map_cons, List.flatten_cons, List.length_append, List.length_cons, Nat.mul_add]
    omega
theorem ctxts_len {l : List Kv} (hl : l.length ≤ 3) (h : ∀ t ∈ l, Kn t) : (ctxts l).length ≤ 5838 := by
  have := flat_len ctxt 1946 l (fun t ht => ctxt_len (h t ht))
  unfold ctxts
  omega
theorem ttxts_len {l : List Tr.T} (hl : l.length ≤ 12) (h : ∀ t ∈ l, Tn t) : (ttxts l).length ≤ 6420 := by
  have := flat_len ttxt 535 l (fun t ht => ttxt_len (h t ht))
  unfold ttxts
  omega
theorem body_len {m : M} (h : Mn m) : (body m).length ≤ 12352 := by
  have h1 := head_len h
  have h2 := ctxts_len h.k h.ks
  have h3 := ttxts_len h.t h.ts
  unfold body
  simp only [List.length_append]
  omega
theorem crc_i64 (l : List UInt8) : i64 (Cr.crc l : Int) := by have := Cr.crc_lt l; unfold i64; omega
theorem whole_len {m : M} (h : Mn m) : (whole m).length ≤ 12400 := by
  have h1 := body_len h
  have := nums_len [(Cr.crc (body m) : Int)] (by intro x hx; simp at hx; subst hx; exact crc_i64 _)
  unfold whole
  simp only [List.length_append, List.length_cons, List.length_nil] at this ⊢
  omega
theorem any_yes {α : Type} {p : α → Bool} {xs : List α} {k : Nat} (hk : k < xs.length) (h : p xs[k] = true) : xs.any p = true := by
  rw [List.any_eq_true]; exact ⟨xs[k], List.getElem_mem hk, h⟩
theorem any_no {α : Type} {p : α → Bool} {xs : List α} (h : ∀ j (hj : j < xs.length), p xs[j] = false) : xs.any p = false := by
  rw [List.any_eq_false]; intro x hx; obtain ⟨j, hj, rfl⟩ := List.getElem_of_mem hx; rw [h j hj]; simp
theorem at_snoc {α : Type} {p : α → Bool} {xs : List α} {k : Nat} (h : ∀ j (hj : j < xs.length), j < k → p xs[j] = false) (hk : k < xs.length) (h1 : p xs[k] = false) : ∀ j (hj : j < xs.length), j < k + 1 → p xs[j] = false := by
  intro j hj hjk
  by_cases e : j = k
  · subst e; exact h1
  · exact h j hj (by omega)
theorem mtext_no {m : M} (h : mok m = false) : mtext m = [] := by unfold mtext; rw [if_neg (by rw [h]; simp)]
theorem mtext_lf {m : M} (h : anyLf m.ks = true) : mtext m = [] := by unfold mtext; rw [if_neg (by rw [h]; simp)]
theorem mtext_yes {m : M} (h : mok m = true) (h' : anyLf m.ks = false) : mtext m = whole m := by unfold mtext; rw [if_pos ⟨h, h'⟩]
end Go.Proofs.YtaojoamldoofpaaGreatDoor.Mt
/-
  Plain lists of bytes: the numeral with a point, what a scan of its digits gives, and what is left of it without the point. No program stands in this text.
-/
namespace Go.Proofs.YtaojoamldoofpaaGreatDoor.Ma
open Go.Lib

def isDig (c : UInt8) : Prop := 48 ≤ c.toNat ∧ c.toNat ≤ 57
def step (n : Nat) (c : UInt8) : Nat := if 48 ≤ c.toNat ∧ c.toNat ≤ 57 then 10 * n + (c.toNat - 48) else n
theorem dig_of (k : Nat) (h : k < 10) : (UInt8.ofNat (48 + k)).toNat = 48 + k := by rw [UInt8.toNat_ofNat']; omega
theorem isDig_of (k : Nat) (h : k < 10) : isDig (UInt8.ofNat (48 + k)) := by unfold isDig; rw [dig_of k h]; omega
theorem step_of (n k : Nat) (h : k < 10) : step n (UInt8.ofNat (48 + k)) = 10 * n + k := by
  have hd := isDig_of k h
  unfold isDig at hd
  unfold step; rw [if_pos hd, dig_of k h]; omega

theorem dec_all (u : Nat) : ∀ c ∈ decDigits u, isDig c := by
  induction u using Nat.strongRecOn with
  | _ u ih =>
    rw [decDigits]
    split
    · intro c hc; rw [List.mem_singleton] at hc; subst hc; exact isDig_of u ‹_›
    · intro c hc
      rcases List.mem_append.1 hc with h | h
      · exact ih (u / 10) (by omega) c h
      · rw [List.mem_singleton] at h; subst h; exact isDig_of (u % 10) (by omega)
theorem dec_scan (u : Nat) : (decDigits u).foldl step 0 = u := by
  induction u using Nat.strongRecOn with
  | _ u ih =>
    rw [decDigits]
    split
    · rw [List.foldl_cons, List.foldl_nil, step_of 0 u ‹_›]; omega
    · rw [List.foldl_append, ih (u / 10) (by omega)]
      simp only [List.foldl_cons, List.foldl_nil]
      rw [step_of _ _ (by omega)]; omega
theorem step_le (n : Nat) (c : UInt8) : n ≤ step n c := by unfold step; split <;> omega
theorem scan_le : ∀ (l : List UInt8) (n : Nat), n ≤ l.foldl step n
  | [], _ => Nat.le_refl _
  | c :: l, n => Nat.le_trans (step_le n c) (scan_le l _)
theorem parse_ok : ∀ (l : List UInt8) (n : Nat), (∀ c ∈ l, isDig c) → l.foldl step n ≤ 1000000000000000 → parseUint10 n l = .ok (l.foldl step n)
  | [], n, _, _ => rfl
  | c :: l, n, h, hb => by
    have hc : isDig c := h c (by simp)
    unfold isDig at hc
    have e : step n c = n * 10 + (c.toNat - 48) := by unfold step; rw [if_pos hc]; omega
    rw [List.foldl_cons] at hb ⊢
    have h1 := scan_le l (step n c)
    rw [parseUint10, if_pos hc, if_neg (by omega), if_neg (by omega), ← e]
    exact parse_ok l _ (fun c' hc' => h c' (by simp [hc'])) hb
theorem dec_ne (u : Nat) : decDigits u ≠ [] := by
  intro h
  have := decDigits_length u
  rw [h] at this
  have := nDigits_pos u
  simp at *
  omega
/-! ### The point struck -/
end Go.Proofs.YtaojoamldoofpaaGreatDoor.Ma
/-
  What stands between the signs of a text: plain functions of lists.
-/
namespace Go.Proofs.YtaojoamldoofpaaGreatDoor.Pc
set_option maxRecDepth 100000
open Go.RowKit

def pieces (c : UInt8) : List UInt8 → List (List UInt8)
  | [] => [[]]
  | x :: r => if x = c then [] :: pieces c r else (x :: (pieces c r).headD []) :: (pieces c r).tail
theorem pieces_ne (c : UInt8) (l : List UInt8) : pieces c l ≠ [] := by cases l <;> simp [pieces]; split <;> simp
theorem pieces_no (c : UInt8) : ∀ (l : List UInt8), c ∉ l → pieces c l = [l]
  | [], _ => rfl
  | x :: r, h => by
    have h1 : ¬ x = c := fun e => h (by rw [e]; simp)
    have h2 : c ∉ r := fun e => h (by simp [e])
    simp [pieces, h1, pieces_no c r h2]
theorem pieces_cut (c : UInt8) (r : List UInt8) : ∀ (a : List UInt8), c ∉ a → pieces c (a ++ c :: r) = a :: pieces c r
  | [], _ => by simp [pieces]
  | x :: a, h => by
    have h1 : ¬ x = c := fun e => h (by rw [e]; simp)
    have h2 : c ∉ a := fun e => h (by simp [e])
    simp [pieces, h1, pieces_cut c r a h2]
theorem first_cut (c : UInt8) : ∀ (l : List UInt8), c ∉ l ∨ ∃ a r, l = a ++ c :: r ∧ c ∉ a
  | [] => .inl (by simp)
  | x :: l => by
    by_cases h : x = c
    · exact .inr ⟨[], l, by simp [h], by simp⟩
    · rcases first_cut c l with h' | ⟨a, r, e, h'⟩
      · exact .inl (by simp; exact ⟨fun e => h e.symm, h'⟩)
      · exact .inr ⟨x :: a, r, by rw [e]; rfl, by simp; exact ⟨fun e => h e.symm, h'⟩⟩
theorem index_no (c : UInt8) : ∀ (l : List UInt8), c ∉ l → Lib.index l [c] = -1
  | [], _ => rfl
  | x :: l, h => by
    have h1 : ¬ c = x := fun e => h (by rw [e]; simp)
    have h2 : c ∉ l := fun e => h (by simp [e])
    rw [Lib.index, index_no c l h2]
    simp [h1]
theorem index_at (c : UInt8) (r : List UInt8) : ∀ (a : List UInt8), c ∉ a → Lib.index (a ++ c :: r) [c] = a.length
  | [], _ => by simp [Lib.index]
  | x :: a, h => by
    have h1 : ¬ c = x := fun e => h (by rw [e]; simp)
    have h2 : c ∉ a := fun e => h (by simp [e])
    rw [List.cons_append, Lib.index, index_at c r a h2, if_neg (by simp [h1]), if_neg (by simp)]
    simp
theorem split_pieces (c : UInt8) : ∀ (k : Nat) (l : List UInt8), l.length ≤ k → Lib.splitK [c] 0 (Lib.count l [c]) l = pieces c l := by
  intro k
  induction k with
  | zero =>
    intro l h
    obtain rfl : l = [] := List.length_eq_zero_iff.1 (by omega)
    rw [Lib.count_miss (index_no c [] (by simp))]; rfl
  | succ k ih =>
    intro l h
    rcases first_cut c l with hn | ⟨a, r, rfl, hn⟩
    · rw [Lib.count_miss (index_no c l hn), pieces_no c l hn]; rfl
    · have hi := index_at c r a hn
      rw [Lib.count_hit (by simp) hi, Nat.add_comm, Lib.splitK, if_neg (by rw [hi]; simp), hi, pieces_cut c r a hn]
      have e1 : (a ++ c :: r).take ((a.length : Int).toNat + 0) = a := by simp
      have e2 : (a ++ c :: r).drop ((a.length : Int).toNat + [c].length) = r := by simp
      have e3 : (a ++ c :: r).drop (a.length + [c].length) = r := by simp
      rw [e1, e2, e3, ih r (by simp at h; omega)]
theorem cut_no (c : UInt8) (l : List UInt8) (h : c ∉ l) : Lib.cut l [c] = (l, [], false) := by
  unfold Lib.cut; rw [index_no c l h, if_neg (by omega)]
theorem cut_at (c : UInt8) (a r : List UInt8) (h : c ∉ a) : Lib.cut (a ++ c :: r) [c] = (a, r, true) := by
  unfold Lib.cut; rw [index_at c r a h, if_pos (by omega)]; simp
def ba (l : List UInt8) : ByteArray := ⟨l.toArray⟩
theorem ba_data (l : List UInt8) : (ba l).data.toList = l := by simp [ba]
theorem ba_of (s : ByteArray) : ba s.data.toList = s := by obtain ⟨⟨l⟩⟩ := s; rfl
theorem ba_size (l : List UInt8) : (ba l).size = l.length := by simp [ba, ByteArray.size]
def pcs (c : UInt8) (l : List UInt8) : List ByteArray := (pieces c l).map ba
theorem splitB_pcs (c : UInt8) (s : ByteArray) : Lib.splitB ⟨#[c]⟩ 0 (Lib.countB s ⟨#[c]⟩) s = pcs c s.data.toList := by
  have h := Lib.splitB_data ⟨#[c]⟩ 0 (Lib.countB s ⟨#[c]⟩) s
  have h2 : Lib.splitK [c] 0 (Lib.countB s ⟨#[c]⟩) s.data.toList = pieces c s.data.toList := split_pieces c _ s.data.toList (Nat.le_refl _)
  rw [show (ByteArray.mk #[c]).data.toList = [c] from rfl, h2] at h
  unfold pcs
  rw [← h, List.map_map]
  conv => lhs; rw [← List.map_id (Lib.splitB ⟨#[c]⟩ 0 (Lib.countB s ⟨#[c]⟩) s)]
  apply List.map_congr_left
  intro x _
  exact (ba_of x).symm
/-! ### A row out of its parts -/
end Go.Proofs.YtaojoamldoofpaaGreatDoor.Pc
/-
  Numbers between blanks, as the program reads them: plain functions of lists.
-/
namespace Go.Proofs.YtaojoamldoofpaaGreatDoor.Rm
set_option maxRecDepth 20000
open Go.Proofs.YtaojoamldoofpaaGreatDoor.Mt (nums nums_cons nums_nil i64)
set_option linter.unusedVariables false
def num (f : List UInt8) : Option Int := match Lib.atoiAll f with
  | .ok v => some v
  | _ => none
def numL : List (List UInt8) → Option (List Int)
  | [] => some []
  | f :: fs => match num f, numL fs with
    | some v, some vs => some (v :: vs)
    | _, _ => none
def inums (l : List UInt8) : Option (List Int) := numL (Lib.fieldsD l)
/-! ### Numbers -/
theorem itoa_chars (x : Int) : ∀ c ∈ Lib.itoa x, c = 45 ∨ Ma.isDig c := by
  intro c hc
  unfold Lib.itoa at hc
  split at hc
  · rcases List.mem_cons.1 hc with h | h
    · exact .inl h
    · exact .inr (Ma.dec_all _ c h)
  · exact .inr (Ma.dec_all _ c hc)
theorem itoa_ne (x : Int) : Lib.itoa x ≠ [] := by
  unfold Lib.itoa
  split
  · simp
  · exact Ma.dec_ne _
theorem dig_facts {c : UInt8} (h : c = 45 ∨ Ma.isDig c) : Lib.isSp c = false ∧ c.toNat < 128 ∧ c ≠ 10 ∧ c ≠ 32 ∧ c ≠ 58 := by
  have : c.toNat = 45 ∨ (48 ≤ c.toNat ∧ c.toNat ≤ 57) := by
    rcases h with rfl | h
    · exact .inl rfl
    · exact .inr h
  have ne : ∀ k : Nat, k < 45 ∨ (k = 46 ∨ k = 47 ∨ 57 < k) → k < 256 → ¬ c = UInt8.ofNat k := fun k hk hl e => by
    have : c.toNat = k := by rw [e, UInt8.toNat_ofNat']; omega
    omega
  refine ⟨?_, by omega, ne 10 (by omega) (by omega), ne 32 (by omega) (by omega), ne 58 (by omega) (by omega)⟩
  unfold Lib.isSp
  simp only [Bool.or_eq_false_iff, beq_eq_false_iff_ne, ne_eq]
  exact ⟨⟨⟨⟨⟨ne 9 (by omega) (by omega), ne 10 (by omega) (by omega)⟩, ne 11 (by omega) (by omega)⟩, ne 12 (by omega) (by omega)⟩, ne 13 (by omega) (by omega)⟩, ne 32 (by omega) (by omega)⟩
theorem num_itoa {x : Int} (h : -1000000000000 ≤ x ∧ x ≤ 1000000000000) : num (Lib.itoa x) = some x := by
  have hp : ∀ u : Nat, u ≤ 1000000000000 → Lib.parseMag (Lib.decDigits u) = .ok u := fun u hu => by
    have h1 := Ma.parse_ok (Lib.decDigits u) 0 (Ma.dec_all u) (by rw [Ma.dec_scan]; omega)
    rw [Ma.dec_scan] at h1
    unfold Lib.parseMag
    rw [if_neg (Ma.dec_ne u)]
    exact h1
  have hd : ∀ u : Nat, ∃ c r, Lib.decDigits u = c :: r ∧ c.toNat ≠ 43 ∧ c.toNat ≠ 45 := fun u => by
    cases hq : Lib.decDigits u with
    | nil => exact absurd hq (Ma.dec_ne u)
    | cons c r =>
      have := Ma.dec_all u c (by rw [hq]; simp)
      unfold Ma.isDig at this
      exact ⟨c, r, rfl, by omega, by omega⟩
  unfold num
  by_cases hn : x < 0
  · have e : Lib.itoa x = 45 :: Lib.decDigits x.natAbs := by unfold Lib.itoa; rw [if_pos hn]
    rw [e, Lib.atoiAll_minus, hp _ (by omega)]
    have e2 : Lib.signed (.ok x.natAbs) = .ok (-(x.natAbs : Int)) := if_neg (by omega)
    rw [e2]
    show some (-(x.natAbs : Int)) = some x
    congr 1
    omega
  · have e : Lib.itoa x = Lib.decDigits x.toNat := by unfold Lib.itoa; rw [if_neg hn]
    obtain ⟨c, r, hq, h1, h2⟩ := hd x.toNat
    rw [e, hq, Lib.atoiAll_plain c r h1 h2, ← hq, hp _ (by omega)]
    have e2 : Lib.signless (.ok x.toNat) = .ok (x.toNat : Int) := if_neg (by omega)
    rw [e2]
    show some (x.toNat : Int) = some x
    congr 1
    omega
/-! ### Fields of numbers and blanks -/
theorem fg_word (d r : List UInt8) (hd : ∀ c ∈ d, Lib.isSp c = false) : ∀ cur, Lib.fieldsGo cur (d ++ r) = Lib.fieldsGo (cur ++ d) r := by
  induction d with
  | nil => intro cur; simp
  | cons c d ih =>
    intro cur
    have hc := hd c (by simp)
    rw [List.cons_append, Lib.fieldsGo, if_neg (by rw [hc]; simp), ih (fun x hx => hd x (by simp [hx]))]
    simp
def fl (cur : List UInt8) : List (List UInt8) := if cur.isEmpty then [] else [cur]
theorem fg_blank (cur r : List UInt8) : Lib.fieldsGo cur (32 :: r) = fl cur ++ Lib.fieldsGo [] r := by
  rw [Lib.fieldsGo, if_pos (by decide)]
  unfold fl
  cases cur <;> simp
theorem fg_nums (e : List UInt8) (he : e = [] ∨ e = [32]) : ∀ (l : List Int) (cur : List UInt8), Lib.fieldsGo cur (nums l ++ e) = fl cur ++ l.map Lib.itoa
  | [], cur => by
    rw [nums_nil, List.nil_append]
    rcases he with rfl | rfl
    · simp [Lib.fieldsGo, fl]
    · rw [fg_blank]; simp [Lib.fieldsGo]
  | x :: l, cur => by
    have ih := fg_nums e he l (Lib.itoa x)
    rw [nums_cons, List.cons_append, List.cons_append, fg_blank, List.append_assoc, fg_word _ _ (fun c hc => (dig_facts (itoa_chars x c hc)).1), List.nil_append, ih]
    have : fl (Lib.itoa x) = [Lib.itoa x] := by
      unfold fl
      cases h : Lib.itoa x with
      | nil => exact absurd h (itoa_ne x)
      | cons c r => rfl
    rw [this]
    simp
theorem ascii_nums : ∀ (l : List Int), ∀ c ∈ nums l, c = 32 ∨ c = 45 ∨ Ma.isDig c
  | [], c, hc => by simp [nums] at hc
  | x :: l, c, hc => by
    rw [nums_cons] at hc
    rcases List.mem_append.1 hc with h | h
    · rcases List.mem_cons.1 h with h | h
      · exact .inl h
      · exact .inr (itoa_chars x c h)
    · exact ascii_nums l c h
theorem c128 {c : UInt8} (h : c = 32 ∨ c = 45 ∨ Ma.isDig c) : c.toNat < 128 := by
  rcases h with rfl | h
  · decide
  · exact (dig_facts h).2.1
theorem numL_map : ∀ (l : List Int), (∀ x ∈ l, -1000000000000 ≤ x ∧ x ≤ 1000000000000) → numL (l.map Lib.itoa) = some l
  | [], _ => rfl
  | x :: l, h => by
    have h1 := num_itoa (h x (by simp))
    have h2 := numL_map l (fun y hy => h y (by simp [hy]))
    simp only [List.map_cons, numL, h1, h2]
theorem inums_nums {e : List UInt8} (he : e = [] ∨ e = [32]) (l : List Int) (h : ∀ x ∈ l, -1000000000000 ≤ x ∧ x ≤ 1000000000000) : inums (nums l ++ e) = some l := by
  unfold inums
  rw [Lib.fieldsD_ascii _ (fun c hc => by
    rcases List.mem_append.1 hc with h | h
    · exact c128 (ascii_nums l c h)
    · rcases he with rfl | rfl
      · simp at h
      · simp at h; subst h; decide)]
  unfold Lib.fields
  rw [fg_nums e he l []]
  simpa [fl] using numL_map l h
theorem inums_tail {e : List UInt8} (he : e = [] ∨ e = [32]) (x : Int) (l : List Int) (h : ∀ y ∈ x :: l, -1000000000000 ≤ y ∧ y ≤ 1000000000000) : inums (Lib.itoa x ++ nums l ++ e) = some (x :: l) := by
  unfold inums
  rw [Lib.fieldsD_ascii _ (fun c hc => by
    rcases List.mem_append.1 hc with h | h
    · rcases List.mem_append.1 h with h | h
      · exact (dig_facts (itoa_chars x c h)).2.1
      · exact c128 (ascii_nums l c h)
    · rcases he with rfl | rfl
      · simp at h
      · simp at h; subst h; decide)]
  unfold Lib.fields
  rw [List.append_assoc, fg_word _ _ (fun c hc => (dig_facts (itoa_chars x c hc)).1), List.nil_append, fg_nums e he l]
  have : fl (Lib.itoa x) = [Lib.itoa x] := by
    unfold fl
    cases h : Lib.itoa x with
    | nil => exact absurd h (itoa_ne x)
    | cons c r => rfl
  rw [this]
  exact numL_map (x :: l) h
theorem nums_no (l : List Int) : (10 : UInt8) ∉ nums l ∧ (58 : UInt8) ∉ nums l := by
  constructor
  · intro h
    rcases ascii_nums l _ h with h | h
    · revert h; decide
    · exact (dig_facts h).2.2.1 rfl
  · intro h
    rcases ascii_nums l _ h with h | h
    · revert h; decide
    · exact (dig_facts h).2.2.2.2 rfl
theorem itoa_no (x : Int) : (10 : UInt8) ∉ Lib.itoa x ∧ (32 : UInt8) ∉ Lib.itoa x ∧ (58 : UInt8) ∉ Lib.itoa x :=
  ⟨fun h => (dig_facts (itoa_chars x _ h)).2.2.1 rfl, fun h => (dig_facts (itoa_chars x _ h)).2.2.2.1 rfl, fun h => (dig_facts (itoa_chars x _ h)).2.2.2.2 rfl⟩
end Go.Proofs.YtaojoamldoofpaaGreatDoor.Rm
/-
  A model out of a text, as the program reads it: plain functions of lists; the text of a model gives the model.
-/
namespace Go.Proofs.YtaojoamldoofpaaGreatDoor.Rm
set_option maxRecDepth 20000
open Go.Proofs.YtaojoamldoofpaaGreatDoor.Md (M mok mok_parts)
open Go.Proofs.YtaojoamldoofpaaGreatDoor.Kt (Kv)
open Go.Proofs.YtaojoamldoofpaaGreatDoor.Mt (nums nums_cons nums_nil spt head ctxt ttxt ctxts ttxts body whole wline wlines i64 Kn Tn Mn hasLf anyLf)
set_option linter.unusedVariables false
structure St where
  m : M
  left : Int
def zero : M := ⟨0, 0, 0, 0, [], []⟩
def pairs : List Int → List (Int × Int)
  | a :: b :: r => (a, b) :: pairs r
  | _ => []
def first (l : List UInt8) : List UInt8 := (Lib.cut l [32]).1
def rest (l : List UInt8) : List UInt8 := (Lib.cut l [32]).2.1
def addW (ks : List Kv) (s : ByteArray) (v : Int) : List Kv := ks.set (ks.length - 1) ⟨(ks.getD (ks.length - 1) ⟨[], []⟩).ws ++ [s], (ks.getD (ks.length - 1) ⟨[], []⟩).vs ++ [v]⟩
def dHead (st : St) (r : List UInt8) : Option St := match inums r with
  | some [a, b, c, d] => some ⟨⟨a, b, c, d, st.m.ks, st.m.ts⟩, st.left⟩
  | _ => none
def dCtr (st : St) (r : List UInt8) : Option St := match inums r with
  | some [n] => some ⟨⟨st.m.n, st.m.c, st.m.prior, st.m.base, st.m.ks ++ [⟨[], []⟩], st.m.ts⟩, n⟩
  | _ => none
def dWord (st : St) (f r : List UInt8) : Option St := match num f with
  | some v => some ⟨⟨st.m.n, st.m.c, st.m.prior, st.m.base, addW st.m.ks ⟨r.toArray⟩ v, st.m.ts⟩, st.left - 1⟩
  | none => none
def dTree (st : St) (r : List UInt8) : Option St := match inums (Lib.cut r [58]).1, inums (Lib.cut r [58]).2.1 with
  | some a, some l => if a.length % 2 = 0 then some ⟨⟨st.m.n, st.m.c, st.m.prior, st.m.base, st.m.ks, st.m.ts ++ [⟨pairs a, l⟩]⟩, st.left⟩ else none
  | _, _ => none
def wModel : List UInt8 := [109, 111, 100, 101, 108]
def wCtr : List UInt8 := [99, 116, 114]
def wTree : List UInt8 := [116, 114, 101, 101]
def wSum : List UInt8 := [115, 117, 109]
def dLine (st : St) (l : List UInt8) : Option St :=
  if 0 < st.left then dWord st (first l) (rest l)
  else if first l = wModel then dHead st (rest l)
  else if first l = wCtr then dCtr st (rest l)
  else if first l = wTree then dTree st (rest l)
  else none
noncomputable def rd : List (List UInt8) → St → Option St
  | [], st => some st
  | l :: ls, st => if 0 < st.left then (match dLine st l with
      | none => none
      | some st' => rd ls st')
    else if first l = wSum then some st
    else match dLine st l with
      | none => none
      | some st' => rd ls st'
noncomputable def rdt (s : List UInt8) (st : St) : Option St := rd (Pc.pieces 10 s) st
end Go.Proofs.YtaojoamldoofpaaGreatDoor.Rm
