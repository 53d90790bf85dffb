/-
  Contracts that the proof leans on, put together in the order in which they build.
-/
import Derived.Test.YtdileifjmlabfaaGreatDoorRows
import Derived.Test.YtdileifjmlabfaaGreatDoorPart7
import Derived.WalkKit
import Derived.Below
import Derived.Lib.ItoaNum
import Derived.OpenShut
import Derived.Laws.IdiomStrings
import Derived.WalkSmall
import Derived.ProofKit
import Derived.Laws.BitsAllLaws
import Derived.Laws.BitsLemmas
import Derived.RowKit
import Derived.Test.YtdileifjmlabfaaGreatDoorPart10
import Derived.Shelf.Strings.BuilderK
import Derived.Shelf.Strings.Builder1
/-
  The model's NumText: what it returns is the decimal numeral; it makes new blocks alone.
-/
namespace Go.Proofs.YtdileifjmlabfaaGreatDoor.Nu
set_option maxRecDepth 100000
open Go.RowKit

theorem hide {p : Prop} (h : p) : Hid p := h
theorem unhide {p : Prop} (h : Hid p) : p := h
def pre (u : Nat) : List UInt8 := if u = 0 then [] else Lib.decDigits u
theorem pre_step (u : Nat) (h : u ≠ 0) : pre u = pre (u / 10) ++ [UInt8.ofNat (48 + u % 10)] := by
  unfold pre
  rw [if_neg h, Lib.decDigits]
  by_cases h' : u < 10
  · rw [dif_pos h', if_pos (by omega), Nat.mod_eq_of_lt h']; rfl
  · rw [dif_neg h', if_neg (by omega)]

theorem Tryz.info8 : (Tryz.prog.info? 5).map (fun i => (i.zero, i.size, i.bytes)) = some (some (.int .u8 0), 1, 1) := by kernel_rfl

set_option maxHeartbeats 400000 in
theorem snum_zero (w : World) : Calls Tryz.prog 13 #[.int .i64 0] w fun e w' => e = .returned (.string ⟨(Lib.itoa 0).toArray⟩) ∧ w' = w := by
  go_enter Tryz.func13, Tryz.ntmps13
  go_wp2
  go_ret
  exact ⟨by rw [show Lib.itoa 0 = [48] by decide +kernel]; rfl, rfl⟩

theorem pre_len : ∀ (k u : Nat), u < 10 ^ k → (pre u).length ≤ k
  | 0, u, h => by have : u = 0 := by simpa using h
                  subst this; simp [pre]
  | k + 1, u, h => by
    by_cases h0 : u = 0
    · subst h0; simp [pre]
    · rw [pre_step u h0, List.length_append]
      have := pre_len k (u / 10) (by rw [Nat.pow_succ] at h; omega)
      simp; omega
theorem len_of {n : Int} {a : Nat} {xs : List UInt8} (h : pre a ++ xs = pre n.natAbs) (h0 : -9223372036854775808 ≤ n) (h1 : n ≤ 9223372036854775807) : xs.length ≤ 20 := by
  have := pre_len 20 n.natAbs (by omega)
  rw [← h, List.length_append] at this
  omega
theorem dig_toNat (u : Nat) : ((UInt8.ofNat (48 + u % 10)).toNat : Int) = 48 + ((u % 10 : Nat) : Int) := by
  rw [UInt8.toNat_ofNat']; omega

theorem dec_len (u : Nat) (h : u < 10 ^ 20) : (Lib.decDigits u).length ≤ 20 := by
  by_cases h0 : u = 0
  · subst h0; decide +kernel
  · have := pre_len 20 u h
    unfold pre at this
    rwa [if_neg h0] at this
theorem itoa_len (n : Int) (h0 : -9223372036854775808 ≤ n) (h1 : n ≤ 9223372036854775807) : (Lib.itoa n).length ≤ 21 := by
  unfold Lib.itoa
  split
  · have := dec_len n.natAbs (by omega)
    simp; omega
  · have := dec_len n.toNat (by omega)
    omega

/-- A row of one element that has just been laid is the call's own. -/
theorem own_lit (w : World) (base : Nat) (hb : base ≤ w.heap.size) (v : Value) (T : TypeId) : (w.alloc (.cells #[v] T)).ownsRow base T 1 (.slice (some ⟨w.heap.size, 0, none⟩) 1 1) 1 [v] :=
  ⟨by simp, .inr ⟨w.heap.size, 1, #[v], rfl, hb, heap_alloc_new w _, Nat.le_refl _, by decide, by simp, by simp⟩⟩

def bv (l : List UInt8) : List Value := l.map fun c => .int .u8 (c.toNat : Int)
theorem bv_length (l : List UInt8) : (bv l).length = l.length := by simp [bv]
theorem bv_cell {w : World} {g : Nat} {xs : List UInt8} (hc : ∀ j (hj : j < xs.length), w.cell? ⟨g, j, none⟩ = some (.int .u8 (xs[j].toNat : Int))) :
    ∀ j u, (bv xs)[j]? = some u → w.cell? ((⟨g, 0, none⟩ : Addr).add j) = some u := by
  intro j u hj
  rw [Go.WideShapes.add_plain, Nat.zero_add]
  have hl : j < xs.length := by have := (List.getElem?_eq_some_iff.1 hj).1; simpa [bv] using this
  rw [hc j hl]
  simp [bv, List.getElem?_eq_getElem hl] at hj
  rw [← hj]
theorem bv_one {xs : List UInt8} : ∀ u ∈ bv xs, u.oneCell' = true := by
  intro u hu
  simp only [bv, List.mem_map] at hu
  obtain ⟨c, _, rfl⟩ := hu
  rfl

/-- What an owned row of bytes gives back. -/
theorem own_bytes {w : World} {base : Nat} {T : TypeId} {v : Value} {n : Nat} {xs : List UInt8} (h : w.ownsRow base T 1 v n (bv xs)) (hn : 0 < n) :
    ∃ g cap, v = .slice (some ⟨g, 0, none⟩) xs.length cap ∧ base ≤ g ∧ g < w.heap.size ∧ ∀ j (hj : j < xs.length), w.cell? ⟨g, j, none⟩ = some (.int .u8 (xs[j].toNat : Int)) := by
  obtain ⟨hl, h⟩ := h
  rw [bv_length] at hl
  rcases h with ⟨_, h0⟩ | ⟨g, cap, cur, rfl, hb, hh, hc, hm, hs, ht⟩
  · omega
  · obtain rfl : n = xs.length := by omega
    refine ⟨g, cap, rfl, hb, ?_, fun j hj => ?_⟩
    · rcases Nat.lt_or_ge g w.heap.size with h | h
      · exact h
      · rw [Array.getElem?_eq_none h] at hh; cases hh
    · have hj' : (bv xs)[j]? = some (.int .u8 (xs[j].toNat : Int)) := by simp [bv, List.getElem?_eq_getElem hj]
      rw [← ht] at hj'
      rw [List.getElem?_take, if_pos (by omega)] at hj'
      simp only [World.cell?, hh]
      simpa using hj'

theorem bv_cons (c : UInt8) (xs : List UInt8) : [Value.int .u8 (c.toNat : Int)] ++ bv xs = bv (c :: xs) := rfl

set_option maxHeartbeats 1000000 in
theorem snum_any (n : Int) (w : World) (h0 : -9223372036854775808 ≤ n) (h1 : n ≤ 9223372036854775807) (hn : ¬ n = 0) :
    Calls Tryz.prog 13 #[.int .i64 n] w fun e w' => e = .returned (.string ⟨(Lib.itoa n).toArray⟩) ∧ Below w.heap.size w w' := by
  obtain ⟨i0, hi, hz0, hz1, hz2⟩ := info_parts Tryz.info8
  have hn' : (n == 0) = false := by simpa using hn
  go_enter Tryz.func13, Tryz.ntmps13
  go_wp2
  go_loopw [3, 4] (fun v m wr => ∃ (q : Int) (xs : List UInt8) (g cap : Nat), m = .int .i64 q ∧ -9223372036854775808 ≤ q ∧ q ≤ 9223372036854775807 ∧ v = .slice (some ⟨g, 0, none⟩) xs.length cap ∧ (∀ j (hj : j < xs.length), wr.cell? ⟨g, j, none⟩ = some (.int .u8 (xs[j].toNat : Int))) ∧ Below w.heap.size w wr ∧ g < wr.heap.size ∧ pre q.natAbs ++ xs = pre n.natAbs)
    (fun _ m _ => (intOf m).natAbs)
  case atStart => exact ⟨n, [], w.heap.size, 0, rfl, h0, h1, rfl, fun j hj => by simp at hj, (Below.refl _ _).alloc (Nat.le_refl _) _, by simp, by simp⟩
  case round =>
    obtain ⟨q, xs, g, cap, rfl, q0, q1, rfl, hc, hB, hg, hp⟩ := hrel
    have hl := len_of hp h0 h1
    have HP : Hid (pre q.natAbs ++ xs = pre n.natAbs) := hp
    have HC : Hid (∀ j (hj : j < xs.length), wr.cell? ⟨g, j, none⟩ = some (.int .u8 (xs[j].toNat : Int))) := hc
    clear hp hc
    have hsz := hB.size
    by_cases hq : q = 0
    · subst hq
      have HX : Hid (xs = Lib.decDigits n.natAbs) := by have := HP.out; simp [pre, hn] at this; exact this
      clear HP
      by_cases hneg : n < 0
      · go_wp2_with (at_builtin; refine wpList_append_own _ rfl _ _ 41 rfl w.heap.size 5 i0 (.int .u8 0) 1 1 Tryz.underlying41 hi hz0 hz1 hz2 rfl (by decide) _ _ _ rfl (own_lit wr w.heap.size hsz _ _) ⟨g, 0, none⟩ xs.length cap (bv xs) rfl (by rw [bv_length]; omega) (bv_cell (fun j hj => by rw [World.cell?_alloc_lt _ _ _ hg]; exact HC.out j hj)) bv_one (by unfold maxLen; omega) (by omega) (by simp; omega) ?_)
        · intro v' w1 hown hgrow hnn
          clear hnn
          obtain ⟨g', cap', hv, hb', hlt', hc'⟩ := own_bytes (xs := 45 :: xs) hown (by omega)
          have hB1 : Below w.heap.size w w1 := (hB.alloc hsz _).grown hgrow (by simp; omega) (fun k hk => by cases hk; exact hsz)
          clear hown hgrow HC
          rw [hv]
          have hcv := run_convert_bytes_back (P := Tryz.prog) w1 41 9 5 ⟨g', 0, none⟩ cap' (45 :: xs) Tryz.underlying41 Tryz.underlying5 Tryz.underlying9 (fun j hj => by rw [Go.WideShapes.add_plain, Nat.zero_add]; exact hc' j hj)
          simp only [List.length_cons] at hcv ⊢
          clear hc' hv
          go_wp2
          go_ret
          refine ⟨?_, hB1⟩
          rw [HX.out]
          unfold Lib.itoa
          rw [if_pos hneg]
          rfl
      · have hcv := run_convert_bytes_back (P := Tryz.prog) wr 41 9 5 ⟨g, 0, none⟩ cap xs Tryz.underlying41 Tryz.underlying5 Tryz.underlying9 (fun j hj => by rw [Go.WideShapes.add_plain, Nat.zero_add]; exact HC.out j hj)
        go_wp2
        go_ret
        refine ⟨?_, hB⟩
        rw [HX.out]
        unfold Lib.itoa
        rw [if_neg (by omega), show n.toNat = n.natAbs by omega]
        rfl
    · obtain ⟨r, hr⟩ : ∃ r, q.tmod 10 = r := ⟨_, rfl⟩
      obtain ⟨t, ht⟩ : ∃ t, q.tdiv 10 = t := ⟨_, rfl⟩
      have HR : Hid (r.natAbs = q.natAbs % 10) := by show _ = _; rw [← hr, Int.natAbs_tmod]; rfl
      have HT : Hid (t.natAbs = q.natAbs / 10) := by show _ = _; rw [← ht, Int.natAbs_tdiv]; rfl
      have r0 : -9 ≤ r := by have := HR.out; omega
      have r1 : r ≤ 9 := by have := HR.out; omega
      have t0 : -922337203685477580 ≤ t := by have := HT.out; omega
      have t1 : t ≤ 922337203685477580 := by have := HT.out; omega
      by_cases hneg : r < 0
      · go_wp2_with (at_builtin; refine wpList_append_own _ rfl _ _ 41 rfl w.heap.size 5 i0 (.int .u8 0) 1 1 Tryz.underlying41 hi hz0 hz1 hz2 rfl (by decide) _ _ _ rfl (own_lit wr w.heap.size hsz _ _) ⟨g, 0, none⟩ xs.length cap (bv xs) rfl (by rw [bv_length]; omega) (bv_cell (fun j hj => by rw [World.cell?_alloc_lt _ _ _ hg]; exact HC.out j hj)) bv_one (by unfold maxLen; omega) (by omega) (by simp; omega) ?_)
        intro v' w1 hown hgrow hnn
        clear hnn
        have he : 48 + -r = ((UInt8.ofNat (48 + q.natAbs % 10)).toNat : Int) := by rw [dig_toNat]; have := HR.out; omega
        rw [he] at hown
        obtain ⟨g', cap', hv, hb', hlt', hc'⟩ := own_bytes (xs := UInt8.ofNat (48 + q.natAbs % 10) :: xs) hown (by omega)
        have hB1 : Below w.heap.size w w1 := (hB.alloc hsz _).grown hgrow (by simp; omega) (fun k hk => by cases hk; exact hsz)
        have HC' := hide hc'
        clear hown hgrow HC hc' he
        have HP' : Hid (pre t.natAbs ++ (UInt8.ofNat (48 + q.natAbs % 10) :: xs) = pre n.natAbs) := by
          show _ = _
          rw [← HP.out, pre_step q.natAbs (by omega), HT.out]
          simp
        rw [hv]
        have Hv := hide hv
        clear hv HP
        go_wp2
        go_roundw
        case rel => exact ⟨t, _, g', cap', rfl, by omega, by omega, rfl, unhide HC', hB1, hlt', HP'.out⟩
        case measure => simp [intOf]; have := HT.out; omega
      · go_wp2_with (at_builtin; refine wpList_append_own _ rfl _ _ 41 rfl w.heap.size 5 i0 (.int .u8 0) 1 1 Tryz.underlying41 hi hz0 hz1 hz2 rfl (by decide) _ _ _ rfl (own_lit wr w.heap.size hsz _ _) ⟨g, 0, none⟩ xs.length cap (bv xs) rfl (by rw [bv_length]; omega) (bv_cell (fun j hj => by rw [World.cell?_alloc_lt _ _ _ hg]; exact HC.out j hj)) bv_one (by unfold maxLen; omega) (by omega) (by simp; omega) ?_)
        intro v' w1 hown hgrow hnn
        clear hnn
        have he : 48 + r = ((UInt8.ofNat (48 + q.natAbs % 10)).toNat : Int) := by rw [dig_toNat]; have := HR.out; omega
        rw [he] at hown
        obtain ⟨g', cap', hv, hb', hlt', hc'⟩ := own_bytes (xs := UInt8.ofNat (48 + q.natAbs % 10) :: xs) hown (by omega)
        have hB1 : Below w.heap.size w w1 := (hB.alloc hsz _).grown hgrow (by simp; omega) (fun k hk => by cases hk; exact hsz)
        have HC' := hide hc'
        clear hown hgrow HC hc' he
        have HP' : Hid (pre t.natAbs ++ (UInt8.ofNat (48 + q.natAbs % 10) :: xs) = pre n.natAbs) := by
          show _ = _
          rw [← HP.out, pre_step q.natAbs (by omega), HT.out]
          simp
        rw [hv]
        have Hv := hide hv
        clear hv HP
        go_wp2
        go_roundw
        case rel => exact ⟨t, _, g', cap', rfl, by omega, by omega, rfl, unhide HC', hB1, hlt', HP'.out⟩
        case measure => simp [intOf]; have := HT.out; omega

theorem snum (n : Int) (w : World) (h0 : -9223372036854775808 ≤ n) (h1 : n ≤ 9223372036854775807) :
    Calls Tryz.prog 13 #[.int .i64 n] w fun e w' => e = .returned (.string ⟨(Lib.itoa n).toArray⟩) ∧ Below w.heap.size w w' := by
  by_cases h : n = 0
  · subst h
    refine (snum_zero w).mono ?_
    rintro e w' ⟨rfl, rfl⟩
    exact ⟨rfl, Below.refl _ _⟩
  · exact snum_any n w h0 h1 h

theorem below_grow (w : World) (k : Nat) (os : Array Obj) : Below w.heap.size w (Sort.grow (w.drewN k) os) :=
  ⟨rfl, rfl, rfl, by simp [Sort.grow], fun i hi => by simp only [Sort.grow]; rw [Array.getElem?_append_left (by exact hi)]; rfl⟩

/-- The table that the library's Itoa reads. -/
def Tab (w : World) : Prop := Lib.TabIs Tryz.prog w "internal/strconv.uint64pow10" .u64 Lib.pow10Tab
theorem gTab : Tryz.prog.globalNamed "internal/strconv.uint64pow10" = some 1 := by kernel_rfl
theorem tTab : (Tryz.prog.globals[(1 : Nat)]?).map (·.type) = some 144 := by kernel_rfl
theorem Tab.lt {w : World} (h : Tab w) : 1 < w.heap.size := World.block_lt_of_cell? w _ (Lib.TabIs.cell h gTab 0 (by decide))
theorem Tab.below {w w' : World} (h : Tab w) (hb : Below w.heap.size w w') : Tab w' := var?_below hb gTab h.lt h
theorem Tab.belowOf {w w' : World} {B : Nat} (h : Tab w) (hB : 1 < B) (hb : Below B w w') : Tab w' := var?_below hb gTab hB h

set_option maxHeartbeats 400000 in
theorem inum (n : Int) (w : World) (h0 : -9223372036854775808 ≤ n) (h1 : n ≤ 9223372036854775807) (hT : Tab w) :
    Calls Tryz.prog 48 #[.int .i64 n] w fun e w' => e = .returned (.string ⟨(Lib.itoa n).toArray⟩) ∧ Below w.heap.size w w' := by
  go_enter Tryz.func48, Tryz.ntmps48
  go_wp2_with fail
  refine (Tryz.strconv_Itoa n h0 h1 w hT).mono ?_
  rintro e w' ⟨rfl, k, os, rfl⟩
  go_wp2
  go_ret
  exact ⟨rfl, below_grow _ _ _⟩

end Go.Proofs.YtdileifjmlabfaaGreatDoor.Nu
/-
  Crc of the program and of the model: both are the sum of 32 bits, byte by byte, bit by bit.
-/
namespace Go.Proofs.YtdileifjmlabfaaGreatDoor.Cr
set_option maxRecDepth 100000
open Go.RowKit

/-! ### The sum, as plain numbers -/
def st (x : Nat) : Nat := if x % 2 = 1 then x / 2 ^^^ 3988292384 else x / 2
def sts : Nat → Nat → Nat
  | 0, x => x
  | k + 1, x => st (sts k x)
def byte (x : Nat) (c : UInt8) : Nat := sts 8 (x ^^^ c.toNat)
def crc (l : List UInt8) : Nat := l.foldl byte 4294967295 ^^^ 4294967295
theorem xor_lt {x y : Nat} (hx : x < 4294967296) (hy : y < 4294967296) : x ^^^ y < 4294967296 := Nat.xor_lt_two_pow (n := 32) hx hy
theorem st_lt {x : Nat} (h : x < 4294967296) : st x < 4294967296 := by
  unfold st
  split
  · exact xor_lt (by omega) (by omega)
  · omega
theorem sts_lt {x : Nat} (h : x < 4294967296) : ∀ k, sts k x < 4294967296
  | 0 => h
  | k + 1 => st_lt (sts_lt h k)
theorem byte_lt {x : Nat} (h : x < 4294967296) (c : UInt8) : byte x c < 4294967296 := sts_lt (xor_lt h (by have := c.toNat_lt; omega)) 8
theorem fold_lt : ∀ (l : List UInt8) {x : Nat}, x < 4294967296 → l.foldl byte x < 4294967296
  | [], _, h => h
  | c :: l, _, h => fold_lt l (byte_lt h c)
theorem crc_lt (l : List UInt8) : crc l < 4294967296 := xor_lt (fold_lt l (by omega)) (by omega)
theorem xor_i64 (a b : Nat) (ha : a < 4294967296) (hb : b < 4294967296) : bits .xor .i64 (a : Int) (b : Int) = ((a ^^^ b : Nat) : Int) := by
  have hx : a ^^^ b < 4294967296 := xor_lt ha hb
  show IntKind.i64.wrap ((BitVec.ofInt 64 (a : Int) ^^^ BitVec.ofInt 64 (b : Int)).toNat : Int) = _
  rw [BitVec.toNat_xor, BitVec.ofInt_natCast, BitVec.toNat_ofNat, BitVec.ofInt_natCast, BitVec.toNat_ofNat, Nat.mod_eq_of_lt (by omega), Nat.mod_eq_of_lt (by omega), IntKind.wrap_i64]
  omega
theorem xor_u32 (a b : Nat) (ha : a < 4294967296) (hb : b < 4294967296) : bits .xor .u32 (a : Int) (b : Int) = ((a ^^^ b : Nat) : Int) := u32_xor_nat a b ha hb
theorem take_snoc (s : ByteArray) (k : Nat) (h : k < s.size) : s.data.toList.take (k + 1) = s.data.toList.take k ++ [s[k]] := by
  rw [List.take_succ_eq_append_getElem (by simpa using h)]; rfl
def upto (s : ByteArray) (k : Nat) : Nat := (s.data.toList.take k).foldl byte 4294967295
theorem upto_snoc (s : ByteArray) (k : Nat) (h : k < s.size) : upto s (k + 1) = sts 8 (upto s k ^^^ (s[k]).toNat) := by
  unfold upto; rw [take_snoc s k h, List.foldl_append]; rfl
theorem upto_lt (s : ByteArray) (k : Nat) : upto s k < 4294967296 := fold_lt _ (by omega)
theorem upto_all (s : ByteArray) : upto s s.size ^^^ 4294967295 = crc s.data.toList := by
  unfold upto crc
  rw [List.take_of_length_le (by simp)]

/-! ### The model's -/
set_option maxHeartbeats 4000000 in
theorem scrc (s : ByteArray) (w : World) (hs : s.size ≤ 1048576) :
    Calls Tryz.prog 15 #[.string s] w fun e w' => e = .returned (.int .i64 (crc s.data.toList : Nat)) ∧ w' = w := by
  go_enter Tryz.func15, Tryz.ntmps15
  go_wp2
  go_loop [3, 4] (fun x i => ∃ k : Nat, k ≤ s.size ∧ i = .int .i64 k ∧ x = .int .i64 (upto s k : Nat)) (fun _ i => s.size - (intOf i).toNat)
  case atStart => exact ⟨0, Nat.zero_le _, rfl, rfl⟩
  case round =>
    obtain ⟨k, hk, rfl, rfl⟩ := hrel
    have hu := upto_lt s k
    by_cases hlt : k < s.size
    · have HN : Hid (upto s (k + 1) = sts 8 (upto s k ^^^ (s[k]).toNat)) := upto_snoc s k hlt
      obtain ⟨u, hu0⟩ : ∃ u, upto s k = u := ⟨_, rfl⟩
      rw [hu0] at HN hu ⊢
      clear hu0
      have hc : (s[k]).toNat < 256 := (s[k]).toNat_lt
      have hx := xor_i64 u (s[k]).toNat hu (by omega)
      obtain ⟨y, hy0⟩ : ∃ y, u ^^^ (s[k]).toNat = y := ⟨_, rfl⟩
      have hy : y < 4294967296 := by rw [← hy0]; exact xor_lt hu (by omega)
      rw [hy0] at HN hx
      clear hy0
      go_wp2
      go_loop [3, 5] (fun x i => ∃ m : Nat, m ≤ 8 ∧ i = .int .i64 m ∧ x = .int .i64 (sts m y : Nat)) (fun _ i => 8 - (intOf i).toNat)
      case atStart => exact ⟨0, Nat.zero_le _, rfl, rfl⟩
      case round =>
        obtain ⟨m, hm, rfl, rfl⟩ := hrel
        have hz := sts_lt hy m
        have HS : Hid (sts (m + 1) y = st (sts m y)) := rfl
        by_cases hml : m < 8
        · obtain ⟨z, hz0⟩ : ∃ z, sts m y = z := ⟨_, rfl⟩
          rw [hz0] at HS hz ⊢
          clear hz0
          by_cases hodd : z % 2 = 1
          · have e1 : ((z : Int) % 2 == 1) = true := by simp; omega
            have e2 : bits .xor .i64 ((z : Int) / 2) 3988292384 = ((z / 2 ^^^ 3988292384 : Nat) : Int) := by
              have := xor_i64 (z / 2) 3988292384 (by omega) (by omega)
              simpa using this
            have HT : Hid (sts (m + 1) y = z / 2 ^^^ 3988292384) := by show _ = _; rw [HS.out]; unfold st; rw [if_pos hodd]
            clear hodd
            go_wp2
            go_round
            case rel => exact ⟨m + 1, by omega, by go_num, by rw [HT.out]⟩
            case measure => simp [intOf]; omega
          · have e1 : ((z : Int) % 2 == 1) = false := by simp; omega
            have HT : Hid (sts (m + 1) y = z / 2) := by show _ = _; rw [HS.out]; unfold st; rw [if_neg hodd]
            clear hodd
            go_wp2
            go_round
            case rel => exact ⟨m + 1, by omega, by go_num, by rw [HT.out]; go_num⟩
            case measure => simp [intOf]; omega
        · obtain rfl : m = 8 := by omega
          go_wp2
          go_round
          case rel => exact ⟨k + 1, by omega, by go_num, by rw [HN.out]⟩
          case measure => simp [intOf]; omega
    · obtain rfl : k = s.size := by omega
      have HA : Hid (upto s s.size ^^^ 4294967295 = crc s.data.toList) := upto_all s
      obtain ⟨u, hu0⟩ : ∃ u, upto s s.size = u := ⟨_, rfl⟩
      rw [hu0] at HA hu ⊢
      clear hu0
      have hx : bits .xor .i64 (u : Int) 4294967295 = ((u ^^^ 4294967295 : Nat) : Int) := by simpa using xor_i64 u 4294967295 hu (by omega)
      go_wp2
      go_ret
      exact ⟨by rw [HA.out]; rfl, rfl⟩

/-! ### The program's -/
set_option maxHeartbeats 4000000 in
theorem ishift (x : Nat) (w : World) (hx : x < 4294967296) :
    Calls Tryz.prog 49 #[.int .u32 (x : Nat)] w fun e w' => e = .returned (.int .u32 (st x : Nat)) ∧ w' = w := by
  have h1 : bits .and .u32 (x : Int) 1 = ((x % 2 : Nat) : Int) := by
    have := u32_and_nat x 1 hx (by omega)
    rw [nat_mask1] at this
    simpa using this
  have h2 : bits .xor .u32 ((x : Int) / 2) 3988292384 = ((x / 2 ^^^ 3988292384 : Nat) : Int) := by simpa using xor_u32 (x / 2) 3988292384 (by omega) (by omega)
  have HS : Hid (st x = if x % 2 = 1 then x / 2 ^^^ 3988292384 else x / 2) := rfl
  by_cases hodd : x % 2 = 1
  · rw [hodd] at h1
    rw [if_pos hodd] at HS
    clear hodd
    go_enter Tryz.func49, Tryz.ntmps49
    go_wp2
    go_ret
    exact ⟨by rw [HS.out]; rfl, rfl⟩
  · rw [show x % 2 = 0 by omega] at h1
    rw [if_neg hodd] at HS
    clear hodd
    go_enter Tryz.func49, Tryz.ntmps49
    go_wp2
    go_ret
    exact ⟨by rw [HS.out]; rfl, rfl⟩

set_option maxHeartbeats 4000000 in
theorem icrc (s : ByteArray) (w : World) (hs : s.size ≤ 1048576) :
    Calls Tryz.prog 23 #[.string s] w fun e w' => e = .returned (.int .i64 (crc s.data.toList : Nat)) ∧ w' = w := by
  go_enter Tryz.func23, Tryz.ntmps23
  go_wp2
  go_loop [3, 7] (fun x i => ∃ k : Nat, k ≤ s.size ∧ i = .int .i64 k ∧ x = .int .u32 (upto s k : Nat)) (fun _ i => s.size - (intOf i).toNat)
  case atStart => exact ⟨0, Nat.zero_le _, rfl, rfl⟩
  case round =>
    obtain ⟨k, hk, rfl, rfl⟩ := hrel
    have hu := upto_lt s k
    by_cases hlt : k < s.size
    · have HN : Hid (upto s (k + 1) = sts 8 (upto s k ^^^ (s[k]).toNat)) := upto_snoc s k hlt
      obtain ⟨u, hu0⟩ : ∃ u, upto s k = u := ⟨_, rfl⟩
      rw [hu0] at HN hu ⊢
      clear hu0
      have hc : (s[k]).toNat < 256 := (s[k]).toNat_lt
      have hx := xor_u32 u (s[k]).toNat hu (by omega)
      obtain ⟨y, hy0⟩ : ∃ y, u ^^^ (s[k]).toNat = y := ⟨_, rfl⟩
      have hy : y < 4294967296 := by rw [← hy0]; exact xor_lt hu (by omega)
      rw [hy0] at HN hx
      clear hy0
      go_wp2
      go_loop [3, 16] (fun x i => ∃ m : Nat, m ≤ 8 ∧ i = .int .i64 m ∧ x = .int .u32 (sts m y : Nat)) (fun _ i => 8 - (intOf i).toNat)
      case atStart => exact ⟨0, Nat.zero_le _, rfl, rfl⟩
      case round =>
        obtain ⟨m, hm, rfl, rfl⟩ := hrel
        have hz := sts_lt hy m
        have HS : Hid (sts (m + 1) y = st (sts m y)) := rfl
        by_cases hml : m < 8
        · obtain ⟨z, hz0⟩ : ∃ z, sts m y = z := ⟨_, rfl⟩
          rw [hz0] at HS hz ⊢
          clear hz0
          go_wp2_with (go_at_call 49; refine (ishift _ _ hz).mono ?_; rintro e w' ⟨rfl, hw⟩; subst w')
          go_round
          case rel => exact ⟨m + 1, by omega, by go_num, by rw [HS.out]⟩
          case measure => simp [intOf]; omega
        · obtain rfl : m = 8 := by omega
          go_wp2
          go_round
          case rel => exact ⟨k + 1, by omega, by go_num, by rw [HN.out]⟩
          case measure => simp [intOf]; omega
    · obtain rfl : k = s.size := by omega
      have HA : Hid (upto s s.size ^^^ 4294967295 = crc s.data.toList) := upto_all s
      obtain ⟨u, hu0⟩ : ∃ u, upto s s.size = u := ⟨_, rfl⟩
      rw [hu0] at HA hu ⊢
      clear hu0
      have hx : bits .xor .u32 (u : Int) 4294967295 = ((u ^^^ 4294967295 : Nat) : Int) := by simpa using xor_u32 u 4294967295 hu (by omega)
      have hl : u ^^^ 4294967295 < 4294967296 := xor_lt hu (by omega)
      obtain ⟨z, hz0⟩ : ∃ z, u ^^^ 4294967295 = z := ⟨_, rfl⟩
      rw [hz0] at HA hl hx
      clear hz0
      go_wp2
      go_ret
      exact ⟨by rw [← HA.out]; rfl, rfl⟩
end Go.Proofs.YtdileifjmlabfaaGreatDoor.Cr
/-
  The text of a model: plain functions of lists.
-/
namespace Go.Proofs.YtdileifjmlabfaaGreatDoor.Mt
set_option maxRecDepth 20000
open Go.RowKit
open Go.Proofs.YtdileifjmlabfaaGreatDoor.Md (M mok mok_parts kok kok_parts)
open Go.Proofs.YtdileifjmlabfaaGreatDoor.Kt (Kv)
set_option linter.unusedVariables false

theorem ba_ext {a b : ByteArray} (h : a.data.toList = b.data.toList) : a = b := by
  apply ByteArray.ext
  exact Array.toList_inj.1 h
theorem ba_size (l : List UInt8) : (ByteArray.mk l.toArray).size = l.length := by simp [ByteArray.size]
theorem bc_len (l : List UInt8) : (Lib.byteCells l).length = l.length := by simp [Lib.byteCells]
theorem cells_more (l : List UInt8) (s : ByteArray) : Lib.byteCells l ++ Lib.strCells s = Lib.byteCells (l ++ s.data.toList) := by simp [Lib.byteCells, Lib.strCells]
theorem ret_str {a b : ByteArray} (h : a = b) : Ending.returned (.string a) = .returned (.string b) := by rw [h]
/-- A number of Go's. -/
def i64 (x : Int) : Prop := -9223372036854775808 ≤ x ∧ x ≤ 9223372036854775807
/-- Numbers, each with a blank ahead. -/
def nums (l : List Int) : List UInt8 := (l.map fun x => 32 :: Lib.itoa x).flatten
def wline (v : Int) (s : ByteArray) : List UInt8 := Lib.itoa v ++ (32 :: s.data.toList ++ [10])
def wlines : List Int → List ByteArray → List UInt8
  | v :: vs, s :: ss => wline v s ++ wlines vs ss
  | _, _ => []
def head (m : M) : List UInt8 := [109, 111, 100, 101, 108] ++ nums [m.n, m.c, m.prior, m.base] ++ [10]
def ctxt (t : Kv) : List UInt8 := [99, 116, 114] ++ nums [(t.ws.length : Int)] ++ [10] ++ wlines t.vs t.ws
def spt (ps : List (Int × Int)) : List UInt8 := (ps.map fun p => nums [p.1, p.2]).flatten
def ttxt (t : Tr.T) : List UInt8 := [116, 114, 101, 101] ++ spt t.sp ++ ([32, 58] ++ nums t.lv ++ [10])
def ctxts (ks : List Kv) : List UInt8 := (ks.map ctxt).flatten
def ttxts (ts : List Tr.T) : List UInt8 := (ts.map ttxt).flatten
def body (m : M) : List UInt8 := head m ++ ctxts m.ks ++ ttxts m.ts
def whole (m : M) : List UInt8 := body m ++ ([115, 117, 109] ++ nums [(Cr.crc (body m) : Int)] ++ [10])
def hasLf (s : ByteArray) : Bool := s.data.toList.contains 10
def anyLf (ks : List Kv) : Bool := ks.any fun t => t.ws.any hasLf
def mtext (m : M) : List UInt8 := if mok m = true ∧ anyLf m.ks = false then whole m else []

theorem nums_nil : nums [] = [] := rfl
theorem nums_cons (x : Int) (l : List Int) : nums (x :: l) = 32 :: Lib.itoa x ++ nums l := by simp [nums]
theorem nums_one (x : Int) : nums [x] = 32 :: Lib.itoa x := by simp [nums]
theorem nums_take (l : List Int) (k : Nat) (h : k < l.length) : nums (l.take (k + 1)) = nums (l.take k) ++ 32 :: Lib.itoa l[k] := by
  unfold nums
  rw [List.take_succ_eq_append_getElem h, List.map_append, List.flatten_append]
  simp
theorem nums_len : ∀ (l : List Int), (∀ x ∈ l, i64 x) → (nums l).length ≤ 22 * l.length
  | [], _ => by simp [nums]
  | x :: l, h => by
    have h1 := nums_len l (fun y hy => h y (by simp [hy]))
    have h2 := h x (by simp)
    have h3 := Nu.itoa_len x h2.1 h2.2
    rw [nums_cons]
    simp only [List.length_append, List.length_cons]
    omega
theorem wline_len (v : Int) (s : ByteArray) (h : i64 v) (hs : s.size ≤ 25) : (wline v s).length ≤ 48 := by
  have h3 := Nu.itoa_len v h.1 h.2
  unfold wline
  simp only [List.length_append, List.length_cons, List.length_nil, Array.length_toList]
  have : s.data.size = s.size := rfl
  omega
theorem wlines_len : ∀ (vs : List Int) (ss : List ByteArray), (∀ x ∈ vs, i64 x) → (∀ s ∈ ss, s.size ≤ 25) → (wlines vs ss).length ≤ 48 * ss.length
  | [], ss, _, _ => by simp [wlines]
  | v :: vs, [], _, _ => by simp [wlines]
  | v :: vs, s :: ss, h, hs => by
    have h1 := wlines_len vs ss (fun y hy => h y (by simp [hy])) (fun y hy => hs y (by simp [hy]))
    have h2 := wline_len v s (h v (by simp)) (hs s (by simp))
    simp only [wlines, List.length_append, List.length_cons]
    omega
theorem wlines_take : ∀ (vs : List Int) (ss : List ByteArray) (k : Nat) (h : k < ss.length) (h' : k < vs.length), wlines (vs.take (k + 1)) (ss.take (k + 1)) = wlines (vs.take k) (ss.take k) ++ wline vs[k] ss[k]
  | v :: vs, s :: ss, 0, _, _ => by simp [wlines]
  | v :: vs, s :: ss, k + 1, h, h' => by
    have := wlines_take vs ss k (by simpa using h) (by simpa using h')
    simp only [List.take_succ_cons, wlines, List.getElem_cons_succ, this, List.append_assoc]
theorem spt_take (l : List (Int × Int)) (k : Nat) (h : k < l.length) : spt (l.take (k + 1)) = spt (l.take k) ++ nums [l[k].1, l[k].2] := by
  unfold spt
  rw [List.take_succ_eq_append_getElem h, List.map_append, List.flatten_append]
  simp
theorem spt_len : ∀ (l : List (Int × Int)), (∀ p ∈ l, i64 p.1 ∧ i64 p.2) → (spt l).length ≤ 44 * l.length
  | [], _ => by simp [spt]
  | p :: l, h => by
    have h1 := spt_len l (fun y hy => h y (by simp [hy]))
    have h2 := h p (by simp)
    have h3 := nums_len [p.1, p.2] (by intro x hx; simp at hx; rcases hx with rfl | rfl; exact h2.1; exact h2.2)
    unfold spt at h1 ⊢
    simp only [List.map_cons, List.flatten_cons, List.length_append, List.length_cons, List.length_nil] at h3 ⊢
    omega
theorem ctxts_take (l : List Kv) (k : Nat) (h : k < l.length) : ctxts (l.take (k + 1)) = ctxts (l.take k) ++ ctxt l[k] := by
  unfold ctxts
  rw [List.take_succ_eq_append_getElem h, List.map_append, List.flatten_append]
  simp
theorem ttxts_take (l : List Tr.T) (k : Nat) (h : k < l.length) : ttxts (l.take (k + 1)) = ttxts (l.take k) ++ ttxt l[k] := by
  unfold ttxts
  rw [List.take_succ_eq_append_getElem h, List.map_append, List.flatten_append]
  simp
theorem fok_i64 {x : Int} (h : Bo.fok x = true) : i64 x := by
  have : -1000000000 ≤ x ∧ x ≤ 1000000000 := by simpa [Bo.fok] using h
  unfold i64; omega
theorem aok_i64 {l : List Int} (h : Bo.aok l = true) : ∀ x ∈ l, i64 x := by
  intro x hx
  exact fok_i64 (List.all_eq_true.1 h x hx)
/-- What a part of a model that is right says of its numbers and sizes. -/
def Kn (t : Kv) : Prop := t.ws.length ≤ 40 ∧ t.vs.length = t.ws.length ∧ (∀ x ∈ t.vs, i64 x) ∧ ∀ s ∈ t.ws, s.size ≤ 25
theorem kok_kn {t : Kv} (h : kok t = true) : Kn t := by
  obtain ⟨h1, h2, h3, h4, _⟩ := kok_parts h
  refine ⟨h1, h2, aok_i64 h3, fun s hs => ?_⟩
  have := List.all_eq_true.1 h4 s hs
  unfold Md.cwok at this
  have := of_decide_eq_true this
  omega
def Tn (t : Tr.T) : Prop := t.sp.length ≤ 4 ∧ t.lv.length ≤ 16 ∧ (∀ p ∈ t.sp, i64 p.1 ∧ i64 p.2) ∧ ∀ x ∈ t.lv, i64 x
theorem tok_tn {t : Tr.T} (h : Tr.tok t = true) : Tn t := by
  obtain ⟨⟨h1, h2⟩, h3, h4⟩ := Tr.tok_iff.1 h
  refine ⟨h1, ?_, fun p hp => ?_, aok_i64 h4⟩
  · rw [h2]
    have := Nat.pow_le_pow_right (n := 2) (by omega) h1
    simpa using this
  · have := List.all_eq_true.1 h3 p hp
    unfold Tr.spok at this
    simp only [Bool.and_eq_true, decide_eq_true_eq] at this
    exact ⟨by unfold i64; omega, fok_i64 this.2⟩
structure Mn (m : M) : Prop where
  h : ∀ x ∈ [m.n, m.c, m.prior, m.base], i64 x
  k : m.ks.length ≤ 3
  t : m.ts.length ≤ 12
  ks : ∀ t ∈ m.ks, Kn t
  ts : ∀ t ∈ m.ts, Tn t
theorem mok_mn {m : M} (h : mok m = true) : Mn m := by
  obtain ⟨h1, h2, h3, h4, h5, h6, h7⟩ := mok_parts h
  obtain ⟨s0, s1, s2⟩ := Tk.sok_iff.1 h1
  refine ⟨?_, ?_, h4, fun t ht => kok_kn (List.all_eq_true.1 h7 t ht), fun t ht => tok_tn (List.all_eq_true.1 h6 t ht)⟩
  · have hp : -1000000 ≤ m.prior ∧ m.prior ≤ 1000000 := by simpa [Li.btw] using h2
    intro x hx
    simp at hx
    rcases hx with rfl | rfl | rfl | rfl
    · unfold i64; omega
    · unfold i64; omega
    · unfold i64; omega
    · exact fok_i64 h3
  · unfold Md.ncol at h5
    split at h5 <;> omega
theorem head_len {m : M} (h : Mn m) : (head m).length ≤ 94 := by
  have := nums_len _ h.h
  unfold head
  simp only [List.length_append, List.length_cons, List.length_nil] at this ⊢
  omega
theorem ctxt_len {t : Kv} (h : Kn t) : (ctxt t).length ≤ 1946 := by
  obtain ⟨h1, h2, h3, h4⟩ := h
  have := nums_len [(t.ws.length : Int)] (by intro x hx; simp at hx; subst hx; unfold i64; omega)
  have h5 := wlines_len t.vs t.ws h3 h4
  unfold ctxt
  simp only [List.length_append, List.length_cons, List.length_nil] at this ⊢
  omega
theorem ttxt_len {t : Tr.T} (h : Tn t) : (ttxt t).length ≤ 535 := by
  obtain ⟨h1, h2, h3, h4⟩ := h
  have := nums_len t.lv h4
  have h5 := spt_len t.sp h3
  unfold ttxt
  simp only [List.length_append, List.length_cons, List.length_nil]
  omega
theorem flat_len {α : Type} (f : α → List UInt8) (n : Nat) : ∀ (l : List α), (∀ t ∈ l, (f t).length ≤ n) → ((l.map f).flatten).length ≤ n * l.length
  | [], _ => by simp
  | t :: l, h => by
    have h1 := flat_len f n l (fun y hy => h y (by simp [hy]))
    have h2 := h t (by simp)
    simp only [List.map_cons, List.flatten_cons, List.length_append, List.length_cons, Nat.mul_add]
    omega
theorem ctxts_len {l : List Kv} (hl : l.length ≤ 3) (h : ∀ t ∈ l, Kn t) : (ctxts l).length ≤ 5838 := by
  have := flat_len ctxt 1946 l (fun t ht => ctxt_len (h t ht))
  unfold ctxts
  omega
theorem ttxts_len {l : List Tr.T} (hl : l.length ≤ 12) (h : ∀ t ∈ l, Tn t) : (ttxts l).length ≤ 6420 := by
  have := flat_len ttxt 535 l (fun t ht => ttxt_len (h t ht))
  unfold ttxts
  omega
theorem body_len {m : M} (h : Mn m) : (body m).length ≤ 12352 := by
  have h1 := head_len h
  have h2 := ctxts_len h.k h.ks
  have h3 := ttxts_len h.t h.ts
  unfold body
  simp only [List.length_append]
  omega
theorem crc_i64 (l : List UInt8) : i64 (Cr.crc l : Int) := by have := Cr.crc_lt l; unfold i64; omega
theorem whole_len {m : M} (h : Mn m) : (whole m).length ≤ 12400 := by
  have h1 := body_len h
  have := nums_len [(Cr.crc (body m) : Int)] (by intro x hx; simp at hx; subst hx; exact crc_i64 _)
  unfold whole
  simp only [List.length_append, List.length_cons, List.length_nil] at this ⊢
  omega
theorem take_mem {α : Type} {p : α → Prop} {l : List α} (h : ∀ t ∈ l, p t) (k : Nat) : ∀ t ∈ l.take k, p t := fun t ht => h t (List.mem_of_mem_take ht)
theorem isl_lit (w : World) (l : List Int) (T : TypeId) (b : Nat) (cs : Array Value) (hb : b = w.heap.size) (hc : cs = (l.map fun x => Value.int .i64 x).toArray) : Li.IsL (w.alloc (.cells cs T)) (some ⟨b, 0, none⟩) l := by
  subst hb; subst hc
  refine .inr ⟨w.heap.size, 0, rfl, by simp, fun j hj => ?_⟩
  rw [Nat.zero_add]
  have : (w.alloc (.cells (l.map fun x => Value.int .i64 x).toArray T)).heap[w.heap.size]? = some (.cells (l.map fun x => Value.int .i64 x).toArray T) := heap_alloc_new w _
  simp only [World.cell?, this]
  simp [hj]
theorem any_yes {α : Type} {p : α → Bool} {xs : List α} {k : Nat} (hk : k < xs.length) (h : p xs[k] = true) : xs.any p = true := by
  rw [List.any_eq_true]; exact ⟨xs[k], List.getElem_mem hk, h⟩
theorem any_no {α : Type} {p : α → Bool} {xs : List α} (h : ∀ j (hj : j < xs.length), p xs[j] = false) : xs.any p = false := by
  rw [List.any_eq_false]; intro x hx; obtain ⟨j, hj, rfl⟩ := List.getElem_of_mem hx; rw [h j hj]; simp
theorem at_snoc {α : Type} {p : α → Bool} {xs : List α} {k : Nat} (h : ∀ j (hj : j < xs.length), j < k → p xs[j] = false) (hk : k < xs.length) (h1 : p xs[k] = false) : ∀ j (hj : j < xs.length), j < k + 1 → p xs[j] = false := by
  intro j hj hjk
  by_cases e : j = k
  · subst e; exact h1
  · exact h j hj (by omega)
theorem mtext_no {m : M} (h : mok m = false) : mtext m = [] := by unfold mtext; rw [if_neg (by rw [h]; simp)]
theorem mtext_lf {m : M} (h : anyLf m.ks = true) : mtext m = [] := by unfold mtext; rw [if_neg (by rw [h]; simp)]
theorem mtext_yes {m : M} (h : mok m = true) (h' : anyLf m.ks = false) : mtext m = whole m := by unfold mtext; rw [if_pos ⟨h, h'⟩]
end Go.Proofs.YtdileifjmlabfaaGreatDoor.Mt
/-
  A strings.Builder's WriteString by the library's contract, laid by hand (the kit's laying leaves it out where the translation has no strings.Join).
-/
namespace Go.Proofs.YtdileifjmlabfaaGreatDoor.Bd
open Go.RowKit
def ren : Go.Shelf.Ren := ⟨fun | 166 => 43 | 240 => 64 | 276 => 77 | n => n, fun | 9 => 9 | 3 => 3 | 4 => 4 | 0 => 0 | 20 => 20 | 72 => 82 | 76 => 85 | 70 => 80 | 37 => 41 | 75 => 84 | 164 => 121 | 5 => 5 | 80 => 89 | n => n, fun | n => n⟩
theorem lays : Go.Proofs.Lays.n166 Tryz.prog ren := {
  mixed := by kernel_rfl
  f166 := Tryz.func43.trans (congrArg some (by kernel_rfl))
  f240 := Tryz.func64.trans (congrArg some (by kernel_rfl))
  f276 := Tryz.func77.trans (congrArg some (by kernel_rfl))
  t0 := Tryz.underlying0, a0 := Tryz.isAgg0, z0 := Tryz.sizeOf0, v0 := Tryz.zeroValue0
  t3 := Tryz.underlying3, a3 := Tryz.isAgg3, z3 := Tryz.sizeOf3, v3 := Tryz.zeroValue3
  t4 := Tryz.underlying4, a4 := Tryz.isAgg4, z4 := Tryz.sizeOf4, v4 := Tryz.zeroValue4
  t9 := Tryz.underlying9, a9 := Tryz.isAgg9, z9 := Tryz.sizeOf9, v9 := Tryz.zeroValue9
  t20 := Tryz.underlying20, a20 := Tryz.isAgg20, z20 := Tryz.sizeOf20, v20 := Tryz.zeroValue20
  t37 := Tryz.underlying41, a37 := Tryz.isAgg41, z37 := Tryz.sizeOf41, v37 := Tryz.zeroValue41
  t70 := Tryz.underlying80, a70 := Tryz.isAgg80, z70 := Tryz.sizeOf80, v70 := Tryz.zeroValue80
  t72 := Tryz.underlying82, a72 := Tryz.isAgg82, z72 := Tryz.sizeOf82, v72 := Tryz.zeroValue82
  t75 := Tryz.underlying84, a75 := Tryz.isAgg84, z75 := Tryz.sizeOf84, v75 := Tryz.zeroValue84
  t164 := Tryz.underlying121, a164 := Tryz.isAgg121, z164 := Tryz.sizeOf121, v164 := Tryz.zeroValue121 }
theorem extra : Builder.Extra Tryz.prog ren := {
  sizeBuilder := by kernel_rfl
  liesBuilder := by kernel_rfl
  t5 := Tryz.underlying5
  a5 := Tryz.isAgg5
  z5 := Tryz.sizeOf5
  v5 := Tryz.zeroValue5
  infoByte := by kernel_rfl
  cellsByte := by kernel_rfl
  sizeByte := by kernel_rfl
  neB5 := by decide }
theorem write (B b : Nat) (bs : List Value) (s : ByteArray) (w : World) (h : Lib.IsBuilder 82 5 B b bs w) (hlen : bs.length + s.size ≤ 140737488355328) (hBw : B ≤ w.heap.size) :
    Calls Tryz.prog 43 #[.pointer (some ⟨b, 0, none⟩), .string s] w fun e w' => e = .returned (.tuple #[.int .i64 s.size, .nilIface]) ∧ (Lib.BuilderAt 82 5 B b (.pointer (some ⟨b, 0, none⟩)) (bs ++ Lib.strCells s) w' ∧ Below B w w') :=
  Any.Builder_WriteString lays extra B b bs s w h hlen hBw
end Go.Proofs.YtdileifjmlabfaaGreatDoor.Bd
/-
  The text of a model, as the program writes it: numbers, the head, words, trees, all of it.
-/
namespace Go.Proofs.YtdileifjmlabfaaGreatDoor.Mt
set_option maxRecDepth 100000
open Go.RowKit
open Go.Proofs.YtdileifjmlabfaaGreatDoor.Md (M mok mok_parts kok kok_parts Rm wr6)
open Go.Proofs.YtdileifjmlabfaaGreatDoor.Kt (Kv IsK)
open Go.Proofs.YtdileifjmlabfaaGreatDoor.Tm (IsT IsP)
open Go.Proofs.YtdileifjmlabfaaGreatDoor.Sv (new1 Wr wr2)
set_option linter.unusedVariables false

theorem builder_below {T e : TypeId} {B b : Nat} {bs : List Value} {w w' : World} (h : Lib.IsBuilder T e B b bs w) (hB : Below w.heap.size w w') : Lib.IsBuilder T e B b bs w' := by
  have one : ∀ {p : Value}, Lib.BuilderAt T e B b p bs w → Lib.BuilderAt T e B b p bs w' := fun {p} h => by
    obtain ⟨h1, v, hb, ho, hne⟩ := h
    have hlt : b < w.heap.size := (Array.getElem?_eq_some_iff.1 hb).1
    exact ⟨h1, v, by rw [hB.block b hlt]; exact hb, Tb.ownsRow_at ho (fun k e => hB.block k (World.ownsRow.lt ho k e).2), hne⟩
  rcases h with h | h
  · exact .inl (one h)
  · exact .inr (one h)
/-- A builder of the call's own, at b, that holds l. -/
def Bu (w : World) (B b : Nat) (l : List UInt8) : Prop := Lib.IsBuilder 82 5 B b (Lib.byteCells l) w
theorem Bu.below {w w' : World} {B b : Nat} {l : List UInt8} (h : Bu w B b l) (hB : Below w.heap.size w w') : Bu w' B b l := builder_below h hB
theorem bu_new (w : World) (b : Nat) (hb : b = w.heap.size) : ∃ W, w.alloc (.cells #[.pointer none, .slice none 0 0] 82) = W ∧ Below w.heap.size w W ∧ Bu W w.heap.size b [] ∧ W.heap.size = w.heap.size + 1 := by
  subst hb
  exact ⟨_, rfl, (Below.refl _ _).alloc (Nat.le_refl _) _, Lib.fresh_isBuilder _ _ _, by simp⟩
/-- A text written behind what a builder holds. -/
theorem wrote (w : World) (B b : Nat) (l : List UInt8) (s : ByteArray) (h : Bu w B b l) (hl : l.length + s.size ≤ 1000000) (hB : B ≤ w.heap.size) :
    Calls Tryz.prog 43 #[.pointer (some ⟨b, 0, none⟩), .string s] w fun e w' => e = .returned (.tuple #[.int .i64 s.size, .nilIface]) ∧ Bu w' B b (l ++ s.data.toList) ∧ Below B w w' := by
  refine (Bd.write _ _ _ _ _ h (by rw [bc_len]; omega) hB).mono ?_
  rintro e w' ⟨rfl, h1, h2⟩
  refine ⟨rfl, ?_, h2⟩
  unfold Bu
  rw [← cells_more]
  exact .inr h1
/-- What a builder holds, as a text. -/
theorem told (w : World) (B b : Nat) (l : List UInt8) (h : Bu w B b l) (hB : B ≤ w.heap.size) :
    Calls Tryz.prog 47 #[.pointer (some ⟨b, 0, none⟩)] w fun e w' => e = .returned (.string ⟨l.toArray⟩) ∧ Below B w w' := by
  refine (Tryz.Builder_String_any _ _ _ _ h hB).mono ?_
  rintro e w' ⟨rfl, h2⟩
  exact ⟨rfl, h2⟩
set_option maxHeartbeats 2000000 in
theorem ispaced (w : World) (a : Option Addr) (c : Nat) (l : List Int) (h : Li.IsL w a l) (hb : ∀ x ∈ l, i64 x) (hl : l.length ≤ 1000) (hT : Nu.Tab w) :
    Calls Tryz.prog 22 #[.slice a l.length c] w fun e w' => e = .returned (.string ⟨(nums l).toArray⟩) ∧ Below w.heap.size w w' := by
  go_enter Tryz.func22, Tryz.ntmps22
  go_wp2
  obtain ⟨W, hW, hB0, hbu, hsz⟩ := bu_new w _ rfl
  rw [hW]
  clear hW hsz
  go_loopw [8] (fun i wr => ∃ k : Nat, k ≤ l.length ∧ i = .int .i64 k ∧ Bu wr w.heap.size w.heap.size (nums (l.take k)) ∧ Below w.heap.size w wr) (fun i _ => l.length - (intOf i).toNat)
  case atStart => exact ⟨0, Nat.zero_le _, rfl, hbu, hB0⟩
  case round =>
    obtain ⟨k, hk, rfl, hbl, hBr⟩ := hrel
    by_cases hlt : k < l.length
    · rcases h.below hBr with h0 | ⟨xb, xo, rfl, hxb, hxc⟩
      · rw [h0] at hlt; simp at hlt
      have hcx := hxc k hlt
      have hx := hb l[k] (List.getElem_mem hlt)
      have HN : Hid (nums (l.take (k + 1)) = nums (l.take k) ++ 32 :: Lib.itoa l[k]) := nums_take l k hlt
      have hnl : (nums (l.take k)).length ≤ 22000 := by
        have h1 := nums_len (l.take k) (take_mem hb k)
        have h2 := List.length_take_le k l
        omega
      obtain ⟨x, hx0⟩ : ∃ x, l[k] = x := ⟨_, rfl⟩
      rw [hx0] at HN hx hcx
      clear hxc hx0
      have hil := Nu.itoa_len x hx.1 hx.2
      go_wp2_with fail
      refine (Nu.inum _ _ hx.1 hx.2 (hT.below hBr)).mono ?_
      rintro e w1 ⟨rfl, hB1⟩
      have hbl := hbl.below hB1
      have hBr := hBr.trans (hB1.mono hBr.size)
      clear hB1 hcx hxb
      go_wp2_with fail
      refine (wrote _ _ _ _ _ hbl (by rw [ByteArray.size_append, ba_size]; simp only [ByteArray.size]; simp; omega) hBr.size).mono ?_
      rintro e w2 ⟨rfl, hb2, hB2⟩
      have hBr := hBr.trans hB2
      have HB : Hid (Bu w2 w.heap.size w.heap.size (nums (l.take (k + 1)))) := by
        show Bu _ _ _ _
        rw [HN.out]
        simpa using hb2
      clear hb2 hB2 hbl
      go_wp2
      go_roundw
      case rel => exact ⟨k + 1, by omega, by go_num, HB.out, hBr⟩
      case measure => simp [intOf]; omega
    · have hbl : Bu wr w.heap.size w.heap.size (nums l) := by rwa [List.take_of_length_le (by omega)] at hbl
      go_wp2_with fail
      refine (told _ _ _ _ hbl hBr.size).mono ?_
      rintro e w3 ⟨rfl, hB3⟩
      have hBr := hBr.trans hB3
      go_wp2
      go_ret
      exact ⟨rfl, hBr⟩
set_option maxHeartbeats 2000000 in
theorem ihead (w : World) (ak ax : Option Addr) (ck ct : Nat) (m : M) (hm : Mn m) (hT : Nu.Tab w) :
    Calls Tryz.prog 44 #[.agg #[.int .i64 m.n, .int .i64 m.c, .int .i64 m.prior, .int .i64 m.base, .slice ak m.ks.length ck, .slice ax m.ts.length ct]] w fun e w' => e = .returned (.string ⟨(head m).toArray⟩) ∧ Below w.heap.size w w' := by
  have HH : Hid (head m = [109, 111, 100, 101, 108] ++ nums [m.n, m.c, m.prior, m.base] ++ [10]) := rfl
  have hnl : (nums [m.n, m.c, m.prior, m.base]).length ≤ 88 := nums_len _ hm.h
  go_enter Tryz.func44, Tryz.ntmps44
  go_wp2_with fail
  obtain ⟨W, hW, hsz, hB, bm⟩ := new1 w [.int .i64 m.n, .int .i64 m.c, .int .i64 m.prior, .int .i64 m.base, .slice ak m.ks.length ck, .slice ax m.ts.length ct] 34
  rw [hW]
  clear hW
  have hB1 : Below w.heap.size w (W.alloc (.cells #[.int .i64 m.n, .int .i64 m.c, .int .i64 m.prior, .int .i64 m.base] 3)) := hB.alloc hB.size _
  refine (ispaced _ _ _ [m.n, m.c, m.prior, m.base] (isl_lit W [m.n, m.c, m.prior, m.base] 3 _ _ hsz.symm rfl) hm.h (by simp) (hT.below hB1)).mono ?_
  rintro e w1 ⟨rfl, hB2⟩
  have hB := hB1.trans (hB2.mono hB1.size)
  clear hB1 hB2
  go_wp2
  go_ret
  exact ⟨ret_str (ba_ext (by rw [HH.out]; simp)), hB⟩
set_option maxHeartbeats 2000000 in
theorem ictxt (w : World) (a0 a1 : Option Addr) (c0 c1 : Nat) (t : Kv) (h0 : Ls.IsS w a0 t.ws) (h1 : Li.IsL w a1 t.vs) (hk : Kn t) (hT : Nu.Tab w) :
    Calls Tryz.prog 45 #[.agg #[.slice a0 t.ws.length c0, .slice a1 t.vs.length c1]] w fun e w' => e = .returned (.string ⟨(ctxt t).toArray⟩) ∧ Below w.heap.size w w' := by
  obtain ⟨k1, k2, k3, k4⟩ := hk
  have HH : Hid (ctxt t = [99, 116, 114] ++ nums [(t.ws.length : Int)] ++ [10] ++ wlines t.vs t.ws) := rfl
  obtain ⟨n, hn⟩ : ∃ n, t.ws.length = n := ⟨_, rfl⟩
  have hi : ∀ x ∈ [(n : Int)], i64 x := by intro x hx; simp at hx; subst hx; unfold i64; omega
  have hnl := nums_len _ hi
  rw [hn] at k1 k2 HH
  rw [k2, hn]
  have HK2 : Hid (t.vs.length = n) := k2
  have HKN : Hid (t.ws.length = n) := hn
  clear k2 hn
  simp only [List.length_cons, List.length_nil] at hnl
  go_enter Tryz.func45, Tryz.ntmps45
  go_wp2_with fail
  obtain ⟨W, hW, hsz, hB, bm⟩ := new1 w [.slice a0 n c0, .slice a1 n c1] 46
  rw [hW]
  obtain ⟨W1, hW1, hBb, hbu, hs1⟩ := bu_new W (w.heap.size + 1) hsz.symm
  rw [hW1]
  clear hW hW1
  have hB2 : Below W1.heap.size W1 (W1.alloc (.cells #[.int .i64 n] 3)) := (Below.refl _ _).alloc (Nat.le_refl _) _
  have hB1 := hBb.trans (hB2.mono hBb.size)
  have hT := hT.below hB
  refine (ispaced _ _ _ [(n : Int)] (isl_lit W1 [(n : Int)] 3 _ _ (by omega) rfl) hi (by simp) (hT.below hB1)).mono ?_
  rintro e w2 ⟨rfl, hB3⟩
  have hbu := (hbu.below hB2).below hB3
  have hBr := hB1.trans (hB3.mono hB1.size)
  clear hB1 hB2 hB3 hBb hs1 hsz
  obtain ⟨_, ⟨x0, x1⟩, _⟩ := wr2 (bm.below hBr)
  go_wp2_with fail
  refine (wrote _ _ _ _ _ hbu (by rw [ByteArray.size_append, ByteArray.size_append, ba_size]; simp only [ByteArray.size]; simp; omega) hBr.size).mono ?_
  rintro e w3 ⟨rfl, hbu, hB3⟩
  have hBr := hBr.trans hB3
  clear hB3 x0 x1
  obtain ⟨_, ⟨x0, x1⟩, _⟩ := wr2 (bm.below hBr)
  obtain ⟨X, hX⟩ : ∃ X, [99, 116, 114] ++ nums [(n : Int)] ++ [10] = X := ⟨_, rfl⟩
  have hXl : X.length ≤ 26 := by rw [← hX]; simp; omega
  have HBU : Hid (Bu w3 W.heap.size (w.heap.size + 1) (X ++ wlines (t.vs.take 0) (t.ws.take 0))) := by show Bu _ _ _ _; simpa [← hX, wlines] using hbu
  rw [hX] at HH
  clear hX hbu
  go_wp2
  go_loopw [17] (fun i wr => ∃ k : Nat, k ≤ n ∧ i = .int .i64 k ∧ Bu wr W.heap.size (w.heap.size + 1) (X ++ wlines (t.vs.take k) (t.ws.take k)) ∧ Below W.heap.size W wr) (fun i _ => n - (intOf i).toNat)
  case atStart => exact ⟨0, Nat.zero_le _, rfl, HBU.out, hBr⟩
  case round =>
    obtain ⟨k, hk, rfl, hbl, hBr⟩ := hrel
    clear HBU x0 x1
    obtain ⟨_, ⟨x0, x1⟩, _⟩ := wr2 (bm.below hBr)
    have hBe := hB.trans (hBr.mono hB.size)
    by_cases hlt : k < n
    · have hlw : k < t.ws.length := by rw [HKN.out]; exact hlt
      have hlv : k < t.vs.length := by rw [HK2.out]; exact hlt
      rcases h0.below hBe with e0 | ⟨xb, xo, rfl, hxb, hxc⟩
      · rw [e0] at hlw; simp at hlw
      rcases h1.below hBe with e0 | ⟨yb, yo, rfl, hyb, hyc⟩
      · rw [e0] at hlv; simp at hlv
      have hcx := hxc k hlw
      have hcy := hyc k hlv
      have hx := k3 t.vs[k] (List.getElem_mem hlv)
      have hs := k4 t.ws[k] (List.getElem_mem hlw)
      have HN : Hid (wlines (t.vs.take (k + 1)) (t.ws.take (k + 1)) = wlines (t.vs.take k) (t.ws.take k) ++ wline t.vs[k] t.ws[k]) := wlines_take t.vs t.ws k hlw hlv
      have hnl2 : (wlines (t.vs.take k) (t.ws.take k)).length ≤ 1920 := by
        have q1 := wlines_len (t.vs.take k) (t.ws.take k) (take_mem k3 k) (take_mem k4 k)
        have q2 := List.length_take_le k t.ws
        omega
      obtain ⟨x, hx0⟩ : ∃ x, t.vs[k] = x := ⟨_, rfl⟩
      obtain ⟨s, hs0⟩ : ∃ s, t.ws[k] = s := ⟨_, rfl⟩
      rw [hx0, hs0] at HN
      rw [hx0] at hx hcy
      rw [hs0] at hs hcx
      clear hxc hyc hx0 hs0 hlw hlv
      have hil := Nu.itoa_len x hx.1 hx.2
      go_wp2_with fail
      refine (Nu.inum _ _ hx.1 hx.2 (hT.below hBr)).mono ?_
      rintro e w1 ⟨rfl, hB1⟩
      have hbl := hbl.below hB1
      have hBr := hBr.trans (hB1.mono hBr.size)
      clear hB1 hcx hcy hxb hyb x0 x1
      go_wp2_with fail
      refine (wrote _ _ _ _ _ hbl (by rw [ByteArray.size_append, ByteArray.size_append, ByteArray.size_append, ba_size, List.length_append]; simp only [ByteArray.size]; simp; show _ + (_ + 1 + s.size + 1) ≤ _; omega) hBr.size).mono ?_
      rintro e w2 ⟨rfl, hb2, hB2⟩
      have hBr := hBr.trans hB2
      have HB : Hid (Bu w2 W.heap.size (w.heap.size + 1) (X ++ wlines (t.vs.take (k + 1)) (t.ws.take (k + 1)))) := by
        show Bu _ _ _ _
        rw [HN.out]
        simpa [wline] using hb2
      clear hb2 hB2 hbl
      go_wp2
      go_roundw
      case rel => exact ⟨k + 1, by omega, by go_num, HB.out, hBr⟩
      case measure => simp [intOf]; omega
    · have e1 : t.vs.take k = t.vs := List.take_of_length_le (by rw [HK2.out]; omega)
      have e2 : t.ws.take k = t.ws := List.take_of_length_le (by rw [HKN.out]; omega)
      rw [e1, e2] at hbl
      clear e1 e2
      go_wp2_with fail
      refine (told _ _ _ _ hbl hBr.size).mono ?_
      rintro e w3 ⟨rfl, hB3⟩
      have hBe := hBe.trans (hB3.mono hB.size)
      go_wp2
      go_ret
      exact ⟨by rw [HH.out]; rfl, hBe⟩
end Go.Proofs.YtdileifjmlabfaaGreatDoor.Mt
