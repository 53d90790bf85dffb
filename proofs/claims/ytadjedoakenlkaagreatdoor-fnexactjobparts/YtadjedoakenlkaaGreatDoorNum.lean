/-
  The model's NumText: what it returns is the decimal numeral; it makes new blocks alone.
-/
import Derived.Test.YtadjedoakenlkaaGreatDoorRows
import Derived.Test.YtadjedoakenlkaaGreatDoorShelf
import Derived.WalkKit
import Derived.Below
import Derived.Lib.ItoaNum
import Derived.OpenShut
import Derived.Laws.IdiomStrings
import Derived.WalkSmall
namespace Go.Proofs.YtadjedoakenlkaaGreatDoor.Nu
set_option maxRecDepth 100000
open Go.RowKit

theorem hide {p : Prop} (h : p) : Hid p := h
theorem unhide {p : Prop} (h : Hid p) : p := h
def pre (u : Nat) : List UInt8 := if u = 0 then [] else Lib.decDigits u
theorem pre_step (u : Nat) (h : u ≠ 0) : pre u = pre (u / 10) ++ [UInt8.ofNat (48 + u % 10)] := by
  unfold pre
  rw [if_neg h, Lib.decDigits]
  by_cases h' : u < 10
  · rw [dif_pos h', if_pos (by omega), Nat.mod_eq_of_lt h']; rfl
  · rw [dif_neg h', if_neg (by omega)]

theorem Tryz.info8 : (Tryz.prog.info? 5).map (fun i => (i.zero, i.size, i.bytes)) = some (some (.int .u8 0), 1, 1) := by kernel_rfl

set_option maxHeartbeats 400000 in
theorem snum_zero (w : World) : Calls Tryz.prog 22 #[.int .i64 0] w fun e w' => e = .returned (.string ⟨(Lib.itoa 0).toArray⟩) ∧ w' = w := by
  go_enter Tryz.func22, Tryz.ntmps22
  go_wp2
  go_ret
  exact ⟨by rw [show Lib.itoa 0 = [48] by decide +kernel]; rfl, rfl⟩

theorem pre_len : ∀ (k u : Nat), u < 10 ^ k → (pre u).length ≤ k
  | 0, u, h => by have : u = 0 := by simpa using h
                  subst this; simp [pre]
  | k + 1, u, h => by
    by_cases h0 : u = 0
    · subst h0; simp [pre]
    · rw [pre_step u h0, List.length_append]
      have := pre_len k (u / 10) (by rw [Nat.pow_succ] at h; omega)
      simp; omega
theorem len_of {n : Int} {a : Nat} {xs : List UInt8} (h : pre a ++ xs = pre n.natAbs) (h0 : -9223372036854775808 ≤ n) (h1 : n ≤ 9223372036854775807) : xs.length ≤ 20 := by
  have := pre_len 20 n.natAbs (by omega)
  rw [← h, List.length_append] at this
  omega
theorem dig_toNat (u : Nat) : ((UInt8.ofNat (48 + u % 10)).toNat : Int) = 48 + ((u % 10 : Nat) : Int) := by
  rw [UInt8.toNat_ofNat']; omega

theorem dec_len (u : Nat) (h : u < 10 ^ 20) : (Lib.decDigits u).length ≤ 20 := by
  by_cases h0 : u = 0
  · subst h0; decide +kernel
  · have := pre_len 20 u h
    unfold pre at this
    rwa [if_neg h0] at this
theorem itoa_len (n : Int) (h0 : -9223372036854775808 ≤ n) (h1 : n ≤ 9223372036854775807) : (Lib.itoa n).length ≤ 21 := by
  unfold Lib.itoa
  split
  · have := dec_len n.natAbs (by omega)
    simp; omega
  · have := dec_len n.toNat (by omega)
    omega

/-- A row of one element that has just been laid is the call's own. -/
theorem own_lit (w : World) (base : Nat) (hb : base ≤ w.heap.size) (v : Value) (T : TypeId) : (w.alloc (.cells #[v] T)).ownsRow base T 1 (.slice (some ⟨w.heap.size, 0, none⟩) 1 1) 1 [v] :=
  ⟨by simp, .inr ⟨w.heap.size, 1, #[v], rfl, hb, heap_alloc_new w _, Nat.le_refl _, by decide, by simp, by simp⟩⟩

def bv (l : List UInt8) : List Value := l.map fun c => .int .u8 (c.toNat : Int)
theorem bv_length (l : List UInt8) : (bv l).length = l.length := by simp [bv]
theorem bv_cell {w : World} {g : Nat} {xs : List UInt8} (hc : ∀ j (hj : j < xs.length), w.cell? ⟨g, j, none⟩ = some (.int .u8 (xs[j].toNat : Int))) :
    ∀ j u, (bv xs)[j]? = some u → w.cell? ((⟨g, 0, none⟩ : Addr).add j) = some u := by
  intro j u hj
  rw [Go.WideShapes.add_plain, Nat.zero_add]
  have hl : j < xs.length := by have := (List.getElem?_eq_some_iff.1 hj).1; simpa [bv] using this
  rw [hc j hl]
  simp [bv, List.getElem?_eq_getElem hl] at hj
  rw [← hj]
theorem bv_one {xs : List UInt8} : ∀ u ∈ bv xs, u.oneCell' = true := by
  intro u hu
  simp only [bv, List.mem_map] at hu
  obtain ⟨c, _, rfl⟩ := hu
  rfl

/-- What an owned row of bytes gives back. -/
theorem own_bytes {w : World} {base : Nat} {T : TypeId} {v : Value} {n : Nat} {xs : List UInt8} (h : w.ownsRow base T 1 v n (bv xs)) (hn : 0 < n) :
    ∃ g cap, v = .slice (some ⟨g, 0, none⟩) xs.length cap ∧ base ≤ g ∧ g < w.heap.size ∧ ∀ j (hj : j < xs.length), w.cell? ⟨g, j, none⟩ = some (.int .u8 (xs[j].toNat : Int)) := by
  obtain ⟨hl, h⟩ := h
  rw [bv_length] at hl
  rcases h with ⟨_, h0⟩ | ⟨g, cap, cur, rfl, hb, hh, hc, hm, hs, ht⟩
  · omega
  · obtain rfl : n = xs.length := by omega
    refine ⟨g, cap, rfl, hb, ?_, fun j hj => ?_⟩
    · rcases Nat.lt_or_ge g w.heap.size with h | h
      · exact h
      · rw [Array.getElem?_eq_none h] at hh; cases hh
    · have hj' : (bv xs)[j]? = some (.int .u8 (xs[j].toNat : Int)) := by simp [bv, List.getElem?_eq_getElem hj]
      rw [← ht] at hj'
      rw [List.getElem?_take, if_pos (by omega)] at hj'
      simp only [World.cell?, hh]
      simpa using hj'

theorem bv_cons (c : UInt8) (xs : List UInt8) : [Value.int .u8 (c.toNat : Int)] ++ bv xs = bv (c :: xs) := rfl

set_option maxHeartbeats 1000000 in
theorem snum_any (n : Int) (w : World) (h0 : -9223372036854775808 ≤ n) (h1 : n ≤ 9223372036854775807) (hn : ¬ n = 0) :
    Calls Tryz.prog 22 #[.int .i64 n] w fun e w' => e = .returned (.string ⟨(Lib.itoa n).toArray⟩) ∧ Below w.heap.size w w' := by
  obtain ⟨i0, hi, hz0, hz1, hz2⟩ := info_parts Tryz.info8
  have hn' : (n == 0) = false := by simpa using hn
  go_enter Tryz.func22, Tryz.ntmps22
  go_wp2
  go_loopw [3, 4] (fun v m wr => ∃ (q : Int) (xs : List UInt8) (g cap : Nat), m = .int .i64 q ∧ -9223372036854775808 ≤ q ∧ q ≤ 9223372036854775807 ∧ v = .slice (some ⟨g, 0, none⟩) xs.length cap ∧ (∀ j (hj : j < xs.length), wr.cell? ⟨g, j, none⟩ = some (.int .u8 (xs[j].toNat : Int))) ∧ Below w.heap.size w wr ∧ g < wr.heap.size ∧ pre q.natAbs ++ xs = pre n.natAbs)
    (fun _ m _ => (intOf m).natAbs)
  case atStart => exact ⟨n, [], w.heap.size, 0, rfl, h0, h1, rfl, fun j hj => by simp at hj, (Below.refl _ _).alloc (Nat.le_refl _) _, by simp, by simp⟩
  case round =>
    obtain ⟨q, xs, g, cap, rfl, q0, q1, rfl, hc, hB, hg, hp⟩ := hrel
    have hl := len_of hp h0 h1
    have HP : Hid (pre q.natAbs ++ xs = pre n.natAbs) := hp
    have HC : Hid (∀ j (hj : j < xs.length), wr.cell? ⟨g, j, none⟩ = some (.int .u8 (xs[j].toNat : Int))) := hc
    clear hp hc
    have hsz := hB.size
    by_cases hq : q = 0
    · subst hq
      have HX : Hid (xs = Lib.decDigits n.natAbs) := by have := HP.out; simp [pre, hn] at this; exact this
      clear HP
      by_cases hneg : n < 0
      · go_wp2_with (at_builtin; refine wpList_append_own _ rfl _ _ 58 rfl w.heap.size 5 i0 (.int .u8 0) 1 1 Tryz.underlying58 hi hz0 hz1 hz2 rfl (by decide) _ _ _ rfl (own_lit wr w.heap.size hsz _ _) ⟨g, 0, none⟩ xs.length cap (bv xs) rfl (by rw [bv_length]; omega) (bv_cell (fun j hj => by rw [World.cell?_alloc_lt _ _ _ hg]; exact HC.out j hj)) bv_one (by unfold maxLen; omega) (by omega) (by simp; omega) ?_)
        · intro v' w1 hown hgrow hnn
          clear hnn
          obtain ⟨g', cap', hv, hb', hlt', hc'⟩ := own_bytes (xs := 45 :: xs) hown (by omega)
          have hB1 : Below w.heap.size w w1 := (hB.alloc hsz _).grown hgrow (by simp; omega) (fun k hk => by cases hk; exact hsz)
          clear hown hgrow HC
          rw [hv]
          have hcv := run_convert_bytes_back (P := Tryz.prog) w1 58 9 5 ⟨g', 0, none⟩ cap' (45 :: xs) Tryz.underlying58 Tryz.underlying5 Tryz.underlying9 (fun j hj => by rw [Go.WideShapes.add_plain, Nat.zero_add]; exact hc' j hj)
          simp only [List.length_cons] at hcv ⊢
          clear hc' hv
          go_wp2
          go_ret
          refine ⟨?_, hB1⟩
          rw [HX.out]
          unfold Lib.itoa
          rw [if_pos hneg]
          rfl
      · have hcv := run_convert_bytes_back (P := Tryz.prog) wr 58 9 5 ⟨g, 0, none⟩ cap xs Tryz.underlying58 Tryz.underlying5 Tryz.underlying9 (fun j hj => by rw [Go.WideShapes.add_plain, Nat.zero_add]; exact HC.out j hj)
        go_wp2
        go_ret
        refine ⟨?_, hB⟩
        rw [HX.out]
        unfold Lib.itoa
        rw [if_neg (by omega), show n.toNat = n.natAbs by omega]
        rfl
    · obtain ⟨r, hr⟩ : ∃ r, q.tmod 10 = r := ⟨_, rfl⟩
      obtain ⟨t, ht⟩ : ∃ t, q.tdiv 10 = t := ⟨_, rfl⟩
      have HR : Hid (r.natAbs = q.natAbs % 10) := by show _ = _; rw [← hr, Int.natAbs_tmod]; rfl
      have HT : Hid (t.natAbs = q.natAbs / 10) := by show _ = _; rw [← ht, Int.natAbs_tdiv]; rfl
      have r0 : -9 ≤ r := by have := HR.out; omega
      have r1 : r ≤ 9 := by have := HR.out; omega
      have t0 : -922337203685477580 ≤ t := by have := HT.out; omega
      have t1 : t ≤ 922337203685477580 := by have := HT.out; omega
      by_cases hneg : r < 0
      · go_wp2_with (at_builtin; refine wpList_append_own _ rfl _ _ 58 rfl w.heap.size 5 i0 (.int .u8 0) 1 1 Tryz.underlying58 hi hz0 hz1 hz2 rfl (by decide) _ _ _ rfl (own_lit wr w.heap.size hsz _ _) ⟨g, 0, none⟩ xs.length cap (bv xs) rfl (by rw [bv_length]; omega) (bv_cell (fun j hj => by rw [World.cell?_alloc_lt _ _ _ hg]; exact HC.out j hj)) bv_one (by unfold maxLen; omega) (by omega) (by simp; omega) ?_)
        intro v' w1 hown hgrow hnn
        clear hnn
        have he : 48 + -r = ((UInt8.ofNat (48 + q.natAbs % 10)).toNat : Int) := by rw [dig_toNat]; have := HR.out; omega
        rw [he] at hown
        obtain ⟨g', cap', hv, hb', hlt', hc'⟩ := own_bytes (xs := UInt8.ofNat (48 + q.natAbs % 10) :: xs) hown (by omega)
        have hB1 : Below w.heap.size w w1 := (hB.alloc hsz _).grown hgrow (by simp; omega) (fun k hk => by cases hk; exact hsz)
        have HC' := hide hc'
        clear hown hgrow HC hc' he
        have HP' : Hid (pre t.natAbs ++ (UInt8.ofNat (48 + q.natAbs % 10) :: xs) = pre n.natAbs) := by
          show _ = _
          rw [← HP.out, pre_step q.natAbs (by omega), HT.out]
          simp
        rw [hv]
        have Hv := hide hv
        clear hv HP
        go_wp2
        go_roundw
        case rel => exact ⟨t, _, g', cap', rfl, by omega, by omega, rfl, unhide HC', hB1, hlt', HP'.out⟩
        case measure => simp [intOf]; have := HT.out; omega
      · go_wp2_with (at_builtin; refine wpList_append_own _ rfl _ _ 58 rfl w.heap.size 5 i0 (.int .u8 0) 1 1 Tryz.underlying58 hi hz0 hz1 hz2 rfl (by decide) _ _ _ rfl (own_lit wr w.heap.size hsz _ _) ⟨g, 0, none⟩ xs.length cap (bv xs) rfl (by rw [bv_length]; omega) (bv_cell (fun j hj => by rw [World.cell?_alloc_lt _ _ _ hg]; exact HC.out j hj)) bv_one (by unfold maxLen; omega) (by omega) (by simp; omega) ?_)
        intro v' w1 hown hgrow hnn
        clear hnn
        have he : 48 + r = ((UInt8.ofNat (48 + q.natAbs % 10)).toNat : Int) := by rw [dig_toNat]; have := HR.out; omega
        rw [he] at hown
        obtain ⟨g', cap', hv, hb', hlt', hc'⟩ := own_bytes (xs := UInt8.ofNat (48 + q.natAbs % 10) :: xs) hown (by omega)
        have hB1 : Below w.heap.size w w1 := (hB.alloc hsz _).grown hgrow (by simp; omega) (fun k hk => by cases hk; exact hsz)
        have HC' := hide hc'
        clear hown hgrow HC hc' he
        have HP' : Hid (pre t.natAbs ++ (UInt8.ofNat (48 + q.natAbs % 10) :: xs) = pre n.natAbs) := by
          show _ = _
          rw [← HP.out, pre_step q.natAbs (by omega), HT.out]
          simp
        rw [hv]
        have Hv := hide hv
        clear hv HP
        go_wp2
        go_roundw
        case rel => exact ⟨t, _, g', cap', rfl, by omega, by omega, rfl, unhide HC', hB1, hlt', HP'.out⟩
        case measure => simp [intOf]; have := HT.out; omega

theorem snum (n : Int) (w : World) (h0 : -9223372036854775808 ≤ n) (h1 : n ≤ 9223372036854775807) :
    Calls Tryz.prog 22 #[.int .i64 n] w fun e w' => e = .returned (.string ⟨(Lib.itoa n).toArray⟩) ∧ Below w.heap.size w w' := by
  by_cases h : n = 0
  · subst h
    refine (snum_zero w).mono ?_
    rintro e w' ⟨rfl, rfl⟩
    exact ⟨rfl, Below.refl _ _⟩
  · exact snum_any n w h0 h1 h

theorem below_grow (w : World) (k : Nat) (os : Array Obj) : Below w.heap.size w (Sort.grow (w.drewN k) os) :=
  ⟨rfl, rfl, rfl, by simp [Sort.grow], fun i hi => by simp only [Sort.grow]; rw [Array.getElem?_append_left (by exact hi)]; rfl⟩

/-- The table that the library's Itoa reads. -/
def Tab (w : World) : Prop := Lib.TabIs Tryz.prog w "internal/strconv.uint64pow10" .u64 Lib.pow10Tab
theorem gTab : Tryz.prog.globalNamed "internal/strconv.uint64pow10" = some 5 := by kernel_rfl
theorem tTab : (Tryz.prog.globals[(5 : Nat)]?).map (·.type) = some 226 := by kernel_rfl
theorem Tab.lt {w : World} (h : Tab w) : 5 < w.heap.size := World.block_lt_of_cell? w _ (Lib.TabIs.cell h gTab 0 (by decide))
theorem Tab.below {w w' : World} (h : Tab w) (hb : Below w.heap.size w w') : Tab w' := var?_below hb gTab h.lt h
theorem Tab.belowOf {w w' : World} {B : Nat} (h : Tab w) (hB : 5 < B) (hb : Below B w w') : Tab w' := var?_below hb gTab hB h

set_option maxHeartbeats 400000 in
theorem inum (n : Int) (w : World) (h0 : -9223372036854775808 ≤ n) (h1 : n ≤ 9223372036854775807) (hT : Tab w) :
    Calls Tryz.prog 40 #[.int .i64 n] w fun e w' => e = .returned (.string ⟨(Lib.itoa n).toArray⟩) ∧ Below w.heap.size w w' := by
  go_enter Tryz.func40, Tryz.ntmps40
  go_wp2_with fail
  refine (Tryz.strconv_Itoa n h0 h1 w hT).mono ?_
  rintro e w' ⟨rfl, k, os, rfl⟩
  go_wp2
  go_ret
  exact ⟨rfl, below_grow _ _ _⟩

end Go.Proofs.YtadjedoakenlkaaGreatDoor.Nu
