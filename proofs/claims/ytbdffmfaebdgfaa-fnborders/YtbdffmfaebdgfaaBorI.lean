/-
  BordersOf of the program: sorted by Go's library, its laid contracts; each answers what Bor says; old memory stays.
-/
import Derived.Test.YtbdffmfaebdgfaaBorM
import Derived.Test.YtbdffmfaebdgfaaShelf
import Derived.Sort.OwnSortedInts
import Derived.Sort.Grow
import Derived.Lib.OwnBridge
import Derived.Lib.RowBridge
namespace Go.Proofs.Ytbdffmfaebdgfaa.Bi
open Go.RowKit
open Go.Proofs.Ytbdffmfaebdgfaa.Li Go.Proofs.Ytbdffmfaebdgfaa.Bo Go.Proofs.Ytbdffmfaebdgfaa.Ai Go.Proofs.Ytbdffmfaebdgfaa.Bw Go.Proofs.Ytbdffmfaebdgfaa.Bs

/-- Of a list that does not fall, struck of what is alike: rising, and the same numbers. -/
theorem upto_srt (d : Array Int) (hs : ∀ i j, i ≤ j → j < d.size → d[i]! ≤ d[j]!) : ∀ m, m ≤ d.size → Srt (Lib.compactUpTo d m) ∧ (∀ y, y ∈ Lib.compactUpTo d m ↔ ∃ j, j < m ∧ d[j]! = y)
  | 0, _ => ⟨by simp [Lib.compactUpTo, Srt], fun y => by simp [Lib.compactUpTo]⟩
  | m + 1, hm => by
    obtain ⟨h1, h2⟩ := upto_srt d hs m (by omega)
    rw [Lib.compactUpTo_succ]
    cases hk : Lib.keeps d m with
    | true =>
      rw [if_pos rfl]
      refine ⟨?_, fun y => ?_⟩
      · unfold Srt
        rw [List.pairwise_append]
        refine ⟨h1, by simp, fun x hx y hy => ?_⟩
        obtain ⟨j, hj, rfl⟩ := (h2 x).1 hx
        obtain rfl : y = d[m]! := by simpa using hy
        have a1 := hs j (m - 1) (by omega) (by omega)
        have a2 := hs (m - 1) m (by omega) (by omega)
        have a3 : d[m]! ≠ d[m - 1]! := by
          unfold Lib.keeps at hk
          simp at hk
          rcases hk with hk | hk
          · omega
          · exact hk
        omega
      · rw [List.mem_append, h2]
        constructor
        · rintro (⟨j, hj, e⟩ | h)
          · exact ⟨j, by omega, e⟩
          · exact ⟨m, by omega, (List.mem_singleton.1 h).symm⟩
        · rintro ⟨j, hj, e⟩
          by_cases hjm : j = m
          · subst hjm; exact .inr (by simp [e])
          · exact .inl ⟨j, by omega, e⟩
    | false =>
      rw [if_neg (by simp), List.append_nil]
      refine ⟨h1, fun y => ?_⟩
      rw [h2]
      constructor
      · rintro ⟨j, hj, e⟩; exact ⟨j, by omega, e⟩
      · rintro ⟨j, hj, e⟩
        by_cases hjm : j = m
        · subst hjm
          unfold Lib.keeps at hk
          simp at hk
          exact ⟨j - 1, by omega, by rw [← e, ← hk.2]⟩
        · exact ⟨j, by omega, e⟩
theorem bang {l : List Int} {j : Nat} (h : j < l.length) : l.toArray[j]! = l[j] := by simp [h]
theorem compact_srt {l : List Int} (hs : l.Pairwise (fun x y => x ≤ y)) : Lib.compact l = srt l := by
  have h := upto_srt l.toArray (fun i j hij hj => by
    have hj' : j < l.length := by simpa using hj
    rw [bang hj', bang (by omega : i < l.length)]
    by_cases e : i = j
    · subst e; exact Int.le_refl _
    · exact (List.pairwise_iff_getElem.1 hs) i j (by omega) hj' (by omega)) l.length (by simp)
  refine srt_uniq h.1 (fun y => ?_)
  show y ∈ Lib.compactUpTo l.toArray l.length ↔ y ∈ l
  rw [h.2 y]
  constructor
  · rintro ⟨j, hj, rfl⟩; rw [bang hj]; exact List.getElem_mem hj
  · intro hy
    obtain ⟨j, hj, rfl⟩ := List.getElem_of_mem hy
    exact ⟨j, hj, bang hj⟩
theorem srt_sort (xs : List Int) : Lib.compact (xs.mergeSort fun x y => decide (x ≤ y)) = srt xs := by
  have hp : (xs.mergeSort fun x y => decide (x ≤ y)).Pairwise (fun x y => x ≤ y) := by
    have := List.pairwise_mergeSort (le := fun (x y : Int) => decide (x ≤ y)) (fun a b c h1 h2 => by simp at h1 h2 ⊢; omega) (fun a b => by simp; omega) xs
    exact this.imp (fun h => by simpa using h)
  rw [compact_srt hp]
  exact srt_uniq (srt_srt _) (fun y => by rw [srt_mem, List.mem_mergeSort])
open Go.Sort in
theorem left_of {w w1 : World} {g cap n nn q : Nat} {os : Array Obj} {ss : List Int} (hown : w1.ownsRow w.heap.size 3 1 (.slice (some ⟨g, 0, none⟩) n cap) n (ss.map (Value.int .i64))) (hbel : Below w.heap.size w w1) (hbg : w.heap.size ≤ g) (hlen : ss.length = n) :
    Own (putRow (Value.int .i64) (Sort.ahead (grow (putRow (Value.int .i64) (Sort.ahead w1 nn) g 0 (ss.mergeSort fun x y => decide (x ≤ y)).toArray) os) q) g 0 (Lib.compact (ss.mergeSort fun x y => decide (x ≤ y)) ++ List.replicate (n - (Lib.compact (ss.mergeSort fun x y => decide (x ≤ y))).length) 0).toArray)
      w.heap.size (.slice (some ⟨g, 0, none⟩) (Lib.compact (ss.mergeSort fun x y => decide (x ≤ y))).length cap) (srt ss) ∧
    Below w.heap.size w (putRow (Value.int .i64) (Sort.ahead (grow (putRow (Value.int .i64) (Sort.ahead w1 nn) g 0 (ss.mergeSort fun x y => decide (x ≤ y)).toArray) os) q) g 0 (Lib.compact (ss.mergeSort fun x y => decide (x ≤ y)) ++ List.replicate (n - (Lib.compact (ss.mergeSort fun x y => decide (x ≤ y))).length) 0).toArray) := by
  have hl2 : (ss.mergeSort fun x y => decide (x ≤ y)).length = ss.length := List.length_mergeSort ss
  have hle := Lib.compact_length_le (ss.mergeSort fun x y => decide (x ≤ y))
  subst hlen
  rcases hown.2 with ⟨h0, _⟩ | ⟨g', cap', cur, hv, hbase, hb, h1, h2, h3, h4⟩
  · cases h0
  cases hv
  have hs := ownsRow_sortedI (n := nn) (os := os) (ts := ss.mergeSort fun x y => decide (x ≤ y)) hl2 hbase hb h1 h2 h3
  have hc := Lib.ownsRow_putRow (q := q) (k := (Lib.compact (ss.mergeSort fun x y => decide (x ≤ y))).length) (ys := Lib.compact (ss.mergeSort fun x y => decide (x ≤ y)) ++ List.replicate (ss.length - (Lib.compact (ss.mergeSort fun x y => decide (x ≤ y))).length) 0) hs (by simp; omega) (by omega)
  rw [List.take_left] at hc
  refine ⟨?_, Lib.below_putRow (hbel.grown (grownBy_sortedI _) hbel.size (fun j hj => by cases hj; exact hbase)) hbg⟩
  unfold Own iv
  rw [← srt_sort]
  exact hc

theorem own_none0 (w : World) (B : Nat) : Own w B (.slice none 0 0) [] := Own.nil _ _
theorem cells_of {w : World} {b off : Nat} {xs : List Int} (hc : ∀ j (hj : j < xs.length), w.cell? ⟨b, off + j, none⟩ = some (.int .i64 xs[j])) : ∀ j, j < xs.length → w.cell? ⟨b, off + j, none⟩ = some (.int .i64 (xs.getD j 0)) := by
  intro j hj
  rw [hc j hj, List.getD_eq_getElem?_getD, List.getElem?_eq_getElem hj]; rfl
/-- slices.Clone: a list of the call's own that reads the same. -/
theorem iclone (w : World) (a : Option Addr) (cp : Nat) (xs : List Int) (hx : IsL w a xs) (hl : xs.length ≤ 1048576) :
    Calls Try.prog 30 #[.slice a xs.length cp] w fun e w' => ∃ v, e = .returned v ∧ Own w' w.heap.size v xs ∧ (v = .slice none 0 0 ∨ v ≠ .slice none 0 0) ∧ Below w.heap.size w w' := by
  rcases hx with rfl | ⟨b, off, rfl, hb, hc⟩
  · cases a with
    | none =>
      refine (Try.slices_Clone_int_nil 0 cp w).mono ?_
      rintro e w' ⟨rfl, rfl⟩
      exact ⟨_, rfl, own_none0 _ _, .inl rfl, Below.refl _ _⟩
    | some x =>
      refine (Try.slices_Clone_int_zero x cp w).mono ?_
      rintro e w' ⟨v, rfl, ho, hn, hB⟩
      exact ⟨v, rfl, ho, .inr hn, hB⟩
  · refine (Try.slices_Clone_int b off xs.length cp xs w (Nat.le_refl _) (by omega) (cells_of hc)).mono ?_
    rintro e w' ⟨v, rfl, ho, hn, hB⟩
    rw [List.take_length] at ho
    exact ⟨v, rfl, ho, .inr hn, hB⟩
set_option maxRecDepth 100000 in
set_option maxHeartbeats 2000000 in
open Go.Sort in
theorem irise (w : World) (a : Option Addr) (cp : Nat) (xs : List Int) (hx : IsL w a xs) (hl : xs.length ≤ 1048576) :
    Calls Try.prog 21 #[.slice a xs.length cp] w fun e w' => ∃ v, e = .returned v ∧ Own w' w.heap.size v (srt xs) ∧ Below w.heap.size w w' := by
  by_cases h0 : xs.length = 0
  · obtain rfl : xs = [] := List.length_eq_zero_iff.1 h0
    clear h0
    go_enter Try.func21, Try.ntmps21
    go_wp2_with fail
    refine (iclone w a cp [] hx hl).mono ?_
    rintro e w1 ⟨v, rfl, ho, _, hB⟩
    obtain ⟨av, cv, rfl, _⟩ := ho.isl
    simp only [List.length_nil] at ho ⊢
    go_wp2_with (first
      | (go_at_call 31; refine (Try.slices_Sort_int_none av cv _).mono ?_; rintro e w' ⟨rfl, hw⟩; subst w')
      | (go_at_call 32; refine (Try.slices_Compact_int_empty av cv _).mono ?_; rintro e w' ⟨rfl, hw⟩; subst w'))
    go_ret
    exact ⟨_, rfl, ho, hB⟩
  · go_enter Try.func21, Try.ntmps21
    go_wp2_with fail
    refine (iclone w a cp xs hx hl).mono ?_
    rintro e w1 ⟨v, rfl, ho, hn, hB⟩
    have hn : v ≠ .slice none 0 0 := by
      rcases hn with hn | hn
      · intro _
        obtain ⟨a', c', e, _⟩ := ho.isl
        rw [hn] at e
        injection e with _ e2 _
        exact h0 e2.symm
      · exact hn
    obtain ⟨g, cap, rfl, hbg, hgl, hncap, hcm, hlen, hH⟩ := Lib.holds_of_ownsRow (enc := Value.int .i64) (zs := xs) ho hn
    have hsort := Try.slices_Sort_int g 0 cap xs w1 hH hgl (by omega)
    have X : Aside (w1.ownsRow w.heap.size 3 1 (.slice (some ⟨g, 0, none⟩) xs.length cap) xs.length (xs.map (Value.int .i64)) ∧ Below w.heap.size w w1 ∧ w.heap.size ≤ g ∧ g < w1.heap.size ∧ xs.length ≤ cap ∧ Holds (Value.int .i64) w1 g 0 xs.toArray) := ⟨ho, hB, hbg, hgl, hncap, hH⟩
    clear ho hB hH hn hlen
    go_wp2_with fail
    refine hsort.mono ?_
    rintro e w2 ⟨rfl, nn, os, rfl⟩
    have hl2 : (xs.mergeSort fun x y => decide (x ≤ y)).length = xs.length := List.length_mergeSort xs
    have hH2 : Holds (Value.int .i64) (grow (putRow (Value.int .i64) (Sort.ahead w1 nn) g 0 (xs.mergeSort fun x y => decide (x ≤ y)).toArray) os) g 0 (xs.mergeSort fun x y => decide (x ≤ y)).toArray :=
      holds_grow _ _ os g 0 _ (by simpa [putRow, mapBlock, Sort.ahead] using X.out.2.2.2.1) (holds_putRow _ _ g 0 _ _ (holds_ahead _ w1 nn g 0 _ X.out.2.2.2.2.2) (by simp))
    have hcomp := Try.slices_Compact_int g 0 cap (xs.mergeSort fun x y => decide (x ≤ y)) _ hH2 (by omega) (by have := X.out.2.2.2.2.1; omega)
    rw [hl2] at hcomp
    clear hH2 hsort hl2
    go_wp2_with fail
    refine hcomp.mono ?_
    rintro e w3 ⟨rfl, q, rfl⟩
    have hfin := left_of (q := q) (nn := nn) (os := os) X.out.1 X.out.2.1 X.out.2.2.1 rfl
    have HF : Aside (Own _ w.heap.size (.slice (some ⟨g, 0, none⟩) (Lib.compact (xs.mergeSort fun x y => decide (x ≤ y))).length cap) (srt xs) ∧ Below w.heap.size w _) := hfin
    clear hfin hcomp
    go_wp2
    go_ret
    exact ⟨_, rfl, HF.out.1, HF.out.2⟩

set_option maxRecDepth 100000 in
set_option maxHeartbeats 2000000 in
theorem ibut (w : World) (base : Nat) (vv : Value) (v : List Int) (ho : Own w base vv v) (hl : v.length ≤ 1048576) :
    Calls Try.prog 22 #[vv] w fun e w' => ∃ u, e = .returned u ∧ Own w' w.heap.size u (v.take (v.length - 1)) ∧ Below w.heap.size w w' := by
  obtain ⟨a, cap, rfl, hcap, hi⟩ := Tb.isl_cap ho
  by_cases h0 : v.length = 0
  · obtain rfl : v = [] := List.length_eq_zero_iff.1 h0
    clear h0
    simp only [List.length_nil, List.take_nil]
    go_enter Try.func22, Try.ntmps22
    go_wp2
    go_ret
    exact ⟨_, rfl, own_none0 _ _, Below.refl _ _⟩
  · have hne : ((v.length : Int) == 0) = false := by simpa using h0
    rcases hi with rfl | ⟨b, off, rfl, hb, hc⟩
    · exact absurd rfl h0
    have hi2 : IsL w (some ⟨b, off, none⟩) (v.take (v.length - 1)) := by
      refine .inr ⟨b, off, rfl, hb, fun j hj => ?_⟩
      have hj' : j < v.length := by simp at hj; omega
      rw [hc j hj']; simp
    have hlt : (v.take (v.length - 1)).length = v.length - 1 := by simp
    have HC : Hid (Calls Try.prog 30 #[.slice (some ⟨b, off, none⟩) (v.length - 1) cap] w fun e w' => ∃ u, e = .returned u ∧ Own w' w.heap.size u (v.take (v.length - 1)) ∧ (u = .slice none 0 0 ∨ u ≠ .slice none 0 0) ∧ Below w.heap.size w w') := by
      have := iclone w (some ⟨b, off, none⟩) cap (v.take (v.length - 1)) hi2 (by omega)
      rwa [hlt] at this
    clear hi2 hlt hc ho
    have hqc : v.length - 1 ≤ cap := by omega
    have hv1 : 1 ≤ v.length := by omega
    go_enter Try.func22, Try.ntmps22
    go_wp2_with fail
    refine HC.out.mono ?_
    rintro e w1 ⟨u, rfl, ho, _, hB⟩
    go_wp2
    go_ret
    exact ⟨_, rfl, ho, hB⟩
set_option maxRecDepth 100000 in
set_option maxHeartbeats 2000000 in
theorem isprd (w : World) (base : Nat) (vv : Value) (v : List Int) (q : Nat) (ho : Own w base vv v) (hl : v.length ≤ 1000) (hq : q ≤ 12) (hm : q + 1 < v.length) :
    Calls Try.prog 23 #[vv, .int .i64 q] w fun e w' => ∃ u, e = .returned u ∧ Own w' w.heap.size u (spr v q q) ∧ Below w.heap.size w w' := by
  obtain ⟨i0, hi, hz0, hz1, hz2⟩ := info_parts info_int
  obtain ⟨a, cap, rfl, hx⟩ := ho.isl
  have hvne : ¬ v = [] := fun e => by rw [e] at hm; simp at hm
  rcases hx with h0 | ⟨b, off, rfl, hb, hc⟩
  · exact absurd h0 hvne
  have HC : Hid (∀ j (hj : j < v.length), w.cell? ⟨b, off + j, none⟩ = some (.int .i64 v[j])) := hc
  clear hc ho
  go_enter Try.func23, Try.ntmps23
  go_wp2_with (at_make; refine wpList_make_full _ rfl _ _ 24 rfl w.heap.size 3 i0 (.int .i64 0) 1 Try.underlying24 hi hz0 hz1 _ _ _ _ q rfl rfl (by omega) (by omega) (by rw [hz2]; omega) (by unfold maxLen; omega) (Nat.le_refl _) ?_; intro w1 hown hgrow)
  have hown' := own_made hown
  have hB1 := below_none hgrow
  clear hown hgrow
  go_loopw [12] (fun i wr => ∃ k : Nat, k ≤ q ∧ i = .int .i64 k ∧ ∃ l : List Int, l.length = q ∧ Like l (spr v q q) k ∧ Own wr w.heap.size (.slice (some ⟨w.heap.size, 0, none⟩) q q) l ∧ Below w.heap.size w wr) (fun i _ => q - (intOf i).toNat)
  case atStart => exact ⟨0, Nat.zero_le _, rfl, _, by simp, fun j hj => by omega, hown', hB1⟩
  case round =>
    obtain ⟨k, hk, rfl, l, hll, hlike, hown, hB⟩ := hrel
    by_cases hlt : k < q
    · have hp1 := plc_lt hm hlt
      have hp0 := plc_pos (j := k) hm
      have hpl : plc v.length q k < v.length := by unfold plc; omega
      have hcx : wr.cell? ⟨b, off + plc v.length q k, none⟩ = some (.int .i64 v[plc v.length q k]) := (hB.cell (by exact hb)).trans (HC.out _ hpl)
      have hcl := hown.cell hll k (by omega)
      have hcf := hown.frozen hll k
      have HO : Hid (Own wr w.heap.size (.slice (some ⟨w.heap.size, 0, none⟩) q q) l) := hown
      have HL : Hid (Like (l.set k v[plc v.length q k]) (spr v q q) (k + 1)) := by
        have := like_set hlike (by rw [spr_len]; exact hlt) (by rw [spr_len]; exact hll)
        have e : (spr v q q)[k]'(by rw [spr_len]; exact hlt) = v[plc v.length q k] := by
          unfold spr
          simp [List.getD_eq_getElem?_getD, List.getElem?_eq_getElem hpl]
        rwa [e] at this
      have hidx := plc_go hlt hq hl hm
      obtain ⟨y, ey⟩ : ∃ y, v[plc v.length q k] = y := ⟨_, rfl⟩
      rw [ey] at hcx HL
      obtain ⟨z, ez⟩ : ∃ z, plc v.length q k = z := ⟨_, rfl⟩
      rw [ez] at hcx hidx hpl
      obtain ⟨c0, ec⟩ : ∃ c, l[k]'(by omega) = c := ⟨_, rfl⟩
      rw [ec] at hcl
      clear ey ez ec hp0 hp1 hown hlike
      have HLL : Hid (l.length = q) := hll
      clear hll
      go_wp2
      go_roundw
      case rel => exact ⟨k + 1, by omega, by go_num, l.set k y, by have := HLL.out; simpa using this, HL.out, HO.out.set HLL.out k _, hB.setCell (p := ⟨w.heap.size, k, none⟩) (Nat.le_refl _) _⟩
      case measure => simp [intOf]; omega
    · obtain rfl : k = q := by omega
      obtain rfl := like_all (xs := spr v k k) (by rw [spr_len]; exact hlike) (by rw [spr_len]; exact hll)
      go_wp2
      go_ret
      exact ⟨_, rfl, hown, hB⟩
set_option maxRecDepth 100000 in
set_option maxHeartbeats 2000000 in
theorem ibor (w : World) (a : Option Addr) (cp : Nat) (xs : List Int) (most : Int) (hx : IsL w a xs) (hl : xs.length ≤ 1048576) :
    Calls Try.prog 7 #[.slice a xs.length cp, .int .i64 most] w fun e w' => ∃ v, e = .returned v ∧ Own w' w.heap.size v (bor xs most) ∧ Below w.heap.size w w' := by
  by_cases h : xs.length ≤ 1000 ∧ 0 ≤ most ∧ most ≤ 12 ∧ aok xs = true
  · have HR : Hid (bor xs most = cut (srt xs) most.toNat) := bor_yes h
    obtain ⟨q, rfl⟩ : ∃ q : Nat, most = (q : Int) := ⟨most.toNat, by omega⟩
    obtain ⟨h1, h2, h3, h4⟩ := h
    have HR : Hid (bor xs (q : Int) = cut (srt xs) q) := HR
    have hd1 : decide (1000 < (xs.length : Int)) = false := by simp; omega
    have hd2 : decide ((q : Int) < 0) = false := decide_eq_false (by omega)
    have hd3 : decide (12 < (q : Int)) = false := by simp; omega
    have hq : q ≤ 12 := by omega
    have hvl := srt_len xs
    obtain ⟨v, hv⟩ : ∃ v, srt xs = v := ⟨_, rfl⟩
    have HV : Hid (srt xs = v) := hv
    rw [hv] at hvl HR
    clear hv h2 h3
    go_enter Try.func7, Try.ntmps7
    go_wp2_with (first
      | (go_at_call 20; refine (iall _ _ _ xs hx hl).mono ?_; rintro e w' ⟨rfl, hw⟩; subst w'; rw [h4]))
    clear h4
    refine (irise _ _ _ xs hx hl).mono ?_
    rintro e w1 ⟨vv, rfl, hov, hB⟩
    rw [HV.out] at hov
    by_cases hm : v.length ≤ q + 1
    · have hle : decide ((v.length : Int) - 1 ≤ (q : Int)) = true := by simp; omega
      have HE : Hid (bor xs (q : Int) = v.take (v.length - 1)) := by rw [HR.out]; exact cut_few hm
      have hcall := ibut w1 _ vv v hov (by omega)
      obtain ⟨av, cv, rfl, _⟩ := hov.isl
      go_wp2_with (go_at_call 22; refine hcall.mono ?_; rintro e w2 ⟨u, rfl, ho2, hB2⟩)
      go_ret
      exact ⟨_, rfl, by rw [HE.out]; exact ho2.mono hB.size, hB.trans (hB2.mono hB.size)⟩
    · have hle : decide ((v.length : Int) - 1 ≤ (q : Int)) = false := by simp; omega
      have HE : Hid (bor xs (q : Int) = spr v q q) := by rw [HR.out]; exact cut_many hm
      have hcall := isprd w1 _ vv v q hov (by omega) hq (by omega)
      obtain ⟨av, cv, rfl, _⟩ := hov.isl
      go_wp2_with (go_at_call 23; refine hcall.mono ?_; rintro e w2 ⟨u, rfl, ho2, hB2⟩)
      go_ret
      exact ⟨_, rfl, by rw [HE.out]; exact ho2.mono hB.size, hB.trans (hB2.mono hB.size)⟩
  · have HR : Hid (bor xs most = []) := bor_no h
    by_cases g1 : 1000 < xs.length
    · have hd1 : decide (1000 < (xs.length : Int)) = true := by simp; omega
      go_enter Try.func7, Try.ntmps7
      go_wp2
      go_ret
      exact ⟨_, rfl, by rw [HR.out]; exact own_none0 _ _, Below.refl _ _⟩
    have hd1 : decide (1000 < (xs.length : Int)) = false := by simp; omega
    by_cases g2 : most < 0
    · have hd2 : decide (most < 0) = true := by simpa using g2
      go_enter Try.func7, Try.ntmps7
      go_wp2
      go_ret
      exact ⟨_, rfl, by rw [HR.out]; exact own_none0 _ _, Below.refl _ _⟩
    have hd2 : decide (most < 0) = false := by simp; omega
    by_cases g3 : 12 < most
    · have hd3 : decide (12 < most) = true := by simpa using g3
      go_enter Try.func7, Try.ntmps7
      go_wp2
      go_ret
      exact ⟨_, rfl, by rw [HR.out]; exact own_none0 _ _, Below.refl _ _⟩
    have hd3 : decide (12 < most) = false := by simp; omega
    have h4 : aok xs = false := by
      cases e : aok xs with
      | false => rfl
      | true => exact absurd ⟨by omega, by omega, by omega, e⟩ h
    clear h
    go_enter Try.func7, Try.ntmps7
    go_wp2_with (first
      | (go_at_call 20; refine (iall _ _ _ xs hx hl).mono ?_; rintro e w' ⟨rfl, hw⟩; subst w'; rw [h4]))
    go_ret
    exact ⟨_, rfl, by rw [HR.out]; exact own_none0 _ _, Below.refl _ _⟩
end Go.Proofs.Ytbdffmfaebdgfaa.Bi
