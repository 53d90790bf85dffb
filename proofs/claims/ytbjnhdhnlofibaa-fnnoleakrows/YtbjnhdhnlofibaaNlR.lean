/-
  What the laws pick; lists of lists that are the same; what the model draws for Matrix: a table and a Conf.
-/
import Derived.Test.YtbjnhdhnlofibaaDrawY
import Derived.Test.YtbjnhdhnlofibaaDrawC
import Derived.Test.YtbjnhdhnlofibaaSeO
import Derived.Deep.RegionHeld3
import Derived.Deep.RegionHeldLaw
namespace Go.Proofs.Ytbjnhdhnlofibaa.Nl
set_option maxRecDepth 20000
open Go.RowKit
open Go.Proofs.Ytbjnhdhnlofibaa.Sv (IsV tot tot_at)
open Go.Proofs.Ytbjnhdhnlofibaa.Tb
open Go.Proofs.Ytbjnhdhnlofibaa.Tk
set_option linter.unusedVariables false
set_option maxHeartbeats 2000000 in
theorem lpick (w : World) (B : Nat) (a : Option Addr) (len cap : Nat) (hb : Cu.Bytes w B a len) (hl : (len : Int) ≤ 1048576) (i : Int) (i0 : 0 ≤ i) (i1 : i ≤ 1000) (n : Int) (hn : 2 ≤ n) (hn' : n ≤ 1000) :
    Calls Try.prog 12 #[.slice a len cap, .int .i64 i, .int .i64 n] w fun e w' => ∃ x : Int, e = .returned (.int .i64 x) ∧ 0 ≤ x ∧ x < n ∧ w' = w := by
  by_cases h0 : len = 0
  · subst h0
    go_enter Try.func12, Try.ntmps12
    go_wp2
    go_ret
    exact ⟨0, rfl, by omega, by omega, rfl⟩
  have h0' : ((len : Int) == 0) = false := by simp; omega
  rcases hb with rfl | ⟨cb, off, rfl, hcb, hc⟩
  · exact absurd rfl h0
  go_enter Try.func12, Try.ntmps12
  go_wp2
  go_loop [7, 8] (fun x k => ∃ (q : Nat) (y : Int), q ≤ 3 ∧ k = .int .i64 q ∧ x = .int .i64 y ∧ 0 ≤ y ∧ y ≤ 253215 ∧ (q = 0 → y ≤ 0) ∧ (q = 1 → y ≤ 255) ∧ (q = 2 → y ≤ 8160)) (fun _ k => 3 - (intOf k).toNat)
  case atStart => exact ⟨0, 0, by omega, rfl, rfl, by omega, by omega, by omega, by omega, by omega⟩
  case round =>
    obtain ⟨q, y, hq, rfl, rfl, y0, y1, z0, z1, z2⟩ := hrel
    by_cases h3 : q < 3
    · have m0 := Int.emod_nonneg (i + (q : Int)) (show (len : Int) ≠ 0 by omega)
      have m1 := Int.emod_lt_of_pos (i + (q : Int)) (show 0 < (len : Int) by omega)
      obtain ⟨b, hb, b0, b1⟩ := hc ((i + (q : Int)) % (len : Int)).toNat (by omega)
      clear hc
      have y2 : y ≤ 8160 := by omega
      have Z0 : Hid (q = 0 → y ≤ 0) := z0
      have Z1 : Hid (q = 1 → y ≤ 255) := z1
      clear z0 z1 z2
      go_wp2
      go_round
      case rel => exact ⟨q + 1, 31 * y + b, by omega, by go_num, rfl, by omega, by omega, by omega, by have := Z0.out; omega, by have := Z1.out; omega⟩
      case measure => simp [intOf]; omega
    · have h3' : q = 3 := by omega
      subst h3'
      clear z0 z1 z2
      have m0 := Int.emod_nonneg (y + i) (show n ≠ 0 by omega)
      have m1 := Int.emod_lt_of_pos (y + i) (show 0 < n by omega)
      go_wp2
      go_ret
      exact ⟨_, rfl, m0, m1, rfl⟩
set_option maxHeartbeats 1000000 in
theorem lpick1 (w : World) (B : Nat) (a : Option Addr) (len cap : Nat) (hb : Cu.Bytes w B a len) (hl : (len : Int) ≤ 1048576) (i : Int) (i0 : 0 ≤ i) (i1 : i ≤ 1000) (n : Int) (hn : 1 ≤ n) (hn' : n ≤ 1000) :
    Calls Try.prog 12 #[.slice a len cap, .int .i64 i, .int .i64 n] w fun e w' => ∃ x : Int, e = .returned (.int .i64 x) ∧ 0 ≤ x ∧ x < n ∧ w' = w := by
  by_cases h2 : 2 ≤ n
  · exact lpick w B a len cap hb hl i i0 i1 n h2 hn'
  · obtain rfl : n = 1 := by omega
    cases hz : ((len : Int) == 0)
    all_goals
      go_enter Try.func12, Try.ntmps12
      go_wp2
      go_ret
      exact ⟨0, rfl, by omega, by omega, rfl⟩
set_option maxHeartbeats 1000000 in
theorem sameVecs (w : World) (a b : Option Addr) (ca cb : Nat) (xs : List (List Int)) (hx : IsV w a xs) (hy : IsV w b xs) (hl : xs.length + tot xs ≤ 1048576) :
    Calls Try.prog 10 #[.slice a xs.length ca, .slice b xs.length cb] w fun e w' => e = .returned (.bool true) ∧ Below w.heap.size w w' := by
  have hne : ((xs.length : Int) != (xs.length : Int)) = false := by simp
  go_enter Try.func10, Try.ntmps10
  go_wp2
  go_loopw [5] (fun i wr => ∃ j : Nat, j ≤ xs.length ∧ i = .int .i64 j ∧ Below w.heap.size w wr) (fun i _ => xs.length - (intOf i).toNat)
  case atStart => exact ⟨0, Nat.zero_le _, rfl, Below.refl _ _⟩
  case round =>
    obtain ⟨j, hj, rfl, hB⟩ := hrel
    by_cases hlt : j < xs.length
    · rcases hx.below hB with h0 | ⟨xb, xo, rfl, hxb, hxc⟩
      · rw [h0] at hlt; simp at hlt
      rcases hy.below hB with h0 | ⟨yb, yo, rfl, hyb, hyc⟩
      · rw [h0] at hlt; simp at hlt
      obtain ⟨a0, c0, x0, i0⟩ := hxc j hlt
      obtain ⟨b0, d0, y0, k0⟩ := hyc j hlt
      have hta := tot_at xs j hlt
      obtain ⟨t, ht⟩ : ∃ t, xs[j] = t := ⟨_, rfl⟩
      rw [ht] at x0 i0 y0 k0 hta
      have HI0 : Hid (Li.IsL wr a0 t) := i0
      have HK0 : Hid (Li.IsL wr b0 t) := k0
      have HB : Hid (Below w.heap.size w wr) := hB
      have HBD : Hid (Below wr.heap.size wr wr.drew) := (Below.refl wr.heap.size wr).drew
      clear hxc hyc ht i0 k0 hB
      go_wp2_with fail
      go_region_held3 (fun w' => w'.cell? ⟨xb, xo + j, none⟩ = some (.slice a0 t.length c0) ∧ w'.cell? ⟨yb, yo + j, none⟩ = some (.slice b0 t.length d0)) (go_keep) (first
        | (go_at_call 13
           refine (Li.same_bel wr.drew _ _ _ _ t t (HI0.out.below HBD.out) (HK0.out.below HBD.out) (by omega) (by omega)).mono ?_
           rintro e w1 ⟨rfl, hb⟩
           rw [Li.eqs_self]
           have HY0 : Hid (Below wr.heap.size wr w1) := HBD.out.trans hb
           have z0 := (HY0.out.cell (p := ⟨xb, xo + j, none⟩) hxb).trans x0
           have z2 := (HY0.out.cell (p := ⟨yb, yo + j, none⟩) hyb).trans y0
           clear hb))
      have hB1 := HB.out.trans (HY0.out.mono HB.out.size)
      clear HY0 HB HI0 HK0 HBD
      go_wp2
      go_roundw
      case rel => exact ⟨j + 1, by omega, by go_num, hB1⟩
      case measure => simp [intOf]; omega
    · go_wp2
      go_ret
      exact ⟨rfl, hB⟩
set_option maxHeartbeats 4000000 in
theorem drawMat (w : World) (a : Option Addr) (len cap : Nat) (hB : Cu.Bytes w w.heap.size a len) (hl : (len : Int) ≤ 1048576) :
    Calls Try.prog 7 #[.slice a len cap] w fun e w' => ∃ (n c : Int) (p : Option Addr) (q : Nat) (rs : List Row) (k : Cf.C), e = .returned (.tuple #[.agg #[.int .i64 n, .int .i64 c, .slice p rs.length q], .agg #[.int .i64 k.trees, .int .i64 k.depth, .int .i64 k.most, .int .i64 k.rate, .int .i64 k.l2, .int .i64 k.prior, .int .i64 k.seed]]) ∧ (rs.length ≤ 41 ∧ ∀ r ∈ rs, Row.sz r ≤ 60 ∧ Row.fits r) ∧ IsR w' p rs ∧ Below w.heap.size w w' := by
  go_enter Try.func7, Try.ntmps7
  go_wp2_with fail
  obtain ⟨W, hW, hsz, hBW, b1, b2⟩ := Sv.new2 w [.int .i64 0, .int .i64 0, .slice none 0 0] [.int .i64 0, .int .i64 0, .int .i64 0, .int .i64 0, .int .i64 0, .int .i64 0, .int .i64 0] 28 30
  rw [hW]
  clear hW
  have HS : Hid (W.heap.size = w.heap.size + 2) := hsz
  have hs2 : w.heap.size + 1 < W.heap.size := by omega
  clear hsz
  have hBy : Cu.Bytes W W.heap.size a len := hB.keptB hBW.size (fun k hk => hBW.block k hk)
  refine (Cu.open_any _ _ _ _ hBy hl).mono ?_
  rintro e w1 ⟨rfl, hg1, hc1⟩
  have hlt1 := hc1.lt
  have b1 := b1.keptAt hg1.size (hg1.block _ b1.1 (fun e => by injection e; omega))
  have b2 := b2.keptAt hg1.size (hg1.block _ b2.1 (fun e => by injection e; omega))
  have hBW1 : Below w.heap.size w w1 := hBW.trans ⟨hg1.os, hg1.tape, hg1.output, hg1.size, fun k hk => hg1.block k (by omega) (fun e => by injection e; omega)⟩
  clear hg1 hBW hBy hB
  go_wp2_with fail
  refine (Db.anyTable_any _ _ _ hc1 (by omega)).mono ?_
  rintro e w2 ⟨n, c, p, q, rs, rfl, hrs, hrd, hg2, hc2⟩
  have b1 := b1.keptAt hg2.size (hg2.block _ b1.1 (fun e => by injection e; omega))
  have b2 := b2.keptAt hg2.size (hg2.block _ b2.1 (fun e => by injection e; omega))
  have hBW2 : Below w.heap.size w w2 := hBW1.trans ⟨hg2.os, hg2.tape, hg2.output, hg2.size, fun k hk => hg2.block k (by omega) (fun e => by injection e; omega)⟩
  have h12 := hg2.size
  have HRD2 : Hid (Db.ReadT w2 w1.heap.size p rs) := hrd
  have HRS : Hid (rs.length ≤ 41 ∧ ∀ r ∈ rs, Row.sz r ≤ 60 ∧ Row.fits r) := hrs
  have HC2 : Hid (Cu.Cur w2 W.heap.size (0 + 2000)) := hc2
  have hb2W : W.heap.size < w2.heap.size := by omega
  clear hg2 hBW1 hc1 hrd hrs hc2
  go_wp2_with fail
  obtain ⟨w3, hw3, hsz3, hb3, bt⟩ := Sv.new1 w2 [.int .i64 n, .int .i64 c, .slice p rs.length q] 28
  rw [hw3]
  have hc3 : Cu.Cur w3 W.heap.size (0 + 2000) := by rw [← hw3]; exact HC2.out.alloc _
  have hrd3 : Db.ReadT w3 w1.heap.size p rs := by rw [← hw3]; exact HRD2.out.alloc _
  have b1 := b1.below hb3
  have b2 := b2.below hb3
  have hB3 := hBW2.trans (hb3.mono hBW2.size)
  clear hw3 hb3 HRD2 HC2 hBW2 hb2W
  obtain ⟨D, hD⟩ : ∃ D, w2.heap.size = D := ⟨_, rfl⟩
  rw [hD] at bt h12 hsz3 ⊢
  clear hD
  have hDW : ¬ D = W.heap.size := by omega
  have hD3 : D < w3.heap.size := by omega
  obtain ⟨X, hX⟩ : ∃ X, W.heap.size = X := ⟨_, rfl⟩
  have hsz := HS.out
  rw [hX] at hc3 hDW hlt1 hsz hs2
  obtain ⟨H, hH⟩ : ∃ H, w.heap.size = H := ⟨_, rfl⟩
  rw [hH] at b1 b2 hsz hB3 hs2 ⊢
  try rw [hX]
  have HH : Hid (w.heap.size = H) := hH
  have HT3 : Hid (Sv.Wr w3 D 0 [.int .i64 n, .int .i64 c, .slice p rs.length q]) := bt
  have HB1 : Hid (Sv.Wr w3 H 0 [.int .i64 0, .int .i64 0, .slice none 0 0]) := b1
  have HB2 : Hid (Sv.Wr w3 (H + 1) 0 [.int .i64 0, .int .i64 0, .int .i64 0, .int .i64 0, .int .i64 0, .int .i64 0, .int .i64 0]) := b2
  have HC3 : Hid (Cu.Cur w3 X (0 + 2000)) := hc3
  have HRD : Hid (Db.ReadT w3 w1.heap.size p rs) := hrd3
  have HB3 : Hid (Below H w w3) := hB3
  have HX1 : Hid (X < w1.heap.size ∧ w1.heap.size ≤ D ∧ X = H + 2 ∧ w3.heap.size = D + 1) := ⟨hlt1, h12, by omega, by omega⟩
  have hXH : ¬ H = X := by omega
  have hXH1 : ¬ H + 1 = X := by omega
  have hHD : ¬ D = H := by omega
  have hHD1 : ¬ D = H + 1 := by omega
  have hHw : H < w3.heap.size := by omega
  have hHw1 : H + 1 < w3.heap.size := by omega
  obtain ⟨_, ⟨t0, t1, t2⟩⟩ : D < w3.heap.size ∧ (w3.cell? ⟨D, 0, none⟩ = some (.int .i64 n) ∧ w3.cell? ⟨D, 1, none⟩ = some (.int .i64 c) ∧ w3.cell? ⟨D, 2, none⟩ = some (.slice p rs.length q)) := ⟨bt.1, by have := (bt.2 0 (by simp)).1; simpa using this, by have := (bt.2 1 (by simp)).1; simpa using this, by have := (bt.2 2 (by simp)).1; simpa using this⟩
  clear bt b1 b2 hc3 hrd3 hB3 hH hX hlt1 h12 hsz hsz3 HS
  have HCD : Hid (Cu.Cur w3.drew X (0 + 2000)) := HC3.out.drew
  go_region_with (go_at_call 29
                  refine (Dc.conf_any _ _ _ HCD.out (by omega)).mono ?_
                  rintro e w4 ⟨k, rfl, hg4, hc4⟩
                  have hg4 : w3.grownBy w4 (some X) := ⟨hg4.os, hg4.tape, hg4.output, hg4.size, hg4.block⟩
                  have HG4 : Hid (w3.grownBy w4 (some X)) := hg4
                  have hs4 := hg4.size
                  have T4 := HT3.out.keptAt hg4.size (hg4.block D hD3 (fun e => hDW (by injection e)))
                  obtain ⟨_, ⟨u0, u1, u2⟩⟩ : D < w4.heap.size ∧ (w4.cell? ⟨D, 0, none⟩ = some (.int .i64 n) ∧ w4.cell? ⟨D, 1, none⟩ = some (.int .i64 c) ∧ w4.cell? ⟨D, 2, none⟩ = some (.slice p rs.length q)) := ⟨T4.1, by have := (T4.2 0 (by simp)).1; simpa using this, by have := (T4.2 1 (by simp)).1; simpa using this, by have := (T4.2 2 (by simp)).1; simpa using this⟩
                  have A4 := HB1.out.keptAt hg4.size (hg4.block H hHw (fun e => hXH (by injection e)))
                  obtain ⟨a0, af0⟩ : w4.cell? ⟨H, 0, none⟩ = some (.int .i64 0) ∧ w4.frozen? ⟨H, 0, none⟩ = false := by have := A4.2 0 (by simp); simpa using this
                  obtain ⟨a1, af1⟩ : w4.cell? ⟨H, 1, none⟩ = some (.int .i64 0) ∧ w4.frozen? ⟨H, 1, none⟩ = false := by have := A4.2 1 (by simp); simpa using this
                  obtain ⟨a2, af2⟩ : w4.cell? ⟨H, 2, none⟩ = some (.slice none 0 0) ∧ w4.frozen? ⟨H, 2, none⟩ = false := by have := A4.2 2 (by simp); simpa using this
                  have B4 := HB2.out.keptAt hg4.size (hg4.block (H + 1) hHw1 (fun e => hXH1 (by injection e)))
                  obtain ⟨_, ⟨m0, m1, m2, m3, m4, m5, m6⟩, n0, n1, n2, n3, n4, n5, n6⟩ := Dc.wr7 B4
                  have hHw4 : H < w4.heap.size := by omega
                  have hHw41 : H + 1 < w4.heap.size := by omega
                  clear hg4 hc4 T4 A4 B4)
  all_goals
    have HI : Hid (∀ x0 x1 x2 y0 y1 y2 y3 y4 y5 y6 : Value, IsR ((((((((((w4.setCell ⟨H, 0, none⟩ x0).setCell ⟨H, 1, none⟩ x1).setCell ⟨H, 2, none⟩ x2).setCell ⟨H + 1, 0, none⟩ y0).setCell ⟨H + 1, 1, none⟩ y1).setCell ⟨H + 1, 2, none⟩ y2).setCell ⟨H + 1, 3, none⟩ y3).setCell ⟨H + 1, 4, none⟩ y4).setCell ⟨H + 1, 5, none⟩ y5).setCell ⟨H + 1, 6, none⟩ y6) p rs ∧ Below H w ((((((((((w4.setCell ⟨H, 0, none⟩ x0).setCell ⟨H, 1, none⟩ x1).setCell ⟨H, 2, none⟩ x2).setCell ⟨H + 1, 0, none⟩ y0).setCell ⟨H + 1, 1, none⟩ y1).setCell ⟨H + 1, 2, none⟩ y2).setCell ⟨H + 1, 3, none⟩ y3).setCell ⟨H + 1, 4, none⟩ y4).setCell ⟨H + 1, 5, none⟩ y5).setCell ⟨H + 1, 6, none⟩ y6)) := fun x0 x1 x2 y0 y1 y2 y3 y4 y5 y6 => by
      have hX1 := HX1.out
      have hb4 : Below H w w4 := HB3.out.trans ⟨HG4.out.os, HG4.out.tape, HG4.out.output, HG4.out.size, fun k hk => HG4.out.block k (by omega) (fun e => by injection e; omega)⟩
      have key : ∀ {U : World} (g o : Nat) (x : Value), H ≤ g → g < H + 2 → Below H w U → (w3.heap.size ≤ U.heap.size ∧ ∀ k, k < w3.heap.size → w1.heap.size < k → U.heap[k]? = w3.heap[k]?) → Below H w (U.setCell ⟨g, o, none⟩ x) ∧ (w3.heap.size ≤ (U.setCell ⟨g, o, none⟩ x).heap.size ∧ ∀ k, k < w3.heap.size → w1.heap.size < k → (U.setCell ⟨g, o, none⟩ x).heap[k]? = w3.heap[k]?) := fun {U} g o x h1 h2 hb hh =>
        ⟨hb.setCell (p := ⟨g, o, none⟩) h1 _, by simpa [World.setCell] using hh.1, fun k hk hk' => (Below.heap_setCell _ _ _ _ (fun e => by have : k = g := e; omega)).trans (hh.2 k hk hk')⟩
      have s0 : Below H w w4 ∧ (w3.heap.size ≤ w4.heap.size ∧ ∀ k, k < w3.heap.size → w1.heap.size < k → w4.heap[k]? = w3.heap[k]?) := ⟨hb4, HG4.out.size, fun k hk hk' => HG4.out.block k hk (fun e => by injection e; omega)⟩
      have s1 := key H 0 x0 (by omega) (by omega) s0.1 s0.2
      have s2 := key H 1 x1 (by omega) (by omega) s1.1 s1.2
      have s3 := key H 2 x2 (by omega) (by omega) s2.1 s2.2
      have s4 := key (H + 1) 0 y0 (by omega) (by omega) s3.1 s3.2
      have s5 := key (H + 1) 1 y1 (by omega) (by omega) s4.1 s4.2
      have s6 := key (H + 1) 2 y2 (by omega) (by omega) s5.1 s5.2
      have s7 := key (H + 1) 3 y3 (by omega) (by omega) s6.1 s6.2
      have s8 := key (H + 1) 4 y4 (by omega) (by omega) s7.1 s7.2
      have s9 := key (H + 1) 5 y5 (by omega) (by omega) s8.1 s8.2
      have s10 := key (H + 1) 6 y6 (by omega) (by omega) s9.1 s9.2
      exact ⟨HRD.out _ s10.2.1 s10.2.2, s10.1⟩
    go_wp2
    refine bodyPost_ret (v := .tuple #[.agg #[.int .i64 n, .int .i64 c, .slice p rs.length q], .agg #[.int .i64 k.trees, .int .i64 k.depth, .int .i64 k.most, .int .i64 k.rate, .int .i64 k.l2, .int .i64 k.prior, .int .i64 k.seed]]) (by simp [results, Try.results7, go_sem, a0, a1, a2, m0, m1, m2, m3, m4, m5, m6]) rfl ?_
    exact ⟨n, c, p, q, rs, k, rfl, HRS.out, (HI.out _ _ _ _ _ _ _ _ _ _).1, by rw [HH.out]; exact (HI.out _ _ _ _ _ _ _ _ _ _).2⟩
end Go.Proofs.Ytbjnhdhnlofibaa.Nl
