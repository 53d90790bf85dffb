/-
  What the laws of words draw: contracts of the drawing functions; the laws' own pick.
-/
import Derived.Test.YthgjcplkladepaaDrawW
import Derived.Deep.DeepMust
namespace Go.Proofs.Ythgjcplkladepaa.Dw
open Go.RowKit

theorem tabT (l : List Value) (hall : l.all oks = true) (y : Int) (h0 : 0 ≤ y) (h1 : y < (l.length : Int)) : ∃ v : ByteArray, (∀ h, l[y.toNat]'h = .string v) ∧ v.size ≤ 3 := by
  have hlt : y.toNat < l.length := by omega
  obtain ⟨v, hv, hb⟩ := oks_str ((List.all_eq_true.1 hall) l[y.toNat] (by simp))
  exact ⟨v, fun _ => hv, hb⟩
theorem grown_two {w w2 w3 : World} {b : Nat} (h : w.grownBy w2 (some b)) (h' : w2.drew.grownBy w3 (some b)) : w.grownBy w3 (some b) := Cu.grown_trans h ⟨h'.os, h'.tape, h'.output, h'.size, h'.block⟩
theorem grown_twoA {w w2 w3 : World} {b : Nat} {o : Obj} (h : w.grownBy w2 (some b)) (h' : (w2.drew.alloc o).grownBy w3 (some b)) : w.grownBy w3 (some b) :=
  Cu.grown_trans (Cu.grown_trans h (w2 := w2.drew) ⟨rfl, rfl, rfl, Nat.le_refl _, fun _ _ _ => rfl⟩) (Cu.grown_trans (World.grownBy_alloc _ _ _) h')
set_option maxHeartbeats 1000000 in
theorem drawAll (w : World) (a : Option Addr) (len cap : Nat) (hB : Cu.Bytes w w.heap.size a len) (hl : (len : Int) ≤ 1048576) :
    Calls Try.prog 17 #[.slice a len cap] w fun e w' => ∃ vw vl vp ws ls ps p, e = .returned (.tuple #[vw, vl, vp, .int .i64 p]) ∧ ws.length ≤ 9 ∧ Sml3 ws ∧ ls.length ≤ 10 ∧ ps.length ≤ 100 ∧ Ls.Own w' w.heap.size vw ws ∧ Li.Own w' w.heap.size vl ls ∧ Li.Own w' w.heap.size vp ps ∧ Below w.heap.size w w' := by
  go_enter Try.func17, Try.ntmps17
  go_wp2_with fail
  refine (Cu.open_any _ _ _ _ hB hl).mono ?_
  rintro e w1 ⟨rfl, hg, hc⟩
  go_wp2_with fail
  refine (wordsOf _ _ _ hc (by omega)).mono ?_
  rintro e w2 ⟨vw, vl, vp, ws, ls, ps, p, rfl, h1, h2, h3, h4, ow, ol, op, hg2, hc2, nw, nl⟩
  have ow := ow.mono (base' := w.heap.size) hg.size
  have ol := ol.mono (base' := w.heap.size) hg.size
  have op := op.mono (base' := w.heap.size) hg.size
  have hB2 : Below w.heap.size w w2 := Cu.grown_below (Cu.grown_trans hg hg2) (Nat.le_refl _) (Nat.le_refl _)
  clear hc2 hg2 hg hc
  go_wp2
  refine bodyPost_ret (v := .tuple #[vw, vl, vp, .int .i64 p]) (by simp [results, Try.results17, go_sem]) rfl ?_
  exact ⟨vw, vl, vp, ws, ls, ps, p, rfl, h1, h2, h3, h4, ow, ol, op, hB2⟩
set_option maxHeartbeats 2000000 in
theorem drawOf (w : World) (a : Option Addr) (len cap : Nat) (hB : Cu.Bytes w w.heap.size a len) (hl : (len : Int) ≤ 1048576) :
    Calls Try.prog 14 #[.slice a len cap] w fun e w' => ∃ vw vl ws ls s p, e = .returned (.tuple #[vw, vl, .string s, .int .i64 p]) ∧ ws.length ≤ 9 ∧ Sml3 ws ∧ s.size ≤ 3 ∧ ls.length ≤ 10 ∧ Ls.Own w' w.heap.size vw ws ∧ Li.Own w' w.heap.size vl ls ∧ Below w.heap.size w w' ∧ vw ≠ .slice none 0 0 ∧ vl ≠ .slice none 0 0 := by
  go_enter Try.func14, Try.ntmps14
  go_wp2_with fail
  refine (Cu.open_any _ _ _ _ hB hl).mono ?_
  rintro e w1 ⟨rfl, hg, hc⟩
  go_wp2_with fail
  refine (wordsOf _ _ _ hc (by omega)).mono ?_
  rintro e w2 ⟨vw, vl, vp, ws, ls, ps, p, rfl, h1, h2, h3, h4, ow, ol, op, hg2, hc2, nw, nl⟩
  have hbw : w.heap.size < w1.heap.size := hc.lt
  have hbw2 : w.heap.size < w2.heap.size := hc2.lt
  have hgg := Cu.grown_trans hg hg2
  clear hg2 hc op
  have hs1 := hg.size
  clear hg
  go_wp2
  go_region_with (go_at_call 31
                  refine (Cu.pick_any _ _ _ (by first | exact hc2.drew | exact hc2.drew.alloc _) (by omega) _ (by omega)).mono ?_
                  rintro e w3 ⟨y, rfl, y0, y1, hg3, hz3, hc3⟩
                  have hb3 : w.heap.size < w3.heap.size := hc3.lt
                  have y2 : y < 3 := y1 (by omega)
                  obtain ⟨q, hv, hq3⟩ := tabT [.string ⟨#[97]⟩, .string ⟨#[98]⟩, .string ⟨#[122, 122]⟩] (by decide) y y0 (by simp; omega)
                  have ow3 : Hid (Ls.Own w3 w1.heap.size vw ws) := by first | exact sown_cur (w := World.drew _) ow hg3 hbw | exact sown_cur (World.ownsRow.alloc (w := World.drew _) ow _) hg3 hbw
                  have ol3 : Hid (Li.Own w3 w1.heap.size vl ls) := by first | exact Dp.own_cur (w := World.drew _) ol hg3 hbw | exact Dp.own_cur (World.ownsRow.alloc (w := World.drew _) ol _) hg3 hbw
                  have hgg3 : Hid (w.grownBy w3 (some w.heap.size)) := by first | exact grown_two hgg hg3 | exact grown_twoA hgg hg3
                  have hk3 := Ds.kept hg3
                  have hz3' := Nat.le_of_eq hz3.symm
                  have hz3'' := Nat.le_of_eq hz3
                  try simp at hz3'
                  try simp at hz3''
                  try simp at hk3
                  clear y1 hg3 hz3 hc3)
  all_goals
    go_wp2
    refine bodyPost_ret (v := .tuple #[vw, vl, .string q, .int .i64 p]) (by simp [results, Try.results14, go_sem]) rfl ?_
    exact ⟨vw, vl, ws, ls, q, p, rfl, h1, h2, hq3, h3, by first | exact ow3.out.mono (by omega) | exact (show Ls.Own (w3.alloc _) _ _ _ from World.ownsRow.alloc ow3.out _).mono (by omega), by first | exact ol3.out.mono (by omega) | exact (show Li.Own (w3.alloc _) _ _ _ from World.ownsRow.alloc ol3.out _).mono (by omega), by first | exact Cu.grown_below hgg3.out (Nat.le_refl _) (Nat.le_refl _) | exact Cu.grown_below (Cu.grown_alloc hgg3.out _) (Nat.le_refl _) (Nat.le_refl _), nw, nl⟩
set_option maxHeartbeats 4000000 in
theorem drawAt (w : World) (a : Option Addr) (len cap : Nat) (hB : Cu.Bytes w w.heap.size a len) (hl : (len : Int) ≤ 1048576) :
    Calls Try.prog 10 #[.slice a len cap] w fun e w' => ∃ vw vl vp ws ls ps k p, e = .returned (.tuple #[vw, vl, vp, .int .i64 k, .int .i64 p]) ∧ ws.length ≤ 9 ∧ Sml3 ws ∧ ls.length ≤ 10 ∧ ps.length ≤ 100 ∧ Ls.Own w' w.heap.size vw ws ∧ Li.Own w' w.heap.size vl ls ∧ Li.Own w' w.heap.size vp ps ∧ Below w.heap.size w w' ∧ vw ≠ .slice none 0 0 ∧ vl ≠ .slice none 0 0 := by
  go_enter Try.func10, Try.ntmps10
  go_wp2_with fail
  refine (Cu.open_any _ _ _ _ hB hl).mono ?_
  rintro e w1 ⟨rfl, hg, hc⟩
  go_wp2_with fail
  refine (wordsOf _ _ _ hc (by omega)).mono ?_
  rintro e w2 ⟨vw, vl, vp, ws, ls, ps, p, rfl, h1, h2, h3, h4, ow, ol, op, hg2, hc2, nw, nl⟩
  have hbw : w.heap.size < w1.heap.size := hc.lt
  have hbw2 : w.heap.size < w2.heap.size := hc2.lt
  have hgg := Cu.grown_trans hg hg2
  clear hg2 hc
  have hs1 := hg.size
  clear hg
  go_wp2
  go_region_with (first
    | (go_at_call_of 31 (Value.int .i64 10)
       refine (Cu.pick_any _ _ _ hc2.drew (by omega) _ (by omega)).mono ?_
       rintro e w3 ⟨x, rfl, x0, x1, hg3, hz3, hc3⟩
       have hb3 : w.heap.size < w3.heap.size := hc3.lt
       have x2 : x < 10 := x1 (by omega)
       have ow3 : Ls.Own w3 w1.heap.size vw ws := sown_cur (w := World.drew _) ow hg3 hbw
       have ol3 : Li.Own w3 w1.heap.size vl ls := Dp.own_cur (w := World.drew _) ol hg3 hbw
       have op3 : Li.Own w3 w1.heap.size vp ps := Dp.own_cur (w := World.drew _) op hg3 hbw
       have hgg3 : w.grownBy w3 (some w.heap.size) := grown_two hgg hg3
       clear x1 hg3 hz3)
    | (go_at_call 32
       refine (Cu.raw_any _ _ _ hc3 (by omega)).mono ?_
       rintro e w4 ⟨r, rfl, r0, r1, hg4, hc4⟩
       have hb4 : w.heap.size < w4.heap.size := hc4.lt
       have ow4 : Ls.Own w4 w1.heap.size vw ws := sown_cur ow3 hg4 hbw
       have ol4 : Li.Own w4 w1.heap.size vl ls := Dp.own_cur ol3 hg4 hbw
       have op4 : Li.Own w4 w1.heap.size vp ps := Dp.own_cur op3 hg4 hbw
       have hgg4 : w.grownBy w4 (some w.heap.size) := Cu.grown_trans hgg3 hg4
       clear hg4 hc3 ow3 ol3 op3 hgg3)
    | (go_at_call_of 31 (Value.int .i64 2)
       refine (Cu.pick_any _ _ _ (by first | exact hc4 | exact hc4.alloc _) (by omega) _ (by omega)).mono ?_
       rintro e w5 ⟨y, rfl, y0, y1, hg5, hz5, hc5⟩
       have hb5 : w.heap.size < w5.heap.size := hc5.lt
       have y2 : y < 2 := y1 (by omega)
       obtain ⟨q, hv, hq0, hq1⟩ := Ds.tabI [.int .i64 x, .int .i64 r] (-9223372036854775808) 9223372036854775807 (by simp [Cu.okv]; omega) y y0 (by simp; omega)
       have ow5 : Hid (Ls.Own w5 w1.heap.size vw ws) := by first | exact sown_cur ow4 hg5 hbw | exact sown_cur (World.ownsRow.alloc ow4 _) hg5 hbw
       have ol5 : Hid (Li.Own w5 w1.heap.size vl ls) := by first | exact Dp.own_cur ol4 hg5 hbw | exact Dp.own_cur (World.ownsRow.alloc ol4 _) hg5 hbw
       have op5 : Hid (Li.Own w5 w1.heap.size vp ps) := by first | exact Dp.own_cur op4 hg5 hbw | exact Dp.own_cur (World.ownsRow.alloc op4 _) hg5 hbw
       have hgg5 : Hid (w.grownBy w5 (some w.heap.size)) := by first | exact Cu.grown_trans hgg4 hg5 | exact Cu.grown_trans (Cu.grown_alloc hgg4 _) hg5
       have hk5 := Ds.kept hg5
       have hz5' := Nat.le_of_eq hz5.symm
       have hz5'' := Nat.le_of_eq hz5
       try simp at hz5'
       try simp at hz5''
       try simp at hk5
       clear y1 hg5 hz5 hc5 hc4 ow4 ol4 op4 hgg4))
  all_goals
    go_wp2
    refine bodyPost_ret (v := .tuple #[vw, vl, vp, .int .i64 q, .int .i64 p]) (by simp [results, Try.results10, go_sem]) rfl ?_
    exact ⟨vw, vl, vp, ws, ls, ps, q, p, rfl, h1, h2, h3, h4, by first | exact ow5.out.mono (by omega) | exact (show Ls.Own (w5.alloc _) _ _ _ from World.ownsRow.alloc ow5.out _).mono (by omega), by first | exact ol5.out.mono (by omega) | exact (show Li.Own (w5.alloc _) _ _ _ from World.ownsRow.alloc ol5.out _).mono (by omega), by first | exact op5.out.mono (by omega) | exact (show Li.Own (w5.alloc _) _ _ _ from World.ownsRow.alloc op5.out _).mono (by omega), by first | exact Cu.grown_below hgg5.out (Nat.le_refl _) (Nat.le_refl _) | exact Cu.grown_below (Cu.grown_alloc hgg5.out _) (Nat.le_refl _) (Nat.le_refl _), nw, nl⟩
set_option maxHeartbeats 2000000 in
theorem lpick (w : World) (B : Nat) (a : Option Addr) (len cap : Nat) (hb : Cu.Bytes w B a len) (hl : (len : Int) ≤ 1048576) (i : Int) (i0 : 0 ≤ i) (i1 : i ≤ 1000) (n : Int) (hn : 2 ≤ n) (hn' : n ≤ 1000) :
    Calls Try.prog 13 #[.slice a len cap, .int .i64 i, .int .i64 n] w fun e w' => ∃ x : Int, e = .returned (.int .i64 x) ∧ 0 ≤ x ∧ x < n ∧ w' = w := by
  by_cases h0 : len = 0
  · subst h0
    go_enter Try.func13, Try.ntmps13
    go_wp2
    go_ret
    exact ⟨0, rfl, by omega, by omega, rfl⟩
  have h0' : ((len : Int) == 0) = false := by simp; omega
  rcases hb with rfl | ⟨cb, off, rfl, hcb, hc⟩
  · exact absurd rfl h0
  go_enter Try.func13, Try.ntmps13
  go_wp2
  go_loop [7, 8] (fun x k => ∃ (q : Nat) (y : Int), q ≤ 3 ∧ k = .int .i64 q ∧ x = .int .i64 y ∧ 0 ≤ y ∧ y ≤ 253215 ∧ (q = 0 → y ≤ 0) ∧ (q = 1 → y ≤ 255) ∧ (q = 2 → y ≤ 8160)) (fun _ k => 3 - (intOf k).toNat)
  case atStart => exact ⟨0, 0, by omega, rfl, rfl, by omega, by omega, by omega, by omega, by omega⟩
  case round =>
    obtain ⟨q, y, hq, rfl, rfl, y0, y1, z0, z1, z2⟩ := hrel
    by_cases h3 : q < 3
    · have m0 := Int.emod_nonneg (i + (q : Int)) (show (len : Int) ≠ 0 by omega)
      have m1 := Int.emod_lt_of_pos (i + (q : Int)) (show 0 < (len : Int) by omega)
      obtain ⟨b, hb, b0, b1⟩ := hc ((i + (q : Int)) % (len : Int)).toNat (by omega)
      clear hc
      have y2 : y ≤ 8160 := by omega
      have Z0 : Hid (q = 0 → y ≤ 0) := z0
      have Z1 : Hid (q = 1 → y ≤ 255) := z1
      clear z0 z1 z2
      go_wp2
      go_round
      case rel => exact ⟨q + 1, 31 * y + b, by omega, by go_num, rfl, by omega, by omega, by omega, by have := Z0.out; omega, by have := Z1.out; omega⟩
      case measure => simp [intOf]; omega
    · have h3' : q = 3 := by omega
      subst h3'
      clear z0 z1 z2
      have m0 := Int.emod_nonneg (y + i) (show n ≠ 0 by omega)
      have m1 := Int.emod_lt_of_pos (y + i) (show 0 < n by omega)
      go_wp2
      go_ret
      exact ⟨_, rfl, m0, m1, rfl⟩
end Go.Proofs.Ythgjcplkladepaa.Dw
