/-
  What the model draws for orders: a size, an order that may be spoilt, an order with a list. New blocks alone are made.
-/
import Derived.Test.YtdcbcacgppffgaaDrawS
import Derived.Test.YtdcbcacgppffgaaPermOf
namespace Go.Proofs.Ytdcbcacgppffgaa.Dp
open Go.RowKit
open Go.Proofs.Ytdcbcacgppffgaa.Li Go.Proofs.Ytdcbcacgppffgaa.It Go.Proofs.Ytdcbcacgppffgaa.Po

set_option maxHeartbeats 1000000 in
theorem size_any (w : World) (b : Nat) (K : Int) (hc : Cu.Cur w b K) (hK : K ≤ 10000000000000000) (n : Int) (hn : 1 ≤ n) (hn' : n ≤ 1000000) :
    Calls Try.prog 33 #[.pointer (some ⟨b, 0, none⟩), .int .i64 n] w fun e w' => ∃ x : Int, e = .returned (.int .i64 x) ∧ 0 ≤ x ∧ x ≤ n ∧ w.grownBy w' (some b) ∧ w'.heap.size = w.heap.size ∧ Cu.Cur w' b (K + 1) := by
  have hc' := hc
  obtain ⟨a, len, cap, k, s, hlt, c0, c1, c2, f0, f1, f2, g1, _⟩ := hc'
  by_cases hk : n < 1 + (len : Int) / 8
  · go_enter Try.func33, Try.ntmps33
    go_wp2_with fail
    refine (Cu.pick_any _ _ _ hc (by omega) _ (by omega)).mono ?_
    rintro e w1 ⟨x, rfl, x0, x1, hg1, hz1, hc1⟩
    go_wp2
    go_ret
    exact ⟨x, rfl, x0, by omega, hg1, hz1, hc1⟩
  · go_enter Try.func33, Try.ntmps33
    go_wp2_with fail
    refine (Cu.pick_any _ _ _ hc (by omega) _ (by omega)).mono ?_
    rintro e w1 ⟨x, rfl, x0, x1, hg1, hz1, hc1⟩
    go_wp2
    go_ret
    exact ⟨x, rfl, x0, by omega, hg1, hz1, hc1⟩

theorem pick_pos (w : World) (b : Nat) (K : Int) (hc : Cu.Cur w b K) (hK : K ≤ 1000000000000000000) (n : Int) (h1 : 1 ≤ n) (hn' : n ≤ 1000000000000000000) :
    Calls Try.prog 27 #[.pointer (some ⟨b, 0, none⟩), .int .i64 n] w fun e w' => ∃ x : Int, e = .returned (.int .i64 x) ∧ 0 ≤ x ∧ x < n ∧ w.grownBy w' (some b) ∧ w'.heap.size = w.heap.size ∧ Cu.Cur w' b (K + 1) := by
  by_cases hn : n < 2
  · refine (Cu.pick_lt w b n hn).mono ?_
    rintro e w' ⟨rfl, rfl⟩
    exact ⟨0, rfl, by omega, by omega, Cu.grown_refl _ _, rfl, hc.mono (by omega)⟩
  · refine (Cu.pick_any w b K hc hK n hn').mono ?_
    rintro e w' ⟨x, rfl, x0, x1, r⟩
    exact ⟨x, rfl, x0, x1 (by omega), r⟩
theorem grown_of_below {w w1 w2 : World} {b : Nat} (h : w.grownBy w1 (some b)) (hB : Below w1.heap.size w1 w2) : w.grownBy w2 (some b) :=
  ⟨hB.os.trans h.os, hB.tape.trans h.tape, hB.output.trans h.output, Nat.le_trans h.size hB.size, fun k hk hr => (hB.block k (Nat.lt_of_lt_of_le hk h.size)).trans (h.block k hk hr)⟩
/-- What lies in new blocks stays where the cursor goes on. -/
theorem own_cur {w w1 : World} {b B : Nat} {v : Value} {xs : List Int} (h : Own w B v xs) (hg : w.grownBy w1 (some b)) (hb : b < B) : Own w1 B v xs := by
  refine h.kept hg ?_
  cases e : v.ownBlock with
  | none => exact .inl rfl
  | some k => exact .inr (by have := (h.ge k e).1; simp; omega)
/-- A write into a block that was made since. -/
theorem grown_new {w w1 w2 : World} {b : Nat} {r : Option Nat} (h : w.grownBy w1 (some b)) (h' : w1.grownBy w2 r) (hr : ∀ k, r = some k → w.heap.size ≤ k) : w.grownBy w2 (some b) :=
  ⟨h'.os.trans h.os, h'.tape.trans h.tape, h'.output.trans h.output, Nat.le_trans h.size h'.size, fun k hk hne => (h'.block k (Nat.lt_of_lt_of_le hk h.size) (fun e => by have := hr k e.symm; omega)).trans (h.block k hk hne)⟩
theorem cur_new {w w1 : World} {b : Nat} {K : Int} {r : Option Nat} (h : Cu.Cur w b K) (h' : w.grownBy w1 r) (hr : ∀ k, r = some k → b < k) : Cu.Cur w1 b K :=
  h.keptB h'.size (fun k hk => h'.block k (by have := h.lt; omega) (fun e => by have := hr k e.symm; omega))

set_option maxHeartbeats 4000000 in
theorem perm_any (w : World) (b : Nat) (K : Int) (hc : Cu.Cur w b K) (hK : K ≤ 1000000000000000) (n : Int) :
    Calls Try.prog 34 #[.pointer (some ⟨b, 0, none⟩), .int .i64 n] w fun e w' => ∃ v xs, e = .returned v ∧ xs.length ≤ 100 ∧ Own w' w.heap.size v xs ∧ w.grownBy w' (some b) ∧ Cu.Cur w' b (K + 20) := by
  obtain ⟨i0, hi, hz0, hz1, hz2⟩ := info_parts info_int
  have hbw := hc.lt
  go_enter Try.func34, Try.ntmps34
  go_wp2_with fail
  refine (Ds.aSeed_any _ _ _ hc (by omega)).mono ?_
  rintro e w1 ⟨x, rfl, x0, x1, hg, hc1⟩
  clear hc
  have hs1 := hg.size
  go_wp2_with fail
  refine (sperm_any _ _ _).mono ?_
  rintro e w2 ⟨v, rfl, ho, hB⟩
  have hyl := permR_len x n
  obtain ⟨ys, hys⟩ : ∃ ys, permR x n = ys := ⟨_, rfl⟩
  rw [hys] at ho hyl
  clear hys
  have hg := grown_of_below hg hB
  have hc2 := hc1.kept hB.size (fun k hk => hB.block k hk)
  have ho := ho.mono hs1
  clear hB hc1 hs1
  go_wp2_with fail
  refine (Cu.once_any _ _ _ hc2 (by omega) _ (by omega) (by omega)).mono ?_
  rintro e w3 ⟨t, rfl, hg3, hz3, hc3⟩
  have ho := own_cur ho hg3 hbw
  have hg := Cu.grown_trans hg hg3
  have hs3 := hg.size
  clear hg3 hz3 hc2
  cases t
  · go_wp2
    go_ret
    exact ⟨v, ys, rfl, by omega, ho, hg, hc3.mono (by omega)⟩
  · obtain ⟨va, vc, rfl, hil⟩ := ho.isl
    by_cases hy : ys.length = 0
    · obtain rfl : ys = [] := List.length_eq_zero_iff.1 hy
      clear hy hil
      simp only [List.length_nil] at ho hyl ⊢
      go_wp2_with fail
      refine (Cu.pick_any _ _ _ hc3 (by omega) _ (by omega)).mono ?_
      rintro e w4 ⟨z, rfl, z0, z1, hg4, hz4, hc4⟩
      have ho := own_cur ho hg4 hbw
      have hg := Cu.grown_trans hg hg4
      have hs4 := hg.size
      clear hg4 hz4 hc3 z1 hs3
      go_wp2_with (at_builtin; refine wpList_append_own _ rfl _ _ 24 rfl w.heap.size 3 i0 (.int .i64 0) 1 8 Try.underlying24 hi hz0 hz1 hz2 rfl (by decide) _ _ _ rfl (World.ownsRow.alloc (n := 0) (xs := []) ho _) ⟨w4.heap.size, 0, none⟩ 1 1 [.int .i64 z] rfl rfl (one_cell _ _ _) (one_one _) (by unfold maxLen; omega) (by omega) (by simp; omega) ?_)
      intro v' w5 hown' hgrow hnn
      clear hnn
      have ho5 : Own w5 w.heap.size v' ([] ++ [z]) := own_snoc rfl hown'
      have hge : ∀ k, (Value.slice va 0 vc).ownBlock = some k → w.heap.size ≤ k := fun k hk => (ho.ge k hk).1
      have hg := grown_new (Cu.grown_alloc hg _) hgrow hge
      have hc5 := cur_new (hc4.alloc _) hgrow (fun k hk => by have := hge k hk; omega)
      clear hown' hgrow
      go_wp2
      go_ret
      exact ⟨v', [] ++ [z], rfl, by simp, ho5, hg, hc5.mono (by omega)⟩
    · have hd : decide (0 < (ys.length : Int)) = true := by simp; omega
      go_wp2_with fail
      refine (Cu.pick_any _ _ _ hc3 (by omega) _ (by omega)).mono ?_
      rintro e w4 ⟨z, rfl, z0, z1, hg4, hz4, hc4⟩
      have ho := own_cur ho hg4 hbw
      have hg := Cu.grown_trans hg hg4
      have hs4 := hg.size
      clear hg4 hz4 hc3 z1 hs3
      by_cases hz : z = 0
      · subst hz
        go_wp2_with fail
        refine (pick_pos _ _ _ hc4 (by omega) _ (by omega) (by omega)).mono ?_
        rintro e w5 ⟨u', rfl, u0, u1, hg5, hz5, hc5⟩
        obtain ⟨u, rfl⟩ : ∃ u : Nat, u' = (u : Int) := ⟨u'.toNat, by omega⟩
        have ho := own_cur ho hg5 hbw
        have hg := Cu.grown_trans hg hg5
        clear hg5 hz5 hc4 hs4
        go_wp2_with fail
        refine (Cu.raw_any _ _ _ hc5 (by omega)).mono ?_
        rintro e w6 ⟨y, rfl, y0, y1, hg6, hc6⟩
        have ho := own_cur ho hg6 hbw
        have hg := Cu.grown_trans hg hg6
        clear hg6 hc5
        rcases ho.2 with ⟨hv, h0⟩ | ⟨g, cap', cur, hv, hgB, _⟩
        · omega
        · obtain ⟨rfl, rfl⟩ : va = some ⟨g, 0, none⟩ ∧ vc = cap' := by simpa using hv
          have hcl := ho.cell rfl u (by omega)
          have hcf := ho.frozen rfl u
          have HO : Hid (Own (w6.setCell ⟨g, u, none⟩ (.int .i64 y)) w.heap.size (.slice (some ⟨g, 0, none⟩) ys.length vc) (ys.set u y)) := ho.set rfl u y
          have HC : Hid (Cu.Cur (w6.setCell ⟨g, u, none⟩ (.int .i64 y)) b (K + 4 + 1 + 1 + 1 + 2)) := cur_new hc6 (Li.grown_set _ _ _ _) (fun k hk => by cases hk; omega)
          have HG : Hid (w.grownBy (w6.setCell ⟨g, u, none⟩ (.int .i64 y)) (some b)) := grown_new hg (Li.grown_set _ _ _ _) (fun k hk => by cases hk; omega)
          clear hv ho hg hc6
          go_wp2
          go_ret
          exact ⟨_, _, rfl, by simp; omega, HO.out, HG.out, HC.out.mono (by omega)⟩
      · have hz' : (z == 0) = false := by simpa using hz
        go_wp2_with fail
        refine (Cu.pick_any _ _ _ hc4 (by omega) _ (by omega)).mono ?_
        rintro e w5 ⟨u, rfl, u0, u1, hg5, hz5, hc5⟩
        have ho := own_cur ho hg5 hbw
        have hg := Cu.grown_trans hg hg5
        have hs5 := hg.size
        clear hg5 hz5 hc4 u1 hs4
        go_wp2_with (at_builtin; refine wpList_append_own _ rfl _ _ 24 rfl w.heap.size 3 i0 (.int .i64 0) 1 8 Try.underlying24 hi hz0 hz1 hz2 rfl (by decide) _ _ _ rfl (World.ownsRow.alloc ho _) ⟨w5.heap.size, 0, none⟩ 1 1 [.int .i64 u] rfl rfl (one_cell _ _ _) (one_one _) (by unfold maxLen; omega) (by omega) (by simp; omega) ?_)
        intro v' w6 hown' hgrow hnn
        clear hnn
        have ho6 : Own w6 w.heap.size v' (ys ++ [u]) := own_snoc rfl hown'
        have hge : ∀ k, (Value.slice va ys.length vc).ownBlock = some k → w.heap.size ≤ k := fun k hk => (ho.ge k hk).1
        have hg := grown_new (Cu.grown_alloc hg _) hgrow hge
        have hc6 := cur_new (hc5.alloc _) hgrow (fun k hk => by have := hge k hk; omega)
        clear hown' hgrow
        go_wp2
        go_ret
        exact ⟨v', ys ++ [u], rfl, by simp; omega, ho6, hg, hc6.mono (by omega)⟩
/-- What lies below B lies apart from what is owned from B on. -/
theorem sepB {w : World} {B : Nat} {v v' : Value} {ys : List Int} (h : ∀ k, v.ownBlock = some k → k < B) (h' : Own w B v' ys) : v.ownBlock = none ∨ v.ownBlock ≠ v'.ownBlock := by
  cases e : v.ownBlock with
  | none => exact .inl rfl
  | some k => exact .inr fun e' => by have := h k e; have := (h'.ge k e'.symm).1; omega

end Go.Proofs.Ytdcbcacgppffgaa.Dp
