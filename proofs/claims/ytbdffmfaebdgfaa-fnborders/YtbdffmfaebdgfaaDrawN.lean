/-
  What the model draws for borders: a list of numbers; borders with a number; a list with how many borders. New blocks alone are made.
-/
import Derived.Test.YtbdffmfaebdgfaaBorM
import Derived.Test.YtbdffmfaebdgfaaCur
import Derived.Deep.RegionWith
namespace Go.Proofs.Ytbdffmfaebdgfaa.Dn
open Go.RowKit
open Go.Proofs.Ytbdffmfaebdgfaa.Li Go.Proofs.Ytbdffmfaebdgfaa.Bo Go.Proofs.Ytbdffmfaebdgfaa.Ai Go.Proofs.Ytbdffmfaebdgfaa.Bs

theorem tabI (l : List Value) (lo hi : Int) (hall : l.all (Cu.okv lo hi) = true) (y : Int) (h0 : 0 ≤ y) (h1 : y < (l.length : Int)) : ∃ v : Int, (∀ h, l[y.toNat]'h = .int .i64 v) ∧ lo ≤ v ∧ v ≤ hi := by
  have hlt : y.toNat < l.length := by omega
  obtain ⟨v, hv, hb⟩ := Cu.okv_int ((List.all_eq_true.1 hall) l[y.toNat] (by simp))
  exact ⟨v, fun _ => hv, hb⟩
theorem kept {w w' : World} {b : Nat} (h : w.grownBy w' (some b)) : ∀ blk o, b < blk → blk < w.heap.size → w'.cell? ⟨blk, o, none⟩ = w.cell? ⟨blk, o, none⟩ :=
  fun blk o h1 h2 => World.cell?_of_block (a := ⟨blk, o, none⟩) (h.block blk h2 (fun e => by cases e; omega))
theorem bel {w W w' : World} {B : Nat} (h : Below B w W) (hg : W.grownBy w' (some B)) (hB : B ≤ W.heap.size) : Below B w w' := h.trans (Cu.grown_below hg (Nat.le_refl _) hB)
theorem cur_new {w w1 : World} {b : Nat} {K : Int} {r : Option Nat} (h : Cu.Cur w b K) (h' : w.grownBy w1 r) (hr : ∀ k, r = some k → b < k) : Cu.Cur w1 b K :=
  h.keptB h'.size (fun k hk => h'.block k (by have := h.lt; omega) (fun e => by have := hr k e.symm; omega))
def lenOf : Value → Nat
  | .slice _ n _ => n
  | _ => 0
theorem lenOf_own {w : World} {B : Nat} {v : Value} {n : List Int} (h : Own w B v n) : lenOf v = n.length := by
  obtain ⟨a, c, rfl, _⟩ := h.isl; rfl
set_option maxHeartbeats 1000000 in
theorem size_any (w : World) (b : Nat) (K : Int) (hc : Cu.Cur w b K) (hK : K ≤ 10000000000000000) (n : Int) (hn : 1 ≤ n) (hn' : n ≤ 1000000) :
    Calls Try.prog 26 #[.pointer (some ⟨b, 0, none⟩), .int .i64 n] w fun e w' => ∃ x : Int, e = .returned (.int .i64 x) ∧ 0 ≤ x ∧ x ≤ n ∧ w.grownBy w' (some b) ∧ w'.heap.size = w.heap.size ∧ Cu.Cur w' b (K + 1) := by
  have hc' := hc
  obtain ⟨a, len, cap, k, s, hlt, c0, c1, c2, f0, f1, f2, g1, _⟩ := hc'
  by_cases hk : n < 1 + (len : Int) / 8
  · go_enter Try.func26, Try.ntmps26
    go_wp2_with fail
    refine (Cu.pick_any _ _ _ hc (by omega) _ (by omega)).mono ?_
    rintro e w1 ⟨x, rfl, x0, x1, hg1, hz1, hc1⟩
    go_wp2
    go_ret
    exact ⟨x, rfl, x0, by omega, hg1, hz1, hc1⟩
  · go_enter Try.func26, Try.ntmps26
    go_wp2_with fail
    refine (Cu.pick_any _ _ _ hc (by omega) _ (by omega)).mono ?_
    rintro e w1 ⟨x, rfl, x0, x1, hg1, hz1, hc1⟩
    go_wp2
    go_ret
    exact ⟨x, rfl, x0, by omega, hg1, hz1, hc1⟩
set_option maxRecDepth 100000 in
set_option maxHeartbeats 4000000 in
theorem numbers_any (w : World) (b : Nat) (K : Int) (hc : Cu.Cur w b K) (h0K : 0 ≤ K) (hK : K ≤ 1000000000000000) :
    Calls Try.prog 17 #[.pointer (some ⟨b, 0, none⟩)] w fun e w' => ∃ v xs, e = .returned v ∧ xs.length ≤ 1001 ∧ Own w' w.heap.size v xs ∧ w.grownBy w' (some b) ∧ Cu.Cur w' b (K + 2000) := by
  obtain ⟨i0, hi, hz0, hz1, hz2⟩ := info_parts info_int
  have hbw := hc.lt
  go_enter Try.func17, Try.ntmps17
  go_wp2_with fail
  refine (size_any _ _ _ (hc.alloc _) (by omega) _ (by omega) (by omega)).mono ?_
  rintro e w1 ⟨s', rfl, s0, s1, hg1, hz1', hc1⟩
  obtain ⟨s, rfl⟩ : ∃ s : Nat, s' = (s : Int) := ⟨s'.toNat, by omega⟩
  have ho1 : Own w1 w.heap.size (.slice (some ⟨w.heap.size, 0, none⟩) 0 0) [] := own_cur (own_empty _ _ (Nat.le_refl _)) hg1 hbw
  have hg1 : w.grownBy w1 (some b) := Cu.grown_trans (World.grownBy_alloc _ _ _) hg1
  clear hz1' hc
  go_wp2
  go_loopw [3, 4] (fun u i wr => ∃ k : Nat, k ≤ s ∧ i = .int .i64 k ∧ ∃ m : List Int, m.length + k = s ∧ Own wr w.heap.size u m ∧ w.grownBy wr (some b) ∧ Cu.Cur wr b (K + 1 + 3 * (s - k))) (fun _ i _ => (intOf i).toNat)
  case atStart => exact ⟨s, Nat.le_refl _, rfl, [], by simp, ho1, hg1, hc1.mono (by omega)⟩
  case round =>
    clear ho1 hg1 hc1
    obtain ⟨k, hk, rfl, m, hmk, ho, hg, hcr⟩ := hrel
    have hml : m.length ≤ 20 := by omega
    have HMK : Hid (m.length + k = s) := hmk
    clear hmk
    by_cases hlt : 0 < k
    · have hlti : (0 : Int) < (k : Int) := by omega
      go_wp2_with fail
      refine (Cu.pick_any _ _ _ hcr (by omega) _ (by omega)).mono ?_
      rintro e w2 ⟨x, rfl, x0, x1, hg2, hz2', hc2⟩
      have x2 : x < 20 := x1 (by omega)
      have ho := own_cur ho hg2 hbw
      have hg := Cu.grown_trans hg hg2
      clear hg2 hz2' hcr x1
      go_wp2_with fail
      refine (Cu.fix_any _ _ _ hc2 (by omega)).mono ?_
      rintro e w3 ⟨y, rfl, y0, y1, hg3, hc3⟩
      have ho := own_cur ho hg3 hbw
      have hg := Cu.grown_trans hg hg3
      have hb3 := hc3.lt
      clear hg3 hc2
      go_wp2_with fail
      refine (Cu.pick_any _ _ _ (hc3.alloc _) (by omega) _ (by omega)).mono ?_
      rintro e w4 ⟨z, rfl, z0, z1, hg4, hz4, hc4⟩
      have z2 : z < 2 := z1 (by omega)
      obtain ⟨t, ht, t0, t1⟩ := Cu.tab _ _ (-9223372036854775808) 9223372036854775807 hg4 hb3 (by simp [Cu.okv]; omega) z z0 z2
      have ho := own_cur (World.ownsRow.alloc ho _) hg4 hbw
      have hg := Cu.grown_trans (Cu.grown_alloc hg _) hg4
      have hs4 := hg.size
      clear hg4 hz4 hc3 z1
      go_wp2_with (at_builtin; refine wpList_append_own _ rfl _ _ 24 rfl w.heap.size 3 i0 (.int .i64 0) 1 8 Try.underlying24 hi hz0 hz1 hz2 rfl (by decide) u3 m.length _ rfl (World.ownsRow.alloc ho _) ⟨w4.heap.size, 0, none⟩ 1 1 [.int .i64 t] rfl rfl (one_cell _ _ _) (one_one _) (by unfold maxLen; omega) (by omega) (by simp; omega) ?_)
      intro v' w6 hown' hgrow hnn
      clear hnn
      have ho6 : Own w6 w.heap.size v' (m ++ [t]) := own_snoc rfl hown'
      have hge : ∀ k, (u3 : Value).ownBlock = some k → w.heap.size ≤ k := fun k hk => (World.ownsRow.lt ho k hk).1
      have hg6 := grown_new (Cu.grown_alloc hg _) hgrow hge
      have hc6 := cur_new (hc4.alloc _) hgrow (fun k hk => by have := hge k hk; omega)
      have HM6 : Hid ((m ++ [t]).length + (k - 1) = s) := by have := HMK.out; show _ = _; simp; omega
      clear hown' hgrow ho hg hc4 hge ht
      go_wp2
      go_roundw
      case rel => exact ⟨k - 1, by omega, by go_num, m ++ [t], HM6.out, ho6, hg6, hc6.mono (by omega)⟩
      case measure => simp [intOf]; omega
    · obtain rfl : k = 0 := by omega
      clear hlt
      have hcr := hcr.mono (show K + 1 + 3 * ((s : Int) - ((0 : Nat) : Int)) ≤ K + 61 by omega)
      go_wp2_with fail
      refine (Cu.once_any _ _ _ hcr (by omega) _ (by omega) (by omega)).mono ?_
      rintro e w2 ⟨t1, rfl, hg2, hz2', hc2⟩
      have ho := own_cur ho hg2 hbw
      have hg := Cu.grown_trans hg hg2
      clear hg2 hz2' hcr
      cases t1
      · go_wp2_with fail
        refine (Cu.once_any _ _ _ hc2 (by omega) _ (by omega) (by omega)).mono ?_
        rintro e w9 ⟨t2, rfl, hg9, hz9, hc9⟩
        have ho := own_cur ho hg9 hbw
        have hg := Cu.grown_trans hg hg9
        clear hg9 hz9
        cases t2
        · go_wp2
          go_ret
          exact ⟨_, _, rfl, (by omega), ho, hg, hc9.mono (by omega)⟩
        have hs9 := hg.size
        go_wp2
        go_loopw [3] (fun u wq => ∃ n : List Int, n.length ≤ 1001 ∧ Own wq w.heap.size u n ∧ w.grownBy wq (some b) ∧ Cu.Cur wq b (K + 100 + n.length) ∧ lenOf u = n.length) (fun u _ => 1001 - lenOf u)
        case atStart => exact ⟨_, (by omega), ho, hg, hc9.mono (by omega), lenOf_own ho⟩
        case round =>
          clear ho hg hc9 hs9
          obtain ⟨n, hnl, ho, hg, hcq, hlen⟩ := hrel
          have HLEN : Hid (lenOf u3 = n.length) := hlen
          clear hlen
          obtain ⟨a3, c3, hv3, _⟩ := ho.isl
          subst hv3
          go_wp2_with fail
          refine (Cu.pick_any _ _ _ hcq (by omega) _ (by omega)).mono ?_
          rintro e wz ⟨z, rfl, z0, z1, hgz, hzz, hcz⟩
          have z2 := z1 (by omega)
          have ho := own_cur ho hgz hbw
          have hg := Cu.grown_trans hg hgz
          have hsz := hg.size
          clear hgz hzz hcq z1
          by_cases hlt : (n.length : Int) < 999 + z
          · go_wp2_with (at_builtin; refine wpList_append_own _ rfl _ _ 24 rfl w.heap.size 3 i0 (.int .i64 0) 1 8 Try.underlying24 hi hz0 hz1 hz2 rfl (by decide) _ n.length _ rfl (World.ownsRow.alloc ho _) ⟨wz.heap.size, 0, none⟩ 1 1 [.int .i64 n.length] rfl rfl (one_cell _ _ _) (one_one _) (by unfold maxLen; omega) (by omega) (by simp; omega) ?_)
            intro v' w6 hown' hgrow hnn
            clear hnn
            have ho6 : Own w6 w.heap.size v' (n ++ [(n.length : Int)]) := own_snoc rfl hown'
            have hge : ∀ k, (Value.slice a3 n.length c3).ownBlock = some k → w.heap.size ≤ k := fun k hk => (ho.ge k hk).1
            have hg6 := grown_new (Cu.grown_alloc hg _) hgrow hge
            have hc6 := cur_new (hcz.alloc _) hgrow (fun k hk => by have := hge k hk; omega)
            have HL6 : Hid (lenOf v' = (n ++ [(n.length : Int)]).length) := lenOf_own ho6
            have HN6 : Hid ((n ++ [(n.length : Int)]).length = n.length + 1) := by show _ = _; simp
            clear hown' hgrow ho hg hcz hge
            go_wp2
            go_roundw
            case rel => exact ⟨n ++ [(n.length : Int)], by rw [HN6.out]; omega, ho6, hg6, hc6.mono (by rw [HN6.out]; omega), HL6.out⟩
            case measure =>
              have h1 := HL6.out
              have h2 := HN6.out
              show 1001 - lenOf v' < 1001 - lenOf (Value.slice a3 n.length c3)
              rw [h1, h2]
              show 1001 - (n.length + 1) < 1001 - n.length
              omega
          · go_wp2
            go_ret
            exact ⟨_, n, rfl, hnl, ho, hg, hcz.mono (by omega)⟩
      go_wp2_with fail
      refine (Cu.raw_any _ _ _ hc2 (by omega)).mono ?_
      rintro e w3 ⟨y, rfl, y0, y1, hg3, hc3⟩
      have ho := own_cur ho hg3 hbw
      have hg := Cu.grown_trans hg hg3
      have hs3 := hg.size
      clear hg3 hc2
      go_wp2_with (at_builtin; refine wpList_append_own _ rfl _ _ 24 rfl w.heap.size 3 i0 (.int .i64 0) 1 8 Try.underlying24 hi hz0 hz1 hz2 rfl (by decide) u3 m.length _ rfl (World.ownsRow.alloc ho _) ⟨w3.heap.size, 0, none⟩ 1 1 [.int .i64 y] rfl rfl (one_cell _ _ _) (one_one _) (by unfold maxLen; omega) (by omega) (by simp; omega) ?_)
      intro v' w6 hown' hgrow hnn
      clear hnn
      have ho6 : Own w6 w.heap.size v' (m ++ [y]) := own_snoc rfl hown'
      have hge : ∀ k, (u3 : Value).ownBlock = some k → w.heap.size ≤ k := fun k hk => (World.ownsRow.lt ho k hk).1
      have hg6 := grown_new (Cu.grown_alloc hg _) hgrow hge
      have hc6 := cur_new (hc3.alloc _) hgrow (fun k hk => by have := hge k hk; omega)
      clear hown' hgrow ho hg hc3 hge
      go_wp2_with fail
      refine (Cu.once_any _ _ _ hc6 (by omega) _ (by omega) (by omega)).mono ?_
      rintro e w9 ⟨t2, rfl, hg9, hz9, hc9⟩
      have ho := own_cur ho6 hg9 hbw
      have hg := Cu.grown_trans hg6 hg9
      clear hg9 hz9
      cases t2
      · go_wp2
        go_ret
        exact ⟨_, _, rfl, (by simp; omega), ho, hg, hc9.mono (by omega)⟩
      have hs9 := hg.size
      go_wp2
      go_loopw [3] (fun u wq => ∃ n : List Int, n.length ≤ 1001 ∧ Own wq w.heap.size u n ∧ w.grownBy wq (some b) ∧ Cu.Cur wq b (K + 100 + n.length) ∧ lenOf u = n.length) (fun u _ => 1001 - lenOf u)
      case atStart => exact ⟨_, (by simp; omega), ho, hg, hc9.mono (by omega), lenOf_own ho⟩
      case round =>
        clear ho hg hc9 hs9
        obtain ⟨n, hnl, ho, hg, hcq, hlen⟩ := hrel
        have HLEN : Hid (lenOf u3 = n.length) := hlen
        clear hlen
        obtain ⟨a3, c3, hv3, _⟩ := ho.isl
        subst hv3
        go_wp2_with fail
        refine (Cu.pick_any _ _ _ hcq (by omega) _ (by omega)).mono ?_
        rintro e wz ⟨z, rfl, z0, z1, hgz, hzz, hcz⟩
        have z2 := z1 (by omega)
        have ho := own_cur ho hgz hbw
        have hg := Cu.grown_trans hg hgz
        have hsz := hg.size
        clear hgz hzz hcq z1
        by_cases hlt : (n.length : Int) < 999 + z
        · go_wp2_with (at_builtin; refine wpList_append_own _ rfl _ _ 24 rfl w.heap.size 3 i0 (.int .i64 0) 1 8 Try.underlying24 hi hz0 hz1 hz2 rfl (by decide) _ n.length _ rfl (World.ownsRow.alloc ho _) ⟨wz.heap.size, 0, none⟩ 1 1 [.int .i64 n.length] rfl rfl (one_cell _ _ _) (one_one _) (by unfold maxLen; omega) (by omega) (by simp; omega) ?_)
          intro v' w6 hown' hgrow hnn
          clear hnn
          have ho6 : Own w6 w.heap.size v' (n ++ [(n.length : Int)]) := own_snoc rfl hown'
          have hge : ∀ k, (Value.slice a3 n.length c3).ownBlock = some k → w.heap.size ≤ k := fun k hk => (ho.ge k hk).1
          have hg6 := grown_new (Cu.grown_alloc hg _) hgrow hge
          have hc6 := cur_new (hcz.alloc _) hgrow (fun k hk => by have := hge k hk; omega)
          have HL6 : Hid (lenOf v' = (n ++ [(n.length : Int)]).length) := lenOf_own ho6
          have HN6 : Hid ((n ++ [(n.length : Int)]).length = n.length + 1) := by show _ = _; simp
          clear hown' hgrow ho hg hcz hge
          go_wp2
          go_roundw
          case rel => exact ⟨n ++ [(n.length : Int)], by rw [HN6.out]; omega, ho6, hg6, hc6.mono (by rw [HN6.out]; omega), HL6.out⟩
          case measure =>
            have h1 := HL6.out
            have h2 := HN6.out
            show 1001 - lenOf v' < 1001 - lenOf (Value.slice a3 n.length c3)
            rw [h1, h2]
            show 1001 - (n.length + 1) < 1001 - n.length
            omega
        · go_wp2
          go_ret
          exact ⟨_, n, rfl, hnl, ho, hg, hcz.mono (by omega)⟩
end Go.Proofs.Ytbdffmfaebdgfaa.Dn
