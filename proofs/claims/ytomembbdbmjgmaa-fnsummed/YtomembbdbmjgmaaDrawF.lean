/-
  What the model draws for trees: the numbers of a row (feats).
-/
import Derived.Test.YtomembbdbmjgmaaApI
import Derived.Test.YtomembbdbmjgmaaCur
import Derived.Deep.AppendLies
namespace Go.Proofs.Ytomembbdbmjgmaa.Df
open Go.RowKit
open Go.Proofs.Ytomembbdbmjgmaa.Li Go.Proofs.Ytomembbdbmjgmaa.Ai
set_option linter.unusedVariables false

theorem cur_new {w w1 : World} {b : Nat} {K : Int} {r : Option Nat} (h : Cu.Cur w b K) (h' : w.grownBy w1 r) (hr : ∀ k, r = some k → b < k) : Cu.Cur w1 b K :=
  h.keptB h'.size (fun k hk => h'.block k (by have := h.lt; omega) (fun e => by have := hr k e.symm; omega))
theorem isl_take {w : World} {base : Nat} {g cap : Nat} {xs : List Int} (h : Own w base (.slice (some ⟨g, 0, none⟩) xs.length cap) xs) (k : Nat) (hk : k ≤ xs.length) : IsL w (some ⟨g, 0, none⟩) (xs.take k) := by
  obtain ⟨a, c, e, hi⟩ := h.isl
  cases e
  rcases hi with rfl | ⟨b, off, e, hb, hc⟩
  · exact .inl (by simp)
  · cases e
    refine .inr ⟨g, 0, rfl, hb, fun j hj => ?_⟩
    have hj' : j < xs.length := by simp at hj; omega
    rw [hc j hj']
    simp
set_option maxRecDepth 100000 in
set_option maxHeartbeats 4000000 in
theorem feats_any (w : World) (b : Nat) (K : Int) (hc : Cu.Cur w b K) (h0K : 0 ≤ K) (hK : K ≤ 1000000000000000) :
    Calls Try.prog 21 #[.pointer (some ⟨b, 0, none⟩)] w fun e w' => ∃ a xs cap, e = .returned (.slice a (xs : List Int).length cap) ∧ xs.length ≤ 6 ∧ IsL w' a xs ∧ (∀ x, a = some x → w.heap.size ≤ x.block) ∧ w.grownBy w' (some b) ∧ Cu.Cur w' b (K + 100) := by
  obtain ⟨i0, hi, hz0, hz1, hz2⟩ := info_parts info_int
  have hbw := hc.lt
  have ho0 : Own (w.alloc (.cells #[] 3)) w.heap.size (.slice (some ⟨w.heap.size, 0, none⟩) 0 0) [] := own_empty _ _ (Nat.le_refl _)
  have hg0 : w.grownBy (w.alloc (.cells #[] 3)) (some b) := World.grownBy_alloc _ _ _
  have hc0 := hc.alloc (.cells #[] 3)
  go_enter Try.func21, Try.ntmps21
  go_wp2
  go_loopw [3, 4] (fun u i wr => ∃ k : Nat, k ≤ 6 ∧ i = .int .i64 k ∧ ∃ m : List Int, m.length = k ∧ Own wr w.heap.size u m ∧ w.grownBy wr (some b) ∧ Cu.Cur wr b (K + 10 * k)) (fun _ i _ => 6 - (intOf i).toNat)
  case atStart => exact ⟨0, by omega, rfl, [], rfl, ho0, hg0, hc0.mono (by omega)⟩
  case round =>
    clear ho0 hg0 hc0 hc
    obtain ⟨k, hk, rfl, m, hmk, ho, hg, hcr⟩ := hrel
    have hml : m.length ≤ 6 := by omega
    have HMK : Hid (m.length = k) := hmk
    clear hmk
    obtain ⟨au, cu, hu, _⟩ := ho.isl
    subst hu
    by_cases hlt : k < 6
    · go_wp2_with fail
      refine (Cu.pick_any _ _ _ hcr (by omega) _ (by omega)).mono ?_
      rintro e w2 ⟨x, rfl, x0, x1, hg2, hz2', hc2⟩
      have x2 : x < 5 := x1 (by omega)
      have ho := own_cur ho hg2 hbw
      have hg := Cu.grown_trans hg hg2
      clear hg2 hz2' hcr x1
      go_wp2_with fail
      refine (Cu.pick_any _ _ _ hc2 (by omega) _ (by omega)).mono ?_
      rintro e w3 ⟨y, rfl, y0, y1, hg3, hz3', hc3⟩
      have y2 : y < 4 := y1 (by omega)
      have ho := own_cur ho hg3 hbw
      have hg := Cu.grown_trans hg hg3
      clear hg3 hz3' hc2 y1
      go_wp2_with fail
      refine (Cu.rawFix_any _ _ _ hc3 (by omega)).mono ?_
      rintro e w4 ⟨r, rfl, r0, r1, hg4, hc4⟩
      have ho := own_cur ho hg4 hbw
      have hg := Cu.grown_trans hg hg4
      have hb4 := hc4.lt
      clear hg4 hc3
      go_wp2_with fail
      refine (Cu.pick_any _ _ _ (hc4.alloc _) (by omega) _ (by omega)).mono ?_
      rintro e w5 ⟨z, rfl, z0, z1, hg5, hz5, hc5⟩
      have z2 : z < 3 := z1 (by omega)
      obtain ⟨s, hs, s0, s1⟩ := Cu.tab _ _ (-9223372036854775808) 9223372036854775807 hg5 hb4 (by simp [Cu.okv]; omega) z z0 z2
      have ho := own_cur (World.ownsRow.alloc ho _) hg5 hbw
      have hg := Cu.grown_trans (Cu.grown_alloc hg _) hg5
      have hs5 := hg.size
      clear hg5 hz5 hc4 z1
      go_wp2_with (at_builtin; refine wpList_append_own _ rfl _ _ 25 rfl w.heap.size 3 i0 (.int .i64 0) 1 8 Try.underlying25 hi hz0 hz1 hz2 rfl (by decide) _ m.length _ rfl (World.ownsRow.alloc ho _) ⟨w5.heap.size, 0, none⟩ 1 1 [.int .i64 s] rfl rfl (one_cell _ _ _) (one_one _) (by unfold maxLen; omega) (by omega) (by simp; omega) ?_)
      intro v' w6 hown' hgrow hnn
      clear hnn
      have ho6 : Own w6 w.heap.size v' (m ++ [s]) := own_snoc rfl hown'
      have hge : ∀ k, (Value.slice au m.length cu).ownBlock = some k → w.heap.size ≤ k := fun k hk => (World.ownsRow.lt ho k hk).1
      have hg6 := grown_new (Cu.grown_alloc hg _) hgrow hge
      have hc6 := cur_new (hc5.alloc _) hgrow (fun k hk => by have := hge k hk; omega)
      have HM6 : Hid ((m ++ [s]).length = k + 1) := by have := HMK.out; show _ = _; simp; omega
      clear hown' hgrow ho hg hc5 hge hs
      go_wp2
      go_roundw
      case rel => exact ⟨k + 1, by omega, by go_num, m ++ [s], HM6.out, ho6, hg6, hc6.mono (by omega)⟩
      case measure => simp [intOf]; omega
    · obtain rfl : k = 6 := by omega
      have hcr := hcr.mono (show K + 10 * ((6 : Nat) : Int) ≤ K + 60 by omega)
      clear hlt
      go_wp2_with fail
      refine (Cu.once_any _ _ _ hcr (by omega) _ (by omega) (by omega)).mono ?_
      rintro e w2 ⟨t1, rfl, hg2, hz2', hc2⟩
      have ho := own_cur ho hg2 hbw
      have hg := Cu.grown_trans hg hg2
      clear hg2 hz2' hcr
      obtain ⟨g, cap', hv, hgg, hcap⟩ : ∃ g cap', (Value.slice au m.length cu) = .slice (some ⟨g, 0, none⟩) m.length cap' ∧ w.heap.size ≤ g ∧ m.length ≤ cap' := by
        rcases ho.2 with ⟨_, h0⟩ | ⟨g, cap', cur, e, hb, _, hc, _⟩
        · have := HMK.out; omega
        · exact ⟨g, cap', e, hb, hc⟩
      have hcapm : cu ≤ maxLen := by
        rcases ho.2 with ⟨_, h0⟩ | ⟨g, cap', cur, e, hb, _, hc, hm, _⟩
        · have := HMK.out; omega
        · cases e; exact hm
      cases hv
      cases t1
      · obtain ⟨a', c', e', il⟩ := ho.isl
        cases e'
        go_wp2
        go_ret
        exact ⟨_, m, _, rfl, hml, il, fun x e => by cases e; exact hgg, hg, hc2.mono (by omega)⟩
      · go_wp2_with fail
        refine (Cu.pick_any _ _ _ hc2 (by omega) _ (by omega)).mono ?_
        rintro e w3 ⟨z, rfl, z0, z1, hg3, hz3, hc3⟩
        have z2 : z < 6 := z1 (by omega)
        have ho := own_cur ho hg3 hbw
        have hg := Cu.grown_trans hg hg3
        clear hg3 hz3 hc2 z1
        obtain ⟨n, rfl⟩ : ∃ n : Nat, z = (n : Int) := ⟨z.toNat, by omega⟩
        have hnl : n ≤ m.length := by have := HMK.out; omega
        have hnc : n ≤ cu := by omega
        have il := isl_take ho n hnl
        have HL : Hid ((m.take n).length = n) := by show _ = _; simp; omega
        unfold maxLen at hcapm
        clear ho
        go_wp2
        go_ret
        refine ⟨some ⟨g, 0, none⟩, m.take n, cu, ?_, by rw [HL.out]; omega, il, fun x e => by cases e; exact hgg, hg, hc3.mono (by omega)⟩
        rw [HL.out]
        rfl
end Go.Proofs.Ytomembbdbmjgmaa.Df
