/-
  Whether a table's marks are held.
-/
import Derived.Test.YtdippfdobieefaaGreatDoorMarkT
namespace Go.Proofs.YtdippfdobieefaaGreatDoor.Mk
set_option maxRecDepth 100000
open Go.RowKit
open Go.Proofs.YtdippfdobieefaaGreatDoor.Tb
set_option maxHeartbeats 2000000 in
theorem held_rows (w : World) (a : Option Addr) (n cap k : Nat) (rs : List Row) (hn : rs.length = n) (h : IsR w a (mrows k rs)) (hl : n + szR rs ≤ 1048576) (k1 : k ≤ 1000000) :
    Calls Tryz.prog 43 #[.slice a n cap, .int .i64 k] w fun e w' => e = .returned (.int .i64 ((k + wts rs : Nat) : Int)) ∧ Below w.heap.size w w' := by
  have hwl := wts_le rs
  have HN : Hid (rs.length = n) := hn
  rw [hn] at hwl
  clear hn
  go_enter Tryz.func43, Tryz.ntmps43
  go_wp2
  go_loopw [1, 5] (fun q i wr => ∃ j : Nat, j ≤ n ∧ i = .int .i64 j ∧ q = .int .i64 ((k + wts (rs.take j) : Nat) : Int) ∧ Below w.heap.size w wr) (fun _ i _ => n - (intOf i).toNat)
  case atStart => exact ⟨0, Nat.zero_le _, rfl, by simp [wts], Below.refl _ _⟩
  case round =>
    obtain ⟨j, hj, rfl, rfl, hB⟩ := hrel
    have hpre := wts_pre rs j
    by_cases hlt : j < n
    · have hjr : j < rs.length := by have := HN.out; omega
      have hjm : j < (mrows k rs).length := by rw [mrows_length]; exact hjr
      rcases h.below hB with h0 | ⟨b, off, rfl, hb, hc⟩
      · rw [h0] at hjm; simp at hjm
      obtain ⟨v0, v1, v2, ⟨c0, c1, c2⟩, hr⟩ := hc j hjm
      rw [mrows_get] at hr
      obtain ⟨a0, q0, a1, q1, e0, e1, e2, i0, i1⟩ := hr
      have hz := szR_at rs j hjr
      unfold Row.sz at hz
      have hwt := wts_take rs j hjr
      unfold wt at hwt
      have hwp := wts_pre rs (j + 1)
      obtain ⟨K, hK⟩ : ∃ K, k + wts (rs.take j) = K := ⟨_, rfl⟩
      rw [hK] at e0 e1 e2 i0 i1 ⊢
      have HW : Hid (k + wts (rs.take (j + 1)) = K + rs[j].nums.length + rs[j].cats.length + 1) := by show _ = _; omega
      have hKb : K ≤ 3000000 := by omega
      simp only [mrow, Li.marks_length, mtexts_length] at e0 e1 e2 i0 i1
      obtain ⟨A, hA⟩ : ∃ A, rs[j].nums.length = A := ⟨_, rfl⟩
      obtain ⟨D, hD⟩ : ∃ D, rs[j].cats.length = D := ⟨_, rfl⟩
      rw [hA] at e0 e2 i0 i1 HW hz
      rw [hD] at e1 e2 i1 HW hz
      rw [e0] at c0
      rw [e1] at c1
      rw [e2] at c2
      clear hA hD e0 e1 e2 hc hK hwt hpre hwp
      go_wp2_with fail
      refine (Li.held_walk _ a0 A q0 (K : Int) i0 (by omega) (by omega) (by omega)).mono ?_
      rintro e w' ⟨rfl, hw⟩
      subst w'
      have hK2 : (K : Int) + (A : Int) = ((K + A : Nat) : Int) := by omega
      rw [hK2]
      clear hK2
      obtain ⟨M, hM⟩ : ∃ M, K + A = M := ⟨_, rfl⟩
      rw [hM] at i1 HW c2 ⊢
      have hMb : M ≤ 4100000 := by omega
      clear hM
      go_wp2_with fail
      refine (held_strs _ a1 D q1 M i1 (by omega) (by omega)).mono ?_
      rintro e w2 ⟨rfl, hB2⟩
      have c2 : w2.cell? ⟨b, off + j * 3 + 2, none⟩ = some (.int .i64 ((M + D : Nat) : Int)) := (hB2.cell (by exact hb)).trans c2
      have hB := hB.trans (hB2.mono hB.size)
      obtain ⟨Z, hZ⟩ : ∃ Z, M + D = Z := ⟨_, rfl⟩
      rw [hZ] at HW c2 ⊢
      have hZb : Z ≤ 5200000 := by omega
      have hne : ((Z : Int) != (Z : Int)) = false := by simp
      clear hZ hB2 c0 c1 i0 i1
      go_wp2
      go_roundw
      case rel => exact ⟨j + 1, by omega, by go_num, by rw [HW.out]; go_num, hB⟩
      case measure => simp [intOf]; omega
    · obtain rfl : j = n := by omega
      have ht : rs.take j = rs := by rw [← HN.out]; exact List.take_length
      rw [ht]
      clear ht
      go_wp2
      go_ret
      exact ⟨rfl, hB⟩
set_option maxHeartbeats 1000000 in
theorem held_tab (w : World) (i j : Int) (a : Option Addr) (n cap k : Nat) (rs : List Row) (hn : rs.length = n) (h : IsR w a (mrows k rs)) (hl : n + szR rs ≤ 1048576) (k1 : k ≤ 1000000) :
    Calls Tryz.prog 19 #[.agg #[.int .i64 i, .int .i64 j, .slice a n cap], .int .i64 k] w fun e w' => e = .returned (.int .i64 ((k + wts rs : Nat) : Int)) ∧ Below w.heap.size w w' := by
  have hB0 : Below w.heap.size w (w.alloc (.cells #[.int .i64 i, .int .i64 j, .slice a n cap] 28)) := (Below.refl _ _).alloc (Nat.le_refl _) _
  go_enter Tryz.func19, Tryz.ntmps19
  go_wp2_with fail
  refine (held_rows _ a n cap k rs hn (h.below hB0) hl k1).mono ?_
  rintro e w1 ⟨rfl, hB1⟩
  have hB := hB0.trans (hB1.mono hB0.size)
  obtain ⟨K, hK⟩ : ∃ K, k + wts rs = K := ⟨_, rfl⟩
  have HK : Hid (k + wts rs = K) := hK
  rw [hK]
  clear hK hB0 hB1
  go_wp2
  go_ret
  exact ⟨by rw [HK.out]; rfl, hB⟩
end Go.Proofs.YtdippfdobieefaaGreatDoor.Mk
