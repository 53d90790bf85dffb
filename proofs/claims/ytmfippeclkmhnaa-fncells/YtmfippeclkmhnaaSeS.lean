/-
  ScoreOf of the program and of the model.
-/
import Derived.Test.YtmfippeclkmhnaaSeX
namespace Go.Proofs.Ytmfippeclkmhnaa.Sw7
open Go.RowKit
open Go.Proofs.Ytmfippeclkmhnaa.Li (ret_bool ret_int below_none IsL btw)
open Go.Proofs.Ytmfippeclkmhnaa.Tm (IsP)
open Go.Proofs.Ytmfippeclkmhnaa.Se Go.Proofs.Ytmfippeclkmhnaa.Sv
set_option linter.unusedVariables false

set_option maxHeartbeats 1000000 in
theorem icok (w : World) (x y : Int) : Calls Try.prog 57 #[.agg #[.int .i64 x, .int .i64 y]] w fun e w' => e = .returned (.bool (cokb (x, y))) ∧ Below w.heap.size w w' := by
  go_enter Try.func57, Try.ntmps57
  go_wp2
  all_goals go_ret
  all_goals refine ⟨ret_bool ?_, below_box1⟩
  all_goals by_cases hy : y ≤ 80000000
  all_goals first
    | (have hq : cok (x, y) := ⟨⟨by assumption, by assumption⟩, by assumption, hy⟩
       rw [cokb_yes hq]
       try simp [hy])
    | (have hq : ¬ cok (x, y) := fun h => by simp only [cok] at h; omega
       rw [cokb_no hq]
       try simp [hy])
set_option maxHeartbeats 1000000 in
theorem icells (w : World) (a : Option Addr) (cap : Nat) (ps : List (Int × Int)) (l2 : Int) (h : IsP w a ps) (hl : ps.length ≤ 1048576) :
    Calls Try.prog 55 #[.slice a ps.length cap, .int .i64 l2] w fun e w' => e = .returned (.bool (scok ps l2)) ∧ Below w.heap.size w w' := by
  by_cases h16 : ps.length ≤ 16
  rotate_left
  · have HR : Hid (scok ps l2 = false) := scok_head (fun h => h16 h.1)
    have hd : decide (16 < (ps.length : Int)) = true := by simp; omega
    go_enter Try.func55, Try.ntmps55
    go_wp2_with fail
    go_ret
    exact ⟨ret_bool HR.out.symm, Below.refl _ _⟩
  have hd : decide (16 < (ps.length : Int)) = false := by simp; omega
  cases hv : btw l2 1 1000 with
  | false =>
    have HR : Hid (scok ps l2 = false) := scok_head (fun h => by simp only [btw, decide_eq_false_iff_not] at hv; exact hv h.2)
    go_enter Try.func55, Try.ntmps55
    go_wp2_with (go_at_call 49; refine (il2 _ _).mono ?_; rintro e w' ⟨rfl, hw⟩; subst w'; rw [hv])
    go_ret
    exact ⟨ret_bool HR.out.symm, Below.refl _ _⟩
  | true =>
    go_enter Try.func55, Try.ntmps55
    go_wp2_with (go_at_call 49; refine (il2 _ _).mono ?_; rintro e w' ⟨rfl, hw⟩; subst w'; rw [hv])
    go_loopw [17] (fun i wr => ∃ k : Nat, k ≤ ps.length ∧ i = .int .i64 k ∧ (∀ j (hj : j < ps.length), j < k → cok ps[j]) ∧ Below w.heap.size w wr) (fun i _ => ps.length - (intOf i).toNat)
    case atStart => exact ⟨0, Nat.zero_le _, rfl, fun j hj h => by omega, Below.refl _ _⟩
    case round =>
      obtain ⟨k, hk, rfl, hn, hB⟩ := hrel
      have HN : Hid (∀ j (hj : j < ps.length), j < k → cok ps[j]) := hn
      clear hn
      by_cases hlt : k < ps.length
      · rcases h.below hB with h0 | ⟨b, off, rfl, hb, hc⟩
        · rw [h0] at hlt; simp at hlt
        obtain ⟨c0, c1⟩ := hc k hlt
        clear hc
        go_wp2_with fail
        refine (icok _ _ _).mono ?_
        rintro e w2 ⟨rfl, hb2⟩
        have hB := (hB.alloc hB.size _).trans (hb2.mono (by simp; have := hB.size; omega))
        clear hb2 c0 c1 hb
        by_cases hr : cok ps[k]
        · have HR : Hid (∀ j (hj : j < ps.length), j < k + 1 → cok ps[j]) := fun j hj h => by
            by_cases e : j = k
            · subst e; exact hr
            · exact HN.out j hj (by omega)
          rw [show cokb (ps[k].1, ps[k].2) = true from cokb_yes hr]
          clear hr
          go_wp2
          go_roundw
          case rel => exact ⟨k + 1, by omega, by go_num, HR.out, hB⟩
          case measure => simp [intOf]; omega
        · have HR : Hid (scok ps l2 = false) := scok_bad hlt hr
          rw [show cokb (ps[k].1, ps[k].2) = false from cokb_no hr]
          clear hr
          go_wp2
          go_ret
          exact ⟨ret_bool HR.out.symm, hB⟩
      · have HR : Hid (scok ps l2 = true) := scok_all h16 (by simp only [btw, decide_eq_true_iff] at hv; exact hv) (fun j hj => HN.out j hj (by omega))
        go_wp2
        go_ret
        exact ⟨ret_bool HR.out.symm, hB⟩
set_option maxHeartbeats 1000000 in
theorem iscore (w : World) (a : Option Addr) (cap : Nat) (ps : List (Int × Int)) (l2 : Int) (h : IsP w a ps) (hl : ps.length ≤ 1048576) :
    Calls Try.prog 51 #[.slice a ps.length cap, .int .i64 l2] w fun e w' => e = .returned (.int .i64 (score ps l2)) ∧ Below w.heap.size w w' := by
  go_enter Try.func51, Try.ntmps51
  go_wp2_with fail
  refine (icells _ _ _ _ _ h hl).mono ?_
  rintro e w1 ⟨rfl, hB⟩
  cases hv : scok ps l2 with
  | false =>
    have HR : Hid (score ps l2 = 0) := score_no hv
    go_wp2
    go_ret
    exact ⟨ret_int HR.out.symm, hB⟩
  | true =>
    have HR : Hid (score ps l2 = ssum l2 ps) := score_ok hv
    obtain ⟨h16, h2, hc0⟩ := scok_iff.1 hv
    have HC : Hid (∀ j (hj : j < ps.length), cok ps[j]) := fun j hj => hc0 _ (List.getElem_mem hj)
    clear hc0 hv
    go_wp2
    go_loopw [5, 14] (fun q i wr => ∃ k : Nat, k ≤ ps.length ∧ i = .int .i64 k ∧ q = .int .i64 (ssum l2 (ps.take k)) ∧ Below w.heap.size w wr) (fun _ i _ => ps.length - (intOf i).toNat)
    case atStart => exact ⟨0, Nat.zero_le _, rfl, by simp [ssum], hB⟩
    case round =>
      obtain ⟨k, hk, rfl, rfl, hB⟩ := hrel
      by_cases hlt : k < ps.length
      · rcases h.below hB with h0 | ⟨b, off, rfl, hb, hc⟩
        · rw [h0] at hlt; simp at hlt
        obtain ⟨c0, c1⟩ := hc k hlt
        have hck := HC.out k hlt
        have HT : Hid (ssum l2 (ps.take (k + 1)) = ssum l2 (ps.take k) + one ps[k] l2) := ssum_take ps l2 k hlt
        obtain ⟨r0, r1⟩ := ssum_range ps l2 h2 k hk (fun j hj _ => HC.out j hj)
        obtain ⟨q0, q1⟩ := one_range hck h2
        obtain ⟨s0, s1⟩ := sq_range hck
        obtain ⟨⟨n0, n1⟩, g0, g1⟩ := hck
        obtain ⟨Z, hZ⟩ : ∃ Z, ssum l2 (ps.take k) = Z := ⟨_, rfl⟩
        rw [hZ] at r0 r1 HT ⊢
        unfold one at q0 q1 HT
        obtain ⟨N, hN⟩ : ∃ N, ps[k].1 = N := ⟨_, rfl⟩
        obtain ⟨G, hG⟩ : ∃ G, ps[k].2 = G := ⟨_, rfl⟩
        rw [hN] at c0 q0 q1 HT n0 n1
        rw [hG] at c1 q0 q1 HT s0 s1 g0 g1
        have hz : Z ≤ 102400000000000000 := by omega
        have hne : ¬ N + l2 = 0 := by omega
        clear hc hZ hN hG r1
        go_wp2
        go_roundw
        case rel => exact ⟨k + 1, by omega, by go_num, by rw [HT.out], hB.alloc hB.size _⟩
        case measure => simp [intOf]; omega
      · obtain rfl : k = ps.length := by omega
        have ht : ps.take ps.length = ps := List.take_length
        rw [ht]
        go_wp2
        go_ret
        exact ⟨ret_int HR.out.symm, hB⟩
set_option maxHeartbeats 2000000 in
theorem sscore (w : World) (a : Option Addr) (cap : Nat) (ps : List (Int × Int)) (l2 : Int) (h : IsP w a ps) (hl : ps.length ≤ 1048576) :
    Calls Try.prog 12 #[.slice a ps.length cap, .int .i64 l2] w fun e w' => e = .returned (.int .i64 (score ps l2)) ∧ Below w.heap.size w w' := by
  by_cases h16 : ps.length ≤ 16
  rotate_left
  · have HR : Hid (score ps l2 = 0) := score_no (scok_head (fun h => h16 h.1))
    have hd : decide (16 < (ps.length : Int)) = true := by simp; omega
    go_enter Try.func12, Try.ntmps12
    go_wp2_with fail
    go_ret
    exact ⟨ret_int HR.out.symm, Below.refl _ _⟩
  have hd : decide (16 < (ps.length : Int)) = false := by simp; omega
  cases hv : btw l2 1 1000 with
  | false =>
    have HR : Hid (score ps l2 = 0) := score_no (scok_head (fun h => by simp only [btw, decide_eq_false_iff_not] at hv; exact hv h.2))
    go_enter Try.func12, Try.ntmps12
    go_wp2_with (go_at_call 24; refine (Li.between_any _ _ _ _).mono ?_; rintro e w' ⟨rfl, hw⟩; subst w'; rw [hv])
    go_ret
    exact ⟨ret_int HR.out.symm, Below.refl _ _⟩
  | true =>
    have h2 : 1 ≤ l2 ∧ l2 ≤ 1000 := by simp only [btw, decide_eq_true_iff] at hv; exact hv
    go_enter Try.func12, Try.ntmps12
    go_wp2_with (go_at_call 24; refine (Li.between_any _ _ _ _).mono ?_; rintro e w' ⟨rfl, hw⟩; subst w'; rw [hv])
    clear hv
    go_loopw [5, 6] (fun q i wr => ∃ k : Nat, k ≤ ps.length ∧ i = .int .i64 k ∧ q = .int .i64 (ssum l2 (ps.take k)) ∧ (∀ j (hj : j < ps.length), j < k → cok ps[j]) ∧ ∃ z, wr = w.drewN z) (fun _ i _ => ps.length - (intOf i).toNat)
    case atStart => exact ⟨0, Nat.zero_le _, rfl, by simp [ssum], fun j hj h => by omega, 0, rfl⟩
    case round =>
      obtain ⟨k, hk, rfl, rfl, hn, z, hz⟩ := hrel
      have HN : Hid (∀ j (hj : j < ps.length), j < k → cok ps[j]) := hn
      have HZ : Hid (wr = w.drewN z) := hz
      have hBr : Below w.heap.size w wr := by rw [hz]; exact Tm.below_drewN' _ _
      clear hn hz
      by_cases hlt : k < ps.length
      · rcases h.below hBr with h0 | ⟨b, off, rfl, hb, hc⟩
        · rw [h0] at hlt; simp at hlt
        obtain ⟨c0, c1⟩ := hc k hlt
        have HT : Hid (ssum l2 (ps.take (k + 1)) = ssum l2 (ps.take k) + one ps[k] l2) := ssum_take ps l2 k hlt
        obtain ⟨r0, r1⟩ := ssum_range ps l2 h2 k hk (fun j hj hjk => HN.out j hj hjk)
        obtain ⟨Z, hZ⟩ : ∃ Z, ssum l2 (ps.take k) = Z := ⟨_, rfl⟩
        rw [hZ] at r0 r1 HT ⊢
        have hz : Z ≤ 102400000000000000 := by omega
        have HCK : Hid (cok ps[k] ↔ btw ps[k].1 0 40 = true ∧ btw ps[k].2 (-80000000) 80000000 = true) := by show _ ↔ _; simp [cok, btw]
        have HBAD : Hid (¬ cok ps[k] → score ps l2 = 0) := fun hb => score_no (scok_bad hlt hb)
        have HGO : Hid (cok ps[k] → (0 ≤ one ps[k] l2 ∧ one ps[k] l2 ≤ 6400000000000000) ∧ (0 ≤ ps[k].2 * ps[k].2 ∧ ps[k].2 * ps[k].2 ≤ 6400000000000000)) := fun hc => ⟨one_range hc h2, sq_range hc⟩
        unfold one at HGO HT
        obtain ⟨N, hN⟩ : ∃ N, ps[k].1 = N := ⟨_, rfl⟩
        obtain ⟨G, hG⟩ : ∃ G, ps[k].2 = G := ⟨_, rfl⟩
        rw [hN] at c0 HT HGO HCK
        rw [hG] at c1 HT HGO HCK
        clear hc hZ hN hG r1
        cases hv1 : btw N 0 40 with
        | false =>
          have HR : Hid (score ps l2 = 0) := HBAD.out (fun h => by have := (HCK.out.1 h).1; rw [hv1] at this; cases this)
          go_wp2_with (go_at_call_of 24 N; refine (Li.between_any _ _ _ _).mono ?_; rintro e w' ⟨rfl, hw⟩; subst w'; rw [hv1])
          go_ret
          exact ⟨ret_int HR.out.symm, hBr⟩
        | true =>
          cases hv2 : btw G (-80000000) 80000000 with
          | false =>
            have HR : Hid (score ps l2 = 0) := HBAD.out (fun h => by have := (HCK.out.1 h).2; rw [hv2] at this; cases this)
            go_wp2_with (first | (go_at_call_of 24 N; refine (Li.between_any _ _ _ _).mono ?_; rintro e w' ⟨rfl, hw⟩; subst w'; rw [hv1]) | (go_at_call_of 24 G; refine (Li.between_any _ _ _ _).mono ?_; rintro e w' ⟨rfl, hw⟩; subst w'; rw [hv2]))
            go_ret
            exact ⟨ret_int HR.out.symm, hBr⟩
          | true =>
            have hck := HCK.out.2 ⟨hv1, hv2⟩
            obtain ⟨⟨q0, q1⟩, s0, s1⟩ := HGO.out hck
            have HR : Hid (∀ j (hj : j < ps.length), j < k + 1 → cok ps[j]) := fun j hj h => by
              by_cases e : j = k
              · subst e; exact hck
              · exact HN.out j hj (by omega)
            have hN := hv1
            have hG := hv2
            simp only [btw, decide_eq_true_iff] at hN hG
            have hne : ¬ N + l2 = 0 := by omega
            have hnb : (N + l2 == 0) = false := by simp; omega
            clear hck
            go_wp2_with (first | (go_at_call_of 24 N; refine (Li.between_any _ _ _ _).mono ?_; rintro e w' ⟨rfl, hw⟩; subst w'; rw [hv1]) | (go_at_call_of 24 G; refine (Li.between_any _ _ _ _).mono ?_; rintro e w' ⟨rfl, hw⟩; subst w'; rw [hv2]))
            go_quiet (fail)
            go_wp2
            go_roundw
            case rel => exact ⟨k + 1, by omega, by go_num, by rw [HT.out], HR.out, _, by rw [HZ.out, World.drewN_drewN]⟩
            case measure => simp [intOf]; omega
      · obtain rfl : k = ps.length := by omega
        have ht : ps.take ps.length = ps := List.take_length
        have HR : Hid (score ps l2 = ssum l2 ps) := score_ok (scok_all h16 h2 (fun j hj => HN.out j hj hj))
        rw [ht]
        go_wp2
        go_ret
        exact ⟨ret_int HR.out.symm, hBr⟩
end Go.Proofs.Ytmfippeclkmhnaa.Sw7
