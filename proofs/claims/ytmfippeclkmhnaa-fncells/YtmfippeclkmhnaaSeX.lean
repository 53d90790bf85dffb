/-
  RowsOk of the model.
-/
import Derived.Test.YtmfippeclkmhnaaSeW
namespace Go.Proofs.Ytmfippeclkmhnaa.Sw7
open Go.RowKit
open Go.Proofs.Ytmfippeclkmhnaa.Li (ret_bool ret_int below_none IsL btw)
open Go.Proofs.Ytmfippeclkmhnaa.Se Go.Proofs.Ytmfippeclkmhnaa.Sv
set_option linter.unusedVariables false

set_option maxHeartbeats 2000000 in
theorem srows (w : World) (a0 a1 a2 : Option Addr) (c0 c1 c2 : Nat) (r : R) (h : Rd w a0 a1 a2 r) :
    Calls Try.prog 8 #[.agg #[.slice a0 r.x.length c0, .slice a1 r.g.length c1, .slice a2 r.ids.length c2, .int .i64 r.lv, .int .i64 r.l2]] w fun e w' => e = .returned (.bool (rok r)) ∧ Below w.heap.size w w' := by
  by_cases hs : Se.shape r
  rotate_left
  · have HR : Hid (rok r = false) := rok_shape hs
    have HS : Hid (¬ Se.shape r) := hs
    clear hs
    obtain ⟨n, hn⟩ : ∃ n, r.x.length = n := ⟨_, rfl⟩
    obtain ⟨m, hm⟩ : ∃ n, r.g.length = n := ⟨_, rfl⟩
    obtain ⟨q, hq⟩ : ∃ n, r.ids.length = n := ⟨_, rfl⟩
    have HE : Hid (r.x.length = n ∧ r.g.length = m ∧ r.ids.length = q) := ⟨hn, hm, hq⟩
    rw [hn, hm, hq]
    clear hn hm hq
    cases hl : btw r.lv 1 16
    all_goals cases hl2 : btw r.l2 1 1000
    all_goals have HL : Hid (btw r.lv 1 16 = _ ∧ btw r.l2 1 1000 = _) := ⟨hl, hl2⟩
    all_goals
      go_enter Try.func8, Try.ntmps8
      go_wp2_with (first | (go_at_call_of 24 (16 : Int); refine (Li.between_any _ _ _ _).mono ?_; rintro e w' ⟨rfl, hw⟩; subst w'; rw [hl]) | (go_at_call 24; refine (Li.between_any _ _ _ _).mono ?_; rintro e w' ⟨rfl, hw⟩; subst w'; rw [hl2]))
    all_goals first
      | (go_ret; exact ⟨ret_bool HR.out.symm, below_box1⟩)
      | (exfalso; have h1 := HS.out; have h2 := HE.out; have h3 := HL.out; simp [btw] at h3; simp [Se.shape] at h1; omega)
  obtain ⟨s1, s2, s3, s4, s5⟩ := hs
  obtain ⟨i0, i1, i2⟩ := h
  have HS : Hid (Se.shape r) := ⟨s1, s2, s3, s4, s5⟩
  have HH : Hid (Rd w a0 a1 a2 r) := ⟨i0, i1, i2⟩
  rw [s2, s3]
  obtain ⟨n, hn⟩ : ∃ n, r.x.length = n := ⟨_, rfl⟩
  have HE : Hid (r.x.length = n) := hn
  rw [hn] at s1 ⊢
  obtain ⟨lv, hlv⟩ : ∃ x, r.lv = x := ⟨_, rfl⟩
  have HV : Hid (r.lv = lv) := hlv
  rw [hlv] at s4 ⊢
  have hl : btw lv 1 16 = true := by simp only [btw, decide_eq_true_iff]; exact s4
  have hl2 : btw r.l2 1 1000 = true := by simp only [btw, decide_eq_true_iff]; exact s5
  have hne : ((n : Int) != (n : Int)) = false := by simp
  clear hn s2 s3 i0 i1 i2 hlv
  go_enter Try.func8, Try.ntmps8
  go_wp2_with (first | (go_at_call_of 24 (16 : Int); refine (Li.between_any _ _ _ _).mono ?_; rintro e w' ⟨rfl, hw⟩; subst w'; rw [hl]) | (go_at_call 24; refine (Li.between_any _ _ _ _).mono ?_; rintro e w' ⟨rfl, hw⟩; subst w'; rw [hl2]))
  obtain ⟨W, hW, hsz, hB, bx⟩ := new1 w [.slice a0 n c0, .slice a1 n c1, .slice a2 n c2, .int .i64 lv, .int .i64 r.l2] 27
  rw [hW]
  have HX : Hid (Wr W w.heap.size 0 [.slice a0 n c0, .slice a1 n c1, .slice a2 n c2, .int .i64 lv, .int .i64 r.l2]) := bx
  have HBW : Hid (Below w.heap.size w W) := hB
  clear hW hsz hl hl2 hB bx
  go_loopw [3] (fun i wr => ∃ k : Nat, k ≤ n ∧ i = .int .i64 k ∧ (∀ j, j < k → rowok r j) ∧ ∃ z, wr = W.drewN z) (fun i _ => n - (intOf i).toNat)
  case atStart => exact ⟨0, Nat.zero_le _, rfl, fun j hj => by omega, 0, rfl⟩
  case round =>
    obtain ⟨k, hk, rfl, hn, z, hz⟩ := hrel
    have HN : Hid (∀ j, j < k → rowok r j) := hn
    have HZ : Hid (wr = W.drewN z) := hz
    have hbr : Below W.heap.size W wr := by rw [hz]; exact Tm.below_drewN' _ _
    obtain ⟨_, ⟨x0, x1, x2, x3, x4⟩, _⟩ := wr5 (HX.out.below hbr)
    have HBR : Hid (Below w.heap.size w wr) := HBW.out.trans (hbr.mono HBW.out.size)
    clear hn hz
    by_cases hlt : k < n
    · obtain ⟨xb, xo, gb, go, ib, io, a', c', rfl, rfl, rfl, ⟨hb0, hb1, hb2⟩, hx, _, hg, hi⟩ := rd_row (HH.out.below HBR.out) HS.out.2.1 HS.out.2.2.1 k (by rw [HE.out]; exact hlt)
      have HK : Hid (rowok r k ↔ rwk (r.x.getD k []).length (r.g.getD k 0) (r.ids.getD k 0) r.lv) := Iff.rfl
      rw [HV.out] at HK
      obtain ⟨L, hL⟩ : ∃ L, (r.x.getD k []).length = L := ⟨_, rfl⟩
      obtain ⟨G, hG⟩ : ∃ G, r.g.getD k 0 = G := ⟨_, rfl⟩
      obtain ⟨I, hI⟩ : ∃ I, r.ids.getD k 0 = I := ⟨_, rfl⟩
      rw [hL] at hx HK
      rw [hG] at hg HK
      rw [hI] at hi HK
      clear hL hG hI hbr
      have hlt' : (k : Int) < n := by omega
      obtain ⟨p, hp⟩ : ∃ p, lv - 1 = p := ⟨_, rfl⟩
      have HP : Hid (lv - 1 = p) := hp
      have hpw : IntKind.i64.wrap (lv - 1) = p := by rw [hp]; simp [IntKind.wrap, IntKind.bits, IntKind.signed]; omega
      have hpv : wrap64 (lv - 1) = p := by unfold wrap64; omega
      by_cases h6 : L = 6
      rotate_left
      · have e6 : ((L : Int) != 6) = true := by simp; omega
        have HR : Hid (rok r = false) := rok_row (by rw [HE.out]; exact hlt) (fun h => h6 (HK.out.1 h).1)
        go_wp2
        go_quiet (fail)
        go_wp2
        go_ret
        exact ⟨ret_bool HR.out.symm, HBR.out.trans ((Tm.below_drewN' _ _).mono HBR.out.size)⟩
      have e6 : ((L : Int) != 6) = false := by simp; omega
      cases hgr : btw G (-2000000) 2000000 with
      | false =>
        have HR : Hid (rok r = false) := rok_row (by rw [HE.out]; exact hlt) (fun h => by have := (HK.out.1 h).2.1; simp only [btw, decide_eq_false_iff_not] at hgr; omega)
        go_wp2
        go_quiet (first | (go_at_call 24; refine Calls.quiet_of_same (sbtwv _ (-2000000) 2000000 false hgr _)))
        go_wp2
        go_ret
        exact ⟨ret_bool HR.out.symm, HBR.out.trans ((Tm.below_drewN' _ _).mono HBR.out.size)⟩
      | true =>
        cases hid : btw I 0 p with
        | false =>
          have HR : Hid (rok r = false) := rok_row (by rw [HE.out]; exact hlt) (fun h => by have := (HK.out.1 h).2.2; simp only [btw, decide_eq_false_iff_not] at hid; have := HP.out; omega)
          go_wp2
          go_quiet (first | (go_at_call_of 24 G; refine Calls.quiet_of_same (sbtwv _ (-2000000) 2000000 true hgr _)) | (go_at_call_of 24 I; refine Calls.quiet_of_same (sbtwv I 0 p false hid _)))
          go_wp2
          go_ret
          exact ⟨ret_bool HR.out.symm, HBR.out.trans ((Tm.below_drewN' _ _).mono HBR.out.size)⟩
        | true =>
          have HR : Hid (∀ j, j < k + 1 → rowok r j) := fun j hj => by
            by_cases e : j = k
            · subst e; simp only [btw, decide_eq_true_iff] at hid hgr; have := HP.out; exact HK.out.2 ⟨h6, hgr, by omega, by omega⟩
            · exact HN.out j (by omega)
          go_wp2
          go_quiet (first | (go_at_call_of 24 G; refine Calls.quiet_of_same (sbtwv _ (-2000000) 2000000 true hgr _)) | (go_at_call_of 24 I; refine Calls.quiet_of_same (sbtwv I 0 p true hid _)))
          go_wp2
          go_roundw
          case rel => exact ⟨k + 1, by omega, by go_num, HR.out, _, by rw [HZ.out, World.drewN_drewN]⟩
          case measure => simp [intOf]; omega
    · have HR : Hid (rok r = true) := rok_all HS.out (fun j hj => HN.out j (by rw [HE.out] at hj; omega))
      go_wp2
      go_ret
      exact ⟨ret_bool HR.out.symm, HBR.out⟩
end Go.Proofs.Ytmfippeclkmhnaa.Sw7
