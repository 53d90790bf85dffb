/-
  What the model of the document answers for a number in a text.
-/
import Derived.Test.YtadjedoakenlkaaGreatDoorRsa
import Derived.Test.YtadjedoakenlkaaGreatDoorNum
import Derived.Test.YtadjedoakenlkaaGreatDoorStrs
namespace Go.Proofs.YtadjedoakenlkaaGreatDoor.Rs
set_option maxRecDepth 100000
open Go.RowKit
open Go.Proofs.YtadjedoakenlkaaGreatDoor.Ma (isDig scan)
set_option linter.unusedVariables false
theorem take_scan (l : List UInt8) (k : Nat) (h : k < l.length) (hd : isDig l[k]) : scan (l.take (k + 1)) = 10 * scan (l.take k) + (l[k].toNat - 48) := by
  unfold scan
  rw [List.take_succ_eq_append_getElem h, List.foldl_append]
  show Ma.step _ _ = _
  exact if_pos hd
theorem take_bd (l : List UInt8) (k : Nat) (h : l.length ≤ 11) : scan (l.take k) < 100000000000 := scan_bd _ (by rw [List.length_take]; omega)
set_option maxHeartbeats 2000000 in
theorem snumc (w : World) (s : ByteArray) (hs : s.size ≤ 1048576) :
    Calls Tryz.prog 15 #[.string s] w fun e w' => ((∃ v, snum s.data.toList = some v ∧ -100000000000 < v ∧ v < 100000000000 ∧ e = .returned (.tuple #[.int .i64 v, .bool true])) ∨ (snum s.data.toList = none ∧ ∃ v : Int, e = .returned (.tuple #[.int .i64 v, .bool false]))) ∧ Below w.heap.size w w' := by
  have hsz : s.data.toList.length = s.size := by simp
  go_enter Tryz.func15, Tryz.ntmps15
  by_cases h0 : 0 < s.size
  · have HAT0 : Hid (s.data.toList[0]'(by omega) = s[0]'h0) := by show _ = _; rw [Array.getElem_toList]; rfl
    by_cases h45 : s[0]'h0 = 45
    · have hb45 : (((s[0]'h0).toNat : Int) == 45) = true := by rw [h45]; rfl
      have hs1 : 1 ≤ s.size := h0
      have hdl : (s.extract 1 s.size).data.toList = dg s.data.toList := by
        rw [ByteArray.data_extract, Array.toList_extract, List.extract_eq_take_drop]
        have h1 := HAT0.out.trans h45
        cases hq : s.data.toList with
        | nil => rw [hq] at hsz; simp at hsz; omega
        | cons c r =>
          simp only [hq, List.getElem_cons_zero] at h1
          rw [hq] at hsz
          simp at hsz
          subst h1
          show List.take (s.size - 1) r = if (45 : UInt8) = 45 then r else 45 :: r
          rw [if_pos rfl, List.take_of_length_le (by omega)]
      go_wp2_with fail
      have hds : s.size - 1 = (s.extract 1 s.size).size := by simp
      generalize s.extract 1 s.size = D at hdl hds ⊢
      rw [hds]
      clear hds
      have hdz : D.data.toList.length = D.size := by simp
      have HDL : Hid (D.data.toList = dg s.data.toList) := hdl
      have HDZ : Hid (D.data.toList.length = D.size) := hdz
      have hne : ¬ D = s := fun e => by
        have h1 := HAT0.out.trans h45
        subst e
        cases hq : D.data.toList with
        | nil => rw [hq] at hsz; simp at hsz; omega
        | cons c r =>
          rw [hq] at hdl
          simp only [hq, List.getElem_cons_zero] at h1
          subst h1
          have := congrArg List.length hdl
          simp [dg] at this
      have NEQ : Hid (¬ D.data.toList = s.data.toList) := fun e => hne (by
        obtain ⟨⟨a⟩⟩ := D
        obtain ⟨⟨c⟩⟩ := s
        exact congrArg (fun x => ByteArray.mk ⟨x⟩) e)
      have q0 := Ls.tl_ne hne
      clear hdl hdz hsz hne h45 hb45 HAT0
      refine (Li.between_any (D.size : Int) 1 11 w).mono ?_
      rintro e w1 ⟨rfl, rfl⟩
      cases hbt : Li.btw (D.size : Int) 1 11 with
      | false =>
        have HR : Hid (snum s.data.toList = none) := snum_no1 (by rw [← HDL.out, HDZ.out]; unfold Li.btw at hbt; simp at hbt; omega)
        go_wp2
        refine bodyPost_ret (v := .tuple #[.int .i64 0, .bool false]) (by simp [results, Tryz.results15, go_sem]) rfl ⟨.inr ⟨HR.out, 0, rfl⟩, Below.refl _ _⟩
      | true =>
      have hln : 1 ≤ D.size ∧ D.size ≤ 11 := by unfold Li.btw at hbt; simp at hbt; omega
      have HLN : Hid (1 ≤ (dg s.data.toList).length ∧ (dg s.data.toList).length ≤ 11) := by rw [← HDL.out, HDZ.out]; exact hln
      go_wp2_with fail
      go_loop [4, 6] (fun x i => ∃ k : Nat, k ≤ D.size ∧ i = .int .i64 k ∧ x = .int .i64 (scan (D.data.toList.take k) : Nat) ∧ ∀ c ∈ D.data.toList.take k, isDig c) (fun _ i => D.size - (intOf i).toNat)
      case atStart => exact ⟨0, Nat.zero_le _, rfl, rfl, fun c hc => by simp at hc⟩
      case round =>
        obtain ⟨k, hk, rfl, rfl, hall⟩ := hrel
        have HALL : Hid (type_of% hall) := hall
        have hbd := take_bd D.data.toList k (by rw [HDZ.out]; omega)
        clear hall
        by_cases hlt : k < D.size
        · have HKL : Hid (k < D.data.toList.length) := by rw [HDZ.out]; exact hlt
          have HAT : Hid (D.data.toList[k]'HKL.out = D[k]'hlt) := by show _ = _; rw [Array.getElem_toList]; rfl
          have HTS : Hid (isDig (D[k]'hlt) → scan (D.data.toList.take (k + 1)) = 10 * scan (D.data.toList.take k) + ((D[k]'hlt).toNat - 48)) := fun h => by have := take_scan D.data.toList k HKL.out (by rw [HAT.out]; exact h); rw [HAT.out] at this; exact this
          have hc := (D[k]'hlt).toNat_lt
          go_wp2_with fail
          refine (Li.between_any _ 48 57 _).mono ?_
          rintro e w1 ⟨rfl, rfl⟩
          cases hd : Li.btw (((D[k]'hlt).toNat : Nat) : Int) 48 57 with
          | false =>
            have HR : Hid (snum s.data.toList = none) := snum_no2 (fun h => by
              have h1 := h (D[k]'hlt) (by rw [← HDL.out, ← HAT.out]; exact List.getElem_mem _)
              unfold isDig at h1; unfold Li.btw at hd; simp at hd; omega)
            go_wp2
            refine bodyPost_ret (v := .tuple #[.int .i64 0, .bool false]) (by simp [results, Tryz.results15, go_sem]) rfl ⟨.inr ⟨HR.out, 0, rfl⟩, Below.refl _ _⟩
          | true =>
          have hdg : 48 ≤ (D[k]'hlt).toNat ∧ (D[k]'hlt).toNat ≤ 57 := by unfold Li.btw at hd; simp at hd; omega
          have HT2 : Hid (scan (D.data.toList.take (k + 1)) = 10 * scan (D.data.toList.take k) + ((D[k]'hlt).toNat - 48)) := HTS.out hdg
          have HA2 : Hid (∀ c ∈ D.data.toList.take (k + 1), isDig c) := fun c hc => by
            rw [List.take_succ_eq_append_getElem HKL.out] at hc
            rcases List.mem_append.1 hc with h | h
            · exact HALL.out c h
            · simp at h; rw [h]; show isDig (D.data.toList[k]'HKL.out); rw [HAT.out]; exact hdg
          generalize scan (D.data.toList.take k) = q at hbd HT2 ⊢
          have hw1 : IntKind.u8.wrap (((D[k]'hlt).toNat : Int) - 48) = ((D[k]'hlt).toNat : Int) - 48 := by rw [IntKind.wrap_u8]; omega
          go_wp2
          go_round
          case rel => exact ⟨k + 1, by omega, by go_num, by rw [HT2.out]; go_num, HA2.out⟩
          case measure => simp [intOf]; omega
        · obtain rfl : k = D.size := by omega
          have HTA : Hid (D.data.toList.take D.size = D.data.toList) := by show _ = _; rw [← HDZ.out, List.take_length]
          rw [HTA.out] at HALL hbd ⊢
          have HSG : Hid (sgn s.data.toList = -(scan D.data.toList : Int)) := by show _ = _; unfold sgn; rw [← HDL.out]; exact if_neg NEQ.out
          generalize scan D.data.toList = q at hbd HSG ⊢
          go_wp2_with fail
          refine (Nu.snum (-(q : Int)) _ (by omega) (by omega)).mono ?_
          rintro e w1 ⟨rfl, hB⟩
          have hte : (ByteArray.mk (Lib.itoa (-(q : Int))).toArray).data.toList = Lib.itoa (-(q : Int)) := by simp
          generalize ByteArray.mk (Lib.itoa (-(q : Int))).toArray = t at hte ⊢
          by_cases h1 : t = s
          · have HR : Hid (snum s.data.toList = some (-(q : Int))) := by
              show _ = _
              rw [← HSG.out]
              exact snum_yes HLN.out (by rw [← HDL.out]; exact HALL.out) (by rw [HSG.out, ← hte, h1])
            have q1 := Ls.tl_eq h1
            clear h1 hte
            go_wp2
            refine bodyPost_ret (v := .tuple #[.int .i64 (-(q : Int)), .bool true]) (by simp [results, Tryz.results15, go_sem]) rfl ⟨.inl ⟨_, HR.out, by omega, by omega, rfl⟩, hB⟩
          · have HR : Hid (snum s.data.toList = none) := snum_no3 (fun e => h1 (by
              rw [HSG.out, ← hte] at e
              obtain ⟨⟨a⟩⟩ := t
              obtain ⟨⟨c⟩⟩ := s
              exact congrArg (fun x => ByteArray.mk ⟨x⟩) e))
            have q1 := Ls.tl_ne h1
            clear h1 hte
            go_wp2
            refine bodyPost_ret (v := .tuple #[.int .i64 (-(q : Int)), .bool false]) (by simp [results, Tryz.results15, go_sem]) rfl ⟨.inr ⟨HR.out, _, rfl⟩, hB⟩
    · have hb45 : (((s[0]'h0).toNat : Int) == 45) = false := by
        simp only [beq_eq_false_iff_ne, ne_eq]
        intro e
        exact h45 (UInt8.toNat_inj.1 (by show _ = 45; omega))
      have hdl : s.data.toList = dg s.data.toList := by
        have h1 := HAT0.out
        cases hq : s.data.toList with
        | nil => rfl
        | cons c r =>
          simp only [hq, List.getElem_cons_zero] at h1
          exact (if_neg (fun e => h45 (h1.symm.trans e))).symm
      go_wp2_with fail
      have HDL : Hid (s.data.toList = dg s.data.toList) := hdl
      have HDZ : Hid (s.data.toList.length = s.size) := hsz
      have NEQ : Hid (s.data.toList = s.data.toList) := rfl
      have q0 := Ls.tl_eq (rfl : s = s)
      clear hdl hsz h45 hb45 HAT0
      refine (Li.between_any (s.size : Int) 1 11 w).mono ?_
      rintro e w1 ⟨rfl, rfl⟩
      cases hbt : Li.btw (s.size : Int) 1 11 with
      | false =>
        have HR : Hid (snum s.data.toList = none) := snum_no1 (by rw [← HDL.out, HDZ.out]; unfold Li.btw at hbt; simp at hbt; omega)
        go_wp2
        refine bodyPost_ret (v := .tuple #[.int .i64 0, .bool false]) (by simp [results, Tryz.results15, go_sem]) rfl ⟨.inr ⟨HR.out, 0, rfl⟩, Below.refl _ _⟩
      | true =>
      have hln : 1 ≤ s.size ∧ s.size ≤ 11 := by unfold Li.btw at hbt; simp at hbt; omega
      have HLN : Hid (1 ≤ (dg s.data.toList).length ∧ (dg s.data.toList).length ≤ 11) := by rw [← HDL.out, HDZ.out]; exact hln
      go_wp2_with fail
      go_loop [4, 6] (fun x i => ∃ k : Nat, k ≤ s.size ∧ i = .int .i64 k ∧ x = .int .i64 (scan (s.data.toList.take k) : Nat) ∧ ∀ c ∈ s.data.toList.take k, isDig c) (fun _ i => s.size - (intOf i).toNat)
      case atStart => exact ⟨0, Nat.zero_le _, rfl, rfl, fun c hc => by simp at hc⟩
      case round =>
        obtain ⟨k, hk, rfl, rfl, hall⟩ := hrel
        have HALL : Hid (type_of% hall) := hall
        have hbd := take_bd s.data.toList k (by rw [HDZ.out]; omega)
        clear hall
        by_cases hlt : k < s.size
        · have HKL : Hid (k < s.data.toList.length) := by rw [HDZ.out]; exact hlt
          have HAT : Hid (s.data.toList[k]'HKL.out = s[k]'hlt) := by show _ = _; rw [Array.getElem_toList]; rfl
          have HTS : Hid (isDig (s[k]'hlt) → scan (s.data.toList.take (k + 1)) = 10 * scan (s.data.toList.take k) + ((s[k]'hlt).toNat - 48)) := fun h => by have := take_scan s.data.toList k HKL.out (by rw [HAT.out]; exact h); rw [HAT.out] at this; exact this
          have hc := (s[k]'hlt).toNat_lt
          go_wp2_with fail
          refine (Li.between_any _ 48 57 _).mono ?_
          rintro e w1 ⟨rfl, rfl⟩
          cases hd : Li.btw (((s[k]'hlt).toNat : Nat) : Int) 48 57 with
          | false =>
            have HR : Hid (snum s.data.toList = none) := snum_no2 (fun h => by
              have h1 := h (s[k]'hlt) (by rw [← HDL.out, ← HAT.out]; exact List.getElem_mem _)
              unfold isDig at h1; unfold Li.btw at hd; simp at hd; omega)
            go_wp2
            refine bodyPost_ret (v := .tuple #[.int .i64 0, .bool false]) (by simp [results, Tryz.results15, go_sem]) rfl ⟨.inr ⟨HR.out, 0, rfl⟩, Below.refl _ _⟩
          | true =>
          have hdg : 48 ≤ (s[k]'hlt).toNat ∧ (s[k]'hlt).toNat ≤ 57 := by unfold Li.btw at hd; simp at hd; omega
          have HT2 : Hid (scan (s.data.toList.take (k + 1)) = 10 * scan (s.data.toList.take k) + ((s[k]'hlt).toNat - 48)) := HTS.out hdg
          have HA2 : Hid (∀ c ∈ s.data.toList.take (k + 1), isDig c) := fun c hc => by
            rw [List.take_succ_eq_append_getElem HKL.out] at hc
            rcases List.mem_append.1 hc with h | h
            · exact HALL.out c h
            · simp at h; rw [h]; show isDig (s.data.toList[k]'HKL.out); rw [HAT.out]; exact hdg
          generalize scan (s.data.toList.take k) = q at hbd HT2 ⊢
          have hw1 : IntKind.u8.wrap (((s[k]'hlt).toNat : Int) - 48) = ((s[k]'hlt).toNat : Int) - 48 := by rw [IntKind.wrap_u8]; omega
          go_wp2
          go_round
          case rel => exact ⟨k + 1, by omega, by go_num, by rw [HT2.out]; go_num, HA2.out⟩
          case measure => simp [intOf]; omega
        · obtain rfl : k = s.size := by omega
          have HTA : Hid (s.data.toList.take s.size = s.data.toList) := by show _ = _; rw [← HDZ.out, List.take_length]
          rw [HTA.out] at HALL hbd ⊢
          have HSG : Hid (sgn s.data.toList = (scan s.data.toList : Int)) := by show _ = _; unfold sgn; rw [← HDL.out]; exact if_pos rfl
          generalize scan s.data.toList = q at hbd HSG ⊢
          go_wp2_with fail
          refine (Nu.snum (q : Int) _ (by omega) (by omega)).mono ?_
          rintro e w1 ⟨rfl, hB⟩
          have hte : (ByteArray.mk (Lib.itoa ((q : Int))).toArray).data.toList = Lib.itoa ((q : Int)) := by simp
          generalize ByteArray.mk (Lib.itoa ((q : Int))).toArray = t at hte ⊢
          by_cases h1 : t = s
          · have HR : Hid (snum s.data.toList = some ((q : Int))) := by
              show _ = _
              rw [← HSG.out]
              exact snum_yes HLN.out (by rw [← HDL.out]; exact HALL.out) (by rw [HSG.out, ← hte, h1])
            have q1 := Ls.tl_eq h1
            clear h1 hte
            go_wp2
            refine bodyPost_ret (v := .tuple #[.int .i64 ((q : Int)), .bool true]) (by simp [results, Tryz.results15, go_sem]) rfl ⟨.inl ⟨_, HR.out, by omega, by omega, rfl⟩, hB⟩
          · have HR : Hid (snum s.data.toList = none) := snum_no3 (fun e => h1 (by
              rw [HSG.out, ← hte] at e
              obtain ⟨⟨a⟩⟩ := t
              obtain ⟨⟨c⟩⟩ := s
              exact congrArg (fun x => ByteArray.mk ⟨x⟩) e))
            have q1 := Ls.tl_ne h1
            clear h1 hte
            go_wp2
            refine bodyPost_ret (v := .tuple #[.int .i64 ((q : Int)), .bool false]) (by simp [results, Tryz.results15, go_sem]) rfl ⟨.inr ⟨HR.out, _, rfl⟩, hB⟩
  · have hz : s.size = 0 := by omega
    have HR : Hid (snum s.data.toList = none) := snum_no1 (by
      have : s.data.toList = [] := List.length_eq_zero_iff.1 (by omega)
      rw [this]
      simp [dg])
    have hz' : ¬ 0 < (s.size : Int) := by omega
    clear hsz h0
    go_wp2_with fail
    refine (Li.between_any _ 1 11 w).mono ?_
    rintro e w1 ⟨rfl, rfl⟩
    have hbt : Li.btw (s.size : Int) 1 11 = false := by rw [hz]; decide
    go_wp2
    refine bodyPost_ret (v := .tuple #[.int .i64 0, .bool false]) (by simp [results, Tryz.results15, go_sem]) rfl ⟨.inr ⟨HR.out, 0, rfl⟩, Below.refl _ _⟩
end Go.Proofs.YtadjedoakenlkaaGreatDoor.Rs
