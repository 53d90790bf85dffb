/-
  The number of a word by all labels: contracts of CtrOf, of the program and of its model, over one plain function.
-/
import Derived.Test.YthgjcplkladepaaCtrA
namespace Go.Proofs.Ythgjcplkladepaa.Ct
open Go.RowKit
open Go.Proofs.Ythgjcplkladepaa.Wd
open Go.Proofs.Ythgjcplkladepaa.Ta (TM Plc)
open Go.Proofs.Ythgjcplkladepaa.Tk (lok)
open Go.Proofs.Ythgjcplkladepaa.Li (ret_bool ret_int below_none btw)

theorem idx_get (n k : Nat) (h : k < (idx n).length) : (idx n)[k] = (k : Int) := by simp [idx]
def ofNum (ws : List ByteArray) (ls : List Int) (s : ByteArray) (p : Int) : Int := numb p (tal ws ls (idx ws.length) s)
def oNum (ws : List ByteArray) (ls : List Int) (s : ByteArray) (p : Int) : Int := if rgt ws.length ls p = true then ofNum ws ls s p else 0
theorem oNum_no {ws : List ByteArray} {ls : List Int} {s : ByteArray} {p : Int} (h : rgt ws.length ls p = false) : oNum ws ls s p = 0 := by unfold oNum; rw [h]; rfl
theorem oNum_yes {ws : List ByteArray} {ls : List Int} {s : ByteArray} {p : Int} (h : rgt ws.length ls p = true) : oNum ws ls s p = ofNum ws ls s p := by unfold oNum; rw [if_pos h]
set_option maxHeartbeats 4000000 in
theorem iof (w : World) (aw al : Option Addr) (cw cl : Nat) (ws : List ByteArray) (ls : List Int) (s : ByteArray) (p : Int) (hw : Ls.IsS w aw ws) (hl : Li.IsL w al ls)
    (hwl : ws.length ≤ 1048576) (hll : ls.length ≤ 1048577) (hz : ∀ j (h : j < ws.length), ws[j].size ≤ maxLen) (hs : s.size ≤ maxLen) :
    Calls Try.prog 15 #[.slice aw ws.length cw, .slice al ls.length cl, .string s, .int .i64 p] w fun e w' => e = .returned (.tuple #[.int .i64 (oNum ws ls s p), .bool (rgt ws.length ls p)]) ∧ Below w.heap.size w w' := by
  cases hr : rgt ws.length ls p
  · rw [oNum_no hr]
    go_enter Try.func15, Try.ntmps15
    go_wp2_with (go_at_call 40; refine (ilok _ _ _ _ _ _ ls p hl hwl hll).mono ?_; rintro e w' ⟨rfl, hw⟩; subst w'; rw [hr])
    go_ret2
    exact ⟨rfl, Below.refl _ _⟩
  rw [oNum_yes hr]
  have hsm := rgt_sml hr
  obtain ⟨⟨hn40, hln, p0, p1⟩, _⟩ := rgt_iff.1 hr
  have HLN : Hid (ls.length = ws.length) := hln
  clear hln
  have hil := idx_len ws.length
  have HIL : Hid ((idx ws.length).length = ws.length) := hil
  clear hil
  have hmm := @run_makeMap Try.prog
  go_enter Try.func15, Try.ntmps15
  go_wp2_with (go_at_call 40; refine (ilok _ _ _ _ _ _ ls p hl hwl hll).mono ?_; rintro e w' ⟨rfl, hw⟩; subst w'; rw [hr])
  go_loopw [21] (fun i wr => ∃ k : Nat, k ≤ ws.length ∧ i = .int .i64 k ∧ TM wr w.heap.size k (tal ws ls ((idx ws.length).take k)) ∧ Below w.heap.size w wr) (fun i _ => ws.length - (intOf i).toNat)
  case atStart => exact ⟨0, Nat.zero_le _, rfl, (Ta.tm_made _).same (fun s => by simp [tal, tr, tl]), (Below.refl _ _).alloc (Nat.le_refl _) _⟩
  case round =>
    obtain ⟨k, hk, rfl, hm, hB⟩ := hrel
    by_cases hlt : k < ws.length
    · have hki : k < (idx ws.length).length := by rw [HIL.out]; exact hlt
      have hkl : k < ls.length := by have := HLN.out; omega
      rcases hw.below hB with rfl | ⟨wb, wo, rfl, hwb, hwc⟩
      · simp at hlt
      rcases hl.below hB with rfl | ⟨lb, lo, rfl, hlb, hlc⟩
      · simp at hkl
      have HT := tal_step ws ls (idx ws.length) k hki
      have hbd := tal_bd ws ls ((idx ws.length).take k) hsm (wat ws (idx ws.length)[k]) (by simp; have := HIL.out; omega)
      rw [idx_get] at HT hbd
      have HT : Hid (∀ t, ups (tal ws ls ((idx ws.length).take k)) (wat ws k) ((tal ws ls ((idx ws.length).take k) (wat ws k)).1 + 1, (tal ws ls ((idx ws.length).take k) (wat ws k)).2 + lat ls k) t = tal ws ls ((idx ws.length).take (k + 1)) t) := HT
      have hcw := hwc k hlt
      have hcl := hlc k hkl
      have ew : ws[k] = wat ws (k : Int) := by rw [wat_get (by omega)]; simp
      have el : ls[k] = lat ls (k : Int) := by rw [lat_get (by omega)]; simp
      have hsz := hz k hlt
      rw [ew] at hcw hsz
      rw [el] at hcl
      have hlb' := hsm (k : Int)
      obtain ⟨x, hx⟩ : ∃ x, wat ws (k : Int) = x := ⟨_, rfl⟩
      obtain ⟨l, hl'⟩ : ∃ l, lat ls (k : Int) = l := ⟨_, rfl⟩
      rw [hx] at HT hbd hcw hsz
      rw [hl'] at HT hcl hlb'
      clear hwc hlc ew el hx hl' hsm hz
      go_wp2_with (go_at_call 41; refine (Ta.add _ _ _ _ hm (by omega) _ hsz _ hlb'.1 hlb'.2 (by omega) (by omega) (by omega) (by omega)).mono ?_; rintro e w1 ⟨rfl, h1, g1⟩)
      go_roundw
      case rel => exact ⟨k + 1, by omega, by go_num, h1.same HT.out, Ta.grown_below hB hB.size g1⟩
      case measure => simp [intOf]; omega
    · obtain rfl : k = ws.length := by omega
      have ht : (idx ws.length).take ws.length = idx ws.length := List.take_of_length_le (by rw [HIL.out]; exact Nat.le_refl _)
      rw [ht] at hm
      have hbd := tal_bd ws ls (idx ws.length) hsm s (by have := HIL.out; omega)
      clear ht
      go_wp2_with (first
        | (at_lookup; refine Ta.at_tm _ rfl _ _ rfl _ _ _ rfl hm _ rfl hs ?_)
        | (go_at_call 35; refine (Ta.number _ _ _ _ (by omega) (by omega) (by omega) (by omega) p0 p1).mono ?_; rintro e w3 ⟨rfl, hB3⟩))
      go_ret2
      exact ⟨ret_two rfl rfl, hB.trans (hB3.mono hB.size)⟩
set_option maxHeartbeats 4000000 in
theorem sof (w : World) (aw al : Option Addr) (cw cl : Nat) (ws : List ByteArray) (ls : List Int) (s : ByteArray) (p : Int) (hw : Ls.IsS w aw ws) (hl : Li.IsL w al ls)
    (hwl : ws.length ≤ 1048576) (hll : ls.length ≤ 1048577) :
    Calls Try.prog 16 #[.slice aw ws.length cw, .slice al ls.length cl, .string s, .int .i64 p] w fun e w' => e = .returned (.tuple #[.int .i64 (oNum ws ls s p), .bool (rgt ws.length ls p)]) ∧ w' = w := by
  cases hr : rgt ws.length ls p
  · rw [oNum_no hr]
    go_enter Try.func16, Try.ntmps16
    go_wp2_with (go_at_call 36; refine (slok _ _ _ _ _ _ ls p hl hwl hll).mono ?_; rintro e w' ⟨rfl, hw⟩; subst w'; rw [hr])
    go_ret2
    exact ⟨rfl, rfl⟩
  rw [oNum_yes hr]
  have hsm := rgt_sml hr
  obtain ⟨⟨hn40, hln, p0, p1⟩, _⟩ := rgt_iff.1 hr
  have HLN : Hid (ls.length = ws.length) := hln
  clear hln
  have HIL : Hid ((idx ws.length).length = ws.length) := idx_len ws.length
  go_enter Try.func16, Try.ntmps16
  go_wp2_with (go_at_call 36; refine (slok _ _ _ _ _ _ ls p hl hwl hll).mono ?_; rintro e w' ⟨rfl, hw⟩; subst w'; rw [hr])
  go_loop [10, 11, 12] (fun x n i => ∃ q : Nat, q ≤ ws.length ∧ i = .int .i64 q ∧ x = .int .i64 (tl ws ls s ((idx ws.length).take q) + p) ∧ n = .int .i64 (tr ws s ((idx ws.length).take q) + 1)) (fun _ _ i => ws.length - (intOf i).toNat)
  case atStart => exact ⟨0, Nat.zero_le _, rfl, by simp [tl], by simp [tr]⟩
  case round =>
    obtain ⟨q, hq, rfl, rfl, rfl⟩ := hrel
    have hb1 := tr_bd ws s ((idx ws.length).take q)
    by_cases hlt : q < ws.length
    · have hki : q < (idx ws.length).length := by rw [HIL.out]; exact hlt
      have hkl : q < ls.length := by have := HLN.out; omega
      rcases hw with rfl | ⟨wb, wo, rfl, hwb, hwc⟩
      · simp at hlt
      rcases hl with rfl | ⟨lb, lo, rfl, hlb, hlc⟩
      · simp at hkl
      have hcw := hwc q hlt
      have hcl := hlc q hkl
      have ew : ws[q] = wat ws (q : Int) := by rw [wat_get (by omega)]; simp
      have el : ls[q] = lat ls (q : Int) := by rw [lat_get (by omega)]; simp
      rw [ew] at hcw
      rw [el] at hcl
      have hb4 := hsm (q : Int)
      have HT1 : Hid (tr ws s ((idx ws.length).take (q + 1)) = tr ws s ((idx ws.length).take q) + (if wat ws q = s then 1 else 0)) := by show _ = _; rw [List.take_succ_eq_append_getElem hki, tr_snoc, idx_get]
      have HT2 : Hid (tl ws ls s ((idx ws.length).take (q + 1)) = tl ws ls s ((idx ws.length).take q) + (if wat ws q = s then lat ls q else 0)) := by show _ = _; rw [List.take_succ_eq_append_getElem hki, tl_snoc, idx_get]
      have hb2 := tl_bd (ws := ws) hsm s ((idx ws.length).take q)
      have hb3 : ((idx ws.length).take q).length ≤ 40 := by simp; have := HIL.out; omega
      obtain ⟨x, hx⟩ : ∃ x, wat ws (q : Int) = x := ⟨_, rfl⟩
      obtain ⟨l, hl'⟩ : ∃ l, lat ls (q : Int) = l := ⟨_, rfl⟩
      rw [hx] at hcw HT1 HT2
      rw [hl'] at hcl hb4 HT2
      obtain ⟨R, hR⟩ : ∃ R, tr ws s ((idx ws.length).take q) = R := ⟨_, rfl⟩
      obtain ⟨L, hL⟩ : ∃ L, tl ws ls s ((idx ws.length).take q) = L := ⟨_, rfl⟩
      rw [hR] at hb1 hb2 HT1 ⊢
      rw [hL] at hb2 HT2 ⊢
      clear hR hL hx hl' hwc hlc ew el hsm
      by_cases he : x = s
      · have he' : (x.toList == s.toList) = true := Ls.tl_eq he
        rw [if_pos he] at HT1 HT2
        clear he
        go_wp2
        go_round
        case rel => exact ⟨q + 1, by omega, by go_num, by rw [HT2.out] <;> go_num, by rw [HT1.out] <;> go_num⟩
        case measure => simp [intOf]; omega
      · have he' : (x.toList == s.toList) = false := Ls.tl_ne he
        rw [if_neg he] at HT1 HT2
        clear he
        go_wp2
        go_round
        case rel => exact ⟨q + 1, by omega, by go_num, by rw [HT2.out] <;> go_num, by rw [HT1.out] <;> go_num⟩
        case measure => simp [intOf]; omega
    · obtain rfl : q = ws.length := by omega
      have HT : Hid ((idx ws.length).take ws.length = idx ws.length) := List.take_of_length_le (by rw [HIL.out]; exact Nat.le_refl _)
      go_wp2_with (go_at_call 39; refine (Ar.floor_any _ _ _ (by omega)).mono ?_; rintro e w' ⟨rfl, hw⟩; subst w')
      go_ret2
      exact ⟨ret_two (by rw [HT.out]; rfl) rfl, rfl⟩
theorem sofB (w : World) (aw al : Option Addr) (cw cl : Nat) (ws : List ByteArray) (ls : List Int) (s : ByteArray) (p : Int) (hw : Ls.IsS w aw ws) (hl : Li.IsL w al ls)
    (hwl : ws.length ≤ 1048576) (hll : ls.length ≤ 1048577) :
    Calls Try.prog 16 #[.slice aw ws.length cw, .slice al ls.length cl, .string s, .int .i64 p] w fun e w' => e = .returned (.tuple #[.int .i64 (oNum ws ls s p), .bool (rgt ws.length ls p)]) ∧ Below w.heap.size w w' := by
  refine (sof w aw al cw cl ws ls s p hw hl hwl hll).mono ?_
  rintro e w' ⟨rfl, rfl⟩
  exact ⟨rfl, Below.refl _ _⟩
end Go.Proofs.Ythgjcplkladepaa.Ct
