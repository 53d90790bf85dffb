/-
  The number of a row by the labels ahead of it: contracts of CtrAt, of the program and of its model, over one plain function.
-/
import Derived.Test.YthgjcplkladepaaCtr
namespace Go.Proofs.Ythgjcplkladepaa.Ct
open Go.RowKit
open Go.Proofs.Ythgjcplkladepaa.Wd
open Go.Proofs.Ythgjcplkladepaa.Ta (TM Plc)
open Go.Proofs.Ythgjcplkladepaa.Tk (lok)
open Go.Proofs.Ythgjcplkladepaa.Pe (pok POk pok_iff)
open Go.Proofs.Ythgjcplkladepaa.Li (ret_bool ret_int below_none btw)

/-- The number that a tally gives, the prior being one row more. -/
def numb (p : Int) (t : Int × Int) : Int := Ar.flo (t.2 + p) (t.1 + 1)
def atNum (ws : List ByteArray) (ls ps : List Int) (k : Nat) (p : Int) : Int := numb p (tal ws ls (ps.take k) (wat ws (lat ps k)))
noncomputable def cOk (ws : List ByteArray) (ls ps : List Int) (k p : Int) : Bool := ord ws.length ls ps p && decide (0 ≤ k ∧ k < (ps.length : Int))
noncomputable def cNum (ws : List ByteArray) (ls ps : List Int) (k p : Int) : Int := if cOk ws ls ps k p = true then atNum ws ls ps k.toNat p else 0
theorem cOk_no1 {ws : List ByteArray} {ls ps : List Int} {k p : Int} (h : ord ws.length ls ps p = false) : cOk ws ls ps k p = false := by unfold cOk; rw [h]; rfl
theorem cOk_no2 {ws : List ByteArray} {ls ps : List Int} {k p : Int} (h : ¬ (0 ≤ k ∧ k < (ps.length : Int))) : cOk ws ls ps k p = false := by unfold cOk; rw [decide_eq_false h]; simp
theorem cOk_yes {ws : List ByteArray} {ls ps : List Int} {k p : Int} (h : ord ws.length ls ps p = true) (h' : 0 ≤ k ∧ k < (ps.length : Int)) : cOk ws ls ps k p = true := by unfold cOk; rw [h, decide_eq_true h']; rfl
theorem cOk_iff {ws : List ByteArray} {ls ps : List Int} {k p : Int} : cOk ws ls ps k p = true ↔ ord ws.length ls ps p = true ∧ 0 ≤ k ∧ k < (ps.length : Int) := by unfold cOk; simp
theorem cNum_no {ws : List ByteArray} {ls ps : List Int} {k p : Int} (h : cOk ws ls ps k p = false) : cNum ws ls ps k p = 0 := by unfold cNum; rw [h]; rfl
theorem cNum_yes {ws : List ByteArray} {ls ps : List Int} {k p : Int} (h : cOk ws ls ps k p = true) : cNum ws ls ps k p = atNum ws ls ps k.toNat p := by unfold cNum; rw [if_pos h]
theorem ret_two {a b : Int} {x y : Bool} (h : a = b) (h' : x = y) : Ending.returned (.tuple #[.int .i64 a, .bool x]) = .returned (.tuple #[.int .i64 b, .bool y]) := by rw [h, h']
/-- A part of a list from its beginning on. -/
theorem isl_take {w : World} {a : Option Addr} {xs : List Int} (h : Li.IsL w a xs) (k : Nat) : Li.IsL w a (xs.take k) := by
  rcases h with rfl | ⟨b, off, rfl, hb, hc⟩
  · exact .inl (by simp)
  · refine .inr ⟨b, off, rfl, hb, fun j hj => ?_⟩
    rw [hc j (by simp at hj; omega)]
    simp
theorem plc_of {ps : List Int} {n : Nat} (h : POk ps) (hn : ps.length = n) (k : Nat) : Plc (ps.take k) n := by
  intro j hj
  have h1 : j < ps.length := by simp at hj; omega
  have := h.rng j h1
  simp only [List.getElem_take]
  omega
set_option maxHeartbeats 4000000 in
theorem iat (w : World) (aw al ap : Option Addr) (cw cl cp : Nat) (ws : List ByteArray) (ls ps : List Int) (k p : Int) (hw : Ls.IsS w aw ws) (hl : Li.IsL w al ls) (hp : Li.IsL w ap ps)
    (hwl : ws.length ≤ 1048576) (hll : ls.length ≤ 1048577) (hpl : ps.length ≤ 1048577) (hcap : ps.length ≤ cp) (hz : ∀ j (h : j < ws.length), ws[j].size ≤ maxLen) :
    Calls Try.prog 11 #[.slice aw ws.length cw, .slice al ls.length cl, .slice ap ps.length cp, .int .i64 k, .int .i64 p] w fun e w' => e = .returned (.tuple #[.int .i64 (cNum ws ls ps k p), .bool (cOk ws ls ps k p)]) ∧ Below w.heap.size w w' := by
  cases ho : ord ws.length ls ps p
  · have hc := cOk_no1 (k := k) ho
    rw [cNum_no hc, hc]
    go_enter Try.func11, Try.ntmps11
    go_wp2_with (go_at_call 33; refine (iord _ _ _ _ _ _ _ _ ls ps p hl hp hwl hll hpl).mono ?_; rintro e w' ⟨rfl, hB⟩; rw [ho])
    go_ret2
    exact ⟨rfl, hB⟩
  by_cases h1 : k < 0
  · have hc : cOk ws ls ps k p = false := cOk_no2 (by omega)
    rw [cNum_no hc, hc]
    go_enter Try.func11, Try.ntmps11
    go_wp2_with (go_at_call 33; refine (iord _ _ _ _ _ _ _ _ ls ps p hl hp hwl hll hpl).mono ?_; rintro e w' ⟨rfl, hB⟩; rw [ho])
    go_ret2
    exact ⟨rfl, hB⟩
  have h1' : decide (k < 0) = false := by simp; omega
  by_cases h2 : (ps.length : Int) ≤ k
  · have hc : cOk ws ls ps k p = false := cOk_no2 (by omega)
    rw [cNum_no hc, hc]
    go_enter Try.func11, Try.ntmps11
    go_wp2_with (go_at_call 33; refine (iord _ _ _ _ _ _ _ _ ls ps p hl hp hwl hll hpl).mono ?_; rintro e w' ⟨rfl, hB⟩; rw [ho])
    go_ret2
    exact ⟨rfl, hB⟩
  have h2' : decide ((ps.length : Int) ≤ k) = false := by simp; omega
  have hc := cOk_yes (k := k) ho ⟨by omega, by omega⟩
  rw [cNum_yes hc, hc]
  obtain ⟨kn, rfl⟩ : ∃ kn : Nat, k = (kn : Int) := ⟨k.toNat, by omega⟩
  rw [show (kn : Int).toNat = kn by omega]
  obtain ⟨hr, hpn, hpk⟩ := ord_iff.1 ho
  have hsm := rgt_sml hr
  obtain ⟨⟨hn40, hln, p0, p1⟩, _⟩ := rgt_iff.1 hr
  have HPN : Hid (ps.length = ws.length) := hpn
  have HLN : Hid (ls.length = ws.length) := hln
  have hkn : kn < ps.length := by omega
  have hp40 : ps.length ≤ 40 := by omega
  have htl : (ps.take kn).length = kn := by simp; omega
  have hplc := plc_of hpk hpn kn
  have hrng := hpk.rng kn hkn
  have hjw : ps[kn].toNat < ws.length := by omega
  have hsz : (wat ws ps[kn]).size ≤ maxLen := by rw [wat_get hjw]; exact hz _ hjw
  have hbd := tal_bd ws ls (ps.take kn) hsm (wat ws ps[kn]) (by omega)
  have HRES : Hid (atNum ws ls ps kn p = Ar.flo ((tal ws ls (ps.take kn) (wat ws ps[kn])).2 + p) ((tal ws ls (ps.take kn) (wat ws ps[kn])).1 + 1)) := by
    show atNum ws ls ps kn p = _
    unfold atNum numb
    rw [show lat ps (kn : Int) = ps[kn] from by rw [lat_get (by omega)]; simp]
  clear hpn hln hr hc
  go_enter Try.func11, Try.ntmps11
  go_wp2_with (go_at_call 33; refine (iord _ _ _ _ _ _ _ _ ls ps p hl hp hwl hll hpl).mono ?_; rintro e w1 ⟨rfl, hB⟩; rw [ho])
  have hof := Ta.of_places w1 aw al ap cw cl cp ws ls (ps.take kn) (hw.below hB) (hl.below hB) (isl_take (hp.below hB) kn) HLN.out (by rw [htl]; omega) hplc hsm hz hwl
  rw [htl] at hof
  refine hof.mono ?_
  rintro e w2 ⟨rfl, hm, hB2⟩
  have hB := hB.trans (hB2.mono hB.size)
  rcases hp.below hB with rfl | ⟨pb, po, rfl, hpb, hpc⟩
  · simp at hkn
  have hcp := hpc kn hkn
  rcases hw.below hB with rfl | ⟨wb, wo, rfl, hwb, hwc⟩
  · simp at hjw
  have hcw := hwc _ hjw
  rw [← wat_get hjw] at hcw
  obtain ⟨j, hj⟩ : ∃ j, ps[kn] = j := ⟨_, rfl⟩
  rw [hj] at hcp hcw hsz hbd HRES hrng hjw
  clear hpc hwc hj hof htl hplc hpk hsm hz hl hp hw hB2
  go_wp2_with (first
    | (at_lookup; refine Ta.at_tm _ rfl _ _ rfl _ _ _ rfl hm _ rfl hsz ?_)
    | (go_at_call 35; refine (Ta.number _ _ _ _ (by omega) (by omega) (by omega) (by omega) p0 p1).mono ?_; rintro e w3 ⟨rfl, hB3⟩))
  go_ret2
  exact ⟨ret_two HRES.out.symm rfl, hB.trans (hB3.mono hB.size)⟩
set_option maxHeartbeats 4000000 in
theorem sat (w : World) (aw al ap : Option Addr) (cw cl cp : Nat) (ws : List ByteArray) (ls ps : List Int) (k p : Int) (hw : Ls.IsS w aw ws) (hl : Li.IsL w al ls) (hp : Li.IsL w ap ps)
    (hwl : ws.length ≤ 1048576) (hll : ls.length ≤ 1048577) (hpl : ps.length ≤ 1048577) :
    Calls Try.prog 12 #[.slice aw ws.length cw, .slice al ls.length cl, .slice ap ps.length cp, .int .i64 k, .int .i64 p] w fun e w' => e = .returned (.tuple #[.int .i64 (cNum ws ls ps k p), .bool (cOk ws ls ps k p)]) ∧ ∃ n, w' = w.drewN n := by
  cases hr : rgt ws.length ls p
  · have hc : cOk ws ls ps k p = false := cOk_no1 (ord_no1 hr)
    rw [cNum_no hc, hc]
    go_enter Try.func12, Try.ntmps12
    go_wp2_with (go_at_call 36; refine (slok _ _ _ _ _ _ ls p hl hwl hll).mono ?_; rintro e w' ⟨rfl, hw⟩; subst w'; rw [hr])
    go_ret2
    exact ⟨rfl, 0, rfl⟩
  by_cases hpn : ps.length = ws.length
  rotate_left
  · have hc : cOk ws ls ps k p = false := cOk_no1 (ord_no2 hpn)
    have hpn' : ((ps.length : Int) != (ws.length : Int)) = true := by simp; omega
    rw [cNum_no hc, hc]
    go_enter Try.func12, Try.ntmps12
    go_wp2_with (go_at_call 36; refine (slok _ _ _ _ _ _ ls p hl hwl hll).mono ?_; rintro e w' ⟨rfl, hw⟩; subst w'; rw [hr])
    go_ret2
    exact ⟨rfl, 0, rfl⟩
  have hpn' : ((ps.length : Int) != (ws.length : Int)) = false := by simp; omega
  cases hk : pok ps
  · have hc : cOk ws ls ps k p = false := cOk_no1 (ord_no3 hk)
    rw [cNum_no hc, hc]
    clear hpn
    go_enter Try.func12, Try.ntmps12
    go_wp2_with (first
      | (go_at_call 36; refine (slok _ _ _ _ _ _ ls p hl hwl hll).mono ?_; rintro e w' ⟨rfl, hw⟩; subst w'; rw [hr])
      | (go_at_call 37; refine (Pw.spok_any _ _ _ ps hp (by omega)).mono ?_; rintro e w' ⟨rfl, nq, hw⟩; subst w'; rw [hk]))
    go_ret2
    exact ⟨rfl, _, rfl⟩
  have ho := ord_yes hr hpn hk
  by_cases hb : 0 ≤ k ∧ k < (ps.length : Int)
  rotate_left
  · have hc : cOk ws ls ps k p = false := cOk_no2 hb
    rw [cNum_no hc, hc]
    clear hpn
    have hbt : btw k 0 ((ps.length : Int) - 1) = false := by simp [btw]; omega
    go_enter Try.func12, Try.ntmps12
    go_wp2_with (first
      | (go_at_call 36; refine (slok _ _ _ _ _ _ ls p hl hwl hll).mono ?_; rintro e w' ⟨rfl, hw⟩; subst w'; rw [hr])
      | (go_at_call 38; refine (Li.between_any _ _ _ _).mono ?_; rintro e w' ⟨rfl, hw⟩; subst w'; rw [hbt])
      | (go_at_call 37; refine (Pw.spok_any _ _ _ ps hp (by omega)).mono ?_; rintro e w' ⟨rfl, nq, hw⟩; subst w'; rw [hk]))
    go_ret2
    exact ⟨rfl, _, rfl⟩
  have hbt : btw k 0 ((ps.length : Int) - 1) = true := by simp [btw]; omega
  have hc := cOk_yes (k := k) ho hb
  rw [cNum_yes hc, hc]
  obtain ⟨kn, rfl⟩ : ∃ kn : Nat, k = (kn : Int) := ⟨k.toNat, by omega⟩
  rw [show (kn : Int).toNat = kn by omega]
  have hpk := pok_iff.1 hk
  have hsm := rgt_sml hr
  obtain ⟨⟨hn40, hln, p0, p1⟩, _⟩ := rgt_iff.1 hr
  have HPN : Hid (ps.length = ws.length) := hpn
  have HLN : Hid (ls.length = ws.length) := hln
  have hkn : kn < ps.length := by omega
  have hp40 : ps.length ≤ 40 := by omega
  have hrng := hpk.rng kn hkn
  have hjw : ps[kn].toNat < ws.length := by omega
  have HRES : Hid (atNum ws ls ps kn p = Ar.flo (tl ws ls (wat ws ps[kn]) (ps.take kn) + p) (tr ws (wat ws ps[kn]) (ps.take kn) + 1)) := by
    show atNum ws ls ps kn p = _
    unfold atNum numb tal
    rw [show lat ps (kn : Int) = ps[kn] from by rw [lat_get (by omega)]; simp]
  clear hpn hln hc
  rcases hp with rfl | ⟨pb, po, rfl, hpb, hpc⟩
  · simp at hkn
  have hcp := hpc kn hkn
  rcases hw with rfl | ⟨wb, wo, rfl, hwb, hwc⟩
  · simp at hjw
  have hl0 := hl
  rcases hl with rfl | ⟨lb, lo, rfl, hlb, hlc⟩
  · have := HLN.out; simp at this; omega
  have hcw := hwc _ hjw
  rw [← wat_get hjw] at hcw
  have HP : Hid (∀ j (hj : j < ps.length), w.cell? ⟨pb, po + j, none⟩ = some (.int .i64 ps[j])) := hpc
  have HW : Hid (∀ j (hj : j < ws.length), w.cell? ⟨wb, wo + j, none⟩ = some (.string ws[j])) := hwc
  have HL : Hid (∀ j (hj : j < ls.length), w.cell? ⟨lb, lo + j, none⟩ = some (.int .i64 ls[j])) := hlc
  have hpA : Li.IsL w (some ⟨pb, po, none⟩) ps := .inr ⟨pb, po, rfl, hpb, hpc⟩
  clear hpc hwc hlc
  obtain ⟨x, hx⟩ : ∃ x, ps[kn] = x := ⟨_, rfl⟩
  rw [hx] at hcp hcw HRES hrng hjw
  clear hx
  go_enter Try.func12, Try.ntmps12
  go_wp2_with (first
    | (go_at_call 36; refine (slok _ _ _ _ _ _ ls p hl0 hwl hll).mono ?_; rintro e w' ⟨rfl, hw⟩; subst w'; rw [hr])
    | (go_at_call 38; refine (Li.between_any _ _ _ _).mono ?_; rintro e w' ⟨rfl, hw⟩; subst w'; rw [hbt])
    | (go_at_call 37; refine (Pw.spok_any _ _ _ ps hpA (by omega)).mono ?_; rintro e w' ⟨rfl, nq, hw⟩; subst w'; rw [hk]))
  go_loopw [12, 13, 14] (fun s n i wr => ∃ q : Nat, q ≤ kn ∧ i = .int .i64 q ∧ s = .int .i64 (tl ws ls (wat ws x) (ps.take q) + p) ∧ n = .int .i64 (tr ws (wat ws x) (ps.take q) + 1) ∧ ∃ m, wr = w.drewN m) (fun _ _ i _ => kn - (intOf i).toNat)
  case atStart => exact ⟨0, Nat.zero_le _, rfl, by simp [tl], by simp [tr], _, rfl⟩
  case round =>
    obtain ⟨q, hq, rfl, rfl, rfl, m, rfl⟩ := hrel
    by_cases hlt : q < kn
    · have hqp : q < ps.length := by omega
      have hrq := hpk.rng q hqp
      have hcq := HP.out q hqp
      have hjq : ps[q].toNat < ws.length := by have := HPN.out; omega
      have hjl : ps[q].toNat < ls.length := by have := HPN.out; have := HLN.out; omega
      have hcqw := HW.out _ hjq
      have hcql := HL.out _ hjl
      rw [← wat_get hjq] at hcqw
      rw [← lat_get hjl] at hcql
      have HT1 : Hid (tr ws (wat ws x) (ps.take (q + 1)) = tr ws (wat ws x) (ps.take q) + (if wat ws ps[q] = wat ws x then 1 else 0)) := by show _ = _; rw [List.take_succ_eq_append_getElem hqp, tr_snoc]
      have HT2 : Hid (tl ws ls (wat ws x) (ps.take (q + 1)) = tl ws ls (wat ws x) (ps.take q) + (if wat ws ps[q] = wat ws x then lat ls ps[q] else 0)) := by show _ = _; rw [List.take_succ_eq_append_getElem hqp, tl_snoc]
      have hb1 := tr_bd ws (wat ws x) (ps.take q)
      have hb2 := tl_bd (ws := ws) hsm (wat ws x) (ps.take q)
      have hb3 : (ps.take q).length ≤ 40 := by simp; omega
      have hb4 := hsm ps[q]
      obtain ⟨y, hy⟩ : ∃ y, ps[q] = y := ⟨_, rfl⟩
      rw [hy] at hrq hcq hcqw hcql HT1 HT2 hb4 hjq hjl
      clear hy
      obtain ⟨R, hR⟩ : ∃ R, tr ws (wat ws x) (ps.take q) = R := ⟨_, rfl⟩
      obtain ⟨L, hL⟩ : ∃ L, tl ws ls (wat ws x) (ps.take q) = L := ⟨_, rfl⟩
      rw [hR] at hb1 hb2 HT1 ⊢
      rw [hL] at hb2 HT2 ⊢
      clear hR hL
      obtain ⟨l, hl⟩ : ∃ l, lat ls y = l := ⟨_, rfl⟩
      rw [hl] at hcql hb4 HT2
      clear hl
      by_cases he : wat ws y = wat ws x
      · have he' : ((wat ws y).toList == (wat ws x).toList) = true := Ls.tl_eq he
        rw [if_pos he] at HT1 HT2
        clear he
        go_wp2
        go_quiet (fail)
        go_wp2
        go_roundw
        case rel => exact ⟨q + 1, by omega, by go_num, by rw [HT2.out] <;> go_num, by rw [HT1.out] <;> go_num, _, rfl⟩
        case measure => simp [intOf]; omega
      · have he' : ((wat ws y).toList == (wat ws x).toList) = false := Ls.tl_ne he
        rw [if_neg he] at HT1 HT2
        clear he
        go_wp2
        go_quiet (fail)
        go_wp2
        go_roundw
        case rel => exact ⟨q + 1, by omega, by go_num, by rw [HT2.out] <;> go_num, by rw [HT1.out] <;> go_num, _, rfl⟩
        case measure => simp [intOf]; omega
    · obtain rfl : q = kn := by omega
      have hb1 := tr_bd ws (wat ws x) (ps.take q)
      go_wp2_with (go_at_call 39; refine (Ar.floor_any _ _ _ (by omega)).mono ?_; rintro e w' ⟨rfl, hw⟩; subst w')
      go_ret2
      exact ⟨ret_two HRES.out.symm rfl, _, rfl⟩
theorem satB (w : World) (aw al ap : Option Addr) (cw cl cp : Nat) (ws : List ByteArray) (ls ps : List Int) (k p : Int) (hw : Ls.IsS w aw ws) (hl : Li.IsL w al ls) (hp : Li.IsL w ap ps)
    (hwl : ws.length ≤ 1048576) (hll : ls.length ≤ 1048577) (hpl : ps.length ≤ 1048577) :
    Calls Try.prog 12 #[.slice aw ws.length cw, .slice al ls.length cl, .slice ap ps.length cp, .int .i64 k, .int .i64 p] w fun e w' => e = .returned (.tuple #[.int .i64 (cNum ws ls ps k p), .bool (cOk ws ls ps k p)]) ∧ Below w.heap.size w w' := by
  refine (sat w aw al ap cw cl cp ws ls ps k p hw hl hp hwl hll hpl).mono ?_
  rintro e w' ⟨rfl, n, rfl⟩
  exact ⟨rfl, below_drewN (Below.refl _ _) _⟩
end Go.Proofs.Ythgjcplkladepaa.Ct
