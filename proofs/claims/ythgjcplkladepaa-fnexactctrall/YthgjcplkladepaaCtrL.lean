/-
  The numbers of all rows: contracts of CtrAll, of the program and of its model, over one plain list.
-/
import Derived.Test.YthgjcplkladepaaCtrA
namespace Go.Proofs.Ythgjcplkladepaa.Ct
open Go.RowKit
open Go.Proofs.Ythgjcplkladepaa.Wd
open Go.Proofs.Ythgjcplkladepaa.Ta (TM Plc)
open Go.Proofs.Ythgjcplkladepaa.Tk (lok)
open Go.Proofs.Ythgjcplkladepaa.Pe (pok POk pok_iff)
open Go.Proofs.Ythgjcplkladepaa.Li (ret_bool ret_int below_none btw)

/-- The numbers of the places at which the rows from lo on, below hi, come. -/
def Some_ (ws : List ByteArray) (ls ps : List Int) (p : Int) (lo hi : Nat) (o : List Int) : Prop :=
  o.length = ws.length ∧ ∀ q (hq : q < ps.length), lo ≤ q → q < hi → o[ps[q].toNat]? = some (atNum ws ls ps q p)
theorem some_none (ws : List ByteArray) (ls ps : List Int) (p : Int) (lo : Nat) (o : List Int) (h : o.length = ws.length) : Some_ ws ls ps p lo lo o := ⟨h, fun q hq h1 h2 => by omega⟩
theorem set_num {Q : Nat → Prop} {ws : List ByteArray} {ls ps : List Int} {p : Int} {o : List Int} {k : Nat} (hp : POk ps) (hl : ps.length = ws.length) (hk : k < ps.length) (ho : o.length = ws.length)
    (h : ∀ q (hq : q < ps.length), ¬ q = k → Q q → o[ps[q].toNat]? = some (atNum ws ls ps q p)) :
    ∀ q (hq : q < ps.length), (Q q ∨ q = k) → (o.set ps[k].toNat (atNum ws ls ps k p))[ps[q].toNat]? = some (atNum ws ls ps q p) := by
  intro q hq hQ
  have hr := hp.rng k hk
  rw [List.getElem?_set]
  by_cases e : q = k
  · subst e
    rw [if_pos rfl, if_pos (by omega)]
  · have hr' := hp.rng q hq
    rw [if_neg (fun h' => e (hp.inj q k hq hk (by omega)))]
    exact h q hq e (hQ.resolve_right e)
theorem some_up {ws : List ByteArray} {ls ps : List Int} {p : Int} {o : List Int} {k : Nat} (hp : POk ps) (hl : ps.length = ws.length) (hk : k < ps.length) (h : Some_ ws ls ps p 0 k o) : Some_ ws ls ps p 0 (k + 1) (o.set ps[k].toNat (atNum ws ls ps k p)) := by
  refine ⟨by simpa using h.1, fun q hq h1 h2 => ?_⟩
  exact set_num (Q := fun q => q < k) hp hl hk h.1 (fun q hq _ hQ => h.2 q hq (Nat.zero_le _) hQ) q hq (by omega)
theorem some_down {ws : List ByteArray} {ls ps : List Int} {p : Int} {o : List Int} {k : Nat} (hp : POk ps) (hl : ps.length = ws.length) (hk : k < ps.length) (h : Some_ ws ls ps p (k + 1) ps.length o) : Some_ ws ls ps p k ps.length (o.set ps[k].toNat (atNum ws ls ps k p)) := by
  refine ⟨by simpa using h.1, fun q hq h1 h2 => ?_⟩
  exact set_num (Q := fun q => k + 1 ≤ q) hp hl hk h.1 (fun q hq _ hQ => h.2 q hq hQ hq) q hq (by omega)
theorem some_uniq {ws : List ByteArray} {ls ps : List Int} {p : Int} {o o' : List Int} (hp : POk ps) (hl : ps.length = ws.length) (h : Some_ ws ls ps p 0 ps.length o) (h' : Some_ ws ls ps p 0 ps.length o') : o = o' := by
  apply List.ext_getElem?
  intro v
  by_cases hv : v < ws.length
  · obtain ⟨j, hj, e⟩ := hp.onto v (by omega)
    have h1 := h.2 j hj (Nat.zero_le _) hj
    have h2 := h'.2 j hj (Nat.zero_le _) hj
    rw [e] at h1 h2
    simp only [Int.toNat_natCast] at h1 h2
    rw [h1, h2]
  · rw [List.getElem?_eq_none (by rw [h.1]; omega), List.getElem?_eq_none (by rw [h'.1]; omega)]
noncomputable def allN (ws : List ByteArray) (ls ps : List Int) (p : Int) : List Int :=
  @dite _ (∃ o, Some_ ws ls ps p 0 ps.length o) (Classical.propDecidable _) (fun h => h.choose) (fun _ => [])
theorem allN_eq {ws : List ByteArray} {ls ps : List Int} {p : Int} {o : List Int} (hp : POk ps) (hl : ps.length = ws.length) (h : Some_ ws ls ps p 0 ps.length o) : o = allN ws ls ps p := by
  unfold allN
  rw [dif_pos ⟨o, h⟩]
  exact some_uniq hp hl h (Exists.choose_spec (⟨o, h⟩ : ∃ o, Some_ ws ls ps p 0 ps.length o))
theorem some_ex {ws : List ByteArray} {ls ps : List Int} {p : Int} (hp : POk ps) (hl : ps.length = ws.length) : ∀ k, k ≤ ps.length → ∃ o, Some_ ws ls ps p 0 k o
  | 0, _ => ⟨List.replicate ws.length 0, some_none _ _ _ _ _ _ (by simp)⟩
  | k + 1, h => by
    obtain ⟨o, ho⟩ := some_ex (ls := ls) (p := p) hp hl k (by omega)
    exact ⟨_, some_up hp hl (by omega) ho⟩
theorem allN_some {ws : List ByteArray} {ls ps : List Int} {p : Int} (hp : POk ps) (hl : ps.length = ws.length) : Some_ ws ls ps p 0 ps.length (allN ws ls ps p) := by
  obtain ⟨o, ho⟩ := some_ex (ls := ls) (p := p) hp hl ps.length (Nat.le_refl _)
  rw [← allN_eq hp hl ho]; exact ho
noncomputable def cAll (ws : List ByteArray) (ls ps : List Int) (p : Int) : List Int := if ord ws.length ls ps p = true then allN ws ls ps p else []
theorem cAll_no {ws : List ByteArray} {ls ps : List Int} {p : Int} (h : ord ws.length ls ps p = false) : cAll ws ls ps p = [] := by unfold cAll; rw [h]; rfl
theorem cAll_yes {ws : List ByteArray} {ls ps : List Int} {p : Int} (h : ord ws.length ls ps p = true) : cAll ws ls ps p = allN ws ls ps p := by unfold cAll; rw [if_pos h]
theorem cAll_le (ws : List ByteArray) (ls ps : List Int) (p : Int) : (cAll ws ls ps p).length ≤ ws.length := by
  unfold cAll allN
  split
  · split
    · rename_i h; rw [h.choose_spec.1]; exact Nat.le_refl _
    · simp
  · simp
theorem own_empty (w : World) (base : Nat) (hb : base ≤ w.heap.size) : Li.Own (w.alloc (.cells #[] 3)) base (.slice (some ⟨w.heap.size, 0, none⟩) 0 0) [] :=
  World.ownsRow_made w #[] 0 hb (by unfold maxLen; omega) (by simp)
set_option maxHeartbeats 4000000 in
theorem sall (w : World) (aw al ap : Option Addr) (cw cl cp : Nat) (ws : List ByteArray) (ls ps : List Int) (p : Int) (hw : Ls.IsS w aw ws) (hl : Li.IsL w al ls) (hp : Li.IsL w ap ps)
    (hwl : ws.length ≤ 1048576) (hll : ls.length ≤ 1048577) (hpl : ps.length ≤ 1048577) :
    Calls Try.prog 19 #[.slice aw ws.length cw, .slice al ls.length cl, .slice ap ps.length cp, .int .i64 p] w fun e w' => ∃ v, e = .returned (.tuple #[v, .bool (ord ws.length ls ps p)]) ∧ Li.Own w' w.heap.size v (cAll ws ls ps p) ∧ Below w.heap.size w w' := by
  cases hr : rgt ws.length ls p
  · have hc : ord ws.length ls ps p = false := ord_no1 hr
    rw [cAll_no hc, hc]
    go_enter Try.func19, Try.ntmps19
    go_wp2_with (go_at_call 36; refine (slok _ _ _ _ _ _ ls p hl hwl hll).mono ?_; rintro e w' ⟨rfl, hw⟩; subst w'; rw [hr])
    go_ret2
    exact ⟨_, rfl, own_empty _ _ (Nat.le_refl _), (Below.refl _ _).alloc (Nat.le_refl _) _⟩
  by_cases hpn : ps.length = ws.length
  rotate_left
  · have hc : ord ws.length ls ps p = false := ord_no2 hpn
    have hpn' : ((ps.length : Int) != (ws.length : Int)) = true := by simp; omega
    rw [cAll_no hc, hc]
    go_enter Try.func19, Try.ntmps19
    go_wp2_with (go_at_call 36; refine (slok _ _ _ _ _ _ ls p hl hwl hll).mono ?_; rintro e w' ⟨rfl, hw⟩; subst w'; rw [hr])
    go_ret2
    exact ⟨_, rfl, own_empty _ _ (Nat.le_refl _), (Below.refl _ _).alloc (Nat.le_refl _) _⟩
  have hpn' : ((ps.length : Int) != (ws.length : Int)) = false := by simp; omega
  cases hk : pok ps
  · have hc : ord ws.length ls ps p = false := ord_no3 hk
    rw [cAll_no hc, hc]
    clear hpn
    go_enter Try.func19, Try.ntmps19
    go_wp2_with (first
      | (go_at_call 36; refine (slok _ _ _ _ _ _ ls p hl hwl hll).mono ?_; rintro e w' ⟨rfl, hw⟩; subst w'; rw [hr])
      | (go_at_call 37; refine (Pw.spok_any _ _ _ ps hp (by omega)).mono ?_; rintro e w' ⟨rfl, nq, hw⟩; subst w'; rw [hk]))
    go_ret2
    exact ⟨_, rfl, own_empty (w.drewN nq) _ (Nat.le_refl _), (below_drewN (Below.refl _ _) _).alloc (Nat.le_refl _) _⟩
  have ho := ord_yes hr hpn hk
  have hpk := pok_iff.1 hk
  rw [cAll_yes ho, ho]
  obtain ⟨⟨hn40, hln, p0, p1⟩, _⟩ := rgt_iff.1 hr
  have HPN : Hid (ps.length = ws.length) := hpn
  clear hpn hln
  obtain ⟨i0, hi, hz0, hz1, hz2⟩ := info_parts Li.info_int
  go_enter Try.func19, Try.ntmps19
  go_wp2_with (first
    | (go_at_call 36; refine (slok _ _ _ _ _ _ ls p hl hwl hll).mono ?_; rintro e w' ⟨rfl, hw⟩; subst w'; rw [hr])
    | (go_at_call 37; refine (Pw.spok_any _ _ _ ps hp (by omega)).mono ?_; rintro e w' ⟨rfl, nq, hw⟩; subst w'; rw [hk])
    | (at_make; refine wpList_make_full _ rfl _ _ 25 rfl w.heap.size 3 i0 (.int .i64 0) 1 Try.underlying25 hi hz0 hz1 _ _ _ _ ws.length rfl rfl (by omega) (by omega) (by rw [hz2]; omega) (by unfold maxLen; omega) (Nat.le_refl _) ?_; intro w1 hown hgrow))
  have hown' := Li.own_made hown
  have hB1 : Below w.heap.size w w1 := (below_drewN (Below.refl _ _) nq).trans (below_none hgrow)
  clear hown hgrow
  go_loopw [11] (fun i wr => ∃ k : Nat, k ≤ ps.length ∧ i = .int .i64 k ∧ ∃ o : List Int, Some_ ws ls ps p 0 k o ∧ o.length = ws.length ∧ Li.Own wr w.heap.size (.slice (some ⟨w.heap.size, 0, none⟩) ws.length ws.length) o ∧ Below w.heap.size w wr) (fun i _ => ps.length - (intOf i).toNat)
  case atStart => exact ⟨0, Nat.zero_le _, rfl, _, some_none _ _ _ _ _ _ (by simp), by simp, hown', hB1⟩
  case round =>
    obtain ⟨k, hk', rfl, o, hso, hol, hown, hB⟩ := hrel
    clear hown' hB1
    have HOL : Hid (o.length = ws.length) := hol
    clear hol
    by_cases hlt : k < ps.length
    · have hc := cOk_yes (k := (k : Int)) ho ⟨by omega, by omega⟩
      have hn := cNum_yes hc
      rw [show ((k : Int)).toNat = k by omega] at hn
      have hrng := hpk.rng k hlt
      have hjw : ps[k].toNat < ws.length := by have := HPN.out; omega
      have hnext := some_up hpk HPN.out hlt hso
      have HN : Hid (Some_ ws ls ps p 0 (k + 1) (o.set ps[k].toNat (atNum ws ls ps k p))) := hnext
      clear hnext
      rcases hp.below hB with rfl | ⟨pb, po, rfl, hpb, hpc⟩
      · simp at hlt
      have hcp := hpc k hlt
      have hpI : Li.IsL wr (some ⟨pb, po, none⟩) ps := .inr ⟨pb, po, rfl, hpb, hpc⟩
      have hlI := hl.below hB
      have hwI := hw.below hB
      obtain ⟨cv, hcl⟩ : ∃ cv : Int, wr.cell? ⟨w.heap.size, ps[k].toNat, none⟩ = some (.int .i64 cv) := ⟨_, hown.cell HOL.out ps[k].toNat (by rw [HOL.out]; exact hjw)⟩
      have hcf := hown.frozen HOL.out ps[k].toNat
      have HO : Hid (Li.Own wr w.heap.size (.slice (some ⟨w.heap.size, 0, none⟩) ws.length ws.length) o) := hown
      obtain ⟨x, hx⟩ : ∃ x, ps[k] = x := ⟨_, rfl⟩
      obtain ⟨y, hy⟩ : ∃ y, atNum ws ls ps k p = y := ⟨_, rfl⟩
      have HX : Hid (ps[k] = x) := hx
      rw [hx, hy] at HN
      rw [hx] at hcp hcl hcf hrng hjw
      rw [hy] at hn
      clear hpc hx hy hso hown
      go_wp2_with (go_at_call 12; refine (sat _ _ _ _ _ _ _ ws ls ps _ p hwI hlI hpI hwl hll hpl).mono ?_; rintro e w' ⟨rfl, nq', hw⟩; subst w'; rw [hc, hn])
      go_roundw
      case rel => exact ⟨k + 1, by omega, by go_num, o.set x.toNat y, HN.out, by simpa using HOL.out, (HO.out.drewN nq').set HOL.out _ _, (below_drewN hB nq').setCell (p := ⟨w.heap.size, x.toNat, none⟩) (Nat.le_refl _) _⟩
      case measure => simp [intOf]; omega
    · obtain rfl : k = ps.length := by omega
      have HE : Hid (Li.Own wr w.heap.size (.slice (some ⟨w.heap.size, 0, none⟩) ws.length ws.length) (allN ws ls ps p)) := by have := allN_eq hpk HPN.out hso; rw [← this]; exact hown
      clear hown
      go_wp2
      go_ret2
      exact ⟨_, rfl, HE.out, hB⟩
theorem size_set (w : World) (a : Addr) (v : Value) : (w.setCell a v).heap.size = w.heap.size := by simp [World.setCell]
theorem below_grown {w wr w4 : World} {B b : Nat} (hB : Below B w wr) (hs : B ≤ wr.heap.size) (hb : B ≤ b) (hg : wr.grownBy w4 (some b)) : Below B w w4 :=
  hB.trans ⟨hg.os, hg.tape, hg.output, hg.size, fun k hk => hg.block k (by omega) (fun e => by cases e; omega)⟩
theorem own_off {w w1 : World} {B b : Nat} {v : Value} {xs : List Int} (h : Li.Own w B v xs) (hg : w.grownBy w1 (some b)) (hb : b < B) : Li.Own w1 B v xs := by
  refine h.kept hg ?_
  cases e : v.ownBlock with
  | none => exact .inl rfl
  | some k => exact .inr (by have := (h.ge k e).1; simp; omega)
set_option maxRecDepth 20000 in
set_option maxHeartbeats 4000000 in
theorem iall (w : World) (aw al ap : Option Addr) (cw cl cp : Nat) (ws : List ByteArray) (ls ps : List Int) (p : Int) (hw : Ls.IsS w aw ws) (hl : Li.IsL w al ls) (hp : Li.IsL w ap ps)
    (hwl : ws.length ≤ 1048576) (hll : ls.length ≤ 1048577) (hpl : ps.length ≤ 1048577) (hz : ∀ j (h : j < ws.length), ws[j].size ≤ maxLen) :
    Calls Try.prog 18 #[.slice aw ws.length cw, .slice al ls.length cl, .slice ap ps.length cp, .int .i64 p] w fun e w' => ∃ v, e = .returned (.tuple #[v, .bool (ord ws.length ls ps p)]) ∧ Li.Own w' w.heap.size v (cAll ws ls ps p) ∧ Below w.heap.size w w' := by
  cases ho : ord ws.length ls ps p
  · rw [cAll_no ho]
    go_enter Try.func18, Try.ntmps18
    go_wp2_with (go_at_call 33; refine (iord _ _ _ _ _ _ _ _ ls ps p hl hp hwl hll hpl).mono ?_; rintro e w' ⟨rfl, hB⟩; rw [ho])
    go_ret2
    exact ⟨_, rfl, Li.Own.nil _ _, hB⟩
  rw [cAll_yes ho]
  obtain ⟨hr, hpn, hpk⟩ := ord_iff.1 ho
  have hsm := rgt_sml hr
  obtain ⟨⟨hn40, hln, p0, p1⟩, _⟩ := rgt_iff.1 hr
  have HPN : Hid (ps.length = ws.length) := hpn
  have HLN : Hid (ls.length = ws.length) := hln
  have hp40 : ps.length ≤ 40 := by omega
  have hplc : Plc ps ws.length := fun j hj => by have := hpk.rng j hj; omega
  clear hpn hln hr
  obtain ⟨i0, hi, hz0, hz1, hz2⟩ := info_parts Li.info_int
  go_enter Try.func18, Try.ntmps18
  go_wp2_with (go_at_call 33; refine (iord _ _ _ _ _ _ _ _ ls ps p hl hp hwl hll hpl).mono ?_; rintro e w1 ⟨rfl, hB⟩; rw [ho])
  refine (Ta.of_places w1 aw al ap cw cl cp ws ls ps (hw.below hB) (hl.below hB) (hp.below hB) HLN.out (by omega) hplc hsm hz hwl).mono ?_
  rintro e w2 ⟨rfl, hm, hB2⟩
  have hs1 := hB.size
  have hB := hB.trans (hB2.mono hB.size)
  obtain ⟨bm, hbm⟩ : ∃ bm, w1.heap.size = bm := ⟨_, rfl⟩
  rw [hbm] at hm hs1 ⊢
  have hbl := hm.lt
  clear hB2 hbm
  go_wp2_with (at_make; refine wpList_make_full _ rfl _ _ 25 rfl w2.heap.size 3 i0 (.int .i64 0) 1 Try.underlying25 hi hz0 hz1 _ _ _ _ ws.length rfl rfl (by omega) (by omega) (by rw [hz2]; omega) (by unfold maxLen; omega) (Nat.le_refl _) ?_; intro w3 hown hgrow)
  have hown' := Li.own_made hown
  have hB3 := below_none hgrow
  have hm3 := hm.below hB3
  have hB := hB.trans (hB3.mono hB.size)
  clear hown hgrow hB3 hm
  go_loopw [12] (fun i wr => ∃ m : Nat, m ≤ ps.length ∧ i = .int .i64 ((m : Int) - 1) ∧ (∃ N : Nat, N + m ≤ 80 ∧ TM wr bm N (tal ws ls (ps.take m))) ∧ ∃ o : List Int, Some_ ws ls ps p m ps.length o ∧ o.length = ws.length ∧ Li.Own wr w2.heap.size (.slice (some ⟨w2.heap.size, 0, none⟩) ws.length ws.length) o ∧ Below w.heap.size w wr ∧ w2.heap.size < wr.heap.size) (fun i _ => (intOf i + 1).toNat)
  case atStart => exact ⟨ps.length, Nat.le_refl _, rfl, ⟨ps.length, by omega, by rw [List.take_length]; exact hm3⟩, _, some_none _ _ _ _ _ _ (by simp), by simp, hown', hB, by
    rcases hown'.2 with ⟨h, _⟩ | ⟨g, c, cur, h, _, hh, _⟩
    · simp at h
    · simp at h; rw [← h.1] at hh; exact (Array.getElem?_eq_some_iff.1 hh).1⟩
  case round =>
    obtain ⟨m, hm', rfl, ⟨N, hN, hm⟩, o, hso, hol, hown, hB, hlt2⟩ := hrel
    clear hown' hm3
    have HOL : Hid (o.length = ws.length) := hol
    clear hol
    by_cases hlt : m = 0
    · subst hlt
      have HE : Hid (Li.Own wr w2.heap.size (.slice (some ⟨w2.heap.size, 0, none⟩) ws.length ws.length) (allN ws ls ps p)) := by have := allN_eq hpk HPN.out hso; rw [← this]; exact hown
      clear hown
      go_wp2
      go_ret2
      exact ⟨_, rfl, HE.out.mono (by omega), hB⟩
    · obtain ⟨k, rfl⟩ : ∃ k, m = k + 1 := ⟨m - 1, by omega⟩
      have ek : ((k + 1 : Nat) : Int) - 1 = (k : Int) := by omega
      rw [ek]
      clear ek hlt
      have hk : k < ps.length := by omega
      have hrng := hpk.rng k hk
      have hjw : ps[k].toNat < ws.length := by have := HPN.out; omega
      have hjl : ps[k].toNat < ls.length := by have := HLN.out; omega
      have hone := tal_one ws ls ps hsm k hk
      have hbd := tal_bd ws ls (ps.take (k + 1)) hsm (wat ws ps[k]) (by simp; omega)
      have hbd' := tal_bd ws ls (ps.take k) hsm (wat ws ps[k]) (by simp; omega)
      have HT : Hid (∀ t, ups (tal ws ls (ps.take (k + 1))) (wat ws ps[k]) ((tal ws ls (ps.take (k + 1)) (wat ws ps[k])).1 - 1, (tal ws ls (ps.take (k + 1)) (wat ws ps[k])).2 - lat ls ps[k]) t = tal ws ls (ps.take k) t) := tal_back ws ls ps k hk
      have HN : Hid (Some_ ws ls ps p k ps.length (o.set ps[k].toNat (atNum ws ls ps k p))) := some_down hpk HPN.out hk hso
      have hnum : atNum ws ls ps k p = Ar.flo ((tal ws ls (ps.take k) (wat ws ps[k])).2 + p) ((tal ws ls (ps.take k) (wat ws ps[k])).1 + 1) := by
        unfold atNum numb
        rw [show lat ps (k : Int) = ps[k] from by rw [lat_get (by omega)]; simp]
      rw [hnum] at HN
      rcases hp.below hB with rfl | ⟨pb, po, rfl, hpb, hpc⟩
      · simp at hk
      have hcp := hpc k hk
      rcases hw.below hB with rfl | ⟨wb, wo, rfl, hwb, hwc⟩
      · simp at hjw
      rcases hl.below hB with rfl | ⟨lb, lo, rfl, hlb, hlc⟩
      · simp at hjl
      have hcw := hwc _ hjw
      have hcl := hlc _ hjl
      have hsz := hz _ hjw
      rw [← wat_get hjw] at hcw hsz
      rw [← lat_get hjl] at hcl
      have hlb' := hsm ps[k]
      have hwlt : wb < w.heap.size := by
        rcases hw with h | ⟨b, o, h, hb, _⟩
        · subst h; simp at hjw
        · cases h; exact hb
      obtain ⟨x, hx⟩ : ∃ x, ps[k] = x := ⟨_, rfl⟩
      rw [hx] at hrng hjw hjl hone hbd hbd' HT HN hcp hcw hcl hsz hlb'
      clear hx hnum hpc hwc hlc hso hsm hz hplc hpk
      go_wp2
      go_region_with (go_at_call 42; refine (Ta.take _ _ _ _ (by exact hm) (by omega) _ hsz _ hlb'.1 hlb'.2 (by omega) (by omega) (by omega) (by omega) hone.2).mono ?_; rintro e w4 ⟨rfl, h1, g1⟩
                      have hg1 : Hid (wr.grownBy w4 (some bm)) := ⟨g1.os, g1.tape, g1.output, g1.size, g1.block⟩
                      clear g1)
      all_goals
        have h1 := h1.same HT.out
        have hown := own_off hown hg1.out (by omega)
        have hs4 := hg1.out.size
        have hB4 : Below w.heap.size w w4 := below_grown hB hB.size hs1 hg1.out
        have hcw4 : w4.cell? ⟨wb, wo + x.toNat, none⟩ = some (.string (wat ws x)) := by
          rw [World.cell?_of_block (w := wr) (a := ⟨wb, wo + x.toNat, none⟩) (hg1.out.block wb hwb (fun e => by cases e; omega))]; exact hcw
        clear hg1 hm hcw hcl hcp hone hbd HT
        go_wp2_with (first
          | (at_lookup; refine Ta.at_tm _ rfl _ _ rfl _ _ _ rfl h1 _ rfl hsz ?_)
          | (go_at_call 35; refine (Ta.number _ _ _ _ (by omega) (by omega) (by omega) (by omega) p0 p1).mono ?_; rintro e w5 ⟨rfl, hB5⟩
             have HO5 : Hid (Li.Own w5 w2.heap.size (.slice (some ⟨w2.heap.size, 0, none⟩) ws.length ws.length) o) := hown.below hB5
             have HM5 : Hid (TM w5 bm (N + 1) (tal ws ls (ps.take k))) := h1.below hB5
             have HB5 : Hid (Below w.heap.size w w5) := hB4.trans (hB5.mono hB4.size)
             have hs5 := hB5.size
             obtain ⟨cv, hcv⟩ : ∃ cv : Int, w5.cell? ⟨w2.heap.size, x.toNat, none⟩ = some (.int .i64 cv) := ⟨_, HO5.out.cell HOL.out x.toNat (by rw [HOL.out]; exact hjw)⟩
             have hcf := HO5.out.frozen HOL.out x.toNat
             clear hB5))
        go_roundw
        case rel => exact ⟨k, by omega, by go_num, ⟨N + 1, by omega, HM5.out.kept (Li.grown_set _ _ _ _) (fun e => by cases e; omega)⟩, _, HN.out, by simpa using HOL.out, HO5.out.set HOL.out _ _, HB5.out.setCell (p := ⟨w2.heap.size, x.toNat, none⟩) (by show w.heap.size ≤ w2.heap.size; omega) _, by rw [size_set]; omega⟩
        case measure => first | (simp [intOf]; done) | (simp [intOf]; omega)
end Go.Proofs.Ythgjcplkladepaa.Ct
