/-
  Walk of the program and of the model.
-/
import Derived.Test.YtmkfmolihlnafaaTrE
import Derived.Test.YtmkfmolihlnafaaTrN
namespace Go.Proofs.Ytmkfmolihlnafaa.Wk
open Go.RowKit
open Go.Proofs.Ytmkfmolihlnafaa.Li (ret_bool ret_int below_none)
open Go.Proofs.Ytmkfmolihlnafaa.Tr Go.Proofs.Ytmkfmolihlnafaa.Tm
set_option linter.unusedVariables false

theorem leads_btw (n : Nd) (p c : Nat) : leads n p c = (Li.btw n.f 0 5 && Li.btw n.l ((p : Int) + 1) ((c : Int) - 1) && Li.btw n.r ((p : Int) + 1) ((c : Int) - 1)) := by
  simp only [leads, Li.btw, Bool.decide_and]
theorem nxt_at {n : Nd} {x : List Int} {v : Int} (h : n.f.toNat < x.length) (hv : x[n.f.toNat] = v) : nxt n x = if n.b < v then n.r.toNat else n.l.toNat := by
  unfold nxt
  rw [List.getD_eq_getElem?_getD, List.getElem?_eq_getElem h, hv]; rfl
theorem at5_below {w w1 : World} {b o : Nat} {n : Nd} (h : At5 w b o n) (hb : b < w.heap.size) (hB : Below w.heap.size w w1) : At5 w1 b o n := by
  obtain ⟨c0, c1, c2, c3, c4⟩ := h
  exact ⟨(hB.cell (by exact hb)).trans c0, (hB.cell (by exact hb)).trans c1, (hB.cell (by exact hb)).trans c2, (hB.cell (by exact hb)).trans c3, (hB.cell (by exact hb)).trans c4⟩
/-- Where the walk stands, it still says what the whole walk says. -/
def Here (ns : List Nd) (x : List Int) (p : Nat) : Prop := wk ns x (ns.length - p) p = walk ns x
theorem here_next {ns : List Nd} {x : List Int} {p : Nat} (hp : p < ns.length) (h : Here ns x p) (h1 : ¬ ns[p].l = -1) (h2 : leads ns[p] p ns.length = true) : Here ns x (nxt ns[p] x) := by
  have hn := nxt_lt x h2
  unfold Here at *
  rw [← h]
  obtain ⟨s, hs⟩ : ∃ s, ns.length - p = s + 1 := ⟨ns.length - p - 1, by omega⟩
  rw [hs, wk_on hp h1 h2]
  exact wk_more _ _ _ _ _ (by omega) (by omega) hn.2
theorem here_end {ns : List Nd} {x : List Int} {p : Nat} (hp : p < ns.length) (h : Here ns x p) (h1 : ns[p].l = -1) : walk ns x = (ns[p].v, true) := by
  unfold Here at h
  obtain ⟨s, hs⟩ : ∃ s, ns.length - p = s + 1 := ⟨ns.length - p - 1, by omega⟩
  rw [← h, hs, wk_end hp h1]
theorem here_bad {ns : List Nd} {x : List Int} {p : Nat} (hp : p < ns.length) (h : Here ns x p) (h1 : ¬ ns[p].l = -1) (h2 : leads ns[p] p ns.length = false) : walk ns x = (0, false) := by
  unfold Here at h
  obtain ⟨s, hs⟩ : ∃ s, ns.length - p = s + 1 := ⟨ns.length - p - 1, by omega⟩
  rw [← h, hs, wk_bad hp h1 h2]
set_option maxHeartbeats 4000000 in
theorem swalk (w : World) (a ax : Option Addr) (c cx : Nat) (ns : List Nd) (x : List Int) (hn : IsN w a ns) (hy : Li.IsL w ax x) (hl : ns.length ≤ 1048576) (hl' : x.length ≤ 1048576) (hok : ∀ j (hj : j < ns.length), NdOk ns[j]) :
    Calls Try.prog 27 #[.slice a ns.length c, .slice ax x.length cx] w fun e w' => e = .returned (.tuple #[.int .i64 (walk ns x).1, .bool (walk ns x).2]) ∧ Below w.heap.size w w' := by
  by_cases h0 : ns.length = 0
  · have hd : ((ns.length : Int) == 0) = true := by simp; exact List.length_eq_zero_iff.1 h0
    rw [walk_no (.inl h0)]
    go_enter Try.func27, Try.ntmps27
    go_wp2
    go_ret2
    exact ⟨rfl, Below.refl _ _⟩
  have hd : ((ns.length : Int) == 0) = false := by simp; intro e; exact h0 (by rw [e]; rfl)
  by_cases h6 : x.length = 6
  rotate_left
  · have hd6 : ((x.length : Int) != 6) = true := by simp; omega
    rw [walk_no (.inr h6)]
    clear h6
    go_enter Try.func27, Try.ntmps27
    go_wp2
    go_ret2
    exact ⟨rfl, Below.refl _ _⟩
  have hd6 : ((x.length : Int) != 6) = false := by simp; omega
  have H6 : Hid (x.length = 6) := h6
  have HS : Hid (Here ns x 0) := by show Here ns x 0; unfold Here; rw [walk_yes h0 h6, Nat.sub_zero]
  obtain ⟨R, hR⟩ : ∃ R, walk ns x = R := ⟨_, rfl⟩
  rw [hR]
  have HW : Hid (walk ns x = R) := hR
  clear h6 hR
  go_enter Try.func27, Try.ntmps27
  go_wp2
  go_loopw [6] (fun i wr => ∃ p : Nat, p < ns.length ∧ i = .int .i64 p ∧ Here ns x p ∧ Below w.heap.size w wr) (fun i _ => ns.length - (intOf i).toNat)
  case atStart => exact ⟨0, by omega, rfl, HS.out, Below.refl _ _⟩
  case round =>
    obtain ⟨p, hp, rfl, hh, hB⟩ := hrel
    have HH : Hid (Here ns x p) := hh
    clear hh
    rcases hn.below hB with h1 | ⟨b, off, rfl, hb, hc⟩
    · rw [h1] at hp; simp at hp
    obtain ⟨c0, c1, c2, c3, c4⟩ := hc p hp
    have HOK : Hid (NdOk ns[p]) := hok p hp
    have HN : ¬ ns[p].l = -1 → leads ns[p] p ns.length = true → Hid (Here ns x (nxt ns[p] x) ∧ p < nxt ns[p] x ∧ nxt ns[p] x < ns.length) := fun e1 e2 => ⟨here_next hp HH.out e1 e2, nxt_lt x e2⟩
    have HE : ns[p].l = -1 → Hid (R = (ns[p].v, true)) := fun e1 => HW.out.symm.trans (here_end hp HH.out e1)
    have HD : ¬ ns[p].l = -1 → leads ns[p] p ns.length = false → Hid (R = (0, false)) := fun e1 e2 => HW.out.symm.trans (here_bad hp HH.out e1 e2)
    obtain ⟨n, hnd⟩ : ∃ n, ns[p] = n := ⟨_, rfl⟩
    rw [hnd] at c0 c1 c2 c3 c4 HOK HN HE HD
    clear hc hnd
    have hlb := leads_btw n p ns.length
    by_cases hend : n.l = -1
    · have HR := HE hend
      have hne : (n.l != -1) = false := by simpa using hend
      clear HE HD HN hend hlb
      go_wp2
      go_ret2
      exact ⟨by rw [HR.out]; rfl, hB⟩
    have hne : (n.l != -1) = true := by simpa using hend
    have hs := hB.size
    cases hv1 : Li.btw n.f 0 5 with
    | false =>
      have HR := HD hend (by rw [hlb, hv1]; rfl)
      clear HE HD HN hend hlb
      go_wp2_with (go_at_call 35; refine (Li.between_any _ _ _ _).mono ?_; rintro e w' ⟨rfl, hw⟩; subst w'; rw [hv1])
      go_ret2
      exact ⟨by rw [HR.out]; rfl, hB.alloc hs _⟩
    | true =>
      cases hv2 : Li.btw n.l ((p : Int) + 1) ((ns.length : Int) - 1) with
      | false =>
        have HR := HD hend (by rw [hlb, hv1, hv2]; rfl)
        clear HE HD HN hend hlb
        go_wp2_with (go_at_call 35; refine (Li.between_any _ _ _ _).mono ?_; rintro e w' ⟨rfl, hw⟩; subst w'; first | rw [hv1] | rw [hv2])
        go_ret2
        exact ⟨by rw [HR.out]; rfl, hB.alloc hs _⟩
      | true =>
        cases hv3 : Li.btw n.r ((p : Int) + 1) ((ns.length : Int) - 1) with
        | false =>
          have HR := HD hend (by rw [hlb, hv1, hv2, hv3]; rfl)
          clear HE HD HN hend hlb
          go_wp2_with (go_at_call 35; refine (Li.between_any _ _ _ _).mono ?_; rintro e w' ⟨rfl, hw⟩; subst w'; first | rw [hv1] | rw [hv2] | rw [hv3])
          go_ret2
          exact ⟨by rw [HR.out]; rfl, hB.alloc hs _⟩
        | true =>
          have hle : leads n p ns.length = true := by rw [hlb, hv1, hv2, hv3]; rfl
          have HX := HN hend hle
          have hle' := leads_iff.1 hle
          have hfl : n.f.toNat < x.length := by have := H6.out; omega
          obtain ⟨yb, yo, rfl, hyb, hyc⟩ := Tw.isl_pos (hy.below hB) hfl
          have hcz := hyc _ hfl
          obtain ⟨v, hv⟩ : ∃ v, x[n.f.toNat] = v := ⟨_, rfl⟩
          have HNX : Hid (nxt n x = if n.b < v then n.r.toNat else n.l.toNat) := nxt_at hfl hv
          rw [hv] at hcz
          have hf0 : 0 ≤ n.f := hle'.1.1.1
          have hf1 : n.f < (x.length : Int) := by omega
          have HLE : Hid (((0 ≤ n.f ∧ n.f ≤ 5) ∧ ((p : Int) + 1 ≤ n.l ∧ n.l ≤ (ns.length : Int) - 1)) ∧ ((p : Int) + 1 ≤ n.r ∧ n.r ≤ (ns.length : Int) - 1)) := hle'
          have hfz : wr.heap.size < (wr.alloc (.cells #[.int .i64 n.f, .int .i64 n.b, .int .i64 n.l, .int .i64 n.r, .int .i64 n.v] 64)).heap.size := by simp
          clear HE HD HN hend hlb hle hle' hyc hv hfl
          by_cases hgt : n.b < v
          · go_wp2_with (go_at_call 35; refine (Li.between_any _ _ _ _).mono ?_; rintro e w' ⟨rfl, hw⟩; subst w'; first | rw [hv1] | rw [hv2] | rw [hv3])
            go_quiet (fail)
            go_wp2
            go_roundw
            case rel =>
              have h1 := HX.out
              rw [HNX.out, if_pos hgt] at h1
              exact ⟨n.r.toNat, h1.2.2, by have := HLE.out; go_num, h1.1, (hB.alloc hs _).trans ((below_drewN' _ _).mono (by simp; omega))⟩
            case measure =>
              have h1 := HX.out
              rw [HNX.out, if_pos hgt] at h1
              have := HLE.out
              simp [intOf]; omega
          · go_wp2_with (go_at_call 35; refine (Li.between_any _ _ _ _).mono ?_; rintro e w' ⟨rfl, hw⟩; subst w'; first | rw [hv1] | rw [hv2] | rw [hv3])
            go_quiet (fail)
            go_wp2
            go_roundw
            case rel =>
              have h1 := HX.out
              rw [HNX.out, if_neg (by omega)] at h1
              exact ⟨n.l.toNat, h1.2.2, by have := HLE.out; go_num, h1.1, (hB.alloc hs _).trans ((below_drewN' _ _).mono (by simp; omega))⟩
            case measure =>
              have h1 := HX.out
              rw [HNX.out, if_neg (by omega)] at h1
              have := HLE.out
              simp [intOf]; omega
set_option maxHeartbeats 4000000 in
theorem ilead (w : World) (n : Nd) (p c : Nat) (hp : p ≤ 1048576) (hc : c ≤ 1048576) :
    Calls Try.prog 49 #[.agg #[.int .i64 n.f, .int .i64 n.b, .int .i64 n.l, .int .i64 n.r, .int .i64 n.v], .int .i64 p, .int .i64 c] w fun e w' => e = .returned (.bool (leads n p c)) ∧ Below w.heap.size w w' := by
  obtain ⟨q, hq⟩ : ∃ q, leads n p c = q := ⟨_, rfl⟩
  rw [hq]
  unfold leads at hq
  cases h1 : Li.btw n.f 0 5 with
  | false =>
    have HR : Hid (q = false) := by
      show q = false
      rw [← hq]
      have : ¬ (0 ≤ n.f ∧ n.f ≤ 5) := by simpa [Li.btw] using h1
      simp; omega
    clear hq
    go_enter Try.func49, Try.ntmps49
    go_wp2_with (go_at_call 56; refine (Tw.ifeat _ _).mono ?_; rintro e w' ⟨rfl, hw⟩; subst w'; rw [h1])
    go_ret
    exact ⟨by rw [HR.out]; rfl, (Below.refl _ _).alloc (Nat.le_refl _) _⟩
  | true =>
    have HF : Hid (0 ≤ n.f ∧ n.f ≤ 5) := by have h := h1; simp [Li.btw] at h; exact h
    have HQ : Hid (decide (((0 ≤ n.f ∧ n.f ≤ 5) ∧ ((p : Int) + 1 ≤ n.l ∧ n.l ≤ (c : Int) - 1)) ∧ ((p : Int) + 1 ≤ n.r ∧ n.r ≤ (c : Int) - 1)) = q) := hq
    clear hq
    go_enter Try.func49, Try.ntmps49
    go_wp2_with (go_at_call 56; refine (Tw.ifeat _ _).mono ?_; rintro e w' ⟨rfl, hw⟩; subst w'; rw [h1])
    all_goals go_ret
    all_goals refine ⟨ret_bool ?_, (Below.refl _ _).alloc (Nat.le_refl _) _⟩
    all_goals rw [← HQ.out]
    all_goals have := HF.out
    all_goals simp
    all_goals first | omega | (rw [Bool.eq_iff_iff]; simp; omega)
set_option maxHeartbeats 4000000 in
theorem iwalk (w : World) (a ax : Option Addr) (c cx : Nat) (ns : List Nd) (x : List Int) (hn : IsN w a ns) (hy : Li.IsL w ax x) (hl : ns.length ≤ 1048576) (hl' : x.length ≤ 1048576) (hok : ∀ j (hj : j < ns.length), NdOk ns[j]) :
    Calls Try.prog 29 #[.slice a ns.length c, .slice ax x.length cx] w fun e w' => e = .returned (.tuple #[.int .i64 (walk ns x).1, .bool (walk ns x).2]) ∧ Below w.heap.size w w' := by
  by_cases h0 : ns.length = 0
  · have hd : ((ns.length : Int) == 0) = true := by simp; exact List.length_eq_zero_iff.1 h0
    rw [walk_no (.inl h0)]
    go_enter Try.func29, Try.ntmps29
    go_wp2
    go_ret2
    exact ⟨rfl, Below.refl _ _⟩
  have hd : ((ns.length : Int) == 0) = false := by simp; intro e; exact h0 (by rw [e]; rfl)
  by_cases h6 : x.length = 6
  rotate_left
  · have hd6 : ((x.length : Int) != 6) = true := by simp; omega
    rw [walk_no (.inr h6)]
    clear h6
    go_enter Try.func29, Try.ntmps29
    go_wp2
    go_ret2
    exact ⟨rfl, Below.refl _ _⟩
  have hd6 : ((x.length : Int) != 6) = false := by simp; omega
  have H6 : Hid (x.length = 6) := h6
  have HS : Hid (Here ns x 0) := by show Here ns x 0; unfold Here; rw [walk_yes h0 h6, Nat.sub_zero]
  obtain ⟨R, hR⟩ : ∃ R, walk ns x = R := ⟨_, rfl⟩
  rw [hR]
  have HW : Hid (walk ns x = R) := hR
  clear h6 hR
  go_enter Try.func29, Try.ntmps29
  go_wp2
  go_loopw [6] (fun i wr => ∃ p : Nat, p < ns.length ∧ i = .int .i64 p ∧ Here ns x p ∧ Below w.heap.size w wr) (fun i _ => ns.length - (intOf i).toNat)
  case atStart => exact ⟨0, by omega, rfl, HS.out, Below.refl _ _⟩
  case round =>
    obtain ⟨p, hp, rfl, hh, hB⟩ := hrel
    have HH : Hid (Here ns x p) := hh
    clear hh
    rcases hn.below hB with h1 | ⟨b, off, rfl, hb, hc⟩
    · rw [h1] at hp; simp at hp
    obtain ⟨c0, c1, c2, c3, c4⟩ := hc p hp
    have HN : ¬ ns[p].l = -1 → leads ns[p] p ns.length = true → Hid (Here ns x (nxt ns[p] x) ∧ p < nxt ns[p] x ∧ nxt ns[p] x < ns.length) := fun e1 e2 => ⟨here_next hp HH.out e1 e2, nxt_lt x e2⟩
    have HE : ns[p].l = -1 → Hid (R = (ns[p].v, true)) := fun e1 => HW.out.symm.trans (here_end hp HH.out e1)
    have HD : ¬ ns[p].l = -1 → leads ns[p] p ns.length = false → Hid (R = (0, false)) := fun e1 e2 => HW.out.symm.trans (here_bad hp HH.out e1 e2)
    obtain ⟨n, hnd⟩ : ∃ n, ns[p] = n := ⟨_, rfl⟩
    rw [hnd] at c0 c1 c2 c3 c4 HN HE HD
    clear hc hnd
    by_cases hend : n.l = -1
    · have HR := HE hend
      have hne : (n.l != -1) = false := by simpa using hend
      clear HE HD HN hend
      go_wp2
      go_ret2
      exact ⟨by rw [HR.out]; rfl, hB⟩
    have hne : (n.l != -1) = true := by simpa using hend
    have hs := hB.size
    cases hle : leads n p ns.length with
    | false =>
      have HR := HD hend hle
      clear HE HD HN hend
      go_wp2_with (go_at_call 49; refine (ilead _ n p ns.length (by omega) hl).mono ?_; rintro e w2 ⟨rfl, hB2⟩; rw [hle])
      go_ret2
      exact ⟨by rw [HR.out]; rfl, (hB.alloc hs _).trans (hB2.mono (by simp; omega))⟩
    | true =>
      have HX := HN hend hle
      have hle' := leads_iff.1 hle
      have hfl : n.f.toNat < x.length := by have := H6.out; omega
      obtain ⟨v, hv⟩ : ∃ v, x[n.f.toNat] = v := ⟨_, rfl⟩
      have HNX : Hid (nxt n x = if n.b < v then n.r.toNat else n.l.toNat) := nxt_at hfl hv
      have HV : Hid (x[n.f.toNat] = v) := hv
      have HLE : Hid (((0 ≤ n.f ∧ n.f ≤ 5) ∧ ((p : Int) + 1 ≤ n.l ∧ n.l ≤ (ns.length : Int) - 1)) ∧ ((p : Int) + 1 ≤ n.r ∧ n.r ≤ (ns.length : Int) - 1)) := hle'
      clear HE HD HN hend hle' hv
      go_wp2_with fail
      have hbA := hB.alloc hs (.cells #[.int .i64 n.f, .int .i64 n.b, .int .i64 n.l, .int .i64 n.r, .int .i64 n.v] 64)
      have h5 : At5 (wr.alloc (.cells #[.int .i64 n.f, .int .i64 n.b, .int .i64 n.l, .int .i64 n.r, .int .i64 n.v] 64)) wr.heap.size 0 n := by
        refine ⟨?_, ?_, ?_, ?_, ?_⟩ <;> simp [World.cell?_alloc_new]
      have hbl : wr.heap.size < (wr.alloc (.cells #[.int .i64 n.f, .int .i64 n.b, .int .i64 n.l, .int .i64 n.r, .int .i64 n.v] 64)).heap.size := by simp
      obtain ⟨W, hW⟩ : ∃ W, wr.alloc (.cells #[.int .i64 n.f, .int .i64 n.b, .int .i64 n.l, .int .i64 n.r, .int .i64 n.v] 64) = W := ⟨_, rfl⟩
      rw [hW] at hbA h5 hbl ⊢
      clear hW
      refine (ilead _ n p ns.length (by omega) hl).mono ?_
      rintro e w2 ⟨rfl, hB2⟩
      rw [hle]
      have h5 := at5_below h5 hbl hB2
      have hbA := hbA.trans (hB2.mono hbA.size)
      have hbl : wr.heap.size < w2.heap.size := Nat.lt_of_lt_of_le hbl hB2.size
      obtain ⟨d0, d1, d2, d3, d4⟩ := id h5
      clear hB2 hle c0 c1 c2 c3 c4
      go_wp2_with fail
      refine (Tw.isays _ _ _ v _ _ x (hy.below hbA) HLE.out.1.1.1 hfl hl' HV.out).mono ?_
      rintro e w3 ⟨rfl, hB3⟩
      have h5 := at5_below h5 hbl hB3
      have hbA := hbA.trans (hB3.mono hbA.size)
      have hbl : wr.heap.size < w3.heap.size := Nat.lt_of_lt_of_le hbl hB3.size
      clear d0 d1 d2 d3 d4 hB3
      obtain ⟨d0, d1, d2, d3, d4⟩ := id h5
      by_cases hgt : n.b < v
      · have hg : decide (n.b < v) = true := by simpa using hgt
        rw [hg]
        go_wp2
        go_roundw
        case rel =>
          have h1 := HX.out
          rw [HNX.out, if_pos hgt] at h1
          exact ⟨n.r.toNat, h1.2.2, by have := HLE.out; go_num, h1.1, hbA⟩
        case measure =>
          have h1 := HX.out
          rw [HNX.out, if_pos hgt] at h1
          have := HLE.out
          simp [intOf]; omega
      · have hg : decide (n.b < v) = false := by simpa using hgt
        rw [hg]
        go_wp2
        go_roundw
        case rel =>
          have h1 := HX.out
          rw [HNX.out, if_neg (by omega)] at h1
          exact ⟨n.l.toNat, h1.2.2, by have := HLE.out; go_num, h1.1, hbA⟩
        case measure =>
          have h1 := HX.out
          rw [HNX.out, if_neg (by omega)] at h1
          have := HLE.out
          simp [intOf]; omega
end Go.Proofs.Ytmkfmolihlnafaa.Wk
