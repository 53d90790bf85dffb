/-
  BordersOf of the model.
-/
import Derived.Test.YtbdffmfaebdgfaaBorS
namespace Go.Proofs.Ytbdffmfaebdgfaa.Bs
open Go.RowKit
open Go.Proofs.Ytbdffmfaebdgfaa.Li Go.Proofs.Ytbdffmfaebdgfaa.Bo Go.Proofs.Ytbdffmfaebdgfaa.Ai Go.Proofs.Ytbdffmfaebdgfaa.Bw
theorem take_snoc {v : List Int} {k : Nat} (h : k < v.length) : v.take k ++ [v[k]] = v.take (k + 1) := (List.take_succ_eq_append_getElem h).symm
def spr (v : List Int) (most k : Nat) : List Int := (List.range k).map fun j => v.getD (plc v.length most j) 0
theorem spr_len (v : List Int) (most k : Nat) : (spr v most k).length = k := by simp [spr]
theorem spr_succ (v : List Int) (most k : Nat) (h : plc v.length most k < v.length) : spr v most k ++ [v[plc v.length most k]] = spr v most (k + 1) := by
  unfold spr
  rw [List.range_succ, List.map_append]
  simp [List.getD_eq_getElem?_getD, List.getElem?_eq_getElem h]
theorem wrap_in (x : Int) (h0 : -9223372036854775808 ≤ x) (h1 : x ≤ 9223372036854775807) : wrap64 x = x := by unfold wrap64; omega
theorem plc_go {k L q : Nat} (hk : k < q) (hq : q ≤ 12) (hL : L ≤ 1000) (hm : q + 1 < L) :
    wrap64 (wrap64 ((wrap64 (((k : Int) + 1) * (L : Int))).tdiv ((q : Int) + 1)) - 1) = (plc L q k : Int) := by
  have h0 : (k + 1) * L ≤ 12 * 1000 := Nat.mul_le_mul (by omega) hL
  have e : ((k : Int) + 1) * (L : Int) = (((k + 1) * L : Nat) : Int) := by rw [Int.natCast_mul]; rfl
  have e2 : ((q : Int) + 1) = ((q + 1 : Nat) : Int) := rfl
  have h1 : (k + 1) * L / (q + 1) ≤ 12 * 1000 := Nat.le_trans (Nat.div_le_self _ _) h0
  have h2 := plc_pos (j := k) hm
  have e3 : wrap64 (((k + 1) * L : Nat) : Int) = (((k + 1) * L : Nat) : Int) := wrap_in _ (by omega) (by omega)
  have e4 : ((((k + 1) * L : Nat) : Int)).tdiv ((q + 1 : Nat) : Int) = (((k + 1) * L / (q + 1) : Nat) : Int) := (Int.ofNat_tdiv _ _).symm
  rw [e, e3, e2, e4]
  unfold plc
  obtain ⟨D, hD⟩ : ∃ D, (k + 1) * L / (q + 1) = D := ⟨_, rfl⟩
  rw [hD] at h1 h2 ⊢
  have e5 : wrap64 (D : Int) = D := wrap_in _ (by omega) (by omega)
  rw [e5, wrap_in _ (by omega) (by omega)]
  omega
/-- What reads as a list is kept by what grows in another block. -/
theorem isl_grown {w w1 : World} {a : Option Addr} {xs : List Int} {r : Option Nat} (h : IsL w a xs) (hg : w.grownBy w1 r) (hr : ∀ x, a = some x → r ≠ some x.block) : IsL w1 a xs :=
  h.keptAt hg.size (fun x hx hlt => hg.block _ hlt (fun e => hr x hx e.symm))
theorem isl_alloc {w : World} {a : Option Addr} {xs : List Int} (h : IsL w a xs) (o : Obj) : IsL (w.alloc o) a xs :=
  h.keptAt (by simp) (fun x _ hlt => Below.heap_alloc _ _ _ hlt)
set_option maxRecDepth 100000 in
set_option maxHeartbeats 4000000 in
theorem sbor_no (w : World) (a : Option Addr) (cp : Nat) (xs : List Int) (most : Int) (hx : IsL w a xs) (hl : xs.length ≤ 1048576) (hn : ¬ (xs.length ≤ 1000 ∧ 0 ≤ most ∧ most ≤ 12 ∧ aok xs = true)) :
    Calls Try.prog 9 #[.slice a xs.length cp, .int .i64 most] w fun e w' => ∃ v, e = .returned v ∧ Own w' w.heap.size v [] ∧ Below w.heap.size w w' := by
  have ho : Own (w.alloc (.cells #[] 3)) w.heap.size (.slice (some ⟨w.heap.size, 0, none⟩) 0 0) [] := own_empty _ _ (Nat.le_refl _)
  have hB : Below w.heap.size w (w.alloc (.cells #[] 3)) := (Below.refl _ _).alloc (Nat.le_refl _) _
  by_cases h1 : 1000 < xs.length
  · have hd : decide (1000 < (xs.length : Int)) = true := by simp; omega
    go_enter Try.func9, Try.ntmps9
    go_wp2
    go_ret
    exact ⟨_, rfl, ho, hB⟩
  have hd : decide (1000 < (xs.length : Int)) = false := by simp; omega
  by_cases h2 : 0 ≤ most ∧ most ≤ 12
  · have hbt : btw most 0 12 = true := by simpa [btw] using h2
    have hna : ¬ aok xs = true := fun h => hn ⟨by omega, h2.1, h2.2, h⟩
    have HN : Hid (¬ aok xs = true) := hna
    clear hn hna h2
    go_enter Try.func9, Try.ntmps9
    go_wp2_with (go_at_call 24; refine (between_any _ _ _ _).mono ?_; rintro e w' ⟨rfl, hw⟩; subst w'; rw [hbt])
    go_loop [6] (fun i => ∃ k : Nat, k ≤ xs.length ∧ i = .int .i64 k ∧ ∀ j (hj : j < xs.length), j < k → fok xs[j] = true) (fun i => xs.length - (intOf i).toNat)
    case atStart => exact ⟨0, Nat.zero_le _, rfl, fun j hj h => by omega⟩
    case round =>
      obtain ⟨k, hk, rfl, hok⟩ := hrel
      have HK : Hid (∀ j (hj : j < xs.length), j < k → fok xs[j] = true) := hok
      clear hok
      by_cases hlt : k < xs.length
      · rcases hx.below hB with h0 | ⟨b, off, rfl, hb, hc⟩
        · rw [h0] at hlt; simp at hlt
        have hcx := hc k hlt
        clear hc
        cases hv : fok xs[k] with
        | false =>
          go_wp2_with (go_at_call 11; refine (sokv _ false hv _).mono ?_; rintro e w' ⟨rfl, hw⟩; subst w')
          go_ret
          exact ⟨_, rfl, ho, hB⟩
        | true =>
          have HR : Hid (∀ j (hj : j < xs.length), j < k + 1 → fok xs[j] = true) := fun j hj h => by
            by_cases e : j = k
            · subst e; exact hv
            · exact HK.out j hj (by omega)
          go_wp2_with (go_at_call 11; refine (sokv _ true hv _).mono ?_; rintro e w' ⟨rfl, hw⟩; subst w')
          go_round
          case rel => exact ⟨k + 1, by omega, by go_num, HR.out⟩
          case measure => simp [intOf]; omega
      · exact absurd (aok_to (fun j hj => HK.out j hj (by omega))) HN.out
  · have hbt : btw most 0 12 = false := by simp [btw]; omega
    go_enter Try.func9, Try.ntmps9
    go_wp2_with (go_at_call 24; refine (between_any _ _ _ _).mono ?_; rintro e w' ⟨rfl, hw⟩; subst w'; rw [hbt])
    go_ret
    exact ⟨_, rfl, ho, hB⟩
set_option maxRecDepth 100000 in
set_option maxHeartbeats 4000000 in
theorem sbor_yes (w : World) (a : Option Addr) (cp : Nat) (xs : List Int) (q : Nat) (hx : IsL w a xs) (h1 : xs.length ≤ 1000) (hq : q ≤ 12) (hok : aok xs = true) :
    Calls Try.prog 9 #[.slice a xs.length cp, .int .i64 q] w fun e w' => ∃ v, e = .returned v ∧ Own w' w.heap.size v (cut (srt xs) q) ∧ Below w.heap.size w w' := by
  obtain ⟨i0, hi, hz0, hz1, hz2⟩ := info_parts info_int
  have ho : Own (w.alloc (.cells #[] 3)) w.heap.size (.slice (some ⟨w.heap.size, 0, none⟩) 0 0) [] := own_empty _ _ (Nat.le_refl _)
  have hB : Below w.heap.size w (w.alloc (.cells #[] 3)) := (Below.refl _ _).alloc (Nat.le_refl _) _
  have hd : decide (1000 < (xs.length : Int)) = false := by simp; omega
  have hbt : btw (q : Int) 0 12 = true := by simp [btw]; omega
  have HOK : Hid (aok xs = true) := hok
  have hx1 := hx.below hB
  clear hok
  go_enter Try.func9, Try.ntmps9
  go_wp2_with (go_at_call 24; refine (between_any _ _ _ _).mono ?_; rintro e w' ⟨rfl, hw⟩; subst w'; rw [hbt])
  go_loop [6] (fun i => ∃ k : Nat, k ≤ xs.length ∧ i = .int .i64 k) (fun i => xs.length - (intOf i).toNat)
  case atStart => exact ⟨0, Nat.zero_le _, rfl⟩
  case round =>
    obtain ⟨k, hk, rfl⟩ := hrel
    by_cases hlt : k < xs.length
    · rcases hx1 with h0 | ⟨b, off, rfl, hb, hc⟩
      · rw [h0] at hlt; simp at hlt
      have hcx := hc k hlt
      have hv := aok_at HOK.out k hlt
      clear hc
      go_wp2_with (go_at_call 11; refine (sokv _ true hv _).mono ?_; rintro e w' ⟨rfl, hw⟩; subst w')
      go_round
      case rel => exact ⟨k + 1, by omega, by go_num⟩
      case measure => simp [intOf]; omega
    · obtain rfl : k = xs.length := by omega
      clear hlt hk
      go_wp2_with fail
      refine (ssort _ a cp xs hx1 (by omega)).mono ?_
      rintro e w2 ⟨vv, rfl, hov, hB2⟩
      have hvl := srt_len xs
      obtain ⟨v, hv⟩ : ∃ v, srt xs = v := ⟨_, rfl⟩
      have HV : Hid (srt xs = v) := hv
      rw [hv] at hov hvl
      clear hv
      have hsz : w.heap.size + 1 ≤ w2.heap.size := by have := hB2.size; simpa using this
      have ho2 := ho.below hB2
      have hBw := hB.trans (hB2.mono (by simp))
      obtain ⟨av, cv, rfl, hiv⟩ := hov.isl
      have hav : ∀ x, av = some x → w.heap.size + 1 ≤ x.block ∧ x.block < w2.heap.size := fun x e => by
        subst e
        have := hov.ge x.block rfl
        simpa using this
      clear hov ho hB hB2 hx hx1
      by_cases hm : v.length ≤ q + 1
      · have hle : decide ((v.length : Int) - 1 ≤ (q : Int)) = true := by simp; omega
        have HR : Hid (cut (srt xs) q = v.take (v.length - 1)) := by rw [HV.out]; exact cut_few hm
        go_wp2
        go_loopw [5, 9] (fun u i wr => ∃ k : Nat, (k + 1 ≤ v.length ∨ k = 0) ∧ i = .int .i64 k ∧ ∃ m : List Int, m = v.take k ∧ Own wr w.heap.size u m ∧ (∀ x, av = some x → u.ownBlock ≠ some x.block) ∧ IsL wr av v ∧ Below w.heap.size w wr ∧ w2.heap.size ≤ wr.heap.size) (fun _ i _ => v.length - (intOf i).toNat)
        case atStart => exact ⟨0, .inr rfl, rfl, [], rfl, ho2, fun x e => by have := hav x e; simp [Value.ownBlock]; omega, hiv, hBw, Nat.le_refl _⟩
        case round =>
          obtain ⟨k, hk, rfl, m, hm2, hown, hsep, hiv2, hB3, hs3⟩ := hrel
          have hml : m.length ≤ k := by rw [hm2]; simp; omega
          have HM : Hid (m = v.take k) := hm2
          clear hm2
          have hs := hB3.size
          by_cases hlt : k + 1 < v.length
          · have hvne : ¬ v = [] := fun e => by rw [e] at hlt; simp at hlt
            have hiv3 := hiv2
            rcases hiv2 with h0 | ⟨b, off, rfl, hb, hc⟩
            · exact absurd h0 hvne
            have hcx := hc k (by omega)
            clear hc
            have HS : Hid (m ++ [v[k]] = v.take (k + 1)) := by show _ = _; rw [HM.out]; exact take_snoc (by omega)
            obtain ⟨y, ey⟩ : ∃ y, v[k] = y := ⟨_, rfl⟩
            rw [ey] at hcx HS
            clear ey
            go_wp2_with (at_builtin; refine wpList_append_own_at _ rfl _ _ 24 rfl w.heap.size 3 i0 (.int .i64 0) 1 8 Try.underlying24 hi hz0 hz1 hz2 rfl (by decide) u5 m.length _ rfl (World.ownsRow.alloc hown _) ⟨wr.heap.size, 0, none⟩ 1 1 [.int .i64 y] rfl rfl (one_cell _ _ _) (one_one _) (by unfold maxLen; omega) (by omega) (by simp; omega) ?_)
            intro v' w6 hown' hgrow hnn hl6
            clear hnn
            have ho6 : Own w6 w.heap.size v' (m ++ [y]) := own_snoc rfl hown'
            have hB6 : Below w.heap.size w w6 := below_app (hB3.alloc hs _) (by simp; omega) hgrow (fun k hk => (hown.ge k hk).1)
            have hs6 : w2.heap.size ≤ w6.heap.size := by have := hgrow.size; simp at this; omega
            have hi6 : IsL w6 (some ⟨b, off, none⟩) v := isl_grown (isl_alloc hiv3 _) hgrow hsep
            have hsep6 : ∀ x, some (⟨b, off, none⟩ : Addr) = some x → v'.ownBlock ≠ some x.block := by
              intro x e
              rcases hl6 with h | h
              · rw [h]; exact hsep x e
              · rw [h]; cases e; simp; omega
            clear hown' hgrow hl6 hown hB3 hiv3 hsep
            go_wp2
            go_roundw
            case rel => exact ⟨k + 1, .inl (by omega), by go_num, m ++ [y], HS.out, ho6, hsep6, hi6, hB6, hs6⟩
            case measure => simp [intOf]; omega
          · have HE : Hid (cut (srt xs) q = m) := by
              show _ = _
              rw [HR.out, HM.out]
              congr 1
              omega
            go_wp2
            go_ret
            exact ⟨_, rfl, by rw [HE.out]; exact hown, hB3⟩
      · have hle : decide ((v.length : Int) - 1 ≤ (q : Int)) = false := by simp; omega
        have HR : Hid (cut (srt xs) q = spr v q q) := by rw [HV.out]; exact cut_many hm
        go_wp2
        go_loopw [5, 10] (fun u i wr => ∃ k : Nat, k ≤ q ∧ i = .int .i64 (k + 1 : Nat) ∧ ∃ m : List Int, m = spr v q k ∧ Own wr w.heap.size u m ∧ (∀ x, av = some x → u.ownBlock ≠ some x.block) ∧ IsL wr av v ∧ Below w.heap.size w wr ∧ w2.heap.size ≤ wr.heap.size) (fun _ i _ => q + 1 - (intOf i).toNat)
        case atStart => exact ⟨0, Nat.zero_le _, rfl, [], rfl, ho2, fun x e => by have := hav x e; simp [Value.ownBlock]; omega, hiv, hBw, Nat.le_refl _⟩
        case round =>
          obtain ⟨k, hk, rfl, m, hm2, hown, hsep, hiv2, hB3, hs3⟩ := hrel
          have hml : m.length ≤ k := by rw [hm2, spr_len]; omega
          have HM : Hid (m = spr v q k) := hm2
          clear hm2
          have hs := hB3.size
          by_cases hlt : k < q
          · have hvne : ¬ v = [] := fun e => by rw [e] at hm; simp at hm
            have hiv3 := hiv2
            have hp0 := plc_pos (j := k) (show q + 1 < v.length by omega)
            have hp1 := plc_lt (show q + 1 < v.length by omega) hlt
            have hpl : plc v.length q k < v.length := by unfold plc; omega
            rcases hiv2 with h0 | ⟨b, off, rfl, hb, hc⟩
            · exact absurd h0 hvne
            have hcx := hc _ hpl
            clear hc
            have HS : Hid (m ++ [v[plc v.length q k]] = spr v q (k + 1)) := by show _ = _; rw [HM.out]; exact spr_succ _ _ _ hpl
            obtain ⟨y, ey⟩ : ∃ y, v[plc v.length q k] = y := ⟨_, rfl⟩
            rw [ey] at hcx HS
            clear ey
            have hidx := plc_go hlt hq (show v.length ≤ 1000 by omega) (show q + 1 < v.length by omega)
            obtain ⟨z, ez⟩ : ∃ z, plc v.length q k = z := ⟨_, rfl⟩
            rw [ez] at hcx hidx hpl
            clear ez hp0 hp1
            go_wp2_with (at_builtin; refine wpList_append_own_at _ rfl _ _ 24 rfl w.heap.size 3 i0 (.int .i64 0) 1 8 Try.underlying24 hi hz0 hz1 hz2 rfl (by decide) u5 m.length _ rfl (World.ownsRow.alloc hown _) ⟨wr.heap.size, 0, none⟩ 1 1 [.int .i64 y] rfl rfl (one_cell _ _ _) (one_one _) (by unfold maxLen; omega) (by omega) (by simp; omega) ?_)
            intro v' w6 hown' hgrow hnn hl6
            clear hnn
            have ho6 : Own w6 w.heap.size v' (m ++ [y]) := own_snoc rfl hown'
            have hB6 : Below w.heap.size w w6 := below_app (hB3.alloc hs _) (by simp; omega) hgrow (fun k hk => (hown.ge k hk).1)
            have hs6 : w2.heap.size ≤ w6.heap.size := by have := hgrow.size; simp at this; omega
            have hi6 : IsL w6 (some ⟨b, off, none⟩) v := isl_grown (isl_alloc hiv3 _) hgrow hsep
            have hsep6 : ∀ x, some (⟨b, off, none⟩ : Addr) = some x → v'.ownBlock ≠ some x.block := by
              intro x e
              rcases hl6 with h | h
              · rw [h]; exact hsep x e
              · rw [h]; cases e; simp; omega
            clear hown' hgrow hl6 hown hB3 hiv3 hsep hidx
            go_wp2
            go_roundw
            case rel => exact ⟨k + 1, by omega, by go_num, m ++ [y], HS.out, ho6, hsep6, hi6, hB6, hs6⟩
            case measure => simp [intOf]; omega
          · obtain rfl : k = q := by omega
            have HE : Hid (cut (srt xs) k = m) := by show _ = _; rw [HR.out, HM.out]
            go_wp2
            go_ret
            exact ⟨_, rfl, by rw [HE.out]; exact hown, hB3⟩
theorem sbor (w : World) (a : Option Addr) (cp : Nat) (xs : List Int) (most : Int) (hx : IsL w a xs) (hl : xs.length ≤ 1048576) :
    Calls Try.prog 9 #[.slice a xs.length cp, .int .i64 most] w fun e w' => ∃ v, e = .returned v ∧ Own w' w.heap.size v (bor xs most) ∧ Below w.heap.size w w' := by
  by_cases h : xs.length ≤ 1000 ∧ 0 ≤ most ∧ most ≤ 12 ∧ aok xs = true
  · rw [bor_yes h]
    obtain ⟨q, rfl⟩ : ∃ q : Nat, most = (q : Int) := ⟨most.toNat, by omega⟩
    exact sbor_yes w a cp xs q hx h.1 (by omega) h.2.2.2
  · rw [bor_no h]
    exact sbor_no w a cp xs most hx hl h
end Go.Proofs.Ytbdffmfaebdgfaa.Bs
