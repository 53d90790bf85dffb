/-
  LeafOf and Eval of the program and of the model.
-/
import Derived.Test.YtmfippeclkmhnaaTrW
namespace Go.Proofs.Ytmfippeclkmhnaa.Tw
set_option linter.unusedVariables false
open Go.RowKit
open Go.Proofs.Ytmfippeclkmhnaa.Li (ret_bool ret_int below_none)
open Go.Proofs.Ytmfippeclkmhnaa.Tr Go.Proofs.Ytmfippeclkmhnaa.Tm Go.Proofs.Ytmfippeclkmhnaa.Bo Go.Proofs.Ytmfippeclkmhnaa.Bw

theorem or_fin : ∀ k : Fin 4, ∀ l : Fin 8, l.val < 2 ^ k.val → bits .or .i64 ((l.val : Nat) : Int) ((2 ^ k.val : Nat) : Int) = ((l.val + 2 ^ k.val : Nat) : Int) := by decide +kernel
theorem or_all (k l : Nat) (hk : k ≤ 3) (hl : l < 2 ^ k) : bits .or .i64 (l : Int) ((2 ^ k : Nat) : Int) = ((l + 2 ^ k : Nat) : Int) := by
  have h8 : 2 ^ k ≤ 2 ^ 3 := Nat.pow_le_pow_right (by decide) hk
  exact or_fin ⟨k, by omega⟩ ⟨l, by omega⟩ hl
theorem isl_pos {w : World} {a : Option Addr} {xs : List Int} {k : Nat} (h : Li.IsL w a xs) (hk : k < xs.length) : ∃ b off, a = some ⟨b, off, none⟩ ∧ b < w.heap.size ∧ ∀ j (hj : j < xs.length), w.cell? ⟨b, off + j, none⟩ = some (.int .i64 xs[j]) := by
  rcases h with h0 | h
  · rw [h0] at hk; simp at hk
  · exact h
set_option maxHeartbeats 1000000 in
theorem isays (w : World) (f g v : Int) (ax : Option Addr) (cx : Nat) (x : List Int) (hy : Li.IsL w ax x) (h0 : 0 ≤ f) (h1 : f.toNat < x.length) (hl : x.length ≤ 1048576) (hv : x[f.toNat] = v) :
    Calls Try.prog 41 #[.agg #[.int .i64 f, .int .i64 g], .slice ax x.length cx] w fun e w' => e = .returned (.bool (decide (g < v))) ∧ Below w.heap.size w w' := by
  obtain ⟨b, off, rfl, hb, hc⟩ := isl_pos hy h1
  have hcz := hc _ h1
  rw [hv] at hcz
  have h1' : f < (x.length : Int) := by omega
  clear hc hv h1
  go_enter Try.func41, Try.ntmps41
  go_wp2
  try go_quiet (fail)
  try go_wp2
  go_ret
  exact ⟨rfl, by first | exact below_box | exact (Below.refl _ _).alloc (Nat.le_refl _) _⟩
set_option maxHeartbeats 1000000 in
theorem iask (w : World) (a a' ax : Option Addr) (c c' cx : Nat) (t : T) (x : List Int) (hp : IsP w a t.sp) (hx : Li.IsL w a' t.lv) (hl : t.sp.length + t.lv.length ≤ 1048576) (hl' : x.length ≤ 1048576) :
    Calls Try.prog 40 #[.agg #[.slice a t.sp.length c, .slice a' t.lv.length c'], .slice ax x.length cx] w fun e w' => e = .returned (.bool (askb t x)) ∧ Below w.heap.size w w' := by
  have hB0 : Below w.heap.size w (w.alloc (.cells #[.slice a t.sp.length c, .slice a' t.lv.length c'] 42)) := (Below.refl _ _).alloc (Nat.le_refl _) _
  go_enter Try.func40, Try.ntmps40
  go_wp2_with fail
  refine (itok _ _ _ _ _ t (hp.below hB0) (hx.below hB0) hl).mono ?_
  rintro e w1 ⟨rfl, hB1⟩
  have hB := hB0.trans (hB1.mono hB0.size)
  clear hB1
  cases ht : tok t with
  | false =>
    have HR : Hid (askb t x = false) := askb_tok ht
    go_wp2
    go_ret
    exact ⟨by rw [HR.out]; rfl, hB⟩
  | true =>
    by_cases h6 : x.length = 6
    · have h6' : ((x.length : Int) == 6) = true := by simp; omega
      have HR : Hid (askb t x = true) := askb_iff.2 ⟨ht, h6⟩
      clear h6
      go_wp2
      go_ret
      exact ⟨by rw [HR.out]; rfl, hB⟩
    · have h6' : ((x.length : Int) == 6) = false := by simp; omega
      have HR : Hid (askb t x = false) := askb_len h6
      clear h6
      go_wp2
      go_ret
      exact ⟨by rw [HR.out]; rfl, hB⟩
set_option maxHeartbeats 2000000 in
theorem ileaf (w : World) (a a' ax : Option Addr) (c c' cx : Nat) (t : T) (x : List Int) (hp : IsP w a t.sp) (hx : Li.IsL w a' t.lv) (hy : Li.IsL w ax x) (hl : t.sp.length + t.lv.length ≤ 1048576) (hl' : x.length ≤ 1048576) :
    Calls Try.prog 18 #[.agg #[.slice a t.sp.length c, .slice a' t.lv.length c'], .slice ax x.length cx] w fun e w' => e = .returned (.int .i64 (leafOf t x)) ∧ Below w.heap.size w w' := by
  go_enter Try.func18, Try.ntmps18
  go_wp2_with fail
  obtain ⟨W, hW, hsz, hB, bx⟩ := boxes1 w (.slice a t.sp.length c) (.slice a' t.lv.length c') 42
  rw [hW]
  clear hW
  refine (iask _ _ _ _ _ _ _ t x (hp.below hB) (hx.below hB) hl hl').mono ?_
  rintro e w1 ⟨rfl, hB1⟩
  have bx := bx.below hB1
  have hB := hB.trans (hB1.mono hB.size)
  clear hB1 hsz
  obtain ⟨hbl, ⟨cx0, cx1⟩, _⟩ := bx
  have hp := hp.below hB
  have hy := hy.below hB
  cases ht : askb t x with
  | false =>
    have HR : Hid (leafOf t x = 0) := leafOf_no ht
    go_wp2
    go_ret
    exact ⟨by rw [HR.out]; rfl, hB⟩
  | true =>
    have HR : Hid (leafOf t x = lf (yes t.sp x) t.sp.length) := leafOf_yes ht
    have H6 : Hid (x.length = 6) := (askb_iff.1 ht).2
    have HT : Hid (tok t = true) := (askb_iff.1 ht).1
    have h4 := (tok_iff.1 (askb_iff.1 ht).1).1.1
    clear ht
    go_wp2
    go_loopw [5, 15] (fun q i wr => ∃ k : Nat, k ≤ t.sp.length ∧ i = .int .i64 k ∧ q = .int .i64 (lf (yes t.sp x) k) ∧ Below w1.heap.size w1 wr) (fun _ i _ => t.sp.length - (intOf i).toNat)
    case atStart => exact ⟨0, Nat.zero_le _, rfl, rfl, Below.refl _ _⟩
    case round =>
      obtain ⟨k, hk, rfl, rfl, hBr⟩ := hrel
      have hBw := hB.trans (hBr.mono hB.size)
      by_cases hlt : k < t.sp.length
      · rcases hp.below hBr with h0 | ⟨b, off, rfl, hb, hc⟩
        · rw [h0] at hlt; simp at hlt
        obtain ⟨cy0, cy1⟩ := hc k hlt
        have hF := (spok_iff.1 (tok_sp HT.out k hlt)).1
        have hFl : t.sp[k].1.toNat < x.length := by have := H6.out; omega
        have HY : Hid (yes t.sp x k = decide (t.sp[k].2 < x[t.sp[k].1.toNat])) := yes_at hlt hFl
        have hl1 := lf_lt (yes t.sp x) k
        have hpk : 2 ^ k ≤ 8 := Nat.pow_le_pow_right (n := 2) (j := 3) (by decide) (by omega)
        have hL8 : lf (yes t.sp x) k ≤ 8 := Nat.le_trans (Nat.le_of_lt hl1) hpk
        have hpw := pow_d k (by omega)
        have hor := or_all k (lf (yes t.sp x) k) (by omega) hl1
        have HLy : yes t.sp x k = true → Hid (lf (yes t.sp x) (k + 1) = lf (yes t.sp x) k + 2 ^ k) := fun h => lf_yes h
        have HLn : yes t.sp x k = false → Hid (lf (yes t.sp x) (k + 1) = lf (yes t.sp x) k) := fun h => lf_no h
        obtain ⟨p, hp2⟩ : ∃ p, 2 ^ k = p := ⟨_, rfl⟩
        rw [hp2] at hpw hl1 hpk hor
        have hpv : Value.int .i64 (wrap64 (2 ^ k)) = .int .i64 (p : Int) := by rw [hpw]
        clear hpw
        obtain ⟨L, hL⟩ : ∃ L, lf (yes t.sp x) k = L := ⟨_, rfl⟩
        rw [hL] at hl1 hL8 hor ⊢
        have HL : Hid (lf (yes t.sp x) k = L ∧ 2 ^ k = p) := ⟨hL, hp2⟩
        obtain ⟨v, hv⟩ : ∃ v, x[t.sp[k].1.toNat] = v := ⟨_, rfl⟩
        have HV : Hid (x[t.sp[k].1.toNat] = v) := hv
        rw [hv] at HY
        have hs := hBr.size
        have HF : Hid ((0 ≤ t.sp[k].1 ∧ t.sp[k].1 ≤ 5) ∧ t.sp[k].1.toNat < x.length) := ⟨hF, hFl⟩
        clear hc hF hp2 hL hv
        go_wp2_with fail
        refine (isays _ _ _ v _ _ x (hy.below (hBr.alloc hs _)) HF.out.1.1 hFl hl' HV.out).mono ?_
        rintro e w2 ⟨rfl, hB2⟩
        have hBr := (hBr.alloc hs _).trans (hB2.mono (by simp; omega))
        clear hB2 cy0 cy1 hs
        by_cases hgt : t.sp[k].2 < v
        · have HN : Hid (lf (yes t.sp x) (k + 1) = L + p) := by
            have h1 := (HLy (by rw [HY.out]; simpa using hgt)).out
            rw [HL.out.1, HL.out.2] at h1; exact h1
          clear HLy HLn
          go_wp2
          go_roundw
          case rel => exact ⟨k + 1, by omega, by go_num, by rw [HN.out]; go_num, hBr⟩
          case measure => simp [intOf]; omega
        · have HN : Hid (lf (yes t.sp x) (k + 1) = L) := by
            have h1 := (HLn (by rw [HY.out]; simpa using hgt)).out
            rw [HL.out.1] at h1; exact h1
          clear HLy HLn
          go_wp2
          go_roundw
          case rel => exact ⟨k + 1, by omega, by go_num, by rw [HN.out], hBr⟩
          case measure => simp [intOf]; omega
      · obtain rfl : k = t.sp.length := by omega
        go_wp2
        go_ret
        exact ⟨by rw [HR.out]; rfl, hBw⟩
end Go.Proofs.Ytmfippeclkmhnaa.Tw
