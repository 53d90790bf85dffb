/-
  LeafOf and Eval of the program and of the model.
-/
import Derived.Test.YtkiddmbenepfjaaTrW
namespace Go.Proofs.Ytkiddmbenepfjaa.Tw
set_option linter.unusedVariables false
open Go.RowKit
open Go.Proofs.Ytkiddmbenepfjaa.Li (ret_bool ret_int below_none)
open Go.Proofs.Ytkiddmbenepfjaa.Tr Go.Proofs.Ytkiddmbenepfjaa.Tm Go.Proofs.Ytkiddmbenepfjaa.Bo Go.Proofs.Ytkiddmbenepfjaa.Bw

theorem or_fin : ∀ k : Fin 4, ∀ l : Fin 8, l.val < 2 ^ k.val → bits .or .i64 ((l.val : Nat) : Int) ((2 ^ k.val : Nat) : Int) = ((l.val + 2 ^ k.val : Nat) : Int) := by decide +kernel
theorem or_all (k l : Nat) (hk : k ≤ 3) (hl : l < 2 ^ k) : bits .or .i64 (l : Int) ((2 ^ k : Nat) : Int) = ((l + 2 ^ k : Nat) : Int) := by
  have h8 : 2 ^ k ≤ 2 ^ 3 := Nat.pow_le_pow_right (by decide) hk
  exact or_fin ⟨k, by omega⟩ ⟨l, by omega⟩ hl
theorem isl_pos {w : World} {a : Option Addr} {xs : List Int} {k : Nat} (h : Li.IsL w a xs) (hk : k < xs.length) : ∃ b off, a = some ⟨b, off, none⟩ ∧ b < w.heap.size ∧ ∀ j (hj : j < xs.length), w.cell? ⟨b, off + j, none⟩ = some (.int .i64 xs[j]) := by
  rcases h with h0 | h
  · rw [h0] at hk; simp at hk
  · exact h
set_option maxHeartbeats 2000000 in
theorem sleaf (w : World) (a a' ax : Option Addr) (c c' cx : Nat) (t : T) (x : List Int) (hp : IsP w a t.sp) (hx : Li.IsL w a' t.lv) (hy : Li.IsL w ax x) (hl : t.sp.length + t.lv.length ≤ 1048576) (hl' : x.length ≤ 1048576) :
    Calls Try.prog 94 #[.agg #[.slice a t.sp.length c, .slice a' t.lv.length c'], .slice ax x.length cx] w fun e w' => e = .returned (.int .i64 (leafOf t x)) ∧ Below w.heap.size w w' := by
  go_enter Try.func94, Try.ntmps94
  go_wp2_with fail
  obtain ⟨W, hW, hsz, hB, bx⟩ := boxes1 w (.slice a t.sp.length c) (.slice a' t.lv.length c') 65
  rw [hW]
  clear hW
  refine (stok _ _ _ _ _ t (hp.below hB) (hx.below hB) hl).mono ?_
  rintro e w1 ⟨rfl, hB1⟩
  have bx := bx.below hB1
  have hB := hB.trans (hB1.mono hB.size)
  clear hB1 hsz
  obtain ⟨hbl, ⟨cx0, cx1⟩, _⟩ := bx
  have hp := hp.below hB
  have hy := hy.below hB
  cases ht : tok t with
  | false =>
    have HR : Hid (leafOf t x = 0) := leafOf_no (askb_tok ht)
    go_wp2
    go_ret
    exact ⟨by rw [HR.out]; rfl, hB⟩
  | true =>
    by_cases h6 : x.length = 6
    · have h6' : ((x.length : Int) != 6) = false := by simp; omega
      have HR : Hid (leafOf t x = lf (yes t.sp x) t.sp.length) := leafOf_yes (askb_iff.2 ⟨ht, h6⟩)
      have H6 : Hid (x.length = 6) := h6
      have HT : Hid (tok t = true) := ht
      have h4 := (tok_iff.1 ht).1.1
      clear h6 ht
      go_wp2
      go_loopw [5, 6] (fun q i wr => ∃ k : Nat, k ≤ t.sp.length ∧ i = .int .i64 k ∧ q = .int .i64 (lf (yes t.sp x) k) ∧ ∃ n, wr = w1.drewN n) (fun _ i _ => t.sp.length - (intOf i).toNat)
      case atStart => exact ⟨0, Nat.zero_le _, rfl, rfl, 0, rfl⟩
      case round =>
        obtain ⟨k, hk, rfl, rfl, n, hw⟩ := hrel
        have HW : Hid (wr = w1.drewN n) := hw
        have hBr : Below w.heap.size w wr := by rw [hw]; exact hB.trans ((below_drewN' _ _).mono hB.size)
        have cx0 : wr.cell? ⟨w.heap.size, 0, none⟩ = some (.slice a t.sp.length c) := by rw [hw]; exact cx0
        have hbl : w.heap.size < wr.heap.size := by rw [hw]; exact hbl
        have hp : IsP wr a t.sp := by rw [hw]; exact hp.drewN n
        have hy : Li.IsL wr ax x := by rw [hw]; exact hy.drewN n
        clear hw
        by_cases hlt : k < t.sp.length
        · rcases hp with h0 | ⟨b, off, rfl, hb, hc⟩
          · rw [h0] at hlt; simp at hlt
          rcases hy with h0 | ⟨yb, yo, rfl, hyb, hyc⟩
          · have := H6.out; rw [h0] at this; simp at this
          obtain ⟨cy0, cy1⟩ := hc k hlt
          have hF := (spok_iff.1 (tok_sp HT.out k hlt)).1
          have hFl : t.sp[k].1.toNat < x.length := by have := H6.out; omega
          have hcz := hyc t.sp[k].1.toNat hFl
          have HY : Hid (yes t.sp x k = decide (t.sp[k].2 < x[t.sp[k].1.toNat])) := yes_at hlt hFl
          have hl1 := lf_lt (yes t.sp x) k
          have hpk : 2 ^ k ≤ 8 := Nat.pow_le_pow_right (n := 2) (j := 3) (by decide) (by omega)
          have hL8 : lf (yes t.sp x) k ≤ 8 := Nat.le_trans (Nat.le_of_lt hl1) hpk
          have hpw := pow_d k (by omega)
          have HLy : yes t.sp x k = true → Hid (lf (yes t.sp x) (k + 1) = lf (yes t.sp x) k + 2 ^ k) := fun h => lf_yes h
          have HLn : yes t.sp x k = false → Hid (lf (yes t.sp x) (k + 1) = lf (yes t.sp x) k) := fun h => lf_no h
          obtain ⟨p, hp2⟩ : ∃ p, 2 ^ k = p := ⟨_, rfl⟩
          rw [hp2] at hpw hl1 hpk
          have hpv : Value.int .i64 (wrap64 (2 ^ k)) = .int .i64 (p : Int) := by rw [hpw]
          clear hpw
          obtain ⟨L, hL⟩ : ∃ L, lf (yes t.sp x) k = L := ⟨_, rfl⟩
          rw [hL] at hl1 hL8 ⊢
          obtain ⟨v, hv⟩ : ∃ v, x[t.sp[k].1.toNat] = v := ⟨_, rfl⟩
          rw [hv] at hcz HY
          obtain ⟨f, hf⟩ : ∃ f, t.sp[k].1 = f := ⟨_, rfl⟩
          obtain ⟨g, hg⟩ : ∃ g, t.sp[k].2 = g := ⟨_, rfl⟩
          rw [hf] at cy0 hF hcz hFl
          rw [hg] at cy1 HY
          have hF0 : 0 ≤ f := hF.1
          have hF1 : f < (x.length : Int) := by omega
          have HL : Hid (lf (yes t.sp x) k = L ∧ 2 ^ k = p) := ⟨hL, hp2⟩
          clear hc hyc hv hf hg hF hFl hp2 hL
          by_cases hgt : g < v
          · have HN : Hid (lf (yes t.sp x) (k + 1) = L + p) := by
              have h1 := (HLy (by rw [HY.out]; simpa using hgt)).out
              rw [HL.out.1, HL.out.2] at h1; exact h1
            clear HLy HLn
            go_wp2
            go_quiet (fail)
            go_wp2
            go_roundw
            case rel => exact ⟨k + 1, by omega, by go_num, by rw [HN.out]; go_num, _, by rw [HW.out, World.drewN_drewN]⟩
            case measure => simp [intOf]; omega
          · have HN : Hid (lf (yes t.sp x) (k + 1) = L) := by
              have h1 := (HLn (by rw [HY.out]; simpa using hgt)).out
              rw [HL.out.1] at h1; exact h1
            clear HLy HLn
            go_wp2
            go_quiet (fail)
            go_wp2
            go_roundw
            case rel => exact ⟨k + 1, by omega, by go_num, by rw [HN.out], _, by rw [HW.out, World.drewN_drewN]⟩
            case measure => simp [intOf]; omega
        · obtain rfl : k = t.sp.length := by omega
          go_wp2
          go_ret
          exact ⟨by rw [HR.out]; rfl, hBr⟩
    · have h6' : ((x.length : Int) != 6) = true := by simp; omega
      have HR : Hid (leafOf t x = 0) := leafOf_no (askb_len h6)
      clear h6
      go_wp2
      go_ret
      exact ⟨by rw [HR.out]; rfl, hB⟩
set_option maxHeartbeats 2000000 in
theorem seval (w : World) (a a' ax : Option Addr) (c c' cx : Nat) (t : T) (x : List Int) (hp : IsP w a t.sp) (hx : Li.IsL w a' t.lv) (hy : Li.IsL w ax x) (hl : t.sp.length + t.lv.length ≤ 1048576) (hl' : x.length ≤ 1048576) :
    Calls Try.prog 79 #[.agg #[.slice a t.sp.length c, .slice a' t.lv.length c'], .slice ax x.length cx] w fun e w' => e = .returned (.int .i64 (eval t x)) ∧ Below w.heap.size w w' := by
  go_enter Try.func79, Try.ntmps79
  go_wp2_with fail
  obtain ⟨W, hW, hsz, hB, bx⟩ := boxes1 w (.slice a t.sp.length c) (.slice a' t.lv.length c') 65
  rw [hW]
  clear hW
  refine (stok _ _ _ _ _ t (hp.below hB) (hx.below hB) hl).mono ?_
  rintro e w1 ⟨rfl, hB1⟩
  have bx := bx.below hB1
  have hB := hB.trans (hB1.mono hB.size)
  clear hB1 hsz
  have bx' := bx
  obtain ⟨hbl, ⟨cx0, cx1⟩, _⟩ := bx
  have hp := hp.below hB
  have hx := hx.below hB
  have hy := hy.below hB
  cases ht : tok t with
  | false =>
    have HR : Hid (eval t x = 0) := eval_no (askb_tok ht)
    go_wp2
    go_ret
    exact ⟨by rw [HR.out]; rfl, hB⟩
  | true =>
    by_cases h6 : x.length = 6
    · have h6' : ((x.length : Int) != 6) = false := by simp; omega
      have hle := leaf_le t x ht
      have HR : Hid (eval t x = t.lv[leafOf t x]'hle) := by
        show _ = _
        have ha := askb_iff.2 ⟨ht, h6⟩
        rw [eval_at ha]
        congr 1
        exact (leafOf_yes ha).symm
      clear h6 ht
      go_wp2
      go_region_with (go_at_call 94; refine (sleaf _ _ _ _ _ _ _ t x (by exact hp) (by exact hx) (by exact hy) hl hl').mono ?_; rintro e w2 ⟨rfl, hB2⟩; have bx2 := Box2.below (by exact bx') hB2; obtain ⟨hbl2, ⟨cz0, cz1⟩, _⟩ := bx2; have hx2 := Li.IsL.below (by exact hx) hB2; obtain ⟨b2, off2, e2, hb2, hc2⟩ := isl_pos hx2 hle; subst e2; have hcl := hc2 _ hle; clear hc2)
      all_goals go_wp2
      all_goals go_ret
      all_goals exact ⟨by rw [HR.out]; rfl, by first | exact hB.trans (hB2.mono hB.size) | exact (hB.trans (hB2.mono hB.size)).drew | exact hB.drew.trans (hB2.mono hB.size) | exact (hB.drew.trans (hB2.mono hB.size)).drew⟩
    · have h6' : ((x.length : Int) != 6) = true := by simp; omega
      have HR : Hid (eval t x = 0) := eval_no (askb_len h6)
      clear h6
      go_wp2
      go_ret
      exact ⟨by rw [HR.out]; rfl, hB⟩
set_option maxHeartbeats 1000000 in
theorem isays (w : World) (f g v : Int) (ax : Option Addr) (cx : Nat) (x : List Int) (hy : Li.IsL w ax x) (h0 : 0 ≤ f) (h1 : f.toNat < x.length) (hl : x.length ≤ 1048576) (hv : x[f.toNat] = v) :
    Calls Try.prog 105 #[.agg #[.int .i64 f, .int .i64 g], .slice ax x.length cx] w fun e w' => e = .returned (.bool (decide (g < v))) ∧ Below w.heap.size w w' := by
  obtain ⟨b, off, rfl, hb, hc⟩ := isl_pos hy h1
  have hcz := hc _ h1
  rw [hv] at hcz
  have h1' : f < (x.length : Int) := by omega
  clear hc hv h1
  go_enter Try.func105, Try.ntmps105
  go_wp2
  try go_quiet (fail)
  try go_wp2
  go_ret
  exact ⟨rfl, by first | exact below_box | exact (Below.refl _ _).alloc (Nat.le_refl _) _⟩
set_option maxHeartbeats 1000000 in
theorem iask (w : World) (a a' ax : Option Addr) (c c' cx : Nat) (t : T) (x : List Int) (hp : IsP w a t.sp) (hx : Li.IsL w a' t.lv) (hl : t.sp.length + t.lv.length ≤ 1048576) (hl' : x.length ≤ 1048576) :
    Calls Try.prog 96 #[.agg #[.slice a t.sp.length c, .slice a' t.lv.length c'], .slice ax x.length cx] w fun e w' => e = .returned (.bool (askb t x)) ∧ Below w.heap.size w w' := by
  have hB0 : Below w.heap.size w (w.alloc (.cells #[.slice a t.sp.length c, .slice a' t.lv.length c'] 65)) := (Below.refl _ _).alloc (Nat.le_refl _) _
  go_enter Try.func96, Try.ntmps96
  go_wp2_with fail
  refine (itok _ _ _ _ _ t (hp.below hB0) (hx.below hB0) hl).mono ?_
  rintro e w1 ⟨rfl, hB1⟩
  have hB := hB0.trans (hB1.mono hB0.size)
  clear hB1
  cases ht : tok t with
  | false =>
    have HR : Hid (askb t x = false) := askb_tok ht
    go_wp2
    go_ret
    exact ⟨by rw [HR.out]; rfl, hB⟩
  | true =>
    by_cases h6 : x.length = 6
    · have h6' : ((x.length : Int) == 6) = true := by simp; omega
      have HR : Hid (askb t x = true) := askb_iff.2 ⟨ht, h6⟩
      clear h6
      go_wp2
      go_ret
      exact ⟨by rw [HR.out]; rfl, hB⟩
    · have h6' : ((x.length : Int) == 6) = false := by simp; omega
      have HR : Hid (askb t x = false) := askb_len h6
      clear h6
      go_wp2
      go_ret
      exact ⟨by rw [HR.out]; rfl, hB⟩
set_option maxHeartbeats 2000000 in
theorem ileaf (w : World) (a a' ax : Option Addr) (c c' cx : Nat) (t : T) (x : List Int) (hp : IsP w a t.sp) (hx : Li.IsL w a' t.lv) (hy : Li.IsL w ax x) (hl : t.sp.length + t.lv.length ≤ 1048576) (hl' : x.length ≤ 1048576) :
    Calls Try.prog 97 #[.agg #[.slice a t.sp.length c, .slice a' t.lv.length c'], .slice ax x.length cx] w fun e w' => e = .returned (.int .i64 (leafOf t x)) ∧ Below w.heap.size w w' := by
  go_enter Try.func97, Try.ntmps97
  go_wp2_with fail
  obtain ⟨W, hW, hsz, hB, bx⟩ := boxes1 w (.slice a t.sp.length c) (.slice a' t.lv.length c') 65
  rw [hW]
  clear hW
  refine (iask _ _ _ _ _ _ _ t x (hp.below hB) (hx.below hB) hl hl').mono ?_
  rintro e w1 ⟨rfl, hB1⟩
  have bx := bx.below hB1
  have hB := hB.trans (hB1.mono hB.size)
  clear hB1 hsz
  obtain ⟨hbl, ⟨cx0, cx1⟩, _⟩ := bx
  have hp := hp.below hB
  have hy := hy.below hB
  cases ht : askb t x with
  | false =>
    have HR : Hid (leafOf t x = 0) := leafOf_no ht
    go_wp2
    go_ret
    exact ⟨by rw [HR.out]; rfl, hB⟩
  | true =>
    have HR : Hid (leafOf t x = lf (yes t.sp x) t.sp.length) := leafOf_yes ht
    have H6 : Hid (x.length = 6) := (askb_iff.1 ht).2
    have HT : Hid (tok t = true) := (askb_iff.1 ht).1
    have h4 := (tok_iff.1 (askb_iff.1 ht).1).1.1
    clear ht
    go_wp2
    go_loopw [5, 15] (fun q i wr => ∃ k : Nat, k ≤ t.sp.length ∧ i = .int .i64 k ∧ q = .int .i64 (lf (yes t.sp x) k) ∧ Below w1.heap.size w1 wr) (fun _ i _ => t.sp.length - (intOf i).toNat)
    case atStart => exact ⟨0, Nat.zero_le _, rfl, rfl, Below.refl _ _⟩
    case round =>
      obtain ⟨k, hk, rfl, rfl, hBr⟩ := hrel
      have hBw := hB.trans (hBr.mono hB.size)
      by_cases hlt : k < t.sp.length
      · rcases hp.below hBr with h0 | ⟨b, off, rfl, hb, hc⟩
        · rw [h0] at hlt; simp at hlt
        obtain ⟨cy0, cy1⟩ := hc k hlt
        have hF := (spok_iff.1 (tok_sp HT.out k hlt)).1
        have hFl : t.sp[k].1.toNat < x.length := by have := H6.out; omega
        have HY : Hid (yes t.sp x k = decide (t.sp[k].2 < x[t.sp[k].1.toNat])) := yes_at hlt hFl
        have hl1 := lf_lt (yes t.sp x) k
        have hpk : 2 ^ k ≤ 8 := Nat.pow_le_pow_right (n := 2) (j := 3) (by decide) (by omega)
        have hL8 : lf (yes t.sp x) k ≤ 8 := Nat.le_trans (Nat.le_of_lt hl1) hpk
        have hpw := pow_d k (by omega)
        have hor := or_all k (lf (yes t.sp x) k) (by omega) hl1
        have HLy : yes t.sp x k = true → Hid (lf (yes t.sp x) (k + 1) = lf (yes t.sp x) k + 2 ^ k) := fun h => lf_yes h
        have HLn : yes t.sp x k = false → Hid (lf (yes t.sp x) (k + 1) = lf (yes t.sp x) k) := fun h => lf_no h
        obtain ⟨p, hp2⟩ : ∃ p, 2 ^ k = p := ⟨_, rfl⟩
        rw [hp2] at hpw hl1 hpk hor
        have hpv : Value.int .i64 (wrap64 (2 ^ k)) = .int .i64 (p : Int) := by rw [hpw]
        clear hpw
        obtain ⟨L, hL⟩ : ∃ L, lf (yes t.sp x) k = L := ⟨_, rfl⟩
        rw [hL] at hl1 hL8 hor ⊢
        have HL : Hid (lf (yes t.sp x) k = L ∧ 2 ^ k = p) := ⟨hL, hp2⟩
        obtain ⟨v, hv⟩ : ∃ v, x[t.sp[k].1.toNat] = v := ⟨_, rfl⟩
        have HV : Hid (x[t.sp[k].1.toNat] = v) := hv
        rw [hv] at HY
        have hs := hBr.size
        have HF : Hid ((0 ≤ t.sp[k].1 ∧ t.sp[k].1 ≤ 5) ∧ t.sp[k].1.toNat < x.length) := ⟨hF, hFl⟩
        clear hc hF hp2 hL hv
        go_wp2_with fail
        refine (isays _ _ _ v _ _ x (hy.below (hBr.alloc hs _)) HF.out.1.1 hFl hl' HV.out).mono ?_
        rintro e w2 ⟨rfl, hB2⟩
        have hBr := (hBr.alloc hs _).trans (hB2.mono (by simp; omega))
        clear hB2 cy0 cy1 hs
        by_cases hgt : t.sp[k].2 < v
        · have HN : Hid (lf (yes t.sp x) (k + 1) = L + p) := by
            have h1 := (HLy (by rw [HY.out]; simpa using hgt)).out
            rw [HL.out.1, HL.out.2] at h1; exact h1
          clear HLy HLn
          go_wp2
          go_roundw
          case rel => exact ⟨k + 1, by omega, by go_num, by rw [HN.out]; go_num, hBr⟩
          case measure => simp [intOf]; omega
        · have HN : Hid (lf (yes t.sp x) (k + 1) = L) := by
            have h1 := (HLn (by rw [HY.out]; simpa using hgt)).out
            rw [HL.out.1] at h1; exact h1
          clear HLy HLn
          go_wp2
          go_roundw
          case rel => exact ⟨k + 1, by omega, by go_num, by rw [HN.out], hBr⟩
          case measure => simp [intOf]; omega
      · obtain rfl : k = t.sp.length := by omega
        go_wp2
        go_ret
        exact ⟨by rw [HR.out]; rfl, hBw⟩
set_option maxHeartbeats 2000000 in
theorem ieval (w : World) (a a' ax : Option Addr) (c c' cx : Nat) (t : T) (x : List Int) (hp : IsP w a t.sp) (hx : Li.IsL w a' t.lv) (hy : Li.IsL w ax x) (hl : t.sp.length + t.lv.length ≤ 1048576) (hl' : x.length ≤ 1048576) :
    Calls Try.prog 81 #[.agg #[.slice a t.sp.length c, .slice a' t.lv.length c'], .slice ax x.length cx] w fun e w' => e = .returned (.int .i64 (eval t x)) ∧ Below w.heap.size w w' := by
  go_enter Try.func81, Try.ntmps81
  go_wp2_with fail
  obtain ⟨W, hW, hsz, hB, bx⟩ := boxes1 w (.slice a t.sp.length c) (.slice a' t.lv.length c') 65
  rw [hW]
  clear hW
  refine (iask _ _ _ _ _ _ _ t x (hp.below hB) (hx.below hB) hl hl').mono ?_
  rintro e w1 ⟨rfl, hB1⟩
  have bx := bx.below hB1
  have hB := hB.trans (hB1.mono hB.size)
  clear hB1 hsz
  have bx' := bx
  obtain ⟨hbl, ⟨cx0, cx1⟩, _⟩ := bx
  have hp := hp.below hB
  have hx := hx.below hB
  have hy := hy.below hB
  cases ha : askb t x with
  | false =>
    have HR : Hid (eval t x = 0) := eval_no ha
    go_wp2
    go_ret
    exact ⟨by rw [HR.out]; rfl, hB⟩
  | true =>
    have hle := leaf_le t x (askb_iff.1 ha).1
    have HR : Hid (eval t x = t.lv[leafOf t x]'hle) := by
      show _ = _
      rw [eval_at ha]
      congr 1
      exact (leafOf_yes ha).symm
    clear ha
    go_wp2
    go_region_with (go_at_call 97; refine (ileaf _ _ _ _ _ _ _ t x (by exact hp) (by exact hx) (by exact hy) hl hl').mono ?_; rintro e w2 ⟨rfl, hB2⟩; have bx2 := Box2.below (by exact bx') hB2; obtain ⟨hbl2, ⟨cz0, cz1⟩, _⟩ := bx2; have hx2 := Li.IsL.below (by exact hx) hB2; obtain ⟨b2, off2, e2, hb2, hc2⟩ := isl_pos hx2 hle; subst e2; have hcl := hc2 _ hle; clear hc2)
    all_goals go_wp2
    all_goals go_ret
    all_goals exact ⟨by rw [HR.out]; rfl, by first | exact hB.trans (hB2.mono hB.size) | exact (hB.trans (hB2.mono hB.size)).drew | exact hB.drew.trans (hB2.mono hB.size) | exact (hB.drew.trans (hB2.mono hB.size)).drew⟩
end Go.Proofs.Ytkiddmbenepfjaa.Tw
