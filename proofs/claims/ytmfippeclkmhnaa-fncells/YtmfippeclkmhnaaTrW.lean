/-
  TreeOk, LeafOf, Eval of the program and of the model.
-/
import Derived.Test.YtmfippeclkmhnaaTrT
import Derived.Test.YtmfippeclkmhnaaBinW
namespace Go.Proofs.Ytmfippeclkmhnaa.Tw
open Go.RowKit
open Go.Proofs.Ytmfippeclkmhnaa.Li (ret_bool ret_int below_none)
open Go.Proofs.Ytmfippeclkmhnaa.Tr Go.Proofs.Ytmfippeclkmhnaa.Tm Go.Proofs.Ytmfippeclkmhnaa.Bo Go.Proofs.Ytmfippeclkmhnaa.Bw

theorem pow_d (d : Nat) (hd : d ≤ 5) : wrap64 (2 ^ d) = ((2 ^ d : Nat) : Int) := by
  match d, hd with
  | 0, _ => decide +kernel
  | 1, _ => decide +kernel
  | 2, _ => decide +kernel
  | 3, _ => decide +kernel
  | 4, _ => decide +kernel
  | 5, _ => decide +kernel
theorem below_box {w : World} {o : Obj} {n : Nat} : Below w.heap.size w ((w.alloc o).drewN n) := by
  have h := (Below.refl w.heap.size w).alloc (Nat.le_refl _) o
  exact h.trans ((Tm.below_drewN' _ n).mono h.size)
theorem btw5 (x : Int) (y : Int) : spok (x, y) = (Li.btw x 0 5 && fok y) := by simp [spok, Li.btw]
set_option maxHeartbeats 1000000 in
theorem stok (w : World) (a a' : Option Addr) (c c' : Nat) (t : T) (hp : IsP w a t.sp) (hx : Li.IsL w a' t.lv) (hl : t.sp.length + t.lv.length ≤ 1048576) :
    Calls Try.prog 17 #[.agg #[.slice a t.sp.length c, .slice a' t.lv.length c']] w fun e w' => e = .returned (.bool (tok t)) ∧ Below w.heap.size w w' := by
  by_cases h4 : 4 < t.sp.length
  · have hd : decide (4 < (t.sp.length : Int)) = true := by simp; omega
    rw [tok_long h4]
    go_enter Try.func17, Try.ntmps17
    go_wp2
    go_quiet (fail)
    go_wp2
    go_ret
    exact ⟨rfl, below_box⟩
  have hd : decide (4 < (t.sp.length : Int)) = false := by simp; omega
  have hpw := pow_d t.sp.length (by omega)
  by_cases h2 : t.lv.length = 2 ^ t.sp.length
  · have hne : ((t.lv.length : Int) != wrap64 (2 ^ t.sp.length)) = false := by rw [hpw, h2]; simp
    have H2 : Hid (t.lv.length = 2 ^ t.sp.length) := h2
    clear hpw h2
    go_enter Try.func17, Try.ntmps17
    go_wp2
    go_quiet (fail)
    go_wp2
    have hB0 : Below w.heap.size w ((w.alloc (.cells #[.slice a t.sp.length c, .slice a' t.lv.length c'] 42)).drewN nq) := below_box
    have bx : Box2 ((w.alloc (.cells #[.slice a t.sp.length c, .slice a' t.lv.length c'] 42)).drewN nq) w.heap.size _ _ := (box2_new w (.slice a t.sp.length c) (.slice a' t.lv.length c') 42).drewN nq
    have hp := hp.below hB0
    have hx := hx.below hB0
    obtain ⟨W, hW⟩ : ∃ W, (w.alloc (.cells #[.slice a t.sp.length c, .slice a' t.lv.length c'] 42)).drewN nq = W := ⟨_, rfl⟩
    rw [hW] at hB0 bx hp hx ⊢
    obtain ⟨hbl, ⟨cx0, cx1⟩, _⟩ := bx
    clear hW
    go_loop [3] (fun i => ∃ k : Nat, k ≤ t.sp.length ∧ i = .int .i64 k ∧ ∀ j (hj : j < t.sp.length), j < k → spok t.sp[j] = true) (fun i => t.sp.length - (intOf i).toNat)
    case atStart => exact ⟨0, Nat.zero_le _, rfl, fun j hj h => by omega⟩
    case round =>
      obtain ⟨k, hk, rfl, hn⟩ := hrel
      have HN : Hid (∀ j (hj : j < t.sp.length), j < k → spok t.sp[j] = true) := hn
      clear hn
      by_cases hlt : k < t.sp.length
      · rcases hp with h0 | ⟨b, off, rfl, hb, hc⟩
        · rw [h0] at hlt; simp at hlt
        obtain ⟨cy0, cy1⟩ := hc k hlt
        clear hc
        have hbt := btw5 t.sp[k].1 t.sp[k].2
        cases hv1 : Li.btw t.sp[k].1 0 5 with
        | false =>
          have HR : Hid (tok t = false) := tok_bad hlt (by rw [hv1] at hbt; exact hbt)
          clear hbt
          go_wp2_with (go_at_call 24; refine (Li.between_any _ _ _ _).mono ?_; rintro e w' ⟨rfl, hw⟩; subst w'; rw [hv1])
          go_ret
          exact ⟨ret_bool HR.out.symm, hB0⟩
        | true =>
          cases hv2 : fok t.sp[k].2 with
          | false =>
            have HR : Hid (tok t = false) := tok_bad hlt (by rw [hv1, hv2] at hbt; exact hbt)
            clear hbt
            go_wp2_with (first | (go_at_call 24; refine (Li.between_any _ _ _ _).mono ?_; rintro e w' ⟨rfl, hw⟩; subst w'; rw [hv1]) | (go_at_call 39; refine (sok _ _).mono ?_; rintro e w' ⟨rfl, hw⟩; subst w'; rw [hv2]))
            go_ret
            exact ⟨ret_bool HR.out.symm, hB0⟩
          | true =>
            have HR : Hid (∀ j (hj : j < t.sp.length), j < k + 1 → spok t.sp[j] = true) := fun j hj h => by
              by_cases e : j = k
              · subst e; rw [hv1, hv2] at hbt; exact hbt
              · exact HN.out j hj (by omega)
            clear hbt
            go_wp2_with (first | (go_at_call 24; refine (Li.between_any _ _ _ _).mono ?_; rintro e w' ⟨rfl, hw⟩; subst w'; rw [hv1]) | (go_at_call 39; refine (sok _ _).mono ?_; rintro e w' ⟨rfl, hw⟩; subst w'; rw [hv2]))
            go_round
            case rel => exact ⟨k + 1, by omega, by go_num, HR.out⟩
            case measure => simp [intOf]; omega
      · have HS : Hid (∀ j (hj : j < t.sp.length), spok t.sp[j] = true) := fun j hj => HN.out j hj (by omega)
        clear HN
        go_wp2
        go_loop [4] (fun i => ∃ k : Nat, k ≤ t.lv.length ∧ i = .int .i64 k ∧ ∀ j (hj : j < t.lv.length), j < k → fok t.lv[j] = true) (fun i => t.lv.length - (intOf i).toNat)
        case atStart => exact ⟨0, Nat.zero_le _, rfl, fun j hj h => by omega⟩
        case round =>
          obtain ⟨k, hk, rfl, hn⟩ := hrel
          have HN : Hid (∀ j (hj : j < t.lv.length), j < k → fok t.lv[j] = true) := hn
          clear hn
          by_cases hlt : k < t.lv.length
          · rcases hx with h0 | ⟨b, off, rfl, hb, hc⟩
            · rw [h0] at hlt; simp at hlt
            have hcx := hc k hlt
            clear hc
            cases hv : fok t.lv[k] with
            | false =>
              have HR : Hid (tok t = false) := tok_leaf (aok_no hlt hv)
              go_wp2_with (go_at_call 39; refine (sok _ _).mono ?_; rintro e w' ⟨rfl, hw⟩; subst w'; rw [hv])
              go_ret
              exact ⟨ret_bool HR.out.symm, hB0⟩
            | true =>
              have HR : Hid (∀ j (hj : j < t.lv.length), j < k + 1 → fok t.lv[j] = true) := fun j hj h => by
                by_cases e : j = k
                · subst e; exact hv
                · exact HN.out j hj (by omega)
              go_wp2_with (go_at_call 39; refine (sok _ _).mono ?_; rintro e w' ⟨rfl, hw⟩; subst w'; rw [hv])
              go_round
              case rel => exact ⟨k + 1, by omega, by go_num, HR.out⟩
              case measure => simp [intOf]; omega
          · have HR : Hid (tok t = true) := tok_all (by omega) H2.out HS.out (aok_to (fun j hj => HN.out j hj (by omega)))
            go_wp2
            go_ret
            exact ⟨ret_bool HR.out.symm, hB0⟩
  · have hne : ((t.lv.length : Int) != wrap64 (2 ^ t.sp.length)) = true := by rw [hpw]; exact bne_iff_ne.2 (fun e => h2 (Int.ofNat_inj.1 e))
    rw [tok_leaves h2]
    clear hpw h2
    go_enter Try.func17, Try.ntmps17
    go_wp2
    go_quiet (fail)
    go_wp2
    go_ret
    exact ⟨rfl, below_box⟩
set_option maxHeartbeats 400000 in
theorem ifeat (x : Int) (w : World) : Calls Try.prog 47 #[.int .i64 x] w fun e w' => e = .returned (.bool (Li.btw x 0 5)) ∧ w' = w := by
  go_enter Try.func47, Try.ntmps47
  go_wp2
  all_goals go_ret
  all_goals refine ⟨ret_bool ?_, rfl⟩
  all_goals unfold Li.btw
  all_goals simp
  all_goals first | omega | (rw [Bool.eq_iff_iff]; simp; omega)
set_option maxHeartbeats 400000 in
theorem isplit (x y : Int) (w : World) : Calls Try.prog 53 #[.agg #[.int .i64 x, .int .i64 y]] w fun e w' => e = .returned (.bool (spok (x, y))) ∧ Below w.heap.size w w' := by
  rw [btw5]
  cases h1 : Li.btw x 0 5 with
  | false =>
    go_enter Try.func53, Try.ntmps53
    go_wp2_with (first | (go_at_call 47; refine (ifeat _ _).mono ?_; rintro e w' ⟨rfl, hw⟩; subst w'; rw [h1]) | (go_at_call 56; refine (iok _ _).mono ?_; rintro e w' ⟨rfl, hw⟩; subst w'))
    go_ret
    exact ⟨rfl, (Below.refl _ _).alloc (Nat.le_refl _) _⟩
  | true =>
    go_enter Try.func53, Try.ntmps53
    go_wp2_with (first | (go_at_call 47; refine (ifeat _ _).mono ?_; rintro e w' ⟨rfl, hw⟩; subst w'; rw [h1]) | (go_at_call 56; refine (iok _ _).mono ?_; rintro e w' ⟨rfl, hw⟩; subst w'))
    go_ret
    exact ⟨rfl, (Below.refl _ _).alloc (Nat.le_refl _) _⟩
set_option maxHeartbeats 1000000 in
theorem itok (w : World) (a a' : Option Addr) (c c' : Nat) (t : T) (hp : IsP w a t.sp) (hx : Li.IsL w a' t.lv) (hl : t.sp.length + t.lv.length ≤ 1048576) :
    Calls Try.prog 35 #[.agg #[.slice a t.sp.length c, .slice a' t.lv.length c']] w fun e w' => e = .returned (.bool (tok t)) ∧ Below w.heap.size w w' := by
  by_cases h4 : 4 < t.sp.length
  · have hd : decide (4 < (t.sp.length : Int)) = true := by simp; omega
    rw [tok_long h4]
    go_enter Try.func35, Try.ntmps35
    go_wp2
    go_quiet (fail)
    go_wp2
    go_ret
    exact ⟨rfl, below_box⟩
  have hd : decide (4 < (t.sp.length : Int)) = false := by simp; omega
  have hpw := pow_d t.sp.length (by omega)
  by_cases h2 : t.lv.length = 2 ^ t.sp.length
  · have hne : ((t.lv.length : Int) != wrap64 (2 ^ t.sp.length)) = false := by rw [hpw, h2]; simp
    have H2 : Hid (t.lv.length = 2 ^ t.sp.length) := h2
    clear hpw h2
    go_enter Try.func35, Try.ntmps35
    go_wp2
    go_quiet (fail)
    go_wp2
    have hB0 : Below w.heap.size w ((w.alloc (.cells #[.slice a t.sp.length c, .slice a' t.lv.length c'] 42)).drewN nq) := below_box
    have bx : Box2 ((w.alloc (.cells #[.slice a t.sp.length c, .slice a' t.lv.length c'] 42)).drewN nq) w.heap.size _ _ := (box2_new w (.slice a t.sp.length c) (.slice a' t.lv.length c') 42).drewN nq
    have hp := hp.below hB0
    have hx := hx.below hB0
    obtain ⟨W, hW⟩ : ∃ W, (w.alloc (.cells #[.slice a t.sp.length c, .slice a' t.lv.length c'] 42)).drewN nq = W := ⟨_, rfl⟩
    rw [hW] at hB0 bx hp hx ⊢
    clear hW
    go_loopw [22] (fun i wr => ∃ k : Nat, k ≤ t.sp.length ∧ i = .int .i64 k ∧ (∀ j (hj : j < t.sp.length), j < k → spok t.sp[j] = true) ∧ Below W.heap.size W wr) (fun i _ => t.sp.length - (intOf i).toNat)
    case atStart => exact ⟨0, Nat.zero_le _, rfl, fun j hj h => by omega, Below.refl _ _⟩
    case round =>
      obtain ⟨k, hk, rfl, hn, hB⟩ := hrel
      have HN : Hid (∀ j (hj : j < t.sp.length), j < k → spok t.sp[j] = true) := hn
      clear hn
      have hbw := hB0.trans (hB.mono hB0.size)
      by_cases hlt : k < t.sp.length
      · rcases hp.below hB with h0 | ⟨b, off, rfl, hb, hc⟩
        · rw [h0] at hlt; simp at hlt
        obtain ⟨cy0, cy1⟩ := hc k hlt
        clear hc
        have hs := hbw.size
        have hs' := hB.size
        go_wp2_with fail
        refine (isplit _ _ _).mono ?_
        rintro e w2 ⟨rfl, hB2⟩
        have hB2 : Below W.heap.size W w2 := (hB.alloc hB.size _).trans (hB2.mono (by simp; omega))
        have hbw := hB0.trans (hB2.mono hB0.size)
        cases hv : spok t.sp[k] with
        | false =>
          have HR : Hid (tok t = false) := tok_bad hlt hv
          go_wp2
          go_ret
          exact ⟨ret_bool HR.out.symm, hbw⟩
        | true =>
          have HR : Hid (∀ j (hj : j < t.sp.length), j < k + 1 → spok t.sp[j] = true) := fun j hj h => by
            by_cases e : j = k
            · subst e; exact hv
            · exact HN.out j hj (by omega)
          go_wp2
          go_roundw
          case rel => exact ⟨k + 1, by omega, by go_num, HR.out, hB2⟩
          case measure => simp [intOf]; omega
      · have HS : Hid (∀ j (hj : j < t.sp.length), spok t.sp[j] = true) := fun j hj => HN.out j hj (by omega)
        obtain ⟨hbl, ⟨cx0, cx1⟩, _⟩ := bx.below hB
        clear HN
        go_wp2_with fail
        refine (iall _ _ _ t.lv (hx.below hB) (by omega)).mono ?_
        rintro e w2 ⟨rfl, hw⟩
        subst w2
        have HR : Hid (tok t = aok t.lv) := by
          show _ = _
          cases e : aok t.lv with
          | false => exact tok_leaf e
          | true => exact tok_all (by omega) H2.out HS.out e
        go_wp2
        go_ret
        exact ⟨ret_bool HR.out.symm, hbw⟩
  · have hne : ((t.lv.length : Int) != wrap64 (2 ^ t.sp.length)) = true := by rw [hpw]; exact bne_iff_ne.2 (fun e => h2 (Int.ofNat_inj.1 e))
    rw [tok_leaves h2]
    clear hpw h2
    go_enter Try.func35, Try.ntmps35
    go_wp2
    go_quiet (fail)
    go_wp2
    go_ret
    exact ⟨rfl, below_box⟩
end Go.Proofs.Ytmfippeclkmhnaa.Tw
