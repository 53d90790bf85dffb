/-
  Sum of the program and of the model: what trees say, one behind the other.
-/
import Derived.Test.YtkiddmbenepfjaaTrE
import Derived.Test.YtkiddmbenepfjaaTrS
import Derived.Test.YtkiddmbenepfjaaAdd
namespace Go.Proofs.Ytkiddmbenepfjaa.Sw
open Go.RowKit
open Go.Proofs.Ytkiddmbenepfjaa.Li (ret_bool ret_int below_none)
open Go.Proofs.Ytkiddmbenepfjaa.Tr Go.Proofs.Ytkiddmbenepfjaa.Tm Go.Proofs.Ytkiddmbenepfjaa.Ad
set_option linter.unusedVariables false

def fd (x : List Int) (z : Int) (ts : List T) : Int := ts.foldl (fun s t => fadd s (eval t x)) z
theorem fd_take {x : List Int} {z : Int} {ts : List T} {k : Nat} (h : k < ts.length) : fd x z (ts.take (k + 1)) = fadd (fd x z (ts.take k)) (eval ts[k] x) := by
  unfold fd
  rw [List.take_succ_eq_append_getElem h, List.foldl_append]
  rfl
def allok (ts : List T) : Bool := ts.all tok
theorem allok_no {ts : List T} {k : Nat} (hk : k < ts.length) (h : tok ts[k] = false) : allok ts = false := by
  cases e : allok ts with
  | false => rfl
  | true =>
    unfold allok at e
    rw [List.all_eq_true] at e
    rw [e _ (List.getElem_mem hk)] at h
    cases h
theorem allok_all {ts : List T} (h : ∀ j (hj : j < ts.length), tok ts[j] = true) : allok ts = true := by
  unfold allok
  rw [List.all_eq_true]
  intro t ht
  obtain ⟨j, hj, rfl⟩ := List.getElem_of_mem ht
  exact h j hj
def sm (ts : List T) (x : List Int) (base : Int) : Int := if allok ts then fd x (clip base) ts else 0
theorem sm_no {ts : List T} {x : List Int} {base : Int} (h : allok ts = false) : sm ts x base = 0 := by simp [sm, h]
theorem sm_yes {ts : List T} {x : List Int} {base : Int} (h : allok ts = true) : sm ts x base = fd x (clip base) ts := by simp [sm, h]
theorem fd_bd (x : List Int) (base : Int) (ts : List T) : -1000000000 ≤ fd x (clip base) ts ∧ fd x (clip base) ts ≤ 1000000000 := by
  unfold fd
  have : ∀ (us : List T) z, (-1000000000 ≤ z ∧ z ≤ 1000000000) → -1000000000 ≤ us.foldl (fun s t => fadd s (eval t x)) z ∧ us.foldl (fun s t => fadd s (eval t x)) z ≤ 1000000000 := by
    intro us
    induction us with
    | nil => intro z h; exact h
    | cons u us ih => intro z _; exact ih _ (fadd_bd _ _)
  exact this ts _ (clip_bd _)
/-- What trees say is said one behind the other. -/
theorem sm_append {ts us : List T} {x : List Int} {base : Int} (h : allok ts = true) (h' : allok us = true) : sm (ts ++ us) x base = sm us x (sm ts x base) := by
  have ha : allok (ts ++ us) = true := by unfold allok at *; rw [List.all_append, h, h']; rfl
  rw [sm_yes ha, sm_yes h', sm_yes h]
  have hb := fd_bd x base ts
  rw [clip_id _ hb.1 hb.2]
  unfold fd
  rw [List.foldl_append]
set_option maxHeartbeats 2000000 in
theorem ssum (w : World) (a ax : Option Addr) (c cx : Nat) (ts : List T) (x : List Int) (base : Int) (ht : IsT w a ts) (hy : Li.IsL w ax x) (hl : ts.length + szT ts ≤ 1048576) (hl' : x.length ≤ 1048576) :
    Calls Try.prog 60 #[.slice a ts.length c, .slice ax x.length cx, .int .i64 base] w fun e w' => e = .returned (.int .i64 (sm ts x base)) ∧ Below w.heap.size w w' := by
  go_enter Try.func60, Try.ntmps60
  go_wp2_with (go_at_call 50; refine (clip_any _ _).mono ?_; rintro e w' ⟨rfl, hw⟩; subst w')
  go_loopw [8] (fun i wr => ∃ k : Nat, k ≤ ts.length ∧ i = .int .i64 k ∧ (∀ j (hj : j < ts.length), j < k → tok ts[j] = true) ∧ Below w.heap.size w wr) (fun i _ => ts.length - (intOf i).toNat)
  case atStart => exact ⟨0, Nat.zero_le _, rfl, fun j hj h => by omega, Below.refl _ _⟩
  case round =>
    obtain ⟨k, hk, rfl, hn, hB⟩ := hrel
    have HN : Hid (∀ j (hj : j < ts.length), j < k → tok ts[j] = true) := hn
    clear hn
    by_cases hlt : k < ts.length
    · rcases ht.below hB with h0 | ⟨b, off, rfl, hb, hc⟩
      · rw [h0] at hlt; simp at hlt
      obtain ⟨v0, v1, ⟨cx0, cx1⟩, a0, c0, a1, c1, rfl, rfl, i0, i1⟩ := hc k hlt
      have hz : ts[k].sp.length + ts[k].lv.length ≤ szT ts := szT_at ts k hlt
      clear hc
      go_wp2_with fail
      refine (Tw.stok _ _ _ _ _ ts[k] i0 i1 (by omega)).mono ?_
      rintro e w1 ⟨rfl, hB1⟩
      have hB := hB.trans (hB1.mono hB.size)
      clear hB1 cx0 cx1
      cases hv : tok ts[k] with
      | false =>
        have HR : Hid (sm ts x base = 0) := sm_no (allok_no hlt hv)
        go_wp2
        go_ret
        exact ⟨by rw [HR.out]; rfl, hB⟩
      | true =>
        have HR : Hid (∀ j (hj : j < ts.length), j < k + 1 → tok ts[j] = true) := fun j hj h => by
          by_cases e : j = k
          · subst e; exact hv
          · exact HN.out j hj (by omega)
        go_wp2
        go_roundw
        case rel => exact ⟨k + 1, by omega, by go_num, HR.out, hB⟩
        case measure => simp [intOf]; omega
    · have HA : Hid (sm ts x base = fd x (clip base) ts) := sm_yes (allok_all (fun j hj => HN.out j hj (by omega)))
      have HB : Hid (Below w.heap.size w wr) := hB
      clear hB
      go_wp2
      go_loopw [7, 9] (fun q i wq => ∃ k : Nat, k ≤ ts.length ∧ i = .int .i64 k ∧ q = .int .i64 (fd x (clip base) (ts.take k)) ∧ Below w.heap.size w wq) (fun _ i _ => ts.length - (intOf i).toNat)
      case atStart => exact ⟨0, Nat.zero_le _, rfl, rfl, HB.out⟩
      case round =>
        obtain ⟨k, hk, rfl, rfl, hB⟩ := hrel
        by_cases hlt : k < ts.length
        · rcases ht.below hB with h0 | ⟨b, off, rfl, hb, hc⟩
          · rw [h0] at hlt; simp at hlt
          obtain ⟨v0, v1, ⟨cx0, cx1⟩, a0, c0, a1, c1, rfl, rfl, i0, i1⟩ := hc k hlt
          have hz : ts[k].sp.length + ts[k].lv.length ≤ szT ts := szT_at ts k hlt
          have HF : Hid (fd x (clip base) (ts.take (k + 1)) = fadd (fd x (clip base) (ts.take k)) (eval ts[k] x)) := fd_take hlt
          clear hc
          go_wp2_with fail
          refine (Tw.seval _ _ _ _ _ _ _ ts[k] x i0 i1 (hy.below hB) (by omega) hl').mono ?_
          rintro e w1 ⟨rfl, hB1⟩
          have hB := hB.trans (hB1.mono hB.size)
          clear hB1 cx0 cx1
          go_wp2_with (go_at_call 78; refine (sadd_any _ _ _).mono ?_; rintro e w' ⟨rfl, hw⟩; subst w')
          go_roundw
          case rel => exact ⟨k + 1, by omega, by go_num, by rw [HF.out], hB⟩
          case measure => simp [intOf]; omega
        · obtain rfl : k = ts.length := by omega
          have h0 : ts.take ts.length = ts := List.take_length
          have HR : Hid (sm ts x base = fd x (clip base) (ts.take ts.length)) := by show _ = _; rw [h0]; exact HA.out
          clear h0
          go_wp2
          go_ret
          exact ⟨by rw [HR.out]; rfl, hB⟩
set_option maxHeartbeats 2000000 in
theorem isum (w : World) (a ax : Option Addr) (c cx : Nat) (ts : List T) (x : List Int) (base : Int) (ht : IsT w a ts) (hy : Li.IsL w ax x) (hl : ts.length + szT ts ≤ 1048576) (hl' : x.length ≤ 1048576) :
    Calls Try.prog 61 #[.slice a ts.length c, .slice ax x.length cx, .int .i64 base] w fun e w' => e = .returned (.int .i64 (sm ts x base)) ∧ Below w.heap.size w w' := by
  go_enter Try.func61, Try.ntmps61
  go_wp2_with (go_at_call 80; refine (iadd_any _ _ _).mono ?_; rintro e w' ⟨rfl, hw⟩; subst w'; rw [fadd_zero])
  go_loopw [7, 14] (fun q i wr => ∃ k : Nat, k ≤ ts.length ∧ i = .int .i64 k ∧ q = .int .i64 (fd x (clip base) (ts.take k)) ∧ (∀ j (hj : j < ts.length), j < k → tok ts[j] = true) ∧ Below w.heap.size w wr) (fun _ i _ => ts.length - (intOf i).toNat)
  case atStart => exact ⟨0, Nat.zero_le _, rfl, rfl, fun j hj h => by omega, Below.refl _ _⟩
  case round =>
    obtain ⟨k, hk, rfl, rfl, hn, hB⟩ := hrel
    have HN : Hid (∀ j (hj : j < ts.length), j < k → tok ts[j] = true) := hn
    clear hn
    by_cases hlt : k < ts.length
    · rcases ht.below hB with h0 | ⟨b, off, rfl, hb, hc⟩
      · rw [h0] at hlt; simp at hlt
      obtain ⟨v0, v1, ⟨cx0, cx1⟩, a0, c0, a1, c1, rfl, rfl, i0, i1⟩ := hc k hlt
      have hz : ts[k].sp.length + ts[k].lv.length ≤ szT ts := szT_at ts k hlt
      have HF : Hid (fd x (clip base) (ts.take (k + 1)) = fadd (fd x (clip base) (ts.take k)) (eval ts[k] x)) := fd_take hlt
      clear hc
      go_wp2_with fail
      obtain ⟨W, hW, hsz, hb0, bx⟩ := boxes1 wr (.slice a0 ts[k].sp.length c0) (.slice a1 ts[k].lv.length c1) 65
      rw [hW]
      have i0 := i0.below hb0
      have i1 := i1.below hb0
      have hB := hB.trans (hb0.mono hB.size)
      clear hW hsz hb0
      refine (Tw.itok _ _ _ _ _ ts[k] i0 i1 (by omega)).mono ?_
      rintro e w1 ⟨rfl, hB1⟩
      have hB := hB.trans (hB1.mono hB.size)
      have bx := bx.below hB1
      have i0 := i0.below hB1
      have i1 := i1.below hB1
      clear hB1 cx0 cx1
      obtain ⟨hbl, ⟨cx0, cx1⟩, _⟩ := bx
      cases hv : tok ts[k] with
      | false =>
        have HR : Hid (sm ts x base = 0) := sm_no (allok_no hlt hv)
        go_wp2
        go_ret
        exact ⟨by rw [HR.out]; rfl, hB⟩
      | true =>
        have HR : Hid (∀ j (hj : j < ts.length), j < k + 1 → tok ts[j] = true) := fun j hj h => by
          by_cases e : j = k
          · subst e; exact hv
          · exact HN.out j hj (by omega)
        go_wp2_with fail
        refine (Tw.ieval _ _ _ _ _ _ _ ts[k] x i0 i1 (hy.below hB) (by omega) hl').mono ?_
        rintro e w2 ⟨rfl, hB1⟩
        have hB := hB.trans (hB1.mono hB.size)
        clear hB1
        go_wp2_with (go_at_call 80; refine (iadd_any _ _ _).mono ?_; rintro e w' ⟨rfl, hw⟩; subst w')
        go_roundw
        case rel => exact ⟨k + 1, by omega, by go_num, by rw [HF.out], HR.out, hB⟩
        case measure => simp [intOf]; omega
    · obtain rfl : k = ts.length := by omega
      have h0 : ts.take ts.length = ts := List.take_length
      have HR : Hid (sm ts x base = fd x (clip base) (ts.take ts.length)) := by show _ = _; rw [h0]; exact sm_yes (allok_all (fun j hj => HN.out j hj hj))
      clear h0
      go_wp2
      go_ret
      exact ⟨by rw [HR.out]; rfl, hB⟩
end Go.Proofs.Ytkiddmbenepfjaa.Sw
