/-
  LeafValues of the program and of the model.
-/
import Derived.Test.YtbnjbmajfadmaaaSeS
import Derived.Test.YtbnjbmajfadmaaaMul
import Derived.Test.YtbnjbmajfadmaaaApI
import Derived.Test.YtbnjbmajfadmaaaGwO
namespace Go.Proofs.Ytbnjbmajfadmaaa.Gw
open Go.RowKit
open Go.Proofs.Ytbnjbmajfadmaaa.Li (ret_bool ret_int below_none IsL btw Own iv)
open Go.Proofs.Ytbnjbmajfadmaaa.Tm (IsP)
open Go.Proofs.Ytbnjbmajfadmaaa.Se Go.Proofs.Ytbnjbmajfadmaaa.Sv Go.Proofs.Ytbnjbmajfadmaaa.Sw7
set_option linter.unusedVariables false

def lval (c : Int × Int) (l2 rate : Int) : Int := if c.1 = 0 then 0 else Ar.fmul (Ar.flo c.2 (c.1 + l2)) rate
def lok (cs : List (Int × Int)) (l2 rate : Int) : Bool := scok cs l2 && btw rate 1 1000
def lvs (cs : List (Int × Int)) (l2 rate : Int) : List Int := if lok cs l2 rate = true then cs.map (fun c => lval c l2 rate) else []
theorem lvs_ok {cs : List (Int × Int)} {l2 rate : Int} (h : lok cs l2 rate = true) : lvs cs l2 rate = cs.map (fun c => lval c l2 rate) := if_pos h
theorem lvs_no {cs : List (Int × Int)} {l2 rate : Int} (h : lok cs l2 rate = false) : lvs cs l2 rate = [] := if_neg (by simp [h])
theorem lvs_le (cs : List (Int × Int)) (l2 rate : Int) : (lvs cs l2 rate).length ≤ 16 := by
  cases h : lok cs l2 rate with
  | false => rw [lvs_no h]; simp
  | true =>
    rw [lvs_ok h]
    simp only [lok, Bool.and_eq_true] at h
    have := (scok_iff.1 h.1).1
    simpa using this
theorem map_take {cs : List (Int × Int)} {f : Int × Int → Int} {k : Nat} (h : k < cs.length) : (cs.take (k + 1)).map f = (cs.take k).map f ++ [f cs[k]] := by
  rw [List.take_succ_eq_append_getElem h, List.map_append]; rfl
theorem owi_isl {w : World} {B : Nat → Prop} {a : Option Addr} {n c : Nat} {xs : List Int} (h : OwI w B (.slice a n c) xs) : IsL w a xs := by
  obtain ⟨_, _, e, hp⟩ := h.isl
  cases e
  exact hp
theorem owi_isl_marks {w : World} {B : Nat → Prop} {a : Option Addr} {n c m : Nat} {k : Int} (h : OwI w B (.slice a n c) (Li.marks k m)) : IsL w a (Li.marks k n) := by
  obtain ⟨_, _, e, hp⟩ := h.isl
  rw [Li.marks_length] at e
  cases e
  exact hp
set_option maxHeartbeats 2000000 in
theorem s8cells (w : World) (a : Option Addr) (cap : Nat) (ps : List (Int × Int)) (l2 : Int) (h : IsP w a ps) (hl : ps.length ≤ 1048576) :
    Calls Try.prog 76 #[.slice a ps.length cap, .int .i64 l2] w fun e w' => e = .returned (.bool (scok ps l2)) ∧ Below w.heap.size w w' := by
  by_cases h16 : ps.length ≤ 16
  rotate_left
  · have HR : Hid (scok ps l2 = false) := scok_head (fun h => h16 h.1)
    have hd : decide (16 < (ps.length : Int)) = true := by simp; omega
    go_enter Try.func76, Try.ntmps76
    go_wp2_with fail
    go_ret
    exact ⟨ret_bool HR.out.symm, Below.refl _ _⟩
  have hd : decide (16 < (ps.length : Int)) = false := by simp; omega
  cases hv : btw l2 1 1000 with
  | false =>
    have HR : Hid (scok ps l2 = false) := scok_head (fun h => by simp only [btw, decide_eq_false_iff_not] at hv; exact hv h.2)
    go_enter Try.func76, Try.ntmps76
    go_wp2_with (go_at_call 51; refine (Li.between_any _ _ _ _).mono ?_; rintro e w' ⟨rfl, hw⟩; subst w'; rw [hv])
    go_ret
    exact ⟨ret_bool HR.out.symm, Below.refl _ _⟩
  | true =>
    have h2 : 1 ≤ l2 ∧ l2 ≤ 1000 := by simp only [btw, decide_eq_true_iff] at hv; exact hv
    go_enter Try.func76, Try.ntmps76
    go_wp2_with (go_at_call 51; refine (Li.between_any _ _ _ _).mono ?_; rintro e w' ⟨rfl, hw⟩; subst w'; rw [hv])
    clear hv
    go_loopw [5] (fun i wr => ∃ k : Nat, k ≤ ps.length ∧ i = .int .i64 k ∧ (∀ j (hj : j < ps.length), j < k → cok ps[j]) ∧ Below w.heap.size w wr) (fun i _ => ps.length - (intOf i).toNat)
    case atStart => exact ⟨0, Nat.zero_le _, rfl, fun j hj h => by omega, Below.refl _ _⟩
    case round =>
      obtain ⟨k, hk, rfl, hn, hBr⟩ := hrel
      have HN : Hid (∀ j (hj : j < ps.length), j < k → cok ps[j]) := hn
      clear hn
      by_cases hlt : k < ps.length
      · rcases h.below hBr with h0 | ⟨b, off, rfl, hb, hc⟩
        · rw [h0] at hlt; simp at hlt
        obtain ⟨c0, c1⟩ := hc k hlt
        have HCK : Hid (cok ps[k] ↔ btw ps[k].1 0 40 = true ∧ btw ps[k].2 (-80000000) 80000000 = true) := by show _ ↔ _; simp [cok, btw]
        have HBAD : Hid (¬ cok ps[k] → scok ps l2 = false) := fun hb => scok_bad hlt hb
        obtain ⟨N, hN⟩ : ∃ N, ps[k].1 = N := ⟨_, rfl⟩
        obtain ⟨G, hG⟩ : ∃ G, ps[k].2 = G := ⟨_, rfl⟩
        rw [hN] at c0 HCK
        rw [hG] at c1 HCK
        clear hc hN hG
        cases hv1 : btw N 0 40 with
        | false =>
          have HR : Hid (scok ps l2 = false) := HBAD.out (fun h => by have := (HCK.out.1 h).1; rw [hv1] at this; cases this)
          go_wp2_with (go_at_call_of 51 N; refine (Li.between_any _ _ _ _).mono ?_; rintro e w' ⟨rfl, hw⟩; subst w'; rw [hv1])
          go_ret
          exact ⟨ret_bool HR.out.symm, hBr⟩
        | true =>
          cases hv2 : btw G (-80000000) 80000000 with
          | false =>
            have HR : Hid (scok ps l2 = false) := HBAD.out (fun h => by have := (HCK.out.1 h).2; rw [hv2] at this; cases this)
            go_wp2_with (first | (go_at_call_of 51 N; refine (Li.between_any _ _ _ _).mono ?_; rintro e w' ⟨rfl, hw⟩; subst w'; rw [hv1]) | (go_at_call_of 51 G; refine (Li.between_any _ _ _ _).mono ?_; rintro e w' ⟨rfl, hw⟩; subst w'; rw [hv2]))
            go_ret
            exact ⟨ret_bool HR.out.symm, hBr⟩
          | true =>
            have hck := HCK.out.2 ⟨hv1, hv2⟩
            have HR : Hid (∀ j (hj : j < ps.length), j < k + 1 → cok ps[j]) := fun j hj h => by
              by_cases e : j = k
              · subst e; exact hck
              · exact HN.out j hj (by omega)
            clear hck
            go_wp2_with (first | (go_at_call_of 51 N; refine (Li.between_any _ _ _ _).mono ?_; rintro e w' ⟨rfl, hw⟩; subst w'; rw [hv1]) | (go_at_call_of 51 G; refine (Li.between_any _ _ _ _).mono ?_; rintro e w' ⟨rfl, hw⟩; subst w'; rw [hv2]))
            go_roundw
            case rel => exact ⟨k + 1, by omega, by go_num, HR.out, hBr⟩
            case measure => simp [intOf]; omega
      · obtain rfl : k = ps.length := by omega
        have HR : Hid (scok ps l2 = true) := scok_all h16 h2 (fun j hj => HN.out j hj hj)
        go_wp2
        go_ret
        exact ⟨ret_bool HR.out.symm, hBr⟩
set_option maxHeartbeats 2000000 in
theorem slvs (w : World) (a : Option Addr) (cap : Nat) (ps : List (Int × Int)) (l2 rate : Int) (h : IsP w a ps) (hl : ps.length ≤ 1048576) :
    Calls Try.prog 34 #[.slice a ps.length cap, .int .i64 l2, .int .i64 rate] w fun e w' => ∃ v, e = .returned v ∧ Own w' w.heap.size v (lvs ps l2 rate) ∧ Below w.heap.size w w' := by
  obtain ⟨i0, hi, hz0, hz1, hz2⟩ := info_parts Li.info_int
  go_enter Try.func34, Try.ntmps34
  go_wp2_with fail
  have ho0 := Ai.own_empty w w.heap.size (Nat.le_refl _)
  have hB0 : Below w.heap.size w (w.alloc (.cells #[] 3)) := (Below.refl _ _).alloc (Nat.le_refl _) _
  obtain ⟨w0, hw0⟩ : ∃ w0, w.alloc (.cells #[] 3) = w0 := ⟨_, rfl⟩
  rw [hw0] at ho0 hB0 ⊢
  clear hw0
  refine (s8cells _ _ _ ps l2 (h.below hB0) hl).mono ?_
  rintro e w1 ⟨rfl, hb⟩
  have ho1 := ho0.below hb
  have hB1 := hB0.trans (hb.mono hB0.size)
  clear hb ho0 hB0
  cases hv : scok ps l2 with
  | false =>
    have HR : Hid (lvs ps l2 rate = []) := lvs_no (by simp [lok, hv])
    go_wp2_with fail
    go_ret
    exact ⟨_, rfl, by rw [HR.out]; exact ho1, hB1⟩
  | true =>
    cases hr : btw rate 1 1000 with
    | false =>
      have HR : Hid (lvs ps l2 rate = []) := lvs_no (by simp [lok, hr])
      go_wp2_with (go_at_call 51; refine (Li.between_any _ _ _ _).mono ?_; rintro e w' ⟨rfl, hw⟩; subst w'; rw [hr])
      go_ret
      exact ⟨_, rfl, by rw [HR.out]; exact ho1, hB1⟩
    | true =>
      have HR : Hid (lvs ps l2 rate = ps.map (fun c => lval c l2 rate)) := lvs_ok (by simp [lok, hr, hv])
      obtain ⟨h16, h2, hc0⟩ := scok_iff.1 hv
      have HC : Hid (∀ j (hj : j < ps.length), cok ps[j]) := fun j hj => hc0 _ (List.getElem_mem hj)
      clear hc0 hv
      go_wp2_with (go_at_call 51; refine (Li.between_any _ _ _ _).mono ?_; rintro e w' ⟨rfl, hw⟩; subst w'; rw [hr])
      clear hr
      go_loopw [7, 8] (fun v i wr => ∃ k : Nat, k ≤ ps.length ∧ i = .int .i64 k ∧ ∃ m : List Int, m = (ps.take k).map (fun c => lval c l2 rate) ∧ Own wr w.heap.size v m ∧ Below w.heap.size w wr) (fun _ i _ => ps.length - (intOf i).toNat)
      case atStart => exact ⟨0, Nat.zero_le _, rfl, [], by simp, ho1, hB1⟩
      case round =>
        obtain ⟨k, hk, rfl, m, hm, hown, hB⟩ := hrel
        have HM : Hid (m = (ps.take k).map (fun c => lval c l2 rate)) := hm
        have hml : m.length = k := by rw [hm]; simp; omega
        have HL : Hid (m.length = k) := hml
        clear hm hml
        by_cases hlt : k < ps.length
        · have hs := hB.size
          rcases h.below hB with h0 | ⟨b, off, rfl, hb, hc⟩
          · rw [h0] at hlt; simp at hlt
          obtain ⟨c0, c1⟩ := hc k hlt
          obtain ⟨⟨n0, n1⟩, g0, g1⟩ := HC.out k hlt
          have HT : Hid ((ps.take (k + 1)).map (fun c => lval c l2 rate) = (ps.take k).map (fun c => lval c l2 rate) ++ [lval ps[k] l2 rate]) := map_take hlt
          have HV : Hid (lval ps[k] l2 rate = if ps[k].1 = 0 then 0 else Ar.fmul (Ar.flo ps[k].2 (ps[k].1 + l2)) rate) := rfl
          obtain ⟨z, hz⟩ : ∃ z, lval ps[k] l2 rate = z := ⟨_, rfl⟩
          rw [hz] at HV HT
          obtain ⟨N, hN⟩ : ∃ N, ps[k].1 = N := ⟨_, rfl⟩
          obtain ⟨G, hG⟩ : ∃ G, ps[k].2 = G := ⟨_, rfl⟩
          rw [hN] at c0 HV n0 n1
          rw [hG] at c1 HV g0 g1
          clear hc hz hN hG
          by_cases hN0 : N = 0
          · obtain rfl : z = 0 := by rw [HV.out, if_pos hN0]
            subst hN0
            go_wp2_with (at_builtin; refine wpList_append_own _ rfl _ _ 25 rfl w.heap.size 3 i0 (.int .i64 0) 1 8 Try.underlying25 hi hz0 hz1 hz2 rfl (by decide) _ _ _ rfl (World.ownsRow.alloc hown _) ⟨wr.heap.size, 0, none⟩ 1 1 [.int .i64 0] rfl rfl (Ai.one_cell _ _ _) (Ai.one_one _) (by have := HL.out; unfold maxLen; omega) (by have := HL.out; omega) (by simp; omega) ?_)
            intro v' w6 hown' hgrow hnn
            clear hnn
            have ho6 : Own w6 w.heap.size v' (m ++ [0]) := Ai.own_snoc rfl hown'
            have hB6 : Below w.heap.size w w6 := Ai.below_app (hB.alloc hB.size _) (by have := hB.size; simp; omega) hgrow (fun k hk => (hown.ge k hk).1)
            have HM6 : Hid (m ++ [0] = (ps.take (k + 1)).map (fun c => lval c l2 rate)) := by show _ = _; rw [HT.out, HM.out]
            clear hown' hgrow hown hB
            go_wp2
            go_roundw
            case rel => exact ⟨k + 1, by omega, by go_num, m ++ [0], HM6.out, ho6, hB6⟩
            case measure => simp [intOf]; omega
          · have hz : z = Ar.fmul (Ar.flo G (N + l2)) rate := by rw [HV.out, if_neg hN0]
            have HZ : Hid (z = Ar.fmul (Ar.flo G (N + l2)) rate) := hz
            have hne : ¬ N + l2 = 0 := by omega
            clear hz HV
            have hgt : decide (0 < N) = true := by simp; omega
            clear hN0
            go_wp2_with fail
            have hwn : IntKind.i64.wrap (N + l2) = N + l2 := by simp [IntKind.wrap, IntKind.bits, IntKind.signed]; omega
            go_quiet (first | (go_at_call 78; refine Calls.quiet_of_same (Ar.floor_any _ _ _ hne)) | (go_at_call 77; refine Calls.quiet_of_same (Ar.smul_any _ _ _)))
            clear hwn
            rw [← HZ.out]
            obtain ⟨W, hW⟩ : ∃ W, wr.drewN nq = W := ⟨_, rfl⟩
            have hbW : Below wr.heap.size wr W := by rw [← hW]; exact Tm.below_drewN' _ _
            have hown2 := hown.below hbW
            have hB2 := hB.trans (hbW.mono hB.size)
            have hs2 := hB2.size
            rw [hW]
            clear hW c0 c1 hown hB hb hbW hs
            go_wp2_with (at_builtin; refine wpList_append_own _ rfl _ _ 25 rfl w.heap.size 3 i0 (.int .i64 0) 1 8 Try.underlying25 hi hz0 hz1 hz2 rfl (by decide) _ _ _ rfl (World.ownsRow.alloc hown2 _) ⟨W.heap.size, 0, none⟩ 1 1 [.int .i64 z] rfl rfl (Ai.one_cell _ _ _) (Ai.one_one _) (by have := HL.out; unfold maxLen; omega) (by have := HL.out; omega) (by simp; omega) ?_)
            intro v' w6 hown' hgrow hnn
            clear hnn
            have ho6 : Own w6 w.heap.size v' (m ++ [z]) := Ai.own_snoc rfl hown'
            have hB6 : Below w.heap.size w w6 := Ai.below_app (hB2.alloc hB2.size _) (by have := hB2.size; simp; omega) hgrow (fun k hk => (hown2.ge k hk).1)
            have HM6 : Hid (m ++ [z] = (ps.take (k + 1)).map (fun c => lval c l2 rate)) := by show _ = _; rw [HT.out, HM.out]
            clear hown' hgrow hown2 hB2
            go_wp2
            go_roundw
            case rel => exact ⟨k + 1, by omega, by go_num, m ++ [z], HM6.out, ho6, hB6⟩
            case measure => simp [intOf]; omega
        · obtain rfl : k = ps.length := by omega
          have HR2 : Hid (lvs ps l2 rate = m) := by show _ = _; rw [HR.out, HM.out, List.take_length]
          go_wp2
          go_ret
          exact ⟨_, rfl, by rw [HR2.out]; exact hown, hB⟩
set_option maxHeartbeats 1000000 in
theorem ilval (w : World) (N G l2 rate : Int) (hN : 0 ≤ N ∧ N ≤ 40) (h2 : 1 ≤ l2 ∧ l2 ≤ 1000) :
    Calls Try.prog 81 #[.agg #[.int .i64 N, .int .i64 G], .int .i64 l2, .int .i64 rate] w fun e w' => e = .returned (.int .i64 (lval (N, G) l2 rate)) ∧ Below w.heap.size w w' := by
  have HV : Hid (lval (N, G) l2 rate = if N = 0 then 0 else Ar.fmul (Ar.flo G (N + l2)) rate) := rfl
  by_cases hN0 : N = 0
  · subst hN0
    go_enter Try.func81, Try.ntmps81
    go_wp2
    go_ret
    exact ⟨ret_int (by rw [HV.out]; simp), (Below.refl _ _).alloc (Nat.le_refl _) _⟩
  · have hne : ¬ N + l2 = 0 := by omega
    have hnb : (N == 0) = false := by simpa using hN0
    go_enter Try.func81, Try.ntmps81
    go_wp2_with (first | (go_at_call 106; refine (Ar.floorBy_any _ _ _ hne).mono ?_; rintro e w' ⟨rfl, hw⟩; subst w') | (go_at_call 105; refine (Ar.imul_any _ _ _).mono ?_; rintro e w' ⟨rfl, hw⟩; subst w'))
    go_ret
    exact ⟨ret_int (by rw [HV.out, if_neg hN0]), (Below.refl _ _).alloc (Nat.le_refl _) _⟩
set_option maxHeartbeats 2000000 in
theorem ilvs (w : World) (a : Option Addr) (cap : Nat) (ps : List (Int × Int)) (l2 rate : Int) (h : IsP w a ps) (hl : ps.length ≤ 1048576) :
    Calls Try.prog 36 #[.slice a ps.length cap, .int .i64 l2, .int .i64 rate] w fun e w' => ∃ v, e = .returned v ∧ Own w' w.heap.size v (lvs ps l2 rate) ∧ Below w.heap.size w w' := by
  obtain ⟨i0, hi, hz0, hz1, hz2⟩ := info_parts Li.info_int
  go_enter Try.func36, Try.ntmps36
  go_wp2_with fail
  refine (icells _ _ _ ps l2 h hl).mono ?_
  rintro e w0 ⟨rfl, hB0⟩
  cases hv : scok ps l2 with
  | false =>
    have HR : Hid (lvs ps l2 rate = []) := lvs_no (by simp [lok, hv])
    go_wp2_with fail
    go_ret
    exact ⟨_, rfl, by rw [HR.out]; exact ⟨rfl, .inl ⟨rfl, rfl⟩⟩, hB0⟩
  | true =>
    cases hr : btw rate 1 1000 with
    | false =>
      have HR : Hid (lvs ps l2 rate = []) := lvs_no (by simp [lok, hr])
      go_wp2_with (go_at_call 75; refine (irate _ _).mono ?_; rintro e w' ⟨rfl, hw⟩; subst w'; rw [hr])
      go_ret
      exact ⟨_, rfl, by rw [HR.out]; exact ⟨rfl, .inl ⟨rfl, rfl⟩⟩, hB0⟩
    | true =>
      have HR : Hid (lvs ps l2 rate = ps.map (fun c => lval c l2 rate)) := lvs_ok (by simp [lok, hr, hv])
      obtain ⟨h16, h2, hc0⟩ := scok_iff.1 hv
      have HC : Hid (∀ j (hj : j < ps.length), cok ps[j]) := fun j hj => hc0 _ (List.getElem_mem hj)
      clear hc0 hv
      go_wp2_with (first | (go_at_call 75; refine (irate _ _).mono ?_; rintro e w' ⟨rfl, hw⟩; subst w'; rw [hr]) | (at_make; refine wpList_make_full _ rfl _ _ 25 rfl w.heap.size 3 i0 (.int .i64 0) 1 Try.underlying25 hi hz0 hz1 _ _ _ _ ps.length rfl rfl (by omega) (by omega) (by rw [hz2]; omega) (by unfold maxLen; omega) hB0.size ?_; intro w1 hown hgrow))
      have hown' := Li.own_made hown
      have hB1 := hB0.trans ((below_none hgrow).mono hB0.size)
      have hg0 := hB0.size
      clear hown hgrow hr
      go_loopw [24] (fun i wr => ∃ k : Nat, k ≤ ps.length ∧ i = .int .i64 k ∧ ∃ l : List Int, l.length = ps.length ∧ Li.Like l (ps.map (fun c => lval c l2 rate)) k ∧ Own wr w.heap.size (.slice (some ⟨w0.heap.size, 0, none⟩) ps.length ps.length) l ∧ Below w.heap.size w wr) (fun i _ => ps.length - (intOf i).toNat)
      case atStart => exact ⟨0, Nat.zero_le _, rfl, _, by simp, fun j hj => by omega, hown', hB1⟩
      case round =>
        obtain ⟨k, hk, rfl, l, hll, hlike, hown, hB⟩ := hrel
        have hgs : w0.heap.size < wr.heap.size := (hown.ge w0.heap.size rfl).2
        have HLL : Hid (l.length = ps.length) := hll
        have HLK : Hid (type_of% hlike) := hlike
        clear hll hlike
        by_cases hlt : k < ps.length
        · rcases h.below hB with h0 | ⟨b, off, rfl, hb, hc⟩
          · rw [h0] at hlt; simp at hlt
          obtain ⟨c0, c1⟩ := hc k hlt
          obtain ⟨n0, _⟩ := HC.out k hlt
          have HL : Hid (Li.Like (l.set k (lval ps[k] l2 rate)) (ps.map (fun c => lval c l2 rate)) (k + 1)) := by
            have h1 := Li.like_set HLK.out (by simpa using hlt) (by simpa using HLL.out)
            have h2 : Li.Like (l.set k (lval ps[k] l2 rate)) (ps.map (fun c => lval c l2 rate)) (k + 1) := by simpa using h1
            exact h2
          clear hc
          go_wp2_with fail
          refine (ilval _ _ _ l2 rate n0 h2).mono ?_
          rintro e w5 ⟨rfl, hb5⟩
          have hbb : Below wr.heap.size wr w5 := ((Below.refl _ _).alloc (Nat.le_refl _) _).trans (hb5.mono (by simp))
          have hown5 := hown.below hbb
          have hB5 := hB.trans (hbb.mono hB.size)
          have hcl := hown5.cell HLL.out k (by rw [HLL.out]; exact hlt)
          have hcf := hown5.frozen HLL.out k
          have hgs5 : w0.heap.size < w5.heap.size := (hown5.ge w0.heap.size rfl).2
          have HO : Hid (type_of% hown5) := hown5
          have HLT : Hid (k < ps.length) := hlt
          clear hbb hb5 hown hown5 hB c0 c1 n0
          go_wp2
          go_roundw
          case rel => exact ⟨k + 1, HLT.out, by go_num, _, by simpa using HLL.out, HL.out, HO.out.set HLL.out k _, hB5.setCell (p := ⟨w0.heap.size, k, none⟩) hg0 _⟩
          case measure => have := HLT.out; simp [intOf]; omega
        · obtain rfl : k = ps.length := by omega
          have hle := Li.like_all (xs := ps.map (fun c => lval c l2 rate)) (by simpa using HLK.out) (by simpa using HLL.out)
          have HR2 : Hid (lvs ps l2 rate = l) := by show _ = _; rw [HR.out]; exact hle.symm
          go_wp2
          go_ret
          exact ⟨_, rfl, by rw [HR2.out]; exact hown, hB⟩
end Go.Proofs.Ytbnjbmajfadmaaa.Gw
