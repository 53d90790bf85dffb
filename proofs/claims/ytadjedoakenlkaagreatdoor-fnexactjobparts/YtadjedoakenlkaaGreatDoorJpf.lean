/-
  A job's text taken apart by the model of the document: a line of numbers.
-/
import Derived.Test.YtadjedoakenlkaaGreatDoorJpe
import Derived.Test.YtadjedoakenlkaaGreatDoorSpP
import Derived.Test.YtadjedoakenlkaaGreatDoorRsb
namespace Go.Proofs.YtadjedoakenlkaaGreatDoor.Jp
set_option maxRecDepth 100000
open Go.RowKit
open Go.Proofs.YtadjedoakenlkaaGreatDoor.Mt (nums ba_ext ba_size i64)
open Go.Proofs.YtadjedoakenlkaaGreatDoor.Rs (snum snumc b11)
set_option linter.unusedVariables false
theorem pcs_len (c : UInt8) (l : List UInt8) : (Pc.pcs c l).length = (Pc.pieces c l).length := by unfold Pc.pcs; rw [List.length_map]
theorem snums_take {fs : List (List UInt8)} {k : Nat} (hk : k < fs.length) {xs : List Int} (h : snums (fs.take k) = some xs) {v : Int} (hv : snum fs[k] = some v) : snums (fs.take (k + 1)) = some (xs ++ [v]) := by
  rw [List.take_succ_eq_append_getElem hk, snums_snoc, h, hv]
set_option maxHeartbeats 2000000 in
theorem snl (w : World) (word l : ByteArray) (k : Nat) (hw : word.size ≤ 30) (hb : (32 : UInt8) ∉ word.data.toList) (hl : l.size ≤ 9000) (hk : k ≤ 100) :
    Calls Tryz.prog 9 #[.string l, .string word, .int .i64 (k : Int)] w fun e w' => Nb w w' word.data.toList l.data.toList k e ∧ Below w.heap.size w w' := by
  obtain ⟨i0, hi, hz0, hz1, hz2⟩ := info_parts Li.info_int
  have hne := Pc.pieces_ne 32 l.data.toList
  have hsz : l.data.toList.length = l.size := by simp
  have hpl := Pc.pieces_len 32 l.data.toList
  have HPM : Hid (∀ p ∈ Pc.pieces 32 l.data.toList, p.length ≤ 9000) := fun p hp => by have := Pc.pieces_mem 32 _ p hp; omega
  have HYE : Hid (∀ ws xs, Pc.pieces 32 l.data.toList = word.data.toList :: ws → ws.length = k → snums ws = some xs → NL word.data.toList k l.data.toList xs) := fun ws xs h1 h2 h3 => nl_model h1 h2 h3
  have HNE : Hid (∀ xs, NL word.data.toList k l.data.toList xs → Pc.pieces 32 l.data.toList = word.data.toList :: xs.map Lib.itoa ∧ snums (xs.map Lib.itoa) = some xs ∧ xs.length = k) := fun xs h => ⟨(nl_pieces hb h).1, (nl_pieces hb h).2, h.2.1⟩
  go_enter Tryz.func9, Tryz.ntmps9
  go_wp2_with fail
  refine (Sp.parts w l 32 (by omega)).mono ?_
  rintro e w1 ⟨v, rfl, ho, hB⟩
  obtain ⟨a, c, rfl, his⟩ := ho.iss
  rw [pcs_len]
  have HIS : Hid (type_of% his) := his
  have HB1 : Hid (type_of% hB) := hB
  have HCE : Hid (∀ (X : World), Below w1.heap.size w1 X → ∀ j (hj : j < (Pc.pieces 32 l.data.toList).length), ∃ b o, a = some ⟨b, o, none⟩ ∧ b < X.heap.size ∧ X.cell? ⟨b, o + j, none⟩ = some (.string (Pc.ba (Pc.pieces 32 l.data.toList)[j]))) := fun X hX j hj => by
    rcases his with h0 | ⟨b, o, e, hbl, hc⟩
    · have := pcs_len 32 l.data.toList; rw [h0] at this; simp at this; omega
    · refine ⟨b, o, e, Nat.lt_of_lt_of_le hbl hX.size, ?_⟩
      rw [hX.cell (p := ⟨b, o + j, none⟩) hbl, hc j (by rw [pcs_len]; exact hj)]
      simp [Pc.pcs]
  clear ho his hB
  generalize Pc.pieces 32 l.data.toList = P at hne hpl HPM HYE HNE HCE ⊢
  obtain ⟨p0, ws, rfl⟩ : ∃ p0 ws, P = p0 :: ws := by
    cases P with
    | nil => exact absurd rfl hne
    | cons p ws => exact ⟨p, ws, rfl⟩
  obtain ⟨bk, of, rfl, hbl, hc0⟩ := HCE.out w1 (Below.refl _ _) 0 (by simp)
  rw [List.getElem_cons_zero, Nat.add_zero] at hc0
  have HP0 : Hid ((Pc.ba p0).data.toList = p0) := Pc.ba_data p0
  have h0l := HPM.out p0 (by simp)
  have hp0 : (Pc.ba p0).size ≤ 9000 := by rw [Pc.ba_size]; exact h0l
  obtain ⟨n, hn⟩ : ∃ n, ws.length = n := ⟨_, rfl⟩
  have HLN : Hid (ws.length = n) := hn
  have e1 : (p0 :: ws).length = n + 1 := by rw [List.length_cons, hn]
  have hn9 : n ≤ 9000 := by rw [e1] at hpl; omega
  rw [e1]
  clear hne hpl hsz e1 hn h0l
  by_cases hw0 : Pc.ba p0 = word
  · have HW0 : Hid (p0 = word.data.toList) := by show _ = _; rw [← hw0]; exact HP0.out.symm
    subst hw0
    have HYE2 : Hid (∀ xs, n = k → snums ws = some xs → NL (Pc.ba p0).data.toList k l.data.toList xs) := fun xs h1 h2 => HYE.out ws xs (by rw [← HW0.out]) (HLN.out.trans h1) h2
    have HNE2 : Hid (∀ xs, NL (Pc.ba p0).data.toList k l.data.toList xs → ws = xs.map Lib.itoa ∧ snums (xs.map Lib.itoa) = some xs ∧ xs.length = k) := fun xs h => by
      obtain ⟨q1, q2, q3⟩ := HNE.out xs h
      injection q1 with _ q1
      exact ⟨q1, q2, q3⟩
    clear HYE HNE HW0 HP0 hb
    have hwr : IntKind.i64.wrap ((k : Int) + 1) = (k : Int) + 1 := by rw [IntKind.wrap_i64]; omega
    by_cases hnk : n = k
    · subst hnk
      have HYE3 : Hid (∀ xs, snums ws = some xs → NL (Pc.ba p0).data.toList n l.data.toList xs) := fun xs h => HYE2.out xs rfl h
      clear HYE2
      have hq2 : (((n + 1 : Nat) : Int) != (n : Int) + 1) = false := by simp
      have HW1 : Hid (Below w.heap.size w (w1.alloc (.cells #[] 3))) := HB1.out.alloc HB1.out.size _
      have HA1 : Hid (Below w1.heap.size w1 (w1.alloc (.cells #[] 3))) := (Below.refl _ _).alloc (Nat.le_refl _) _
      have HOW : Hid (Li.Own (w1.alloc (.cells #[] 3)) w1.heap.size (.slice (some ⟨w1.heap.size, 0, none⟩) 0 0) []) := Ai.own_empty w1 w1.heap.size (Nat.le_refl _)
      go_wp2_with fail
      go_loopw [9, 10] (fun v i wr => ∃ (j : Nat) (xs : List Int), j ≤ n ∧ i = .int .i64 ((j : Int) + 1) ∧ xs.length = j ∧ snums (ws.take j) = some xs ∧ Li.Own wr w1.heap.size v xs ∧ Below w1.heap.size w1 wr ∧ Below w.heap.size w wr) (fun _ i _ => n + 1 - (intOf i).toNat)
      case atStart => exact ⟨0, [], Nat.zero_le _, rfl, rfl, by simp [snums], HOW.out, HA1.out, HW1.out⟩
      case round =>
        clear HW1 HA1 HOW
        obtain ⟨j, xs, hj, rfl, hxl, hsn, ho, hb1, hbw⟩ := hrel
        have HXL : Hid (xs.length = j) := hxl
        have HSN : Hid (type_of% hsn) := hsn
        have HBW : Hid (type_of% hbw) := hbw
        have HBI : Hid (type_of% hb1) := hb1
        clear hxl hsn hbw
        by_cases hlt : j < n
        · have HJ : Hid (j < ws.length) := by rw [HLN.out]; exact hlt
          obtain ⟨b', o', e', hbl', hcj⟩ := HCE.out wr hb1 (j + 1) (by simp; exact HJ.out)
          injection e' with e'
          injection e' with e1 e2
          subst e1; subst e2
          rw [List.getElem_cons_succ] at hcj
          have hpl := HPM.out ws[j] (List.mem_cons_of_mem _ (List.getElem_mem HJ.out))
          have HYS : Hid (∀ v, snum ws[j] = some v → snums (ws.take (j + 1)) = some (xs ++ [v])) := fun v hv => snums_take HJ.out HSN.out hv
          have HNOS : Hid (snum ws[j] = none → ∀ ys, ¬ NL (Pc.ba p0).data.toList n l.data.toList ys) := fun hv ys h => by
            obtain ⟨q1, q2, _⟩ := HNE2.out ys h
            have := snums_no HJ.out hv
            rw [q1, q2] at this
            cases this
          have HPD : Hid ((Pc.ba ws[j]).data.toList = ws[j]) := Pc.ba_data _
          have hps : (Pc.ba ws[j]).size ≤ 9000 := by rw [Pc.ba_size]; exact hpl
          rw [← HPD.out] at HYS HNOS
          generalize Pc.ba ws[j] = p at hcj hps HYS HNOS
          have hlt1 : (j : Int) + 1 < ((n + 1 : Nat) : Int) := by omega
          have h0j : (0 : Int) ≤ (j : Int) + 1 := by omega
          have htj : ((j : Int) + 1).toNat = j + 1 := by omega
          clear hpl HPD hb1
          go_wp2_with fail
          refine (snumc wr p (by omega)).mono ?_
          rintro e w2 ⟨he, hB2⟩
          have HB2 : Hid (Below w.heap.size w w2) := HBW.out.trans (hB2.mono HBW.out.size)
          have HI2 : Hid (Below w1.heap.size w1 w2) := HBI.out.trans (hB2.mono HBI.out.size)
          have ho := ho.below hB2
          clear hB2 hcj
          rcases he with ⟨v, hv, v0, v1, rfl⟩ | ⟨hv, v, rfl⟩
          · have HS2 : Hid (type_of% (HYS.out v hv)) := HYS.out v hv
            clear hv HYS HNOS
            have hxle : xs.length ≤ 9000 := by rw [HXL.out]; omega
            have hws : w1.heap.size ≤ w2.heap.size := HI2.out.size
            go_wp2_with (at_builtin; refine wpList_append_own _ rfl _ _ 33 rfl w1.heap.size 3 i0 (.int .i64 0) 1 8 Tryz.underlying33 hi hz0 hz1 hz2 rfl (by decide) _ _ _ rfl (World.ownsRow.alloc ho _) ⟨w2.heap.size, 0, none⟩ 1 1 [.int .i64 v] rfl rfl (Ai.one_cell _ _ _) (Ai.one_one _) (by unfold maxLen; omega) (by omega) (by simp; omega) ?_; intro v5 w5 hown5 hgrow _)
            have HO : Hid (Li.Own w5 w1.heap.size v5 (xs ++ [v])) := Ai.own_snoc rfl hown5
            have HB5 : Hid (Below w.heap.size w w5) := (HB2.out.alloc HB2.out.size _).grown hgrow (by have := HB2.out.size; simp; omega) (fun g hg => Nat.le_trans HB1.out.size (World.ownsRow.lt ho g hg).1)
            have HBI5 : Hid (Below w1.heap.size w1 w5) := by
              refine (HI2.out.alloc HI2.out.size _).grown hgrow (by have := HI2.out.size; simp; omega) (fun g hg => (World.ownsRow.lt ho g hg).1)
            have HL5 : Hid ((xs ++ [v]).length = j + 1) := by show _ = _; rw [List.length_append, HXL.out]; rfl
            clear hown5 hgrow ho
            go_wp2
            go_roundw
            case rel => exact ⟨j + 1, xs ++ [v], by omega, by go_num, HL5.out, HS2.out, HO.out, HBI5.out, HB5.out⟩
            case measure => simp [intOf]; omega
          · have HN2 : Hid (type_of% (HNOS.out hv)) := HNOS.out hv
            clear hv
            go_wp2
            go_ret2
            exact ⟨.inr ⟨HN2.out, _, rfl⟩, HB2.out.alloc HB2.out.size _⟩
        · obtain rfl : j = n := by omega
          have HS3 : Hid (snums ws = some xs) := by
            have := HSN.out
            rwa [List.take_of_length_le (by have := HLN.out; omega)] at this
          obtain ⟨a5, c5, rfl, _⟩ := ho.isl
          have HO : Hid (type_of% ho) := ho
          clear ho
          go_wp2
          go_ret2
          exact ⟨.inl ⟨xs, a5, c5, HYE3.out xs HS3.out, rfl, HO.out.mono HB1.out.size⟩, HBW.out⟩
    · have hq2 : (((n + 1 : Nat) : Int) != (k : Int) + 1) = true := by simp; omega
      have HNO : Hid (∀ xs, ¬ NL (Pc.ba p0).data.toList k l.data.toList xs) := fun xs h => by
        obtain ⟨q1, _, q3⟩ := HNE2.out xs h
        apply hnk
        rw [← HLN.out, q1, List.length_map, q3]
      go_wp2
      go_ret2
      exact ⟨.inr ⟨HNO.out, _, rfl⟩, HB1.out.alloc HB1.out.size _⟩
  · have hq := Ls.tl_ne hw0
    have HNO : Hid (∀ xs, ¬ NL word.data.toList k l.data.toList xs) := fun xs h => by
      have := (HNE.out xs h).1
      injection this with e2 _
      exact hw0 (ba_ext (by rw [HP0.out, e2]))
    go_wp2
    go_ret2
    exact ⟨.inr ⟨HNO.out, _, rfl⟩, HB1.out.alloc HB1.out.size _⟩
end Go.Proofs.YtadjedoakenlkaaGreatDoor.Jp
