/-
  The model's cutting of a text into its parts.
-/
import Derived.Test.YtadjedoakenlkaaGreatDoorPca
import Derived.Test.YtadjedoakenlkaaGreatDoorApd
namespace Go.Proofs.YtadjedoakenlkaaGreatDoor.Sp
set_option maxRecDepth 100000
open Go.RowKit
open Go.Proofs.YtadjedoakenlkaaGreatDoor.Li (ret_bool grown_refl grown_trans grown_set below_none)

/-- How far the cutting is: the parts so far, where the open part begins, where it looks. -/
def Far (c : UInt8) (s : List UInt8) (acc : List ByteArray) (f i : Nat) : Prop :=
  (i ≤ s.length ∧ f ≤ i ∧ Pc.pcs c s = acc ++ Pc.pcs c (s.drop f) ∧ c ∉ (s.drop f).take (i - f)) ∨ (i = s.length + 1 ∧ f ≤ i ∧ Pc.pcs c s = acc)
theorem far_zero (c : UInt8) (s : List UInt8) : Far c s [] 0 0 := .inl ⟨Nat.zero_le _, Nat.le_refl _, by simp, by simp⟩
theorem far_on {c : UInt8} {s : List UInt8} {acc : List ByteArray} {f i : Nat} (h : Far c s acc f i) (hi : i < s.length) (hc : ¬ s[i] = c) : Far c s acc f (i + 1) := by
  rcases h with ⟨h1, h2, h3, h4⟩ | ⟨h1, _⟩
  · refine .inl ⟨by omega, by omega, h3, ?_⟩
    rw [show i + 1 - f = (i - f) + 1 by omega, List.take_add_one, List.getElem?_drop, show f + (i - f) = i by omega, List.getElem?_eq_getElem hi]
    simp only [Option.toList_some, List.mem_append, List.mem_singleton, not_or]
    exact ⟨h4, fun e => hc e.symm⟩
  · omega
theorem far_cut {c : UInt8} {s : List UInt8} {acc : List ByteArray} {f i : Nat} (h : Far c s acc f i) (hi : i < s.length) (hc : s[i] = c) : Far c s (acc ++ [Pc.ba ((s.drop f).take (i - f))]) (i + 1) (i + 1) := by
  rcases h with ⟨h1, h2, h3, h4⟩ | ⟨h1, _⟩
  · refine .inl ⟨by omega, Nat.le_refl _, ?_, by simp⟩
    have e : s.drop f = (s.drop f).take (i - f) ++ c :: s.drop (i + 1) := by
      conv => lhs; rw [← List.take_append_drop (i - f) (s.drop f)]
      rw [List.drop_drop, show f + (i - f) = i by omega, List.drop_eq_getElem_cons hi, hc]
    rw [h3, List.append_assoc]
    congr 1
    unfold Pc.pcs
    conv => lhs; rw [e, Pc.pieces_cut c _ _ h4]
    rfl
  · omega
theorem far_end {c : UInt8} {s : List UInt8} {acc : List ByteArray} {f i : Nat} (h : Far c s acc f i) (hi : i = s.length) : Far c s (acc ++ [Pc.ba ((s.drop f).take (i - f))]) (i + 1) (i + 1) := by
  rcases h with ⟨h1, h2, h3, h4⟩ | ⟨h1, _⟩
  · refine .inr ⟨by omega, Nat.le_refl _, ?_⟩
    have e : (s.drop f).take (i - f) = s.drop f := List.take_of_length_le (by rw [List.length_drop]; omega)
    rw [e] at h4 ⊢
    rw [h3]
    unfold Pc.pcs
    rw [Pc.pieces_no c _ h4]
    rfl
  · omega
theorem ext_eq (s : ByteArray) (a b : Nat) : s.extract a b = Pc.ba ((s.data.toList.drop a).take (b - a)) := by
  rw [← Pc.ba_of (s.extract a b)]
  congr 1
  rw [ByteArray.data_extract, Array.toList_extract, List.extract_eq_take_drop]
theorem at_eq (s : ByteArray) (i : Nat) (_h : i < s.size) (h' : i < s.data.toList.length) : s.data.toList[i] = s[i]'_h := by rw [Array.getElem_toList]; rfl
set_option maxHeartbeats 2000000 in
theorem parts (w : World) (s : ByteArray) (c : UInt8) (hs : s.size ≤ 1048576) :
    Calls Tryz.prog 8 #[.string s, .int .u8 (c.toNat : Int)] w fun e w' => ∃ v, e = .returned v ∧ Ls.Own w' w.heap.size v (Pc.pcs c s.data.toList) ∧ Below w.heap.size w w' := by
  obtain ⟨i0, hi, hz0, hz1, hz2⟩ := info_parts Ls.info_str
  go_enter Tryz.func8, Tryz.ntmps8
  go_wp2
  have own0 : Ls.Own (w.alloc (.cells #[] 9)) w.heap.size (.slice (some ⟨w.heap.size, 0, none⟩) 0 0) [] := by
    unfold Ls.Own
    exact ⟨by simp [Ls.sv], .inr ⟨w.heap.size, 0, _, rfl, Nat.le_refl _, heap_alloc_new _ _, Nat.le_refl _, by unfold maxLen; omega, by simp, by simp [Ls.sv]⟩⟩
  go_loopw [5, 6, 7] (fun v f i wr => ∃ (acc : List ByteArray) (kf ki : Nat), Far c s.data.toList acc kf ki ∧ f = .int .i64 kf ∧ i = .int .i64 ki ∧ acc.length ≤ ki ∧ Ls.Own wr w.heap.size v acc ∧ Below w.heap.size w wr) (fun _ _ i _ => s.size + 2 - (intOf i).toNat)
  case atStart => exact ⟨[], 0, 0, far_zero _ _, rfl, rfl, by simp, own0, (Below.refl _ _).alloc (Nat.le_refl _) _⟩
  case round =>
    obtain ⟨acc, kf, ki, hfar, rfl, rfl, hal, hown, hB⟩ := hrel
    have HF : Hid (Far c s.data.toList acc kf ki) := hfar
    have hsl : s.data.toList.length = s.size := by simp
    have hkf : kf ≤ ki ∧ ki ≤ s.size + 1 := by rcases hfar with h | h <;> omega
    have HS : Hid (s.data.toList.length = s.size) := hsl
    clear hfar hsl own0
    by_cases h1 : ki ≤ s.size
    · by_cases h2 : ki < s.size
      · have hne : ((ki : Int) == (s.size : Int)) = false := by simp; omega
        have hsz := hB.size
        have hL : ki < s.data.toList.length := by have := HS.out; omega
        have HQ := at_eq s ki h2 hL
        by_cases hc : s[ki]'h2 = c
        · have hb : (((s[ki]'h2).toNat : Int) == (c.toNat : Int)) = true := by rw [hc]; simp
          have HN : Hid (Far c s.data.toList (acc ++ [s.extract kf ki]) (ki + 1) (ki + 1)) := by show Far _ _ _ _ _; rw [ext_eq]; exact far_cut HF.out hL (HQ.trans hc)
          clear hc HQ hL
          go_wp2_with (at_builtin; refine wpList_append_own _ rfl _ _ 31 rfl w.heap.size 9 i0 (.string ⟨#[]⟩) 1 16 Tryz.underlying31 hi hz0 hz1 hz2 rfl (by decide) _ _ _ rfl (World.ownsRow.alloc hown _) ⟨wr.heap.size, 0, none⟩ 1 1 [.string (s.extract kf ki)] rfl rfl (Ap.one_cell _ _ _ rfl) (Ap.one_one _ rfl) (by unfold maxLen; omega) (by omega) (by simp; omega) ?_; intro v5 w5 hown5 hgrow _)
          have HO : Hid (Ls.Own w5 w.heap.size v5 (acc ++ [s.extract kf ki])) := Ap.sown_snoc rfl hown5
          have HBn : Hid (Below w.heap.size w w5) := (hB.alloc hB.size _).trans (Li.below_own hgrow (fun k hk => (World.ownsRow.lt hown k hk).1) (by simp; omega))
          clear hown5 hgrow hown hB
          go_wp2
          go_roundw
          case rel => exact ⟨acc ++ [s.extract kf ki], ki + 1, ki + 1, HN.out, by go_num, by go_num, by simp; omega, HO.out, HBn.out⟩
          case measure => simp [intOf]; omega
        · have hb : (((s[ki]'h2).toNat : Int) == (c.toNat : Int)) = false := by
            simp only [beq_eq_false_iff_ne, ne_eq]
            intro e
            exact hc (UInt8.toNat_inj.1 (by omega))
          have HN : Hid (Far c s.data.toList acc kf (ki + 1)) := far_on HF.out hL (by rw [HQ]; exact hc)
          clear hc HQ hL
          go_wp2
          go_roundw
          case rel => exact ⟨acc, kf, ki + 1, HN.out, rfl, by go_num, by omega, hown, hB⟩
          case measure => simp [intOf]; omega
      · have hki : ki = s.size := by omega
        have hsz := hB.size
        have HN : Hid (Far c s.data.toList (acc ++ [s.extract kf ki]) (ki + 1) (ki + 1)) := by show Far _ _ _ _ _; rw [ext_eq]; exact far_end HF.out (by rw [HS.out]; exact hki)
        have heq : ((ki : Int) == (s.size : Int)) = true := by simp; omega
        have h2' : ¬ s.size < ki := by omega
        have HK : Hid (ki = s.size) := hki
        clear hki
        go_wp2_with (at_builtin; refine wpList_append_own _ rfl _ _ 31 rfl w.heap.size 9 i0 (.string ⟨#[]⟩) 1 16 Tryz.underlying31 hi hz0 hz1 hz2 rfl (by decide) _ _ _ rfl (World.ownsRow.alloc hown _) ⟨wr.heap.size, 0, none⟩ 1 1 [.string (s.extract kf ki)] rfl rfl (Ap.one_cell _ _ _ rfl) (Ap.one_one _ rfl) (by unfold maxLen; omega) (by omega) (by simp; omega) ?_; intro v5 w5 hown5 hgrow _)
        have HO : Hid (Ls.Own w5 w.heap.size v5 (acc ++ [s.extract kf ki])) := Ap.sown_snoc rfl hown5
        have HBn : Hid (Below w.heap.size w w5) := (hB.alloc hB.size _).trans (Li.below_own hgrow (fun k hk => (World.ownsRow.lt hown k hk).1) (by simp; omega))
        clear hown5 hgrow hown hB
        go_wp2
        go_roundw
        case rel => exact ⟨acc ++ [s.extract kf ki], ki + 1, ki + 1, HN.out, by go_num, by go_num, by simp; omega, HO.out, HBn.out⟩
        case measure => simp [intOf]; omega
    · have HE : Hid (Pc.pcs c s.data.toList = acc) := by
        rcases HF.out with h | h
        · have := HS.out; omega
        · exact h.2.2
      go_wp2
      go_ret
      exact ⟨_, rfl, by rw [HE.out]; exact hown, hB⟩
end Go.Proofs.YtadjedoakenlkaaGreatDoor.Sp
