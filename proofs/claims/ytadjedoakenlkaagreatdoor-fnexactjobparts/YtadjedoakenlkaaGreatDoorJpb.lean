/-
  A job's text taken apart by the program: a word ahead of a line, an end of line at a text's end; a line of numbers.
-/
import Derived.Test.YtadjedoakenlkaaGreatDoorJpa
import Derived.Test.YtadjedoakenlkaaGreatDoorMtp
import Derived.Test.YtadjedoakenlkaaGreatDoorRmv
import Derived.Deep.RegionHeld3
namespace Go.Proofs.YtadjedoakenlkaaGreatDoor.Jp
set_option maxRecDepth 100000
open Go.RowKit
open Go.Proofs.YtadjedoakenlkaaGreatDoor.Mt (nums ba_ext ba_size i64)
open Go.Proofs.YtadjedoakenlkaaGreatDoor.Rm (Vs inums inumbers)
open Go.Proofs.YtadjedoakenlkaaGreatDoor.Rs (b11)
set_option linter.unusedVariables false
theorem ext_list (s : ByteArray) (a b : Nat) : (s.extract a b).data.toList = (s.data.toList.drop a).take (b - a) := by
  simp [ByteArray.data_extract, Array.toList_extract]
theorem pre_iff (s p : ByteArray) (h : p.size ≤ s.size) : s.extract 0 p.size = p ↔ p.data.toList <+: s.data.toList := by
  have hp : p.data.toList.length = p.size := by simp
  constructor
  · intro e
    have := congrArg (fun x => x.data.toList) e
    simp only [ext_list] at this
    rw [← this]
    simp [List.take_prefix]
  · intro e
    refine ba_ext ?_
    rw [ext_list, List.drop_zero, Nat.sub_zero, ← hp]
    exact (List.prefix_iff_eq_take.1 e).symm
theorem trim_ba (s p : ByteArray) (h : p.data.toList <+: s.data.toList) : s.extract p.size s.size = ⟨(trim s.data.toList p.data.toList).toArray⟩ := by
  refine ba_ext ?_
  rw [ext_list]
  unfold trim
  rw [if_pos h]
  simp only [Array.length_toList]
  rw [List.take_of_length_le]
  · simp
  · simp
theorem trim_no (s p : ByteArray) (h : ¬ p.data.toList <+: s.data.toList) : s = ⟨(trim s.data.toList p.data.toList).toArray⟩ := by
  refine ba_ext ?_
  unfold trim
  rw [if_neg h]
set_option maxHeartbeats 1000000 in
theorem ihaspre (w : World) (s p : ByteArray) (hs : s.size ≤ 30000) (hp : p.size ≤ 30000) :
    Calls Tryz.prog 53 #[.string s, .string p] w fun e w' => (p.data.toList <+: s.data.toList ∧ e = .returned (.bool true) ∨ ¬ p.data.toList <+: s.data.toList ∧ e = .returned (.bool false)) ∧ w' = w := by
  go_enter Tryz.func53, Tryz.ntmps53
  by_cases hl : p.size ≤ s.size
  · by_cases he : s.extract 0 p.size = p
    · have hq := Ls.tl_eq he
      have HR : Hid (p.data.toList <+: s.data.toList) := (pre_iff s p hl).1 he
      go_wp2
      go_ret
      exact ⟨.inl ⟨HR.out, rfl⟩, rfl⟩
    · have hq := Ls.tl_ne he
      have HR : Hid (¬ p.data.toList <+: s.data.toList) := fun e => he ((pre_iff s p hl).2 e)
      go_wp2
      go_ret
      exact ⟨.inr ⟨HR.out, rfl⟩, rfl⟩
  · go_wp2
    go_ret
    exact ⟨.inr ⟨fun e => hl (by have := e.length_le; simpa using this), rfl⟩, rfl⟩
set_option maxHeartbeats 1000000 in
theorem itrim0 (w : World) (s p : ByteArray) (hs : s.size ≤ 30000) (hp : p.size ≤ 30000) :
    Calls Tryz.prog 38 #[.string s, .string p] w fun e w' => e = .returned (.string ⟨(trim s.data.toList p.data.toList).toArray⟩) ∧ w' = w := by
  go_enter Tryz.func38, Tryz.ntmps38
  go_wp2_with fail
  refine (ihaspre w s p hs hp).mono ?_
  rintro e w1 ⟨he, rfl⟩
  rcases he with ⟨h, rfl⟩ | ⟨h, rfl⟩
  · have hl : p.size ≤ s.size := by have := h.length_le; simpa using this
    have HT : Hid (s.extract p.size s.size = ⟨(trim s.data.toList p.data.toList).toArray⟩) := trim_ba s p h
    clear h
    go_wp2
    go_ret
    exact ⟨congrArg (fun x => Ending.returned (Value.string x)) HT.out, rfl⟩
  · have HT : Hid (s = ⟨(trim s.data.toList p.data.toList).toArray⟩) := trim_no s p h
    clear h
    go_wp2
    go_ret
    exact ⟨congrArg (fun x => Ending.returned (Value.string x)) HT.out, rfl⟩
theorem itrim (w : World) (s p : ByteArray) (hs : s.size ≤ 30000) (hp : p.size ≤ 30000) :
    Calls Tryz.prog 25 #[.string s, .string p] w fun e w' => e = .returned (.string ⟨(trim s.data.toList p.data.toList).toArray⟩) ∧ w' = w := by
  go_enter Tryz.func25, Tryz.ntmps25
  go_wp2_with (go_at_call 38; refine (itrim0 w s p hs hp).mono ?_; rintro e w1 ⟨rfl, rfl⟩)
  go_ret
  exact ⟨rfl, rfl⟩
theorem suf_iff (s : ByteArray) (h : 1 ≤ s.size) : s.extract (s.size - 1) s.size = ⟨#[10]⟩ ↔ ∃ r, s.data.toList = r ++ [10] := by
  have hl : s.data.toList.length = s.size := by simp
  constructor
  · intro e
    have := congrArg (fun x => x.data.toList) e
    simp only [ext_list] at this
    refine ⟨s.data.toList.take (s.size - 1), ?_⟩
    rw [List.take_of_length_le (by rw [List.length_drop]; omega)] at this
    rw [← this, List.take_append_drop]
  · rintro ⟨r, hr⟩
    refine ba_ext ?_
    rw [ext_list, hr]
    have : s.size - 1 = r.length := by rw [hr] at hl; simp at hl; omega
    rw [this, List.drop_left]
    have : s.size - r.length = 1 := by omega
    rw [this]
    rfl
set_option maxHeartbeats 1000000 in
theorem ihassuf (w : World) (s : ByteArray) (hs : s.size ≤ 30000) :
    Calls Tryz.prog 10 #[.string s, .string ⟨#[10]⟩] w fun e w' => ((∃ r, s.data.toList = r ++ [10]) ∧ e = .returned (.bool true) ∨ (¬ ∃ r, s.data.toList = r ++ [10]) ∧ e = .returned (.bool false)) ∧ w' = w := by
  have h0 : Calls Tryz.prog 16 #[.string s, .string ⟨#[10]⟩] w fun e w' => ((∃ r, s.data.toList = r ++ [10]) ∧ e = .returned (.bool true) ∨ (¬ ∃ r, s.data.toList = r ++ [10]) ∧ e = .returned (.bool false)) ∧ w' = w := by
    have hz : (ByteArray.mk #[10]).size = 1 := rfl
    go_enter Tryz.func16, Tryz.ntmps16
    by_cases hl : 1 ≤ s.size
    · have hw : IntKind.i64.wrap ((s.size : Int) - 1) = ((s.size - 1 : Nat) : Int) := by rw [IntKind.wrap_i64]; omega
      by_cases he : s.extract (s.size - 1) s.size = ⟨#[10]⟩
      · have hq := Ls.tl_eq he
        rw [show (ByteArray.mk #[10]).toList = [10] by kernel_rfl] at hq
        have HR : Hid (∃ r, s.data.toList = r ++ [10]) := (suf_iff s hl).1 he
        go_wp2
        go_ret
        exact ⟨.inl ⟨HR.out, rfl⟩, rfl⟩
      · have hq := Ls.tl_ne he
        rw [show (ByteArray.mk #[10]).toList = [10] by kernel_rfl] at hq
        have HR : Hid (¬ ∃ r, s.data.toList = r ++ [10]) := fun e => he ((suf_iff s hl).2 e)
        go_wp2
        go_ret
        exact ⟨.inr ⟨HR.out, rfl⟩, rfl⟩
    · go_wp2
      go_ret
      refine ⟨.inr ⟨?_, rfl⟩, rfl⟩
      intro r hr
      have := congrArg List.length hr
      simp at this
      omega
  go_enter Tryz.func10, Tryz.ntmps10
  go_wp2_with fail
  refine h0.mono ?_
  rintro e w1 ⟨he, rfl⟩
  rcases he with ⟨h, rfl⟩ | ⟨h, rfl⟩
  · have HR : Hid (type_of% h) := h
    clear h h0
    go_wp2
    go_ret
    exact ⟨.inl ⟨HR.out, rfl⟩, rfl⟩
  · have HR : Hid (type_of% h) := h
    clear h h0
    go_wp2
    go_ret
    exact ⟨.inr ⟨HR.out, rfl⟩, rfl⟩
/-- What a line of a word and numbers gives. -/
def Nb (w w' : World) (word l : List UInt8) (k : Nat) (e : Ending) : Prop :=
  (∃ xs a c, NL word k l xs ∧ e = .returned (.tuple #[.slice a xs.length c, .bool true]) ∧ Li.Own w' w.heap.size (.slice a xs.length c) xs) ∨ ((∀ xs, ¬ NL word k l xs) ∧ ∃ v, e = .returned (.tuple #[v, .bool false]))
theorem b11_i64 {x : Int} (h : b11 x) : i64 x := by unfold b11 at h; unfold i64; omega
set_option maxHeartbeats 2000000 in
theorem inb (w : World) (word l : ByteArray) (k : Nat) (hV : Vs w) (hw : word.size ≤ 30) (hl : l.size ≤ 9000) (hk : k ≤ 100) :
    Calls Tryz.prog 18 #[.string word, .string l, .int .i64 (k : Int)] w fun e w' => Nb w w' word.data.toList l.data.toList k e ∧ Below w.heap.size w w' := by
  go_enter Tryz.func18, Tryz.ntmps18
  have htl : (ByteArray.mk (trim l.data.toList word.data.toList).toArray).size ≤ 30000 := by
    rw [ba_size]
    have : l.data.toList.length = l.size := by simp
    unfold trim
    split
    · rw [List.length_drop]; omega
    · omega
  have HN : Hid (∀ xs, NL word.data.toList k l.data.toList xs → inums (trim l.data.toList word.data.toList) = some xs) := fun xs h => nl_read h
  go_wp2_with (go_at_call 25; refine (itrim w l word (by omega) (by omega)).mono ?_; rintro e w1 ⟨rfl, rfl⟩)
  refine (inumbers w1 hV _ htl).mono ?_
  rintro e w2 ⟨he, hB⟩
  have htd : (ByteArray.mk (trim l.data.toList word.data.toList).toArray).data.toList = trim l.data.toList word.data.toList := by simp
  rw [htd] at he
  have HE : Hid (type_of% he) := he
  clear he htd
  rcases HE.out with ⟨xs, a, c, h1, h2, rfl, ho⟩ | ⟨h1, rfl⟩
  · have HONE : Hid (∀ ys, NL word.data.toList k l.data.toList ys → ys = xs) := fun ys h => by have := HN.out ys h; rw [h1] at this; exact (Option.some.inj this).symm
    have HBD : Hid (∀ x ∈ xs, i64 x) := h2
    clear h1 h2 HN HE
    obtain ⟨n, hn⟩ : ∃ n, xs.length = n := ⟨_, rfl⟩
    have HLN : Hid (xs.length = n) := hn
    rw [hn] at ho ⊢
    clear hn
    have HO : Hid (type_of% ho) := ho
    have HB : Hid (type_of% hB) := hB
    clear ho hB
    by_cases hlen : n = k
    · subst hlen
      obtain ⟨a', c', e', hi⟩ := HO.out.isl
      rw [HLN.out] at e'
      injection e' with e1 _ e2
      subst e1; subst e2
      have HSP := Mt.ispaced w2 a c xs hi HBD.out (by rw [HLN.out]; omega) (hV.1.below HB.out)
      rw [HLN.out] at HSP
      have hne : ((n : Int) != (n : Int)) = false := by simp
      go_wp2_with fail
      refine HSP.mono ?_
      rintro e w3 ⟨rfl, hB3⟩
      have HO3 : Hid (type_of% (HO.out.below hB3)) := HO.out.below hB3
      have HB3 : Hid (Below w1.heap.size w1 w3) := HB.out.trans (hB3.mono HB.out.size)
      have HIS : Hid (Li.IsL w3 a xs) := hi.below hB3
      clear hB3 HSP hi
      have hns : (ByteArray.mk (nums xs).toArray).size ≤ 30000 := by
        rw [ba_size]; have h1 := Mt.nums_len xs HBD.out; have := HLN.out; omega
      have HDT : Hid ((ByteArray.mk (nums xs).toArray).data.toList = nums xs) := by show _ = _; simp
      generalize ByteArray.mk (nums xs).toArray = nt at hns HDT ⊢
      by_cases he : word ++ nt = l
      · have HTX : Hid (word.data.toList ++ nums xs = l.data.toList) := by
          show _ = _
          rw [← he, ← HDT.out]
          simp
        subst he
        clear hl
        go_wp2
        go_loopw [37] (fun i wr => ∃ j : Nat, j ≤ n ∧ i = .int .i64 j ∧ wr = w3 ∧ ∀ q (hq : q < xs.length), q < j → b11 xs[q]) (fun i _ => n - (intOf i).toNat)
        case atStart => exact ⟨0, Nat.zero_le _, rfl, rfl, fun q _ h => absurd h (Nat.not_lt_zero _)⟩
        case round =>
          obtain ⟨j, hj, rfl, rfl, hb⟩ := hrel
          have HBJ : Hid (type_of% hb) := hb
          clear hb
          by_cases hlt : j < n
          · have HJ : Hid (j < xs.length) := by show _ < _; rw [HLN.out]; exact hlt
            rcases HIS.out with h0 | ⟨xb, xo, rfl, hxb, hxc⟩
            · have := HLN.out; rw [h0] at this; simp at this; omega
            have hcx := hxc j HJ.out
            have hxi := HBD.out xs[j] (List.getElem_mem HJ.out)
            have HNX : Hid (b11 xs[j] → ∀ q (hq : q < xs.length), q < j + 1 → b11 xs[q]) := fun h q hq hl => by
              by_cases e : q = j
              · subst e; exact h
              · exact HBJ.out q hq (by omega)
            have HNO : Hid (¬ b11 xs[j] → ∀ ys, ¬ NL word.data.toList n (word ++ nt).data.toList ys) := fun h ys hy => by
              have e1 := HONE.out ys hy
              subst e1
              exact h (hy.2.2 _ (List.getElem_mem HJ.out))
            generalize xs[j] = x at hcx hxi HNX HNO
            clear hxc
            by_cases hb : b11 x
            · have HN1 : Hid (type_of% (HNX.out hb)) := HNX.out hb
              have hb0 : -99999999999 ≤ x ∧ x ≤ 99999999999 := by unfold b11 at hb; omega
              obtain ⟨q0, q1⟩ := hb0
              clear hb HNX HNO
              go_wp2
              go_roundw
              case rel => exact ⟨j + 1, by omega, by go_num, by first | rfl | trivial, HN1.out⟩
              case measure => simp [intOf]; omega
            · have HN1 : Hid (type_of% (HNO.out hb)) := HNO.out hb
              by_cases h0 : x < -99999999999
              · clear hb HNX HNO
                go_wp2
                go_ret2
                exact ⟨.inr ⟨HN1.out, _, rfl⟩, HB3.out⟩
              · have h1 : 99999999999 < x := by unfold b11 at hb; omega
                clear hb HNX HNO
                go_wp2
                go_ret2
                exact ⟨.inr ⟨HN1.out, _, rfl⟩, HB3.out⟩
          · obtain rfl : j = n := by omega
            go_wp2
            go_ret2
            refine ⟨.inl ⟨xs, a, c, nl_yes HLN.out HTX.out (fun x hx => ?_), by rw [HLN.out]; rfl, by rw [HLN.out]; exact HO3.out⟩, HB3.out⟩
            obtain ⟨q, hq, rfl⟩ := List.getElem_of_mem hx
            exact HBJ.out q hq (by have := HLN.out; omega)
      · have hq := Ls.tl_ne he
        have HNO : Hid (∀ xs, ¬ NL word.data.toList n l.data.toList xs) := fun ys h => by
          have e1 := HONE.out ys h
          subst e1
          refine he (ba_ext ?_)
          rw [h.1, ← HDT.out]
          simp
        go_wp2
        go_ret2
        exact ⟨.inr ⟨HNO.out, _, rfl⟩, HB3.out⟩
    · have hne : ((n : Int) != (k : Int)) = true := by simp; omega
      have HNO : Hid (∀ xs, ¬ NL word.data.toList k l.data.toList xs) := fun ys h => by
        have e1 := HONE.out ys h
        subst e1
        exact hlen (HLN.out.symm.trans h.2.1)
      clear HONE
      go_wp2
      go_ret2
      exact ⟨.inr ⟨HNO.out, _, rfl⟩, HB.out⟩
  · have HNO : Hid (∀ xs, ¬ NL word.data.toList k l.data.toList xs) := fun xs h => by have := HN.out xs h; rw [h1] at this; cases this
    clear h1 HN HE
    go_wp2
    go_ret2
    exact ⟨.inr ⟨HNO.out, _, rfl⟩, hB⟩
end Go.Proofs.YtadjedoakenlkaaGreatDoor.Jp
