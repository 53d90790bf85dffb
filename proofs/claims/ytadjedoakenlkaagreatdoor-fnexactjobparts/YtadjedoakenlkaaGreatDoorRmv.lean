/-
  What the program's reading of numbers answers: the numbers that stand between blanks, or that one of them is none.
-/
import Derived.Test.YtadjedoakenlkaaGreatDoorRmn
import Derived.Test.YtadjedoakenlkaaGreatDoorApI
import Derived.Lib.LaidTab
namespace Go.Proofs.YtadjedoakenlkaaGreatDoor.Rm
set_option maxRecDepth 100000
open Go.RowKit
set_option linter.unusedVariables false
/-- What the walks ask of the library's variables. -/
def Vs (w : World) : Prop := Nu.Tab w ∧ (∃ m, w.cell? ⟨0, 0, none⟩ = some (.int .i64 m)) ∧ (∃ tp p, w.var? Tryz.prog "strconv.ErrSyntax" = some #[.iface tp p]) ∧ (∃ tp p, w.var? Tryz.prog "strconv.ErrRange" = some #[.iface tp p]) ∧ Lib.TabIs Tryz.prog w "strings.asciiSpace" .u8 Lib.asciiSpaceTab ∧ Lib.WhiteTab 2 w
theorem var_lt {n : String} {g : Nat} {v : Value} {w : World} (hg : Tryz.prog.globalNamed n = some g) (hv : w.var? Tryz.prog n = some #[v]) : g < w.heap.size :=
  World.block_lt_of_cell? w ⟨g, 0, none⟩ (u := v) (by have := World.var?_cell hg hv 0; simpa using this)
theorem gES : Tryz.prog.globalNamed "strconv.ErrSyntax" = some 3 := by kernel_rfl
theorem gER : Tryz.prog.globalNamed "strconv.ErrRange" = some 4 := by kernel_rfl
theorem gAS : Tryz.prog.globalNamed "strings.asciiSpace" = some 1 := by kernel_rfl
theorem Vs.below {w w' : World} (h : Vs w) (hb : Below w.heap.size w w') : Vs w' := by
  obtain ⟨h1, ⟨m, hm⟩, ⟨t2, p2, h2⟩, ⟨t3, p3, h3⟩, h4, h5⟩ := h
  refine ⟨h1.below hb, ⟨m, ?_⟩, ⟨t2, p2, var?_below hb gES (var_lt gES h2) h2⟩, ⟨t3, p3, var?_below hb gER (var_lt gER h3) h3⟩, var?_below hb gAS (World.block_lt_of_cell? w _ (Lib.TabIs.cell h4 gAS 0 (by decide))) h4, WhiteTab_below h5 hb⟩
  rw [hb.cell (p := ⟨0, 0, none⟩) (World.block_lt_of_cell? w _ hm)]
  exact hm
theorem atoi_any (t : ByteArray) (w : World) (ht : t.size ≤ 281474976710656) (hV : Vs w) :
    Calls Tryz.prog 37 #[.string t] w fun e w' => ((∃ v, num t.data.toList = some v ∧ -9223372036854775808 ≤ v ∧ v ≤ 9223372036854775807 ∧ e = .returned (.tuple #[.int .i64 v, .nilIface])) ∨ (num t.data.toList = none ∧ ∃ (v : Int) (N : Nat), e = .returned (.tuple #[.int .i64 v, .iface 119 (.pointer (some ⟨N, 0, none⟩))]))) ∧ Below w.heap.size w w' := by
  obtain ⟨_, _, ⟨t2, p2, h2⟩, ⟨t3, p3, h3⟩, _⟩ := hV
  have hs : ∀ h, Calls Tryz.prog 37 #[.string t] w fun e w' => ∃ N, e = .returned (.tuple #[.int .i64 0, .iface 119 (.pointer (some ⟨N, 0, none⟩))]) ∧ w.heap.size ≤ N ∧ w'.heap[N]? = some (.cells #[.string ⟨#[65, 116, 111, 105]⟩, .string t, .iface t2 p2] 174 (0, 0)) ∧ Below w.heap.size w w' :=
    fun h => Any.strconv_Atoi_syntax_var Tryz.laysC172 t ht h t2 p2 w h2
  cases h : Lib.atoiAll t.data.toList
  · rename_i v
    have hbd := Lib.atoiAll_bounds h
    refine (Tryz.strconv_Atoi_ok t (by omega) v h w).mono ?_
    rintro e w' ⟨rfl, hw⟩
    refine ⟨.inl ⟨v, by unfold num; rw [h], hbd.1, hbd.2, rfl⟩, ?_⟩
    rcases hw with rfl | ⟨u, rfl⟩
    · exact Below.refl _ _
    · exact Lib.bytesWorld_below _ _ _
  · refine (hs h).mono ?_
    rintro e w' ⟨N, rfl, _, _, hB⟩
    exact ⟨.inr ⟨by unfold num; rw [h], _, N, rfl⟩, hB⟩
  · refine (Tryz.strconv_Atoi_range_var t ht h t3 p3 w h3).mono ?_
    rintro e w' ⟨N, rfl, _, _, hB⟩
    exact ⟨.inr ⟨by unfold num; rw [h], _, N, rfl⟩, hB⟩
theorem fd_len : ∀ (f : Nat) (cur l : List UInt8), (Lib.fieldsGoD f cur l).length ≤ cur.length + l.length ∧ ∀ x ∈ Lib.fieldsGoD f cur l, x.length ≤ cur.length + l.length := by
  intro f
  have base : ∀ cur l : List UInt8, (if cur = [] then ([] : List (List UInt8)) else [cur]).length ≤ cur.length + l.length ∧ ∀ x ∈ (if cur = [] then ([] : List (List UInt8)) else [cur]), x.length ≤ cur.length + l.length := fun cur l => by
    by_cases h : cur = []
    · simp [h]
    · have := List.length_pos_iff.2 h
      simp [h]; omega
  induction f with
  | zero => intro cur l; exact base cur l
  | succ f ih =>
    intro cur l
    rw [Lib.fieldsGoD]
    by_cases h0 : l = []
    · rw [if_pos h0]; exact base cur l
    · rw [if_neg h0]
      have hd : (l.drop (Lib.decodeL l).2).length ≤ l.length := by rw [List.length_drop]; omega
      by_cases h1 : Lib.isSpaceR (Lib.decodeL l).1 = true
      · rw [if_pos h1]
        obtain ⟨i1, i2⟩ := ih [] (l.drop (Lib.decodeL l).2)
        obtain ⟨b1, b2⟩ := base cur []
        simp only [List.length_nil, Nat.zero_add, Nat.add_zero] at i1 i2 b1 b2
        refine ⟨by rw [List.length_append]; omega, fun x hx => ?_⟩
        rcases List.mem_append.1 hx with h | h
        · have := b2 x h; omega
        · have := i2 x h; omega
      · rw [if_neg h1]
        obtain ⟨i1, i2⟩ := ih (cur ++ l.take (Lib.decodeL l).2) (l.drop (Lib.decodeL l).2)
        have e : (cur ++ l.take (Lib.decodeL l).2).length + (l.drop (Lib.decodeL l).2).length = cur.length + l.length := by
          rw [List.length_append, List.length_take, List.length_drop]; omega
        rw [e] at i1 i2
        exact ⟨i1, i2⟩
theorem numL_len : ∀ {fs : List (List UInt8)} {xs : List Int}, numL fs = some xs → xs.length = fs.length
  | [], xs, h => by simp [numL] at h; subst h; rfl
  | f :: fs, xs, h => by
    unfold numL at h
    cases h1 : num f with
    | none => rw [h1] at h; cases h
    | some v =>
      cases h2 : numL fs with
      | none => rw [h1, h2] at h; cases h
      | some vs =>
        rw [h1, h2] at h
        cases h
        simp [numL_len h2]
theorem inums_len {l : List UInt8} {xs : List Int} (h : inums l = some xs) : xs.length ≤ l.length := by
  have h1 := numL_len h
  have h2 := (fd_len (l.length + 1) [] l).1
  unfold Lib.fieldsD at h1
  simp at h2
  omega
theorem numL_snoc : ∀ (fs : List (List UInt8)) (f : List UInt8), numL (fs ++ [f]) = (match numL fs, num f with
    | some xs, some v => some (xs ++ [v])
    | _, _ => none)
  | [], f => by
    simp only [List.nil_append, numL]
    cases num f <;> rfl
  | g :: fs, f => by
    have ih := numL_snoc fs f
    simp only [List.cons_append, numL, ih]
    cases num g with
    | none => rfl
    | some v =>
      cases numL fs with
      | none => rfl
      | some xs => cases num f <;> rfl
theorem numL_take {fs : List (List UInt8)} {k : Nat} (hk : k < fs.length) {xs : List Int} (h : numL (fs.take k) = some xs) {v : Int} (hv : num fs[k] = some v) : numL (fs.take (k + 1)) = some (xs ++ [v]) := by
  rw [List.take_succ_eq_append_getElem hk, numL_snoc, h, hv]
theorem numL_no : ∀ {fs : List (List UInt8)} {k : Nat} (hk : k < fs.length), num fs[k] = none → numL fs = none
  | f :: fs, 0, _, h => by
    unfold numL
    rw [show num f = none from h]
  | f :: fs, k + 1, hk, h => by
    have := numL_no (fs := fs) (k := k) (by simpa using hk) h
    unfold numL
    rw [this]
    cases num f <;> rfl
set_option maxHeartbeats 2000000 in
theorem inumbers (w : World) (hV : Vs w) (s : ByteArray) (hs : s.size ≤ 30000) :
    Calls Tryz.prog 24 #[.string s] w fun e w' => ((∃ xs a c, inums s.data.toList = some xs ∧ (∀ x ∈ xs, -9223372036854775808 ≤ x ∧ x ≤ 9223372036854775807) ∧ e = .returned (.tuple #[.slice a xs.length c, .bool true]) ∧ Li.Own w' w.heap.size (.slice a xs.length c) xs) ∨ (inums s.data.toList = none ∧ e = .returned (.tuple #[.slice none 0 0, .bool false]))) ∧ Below w.heap.size w w' := by
  obtain ⟨i0, hi, hz0, hz1, hz2⟩ := info_parts Li.info_int
  have hsz : s.data.toList.length = s.size := by simp
  have HI : Hid (inums s.data.toList = numL (Lib.fieldsD s.data.toList)) := rfl
  obtain ⟨F, hF⟩ : ∃ F, Lib.fieldsD s.data.toList = F := ⟨_, rfl⟩
  have hfl : F.length ≤ 30000 ∧ ∀ x ∈ F, x.length ≤ 30000 := by
    have h1 := fd_len (s.data.toList.length + 1) [] s.data.toList
    have e : Lib.fieldsGoD (s.data.toList.length + 1) [] s.data.toList = F := hF
    rw [e, List.length_nil, Nat.zero_add, hsz] at h1
    exact ⟨by omega, fun x hx => by have := h1.2 x hx; omega⟩
  obtain ⟨hfn, hfx⟩ := hfl
  rw [hF] at HI
  go_enter Tryz.func24, Tryz.ntmps24
  go_wp2_with fail
  refine (Tryz.strings_Fields_any s w (by omega) hV.2.2.2.2.1 hV.2.2.2.2.2).mono ?_
  rintro e w1 ⟨A, rfl, hA, ho, hB⟩
  rw [hF] at ho ⊢
  have hV1 := hV.below hB
  have HC : Hid (∀ k (hk : k < F.length), w1.cell? ⟨A, k, none⟩ = some (.string ⟨F[k].toArray⟩)) := fun k hk => by
    rw [World.ownsRow.cellAt ho k (by omega)]
    simp [hk]
  have hAl := (World.ownsRow.lt ho A rfl).2
  clear ho hF hsz
  go_wp2
  go_loopw [4, 12] (fun v i wr => ∃ (k : Nat) (xs : List Int), k ≤ F.length ∧ i = .int .i64 k ∧ xs.length = k ∧ numL (F.take k) = some xs ∧ (∀ x ∈ xs, -9223372036854775808 ≤ x ∧ x ≤ 9223372036854775807) ∧ Li.Own wr w1.heap.size v xs ∧ Below w1.heap.size w1 wr) (fun _ i _ => F.length - (intOf i).toNat)
  case atStart => exact ⟨0, [], Nat.zero_le _, rfl, rfl, rfl, fun x hx => by simp at hx, Li.Own.nil _ _, Below.refl _ _⟩
  case round =>
    obtain ⟨k, xs, hk, rfl, hxl, hnl, hbx, ho, hBr⟩ := hrel
    have HXL : Hid (xs.length = k) := hxl
    have HNL : Hid (numL (F.take k) = some xs) := hnl
    have HBX : Hid (∀ x ∈ xs, -9223372036854775808 ≤ x ∧ x ≤ 9223372036854775807) := hbx
    have hBe := hB.trans (hBr.mono hB.size)
    clear hxl hnl hbx
    by_cases hlt : k < F.length
    · have hcx := (hBr.cell (p := ⟨A, k, none⟩) hAl).trans (HC.out k hlt)
      have hfk := hfx F[k] (List.getElem_mem hlt)
      have HNO : Hid (num F[k] = none → inums s.data.toList = none) := fun e => by rw [HI.out]; exact numL_no hlt e
      have HYE : Hid (∀ v, num F[k] = some v → numL (F.take (k + 1)) = some (xs ++ [v])) := fun v e => numL_take hlt HNL.out e
      generalize F[k] = f at hcx hfk HNO HYE
      have hdl : (ByteArray.mk f.toArray).data.toList = f := by simp
      have hat := atoi_any ⟨f.toArray⟩ wr (by rw [Mt.ba_size]; omega) (hV1.below hBr)
      rw [hdl] at hat
      clear hdl
      go_wp2_with (go_at_call 37; refine hat.mono ?_)
      rintro e w2 ⟨he, hB2⟩
      have ho := ho.below hB2
      have hBr := hBr.trans (hB2.mono hBr.size)
      have hsz2 := hBr.size
      have hBe := hBe.trans (hB2.mono hBe.size)
      clear hB2 hat hcx
      rcases he with ⟨v, hv, v0, v1, rfl⟩ | ⟨hv, v, N, rfl⟩
      · have HXS : Hid (numL (F.take (k + 1)) = some (xs ++ [v])) := HYE.out v hv
        have HBS : Hid (∀ x ∈ xs ++ [v], -9223372036854775808 ≤ x ∧ x ≤ 9223372036854775807) := fun x hx => by
          rcases List.mem_append.1 hx with h | h
          · exact HBX.out x h
          · simp at h; subst h; exact ⟨v0, v1⟩
        clear hv
        have hxle : xs.length ≤ 30000 := by rw [HXL.out]; omega
        go_wp2_with (at_builtin; refine wpList_append_own _ rfl _ _ 33 rfl w1.heap.size 3 i0 (.int .i64 0) 1 8 Tryz.underlying33 hi hz0 hz1 hz2 rfl (by decide) _ _ _ rfl (World.ownsRow.alloc ho _) ⟨w2.heap.size, 0, none⟩ 1 1 [.int .i64 v] rfl rfl (Ai.one_cell _ _ _) (Ai.one_one _) (by unfold maxLen; omega) (by omega) (by simp; omega) ?_; intro v5 w5 hown5 hgrow _)
        have HO : Hid (Li.Own w5 w1.heap.size v5 (xs ++ [v])) := Ai.own_snoc rfl hown5
        have HB5 : Hid (Below w1.heap.size w1 w5) := (hBr.alloc hsz2 _).grown hgrow (by simp; omega) (fun g hg => (World.ownsRow.lt ho g hg).1)
        have HL5 : Hid ((xs ++ [v]).length = k + 1) := by show _ = _; rw [List.length_append, HXL.out]; rfl
        clear hown5 hgrow ho hBr
        go_wp2
        go_roundw
        case rel => exact ⟨k + 1, xs ++ [v], by omega, by go_num, HL5.out, HXS.out, HBS.out, HO.out, HB5.out⟩
        case measure => simp [intOf]; omega
      · have HR : Hid (inums s.data.toList = none) := HNO.out hv
        clear hv
        go_wp2
        go_ret2
        exact ⟨.inr ⟨HR.out, rfl⟩, hBe⟩
    · have HR : Hid (inums s.data.toList = some xs) := by
        show _ = _
        rw [HI.out]
        have := HNL.out
        rwa [List.take_of_length_le (by omega)] at this
      obtain ⟨a, c, rfl, _⟩ := ho.isl
      go_wp2
      go_ret2
      exact ⟨.inl ⟨xs, a, c, HR.out, HBX.out, rfl, ho.mono hB.size⟩, hBe⟩
end Go.Proofs.YtadjedoakenlkaaGreatDoor.Rm
