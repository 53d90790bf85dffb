/-
  Staged of the program.
-/
import Derived.Test.YtkiddmbenepfjaaSti
namespace Go.Proofs.Ytkiddmbenepfjaa.Md
set_option maxRecDepth 100000
open Go.RowKit Go.Shelf
open Go.Proofs.Ytkiddmbenepfjaa.Li (ret_bool ret_int btw below_none iv)
open Go.Proofs.Ytkiddmbenepfjaa.Tb (lets Row RowIs ownsRow_at)
open Go.Proofs.Ytkiddmbenepfjaa.Tm (IsT szT)
open Go.Proofs.Ytkiddmbenepfjaa.Sv (new1 new2 Wr wr2 wr1)
open Go.Proofs.Ytkiddmbenepfjaa.Sw (sm)
set_option linter.unusedVariables false
attribute [local go_sem] Oper.semAt_some
set_option maxHeartbeats 8000000 in
theorem istg (w : World) (ak ax : Option Addr) (ck ct : Nat) (m : M) (h0 : Rmc w ak ax ct m) (hl : m.sz ≤ 1048576) (v0 v1 v2 : Value) (r : Row) (hr : RowC w v0 v1 v2 r) (hz : r.sz ≤ 1048576) :
    Calls Try.prog 26 #[.agg #[.int .i64 m.n, .int .i64 m.c, .int .i64 m.prior, .int .i64 m.base, .slice ak m.ks.length ck, .slice ax m.ts.length ct], .agg #[v0, v1, v2]] w fun e w' => ∃ v, e = .returned (.tuple #[v, .bool (fits m r)]) ∧ Li.Own w' w.heap.size v (stg m r) ∧ Below w.heap.size w w' := by
  obtain ⟨i0, hi, hz0, hz1, hz2⟩ := info_parts Li.info_int
  obtain ⟨h, hcap⟩ := h0
  have hr' := hr
  obtain ⟨a0, c0, a1, c1, rfl, rfl, rfl, _⟩ := hr'
  refine (callsIn_wide (n := 9)).1 ?_
  refine callsIn_of_wp_marks Try.func26 rfl trivial ?_ rfl
  simp only [Try.ntmps26, List.size_toArray, List.length_cons, List.length_nil, Nat.reduceAdd, Nat.reduceSub, Array.replicate_succ, Array.replicate_zero, List.push_toArray, List.append_toArray, List.nil_append, List.cons_append]
  gi_wp2_with fail
  refine ⟨trivial, ?_⟩
  obtain ⟨W, hW, hsz, hB, bm, bs⟩ := new2 w [.int .i64 m.n, .int .i64 m.c, .int .i64 m.prior, .int .i64 m.base, .slice ak m.ks.length ck, .slice ax m.ts.length ct] [.slice a0 r.nums.length c0, .slice a1 r.cats.length c1, .int .i64 r.label] 34 45
  rw [hW]
  have HW2 : Hid (w.heap.size + 2 = W.heap.size) := hsz.symm
  clear hW hsz
  refine (callsIn_wide.2 (itell _ _ _ _ _ m (h.below hB) hl _ _ _ r (hr.below hB) hz)).mono ?_
  rintro e w1 ⟨rfl, hb⟩
  have bm := bm.below hb
  have bs := bs.below hb
  have hB := hB.trans (hb.mono hB.size)
  have HW1 : Hid (w.heap.size + 2 ≤ w1.heap.size) := by show _ ≤ _; have := hb.size; have := HW2.out; omega
  clear hb HW2
  obtain ⟨_, ⟨x0, x1, x2, x3, x4, x5⟩, _⟩ := wr6 bm
  obtain ⟨_, ⟨y0, y1, y2⟩, _⟩ := wr3 bs
  cases h1 : fits m r with
  | false =>
    have HR : Hid (stg m r = []) := stg_no h1
    have HV : Hid (fits m r = false) := h1
    clear h1
    gi_wp2
    refine ⟨.tuple #[.slice none 0 0, .bool false], by simp [results, Try.results26, go_sem], ?_⟩
    exact ⟨_, by rw [HV.out], by rw [HR.out]; exact Li.Own.nil _ _, hB⟩
  | true =>
  have HR : Hid (stg m r = stgN m.ts (pad (fl m r)) m.base (m.ts.length + 1)) := stg_yes h1
  have HV : Hid (fits m r = true) := h1
  have HF : Hid (Fit m r) := fits_fit h1
  have HPL : Hid ((pad (fl m r)).length = 6) := pad_length (fits_fit h1).le
  have ht12 : m.ts.length ≤ 12 := (mok_parts (fits_fit h1).ok).2.2.2.1
  clear h1
  have bL := Boxed.new w1 38 (.slice none 0 0)
  obtain ⟨W3, hW3⟩ : ∃ W3, w1.alloc (.cells #[.slice none 0 0] 38) = W3 := ⟨_, rfl⟩
  have HW3 : Hid (w1.alloc (.cells #[.slice none 0 0] 38) = W3) := hW3
  have hb3 : Below w1.heap.size w1 W3 := by rw [← hW3]; exact (Below.refl _ _).alloc (Nat.le_refl _) _
  rw [hW3] at bL
  have HBL : Hid (Boxed W3 w1.heap.size 38 (.slice none 0 0)) := bL
  have HBM : Hid (Wr W3 w.heap.size 0 [.int .i64 m.n, .int .i64 m.c, .int .i64 m.prior, .int .i64 m.base, .slice ak m.ks.length ck, .slice ax m.ts.length ct]) := bm.below hb3
  have HBS : Hid (Wr W3 (w.heap.size + 1) 0 [.slice a0 r.nums.length c0, .slice a1 r.cats.length c1, .int .i64 r.label]) := bs.below hb3
  have HB : Hid (Below w.heap.size w W3) := hB.trans (hb3.mono hB.size)
  have HM : Hid (Rm W3 ak ax m) := h.below HB.out
  have HRC : Hid (RowC W3 (.slice a0 r.nums.length c0) (.slice a1 r.cats.length c1) (.int .i64 r.label) r) := hr.below HB.out
  have HBD : Hid (Below W3.heap.size W3 W3.drew) := (Below.refl W3.heap.size W3).drew
  clear hW3 hb3 bL bm bs hB x0 x1 x2 x3 x4 x5 y0 y1 y2
  gi_wp2
  rw [HW3.out]
  obtain ⟨B, hBB⟩ : ∃ B, w1.heap.size = B := ⟨_, rfl⟩
  rw [hBB] at HBL HW1 ⊢
  clear HW3 hBB
  obtain ⟨_, ⟨x0, x1, x2, x3, x4, x5⟩, _⟩ := wr6 HBM.out
  obtain ⟨_, ⟨y0, y1, y2⟩, _⟩ := wr3 HBS.out
  gi_region_with (first
    | (refine ⟨trivial, ?_⟩
       gi_at_call 55
       refine (callsIn_wide.2 (ifeat W3.drew _ _ _ _ m (HM.out.below HBD.out) _ _ _ r (HRC.out.below HBD.out) hz HF.out)).mono ?_
       rintro e w5 ⟨v, rfl, ov, hb⟩
       have HY : Hid (Below W3.heap.size W3 w5) := HBD.out.trans hb
       have HOV : Hid (Li.Own w5 W3.heap.size v (pad (fl m r))) := ov
       obtain ⟨av, cv, ev, _⟩ := ov.isl
       rw [HPL.out] at ev
       subst ev
       obtain ⟨_, ⟨z0, z1, z2, z3, z4, z5⟩, _⟩ := wr6 (HBM.out.below HY.out)
       clear hb ov)
    | (refine ⟨trivial, ?_⟩
       gi_at_call 62
       refine (stages_in _ ak ax ck ct m av 6 cv _).mono ?_
       rintro e w6 ⟨rfl, hw6⟩
       have HW6 : Hid (type_of% hw6) := hw6
       clear hw6))
  all_goals
    have hn2 := Sv.new2 w5 [.int .i64 m.n, .int .i64 m.c, .int .i64 m.prior, .int .i64 m.base, .slice ak m.ks.length ck, .slice ax m.ts.length ct] [.slice av 6 cv] 34 38
    obtain ⟨V, hV, hVs, hVb, vm, vf⟩ := hn2
    obtain rfl : w6 = V := HW6.out.trans hV
    clear hV HW6
    have hB6 : Below w.heap.size w w6 := (HB.out.trans (HY.out.mono HB.out.size)).trans (hVb.mono (by have := HB.out.size; have := HY.out.size; omega))
    have HB6 : Hid (type_of% hB6) := hB6
    have HBW : Hid (B < W3.heap.size) := Boxed.lt HBL.out
    have HS5 : Hid (W3.heap.size ≤ w5.heap.size) := HY.out.size
    have HS6 : Hid (w6.heap.size = w5.heap.size + 2) := hVs
    have HBX : Hid (Boxed w6 B 38 (.slice none 0 0)) := by
      show w6.heap[B]? = _
      rw [hVb.block B (by have := HBW.out; have := HS5.out; omega), HY.out.block B (by have := HBW.out; omega)]
      exact HBL.out
    have HVM : Hid (type_of% vm) := vm
    have HVF : Hid (type_of% vf) := vf
    have HFF : Hid (∀ W', Sv.Fr (fun q => q = B ∨ w6.heap.size ≤ q) w6 W' → IsT W' ax m.ts ∧ Li.IsL W' av (pad (fl m r))) := fun W' hfr => by
      refine ⟨h.t.below (hB6.trans (hfr.bel (n := w.heap.size) (fun q e => by have := HW1.out; have := hB6.size; omega) hB6.size)), ?_⟩
      have h5 : Li.Own w6 W3.heap.size (.slice av 6 cv) (pad (fl m r)) := HOV.out.below hVb
      have h6 : Li.Own W' W3.heap.size (.slice av 6 cv) (pad (fl m r)) := own_fr h5 hfr (fun q e e2 => by
        have h7 := (h5.ge q e)
        have := HBW.out
        omega)
      obtain ⟨_, _, e, i⟩ := h6.isl
      rw [HPL.out] at e
      cases e
      exact i
    clear hVs hVb vm vf hB6 x0 x1 x2 x3 x4 x5 y0 y1 y2 z0 z1 z2 z3 z4 z5
    gi_wp2
    refine wpIn_rangeFunc_ownG rfl (by decide) (gf := 82) (lb := #[.pointer (some ⟨w5.heap.size, 0, none⟩), .pointer (some ⟨w5.heap.size + 1, 0, none⟩)]) rfl trivial (enters_of Try.func82 (by kernel_rfl) rfl)
      (stages_stops 8 (by omega) w5.heap.size (w5.heap.size + 1) w6.heap.size B ak ax ck ct m av 6 cv (pad (fl m r)) HPL.out hl ht12 (by omega) w6 (Nat.le_refl _) HVM.out (by have := HS6.out; have := HBW.out; have := HS5.out; omega) HVF.out (by have := HS6.out; have := HBW.out; have := HS5.out; omega) HFF.out hcap)
      (fun h1 h2 => Sv.Fr.trans h1 h2) (fun W l o o' hl' hh _ _ => Sv.fr_grown (grownBy_putObj' W l o') (.inr hl')) (Below.refl _ _) (fun _ => rfl)
      (fun pre W => (∃ v, Boxed W B 38 v ∧ W.ownsRow w6.heap.size 3 1 v pre.length (Li.iv pre) ∧ True) ∧ (w6.heap.size ≤ W.heap.size ∧ Below w.heap.size w W))
      (fun _ _ _ => False)
      (OwnFrom.and (Own.from (holdsRow_own w6.heap.size B 38 3 1 (fun pre : List Int => pre.length) (fun pre => Li.iv pre) (fun _ _ => True)) _) (OwnFrom.and (fun s X Y row hs hg hrow => Nat.le_trans hs hg.size) (ownFrom_below (Nat.le_refl _) HB6.out.size)))
      (fun _ _ _ _ _ hs _ _ => hs)
      ⟨⟨_, HBX.out, World.ownsRow_nil _ _ _ _, trivial⟩, Nat.le_refl _, HB6.out⟩
      (fun x => { tmps := #[.agg #[.int .i64 m.n, .int .i64 m.c, .int .i64 m.prior, .int .i64 m.base, .slice ak m.ks.length ck, .slice ax m.ts.length ct], .agg #[.slice a0 r.nums.length c0, .slice a1 r.cats.length c1, .int .i64 r.label], .pointer (some ⟨w.heap.size, 0, none⟩), .pointer (some ⟨w.heap.size + 1, 0, none⟩), .slice none 0 0, .bool false, .pointer (some ⟨B, 0, none⟩), .int .i64 x, .agg #[.int .i64 m.n, .int .i64 m.c, .int .i64 m.prior, .int .i64 m.base, .slice ak m.ks.length ck, .slice ax m.ts.length ct], .agg #[.slice a0 r.nums.length c0, .slice a1 r.cats.length c1, .int .i64 r.label], .bool true, .bool false, .agg #[.int .i64 m.n, .int .i64 m.c, .int .i64 m.prior, .int .i64 m.base, .slice ak m.ks.length ck, .slice ax m.ts.length ct], .agg #[.int .i64 m.n, .int .i64 m.c, .int .i64 m.prior, .int .i64 m.base, .slice ak m.ks.length ck, .slice ax m.ts.length ct], .agg #[.slice a0 r.nums.length c0, .slice a1 r.cats.length c1, .int .i64 r.label], .slice av 6 cv, .func (.func 82) #[] #[.pointer (some ⟨w5.heap.size, 0, none⟩), .pointer (some ⟨w5.heap.size + 1, 0, none⟩)], .int .i64 x, undef, undef, undef, undef, undef], defers := [] }) ?assign ?body ?done ?stop
    case assign =>
      intro l x W K hK
      gi_wp2
      exact hK
    case body =>
      rintro l pre x W ⟨⟨v, hv, hrow, _⟩, hN, hBW⟩ hlt
      have hc := hv.cell
      have hge : ∀ q, v.ownBlock = some q → w6.heap.size ≤ q := fun q e => (World.ownsRow.lt hrow q e).1
      have HGE : Hid (type_of% hge) := hge
      have HV0 : Hid (type_of% hv) := hv
      have HRW : Hid (type_of% hrow) := hrow
      have HN0 : Hid (type_of% hN) := hN
      have HBB : Hid (type_of% hBW) := hBW
      have HLT : Hid (type_of% hlt) := hlt
      clear hge hv hN hBW hlt
      gi_wp2_with (gi_at_builtin; refine wpListIn_append_own _ rfl _ _ 38 rfl w6.heap.size 3 i0 (.int .i64 0) 1 8 Try.underlying38 hi hz0 hz1 hz2 rfl (by decide) _ _ _ rfl (World.ownsRow.alloc hrow _) ⟨W.heap.size, 0, none⟩ 1 1 [.int .i64 x] rfl rfl (cell_one_new _ _ _) (by simp [Value.oneCell']) (by have := HLT.out; unfold maxLen; omega) (by have := HLT.out; omega) (by have := HN0.out; simp; omega) ?_; intro v' w9 hown' hgrow _; obtain ⟨g', cap', rfl⟩ := ownsRow_succ hown'; have hv1 : Boxed w9 B 38 v := (HV0.out.alloc _).kept hgrow (fun e => (by have := HGE.out B e.symm; have := HBW.out; have := HS5.out; have := HS6.out; omega)); have hc1 := hv1.cell; have hf1 := hv1.frozen)
      have hne : ¬ B = g' := fun e => by have := (World.ownsRow.lt hown' g' rfl).1; have := HBW.out; have := HS5.out; have := HS6.out; omega
      obtain ⟨_, _, _, hk2, hb2⟩ := Boxed.appended HV0.out (by decide) (Tm.ownsRow_mono HRW.out HB6.out.size) HBB.out.size (by have := HW1.out; omega) (Tm.ownsRow_mono hown' HB6.out.size) hgrow
      refine ⟨hk2.from _, ?_, ⟨_, hv1.set _, ?_, trivial⟩, ?_, HBB.out.trans hb2⟩
      · exact ((Sv.fr_below ((Below.refl _ _).alloc (Nat.le_refl _) _)).trans (fr_own hgrow (fun q e => .inr (HGE.out q e)))).trans (Sv.fr_grown (grownBy_setCell' _ _ _) (.inl rfl))
      · have h9 : w9.ownsRow w6.heap.size 3 1 (.slice (some ⟨g', 0, none⟩) (pre.length + 1) cap') (pre ++ [x]).length (Li.iv (pre ++ [x])) := by
          rw [List.length_append, ← Li.iv_append]; exact hown'
        exact ownsRow_at h9 (fun q e => (grownBy_setCell' w9 B _).block q (World.ownsRow.lt h9 q e).2 (fun e2 => by simp [Value.ownBlock] at e; injection e2 with e2; omega))
      · have := hgrow.size
        have := HN0.out
        simp [World.setCell] at this ⊢
        simp at *
        omega
    case done =>
      rintro D ys W hD rfl ⟨⟨v, hv, hrow, _⟩, hN, hBW⟩ hK
      have hc := hv.cell
      have HA : Hid (Li.Own (W.putObj D (.deferred none)) w.heap.size v (stg m r)) := by
        have h8 := ownsRow_putObj hrow (.deferred none) hK rfl
        rw [HR.out]
        exact Tm.ownsRow_mono h8 HB6.out.size
      have HBE : Hid (Below w.heap.size w (W.putObj D (.deferred none))) := hBW.trans (belowK_b (w := w) (Nat.le_refl _) W D _ _ (by have := HB6.out.size; omega) hK rfl rfl)
      have HKK : Hid (type_of% hK) := hK
      obtain ⟨av', cv', ev', _⟩ := HA.out.isl
      subst ev'
      clear hrow hBW hN
      gi_wp2
      refine ⟨by simp, .inl ⟨_, _, rfl, run_takeDeferred HKK.out, ?_⟩⟩
      exact ⟨.tuple #[.slice av' (stg m r).length cv', .bool true], by simp [results, Try.results26, go_sem], _, by rw [HV.out], HA.out, HBE.out⟩
    case stop =>
      rintro D c pre W _ _ h _
      exact h.elim
end Go.Proofs.Ytkiddmbenepfjaa.Md
