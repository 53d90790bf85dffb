/-
  Contracts that the proof leans on, put together in the order in which they build.
-/
import Derived.Test.YtcadgeepknhmfaaGreatPart27
/-
  Staged of the program.
-/
namespace Go.Proofs.YtcadgeepknhmfaaGreat.Md
set_option maxRecDepth 100000
open Go.RowKit Go.Shelf
open Go.Proofs.YtcadgeepknhmfaaGreat.Li (ret_bool ret_int btw below_none iv)
open Go.Proofs.YtcadgeepknhmfaaGreat.Tb (lets Row RowIs ownsRow_at)
open Go.Proofs.YtcadgeepknhmfaaGreat.Tm (IsT szT)
open Go.Proofs.YtcadgeepknhmfaaGreat.Sv (new1 new2 Wr wr2 wr1)
open Go.Proofs.YtcadgeepknhmfaaGreat.Sw (sm)
set_option linter.unusedVariables false
attribute [local go_sem] Oper.semAt_some
set_option maxHeartbeats 8000000 in
theorem istg (w : World) (ak ax : Option Addr) (ck ct : Nat) (m : M) (h0 : Rmc w ak ax ct m) (hl : m.sz ≤ 1048576) (v0 v1 v2 : Value) (r : Row) (hr : RowC w v0 v1 v2 r) (hz : r.sz ≤ 1048576) :
    Calls Tryz.prog 7 #[.agg #[.int .i64 m.n, .int .i64 m.c, .int .i64 m.prior, .int .i64 m.base, .slice ak m.ks.length ck, .slice ax m.ts.length ct], .agg #[v0, v1, v2]] w fun e w' => ∃ v, e = .returned (.tuple #[v, .bool (fits m r)]) ∧ Li.Own w' w.heap.size v (stg m r) ∧ Below w.heap.size w w' := by
  obtain ⟨i0, hi, hz0, hz1, hz2⟩ := info_parts Li.info_int
  obtain ⟨h, hcap⟩ := h0
  have hr' := hr
  obtain ⟨a0, c0, a1, c1, rfl, rfl, rfl, _⟩ := hr'
  refine (callsIn_wide (n := 9)).1 ?_
  refine callsIn_of_wp_marks Tryz.func7 rfl trivial ?_ rfl
  simp only [Tryz.ntmps7, List.size_toArray, List.length_cons, List.length_nil, Nat.reduceAdd, Nat.reduceSub, Array.replicate_succ, Array.replicate_zero, List.push_toArray, List.append_toArray, List.nil_append, List.cons_append]
  gi_wp2_with fail
  refine ⟨trivial, ?_⟩
  obtain ⟨W, hW, hsz, hB, bm, bs⟩ := new2 w [.int .i64 m.n, .int .i64 m.c, .int .i64 m.prior, .int .i64 m.base, .slice ak m.ks.length ck, .slice ax m.ts.length ct] [.slice a0 r.nums.length c0, .slice a1 r.cats.length c1, .int .i64 r.label] 29 33
  rw [hW]
  have HW2 : Hid (w.heap.size + 2 = W.heap.size) := hsz.symm
  clear hW hsz
  refine (callsIn_wide.2 (itell _ _ _ _ _ m (h.below hB) hl _ _ _ r (hr.below hB) hz)).mono ?_
  rintro e w1 ⟨rfl, hb⟩
  have bm := bm.below hb
  have bs := bs.below hb
  have hB := hB.trans (hb.mono hB.size)
  have HW1 : Hid (w.heap.size + 2 ≤ w1.heap.size) := by show _ ≤ _; have := hb.size; have := HW2.out; omega
  clear hb HW2
  obtain ⟨_, ⟨x0, x1, x2, x3, x4, x5⟩, _⟩ := wr6 bm
  obtain ⟨_, ⟨y0, y1, y2⟩, _⟩ := wr3 bs
  cases h1 : fits m r with
  | false =>
    have HR : Hid (stg m r = []) := stg_no h1
    have HV : Hid (fits m r = false) := h1
    clear h1
    gi_wp2
    refine ⟨.tuple #[.slice none 0 0, .bool false], by simp [results, Tryz.results7, go_sem], ?_⟩
    exact ⟨_, by rw [HV.out], by rw [HR.out]; exact Li.Own.nil _ _, hB⟩
  | true =>
  have HR : Hid (stg m r = stgN m.ts (pad (fl m r)) m.base (m.ts.length + 1)) := stg_yes h1
  have HV : Hid (fits m r = true) := h1
  have HF : Hid (Fit m r) := fits_fit h1
  have HPL : Hid ((pad (fl m r)).length = 6) := pad_length (fits_fit h1).le
  have ht12 : m.ts.length ≤ 12 := (mok_parts (fits_fit h1).ok).2.2.2.1
  clear h1
  have bL := Boxed.new w1 30 (.slice none 0 0)
  obtain ⟨W3, hW3⟩ : ∃ W3, w1.alloc (.cells #[.slice none 0 0] 30) = W3 := ⟨_, rfl⟩
  have HW3 : Hid (w1.alloc (.cells #[.slice none 0 0] 30) = W3) := hW3
  have hb3 : Below w1.heap.size w1 W3 := by rw [← hW3]; exact (Below.refl _ _).alloc (Nat.le_refl _) _
  rw [hW3] at bL
  have HBL : Hid (Boxed W3 w1.heap.size 30 (.slice none 0 0)) := bL
  have HBM : Hid (Wr W3 w.heap.size 0 [.int .i64 m.n, .int .i64 m.c, .int .i64 m.prior, .int .i64 m.base, .slice ak m.ks.length ck, .slice ax m.ts.length ct]) := bm.below hb3
  have HBS : Hid (Wr W3 (w.heap.size + 1) 0 [.slice a0 r.nums.length c0, .slice a1 r.cats.length c1, .int .i64 r.label]) := bs.below hb3
  have HB : Hid (Below w.heap.size w W3) := hB.trans (hb3.mono hB.size)
  have HM : Hid (Rm W3 ak ax m) := h.below HB.out
  have HRC : Hid (RowC W3 (.slice a0 r.nums.length c0) (.slice a1 r.cats.length c1) (.int .i64 r.label) r) := hr.below HB.out
  have HBD : Hid (Below W3.heap.size W3 W3.drew) := (Below.refl W3.heap.size W3).drew
  clear hW3 hb3 bL bm bs hB x0 x1 x2 x3 x4 x5 y0 y1 y2
  gi_wp2
  rw [HW3.out]
  obtain ⟨B, hBB⟩ : ∃ B, w1.heap.size = B := ⟨_, rfl⟩
  rw [hBB] at HBL HW1 ⊢
  clear HW3 hBB
  obtain ⟨_, ⟨x0, x1, x2, x3, x4, x5⟩, _⟩ := wr6 HBM.out
  obtain ⟨_, ⟨y0, y1, y2⟩, _⟩ := wr3 HBS.out
  gi_region_with (first
    | (refine ⟨trivial, ?_⟩
       gi_at_call 19
       refine (callsIn_wide.2 (ifeat W3.drew _ _ _ _ m (HM.out.below HBD.out) _ _ _ r (HRC.out.below HBD.out) hz HF.out)).mono ?_
       rintro e w5 ⟨v, rfl, ov, hb⟩
       have HY : Hid (Below W3.heap.size W3 w5) := HBD.out.trans hb
       have HOV : Hid (Li.Own w5 W3.heap.size v (pad (fl m r))) := ov
       obtain ⟨av, cv, ev, _⟩ := ov.isl
       rw [HPL.out] at ev
       subst ev
       obtain ⟨_, ⟨z0, z1, z2, z3, z4, z5⟩, _⟩ := wr6 (HBM.out.below HY.out)
       clear hb ov)
    | (refine ⟨trivial, ?_⟩
       gi_at_call 18
       refine (stages_in _ ak ax ck ct m av 6 cv _).mono ?_
       rintro e w6 ⟨rfl, hw6⟩
       have HW6 : Hid (type_of% hw6) := hw6
       clear hw6))
  all_goals
    have hn2 := Sv.new2 w5 [.int .i64 m.n, .int .i64 m.c, .int .i64 m.prior, .int .i64 m.base, .slice ak m.ks.length ck, .slice ax m.ts.length ct] [.slice av 6 cv] 29 30
    obtain ⟨V, hV, hVs, hVb, vm, vf⟩ := hn2
    obtain rfl : w6 = V := HW6.out.trans hV
    clear hV HW6
    have hB6 : Below w.heap.size w w6 := (HB.out.trans (HY.out.mono HB.out.size)).trans (hVb.mono (by have := HB.out.size; have := HY.out.size; omega))
    have HB6 : Hid (type_of% hB6) := hB6
    have HBW : Hid (B < W3.heap.size) := Boxed.lt HBL.out
    have HS5 : Hid (W3.heap.size ≤ w5.heap.size) := HY.out.size
    have HS6 : Hid (w6.heap.size = w5.heap.size + 2) := hVs
    have HBX : Hid (Boxed w6 B 30 (.slice none 0 0)) := by
      show w6.heap[B]? = _
      rw [hVb.block B (by have := HBW.out; have := HS5.out; omega), HY.out.block B (by have := HBW.out; omega)]
      exact HBL.out
    have HVM : Hid (type_of% vm) := vm
    have HVF : Hid (type_of% vf) := vf
    have HFF : Hid (∀ W', Sv.Fr (fun q => q = B ∨ w6.heap.size ≤ q) w6 W' → IsT W' ax m.ts ∧ Li.IsL W' av (pad (fl m r))) := fun W' hfr => by
      refine ⟨h.t.below (hB6.trans (hfr.bel (n := w.heap.size) (fun q e => by have := HW1.out; have := hB6.size; omega) hB6.size)), ?_⟩
      have h5 : Li.Own w6 W3.heap.size (.slice av 6 cv) (pad (fl m r)) := HOV.out.below hVb
      have h6 : Li.Own W' W3.heap.size (.slice av 6 cv) (pad (fl m r)) := own_fr h5 hfr (fun q e e2 => by
        have h7 := (h5.ge q e)
        have := HBW.out
        omega)
      obtain ⟨_, _, e, i⟩ := h6.isl
      rw [HPL.out] at e
      cases e
      exact i
    clear hVs hVb vm vf hB6 x0 x1 x2 x3 x4 x5 y0 y1 y2 z0 z1 z2 z3 z4 z5
    gi_wp2
    refine wpIn_rangeFunc_ownG rfl (by decide) (gf := 32) (lb := #[.pointer (some ⟨w5.heap.size, 0, none⟩), .pointer (some ⟨w5.heap.size + 1, 0, none⟩)]) rfl trivial (enters_of Tryz.func32 (by kernel_rfl) rfl)
      (stages_stops 8 (by omega) w5.heap.size (w5.heap.size + 1) w6.heap.size B ak ax ck ct m av 6 cv (pad (fl m r)) HPL.out hl ht12 (by omega) w6 (Nat.le_refl _) HVM.out (by have := HS6.out; have := HBW.out; have := HS5.out; omega) HVF.out (by have := HS6.out; have := HBW.out; have := HS5.out; omega) HFF.out hcap)
      (fun h1 h2 => Sv.Fr.trans h1 h2) (fun W l o o' hl' hh _ _ => Sv.fr_grown (grownBy_putObj' W l o') (.inr hl')) (Below.refl _ _) (fun _ => rfl)
      (fun pre W => (∃ v, Boxed W B 30 v ∧ W.ownsRow w6.heap.size 3 1 v pre.length (Li.iv pre) ∧ True) ∧ (w6.heap.size ≤ W.heap.size ∧ Below w.heap.size w W))
      (fun _ _ _ => False)
      (OwnFrom.and (Own.from (holdsRow_own w6.heap.size B 30 3 1 (fun pre : List Int => pre.length) (fun pre => Li.iv pre) (fun _ _ => True)) _) (OwnFrom.and (fun s X Y row hs hg hrow => Nat.le_trans hs hg.size) (ownFrom_below (Nat.le_refl _) HB6.out.size)))
      (fun _ _ _ _ _ hs _ _ => hs)
      ⟨⟨_, HBX.out, World.ownsRow_nil _ _ _ _, trivial⟩, Nat.le_refl _, HB6.out⟩
      (fun x => { tmps := #[.agg #[.int .i64 m.n, .int .i64 m.c, .int .i64 m.prior, .int .i64 m.base, .slice ak m.ks.length ck, .slice ax m.ts.length ct], .agg #[.slice a0 r.nums.length c0, .slice a1 r.cats.length c1, .int .i64 r.label], .pointer (some ⟨w.heap.size, 0, none⟩), .pointer (some ⟨w.heap.size + 1, 0, none⟩), .slice none 0 0, .bool false, .pointer (some ⟨B, 0, none⟩), .int .i64 x, .agg #[.int .i64 m.n, .int .i64 m.c, .int .i64 m.prior, .int .i64 m.base, .slice ak m.ks.length ck, .slice ax m.ts.length ct], .agg #[.slice a0 r.nums.length c0, .slice a1 r.cats.length c1, .int .i64 r.label], .bool true, .bool false, .agg #[.int .i64 m.n, .int .i64 m.c, .int .i64 m.prior, .int .i64 m.base, .slice ak m.ks.length ck, .slice ax m.ts.length ct], .agg #[.int .i64 m.n, .int .i64 m.c, .int .i64 m.prior, .int .i64 m.base, .slice ak m.ks.length ck, .slice ax m.ts.length ct], .agg #[.slice a0 r.nums.length c0, .slice a1 r.cats.length c1, .int .i64 r.label], .slice av 6 cv, .func (.func 32) #[] #[.pointer (some ⟨w5.heap.size, 0, none⟩), .pointer (some ⟨w5.heap.size + 1, 0, none⟩)], .int .i64 x, undef, undef, undef, undef, undef], defers := [] }) ?assign ?body ?done ?stop
    case assign =>
      intro l x W K hK
      gi_wp2
      exact hK
    case body =>
      rintro l pre x W ⟨⟨v, hv, hrow, _⟩, hN, hBW⟩ hlt
      have hc := hv.cell
      have hge : ∀ q, v.ownBlock = some q → w6.heap.size ≤ q := fun q e => (World.ownsRow.lt hrow q e).1
      have HGE : Hid (type_of% hge) := hge
      have HV0 : Hid (type_of% hv) := hv
      have HRW : Hid (type_of% hrow) := hrow
      have HN0 : Hid (type_of% hN) := hN
      have HBB : Hid (type_of% hBW) := hBW
      have HLT : Hid (type_of% hlt) := hlt
      clear hge hv hN hBW hlt
      gi_wp2_with (gi_at_builtin; refine wpListIn_append_own _ rfl _ _ 30 rfl w6.heap.size 3 i0 (.int .i64 0) 1 8 Tryz.underlying30 hi hz0 hz1 hz2 rfl (by decide) _ _ _ rfl (World.ownsRow.alloc hrow _) ⟨W.heap.size, 0, none⟩ 1 1 [.int .i64 x] rfl rfl (cell_one_new _ _ _) (by simp [Value.oneCell']) (by have := HLT.out; unfold maxLen; omega) (by have := HLT.out; omega) (by have := HN0.out; simp; omega) ?_; intro v' w9 hown' hgrow _; obtain ⟨g', cap', rfl⟩ := ownsRow_succ hown'; have hv1 : Boxed w9 B 30 v := (HV0.out.alloc _).kept hgrow (fun e => (by have := HGE.out B e.symm; have := HBW.out; have := HS5.out; have := HS6.out; omega)); have hc1 := hv1.cell; have hf1 := hv1.frozen)
      have hne : ¬ B = g' := fun e => by have := (World.ownsRow.lt hown' g' rfl).1; have := HBW.out; have := HS5.out; have := HS6.out; omega
      obtain ⟨_, _, _, hk2, hb2⟩ := Boxed.appended HV0.out (by decide) (Tm.ownsRow_mono HRW.out HB6.out.size) HBB.out.size (by have := HW1.out; omega) (Tm.ownsRow_mono hown' HB6.out.size) hgrow
      refine ⟨hk2.from _, ?_, ⟨_, hv1.set _, ?_, trivial⟩, ?_, HBB.out.trans hb2⟩
      · exact ((Sv.fr_below ((Below.refl _ _).alloc (Nat.le_refl _) _)).trans (fr_own hgrow (fun q e => .inr (HGE.out q e)))).trans (Sv.fr_grown (grownBy_setCell' _ _ _) (.inl rfl))
      · have h9 : w9.ownsRow w6.heap.size 3 1 (.slice (some ⟨g', 0, none⟩) (pre.length + 1) cap') (pre ++ [x]).length (Li.iv (pre ++ [x])) := by
          rw [List.length_append, ← Li.iv_append]; exact hown'
        exact ownsRow_at h9 (fun q e => (grownBy_setCell' w9 B _).block q (World.ownsRow.lt h9 q e).2 (fun e2 => by simp [Value.ownBlock] at e; injection e2 with e2; omega))
      · have := hgrow.size
        have := HN0.out
        simp [World.setCell] at this ⊢
        simp at *
        omega
    case done =>
      rintro D ys W hD rfl ⟨⟨v, hv, hrow, _⟩, hN, hBW⟩ hK
      have hc := hv.cell
      have HA : Hid (Li.Own (W.putObj D (.deferred none)) w.heap.size v (stg m r)) := by
        have h8 := ownsRow_putObj hrow (.deferred none) hK rfl
        rw [HR.out]
        exact Tm.ownsRow_mono h8 HB6.out.size
      have HBE : Hid (Below w.heap.size w (W.putObj D (.deferred none))) := hBW.trans (belowK_b (w := w) (Nat.le_refl _) W D _ _ (by have := HB6.out.size; omega) hK rfl rfl)
      have HKK : Hid (type_of% hK) := hK
      obtain ⟨av', cv', ev', _⟩ := HA.out.isl
      subst ev'
      clear hrow hBW hN
      gi_wp2
      refine ⟨by simp, .inl ⟨_, _, rfl, run_takeDeferred HKK.out, ?_⟩⟩
      exact ⟨.tuple #[.slice av' (stg m r).length cv', .bool true], by simp [results, Tryz.results7, go_sem], _, by rw [HV.out], HA.out, HBE.out⟩
    case stop =>
      rintro D c pre W _ _ h _
      exact h.elim
end Go.Proofs.YtcadgeepknhmfaaGreat.Md
/-
  CutTo of the program.
-/
namespace Go.Proofs.YtcadgeepknhmfaaGreat.Ct
set_option maxRecDepth 100000
open Go.RowKit
open Go.Proofs.YtcadgeepknhmfaaGreat.Sv (Fr fr_below fr_grown Wr wr2 new1 new2)
open Go.Proofs.YtcadgeepknhmfaaGreat.Kt (Kv OwK IsK)
open Go.Proofs.YtcadgeepknhmfaaGreat.To (OwT)
open Go.Proofs.YtcadgeepknhmfaaGreat.Tm (OwnP IsT)
open Go.Proofs.YtcadgeepknhmfaaGreat.Md (M mok mok_parts OwM Rm wr6 imok ks_at ts_at)
open Go.Proofs.YtcadgeepknhmfaaGreat.Tb (results_cell)
set_option linter.unusedVariables false
theorem _root_.Go.Proofs.YtcadgeepknhmfaaGreat.Tb.lets_mem {s : ByteArray} : ∀ {ss : List ByteArray}, s ∈ ss → s.size ≤ Tb.lets ss := by
  intro ss hs
  obtain ⟨j, hj, rfl⟩ := List.getElem_of_mem hs
  exact Tb.lets_at ss j hj
set_option maxHeartbeats 8000000 in
theorem icut (w : World) (ak ax : Option Addr) (ck ct : Nat) (m : M) (n : Int) (h : Rm w ak ax m) (hl : m.sz ≤ 1048576) (hcap : m.ts.length ≤ ct) :
    Calls Tryz.prog 11 #[.agg #[.int .i64 m.n, .int .i64 m.c, .int .i64 m.prior, .int .i64 m.base, .slice ak m.ks.length ck, .slice ax m.ts.length ct], .int .i64 n] w fun e w' => ∃ vk vt, e = .returned (.agg #[.int .i64 (mcut m n).n, .int .i64 (mcut m n).c, .int .i64 (mcut m n).prior, .int .i64 (mcut m n).base, vk, vt]) ∧ OwM w' (fun y => w.heap.size ≤ y ∧ y < w'.heap.size) vk vt (mcut m n) ∧ Below w.heap.size w w' := by
  go_enter Tryz.func11, Tryz.ntmps11
  go_wp2_with fail
  obtain ⟨W, hW, hsz, hB, bm, br⟩ := new2 w [.int .i64 m.n, .int .i64 m.c, .int .i64 m.prior, .int .i64 m.base, .slice ak m.ks.length ck, .slice ax m.ts.length ct] [.int .i64 0, .int .i64 0, .int .i64 0, .int .i64 0, .slice none 0 0, .slice none 0 0] 29 29
  rw [hW]
  clear hW
  refine (imok _ _ _ _ _ m (h.below hB) hl).mono ?_
  rintro e w1 ⟨rfl, hb⟩
  have bm := bm.below hb
  have br := br.below hb
  have hB := hB.trans (hb.mono hB.size)
  have hsz1 : w.heap.size + 2 ≤ w1.heap.size := by have := hb.size; omega
  clear hb hsz
  cases h1 : mok m with
  | false =>
    have HR : Hid (mcut m n = zero) := mcut_no h1 n
    obtain ⟨hrl, ⟨r0, r1, r2, r3, r4, r5⟩, f0, f1, f2, f3, f4, f5⟩ := wr6 br
    go_wp2
    refine bodyPost_ret (v := .agg #[.int .i64 0, .int .i64 0, .int .i64 0, .int .i64 0, .slice none 0 0, .slice none 0 0]) (by rw [results_cell rfl]; go_simp) rfl ⟨.slice none 0 0, .slice none 0 0, by rw [HR.out]; rfl, ?_, ?_⟩
    · rw [HR.out]; exact ⟨fun _ => True, OwK.nil _ _, OwT.nil _ _⟩
    · exact (((((hB.setCell (by simp) _).setCell (by simp) _).setCell (by simp) _).setCell (by simp) _).setCell (by simp) _).setCell (by simp) _
  | true =>
  have HR : Hid (mcut m n = ⟨m.n, m.c, m.prior, m.base, m.ks, m.ts.take (cutn m n)⟩) := mcut_yes h1 n
  have HKL : Hid (m.ks.length ≤ 40 ∧ m.ts.length ≤ 12) := ⟨by have h2 := (mok_parts h1).2.2.2.2.1; have h3 := Tk.sok_iff.1 (mok_parts h1).1; unfold Md.ncol at h2; split at h2 <;> omega, (mok_parts h1).2.2.2.1⟩
  have HL : Hid (m.sz ≤ 1048576) := hl
  clear h1 hl
  obtain ⟨_, ⟨x0, x1, x2, x3, x4, x5⟩, _⟩ := wr6 bm
  go_wp2
  obtain ⟨w2, hW2, hs2, hb2, bx0⟩ := new1 w1 [.int .i64 m.n, .int .i64 m.c, .int .i64 m.prior, .int .i64 m.base, .slice none 0 0, .slice none 0 0] 29
  rw [hW2]
  obtain ⟨b2, hb2e⟩ : ∃ b2, w1.heap.size = b2 := ⟨_, rfl⟩
  rw [hb2e] at bx0 ⊢
  obtain ⟨M0, hM0⟩ : ∃ M0, w2.heap.size = M0 := ⟨_, rfl⟩
  have HBX0 : Hid (type_of% bx0) := bx0
  have HBM : Hid (type_of% (bm.below hb2)) := bm.below hb2
  have HBR : Hid (type_of% (br.below hb2)) := br.below hb2
  have HBW2 : Hid (Below w.heap.size w w2) := hB.trans (hb2.mono hB.size)
  have HWB : Hid (w.heap.size + 2 ≤ b2) := by show _ ≤ _; omega
  have HMB : Hid (b2 < M0) := by show _ < _; omega
  have HWM : Hid (w.heap.size + 2 ≤ M0) := by show _ ≤ _; omega
  have HWS : Hid (M0 ≤ w2.heap.size) := by show _ ≤ _; omega
  clear hW2 hs2 hb2 bx0 hb2e hM0 bm br hB hsz1 x0 x1 x2 x3 x4 x5
  go_loopw [24] (fun i wr => ∃ (k : Nat) (ka : Option Addr) (kc : Nat), k ≤ m.ks.length ∧ i = .int .i64 k ∧ Wr wr b2 0 [.int .i64 m.n, .int .i64 m.c, .int .i64 m.prior, .int .i64 m.base, .slice ka k kc, .slice none 0 0] ∧ OwK wr (fun y => M0 ≤ y) (.slice ka k kc) (m.ks.take k) ∧ Fr (Fx b2 M0) w2 wr) (fun i _ => m.ks.length - (intOf i).toNat)
  case atStart => exact ⟨0, none, 0, Nat.zero_le _, rfl, HBX0.out, OwK.nil _ _, Fr.refl _ _⟩
  case round =>
    clear HBX0
    obtain ⟨k, ka, kc, hk, rfl, bx, ok, hf⟩ := hrel
    have hs2 := hf.size
    have hBw : Below w.heap.size w wr := HBW2.out.trans (fx_bel hf (by have := HWB.out; omega) (by have := HWM.out; omega) HBW2.out.size)
    obtain ⟨hbl, ⟨x0, x1, x2, x3, x4, x5⟩, _⟩ := wr6 bx
    obtain ⟨_, ⟨y0, y1, y2, y3, y4, y5⟩, _⟩ := wr6 (HBM.out.keptAt hf.size (hf.block _ HBM.out.1 (by unfold Fx; have := HWB.out; have := HWM.out; omega)))
    by_cases hlt : k < m.ks.length
    · rcases h.k.below hBw with e0 | ⟨xb, xo, rfl, hxb, hxc⟩
      · rw [e0] at hlt; simp at hlt
      obtain ⟨a0, c0, a1, c1, ⟨d0, d1⟩, i0, i1⟩ := hxc k hlt
      have hl1 := ks_at HL.out k hlt
      have hzs : ∀ s ∈ m.ks[k].ws, s.size ≤ 1048576 := fun s hs => by have := Tb.lets_mem hs; omega
      have hl1 : m.ks[k].ws.length + m.ks[k].vs.length ≤ 1048576 := by omega
      have HTK : Hid (m.ks.take (k + 1) = m.ks.take k ++ [m.ks[k]]) := List.take_succ_eq_append_getElem hlt
      have HTL : Hid ((m.ks.take k).length = k) := by show _ = _; rw [List.length_take]; omega
      have hk40 : k ≤ 40 := by have := HKL.out; omega
      generalize m.ks[k] = t at d0 d1 i0 i1 hl1 HTK hzs
      clear hxc
      go_wp2_with fail
      obtain ⟨W3, hW3, hs3, hb3, bt0⟩ := new1 wr [.slice a0 t.ws.length c0, .slice a1 t.vs.length c1] 53
      rw [hW3]
      obtain ⟨bt, hbt⟩ : ∃ bt, wr.heap.size = bt := ⟨_, rfl⟩
      rw [hbt] at bt0 ⊢
      have HVB : Hid (∀ y, (Value.slice ka k kc).ownBlock = some y → M0 ≤ y) := fun y ey => by obtain ⟨_, _, _, _, hv, _⟩ := ok; exact hv y ey
      have HVT : Hid ((Value.slice ka k kc).ownBlock ≠ some bt) := fun ey => by have := ok.lt bt ey; omega
      have HOK : Hid (OwK W3 (fun y => M0 ≤ y ∧ y < W3.heap.size) (.slice ka k kc) (m.ks.take k)) := (ok.below hb3).bound
      have HBX : Hid (Wr W3 b2 0 [.int .i64 m.n, .int .i64 m.c, .int .i64 m.prior, .int .i64 m.base, .slice ka k kc, .slice none 0 0]) := bx.below hb3
      have HBT : Hid (Wr W3 bt 0 [.slice a0 t.ws.length c0, .slice a1 t.vs.length c1]) := bt0
      have HF : Hid (Fr (Fx b2 M0) w2 W3) := hf.trans (fx_below hb3)
      have HM0 : Hid (M0 ≤ W3.heap.size) := by have := hb3.size; have := HWS.out; show _ ≤ _; omega
      have HSX : Hid (∀ X : World, Below W3.heap.size W3 X → X.cell? ⟨b2, 4, none⟩ = some (.slice ka k kc) ∧ X.cell? ⟨bt, 0, none⟩ = some (.slice a0 t.ws.length c0) ∧ X.cell? ⟨bt, 1, none⟩ = some (.slice a1 t.vs.length c1)) := fun X hX => ⟨(wr6 (HBX.out.below hX)).2.1.2.2.2.2.1, (wr2 (HBT.out.below hX)).2.1.1, (wr2 (HBT.out.below hX)).2.1.2⟩
      have i0 := i0.below hb3
      have i1 := i1.below hb3
      have st : Below W3.heap.size W3 W3.drew := (Below.refl _ _).drew
      have hS := HSX.out _ st
      clear hW3 hs3 hb3 bt0 hbt bx ok hf d0 d1 x0 x1 x2 x3 x4 x5 hBw hbl hxb y0 y1 y2 y3 y4 y5
      refine Hd.start (fun X => X.cell? ⟨b2, 4, none⟩ = some (.slice ka k kc) ∧ X.cell? ⟨bt, 0, none⟩ = some (.slice a0 t.ws.length c0) ∧ X.cell? ⟨bt, 1, none⟩ = some (.slice a1 t.vs.length c1)) 7 (by kernel_rfl) ?_
      generalize W3.drew = w0 at st hS ⊢
      refine Hd.After.pureD (i := 0) (some 28) (.pointer (some ⟨b2, 4, none⟩)) rfl rfl (by kernel_rfl) (by decide) (by kernel_rfl) (by kernel_rfl) (fun _ _ _ h => h) (hS) (Or.inl ⟨by rfl, ?_⟩) ?_
      · intro X; go_simp; try with_reducible rfl
      (first | simp only [Act.put, List.setIfInBounds_toArray, List.set_cons_zero, List.set_cons_succ] | skip)
      refine Hd.After.takeD (i := 1) (some 29) (.slice ka k kc) rfl rfl (by kernel_rfl) (by kernel_rfl) (by kernel_rfl) (by kernel_rfl) (by kernel_rfl) (fun _ _ _ h => h) (hS) (Or.inl ⟨by rfl, ?_⟩) ?_
      · rintro X ⟨s0, s1, s2⟩; go_simp; try with_reducible rfl
      (first | simp only [Act.put, List.setIfInBounds_toArray, List.set_cons_zero, List.set_cons_succ] | skip)
      refine Hd.After.takeD (i := 2) (some 30) (.agg #[.slice a0 t.ws.length c0, .slice a1 t.vs.length c1]) rfl rfl (by kernel_rfl) (by kernel_rfl) (by kernel_rfl) (by kernel_rfl) (by kernel_rfl) (fun _ _ _ h => h) (hS) (Or.inl ⟨by rfl, ?_⟩) ?_
      · rintro X ⟨s0, s1, s2⟩; go_simp; try with_reducible rfl
      (first | simp only [Act.put, List.setIfInBounds_toArray, List.set_cons_zero, List.set_cons_succ] | skip)
      refine Hd.After.one (i := 3) (by kernel_rfl) rfl rfl ?_
      intro K hK
      go_simp
      go_wp2_with (go_at_call 23; refine (icopyK _ _ _ _ _ t (i0.below st) (i1.below st) hl1 hzs).mono ?_; rintro e w5 ⟨b0, d0, b1, d1, rfl, o0, o1, h01, hb⟩)
      have st5 : Below W3.heap.size W3 w5 := st.trans (hb.mono st.size)
      have h05 := hb.size
      clear hb
      refine hK _ _ (fun _ => HSX.out _ st5) ?_
      clear hK K
      (first | simp only [Act.put, List.setIfInBounds_toArray, List.set_cons_zero, List.set_cons_succ] | skip)
      have hA : Below w5.heap.size w5 (w5.alloc (.cells #[.slice b0 t.ws.length d0, .slice b1 t.vs.length d1] 53)) := (Below.refl _ _).alloc (Nat.le_refl _) _
      have st6 := st5.trans (hA.mono st5.size)
      refine Hd.After.one (i := 4) (by kernel_rfl) rfl rfl ?_
      intro K hK
      go_simp
      refine hK _ _ (fun _ => HSX.out _ st6) ?_
      clear hK K
      (first | simp only [Act.put, List.setIfInBounds_toArray, List.set_cons_zero, List.set_cons_succ] | skip)
      refine Hd.After.one (i := 5) (by kernel_rfl) rfl rfl ?_
      intro K hK
      refine wp_pushK _ _ rfl (some 33) rfl (fun y => M0 ≤ y) W3.heap.size _ (m.ks.take k) (HOK.out.below st6) w5.heap.size b0 b1 d0 d1 _ _ t rfl rfl (by simp) (by simp) ((o0.below hA).mono (by have := st.size; omega)) ((o1.below hA).mono (by have := st.size; omega)) h01 (fun y hy => by have := HM0.out; omega) st6.size (by rw [HTL.out]; omega) (k + 1) (by rw [HTL.out]) ?_
      intro a7 c7 w7 hok7 hg7
      rw [← HTK.out] at hok7
      have hf7 : Fr (Fx b2 M0) w2 w7 := HF.out.trans ((fx_below st6).trans (fx_grown hg7 HVB.out))
      have hb7 : Wr w7 b2 0 [.int .i64 m.n, .int .i64 m.c, .int .i64 m.prior, .int .i64 m.base, .slice ka k kc, .slice none 0 0] := (HBX.out.below st6).keptAt hg7.size (hg7.block b2 (Nat.lt_of_lt_of_le HBX.out.1 st6.size) (fun e => by have := HVB.out b2 e.symm; have := HMB.out; omega))
      have ht7 : Wr w7 bt 0 [.slice a0 t.ws.length c0, .slice a1 t.vs.length c1] := (HBT.out.below st6).keptAt hg7.size (hg7.block bt (Nat.lt_of_lt_of_le HBT.out.1 st6.size) (fun e => HVT.out e.symm))
      obtain ⟨hl7, ⟨p0, p1, p2, p3, p4, p5⟩, q0, q1, q2, q3, q4, q5⟩ := wr6 hb7
      obtain ⟨_, ⟨r0, r1⟩, _⟩ := wr2 ht7
      clear hg7 ht7
      refine hK _ _ (fun _ => ⟨p4, r0, r1⟩) ?_
      clear hK K
      (first | simp only [Act.put, List.setIfInBounds_toArray, List.set_cons_zero, List.set_cons_succ] | skip)
      refine Hd.After.pureD (i := 6) (some 34) (.pointer (some ⟨b2, 4, none⟩)) rfl rfl (by kernel_rfl) (by decide) (by kernel_rfl) (by kernel_rfl) (fun _ _ _ h => h) (⟨p4, r0, r1⟩) (Or.inl ⟨by rfl, ?_⟩) ?_
      · intro X; go_simp; try with_reducible rfl
      (first | simp only [Act.put, List.setIfInBounds_toArray, List.set_cons_zero, List.set_cons_succ] | skip)
      refine Hd.After.one (i := 7) (by kernel_rfl) rfl rfl ?_
      intro K hK
      go_simp
      refine hK _ _ (fun h => by cases h) ?_
      clear hK K
      refine Hd.After.done (by kernel_rfl) ?_ _
      have HB8 : Hid (Wr (w7.setCell ⟨b2, 4, none⟩ (.slice a7 (k + 1) c7)) b2 0 [.int .i64 m.n, .int .i64 m.c, .int .i64 m.prior, .int .i64 m.base, .slice a7 (k + 1) c7, .slice none 0 0]) := hb7.set 4 (by simp) _
      have HO8 : Hid (OwK (w7.setCell ⟨b2, 4, none⟩ (.slice a7 (k + 1) c7)) (fun y => M0 ≤ y) (.slice a7 (k + 1) c7) (m.ks.take (k + 1))) := hok7.fr (fr_grown (B := fun y => y = b2) (Li.grown_set w7 b2 4 _) rfl) (fun y hy e => by have := HMB.out; omega)
      have HF8 : Hid (Fr (Fx b2 M0) w2 (w7.setCell ⟨b2, 4, none⟩ (.slice a7 (k + 1) c7))) := hf7.trans (fx_set w7 4 _)
      clear st hS st5 st6 hA o0 o1 h01 hok7 hf7 hb7 p0 p1 p2 p3 p4 p5 q0 q1 q2 q3 q4 q5 r0 r1 i0 i1 HSX
      go_wp2
      go_roundw
      case rel => exact ⟨k + 1, a7, c7, by omega, by go_num, HB8.out, HO8.out, HF8.out⟩
      case measure => simp [intOf]; omega
    · obtain rfl : k = m.ks.length := by omega
      have e1 : m.ks.take m.ks.length = m.ks := List.take_of_length_le (Nat.le_refl _)
      rw [e1] at ok
      have okb := ok.bound
      generalize wr = w3 at *
      obtain ⟨M1, hM1⟩ : ∃ M1, w3.heap.size = M1 := ⟨_, rfl⟩
      rw [hM1] at okb
      have hs3 := hf.size
      have HOKK : Hid (OwK w3 (fun y => M0 ≤ y ∧ y < M1) (.slice ka m.ks.length kc) m.ks) := okb
      have HBX0 : Hid (type_of% bx) := bx
      have HBR3 : Hid (type_of% (HBR.out.keptAt hf.size (hf.block _ HBR.out.1 (by unfold Fx; have := HWB.out; have := HWM.out; omega)))) := HBR.out.keptAt hf.size (hf.block _ HBR.out.1 (by unfold Fx; have := HWB.out; have := HWM.out; omega))
      have HBW3 : Hid (Below w.heap.size w w3) := hBw
      have HWM1 : Hid (w.heap.size + 2 ≤ M1) := by have := HWM.out; have := HWS.out; show _ ≤ _; omega
      have HWS1 : Hid (M1 ≤ w3.heap.size) := by show _ ≤ _; omega
      have HMB1 : Hid (b2 < M1) := by have := HMB.out; have := HWS.out; show _ < _; omega
      have HM01 : Hid (M0 ≤ M1) := by have := HWS.out; show _ ≤ _; omega
      obtain ⟨q, hq⟩ : ∃ q : Nat, max 0 (min n (m.ts.length : Int)) = (q : Int) := ⟨(max 0 (min n (m.ts.length : Int))).toNat, by omega⟩
      have HQ : Hid (q ≤ m.ts.length) := by show _ ≤ _; omega
      have HCQ : Hid (cutn m n = q) := by show _ = _; unfold cutn; rw [hq]; simp
      have hqc : q ≤ ct := by have := HQ.out; omega
      have hqt : (q : Int) ≤ (m.ts.length : Int) := by have := HQ.out; omega
      clear e1 ok okb bx hf hM1 hs3 hBw hs2 x0 x1 x2 x3 x4 x5 hlt
      go_wp2
      clear hq y0 y1 y2 y3 y4 y5
      go_loopw [46] (fun i wr => ∃ (k : Nat) (ac : Option Addr) (cc : Nat), k ≤ q ∧ i = .int .i64 k ∧ Wr wr b2 0 [.int .i64 m.n, .int .i64 m.c, .int .i64 m.prior, .int .i64 m.base, .slice ka m.ks.length kc, .slice ac k cc] ∧ OwT wr (fun y => M1 ≤ y) (.slice ac k cc) (m.ts.take k) ∧ Fr (Fx b2 M1) w3 wr) (fun i _ => q - (intOf i).toNat)
      case atStart => exact ⟨0, none, 0, Nat.zero_le _, rfl, HBX0.out, OwT.nil _ _, Fr.refl _ _⟩
      case round =>
        clear HBX0
        obtain ⟨k, ac, cc, hk, rfl, bx, ok, hf⟩ := hrel
        have hs2 := hf.size
        have hBw : Below w.heap.size w wr := HBW3.out.trans (fx_bel hf (by have := HWB.out; omega) (by have := HWM1.out; omega) HBW3.out.size)
        obtain ⟨hbl, ⟨x0, x1, x2, x3, x4, x5⟩, _⟩ := wr6 bx
        by_cases hlt : k < q
        · have hlt2 : k < m.ts.length := by have := HQ.out; omega
          rcases h.t.below hBw with e0 | ⟨xb, xo, rfl, hxb, hxc⟩
          · rw [e0] at hlt2; simp at hlt2
          obtain ⟨v0, v1, ⟨d0, d1⟩, a0, c0, a1, c1, rfl, rfl, i0, i1⟩ := hxc k hlt2
          have hl1 := ts_at HL.out k hlt2
          have HTK : Hid (m.ts.take (k + 1) = m.ts.take k ++ [m.ts[k]]) := List.take_succ_eq_append_getElem hlt2
          have HTL : Hid ((m.ts.take k).length = k) := by show _ = _; rw [List.length_take]; omega
          have hk40 : k ≤ 40 := by have := HKL.out; omega
          generalize m.ts[k] = t at d0 d1 i0 i1 hl1 HTK
          clear hxc
          go_wp2_with fail
          obtain ⟨W3, hW3, hs3, hb3, bt0⟩ := new1 wr [.slice a0 t.sp.length c0, .slice a1 t.lv.length c1] 57
          rw [hW3]
          obtain ⟨bt, hbt⟩ : ∃ bt, wr.heap.size = bt := ⟨_, rfl⟩
          rw [hbt] at bt0 ⊢
          have HVB : Hid (∀ y, (Value.slice ac k cc).ownBlock = some y → M1 ≤ y) := fun y ey => by obtain ⟨_, _, _, _, hv, _⟩ := ok; exact hv y ey
          have HVT : Hid ((Value.slice ac k cc).ownBlock ≠ some bt) := fun ey => by have := ok.lt bt ey; omega
          have HOK : Hid (OwT W3 (fun y => M1 ≤ y ∧ y < W3.heap.size) (.slice ac k cc) (m.ts.take k)) := (ok.below hb3).bound
          have HBX : Hid (Wr W3 b2 0 [.int .i64 m.n, .int .i64 m.c, .int .i64 m.prior, .int .i64 m.base, .slice ka m.ks.length kc, .slice ac k cc]) := bx.below hb3
          have HBT : Hid (Wr W3 bt 0 [.slice a0 t.sp.length c0, .slice a1 t.lv.length c1]) := bt0
          have HF : Hid (Fr (Fx b2 M1) w3 W3) := hf.trans (fx_below hb3)
          have HM0 : Hid (M1 ≤ W3.heap.size) := by have := hb3.size; have := HWS1.out; show _ ≤ _; omega
          have HSX : Hid (∀ X : World, Below W3.heap.size W3 X → X.cell? ⟨b2, 5, none⟩ = some (.slice ac k cc) ∧ X.cell? ⟨bt, 0, none⟩ = some (.slice a0 t.sp.length c0) ∧ X.cell? ⟨bt, 1, none⟩ = some (.slice a1 t.lv.length c1)) := fun X hX => ⟨(wr6 (HBX.out.below hX)).2.1.2.2.2.2.2, (wr2 (HBT.out.below hX)).2.1.1, (wr2 (HBT.out.below hX)).2.1.2⟩
          have i0 := i0.below hb3
          have i1 := i1.below hb3
          have st : Below W3.heap.size W3 W3.drew := (Below.refl _ _).drew
          have hS := HSX.out _ st
          clear hW3 hs3 hb3 bt0 hbt bx ok hf d0 d1 x0 x1 x2 x3 x4 x5 hBw hbl hxb
          refine Hd.start (fun X => X.cell? ⟨b2, 5, none⟩ = some (.slice ac k cc) ∧ X.cell? ⟨bt, 0, none⟩ = some (.slice a0 t.sp.length c0) ∧ X.cell? ⟨bt, 1, none⟩ = some (.slice a1 t.lv.length c1)) 7 (by kernel_rfl) ?_
          generalize W3.drew = w0 at st hS ⊢
          refine Hd.After.pureD (i := 0) (some 50) (.pointer (some ⟨b2, 5, none⟩)) rfl rfl (by kernel_rfl) (by decide) (by kernel_rfl) (by kernel_rfl) (fun _ _ _ h => h) (hS) (Or.inl ⟨by rfl, ?_⟩) ?_
          · intro X; go_simp; try with_reducible rfl
          (first | simp only [Act.put, List.setIfInBounds_toArray, List.set_cons_zero, List.set_cons_succ] | skip)
          refine Hd.After.takeD (i := 1) (some 51) (.slice ac k cc) rfl rfl (by kernel_rfl) (by kernel_rfl) (by kernel_rfl) (by kernel_rfl) (by kernel_rfl) (fun _ _ _ h => h) (hS) (Or.inl ⟨by rfl, ?_⟩) ?_
          · rintro X ⟨s0, s1, s2⟩; go_simp; try with_reducible rfl
          (first | simp only [Act.put, List.setIfInBounds_toArray, List.set_cons_zero, List.set_cons_succ] | skip)
          refine Hd.After.takeD (i := 2) (some 52) (.agg #[.slice a0 t.sp.length c0, .slice a1 t.lv.length c1]) rfl rfl (by kernel_rfl) (by kernel_rfl) (by kernel_rfl) (by kernel_rfl) (by kernel_rfl) (fun _ _ _ h => h) (hS) (Or.inl ⟨by rfl, ?_⟩) ?_
          · rintro X ⟨s0, s1, s2⟩; go_simp; try with_reducible rfl
          (first | simp only [Act.put, List.setIfInBounds_toArray, List.set_cons_zero, List.set_cons_succ] | skip)
          refine Hd.After.one (i := 3) (by kernel_rfl) rfl rfl ?_
          intro K hK
          go_simp
          go_wp2_with (go_at_call 24; refine (icopyT _ _ _ _ _ t (i0.below st) (i1.below st) hl1).mono ?_; rintro e w5 ⟨b0, d0, b1, d1, rfl, o0, o1, h01, hb⟩)
          have st5 : Below W3.heap.size W3 w5 := st.trans (hb.mono st.size)
          have h05 := hb.size
          clear hb
          refine hK _ _ (fun _ => HSX.out _ st5) ?_
          clear hK K
          (first | simp only [Act.put, List.setIfInBounds_toArray, List.set_cons_zero, List.set_cons_succ] | skip)
          have hA : Below w5.heap.size w5 (w5.alloc (.cells #[.slice b0 t.sp.length d0, .slice b1 t.lv.length d1] 57)) := (Below.refl _ _).alloc (Nat.le_refl _) _
          have st6 := st5.trans (hA.mono st5.size)
          refine Hd.After.one (i := 4) (by kernel_rfl) rfl rfl ?_
          intro K hK
          go_simp
          refine hK _ _ (fun _ => HSX.out _ st6) ?_
          clear hK K
          (first | simp only [Act.put, List.setIfInBounds_toArray, List.set_cons_zero, List.set_cons_succ] | skip)
          refine Hd.After.one (i := 5) (by kernel_rfl) rfl rfl ?_
          intro K hK
          refine wp_pushT _ _ rfl (some 55) rfl (fun y => M1 ≤ y) W3.heap.size _ (m.ts.take k) (HOK.out.below st6) w5.heap.size b0 b1 d0 d1 _ _ t rfl rfl (by simp) (by simp) ((o0.below hA).mono (by have := st.size; omega)) ((o1.below hA).mono (by have := st.size; omega)) h01 (fun y hy => by have := HM0.out; omega) st6.size (by rw [HTL.out]; omega) (k + 1) (by rw [HTL.out]) ?_
          intro a7 c7 w7 hok7 hg7
          rw [← HTK.out] at hok7
          have hf7 : Fr (Fx b2 M1) w3 w7 := HF.out.trans ((fx_below st6).trans (fx_grown hg7 HVB.out))
          have hb7 : Wr w7 b2 0 [.int .i64 m.n, .int .i64 m.c, .int .i64 m.prior, .int .i64 m.base, .slice ka m.ks.length kc, .slice ac k cc] := (HBX.out.below st6).keptAt hg7.size (hg7.block b2 (Nat.lt_of_lt_of_le HBX.out.1 st6.size) (fun e => by have := HVB.out b2 e.symm; have := HMB1.out; omega))
          have ht7 : Wr w7 bt 0 [.slice a0 t.sp.length c0, .slice a1 t.lv.length c1] := (HBT.out.below st6).keptAt hg7.size (hg7.block bt (Nat.lt_of_lt_of_le HBT.out.1 st6.size) (fun e => HVT.out e.symm))
          obtain ⟨hl7, ⟨p0, p1, p2, p3, p4, p5⟩, q0, q1, q2, q3, q4, q5⟩ := wr6 hb7
          obtain ⟨_, ⟨r0, r1⟩, _⟩ := wr2 ht7
          clear hg7 ht7
          refine hK _ _ (fun _ => ⟨p5, r0, r1⟩) ?_
          clear hK K
          (first | simp only [Act.put, List.setIfInBounds_toArray, List.set_cons_zero, List.set_cons_succ] | skip)
          refine Hd.After.pureD (i := 6) (some 56) (.pointer (some ⟨b2, 5, none⟩)) rfl rfl (by kernel_rfl) (by decide) (by kernel_rfl) (by kernel_rfl) (fun _ _ _ h => h) (⟨p5, r0, r1⟩) (Or.inl ⟨by rfl, ?_⟩) ?_
          · intro X; go_simp; try with_reducible rfl
          (first | simp only [Act.put, List.setIfInBounds_toArray, List.set_cons_zero, List.set_cons_succ] | skip)
          refine Hd.After.one (i := 7) (by kernel_rfl) rfl rfl ?_
          intro K hK
          go_simp
          refine hK _ _ (fun h => by cases h) ?_
          clear hK K
          refine Hd.After.done (by kernel_rfl) ?_ _
          have HB8 : Hid (Wr (w7.setCell ⟨b2, 5, none⟩ (.slice a7 (k + 1) c7)) b2 0 [.int .i64 m.n, .int .i64 m.c, .int .i64 m.prior, .int .i64 m.base, .slice ka m.ks.length kc, .slice a7 (k + 1) c7]) := hb7.set 5 (by simp) _
          have HO8 : Hid (OwT (w7.setCell ⟨b2, 5, none⟩ (.slice a7 (k + 1) c7)) (fun y => M1 ≤ y) (.slice a7 (k + 1) c7) (m.ts.take (k + 1))) := hok7.fr (fr_grown (B := fun y => y = b2) (Li.grown_set w7 b2 5 _) rfl) (fun y hy e => by have := HMB1.out; omega)
          have HF8 : Hid (Fr (Fx b2 M1) w3 (w7.setCell ⟨b2, 5, none⟩ (.slice a7 (k + 1) c7))) := hf7.trans (fx_set w7 5 _)
          clear st hS st5 st6 hA o0 o1 h01 hok7 hf7 hb7 p0 p1 p2 p3 p4 p5 q0 q1 q2 q3 q4 q5 r0 r1 i0 i1 HSX
          go_wp2
          go_roundw
          case rel => exact ⟨k + 1, a7, c7, by omega, by go_num, HB8.out, HO8.out, HF8.out⟩
          case measure => simp [intOf]; omega
        · obtain rfl : k = q := by omega
          have okk := HOKK.out.fr hf (fun y hy e => by rcases e with e | e; have := HMB.out; omega; omega)
          have okb := ok.bound
          obtain ⟨hrl, ⟨r0, r1, r2, r3, r4, r5⟩, f0, f1, f2, f3, f4, f5⟩ := wr6 (HBR3.out.keptAt hf.size (hf.block _ HBR3.out.1 (by unfold Fx; have := HWB.out; have := HWM1.out; omega)))
          have HEND : Hid (OwK wr (fun y => M0 ≤ y ∧ y < M1) (.slice ka m.ks.length kc) m.ks ∧ OwT wr (fun y => M1 ≤ y ∧ y < wr.heap.size) (.slice ac k cc) (m.ts.take k)) := ⟨okk, okb⟩
          have HBE : Hid (Below w.heap.size w wr) := hBw
          have HSW : Hid (M1 ≤ wr.heap.size) := by have := HWS1.out; show _ ≤ _; omega
          clear ok okk okb hf hBw
          go_wp2
          have hW0 := HWB.out
          have hW1 := HMB.out
          have hW2 := HM01.out
          have hsw := HSW.out
          have hset : ∀ (X : World) (o : Nat) (x : Value), Fr (fun y => y = w.heap.size + 1) X (X.setCell ⟨w.heap.size + 1, o, none⟩ x) := fun X o x => fr_grown (Li.grown_set X (w.heap.size + 1) o x) rfl
          have hall := fun (X : World) (v0 v1 v2 v3 v4 v5 : Value) => ((((((hset X 0 v0).trans (hset _ 1 v1)).trans (hset _ 2 v2)).trans (hset _ 3 v3)).trans (hset _ 4 v4)).trans (hset _ 5 v5))
          refine bodyPost_ret (v := .agg #[.int .i64 m.n, .int .i64 m.c, .int .i64 m.prior, .int .i64 m.base, .slice ka m.ks.length kc, .slice ac k cc]) (by rw [results_cell rfl]; go_simp) rfl ⟨.slice ka m.ks.length kc, .slice ac k cc, by rw [HR.out], ?_, ?_⟩
          · rw [HR.out, HCQ.out]
            refine ⟨fun y => y < M1, (HEND.out.1.fr (hall _ _ _ _ _ _ _) (fun y hy e => by omega)).mono (fun y hy => ⟨⟨by omega, by simp [World.setCell]; omega⟩, hy.2⟩), (HEND.out.2.fr (hall _ _ _ _ _ _ _) (fun y hy e => by omega)).mono (fun y hy => ⟨⟨by omega, by simp [World.setCell]; omega⟩, by omega⟩)⟩
          · exact ((((((HBE.out.setCell (by simp) _).setCell (by simp) _).setCell (by simp) _).setCell (by simp) _).setCell (by simp) _).setCell (by simp) _)
end Go.Proofs.YtcadgeepknhmfaaGreat.Ct
