/-
  Copies of a tree: slices.Clone of questions, the model's l06Copy; where bits i and i + 1 go.
-/
import Derived.Test.YtomembbdbmjgmaaTrW
import Derived.Test.YtomembbdbmjgmaaApI
import Derived.Deep.AppendLies
import Derived.Deep.RegionHeldLaw
import Derived.Deep.RegionWith
import Derived.Laws.Cover3
namespace Go.Proofs.Ytomembbdbmjgmaa.Fw
open Go.RowKit
open Go.Proofs.Ytomembbdbmjgmaa.Li (ret_bool ret_int below_none)
open Go.Proofs.Ytomembbdbmjgmaa.Tr Go.Proofs.Ytomembbdbmjgmaa.Tm
set_option linter.unusedVariables false

theorem pv_one (ps : List (Int × Int)) : ∀ u ∈ pv ps, u.oneCell' = true := by
  induction ps with
  | nil => intro u hu; simp [pv] at hu
  | cons p ps ih =>
    intro u hu
    simp only [pv, List.mem_cons] at hu
    rcases hu with rfl | rfl | hu
    · rfl
    · rfl
    · exact ih u hu
/-- What questions read as, for an append of all of them. -/
theorem news_p {w : World} {b off : Nat} {ps : List (Int × Int)} (h : ∀ j (hj : j < ps.length), w.cell? ⟨b, off + j * 2, none⟩ = some (.int .i64 ps[j].1) ∧ w.cell? ⟨b, off + j * 2 + 1, none⟩ = some (.int .i64 ps[j].2)) : ∀ j u, (pv ps)[j]? = some u → w.cell? ((⟨b, off, none⟩ : Addr).add j) = some u := by
  intro j u hj
  have hlt : j < ps.length * 2 := by
    apply Classical.byContradiction
    intro hn
    rw [List.getElem?_eq_none (by rw [pv_length]; omega)] at hj
    cases hj
  rw [Go.WideShapes.add_plain]
  have hc := h (j / 2) (by omega)
  have hp := pv_get ps (j / 2) (by omega)
  rcases Nat.mod_two_eq_zero_or_one j with e | e
  · rw [show j / 2 * 2 = j by omega] at hp hc
    rw [hp.1] at hj
    rw [hc.1, ← hj]
  · have e2 : j / 2 * 2 + 1 = j := by omega
    have e3 : off + j / 2 * 2 + 1 = off + j := by omega
    rw [e2] at hp
    rw [e3] at hc
    rw [hp.2] at hj
    rw [hc.2, ← hj]
theorem ownP_cat {w : World} {base n : Nat} {v : Value} {ps : List (Int × Int)} (h : w.ownsRow base 49 2 v (0 + n) ([] ++ pv ps)) (hn : ps.length = n) : OwnP w base v ps := by
  subst hn
  rw [Nat.zero_add, List.nil_append] at h
  exact h
theorem own_cat0 {w : World} {base n : Nat} {v : Value} {ps : List Int} (h : w.ownsRow base 3 1 v (0 + n) ([] ++ Li.iv ps)) (hn : ps.length = n) : Li.Own w base v ps := by
  subst hn
  rw [Nat.zero_add, List.nil_append] at h
  exact h
theorem emptyP (w : World) (base : Nat) (hb : base ≤ w.heap.size) : (w.alloc (.cells #[] 49)).ownsRow base 49 2 (.slice (some ⟨w.heap.size, 0, none⟩) 0 0) 0 [] :=
  World.ownsRow_made w #[] 0 hb (by unfold maxLen; omega) (by simp)
theorem news_q {w : World} {b off : Nat} {ps : List (Int × Int)} (h : IsP w (some ⟨b, off, none⟩) ps) (h0 : 0 < ps.length) : ∀ j u, (pv ps)[j]? = some u → w.cell? ((⟨b, off, none⟩ : Addr).add j) = some u := by
  rcases h with h | ⟨b', off', e, _, hc⟩
  · rw [h] at h0; simp at h0
  · cases e; exact news_p hc
theorem bA1 (W : World) (o : Obj) : Below W.heap.size W (W.alloc o).drew := ((Below.refl _ W).alloc (Nat.le_refl _) o).drew
theorem bA2 (W : World) (o o' : Obj) : Below W.heap.size W ((W.alloc o).alloc o').drew := (((Below.refl _ W).alloc (Nat.le_refl _) o).alloc (by simp) o').drew
theorem bA3 (W : World) (o o' : Obj) : Below W.heap.size W ((W.alloc o).alloc o') := ((Below.refl _ W).alloc (Nat.le_refl _) o).alloc (by simp) o'
theorem emptyP' (w : World) (base H : Nat) (hb : base ≤ w.heap.size) (hH : w.heap.size = H) : (w.alloc (.cells #[] 49)).ownsRow base 49 2 (.slice (some ⟨H, 0, none⟩) 0 0) 0 [] := by subst hH; exact emptyP w base hb
theorem emptyI' (w : World) (base H : Nat) (hb : base ≤ w.heap.size) (hH : w.heap.size = H) : Li.Own (w.alloc (.cells #[] 3)) base (.slice (some ⟨H, 0, none⟩) 0 0) [] := by subst hH; exact Ai.own_empty w base hb
theorem eql_nil {P : Program} (w : World) (t e : TypeId) (a : Addr) (l c : Nat) (h : P.underlying t = some (.slice e)) : (binOp .eql t (.slice (some a) l c) (.slice none 0 0)).run P w = .ok (.bool false) w := by
  simp only [binOp]
  simp [run_equal_slice_nil w t e (some a) l c h]
set_option maxRecDepth 100000 in
set_option maxHeartbeats 1000000 in
theorem iclone (w : World) (a : Option Addr) (c : Nat) (ps : List (Int × Int)) (hp : IsP w a ps) (h0 : 0 < ps.length) (hl : ps.length ≤ 1048576) :
    Calls Try.prog 22 #[.slice a ps.length c] w fun e w' => ∃ g cap, e = .returned (.slice (some ⟨g, 0, none⟩) ps.length cap) ∧ OwnP w' w.heap.size (.slice (some ⟨g, 0, none⟩) ps.length cap) ps ∧ Below w.heap.size w w' := by
  obtain ⟨i0, hi, hz0, hz1, hz2⟩ := info_parts info_spl
  rcases hp with h1 | ⟨b, off, rfl, hb, hc⟩
  · rw [h1] at h0; simp at h0
  have hB0 : Below w.heap.size w (w.alloc (.cells #[] 49)) := (Below.refl _ _).alloc (Nat.le_refl _) _
  go_enter Try.func22, Try.ntmps22
  have hnil : ∀ w0 : World, Sem.run Try.prog (binOp .eql 24 (.slice (some ⟨b, off, none⟩) ps.length c) (.slice none 0 0)) w0 = .ok (.bool false) w0 := fun w0 => eql_nil w0 _ _ _ _ _ Try.underlying24
  go_wp2_with (at_builtin; refine wpList_append_lies _ rfl _ _ 24 rfl w.heap.size 49 i0 (.agg #[.int .i64 0, .int .i64 0]) 2 16 Try.underlying24 hi hz0 hz1 hz2 rfl (by decide) (.slice (some ⟨w.heap.size, 0, none⟩) 0 0) 0 [] rfl (emptyP w _ (Nat.le_refl _)) ⟨b, off, none⟩ ps.length c (pv ps) rfl (by rw [pv_length]) (news_p (fun j hj => ⟨(hB0.cell (by exact hb)).trans (hc j hj).1, (hB0.cell (by exact hb)).trans (hc j hj).2⟩)) (pv_one _) h0 (by unfold maxLen; omega) (by omega) (by simp) _ rfl ?_)
  intro g cap w1 hown hgrow _ _
  have ho : OwnP w1 w.heap.size (.slice (some ⟨g, 0, none⟩) ps.length cap) ps := by first | exact ownP_cat hown rfl | exact hown
  have hB1 : Below w.heap.size w w1 := Ai.below_app hB0 (by simp) hgrow (fun k hk => by simp [Value.ownBlock] at hk; omega)
  clear hown hgrow
  go_wp2
  go_ret
  refine ⟨g, cap, by simp, ho, hB1⟩
set_option maxHeartbeats 4000000 in
theorem scopy (w : World) (a a' : Option Addr) (c c' : Nat) (t : T) (hp : IsP w a t.sp) (hx : Li.IsL w a' t.lv) (h0 : 0 < t.sp.length) (h1 : 0 < t.lv.length) (hl : t.sp.length + t.lv.length ≤ 1048576) :
    Calls Try.prog 26 #[.agg #[.slice a t.sp.length c, .slice a' t.lv.length c']] w fun e w' => ∃ g0 c0 g1 c1, e = .returned (.agg #[.slice (some ⟨g0, 0, none⟩) t.sp.length c0, .slice (some ⟨g1, 0, none⟩) t.lv.length c1]) ∧ OwnP w' w.heap.size (.slice (some ⟨g0, 0, none⟩) t.sp.length c0) t.sp ∧ Li.Own w' w.heap.size (.slice (some ⟨g1, 0, none⟩) t.lv.length c1) t.lv ∧ Apt (.slice (some ⟨g0, 0, none⟩) t.sp.length c0) (.slice (some ⟨g1, 0, none⟩) t.lv.length c1) ∧ Below w.heap.size w w' := by
  obtain ⟨i0, hi, hz0, hz1, hz2⟩ := info_parts info_spl
  obtain ⟨j0, hj, hy0, hy1, hy2⟩ := info_parts Li.info_int
  go_enter Try.func26, Try.ntmps26
  go_wp2_with fail
  obtain ⟨W, hW, hsz, hB, bx, br⟩ := boxes2 w (.slice a t.sp.length c) (.slice a' t.lv.length c') (.slice none 0 0) (.slice none 0 0) 27 27
  rw [hW]
  clear hW
  rcases hp.below hB with h2 | ⟨pb, po, rfl, hpb, hpc⟩
  · rw [h2] at h0; simp at h0
  rcases hx.below hB with h2 | ⟨xb, xo, rfl, hxb, hxc⟩
  · rw [h2] at h1; simp at h1
  obtain ⟨_, ⟨cx0, cx1⟩, _⟩ := id bx
  have hgt : w.heap.size + 1 < W.heap.size := by omega
  clear hsz
  have ix : Li.IsL W (some ⟨xb, xo, none⟩) t.lv := .inr ⟨xb, xo, rfl, hxb, hxc⟩
  have HX : Hid (Li.IsL W (some ⟨xb, xo, none⟩) t.lv) := ix
  have HP0 : Hid (IsP W (some ⟨pb, po, none⟩) t.sp) := .inr ⟨pb, po, rfl, hpb, hpc⟩
  have HBX : Hid (Box2 W w.heap.size (.slice (some ⟨pb, po, none⟩) t.sp.length c) (.slice (some ⟨xb, xo, none⟩) t.lv.length c')) := bx
  have HBR : Hid (Box2 W (w.heap.size + 1) (.slice none 0 0) (.slice none 0 0)) := br
  have HB : Hid (Below w.heap.size w W) := hB
  clear hpc hxc ix bx br hB hp hx
  go_region_held_law (fun w' => w'.cell? ⟨w.heap.size, 0, none⟩ = some (.slice (some ⟨pb, po, none⟩) t.sp.length c) ∧ w'.cell? ⟨w.heap.size, 1, none⟩ = some (.slice (some ⟨xb, xo, none⟩) t.lv.length c')) (go_keep) (first
    | (refine step_append_lies _ rfl _ _ 24 rfl W.heap.size 49 i0 (.agg #[.int .i64 0, .int .i64 0]) 2 16 Try.underlying24 hi hz0 hz1 hz2 rfl (by decide) (.slice (some ⟨_, 0, none⟩) 0 0) 0 [] rfl (by first | exact emptyP' W W.heap.size _ (Nat.le_refl _) rfl | exact World.ownsRow.alloc (emptyP' W W.heap.size _ (Nat.le_refl _) rfl) (.cells #[] 3) | exact emptyP' (W.alloc (.cells #[] 3)) W.heap.size _ (by simp) (by simp)) ⟨pb, po, none⟩ t.sp.length c (pv t.sp) rfl (by rw [pv_length]) (by first | exact news_q (HP0.out.below (bA1 _ _)) h0 | exact news_q (HP0.out.below (bA2 _ _ _)) h0 | exact news_q (HP0.out.below (bA3 _ _ _)) h0) (pv_one _) h0 (by unfold maxLen; omega) (by omega) (by first | omega | (simp; done) | (simp; omega)) _ rfl ?_
       intro g cap w5 hown hgrow hpos hglt
       have hB5 : Below W.heap.size W w5 := Ai.below_app (by first | exact bA1 _ _ | exact bA2 _ _ _ | exact bA3 _ _ _) (by first | omega | (simp; done) | (simp; omega)) hgrow (by intro k hk; simp [Value.ownBlock] at hk; omega)
       have HP : Hid (OwnP w5 W.heap.size (.slice (some ⟨g, 0, none⟩) t.sp.length cap) t.sp) := (by first | exact ownP_cat hown rfl | (rw [Nat.zero_add] at hown; exact hown))
       have hs5 := hB5.size
       obtain ⟨_, ⟨cy0, cy1⟩, _⟩ := HBX.out.below hB5
       have HPOS : Hid (type_of% hpos) := hpos
       clear hown hpos)
    | (refine step_append_lies _ rfl _ _ 25 rfl W.heap.size 3 j0 (.int .i64 0) 1 8 Try.underlying25 hj hy0 hy1 hy2 rfl (by decide) (.slice (some ⟨_, 0, none⟩) 0 0) 0 [] rfl (by first | exact emptyI' w5 W.heap.size _ hs5 rfl | exact World.ownsRow.kept (emptyI' (W.alloc (.cells #[] 49)) W.heap.size (W.heap.size + 1) (by simp) (by simp)) (Ai.grown_undrew hgrow) (.inr (by simp [Value.ownBlock])) | exact World.ownsRow.kept (World.ownsRow.alloc (emptyI' W W.heap.size W.heap.size (Nat.le_refl _) rfl) (.cells #[] 49)) (Ai.grown_undrew hgrow) (.inr (by simp [Value.ownBlock]))) ⟨xb, xo, none⟩ t.lv.length c' (Li.iv t.lv) rfl (by rw [Li.iv_length]; omega) (by first | exact Ai.news_i (HX.out.below hB5) | exact Ai.news_i (HX.out.below (hB5.alloc hs5 _))) (Li.iv_one _) h1 (by unfold maxLen; omega) (by omega) (by first | omega | (simp; done) | (simp; omega)) _ rfl ?_
       intro g' cap' w6 hown' hgrow' hpos' hglt'
       have hB6 : Below W.heap.size W w6 := Ai.below_app (by first | exact hB5 | exact hB5.alloc hs5 _) (by first | omega | (simp; done) | (simp; omega)) hgrow' (by intro k hk; simp [Value.ownBlock] at hk; omega)
       have HI : Hid (Li.Own w6 W.heap.size (.slice (some ⟨g', 0, none⟩) t.lv.length cap') t.lv) := (by first | exact own_cat0 hown' rfl | (rw [Nat.zero_add] at hown'; exact hown'))
       have hgg : ¬ g = g' := (by have h1 := HPOS.out; have h2 := hpos'; simp [Value.ownBlock] at h1 h2; omega)
       have HQ : Hid (OwnP w6 W.heap.size (.slice (some ⟨g, 0, none⟩) t.sp.length cap) t.sp) := (by first | exact HP.out.kept hgrow' (.inr (by have h1 := HPOS.out; simp [Value.ownBlock] at h1 ⊢; omega)) | exact OwnP.kept (World.ownsRow.alloc HP.out _) hgrow' (.inr (by have h1 := HPOS.out; simp [Value.ownBlock] at h1 ⊢; omega)))
       obtain ⟨_, ⟨cr0, cr1⟩, fr0, fr1⟩ := HBR.out.below hB6
       obtain ⟨_, ⟨cz0, cz1⟩, _⟩ := HBX.out.below hB6
       have hs6 := hB6.size
       clear hown' hpos'))
  all_goals
    have o0 := HQ.out
    have o1 := HI.out
    have hBB := HB.out.trans (hB6.mono HB.out.size)
    clear HQ HI HP hgrow hgrow' HPOS hB5 hB6 cy0 cy1 cz0 cz1
    go_wp2
    refine bodyPost_ret (v := .agg #[.slice (some ⟨g, 0, none⟩) t.sp.length cap, .slice (some ⟨g', 0, none⟩) t.lv.length cap']) (by rw [results_cell rfl]; go_simp) rfl ⟨_, _, _, _, rfl, ?_, ?_, apt_of (fun k e e' => hgg (by simp [Value.ownBlock] at e e'; omega)), ?_⟩
    · exact (ownP_off (ownP_off o0 (Li.grown_set _ _ _ _) (by omega)) (Li.grown_set _ _ _ _) (by omega)).mono (by omega)
    · exact (own_off (own_off o1 (Li.grown_set _ _ _ _) (by omega)) (Li.grown_set _ _ _ _) (by omega)).mono (by omega)
    · exact (hBB.setCell (by simp) _).setCell (by simp) _
end Go.Proofs.Ytomembbdbmjgmaa.Fw
