/-
  Contracts that the proof leans on, put together in the order in which they build.
-/
import Derived.Test.YtkfjlldlbknepaaGreatPart11
import Derived.Test.YtkfjlldlbknepaaGreatPart14
import Derived.Deep.AppendLies
import Derived.Deep.RegionHeldLaw
import Derived.Deep.RegionWith
import Derived.Laws.Cover3
import Derived.Test.YtkfjlldlbknepaaGreatPart16
import Derived.Test.YtkfjlldlbknepaaGreatPart9
import Derived.Deep.Upon
/-
  Copies of a tree: slices.Clone of questions, the model's l06Copy; where bits i and i + 1 go.
-/
namespace Go.Proofs.YtkfjlldlbknepaaGreat.Fw
open Go.RowKit
open Go.Proofs.YtkfjlldlbknepaaGreat.Li (ret_bool ret_int below_none)
open Go.Proofs.YtkfjlldlbknepaaGreat.Tr Go.Proofs.YtkfjlldlbknepaaGreat.Tm
set_option linter.unusedVariables false

theorem pv_one (ps : List (Int × Int)) : ∀ u ∈ pv ps, u.oneCell' = true := by
  induction ps with
  | nil => intro u hu; simp [pv] at hu
  | cons p ps ih =>
    intro u hu
    simp only [pv, List.mem_cons] at hu
    rcases hu with rfl | rfl | hu
    · rfl
    · rfl
    · exact ih u hu
/-- What questions read as, for an append of all of them. -/
theorem news_p {w : World} {b off : Nat} {ps : List (Int × Int)} (h : ∀ j (hj : j < ps.length), w.cell? ⟨b, off + j * 2, none⟩ = some (.int .i64 ps[j].1) ∧ w.cell? ⟨b, off + j * 2 + 1, none⟩ = some (.int .i64 ps[j].2)) : ∀ j u, (pv ps)[j]? = some u → w.cell? ((⟨b, off, none⟩ : Addr).add j) = some u := by
  intro j u hj
  have hlt : j < ps.length * 2 := by
    apply Classical.byContradiction
    intro hn
    rw [List.getElem?_eq_none (by rw [pv_length]; omega)] at hj
    cases hj
  rw [Go.WideShapes.add_plain]
  have hc := h (j / 2) (by omega)
  have hp := pv_get ps (j / 2) (by omega)
  rcases Nat.mod_two_eq_zero_or_one j with e | e
  · rw [show j / 2 * 2 = j by omega] at hp hc
    rw [hp.1] at hj
    rw [hc.1, ← hj]
  · have e2 : j / 2 * 2 + 1 = j := by omega
    have e3 : off + j / 2 * 2 + 1 = off + j := by omega
    rw [e2] at hp
    rw [e3] at hc
    rw [hp.2] at hj
    rw [hc.2, ← hj]
theorem ownP_cat {w : World} {base n : Nat} {v : Value} {ps : List (Int × Int)} (h : w.ownsRow base 129 2 v (0 + n) ([] ++ pv ps)) (hn : ps.length = n) : OwnP w base v ps := by
  subst hn
  rw [Nat.zero_add, List.nil_append] at h
  exact h
theorem own_cat0 {w : World} {base n : Nat} {v : Value} {ps : List Int} (h : w.ownsRow base 3 1 v (0 + n) ([] ++ Li.iv ps)) (hn : ps.length = n) : Li.Own w base v ps := by
  subst hn
  rw [Nat.zero_add, List.nil_append] at h
  exact h
theorem emptyP (w : World) (base : Nat) (hb : base ≤ w.heap.size) : (w.alloc (.cells #[] 129)).ownsRow base 129 2 (.slice (some ⟨w.heap.size, 0, none⟩) 0 0) 0 [] :=
  World.ownsRow_made w #[] 0 hb (by unfold maxLen; omega) (by simp)
theorem news_q {w : World} {b off : Nat} {ps : List (Int × Int)} (h : IsP w (some ⟨b, off, none⟩) ps) (h0 : 0 < ps.length) : ∀ j u, (pv ps)[j]? = some u → w.cell? ((⟨b, off, none⟩ : Addr).add j) = some u := by
  rcases h with h | ⟨b', off', e, _, hc⟩
  · rw [h] at h0; simp at h0
  · cases e; exact news_p hc
theorem bA1 (W : World) (o : Obj) : Below W.heap.size W (W.alloc o).drew := ((Below.refl _ W).alloc (Nat.le_refl _) o).drew
theorem bA2 (W : World) (o o' : Obj) : Below W.heap.size W ((W.alloc o).alloc o').drew := (((Below.refl _ W).alloc (Nat.le_refl _) o).alloc (by simp) o').drew
theorem bA3 (W : World) (o o' : Obj) : Below W.heap.size W ((W.alloc o).alloc o') := ((Below.refl _ W).alloc (Nat.le_refl _) o).alloc (by simp) o'
theorem emptyP' (w : World) (base H : Nat) (hb : base ≤ w.heap.size) (hH : w.heap.size = H) : (w.alloc (.cells #[] 129)).ownsRow base 129 2 (.slice (some ⟨H, 0, none⟩) 0 0) 0 [] := by subst hH; exact emptyP w base hb
theorem emptyI' (w : World) (base H : Nat) (hb : base ≤ w.heap.size) (hH : w.heap.size = H) : Li.Own (w.alloc (.cells #[] 3)) base (.slice (some ⟨H, 0, none⟩) 0 0) [] := by subst hH; exact Ai.own_empty w base hb
theorem eql_nil {P : Program} (w : World) (t e : TypeId) (a : Addr) (l c : Nat) (h : P.underlying t = some (.slice e)) : (binOp .eql t (.slice (some a) l c) (.slice none 0 0)).run P w = .ok (.bool false) w := by
  simp only [binOp]
  simp [run_equal_slice_nil w t e (some a) l c h]
set_option maxRecDepth 100000 in
set_option maxHeartbeats 1000000 in
theorem iclone (w : World) (a : Option Addr) (c : Nat) (ps : List (Int × Int)) (hp : IsP w a ps) (h0 : 0 < ps.length) (hl : ps.length ≤ 1048576) :
    Calls Tryz.prog 102 #[.slice a ps.length c] w fun e w' => ∃ g cap, e = .returned (.slice (some ⟨g, 0, none⟩) ps.length cap) ∧ OwnP w' w.heap.size (.slice (some ⟨g, 0, none⟩) ps.length cap) ps ∧ Below w.heap.size w w' := by
  obtain ⟨i0, hi, hz0, hz1, hz2⟩ := info_parts info_spl
  rcases hp with h1 | ⟨b, off, rfl, hb, hc⟩
  · rw [h1] at h0; simp at h0
  have hB0 : Below w.heap.size w (w.alloc (.cells #[] 129)) := (Below.refl _ _).alloc (Nat.le_refl _) _
  go_enter Tryz.func102, Tryz.ntmps102
  have hnil : ∀ w0 : World, Sem.run Tryz.prog (binOp .eql 91 (.slice (some ⟨b, off, none⟩) ps.length c) (.slice none 0 0)) w0 = .ok (.bool false) w0 := fun w0 => eql_nil w0 _ _ _ _ _ Tryz.underlying91
  go_wp2_with (at_builtin; refine wpList_append_lies _ rfl _ _ 91 rfl w.heap.size 129 i0 (.agg #[.int .i64 0, .int .i64 0]) 2 16 Tryz.underlying91 hi hz0 hz1 hz2 rfl (by decide) (.slice (some ⟨w.heap.size, 0, none⟩) 0 0) 0 [] rfl (emptyP w _ (Nat.le_refl _)) ⟨b, off, none⟩ ps.length c (pv ps) rfl (by rw [pv_length]) (news_p (fun j hj => ⟨(hB0.cell (by exact hb)).trans (hc j hj).1, (hB0.cell (by exact hb)).trans (hc j hj).2⟩)) (pv_one _) h0 (by unfold maxLen; omega) (by omega) (by simp) _ rfl ?_)
  intro g cap w1 hown hgrow _ _
  have ho : OwnP w1 w.heap.size (.slice (some ⟨g, 0, none⟩) ps.length cap) ps := by first | exact ownP_cat hown rfl | exact hown
  have hB1 : Below w.heap.size w w1 := Ai.below_app hB0 (by simp) hgrow (fun k hk => by simp [Value.ownBlock] at hk; omega)
  clear hown hgrow
  go_wp2
  go_ret
  refine ⟨g, cap, by simp, ho, hB1⟩
set_option maxHeartbeats 4000000 in
theorem scopy (w : World) (a a' : Option Addr) (c c' : Nat) (t : T) (hp : IsP w a t.sp) (hx : Li.IsL w a' t.lv) (h0 : 0 < t.sp.length) (h1 : 0 < t.lv.length) (hl : t.sp.length + t.lv.length ≤ 1048576) :
    Calls Tryz.prog 99 #[.agg #[.slice a t.sp.length c, .slice a' t.lv.length c']] w fun e w' => ∃ g0 c0 g1 c1, e = .returned (.agg #[.slice (some ⟨g0, 0, none⟩) t.sp.length c0, .slice (some ⟨g1, 0, none⟩) t.lv.length c1]) ∧ OwnP w' w.heap.size (.slice (some ⟨g0, 0, none⟩) t.sp.length c0) t.sp ∧ Li.Own w' w.heap.size (.slice (some ⟨g1, 0, none⟩) t.lv.length c1) t.lv ∧ Apt (.slice (some ⟨g0, 0, none⟩) t.sp.length c0) (.slice (some ⟨g1, 0, none⟩) t.lv.length c1) ∧ Below w.heap.size w w' := by
  obtain ⟨i0, hi, hz0, hz1, hz2⟩ := info_parts info_spl
  obtain ⟨j0, hj, hy0, hy1, hy2⟩ := info_parts Li.info_int
  go_enter Tryz.func99, Tryz.ntmps99
  go_wp2_with fail
  obtain ⟨W, hW, hsz, hB, bx, br⟩ := boxes2 w (.slice a t.sp.length c) (.slice a' t.lv.length c') (.slice none 0 0) (.slice none 0 0) 93 93
  rw [hW]
  clear hW
  rcases hp.below hB with h2 | ⟨pb, po, rfl, hpb, hpc⟩
  · rw [h2] at h0; simp at h0
  rcases hx.below hB with h2 | ⟨xb, xo, rfl, hxb, hxc⟩
  · rw [h2] at h1; simp at h1
  obtain ⟨_, ⟨cx0, cx1⟩, _⟩ := id bx
  have hgt : w.heap.size + 1 < W.heap.size := by omega
  clear hsz
  have ix : Li.IsL W (some ⟨xb, xo, none⟩) t.lv := .inr ⟨xb, xo, rfl, hxb, hxc⟩
  have HX : Hid (Li.IsL W (some ⟨xb, xo, none⟩) t.lv) := ix
  have HP0 : Hid (IsP W (some ⟨pb, po, none⟩) t.sp) := .inr ⟨pb, po, rfl, hpb, hpc⟩
  have HBX : Hid (Box2 W w.heap.size (.slice (some ⟨pb, po, none⟩) t.sp.length c) (.slice (some ⟨xb, xo, none⟩) t.lv.length c')) := bx
  have HBR : Hid (Box2 W (w.heap.size + 1) (.slice none 0 0) (.slice none 0 0)) := br
  have HB : Hid (Below w.heap.size w W) := hB
  clear hpc hxc ix bx br hB hp hx
  go_region_held_law (fun w' => w'.cell? ⟨w.heap.size, 0, none⟩ = some (.slice (some ⟨pb, po, none⟩) t.sp.length c) ∧ w'.cell? ⟨w.heap.size, 1, none⟩ = some (.slice (some ⟨xb, xo, none⟩) t.lv.length c')) (go_keep) (first
    | (refine step_append_lies _ rfl _ _ 91 rfl W.heap.size 129 i0 (.agg #[.int .i64 0, .int .i64 0]) 2 16 Tryz.underlying91 hi hz0 hz1 hz2 rfl (by decide) (.slice (some ⟨_, 0, none⟩) 0 0) 0 [] rfl (by first | exact emptyP' W W.heap.size _ (Nat.le_refl _) rfl | exact World.ownsRow.alloc (emptyP' W W.heap.size _ (Nat.le_refl _) rfl) (.cells #[] 3) | exact emptyP' (W.alloc (.cells #[] 3)) W.heap.size _ (by simp) (by simp)) ⟨pb, po, none⟩ t.sp.length c (pv t.sp) rfl (by rw [pv_length]) (by first | exact news_q (HP0.out.below (bA1 _ _)) h0 | exact news_q (HP0.out.below (bA2 _ _ _)) h0 | exact news_q (HP0.out.below (bA3 _ _ _)) h0) (pv_one _) h0 (by unfold maxLen; omega) (by omega) (by first | omega | (simp; done) | (simp; omega)) _ rfl ?_
       intro g cap w5 hown hgrow hpos hglt
       have hB5 : Below W.heap.size W w5 := Ai.below_app (by first | exact bA1 _ _ | exact bA2 _ _ _ | exact bA3 _ _ _) (by first | omega | (simp; done) | (simp; omega)) hgrow (by intro k hk; simp [Value.ownBlock] at hk; omega)
       have HP : Hid (OwnP w5 W.heap.size (.slice (some ⟨g, 0, none⟩) t.sp.length cap) t.sp) := (by first | exact ownP_cat hown rfl | (rw [Nat.zero_add] at hown; exact hown))
       have hs5 := hB5.size
       obtain ⟨_, ⟨cy0, cy1⟩, _⟩ := HBX.out.below hB5
       have HPOS : Hid (type_of% hpos) := hpos
       clear hown hpos)
    | (refine step_append_lies _ rfl _ _ 48 rfl W.heap.size 3 j0 (.int .i64 0) 1 8 Tryz.underlying48 hj hy0 hy1 hy2 rfl (by decide) (.slice (some ⟨_, 0, none⟩) 0 0) 0 [] rfl (by first | exact emptyI' w5 W.heap.size _ hs5 rfl | exact World.ownsRow.kept (emptyI' (W.alloc (.cells #[] 129)) W.heap.size (W.heap.size + 1) (by simp) (by simp)) (Ai.grown_undrew hgrow) (.inr (by simp [Value.ownBlock])) | exact World.ownsRow.kept (World.ownsRow.alloc (emptyI' W W.heap.size W.heap.size (Nat.le_refl _) rfl) (.cells #[] 129)) (Ai.grown_undrew hgrow) (.inr (by simp [Value.ownBlock]))) ⟨xb, xo, none⟩ t.lv.length c' (Li.iv t.lv) rfl (by rw [Li.iv_length]; omega) (by first | exact Ai.news_i (HX.out.below hB5) | exact Ai.news_i (HX.out.below (hB5.alloc hs5 _))) (Li.iv_one _) h1 (by unfold maxLen; omega) (by omega) (by first | omega | (simp; done) | (simp; omega)) _ rfl ?_
       intro g' cap' w6 hown' hgrow' hpos' hglt'
       have hB6 : Below W.heap.size W w6 := Ai.below_app (by first | exact hB5 | exact hB5.alloc hs5 _) (by first | omega | (simp; done) | (simp; omega)) hgrow' (by intro k hk; simp [Value.ownBlock] at hk; omega)
       have HI : Hid (Li.Own w6 W.heap.size (.slice (some ⟨g', 0, none⟩) t.lv.length cap') t.lv) := (by first | exact own_cat0 hown' rfl | (rw [Nat.zero_add] at hown'; exact hown'))
       have hgg : ¬ g = g' := (by have h1 := HPOS.out; have h2 := hpos'; simp [Value.ownBlock] at h1 h2; omega)
       have HQ : Hid (OwnP w6 W.heap.size (.slice (some ⟨g, 0, none⟩) t.sp.length cap) t.sp) := (by first | exact HP.out.kept hgrow' (.inr (by have h1 := HPOS.out; simp [Value.ownBlock] at h1 ⊢; omega)) | exact OwnP.kept (World.ownsRow.alloc HP.out _) hgrow' (.inr (by have h1 := HPOS.out; simp [Value.ownBlock] at h1 ⊢; omega)))
       obtain ⟨_, ⟨cr0, cr1⟩, fr0, fr1⟩ := HBR.out.below hB6
       obtain ⟨_, ⟨cz0, cz1⟩, _⟩ := HBX.out.below hB6
       have hs6 := hB6.size
       clear hown' hpos'))
  all_goals
    have o0 := HQ.out
    have o1 := HI.out
    have hBB := HB.out.trans (hB6.mono HB.out.size)
    clear HQ HI HP hgrow hgrow' HPOS hB5 hB6 cy0 cy1 cz0 cz1
    go_wp2
    refine bodyPost_ret (v := .agg #[.slice (some ⟨g, 0, none⟩) t.sp.length cap, .slice (some ⟨g', 0, none⟩) t.lv.length cap']) (by rw [results_cell rfl]; go_simp) rfl ⟨_, _, _, _, rfl, ?_, ?_, apt_of (fun k e e' => hgg (by simp [Value.ownBlock] at e e'; omega)), ?_⟩
    · exact (ownP_off (ownP_off o0 (Li.grown_set _ _ _ _) (by omega)) (Li.grown_set _ _ _ _) (by omega)).mono (by omega)
    · exact (own_off (own_off o1 (Li.grown_set _ _ _ _) (by omega)) (Li.grown_set _ _ _ _) (by omega)).mono (by omega)
    · exact (hBB.setCell (by simp) _).setCell (by simp) _
end Go.Proofs.YtkfjlldlbknepaaGreat.Fw
/-
  Copies of lists: slices.Clone at every list; append onto a list that has just been made empty.
-/
namespace Go.Proofs.YtkfjlldlbknepaaGreat.Ct
set_option maxRecDepth 20000
open Go.RowKit
open Go.Proofs.YtkfjlldlbknepaaGreat.Tm (IsP OwnP pv pv_length)
open Go.Proofs.YtkfjlldlbknepaaGreat.Li (IsL iv)
set_option linter.unusedVariables false
def ri (xs : List Int) : Rw := ⟨3, 1, xs.length, iv xs⟩
def rs (xs : List ByteArray) : Rw := ⟨9, 1, xs.length, Ls.sv xs⟩
def rp (xs : List (Int × Int)) : Rw := ⟨129, 2, xs.length, pv xs⟩
theorem eql_nil0 {P : Program} (w : World) (t e : TypeId) (l c : Nat) (h : P.underlying t = some (.slice e)) : (binOp .eql t (.slice none l c) (.slice none 0 0)).run P w = .ok (.bool true) w := by
  simp only [binOp]
  simp [run_equal_slice_nil w t e none l c h]
set_option maxHeartbeats 1000000 in
theorem cloneI (w : World) (a : Option Addr) (c : Nat) (xs : List Int) (hx : IsL w a xs) (hl : xs.length ≤ 1048576) :
    Calls Tryz.prog 100 #[.slice a xs.length c] w fun e w' => ∃ b d, e = .returned (.slice b xs.length d) ∧ Ow w' w.heap.size (.slice b xs.length d) (ri xs) ∧ Below w.heap.size w w' := by
  obtain ⟨i0, hi, hz0, hz1, hz2⟩ := info_parts Li.info_int
  cases a with
  | none =>
    have h0 : xs = [] := by
      rcases hx with h | ⟨b, off, e, _⟩
      · exact h
      · cases e
    subst h0
    have hnil : ∀ w0 : World, Sem.run Tryz.prog (binOp .eql 48 (.slice none 0 c) (.slice none 0 0)) w0 = .ok (.bool true) w0 := fun w0 => eql_nil0 w0 _ _ _ _ Tryz.underlying48
    go_enter Tryz.func100, Tryz.ntmps100
    go_wp2
    go_ret
    exact ⟨none, 0, rfl, World.ownsRow_nil _ _ _ _, Below.refl _ _⟩
  | some x =>
    have hnil : ∀ w0 : World, Sem.run Tryz.prog (binOp .eql 48 (.slice (some x) xs.length c) (.slice none 0 0)) w0 = .ok (.bool false) w0 := fun w0 => Fw.eql_nil w0 _ _ _ _ _ Tryz.underlying48
    have hB0 : Below w.heap.size w (w.alloc (.cells #[] 3)) := (Below.refl _ _).alloc (Nat.le_refl _) _
    by_cases h0 : xs.length = 0
    · obtain rfl : xs = [] := List.length_eq_zero_iff.1 h0
      clear h0 hnil
      have hnil : ∀ w0 : World, Sem.run Tryz.prog (binOp .eql 48 (.slice (some x) 0 c) (.slice none 0 0)) w0 = .ok (.bool false) w0 := fun w0 => Fw.eql_nil w0 _ _ _ _ _ Tryz.underlying48
      have ho := ow_new w 3 1
      go_enter Tryz.func100, Tryz.ntmps100
      go_wp2
      go_ret
      exact ⟨_, _, rfl, ho, hB0⟩
    · have h0 : 0 < xs.length := by omega
      go_enter Tryz.func100, Tryz.ntmps100
      go_wp2_with (at_builtin; refine wpList_append_lies _ rfl _ _ 48 rfl w.heap.size 3 i0 (.int .i64 0) 1 8 Tryz.underlying48 hi hz0 hz1 hz2 rfl (by decide) (.slice (some ⟨w.heap.size, 0, none⟩) 0 0) 0 [] rfl (Ai.own_empty w _ (Nat.le_refl _)) x xs.length c (iv xs) rfl (by rw [Li.iv_length]; omega) (Ai.news_i (hx.below hB0)) (Li.iv_one _) h0 (by unfold maxLen; omega) (by omega) (by simp) _ rfl ?_)
      intro g cap w1 hown hgrow _ _
      have ho : Ow w1 w.heap.size (.slice (some ⟨g, 0, none⟩) xs.length cap) (ri xs) := by
        first | exact hown | (rw [Nat.zero_add, List.nil_append] at hown; exact hown)
      have hB1 : Below w.heap.size w w1 := Ai.below_app hB0 (by simp) hgrow (fun k hk => by simp [Value.ownBlock] at hk; omega)
      clear hown hgrow
      go_wp2
      go_ret
      exact ⟨some ⟨g, 0, none⟩, cap, by simp, ho, hB1⟩
set_option maxHeartbeats 1000000 in
theorem cloneP (w : World) (a : Option Addr) (c : Nat) (ps : List (Int × Int)) (hx : IsP w a ps) (hl : ps.length ≤ 1048576) :
    Calls Tryz.prog 102 #[.slice a ps.length c] w fun e w' => ∃ b d, e = .returned (.slice b ps.length d) ∧ Ow w' w.heap.size (.slice b ps.length d) (rp ps) ∧ Below w.heap.size w w' := by
  cases a with
  | none =>
    have h0 : ps = [] := by
      rcases hx with h | ⟨b, off, e, _⟩
      · exact h
      · cases e
    subst h0
    have hnil : ∀ w0 : World, Sem.run Tryz.prog (binOp .eql 91 (.slice none 0 c) (.slice none 0 0)) w0 = .ok (.bool true) w0 := fun w0 => eql_nil0 w0 _ _ _ _ Tryz.underlying91
    go_enter Tryz.func102, Tryz.ntmps102
    go_wp2
    go_ret
    exact ⟨none, 0, rfl, World.ownsRow_nil _ _ _ _, Below.refl _ _⟩
  | some x =>
    by_cases h0 : ps.length = 0
    · obtain rfl : ps = [] := List.length_eq_zero_iff.1 h0
      clear h0
      have hnil : ∀ w0 : World, Sem.run Tryz.prog (binOp .eql 91 (.slice (some x) 0 c) (.slice none 0 0)) w0 = .ok (.bool false) w0 := fun w0 => Fw.eql_nil w0 _ _ _ _ _ Tryz.underlying91
      have ho := ow_new w 129 2
      have hB0 : Below w.heap.size w (w.alloc (.cells #[] 129)) := (Below.refl _ _).alloc (Nat.le_refl _) _
      go_enter Tryz.func102, Tryz.ntmps102
      go_wp2
      go_ret
      exact ⟨_, _, rfl, ho, hB0⟩
    · refine (Fw.iclone w (some x) c ps hx (by omega) hl).mono ?_
      rintro e w' ⟨g, cap, rfl, ho, hB⟩
      exact ⟨some ⟨g, 0, none⟩, cap, rfl, ho, hB⟩
/-- A list of cells that is read from an address, or none at all. -/
def Src (w : World) (ad : Option Addr) (n sz : Nat) (xs : List Value) : Prop := xs.length = n * sz ∧ (∀ u ∈ xs, u.oneCell' = true) ∧ (ad = none → n = 0) ∧ ∀ x, ad = some x → ∀ j u, xs[j]? = some u → w.cell? (x.add j) = some u
theorem src_s {w : World} {ad : Option Addr} {xs : List ByteArray} (h : Ls.IsS w ad xs) : Src w ad xs.length 1 (Ls.sv xs) := by
  refine ⟨by rw [Ls.sv_length]; omega, Ls.sv_one _, fun e => ?_, fun x e => ?_⟩
  · subst e
    rcases h with h | ⟨b, off, e, _⟩
    · rw [h]; rfl
    · cases e
  · subst e; exact Ap.news_s h
theorem src_i {w : World} {ad : Option Addr} {xs : List Int} (h : IsL w ad xs) : Src w ad xs.length 1 (iv xs) := by
  refine ⟨by rw [Li.iv_length]; omega, Li.iv_one _, fun e => ?_, fun x e => ?_⟩
  · subst e
    rcases h with h | ⟨b, off, e, _⟩
    · rw [h]; rfl
    · cases e
  · subst e; exact Ai.news_i h
theorem src_p {w : World} {ad : Option Addr} {xs : List (Int × Int)} (h : IsP w ad xs) : Src w ad xs.length 2 (pv xs) := by
  refine ⟨pv_length _, Fw.pv_one _, fun e => ?_, fun x e => ?_⟩
  · subst e
    rcases h with h | ⟨b, off, e, _⟩
    · rw [h]; rfl
    · cases e
  · subst e
    rcases h with h | ⟨b, off, e, _, hc⟩
    · subst h; intro j u hj; simp [pv] at hj
    · cases e; exact Fw.news_p hc
theorem run_app0 (w : World) (t ty e : TypeId) (i : TypeInfo) (z : Value) (sz bytes : Nat) (ht : Tryz.prog.underlying t = some (.slice e)) (hi : Tryz.prog.info? e = some i) (hz : i.zero = some z) (hsize : i.size = sz) (hby : i.bytes = bytes) (hzs : z.cells.size = sz) (hsz : 0 < sz) (hb1 : bytes ≤ 1000)
    (base g : Nat) (ad : Option Addr) (n c : Nat) (xs : List Value) (hown : Ow w base (.slice (some ⟨g, 0, none⟩) 0 0) ⟨e, sz, 0, []⟩) (hx : Src w ad n sz xs) (hl : n ≤ 1048576) (hbase : base ≤ w.heap.size) :
    ∃ k cap w', (Builtin.append_ #[t, t] ty #[.slice (some ⟨g, 0, none⟩) 0 0, .slice ad n c]).run Tryz.prog w = .ok (.slice (some ⟨k, 0, none⟩) n cap) w' ∧ Ow w' base (.slice (some ⟨k, 0, none⟩) n cap) ⟨e, sz, n, xs⟩ ∧ w.grownBy w' (some g) ∧ (k = g ∨ k = w.heap.size) := by
  obtain ⟨x1, x2, x3, x4⟩ := hx
  cases ad with
  | none =>
    obtain rfl := x3 rfl
    have h0 : xs = [] := List.length_eq_zero_iff.1 (by omega)
    subst h0
    refine ⟨g, 0, w, ?_, hown, World.grownBy.refl _ _, .inl rfl⟩
    refine run_append_nothing w _ _ _ _ i ht hi _ 0 0 (Nat.le_refl _) _ ⟨.inl ⟨_, ht⟩, fun w' => ?_, ?_, ?_, by simp, fun u hu => by simp at hu⟩
    · simp [Builtin.lenOf]
    · simp [Builtin.firstCells]
    · simp [Builtin.firstCells]
  | some x =>
    have hbn : (0 + n) * bytes ≤ 140737488355328 := by
      have : (0 + n) * bytes ≤ 1048576 * 1000 := Nat.mul_le_mul (by omega) hb1
      omega
    obtain ⟨v', w', hr, h2, h3, hnil, h5⟩ := run_append_own_at (P := Tryz.prog) w base t ty e i z sz bytes ht hi hz hsize hby hzs hsz (.slice (some ⟨g, 0, none⟩) 0 0) 0 [] hown x n c xs x1 (x4 x rfl) x2 (by unfold maxLen; omega) hbn hbase
    rw [Nat.zero_add, List.nil_append] at h2
    have hne : ¬ v' = .slice none 0 0 := fun e => by have := (hnil.1 e).1; simp at this
    have hbk : v'.ownBlock = some g ∨ v'.ownBlock = some w.heap.size := h5
    rcases h2.2 with ⟨e, _⟩ | ⟨k, cap, cur, e, hb, hh, r⟩
    · exact absurd e hne
    · subst e
      refine ⟨k, cap, w', hr, h2, h3, ?_⟩
      simpa [Value.ownBlock] using hbk
theorem wp_app0 {o : Oper} {a : Act} {w : World} {K : Act → World → Prop} {Q : Exit → Act → World → Prop} (s x : Operand) (t : TypeId) (ho : o.op = .call { callee := .builtin .append, args := #[s, x], argTypes := #[t, t] }) (e : TypeId) (i : TypeInfo) (z : Value) (sz bytes : Nat) (ht : Tryz.prog.underlying t = some (.slice e)) (hi : Tryz.prog.info? e = some i) (hz : i.zero = some z) (hsize : i.size = sz) (hby : i.bytes = bytes) (hzs : z.cells.size = sz) (hsz : 0 < sz) (hb1 : bytes ≤ 1000)
    (dt : Option Tmp) (hd : o.dst = dt) (base g : Nat) (ad : Option Addr) (n c : Nat) (xs : List Value) (hs : a.eval s = .slice (some ⟨g, 0, none⟩) 0 0) (hx : a.eval x = .slice ad n c) (hown : Ow w base (.slice (some ⟨g, 0, none⟩) 0 0) ⟨e, sz, 0, []⟩) (hsr : Src w ad n sz xs) (hl : n ≤ 1048576) (hbase : base ≤ w.heap.size)
    (h : ∀ k cap w', Ow w' base (.slice (some ⟨k, 0, none⟩) n cap) ⟨e, sz, n, xs⟩ → w.grownBy w' (some g) → (k = g ∨ k = w.heap.size) → K (a.put dt (.slice (some ⟨k, 0, none⟩) n cap)) w') : o.wp Tryz.prog a w K Q := by
  subst hd
  obtain ⟨k, cap, w', hr, h2, h3, h4⟩ := run_app0 w t o.type e i z sz bytes ht hi hz hsize hby hzs hsz hb1 base g ad n c xs hown hsr hl hbase
  unfold Oper.wp execOp
  simp only [ho, resolve, invoke, builtin, Sem.run_bind, Sem.run_pure, Result.andThen_ok, List.map_toArray, List.map_cons, List.map_nil, hs, hx, hr]
  exact h k cap w' h2 h3 h4
theorem wp_appS0 {o : Oper} {a : Act} {w : World} {K : Act → World → Prop} {Q : Exit → Act → World → Prop} (s x : Operand) (ho : o.op = .call { callee := .builtin .append, args := #[s, x], argTypes := #[74, 74] }) (dt : Option Tmp) (hd : o.dst = dt) (base g : Nat) (ad : Option Addr) (n c : Nat) (xs : List ByteArray) (hn : xs.length = n) (hs : a.eval s = .slice (some ⟨g, 0, none⟩) 0 0) (hx : a.eval x = .slice ad n c)
    (hown : Ow w base (.slice (some ⟨g, 0, none⟩) 0 0) ⟨9, 1, 0, []⟩) (hi : Ls.IsS w ad xs) (hl : n ≤ 1048576) (hbase : base ≤ w.heap.size)
    (h : ∀ k cap w', Ow w' base (.slice (some ⟨k, 0, none⟩) n cap) (rs xs) → w.grownBy w' (some g) → (k = g ∨ k = w.heap.size) → K (a.put dt (.slice (some ⟨k, 0, none⟩) n cap)) w') : o.wp Tryz.prog a w K Q := by
  subst hn
  obtain ⟨i0, hii, hz0, hz1, hz2⟩ := info_parts Ls.info_str
  exact wp_app0 s x _ ho 9 i0 (.string ⟨#[]⟩) 1 16 Tryz.underlying74 hii hz0 hz1 hz2 rfl (by decide) (by decide) dt hd base g ad _ c _ hs hx hown (src_s hi) hl hbase h
theorem wp_appI0 {o : Oper} {a : Act} {w : World} {K : Act → World → Prop} {Q : Exit → Act → World → Prop} (s x : Operand) (ho : o.op = .call { callee := .builtin .append, args := #[s, x], argTypes := #[48, 48] }) (dt : Option Tmp) (hd : o.dst = dt) (base g : Nat) (ad : Option Addr) (n c : Nat) (xs : List Int) (hn : xs.length = n) (hs : a.eval s = .slice (some ⟨g, 0, none⟩) 0 0) (hx : a.eval x = .slice ad n c)
    (hown : Ow w base (.slice (some ⟨g, 0, none⟩) 0 0) ⟨3, 1, 0, []⟩) (hi : IsL w ad xs) (hl : n ≤ 1048576) (hbase : base ≤ w.heap.size)
    (h : ∀ k cap w', Ow w' base (.slice (some ⟨k, 0, none⟩) n cap) (ri xs) → w.grownBy w' (some g) → (k = g ∨ k = w.heap.size) → K (a.put dt (.slice (some ⟨k, 0, none⟩) n cap)) w') : o.wp Tryz.prog a w K Q := by
  subst hn
  obtain ⟨i0, hii, hz0, hz1, hz2⟩ := info_parts Li.info_int
  exact wp_app0 s x _ ho 3 i0 (.int .i64 0) 1 8 Tryz.underlying48 hii hz0 hz1 hz2 rfl (by decide) (by decide) dt hd base g ad _ c _ hs hx hown (src_i hi) hl hbase h
theorem wp_appP0 {o : Oper} {a : Act} {w : World} {K : Act → World → Prop} {Q : Exit → Act → World → Prop} (s x : Operand) (ho : o.op = .call { callee := .builtin .append, args := #[s, x], argTypes := #[91, 91] }) (dt : Option Tmp) (hd : o.dst = dt) (base g : Nat) (ad : Option Addr) (n c : Nat) (xs : List (Int × Int)) (hn : xs.length = n) (hs : a.eval s = .slice (some ⟨g, 0, none⟩) 0 0) (hx : a.eval x = .slice ad n c)
    (hown : Ow w base (.slice (some ⟨g, 0, none⟩) 0 0) ⟨129, 2, 0, []⟩) (hi : IsP w ad xs) (hl : n ≤ 1048576) (hbase : base ≤ w.heap.size)
    (h : ∀ k cap w', Ow w' base (.slice (some ⟨k, 0, none⟩) n cap) (rp xs) → w.grownBy w' (some g) → (k = g ∨ k = w.heap.size) → K (a.put dt (.slice (some ⟨k, 0, none⟩) n cap)) w') : o.wp Tryz.prog a w K Q := by
  subst hn
  obtain ⟨i0, hii, hz0, hz1, hz2⟩ := info_parts Tm.info_spl
  exact wp_app0 s x _ ho 129 i0 (.agg #[.int .i64 0, .int .i64 0]) 2 16 Tryz.underlying91 hii hz0 hz1 hz2 rfl (by decide) (by decide) dt hd base g ad _ c _ hs hx hown (src_p hi) hl hbase h
theorem wp_makeS {o : Oper} {a : Act} {w : World} {K : Act → World → Prop} {Q : Exit → Act → World → Prop} (l c : Operand) (hop : o.op = Op.makeSlice 74 l c) (dt : Option Tmp) (hd : o.dst = dt) (n : Nat) (hl : a.eval l = .int .i64 (n : Int)) (hc : a.eval c = .int .i64 (n : Int)) (hn : n ≤ 1048576)
    (h : ∀ g w', w.heap.size ≤ g → Ow w' w.heap.size (.slice (some ⟨g, 0, none⟩) n n) (rs (List.replicate n ⟨#[]⟩)) → Below w.heap.size w w' → K (a.put dt (.slice (some ⟨g, 0, none⟩) n n)) w') : o.wp Tryz.prog a w K Q := by
  subst hd
  obtain ⟨i0, hi, hz0, hz1, hz2⟩ := info_parts Ls.info_str
  obtain ⟨w', hrun, r1, r2⟩ := run_make_full (P := Tryz.prog) w w.heap.size 74 9 i0 (.string ⟨#[]⟩) 1 Tryz.underlying74 hi hz0 hz1 .i64 .i64 n (by rw [hz2]; omega) (by unfold maxLen; omega) (Nat.le_refl _)
  unfold Oper.wp
  simp [execOp, hop, hl, hc, hrun, Result.andThen]
  exact h _ _ (Nat.le_refl _) (Ls.own_made r1) (Li.below_none r2)
end Go.Proofs.YtkfjlldlbknepaaGreat.Ct
/-
  A region that draws its order: three operations that may come up next.
-/
namespace Go.Proofs.YtkfjlldlbknepaaGreat.Hd
variable {P : Program} {ops : Array Oper} {Q : Exit → Act → World → Prop} {md : Region.Mode} {S : World → Prop} {d : Nat}
theorem After.three {i j k : Nat} {oi oj ok : Oper} {n : Nat} {l : Array Bool} {a : Act} {w : World} (hr : Region.ready md ops l = [i, j, k]) (hi : ops[i]? = some oi) (hj : ops[j]? = some oj) (hk : ops[k]? = some ok) (hg : oi.guard = none) (hg' : oj.guard = none) (hg2 : ok.guard = none)
    (h : ∀ K : Act → World → Prop, (∀ a' w', ((l.setIfInBounds i true).getD d true = false → S w') → After P md ops Q S d n (l.setIfInBounds i true) a' w' → K a' w') → oi.wp P a w K Q)
    (h' : ∀ K : Act → World → Prop, (∀ a' w', ((l.setIfInBounds j true).getD d true = false → S w') → After P md ops Q S d n (l.setIfInBounds j true) a' w' → K a' w') → oj.wp P a w K Q)
    (h2 : ∀ K : Act → World → Prop, (∀ a' w', ((l.setIfInBounds k true).getD d true = false → S w') → After P md ops Q S d n (l.setIfInBounds k true) a' w' → K a' w') → ok.wp P a w K Q) : After P md ops Q S d (n + 1) l a w := by
  refine ⟨fun h0 => (by rw [hr] at h0; simp at h0), fun q hq => ?_⟩
  rw [hr] at hq
  have hwi : Region.wanted oi (yielded ops a.tmps) = true := by simp [Region.wanted, hg]
  have hwj : Region.wanted oj (yielded ops a.tmps) = true := by simp [Region.wanted, hg']
  have hwk : Region.wanted ok (yielded ops a.tmps) = true := by simp [Region.wanted, hg2]
  rcases List.mem_cons.1 hq with rfl | hq
  · unfold wpOp; rw [hi]; simp only [hwi, if_true]; exact .inl (h _ fun _ _ h1 h2 => ⟨h1, h2⟩)
  · rcases List.mem_cons.1 hq with rfl | hq
    · unfold wpOp; rw [hj]; simp only [hwj, if_true]; exact .inl (h' _ fun _ _ h1 h2 => ⟨h1, h2⟩)
    · obtain rfl := List.mem_singleton.1 hq
      unfold wpOp; rw [hk]; simp only [hwk, if_true]; exact .inl (h2 _ fun _ _ h1 h2 => ⟨h1, h2⟩)
end Go.Proofs.YtkfjlldlbknepaaGreat.Hd
