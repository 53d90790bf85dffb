/-
  Contracts that the proof leans on, put together in the order in which they build.
-/
import Derived.Test.YtglllflleabmbaaGreatPart27
import Derived.Test.YtglllflleabmbaaGreatPart9
import Derived.Test.YtglllflleabmbaaGreatPart11
import Derived.Deep.Cut
import Derived.Test.YtglllflleabmbaaGreatPart25
/-
  Copies of a tree and of a table of words, of both.
-/
namespace Go.Proofs.YtglllflleabmbaaGreat.Ct
set_option maxRecDepth 20000
open Go.RowKit
open Go.Proofs.YtglllflleabmbaaGreat.Tm (IsP OwnP pv)
open Go.Proofs.YtglllflleabmbaaGreat.Li (IsL iv below_none)
open Go.Proofs.YtglllflleabmbaaGreat.Sv (Wr wr2 new1 new2 Fr fr_grown)
open Go.Proofs.YtglllflleabmbaaGreat.Kt (Kv)
open Go.Proofs.YtglllflleabmbaaGreat.Tb (results_cell)
set_option linter.unusedVariables false
theorem Tp.fin {W wx : World} {u v : Value} {r s : Rw} {A : Option Nat} (h : Tp W wx (some (u, r)) (some (v, s)) A) : Ow wx W.heap.size u r ∧ Ow wx W.heap.size v s ∧ (∀ k, u.ownBlock = some k → v.ownBlock ≠ some k) := ⟨h.oM _ _ rfl, h.oC _ _ rfl, h.mc _ _ _ _ rfl rfl⟩
theorem ow_set {w : World} {base b o : Nat} {v x : Value} {r : Rw} (h : Ow w base v r) (hb : b < base) : Ow (w.setCell ⟨b, o, none⟩ x) base v r := Tb.ownsRow_at h (fun k e => (Li.grown_set w b o x).block k (h.lt k e).2 (fun e2 => by cases e2; have := (h.lt b e).1; omega))
theorem ow_put {w : World} {base b o : Nat} {v x : Value} {r : Rw} (h : Ow w base v r) (hb : v.ownBlock ≠ some b) : Ow (w.setCell ⟨b, o, none⟩ x) base v r := Tb.ownsRow_at h (fun k e => (Li.grown_set w b o x).block k (h.lt k e).2 (fun e2 => by cases e2; exact hb e))

set_option maxHeartbeats 4000000 in
theorem icopyT (w : World) (a0 a1 : Option Addr) (c0 c1 : Nat) (t : Tr.T) (h0 : IsP w a0 t.sp) (h1 : IsL w a1 t.lv) (hl : t.sp.length + t.lv.length ≤ 1048576) :
  Calls Tryz.prog 27 #[.agg #[.slice a0 t.sp.length c0, .slice a1 t.lv.length c1]] w fun e w' => ∃ b0 d0 b1 d1, e = .returned (.agg #[.slice b0 t.sp.length d0, .slice b1 t.lv.length d1]) ∧ OwnP w' w.heap.size (.slice b0 t.sp.length d0) t.sp ∧ Li.Own w' w.heap.size (.slice b1 t.lv.length d1) t.lv ∧ (∀ k, (Value.slice b0 t.sp.length d0).ownBlock = some k → (Value.slice b1 t.lv.length d1).ownBlock ≠ some k) ∧ Below w.heap.size w w' := by
 have hl0 : t.sp.length ≤ 1048576 := by omega
 have hl1 : t.lv.length ≤ 1048576 := by omega
 clear hl
 go_enter Tryz.func27, Tryz.ntmps27
 go_wp2_with fail
 obtain ⟨W, hW, hsz, hB, bx, br⟩ := new2 w [.slice a0 t.sp.length c0, .slice a1 t.lv.length c1] [.slice none 0 0, .slice none 0 0] 60 60
 rw [hW]
 clear hW
 have i0 := h0.below hB
 have i1 := h1.below hB
 have HSX : Hid (∀ X : World, Below W.heap.size W X → X.cell? ⟨w.heap.size, 0, none⟩ = some (.slice a0 t.sp.length c0) ∧ X.cell? ⟨w.heap.size, 1, none⟩ = some (.slice a1 t.lv.length c1)) := fun X hX => (wr2 (bx.below hX)).2.1
 have HBR : Hid (Wr W (w.heap.size + 1) 0 [.slice none 0 0, .slice none 0 0]) := br
 have HB : Hid (Below w.heap.size w W) := hB
 have HSZ : Hid (W.heap.size = w.heap.size + 2) := hsz
 have st := Tp.init W
 have hS := HSX.out _ st.bel
 clear bx br hB hsz h0 h1
 refine Hd.start (fun X => X.cell? ⟨w.heap.size, 0, none⟩ = some (.slice a0 t.sp.length c0) ∧ X.cell? ⟨w.heap.size, 1, none⟩ = some (.slice a1 t.lv.length c1)) 7 (by kernel_rfl) ?_
 generalize W.drew = w0 at st hS ⊢
 refine Hd.After.pureD (i := 0) (some 3) (.pointer (some ⟨w.heap.size, 0, none⟩)) rfl rfl (by kernel_rfl) (by decide) (by kernel_rfl) (by kernel_rfl) (fun _ _ _ h => h) (hS) (Or.inl ⟨by rfl, ?_⟩) ?_
 ·
  intro X; go_simp; try with_reducible rfl
 (first | simp only [Act.put, List.setIfInBounds_toArray, List.set_cons_zero, List.set_cons_succ] | skip)
 refine Hd.After.takeD (i := 1) (some 4) (.slice a0 t.sp.length c0) rfl rfl (by kernel_rfl) (by kernel_rfl) (by kernel_rfl) (by kernel_rfl) (by kernel_rfl) (fun _ _ _ h => h) (hS) (Or.inl ⟨by rfl, ?_⟩) ?_
 ·
  rintro X ⟨s0, s1⟩; go_simp; try with_reducible rfl
 (first | simp only [Act.put, List.setIfInBounds_toArray, List.set_cons_zero, List.set_cons_succ] | skip)
 refine Hd.After.pureD (i := 3) (some 6) (.pointer (some ⟨w.heap.size, 1, none⟩)) rfl rfl (by kernel_rfl) (by decide) (by kernel_rfl) (by kernel_rfl) (fun _ _ _ h => h) (hS) (Or.inl ⟨by rfl, ?_⟩) ?_
 ·
  intro X; go_simp; try with_reducible rfl
 (first | simp only [Act.put, List.setIfInBounds_toArray, List.set_cons_zero, List.set_cons_succ] | skip)
 refine Hd.After.takeD (i := 4) (some 7) (.slice a1 t.lv.length c1) rfl rfl (by kernel_rfl) (by kernel_rfl) (by kernel_rfl) (by kernel_rfl) (by kernel_rfl) (fun _ _ _ h => h) (hS) (Or.inl ⟨by rfl, ?_⟩) ?_
 ·
  rintro X ⟨s0, s1⟩; go_simp; try with_reducible rfl
 (first | simp only [Act.put, List.setIfInBounds_toArray, List.set_cons_zero, List.set_cons_succ] | skip)
 refine Hd.After.one (i := 2) (by kernel_rfl) rfl rfl ?_
 intro K hK
 go_simp
 go_wp2_with (go_at_call 52; refine (cloneP _ _ _ t.sp (i0.below st.bel) hl0).mono ?_; rintro e w1 ⟨b0, d0, rfl, o0, hb⟩)
 have st1 := st.addM hb o0
 clear hb
 refine hK _ _ (fun _ => HSX.out _ st1.bel) ?_
 clear hK K
 (first | simp only [Act.put, List.setIfInBounds_toArray, List.set_cons_zero, List.set_cons_succ] | skip)
 refine Hd.After.one (i := 5) (by kernel_rfl) rfl rfl ?_
 intro K hK
 go_simp
 go_wp2_with (go_at_call 50; refine (cloneI _ _ _ t.lv (i1.below st1.bel) hl1).mono ?_; rintro e w2 ⟨b1, d1, rfl, o1, hb⟩)
 have st2 := st1.addC hb o1
 clear hb
 refine hK _ _ (fun _ => HSX.out _ st2.bel) ?_
 clear hK K
 (first | simp only [Act.put, List.setIfInBounds_toArray, List.set_cons_zero, List.set_cons_succ] | skip)
 refine Hd.After.pureD (i := 6) (some 9) (.agg #[.slice b0 t.sp.length d0, .slice b1 t.lv.length d1]) rfl rfl (by kernel_rfl) (by decide) (by kernel_rfl) (by kernel_rfl) (fun _ _ _ h => h) (HSX.out _ st2.bel) (Or.inl ⟨by rfl, ?_⟩) ?_
 ·
  intro X; go_simp; try with_reducible rfl
 (first | simp only [Act.put, List.setIfInBounds_toArray, List.set_cons_zero, List.set_cons_succ] | skip)
 have hN : w.heap.size + 1 < w2.heap.size := by have := st2.bel.size; have := HSZ.out; omega
 obtain ⟨_, ⟨q0, q1⟩, f0, f1⟩ := wr2 (HBR.out.below st2.bel)
 refine Hd.After.one (i := 7) (by kernel_rfl) rfl rfl ?_
 intro K hK
 go_simp
 refine hK _ _ (fun h => by cases h) ?_
 clear hK K
 refine Hd.After.done (by kernel_rfl) ?_ _
 obtain ⟨p0, p1, p2⟩ := st2.fin
 have hBe := HB.out.trans (st2.bel.mono HB.out.size)
 have hz := HSZ.out
 clear st st1 st2 o0 o1 HSX HBR HSZ hS i0 i1
 go_wp2
 refine bodyPost_ret (v := .agg #[.slice b0 t.sp.length d0, .slice b1 t.lv.length d1]) (by rw [results_cell rfl]; go_simp) rfl ⟨_, _, _, _, rfl, ?_, ?_, p2, ?_⟩
 ·
  exact (ow_set (ow_set p0 (by omega)) (by omega)).mono (by omega)
 ·
  exact (ow_set (ow_set p1 (by omega)) (by omega)).mono (by omega)
 ·
  exact (hBe.setCell (by simp) _).setCell (by simp) _
set_option maxHeartbeats 4000000 in
theorem scopyT (w : World) (a0 a1 : Option Addr) (c0 c1 : Nat) (t : Tr.T) (h0 : IsP w a0 t.sp) (h1 : IsL w a1 t.lv) (hl : t.sp.length + t.lv.length ≤ 1048576) :
  Calls Tryz.prog 73 #[.agg #[.slice a0 t.sp.length c0, .slice a1 t.lv.length c1]] w fun e w' => ∃ b0 d0 b1 d1, e = .returned (.agg #[.slice b0 t.sp.length d0, .slice b1 t.lv.length d1]) ∧ OwnP w' w.heap.size (.slice b0 t.sp.length d0) t.sp ∧ Li.Own w' w.heap.size (.slice b1 t.lv.length d1) t.lv ∧ (∀ k, (Value.slice b0 t.sp.length d0).ownBlock = some k → (Value.slice b1 t.lv.length d1).ownBlock ≠ some k) ∧ Below w.heap.size w w' := by
 have hl0 : t.sp.length ≤ 1048576 := by omega
 have hl1 : t.lv.length ≤ 1048576 := by omega
 clear hl
 go_enter Tryz.func73, Tryz.ntmps73
 go_wp2_with fail
 obtain ⟨W, hW, hsz, hB, bx, br⟩ := new2 w [.slice a0 t.sp.length c0, .slice a1 t.lv.length c1] [.slice none 0 0, .slice none 0 0] 60 60
 rw [hW]
 clear hW
 have i0 := h0.below hB
 have i1 := h1.below hB
 have HSX : Hid (∀ X : World, Below W.heap.size W X → X.cell? ⟨w.heap.size, 0, none⟩ = some (.slice a0 t.sp.length c0) ∧ X.cell? ⟨w.heap.size, 1, none⟩ = some (.slice a1 t.lv.length c1)) := fun X hX => (wr2 (bx.below hX)).2.1
 have HBR : Hid (Wr W (w.heap.size + 1) 0 [.slice none 0 0, .slice none 0 0]) := br
 have HB : Hid (Below w.heap.size w W) := hB
 have HSZ : Hid (W.heap.size = w.heap.size + 2) := hsz
 have st := Tp.init W
 have hS := HSX.out _ st.bel
 clear bx br hB hsz h0 h1
 refine Hd.start (fun X => X.cell? ⟨w.heap.size, 0, none⟩ = some (.slice a0 t.sp.length c0) ∧ X.cell? ⟨w.heap.size, 1, none⟩ = some (.slice a1 t.lv.length c1)) 9 (by kernel_rfl) ?_
 generalize W.drew = w0 at st hS ⊢
 refine Hd.After.pureD (i := 1) (some 4) (.pointer (some ⟨w.heap.size, 0, none⟩)) rfl rfl (by kernel_rfl) (by decide) (by kernel_rfl) (by kernel_rfl) (fun _ _ _ h => h) (hS) (Or.inl ⟨by rfl, ?_⟩) ?_
 ·
  intro X; go_simp; try with_reducible rfl
 (first | simp only [Act.put, List.setIfInBounds_toArray, List.set_cons_zero, List.set_cons_succ] | skip)
 refine Hd.After.takeD (i := 2) (some 5) (.slice a0 t.sp.length c0) rfl rfl (by kernel_rfl) (by kernel_rfl) (by kernel_rfl) (by kernel_rfl) (by kernel_rfl) (fun _ _ _ h => h) (hS) (Or.inl ⟨by rfl, ?_⟩) ?_
 ·
  rintro X ⟨s0, s1⟩; go_simp; try with_reducible rfl
 (first | simp only [Act.put, List.setIfInBounds_toArray, List.set_cons_zero, List.set_cons_succ] | skip)
 refine Hd.After.pureD (i := 5) (some 8) (.pointer (some ⟨w.heap.size, 1, none⟩)) rfl rfl (by kernel_rfl) (by decide) (by kernel_rfl) (by kernel_rfl) (fun _ _ _ h => h) (hS) (Or.inl ⟨by rfl, ?_⟩) ?_
 ·
  intro X; go_simp; try with_reducible rfl
 (first | simp only [Act.put, List.setIfInBounds_toArray, List.set_cons_zero, List.set_cons_succ] | skip)
 refine Hd.After.takeD (i := 6) (some 9) (.slice a1 t.lv.length c1) rfl rfl (by kernel_rfl) (by kernel_rfl) (by kernel_rfl) (by kernel_rfl) (by kernel_rfl) (fun _ _ _ h => h) (hS) (Or.inl ⟨by rfl, ?_⟩) ?_
 ·
  rintro X ⟨s0, s1⟩; go_simp; try with_reducible rfl
 (first | simp only [Act.put, List.setIfInBounds_toArray, List.set_cons_zero, List.set_cons_succ] | skip)
 refine Hd.After.two (i := 0) (j := 4) (by kernel_rfl) rfl rfl rfl rfl ?_ ?_
 ·
  intro K hK
  go_simp
  obtain ⟨w1, g0, hw, hg, st1⟩ := st.newM 83 2
  rw [hw, hg]
  clear hw hg
  refine hK _ _ (fun _ => HSX.out _ st1.bel) ?_
  clear hK K
  (first | simp only [Act.put, List.setIfInBounds_toArray, List.set_cons_zero, List.set_cons_succ] | skip)
  refine Hd.After.two (i := 3) (j := 4) (by kernel_rfl) rfl rfl rfl rfl ?_ ?_
  ·
   intro K hK
   refine wp_appP0 _ _ rfl (some 6) rfl W.heap.size g0 _ _ _ t.sp rfl rfl rfl (st1.oM _ _ rfl) (i0.below st1.bel) hl0 st1.bel.size ?_
   intro k0 d0 w2 o0 hg0 hk0
   have st2 := st1.fillM o0 hg0 hk0
   clear hg0 hk0
   refine hK _ _ (fun _ => HSX.out _ st2.bel) ?_
   clear hK K
   (first | simp only [Act.put, List.setIfInBounds_toArray, List.set_cons_zero, List.set_cons_succ] | skip)
   refine Hd.After.one (i := 4) (by kernel_rfl) rfl rfl ?_
   intro K hK
   go_simp
   obtain ⟨w3, g4, hw, hg, st3⟩ := st2.newC 3 1
   rw [hw, hg]
   clear hw hg
   refine hK _ _ (fun _ => HSX.out _ st3.bel) ?_
   clear hK K
   (first | simp only [Act.put, List.setIfInBounds_toArray, List.set_cons_zero, List.set_cons_succ] | skip)
   refine Hd.After.one (i := 7) (by kernel_rfl) rfl rfl ?_
   intro K hK
   refine wp_appI0 _ _ rfl (some 10) rfl W.heap.size g4 _ _ _ t.lv rfl rfl rfl (st3.oC _ _ rfl) (i1.below st3.bel) hl1 st3.bel.size ?_
   intro k1 d1 w4 o1 hg1 hk1
   have st4 := st3.fillC o1 hg1 hk1
   clear hg1 hk1
   refine hK _ _ (fun _ => HSX.out _ st4.bel) ?_
   clear hK K
   (first | simp only [Act.put, List.setIfInBounds_toArray, List.set_cons_zero, List.set_cons_succ] | skip)
   refine Hd.After.pureD (i := 8) (some 11) (.agg #[.slice (some ⟨k0, 0, none⟩) t.sp.length d0, .slice (some ⟨k1, 0, none⟩) t.lv.length d1]) rfl rfl (by kernel_rfl) (by decide) (by kernel_rfl) (by kernel_rfl) (fun _ _ _ h => h) (HSX.out _ st4.bel) (Or.inl ⟨by rfl, ?_⟩) ?_
   ·
    intro X; go_simp; try with_reducible rfl
   (first | simp only [Act.put, List.setIfInBounds_toArray, List.set_cons_zero, List.set_cons_succ] | skip)
   have hN : w.heap.size + 1 < w4.heap.size := by have := st4.bel.size; have := HSZ.out; omega
   obtain ⟨_, ⟨q0, q1⟩, f0, f1⟩ := wr2 (HBR.out.below st4.bel)
   refine Hd.After.one (i := 9) (by kernel_rfl) rfl rfl ?_
   intro K hK
   go_simp
   refine hK _ _ (fun h => by cases h) ?_
   clear hK K
   refine Hd.After.done (by kernel_rfl) ?_ _
   obtain ⟨p0, p1, p2⟩ := st4.fin
   have hBe := HB.out.trans (st4.bel.mono HB.out.size)
   have hz := HSZ.out
   clear st st1 st2 st3 st4 o0 o1 HSX HBR HSZ hS i0 i1
   go_wp2
   refine bodyPost_ret (v := .agg #[.slice (some ⟨k0, 0, none⟩) t.sp.length d0, .slice (some ⟨k1, 0, none⟩) t.lv.length d1]) (by rw [results_cell rfl]; go_simp) rfl ⟨_, _, _, _, rfl, ?_, ?_, p2, ?_⟩
   ·
    exact (ow_set (ow_set p0 (by omega)) (by omega)).mono (by omega)
   ·
    exact (ow_set (ow_set p1 (by omega)) (by omega)).mono (by omega)
   ·
    exact (hBe.setCell (by simp) _).setCell (by simp) _
  ·
   intro K hK
   go_simp
   obtain ⟨w2, g4, hw, hg, st2⟩ := st1.newC 3 1
   rw [hw, hg]
   clear hw hg
   refine hK _ _ (fun _ => HSX.out _ st2.bel) ?_
   clear hK K
   (first | simp only [Act.put, List.setIfInBounds_toArray, List.set_cons_zero, List.set_cons_succ] | skip)
   refine Hd.After.one (i := 3) (by kernel_rfl) rfl rfl ?_
   intro K hK
   refine wp_appP0 _ _ rfl (some 6) rfl W.heap.size g0 _ _ _ t.sp rfl rfl rfl (st2.oM _ _ rfl) (i0.below st2.bel) hl0 st2.bel.size ?_
   intro k0 d0 w3 o0 hg0 hk0
   have st3 := st2.fillM o0 hg0 hk0
   clear hg0 hk0
   refine hK _ _ (fun _ => HSX.out _ st3.bel) ?_
   clear hK K
   (first | simp only [Act.put, List.setIfInBounds_toArray, List.set_cons_zero, List.set_cons_succ] | skip)
   refine Hd.After.one (i := 7) (by kernel_rfl) rfl rfl ?_
   intro K hK
   refine wp_appI0 _ _ rfl (some 10) rfl W.heap.size g4 _ _ _ t.lv rfl rfl rfl (st3.oC _ _ rfl) (i1.below st3.bel) hl1 st3.bel.size ?_
   intro k1 d1 w4 o1 hg1 hk1
   have st4 := st3.fillC o1 hg1 hk1
   clear hg1 hk1
   refine hK _ _ (fun _ => HSX.out _ st4.bel) ?_
   clear hK K
   (first | simp only [Act.put, List.setIfInBounds_toArray, List.set_cons_zero, List.set_cons_succ] | skip)
   refine Hd.After.pureD (i := 8) (some 11) (.agg #[.slice (some ⟨k0, 0, none⟩) t.sp.length d0, .slice (some ⟨k1, 0, none⟩) t.lv.length d1]) rfl rfl (by kernel_rfl) (by decide) (by kernel_rfl) (by kernel_rfl) (fun _ _ _ h => h) (HSX.out _ st4.bel) (Or.inl ⟨by rfl, ?_⟩) ?_
   ·
    intro X; go_simp; try with_reducible rfl
   (first | simp only [Act.put, List.setIfInBounds_toArray, List.set_cons_zero, List.set_cons_succ] | skip)
   have hN : w.heap.size + 1 < w4.heap.size := by have := st4.bel.size; have := HSZ.out; omega
   obtain ⟨_, ⟨q0, q1⟩, f0, f1⟩ := wr2 (HBR.out.below st4.bel)
   refine Hd.After.one (i := 9) (by kernel_rfl) rfl rfl ?_
   intro K hK
   go_simp
   refine hK _ _ (fun h => by cases h) ?_
   clear hK K
   refine Hd.After.done (by kernel_rfl) ?_ _
   obtain ⟨p0, p1, p2⟩ := st4.fin
   have hBe := HB.out.trans (st4.bel.mono HB.out.size)
   have hz := HSZ.out
   clear st st1 st2 st3 st4 o0 o1 HSX HBR HSZ hS i0 i1
   go_wp2
   refine bodyPost_ret (v := .agg #[.slice (some ⟨k0, 0, none⟩) t.sp.length d0, .slice (some ⟨k1, 0, none⟩) t.lv.length d1]) (by rw [results_cell rfl]; go_simp) rfl ⟨_, _, _, _, rfl, ?_, ?_, p2, ?_⟩
   ·
    exact (ow_set (ow_set p0 (by omega)) (by omega)).mono (by omega)
   ·
    exact (ow_set (ow_set p1 (by omega)) (by omega)).mono (by omega)
   ·
    exact (hBe.setCell (by simp) _).setCell (by simp) _
 ·
  intro K hK
  go_simp
  obtain ⟨w1, g4, hw, hg, st1⟩ := st.newC 3 1
  rw [hw, hg]
  clear hw hg
  refine hK _ _ (fun _ => HSX.out _ st1.bel) ?_
  clear hK K
  (first | simp only [Act.put, List.setIfInBounds_toArray, List.set_cons_zero, List.set_cons_succ] | skip)
  refine Hd.After.one (i := 0) (by kernel_rfl) rfl rfl ?_
  intro K hK
  go_simp
  obtain ⟨w2, g0, hw, hg, st2⟩ := st1.newM 83 2
  rw [hw, hg]
  clear hw hg
  refine hK _ _ (fun _ => HSX.out _ st2.bel) ?_
  clear hK K
  (first | simp only [Act.put, List.setIfInBounds_toArray, List.set_cons_zero, List.set_cons_succ] | skip)
  refine Hd.After.one (i := 3) (by kernel_rfl) rfl rfl ?_
  intro K hK
  refine wp_appP0 _ _ rfl (some 6) rfl W.heap.size g0 _ _ _ t.sp rfl rfl rfl (st2.oM _ _ rfl) (i0.below st2.bel) hl0 st2.bel.size ?_
  intro k0 d0 w3 o0 hg0 hk0
  have st3 := st2.fillM o0 hg0 hk0
  clear hg0 hk0
  refine hK _ _ (fun _ => HSX.out _ st3.bel) ?_
  clear hK K
  (first | simp only [Act.put, List.setIfInBounds_toArray, List.set_cons_zero, List.set_cons_succ] | skip)
  refine Hd.After.one (i := 7) (by kernel_rfl) rfl rfl ?_
  intro K hK
  refine wp_appI0 _ _ rfl (some 10) rfl W.heap.size g4 _ _ _ t.lv rfl rfl rfl (st3.oC _ _ rfl) (i1.below st3.bel) hl1 st3.bel.size ?_
  intro k1 d1 w4 o1 hg1 hk1
  have st4 := st3.fillC o1 hg1 hk1
  clear hg1 hk1
  refine hK _ _ (fun _ => HSX.out _ st4.bel) ?_
  clear hK K
  (first | simp only [Act.put, List.setIfInBounds_toArray, List.set_cons_zero, List.set_cons_succ] | skip)
  refine Hd.After.pureD (i := 8) (some 11) (.agg #[.slice (some ⟨k0, 0, none⟩) t.sp.length d0, .slice (some ⟨k1, 0, none⟩) t.lv.length d1]) rfl rfl (by kernel_rfl) (by decide) (by kernel_rfl) (by kernel_rfl) (fun _ _ _ h => h) (HSX.out _ st4.bel) (Or.inl ⟨by rfl, ?_⟩) ?_
  ·
   intro X; go_simp; try with_reducible rfl
  (first | simp only [Act.put, List.setIfInBounds_toArray, List.set_cons_zero, List.set_cons_succ] | skip)
  have hN : w.heap.size + 1 < w4.heap.size := by have := st4.bel.size; have := HSZ.out; omega
  obtain ⟨_, ⟨q0, q1⟩, f0, f1⟩ := wr2 (HBR.out.below st4.bel)
  refine Hd.After.one (i := 9) (by kernel_rfl) rfl rfl ?_
  intro K hK
  go_simp
  refine hK _ _ (fun h => by cases h) ?_
  clear hK K
  refine Hd.After.done (by kernel_rfl) ?_ _
  obtain ⟨p0, p1, p2⟩ := st4.fin
  have hBe := HB.out.trans (st4.bel.mono HB.out.size)
  have hz := HSZ.out
  clear st st1 st2 st3 st4 o0 o1 HSX HBR HSZ hS i0 i1
  go_wp2
  refine bodyPost_ret (v := .agg #[.slice (some ⟨k0, 0, none⟩) t.sp.length d0, .slice (some ⟨k1, 0, none⟩) t.lv.length d1]) (by rw [results_cell rfl]; go_simp) rfl ⟨_, _, _, _, rfl, ?_, ?_, p2, ?_⟩
  ·
   exact (ow_set (ow_set p0 (by omega)) (by omega)).mono (by omega)
  ·
   exact (ow_set (ow_set p1 (by omega)) (by omega)).mono (by omega)
  ·
   exact (hBe.setCell (by simp) _).setCell (by simp) _
structure Cb (W wx : World) (bo g n : Nat) (b1 : Option Addr) (m d1 : Nat) (l : List ByteArray) (vs : List Int) : Prop where
 bx : Wr wx bo 0 [.slice (some ⟨g, 0, none⟩) n n, .slice b1 m d1]
 ow : Ls.Own wx W.heap.size (.slice (some ⟨g, 0, none⟩) n n) l
 oi : Li.Own wx W.heap.size (.slice b1 m d1) vs
 n1 : ¬ bo = g
 n2 : (Value.slice b1 m d1).ownBlock ≠ some bo
 n3 : (Value.slice b1 m d1).ownBlock ≠ some g
 bel : Below W.heap.size W wx
 ge : W.heap.size ≤ bo
theorem Tp.toCb {W wx : World} {g n bo m d1 : Nat} {b1 : Option Addr} {vs : List Int} (h : Tp W wx (some (.slice (some ⟨g, 0, none⟩) n n, rs (List.replicate n ⟨#[]⟩))) (some (.slice b1 m d1, ri vs)) (some bo)) :
  Cb W ((wx.setCell ⟨bo, 0, none⟩ (.slice (some ⟨g, 0, none⟩) n n)).setCell ⟨bo, 1, none⟩ (.slice b1 m d1)) bo g n b1 m d1 (List.replicate n ⟨#[]⟩) vs := by
 obtain ⟨oA, geA⟩ := h.oA bo rfl
 have ha := h.ma _ _ _ rfl rfl
 have hc := h.ca _ _ _ rfl rfl
 have hm := h.mc _ _ _ _ rfl rfl g rfl
 refine ⟨?_, ow_put (ow_put (h.oM _ _ rfl) ha) ha, ow_put (ow_put (h.oC _ _ rfl) hc) hc, fun e => ha (by rw [e]; rfl), hc, hm, (h.bel.setCell (by exact geA) _).setCell (by exact geA) _, geA⟩
 have h1 := (oA.set 0 (by simp [pair0]) (.slice (some ⟨g, 0, none⟩) n n)).set 1 (by simp [pair0]) (.slice b1 m d1)
 exact h1
theorem Cb.below {W wx w1 : World} {bo g n m d1 : Nat} {b1 : Option Addr} {l : List ByteArray} {vs : List Int} (h : Cb W wx bo g n b1 m d1 l vs) (hb : Below wx.heap.size wx w1) : Cb W w1 bo g n b1 m d1 l vs :=
 ⟨h.bx.below hb, h.ow.below hb, h.oi.below hb, h.n1, h.n2, h.n3, h.bel.trans (hb.mono h.bel.size), h.ge⟩
theorem Cb.set {W wx : World} {bo g n m d1 : Nat} {b1 : Option Addr} {l : List ByteArray} {vs : List Int} (h : Cb W wx bo g n b1 m d1 l vs) (hn : l.length = n) (j : Nat) (x : ByteArray) : Cb W (wx.setCell ⟨g, j, none⟩ (.string x)) bo g n b1 m d1 (l.set j x) vs := by
 have hg := (h.ow.ge g rfl).1
 exact ⟨h.bx.setOther h.n1, h.ow.set hn j x, ow_put (r := ri vs) h.oi h.n3, h.n1, h.n2, h.n3, h.bel.setCell (by exact hg) _, h.ge⟩

set_option maxHeartbeats 4000000 in
theorem icopyK (w : World) (a0 a1 : Option Addr) (c0 c1 : Nat) (t : Kv) (h0 : Ls.IsS w a0 t.ws) (h1 : IsL w a1 t.vs) (hl : t.ws.length + t.vs.length ≤ 1048576) (hz : ∀ s ∈ t.ws, s.size ≤ 1048576) :
    Calls Tryz.prog 26 #[.agg #[.slice a0 t.ws.length c0, .slice a1 t.vs.length c1]] w fun e w' => ∃ b0 d0 b1 d1, e = .returned (.agg #[.slice b0 t.ws.length d0, .slice b1 t.vs.length d1]) ∧ Ls.Own w' w.heap.size (.slice b0 t.ws.length d0) t.ws ∧ Li.Own w' w.heap.size (.slice b1 t.vs.length d1) t.vs ∧ (∀ k, (Value.slice b0 t.ws.length d0).ownBlock = some k → (Value.slice b1 t.vs.length d1).ownBlock ≠ some k) ∧ Below w.heap.size w w' := by
  have hl0 : t.ws.length ≤ 1048576 := by omega
  have hl1 : t.vs.length ≤ 1048576 := by omega
  clear hl
  obtain ⟨n, hn⟩ : ∃ n, t.ws.length = n := ⟨_, rfl⟩
  obtain ⟨m, hm⟩ : ∃ n, t.vs.length = n := ⟨_, rfl⟩
  have HN : Hid (t.ws.length = n) := hn
  have HM : Hid (t.vs.length = m) := hm
  rw [hn] at hl0 ⊢
  rw [hm] at hl1 ⊢
  clear hn hm
  go_enter Tryz.func26, Tryz.ntmps26
  go_upto_region 1 with fail
  obtain ⟨W, hW, hsz, hB, bx, br⟩ := new2 w [.slice a0 n c0, .slice a1 m c1] [.slice none 0 0, .slice none 0 0] 56 56
  rw [hW]
  clear hW
  have i0 := h0.below hB
  have i1 := h1.below hB
  have HSX : Hid (∀ X : World, Below W.heap.size W X → X.cell? ⟨w.heap.size, 0, none⟩ = some (.slice a0 n c0) ∧ X.cell? ⟨w.heap.size, 1, none⟩ = some (.slice a1 m c1)) := fun X hX => (wr2 (bx.below hX)).2.1
  have HBR : Hid (Wr W (w.heap.size + 1) 0 [.slice none 0 0, .slice none 0 0]) := br
  have HB : Hid (Below w.heap.size w W) := hB
  have HSZ : Hid (W.heap.size = w.heap.size + 2) := hsz
  clear bx br hB hsz h0 h1
  go_cut [3] from 6 (fun p wx => ∃ bo g b1 d1, p = .pointer (some ⟨bo, 0, none⟩) ∧ Cb W wx bo g n b1 m d1 (List.replicate n ⟨#[]⟩) t.vs)
  case first =>
    have st := Tp.init W
    have hS := HSX.out _ st.bel
    refine Hd.start (fun X => X.cell? ⟨w.heap.size, 0, none⟩ = some (.slice a0 n c0) ∧ X.cell? ⟨w.heap.size, 1, none⟩ = some (.slice a1 m c1)) 9 (by kernel_rfl) ?_
    generalize W.drew = w0 at st hS ⊢
    refine Hd.After.pureD (i := 0) (some 6) (.pointer (some ⟨w.heap.size, 0, none⟩)) rfl rfl (by kernel_rfl) (by decide) (by kernel_rfl) (by kernel_rfl) (fun _ _ _ h => h) (hS) (Or.inl ⟨by rfl, ?_⟩) ?_
    · intro X; go_simp; try with_reducible rfl
    (first | simp only [Act.put, List.setIfInBounds_toArray, List.set_cons_zero, List.set_cons_succ] | skip)
    refine Hd.After.takeD (i := 1) (some 7) (.slice a0 n c0) rfl rfl (by kernel_rfl) (by kernel_rfl) (by kernel_rfl) (by kernel_rfl) (by kernel_rfl) (fun _ _ _ h => h) (hS) (Or.inl ⟨by rfl, ?_⟩) ?_
    · rintro X ⟨s0, s1⟩; go_simp; try with_reducible rfl
    (first | simp only [Act.put, List.setIfInBounds_toArray, List.set_cons_zero, List.set_cons_succ] | skip)
    refine Hd.After.pureD (i := 2) (some 8) (.int .i64 (n : Int)) rfl rfl (by kernel_rfl) (by decide) (by kernel_rfl) (by kernel_rfl) (fun _ _ _ h => h) (hS) (Or.inl ⟨by rfl, ?_⟩) ?_
    · intro X; go_simp; try with_reducible rfl
    (first | simp only [Act.put, List.setIfInBounds_toArray, List.set_cons_zero, List.set_cons_succ] | skip)
    refine Hd.After.pureD (i := 4) (some 10) (.pointer (some ⟨w.heap.size, 1, none⟩)) rfl rfl (by kernel_rfl) (by decide) (by kernel_rfl) (by kernel_rfl) (fun _ _ _ h => h) (hS) (Or.inl ⟨by rfl, ?_⟩) ?_
    · intro X; go_simp; try with_reducible rfl
    (first | simp only [Act.put, List.setIfInBounds_toArray, List.set_cons_zero, List.set_cons_succ] | skip)
    refine Hd.After.takeD (i := 5) (some 11) (.slice a1 m c1) rfl rfl (by kernel_rfl) (by kernel_rfl) (by kernel_rfl) (by kernel_rfl) (by kernel_rfl) (fun _ _ _ h => h) (hS) (Or.inl ⟨by rfl, ?_⟩) ?_
    · rintro X ⟨s0, s1⟩; go_simp; try with_reducible rfl
    (first | simp only [Act.put, List.setIfInBounds_toArray, List.set_cons_zero, List.set_cons_succ] | skip)
    refine Hd.After.three (i := 3) (j := 6) (k := 8) (by kernel_rfl) rfl rfl rfl rfl rfl rfl ?_ ?_ ?_
    · intro K hK
      refine wp_makeS _ _ rfl (some 9) rfl n rfl rfl hl0 ?_
      intro g w1 hg o0 hb
      have st1 := st.addM hb o0
      clear hb hg
      refine hK _ _ (fun _ => HSX.out _ st1.bel) ?_
      clear hK K
      (first | simp only [Act.put, List.setIfInBounds_toArray, List.set_cons_zero, List.set_cons_succ] | skip)
      refine Hd.After.two (i := 6) (j := 8) (by kernel_rfl) rfl rfl rfl rfl ?_ ?_
      · intro K hK
        go_simp
        rw [← HM.out]
        go_wp2_with (go_at_call 50; refine (cloneI _ _ _ t.vs (i1.below st1.bel) (by rw [HM.out]; exact hl1)).mono ?_; rintro e w2 ⟨b1, d1, rfl, o1, hb⟩; rw [HM.out] at o1 ⊢)
        have st2 := st1.addC hb o1
        clear hb
        refine hK _ _ (fun _ => HSX.out _ st2.bel) ?_
        clear hK K
        (first | simp only [Act.put, List.setIfInBounds_toArray, List.set_cons_zero, List.set_cons_succ] | skip)
        refine Hd.After.pureD (i := 7) (some 13) (.agg #[.slice (some ⟨g, 0, none⟩) n n, .slice b1 m d1]) rfl rfl (by kernel_rfl) (by decide) (by kernel_rfl) (by kernel_rfl) (fun _ _ _ h => h) (HSX.out _ st2.bel) (Or.inl ⟨by rfl, ?_⟩) ?_
        · intro X; go_simp; try with_reducible rfl
        (first | simp only [Act.put, List.setIfInBounds_toArray, List.set_cons_zero, List.set_cons_succ] | skip)
        refine Hd.After.one (i := 8) (by kernel_rfl) rfl rfl ?_
        intro K hK
        go_simp
        obtain ⟨w3, bo, hw, hg, st3⟩ := st2.newA 56
        rw [hw, hg]
        clear hw hg
        refine hK _ _ (fun _ => HSX.out _ st3.bel) ?_
        clear hK K
        (first | simp only [Act.put, List.setIfInBounds_toArray, List.set_cons_zero, List.set_cons_succ] | skip)
        have HCB : Hid (type_of% st3.toCb) := st3.toCb
        obtain ⟨hbl, ⟨q0, q1⟩, f0, f1⟩ := wr2 (st3.oA bo rfl).1
        refine Hd.After.one (i := 9) (by kernel_rfl) rfl rfl ?_
        intro K hK
        go_simp
        refine hK _ _ (fun h => by cases h) ?_
        clear hK K
        refine Hd.After.done (by kernel_rfl) ?_ _
        clear st st1 st2 st3 o0 o1 q0 q1 f0 f1 hbl hS
        go_wp2_with fail
        go_meet
        exact ⟨bo, g, b1, d1, rfl, HCB.out⟩
      · intro K hK
        go_simp
        obtain ⟨w2, bo, hw, hg, st2⟩ := st1.newA 56
        rw [hw, hg]
        clear hw hg
        refine hK _ _ (fun _ => HSX.out _ st2.bel) ?_
        clear hK K
        (first | simp only [Act.put, List.setIfInBounds_toArray, List.set_cons_zero, List.set_cons_succ] | skip)
        refine Hd.After.one (i := 6) (by kernel_rfl) rfl rfl ?_
        intro K hK
        go_simp
        rw [← HM.out]
        go_wp2_with (go_at_call 50; refine (cloneI _ _ _ t.vs (i1.below st2.bel) (by rw [HM.out]; exact hl1)).mono ?_; rintro e w3 ⟨b1, d1, rfl, o1, hb⟩; rw [HM.out] at o1 ⊢)
        have st3 := st2.addC hb o1
        clear hb
        refine hK _ _ (fun _ => HSX.out _ st3.bel) ?_
        clear hK K
        (first | simp only [Act.put, List.setIfInBounds_toArray, List.set_cons_zero, List.set_cons_succ] | skip)
        refine Hd.After.pureD (i := 7) (some 13) (.agg #[.slice (some ⟨g, 0, none⟩) n n, .slice b1 m d1]) rfl rfl (by kernel_rfl) (by decide) (by kernel_rfl) (by kernel_rfl) (fun _ _ _ h => h) (HSX.out _ st3.bel) (Or.inl ⟨by rfl, ?_⟩) ?_
        · intro X; go_simp; try with_reducible rfl
        (first | simp only [Act.put, List.setIfInBounds_toArray, List.set_cons_zero, List.set_cons_succ] | skip)
        have HCB : Hid (type_of% st3.toCb) := st3.toCb
        obtain ⟨hbl, ⟨q0, q1⟩, f0, f1⟩ := wr2 (st3.oA bo rfl).1
        refine Hd.After.one (i := 9) (by kernel_rfl) rfl rfl ?_
        intro K hK
        go_simp
        refine hK _ _ (fun h => by cases h) ?_
        clear hK K
        refine Hd.After.done (by kernel_rfl) ?_ _
        clear st st1 st2 st3 o0 o1 q0 q1 f0 f1 hbl hS
        go_wp2_with fail
        go_meet
        exact ⟨bo, g, b1, d1, rfl, HCB.out⟩
    · intro K hK
      go_simp
      rw [← HM.out]
      go_wp2_with (go_at_call 50; refine (cloneI _ _ _ t.vs (i1.below st.bel) (by rw [HM.out]; exact hl1)).mono ?_; rintro e w1 ⟨b1, d1, rfl, o1, hb⟩; rw [HM.out] at o1 ⊢)
      have st1 := st.addC hb o1
      clear hb
      refine hK _ _ (fun _ => HSX.out _ st1.bel) ?_
      clear hK K
      (first | simp only [Act.put, List.setIfInBounds_toArray, List.set_cons_zero, List.set_cons_succ] | skip)
      refine Hd.After.two (i := 3) (j := 8) (by kernel_rfl) rfl rfl rfl rfl ?_ ?_
      · intro K hK
        refine wp_makeS _ _ rfl (some 9) rfl n rfl rfl hl0 ?_
        intro g w2 hg o0 hb
        have st2 := st1.addM hb o0
        clear hb hg
        refine hK _ _ (fun _ => HSX.out _ st2.bel) ?_
        clear hK K
        (first | simp only [Act.put, List.setIfInBounds_toArray, List.set_cons_zero, List.set_cons_succ] | skip)
        refine Hd.After.pureD (i := 7) (some 13) (.agg #[.slice (some ⟨g, 0, none⟩) n n, .slice b1 m d1]) rfl rfl (by kernel_rfl) (by decide) (by kernel_rfl) (by kernel_rfl) (fun _ _ _ h => h) (HSX.out _ st2.bel) (Or.inl ⟨by rfl, ?_⟩) ?_
        · intro X; go_simp; try with_reducible rfl
        (first | simp only [Act.put, List.setIfInBounds_toArray, List.set_cons_zero, List.set_cons_succ] | skip)
        refine Hd.After.one (i := 8) (by kernel_rfl) rfl rfl ?_
        intro K hK
        go_simp
        obtain ⟨w3, bo, hw, hg, st3⟩ := st2.newA 56
        rw [hw, hg]
        clear hw hg
        refine hK _ _ (fun _ => HSX.out _ st3.bel) ?_
        clear hK K
        (first | simp only [Act.put, List.setIfInBounds_toArray, List.set_cons_zero, List.set_cons_succ] | skip)
        have HCB : Hid (type_of% st3.toCb) := st3.toCb
        obtain ⟨hbl, ⟨q0, q1⟩, f0, f1⟩ := wr2 (st3.oA bo rfl).1
        refine Hd.After.one (i := 9) (by kernel_rfl) rfl rfl ?_
        intro K hK
        go_simp
        refine hK _ _ (fun h => by cases h) ?_
        clear hK K
        refine Hd.After.done (by kernel_rfl) ?_ _
        clear st st1 st2 st3 o0 o1 q0 q1 f0 f1 hbl hS
        go_wp2_with fail
        go_meet
        exact ⟨bo, g, b1, d1, rfl, HCB.out⟩
      · intro K hK
        go_simp
        obtain ⟨w2, bo, hw, hg, st2⟩ := st1.newA 56
        rw [hw, hg]
        clear hw hg
        refine hK _ _ (fun _ => HSX.out _ st2.bel) ?_
        clear hK K
        (first | simp only [Act.put, List.setIfInBounds_toArray, List.set_cons_zero, List.set_cons_succ] | skip)
        refine Hd.After.one (i := 3) (by kernel_rfl) rfl rfl ?_
        intro K hK
        refine wp_makeS _ _ rfl (some 9) rfl n rfl rfl hl0 ?_
        intro g w3 hg o0 hb
        have st3 := st2.addM hb o0
        clear hb hg
        refine hK _ _ (fun _ => HSX.out _ st3.bel) ?_
        clear hK K
        (first | simp only [Act.put, List.setIfInBounds_toArray, List.set_cons_zero, List.set_cons_succ] | skip)
        refine Hd.After.pureD (i := 7) (some 13) (.agg #[.slice (some ⟨g, 0, none⟩) n n, .slice b1 m d1]) rfl rfl (by kernel_rfl) (by decide) (by kernel_rfl) (by kernel_rfl) (fun _ _ _ h => h) (HSX.out _ st3.bel) (Or.inl ⟨by rfl, ?_⟩) ?_
        · intro X; go_simp; try with_reducible rfl
        (first | simp only [Act.put, List.setIfInBounds_toArray, List.set_cons_zero, List.set_cons_succ] | skip)
        have HCB : Hid (type_of% st3.toCb) := st3.toCb
        obtain ⟨hbl, ⟨q0, q1⟩, f0, f1⟩ := wr2 (st3.oA bo rfl).1
        refine Hd.After.one (i := 9) (by kernel_rfl) rfl rfl ?_
        intro K hK
        go_simp
        refine hK _ _ (fun h => by cases h) ?_
        clear hK K
        refine Hd.After.done (by kernel_rfl) ?_ _
        clear st st1 st2 st3 o0 o1 q0 q1 f0 f1 hbl hS
        go_wp2_with fail
        go_meet
        exact ⟨bo, g, b1, d1, rfl, HCB.out⟩
    · intro K hK
      go_simp
      obtain ⟨w1, bo, hw, hg, st1⟩ := st.newA 56
      rw [hw, hg]
      clear hw hg
      refine hK _ _ (fun _ => HSX.out _ st1.bel) ?_
      clear hK K
      (first | simp only [Act.put, List.setIfInBounds_toArray, List.set_cons_zero, List.set_cons_succ] | skip)
      refine Hd.After.two (i := 3) (j := 6) (by kernel_rfl) rfl rfl rfl rfl ?_ ?_
      · intro K hK
        refine wp_makeS _ _ rfl (some 9) rfl n rfl rfl hl0 ?_
        intro g w2 hg o0 hb
        have st2 := st1.addM hb o0
        clear hb hg
        refine hK _ _ (fun _ => HSX.out _ st2.bel) ?_
        clear hK K
        (first | simp only [Act.put, List.setIfInBounds_toArray, List.set_cons_zero, List.set_cons_succ] | skip)
        refine Hd.After.one (i := 6) (by kernel_rfl) rfl rfl ?_
        intro K hK
        go_simp
        rw [← HM.out]
        go_wp2_with (go_at_call 50; refine (cloneI _ _ _ t.vs (i1.below st2.bel) (by rw [HM.out]; exact hl1)).mono ?_; rintro e w3 ⟨b1, d1, rfl, o1, hb⟩; rw [HM.out] at o1 ⊢)
        have st3 := st2.addC hb o1
        clear hb
        refine hK _ _ (fun _ => HSX.out _ st3.bel) ?_
        clear hK K
        (first | simp only [Act.put, List.setIfInBounds_toArray, List.set_cons_zero, List.set_cons_succ] | skip)
        refine Hd.After.pureD (i := 7) (some 13) (.agg #[.slice (some ⟨g, 0, none⟩) n n, .slice b1 m d1]) rfl rfl (by kernel_rfl) (by decide) (by kernel_rfl) (by kernel_rfl) (fun _ _ _ h => h) (HSX.out _ st3.bel) (Or.inl ⟨by rfl, ?_⟩) ?_
        · intro X; go_simp; try with_reducible rfl
        (first | simp only [Act.put, List.setIfInBounds_toArray, List.set_cons_zero, List.set_cons_succ] | skip)
        have HCB : Hid (type_of% st3.toCb) := st3.toCb
        obtain ⟨hbl, ⟨q0, q1⟩, f0, f1⟩ := wr2 (st3.oA bo rfl).1
        refine Hd.After.one (i := 9) (by kernel_rfl) rfl rfl ?_
        intro K hK
        go_simp
        refine hK _ _ (fun h => by cases h) ?_
        clear hK K
        refine Hd.After.done (by kernel_rfl) ?_ _
        clear st st1 st2 st3 o0 o1 q0 q1 f0 f1 hbl hS
        go_wp2_with fail
        go_meet
        exact ⟨bo, g, b1, d1, rfl, HCB.out⟩
      · intro K hK
        go_simp
        rw [← HM.out]
        go_wp2_with (go_at_call 50; refine (cloneI _ _ _ t.vs (i1.below st1.bel) (by rw [HM.out]; exact hl1)).mono ?_; rintro e w2 ⟨b1, d1, rfl, o1, hb⟩; rw [HM.out] at o1 ⊢)
        have st2 := st1.addC hb o1
        clear hb
        refine hK _ _ (fun _ => HSX.out _ st2.bel) ?_
        clear hK K
        (first | simp only [Act.put, List.setIfInBounds_toArray, List.set_cons_zero, List.set_cons_succ] | skip)
        refine Hd.After.one (i := 3) (by kernel_rfl) rfl rfl ?_
        intro K hK
        refine wp_makeS _ _ rfl (some 9) rfl n rfl rfl hl0 ?_
        intro g w3 hg o0 hb
        have st3 := st2.addM hb o0
        clear hb hg
        refine hK _ _ (fun _ => HSX.out _ st3.bel) ?_
        clear hK K
        (first | simp only [Act.put, List.setIfInBounds_toArray, List.set_cons_zero, List.set_cons_succ] | skip)
        refine Hd.After.pureD (i := 7) (some 13) (.agg #[.slice (some ⟨g, 0, none⟩) n n, .slice b1 m d1]) rfl rfl (by kernel_rfl) (by decide) (by kernel_rfl) (by kernel_rfl) (fun _ _ _ h => h) (HSX.out _ st3.bel) (Or.inl ⟨by rfl, ?_⟩) ?_
        · intro X; go_simp; try with_reducible rfl
        (first | simp only [Act.put, List.setIfInBounds_toArray, List.set_cons_zero, List.set_cons_succ] | skip)
        have HCB : Hid (type_of% st3.toCb) := st3.toCb
        obtain ⟨hbl, ⟨q0, q1⟩, f0, f1⟩ := wr2 (st3.oA bo rfl).1
        refine Hd.After.one (i := 9) (by kernel_rfl) rfl rfl ?_
        intro K hK
        go_simp
        refine hK _ _ (fun h => by cases h) ?_
        clear hK K
        refine Hd.After.done (by kernel_rfl) ?_ _
        clear st st1 st2 st3 o0 o1 q0 q1 f0 f1 hbl hS
        go_wp2_with fail
        go_meet
        exact ⟨bo, g, b1, d1, rfl, HCB.out⟩
  case rest =>
    obtain ⟨bo, g, b1, d1, rfl, cb⟩ := hcut
    obtain ⟨x0, x1⟩ := HSX.out _ cb.bel
    go_wp2
    go_loopw [17] (fun i wr => ∃ (k : Nat) (l : List ByteArray), k ≤ n ∧ i = .int .i64 k ∧ l.length = n ∧ Ls.Like l t.ws k ∧ Cb W wr bo g n b1 m d1 l t.vs) (fun i _ => n - (intOf i).toNat)
    case atStart => exact ⟨0, List.replicate n ⟨#[]⟩, Nat.zero_le _, rfl, by simp, fun j hj => by omega, cb⟩
    case round =>
      clear cb x0 x1
      obtain ⟨k, l, hk, rfl, hll, hlike, cb⟩ := hrel
      have HLL : Hid (l.length = n) := hll
      have HLK : Hid (Ls.Like l t.ws k) := hlike
      clear hll hlike
      have nb := cb.n1
      have nb' : ¬ g = bo := fun e => nb e.symm
      by_cases hlt : k < n
      · have hlw : k < t.ws.length := by rw [HN.out]; exact hlt
        rcases i0.below cb.bel with e0 | ⟨xb, xo, rfl, hxb, hxc⟩
        · rw [e0] at hlw; simp at hlw
        have d := hxc k hlw
        have hzs := hz t.ws[k] (List.getElem_mem hlw)
        have HL : Hid (Ls.Like (l.set k t.ws[k]) t.ws (k + 1)) := Ls.like_set HLK.out hlw (by rw [HLL.out, HN.out])
        generalize t.ws[k] = s at d hzs HL
        obtain ⟨hbl, ⟨y0, y1⟩, _⟩ := wr2 cb.bx
        have HCB : Hid (type_of% cb) := cb
        have HBD : Hid (Below wr.heap.size wr wr.drew) := (Below.refl wr.heap.size wr).drew
        clear hxc hlw cb
        go_wp2_with fail
        go_region_held3 (fun w' => w'.cell? ⟨bo, 0, none⟩ = some (.slice (some ⟨g, 0, none⟩) n n)) (go_keep) (first
          | (go_at_call 51
             refine (Co.clone _ s (by omega)).mono ?_
             rintro e w5 ⟨rfl, hb⟩
             have HC5 : Hid (Cb W w5 bo g n b1 m d1 l t.vs) := HCB.out.below (HBD.out.trans hb)
             obtain ⟨_, ⟨z0, z1⟩, _⟩ := wr2 HC5.out.bx
             have hcl := HC5.out.ow.cell HLL.out k (by rw [HLL.out]; exact hlt)
             have hcf := HC5.out.ow.frozen HLL.out k
             have hgl := (HC5.out.ow.ge g rfl).2
             clear hb))
        have HC6 : Hid (Cb W (w5.setCell ⟨g, k, none⟩ (.string s)) bo g n b1 m d1 (l.set k s) t.vs) := HC5.out.set HLL.out k s
        have HL6 : Hid ((l.set k s).length = n) := by show _ = _; rw [List.length_set]; exact HLL.out
        clear y0 y1 z0 z1 hcl hcf hgl d
        go_wp2
        go_roundw
        case rel => exact ⟨k + 1, l.set k s, by omega, by go_num, HL6.out, HL.out, HC6.out⟩
        case measure => simp [intOf]; omega
      · have e := Ls.like_all (xs := t.ws) (ys := l) (by rw [HN.out, show n = k by omega]; exact HLK.out) (by rw [HN.out]; exact HLL.out)
        subst e
        obtain ⟨hbl, ⟨y0, y1⟩, _⟩ := wr2 cb.bx
        obtain ⟨hbr, ⟨q0, q1⟩, f0, f1⟩ := wr2 (HBR.out.below cb.bel)
        have HCB : Hid (type_of% cb) := cb
        have hz2 := HSZ.out
        clear cb
        go_wp2
        have cb := HCB.out
        have hge := cb.ge
        refine bodyPost_ret (v := .agg #[.slice (some ⟨g, 0, none⟩) n n, .slice b1 m d1]) (by rw [results_cell rfl]; go_simp) rfl ⟨_, _, _, _, rfl, ?_, ?_, ?_, ?_⟩
        · exact (ow_set (r := rs t.ws) (ow_set cb.ow (by omega)) (by omega)).mono (by omega)
        · exact (ow_set (r := ri t.vs) (ow_set cb.oi (by omega)) (by omega)).mono (by omega)
        · intro y ey; simp [Value.ownBlock] at ey; subst ey; exact cb.n3
        · exact ((HB.out.trans (cb.bel.mono HB.out.size)).setCell (by simp) _).setCell (by simp) _
end Go.Proofs.YtglllflleabmbaaGreat.Ct
/-
  One more table of words, or tree, put behind a list of them; what is cut off a model.
-/
namespace Go.Proofs.YtglllflleabmbaaGreat.Ct
set_option maxRecDepth 20000
open Go.RowKit
open Go.Proofs.YtglllflleabmbaaGreat.Tb (ownsRow_at)
open Go.Proofs.YtglllflleabmbaaGreat.Sv (Fr fr_below fr_grown Wr)
open Go.Proofs.YtglllflleabmbaaGreat.Kt (Kv OwK owk_snoc)
open Go.Proofs.YtglllflleabmbaaGreat.To (OwT owt_snoc)
open Go.Proofs.YtglllflleabmbaaGreat.Tm (OwnP)
open Go.Proofs.YtglllflleabmbaaGreat.Md (M mok OwM)
set_option linter.unusedVariables false
def cutn (m : M) (n : Int) : Nat := (max 0 (min n (m.ts.length : Int))).toNat
def zero : M := ⟨0, 0, 0, 0, [], []⟩
def mcut (m : M) (n : Int) : M := if mok m = true then ⟨m.n, m.c, m.prior, m.base, m.ks, m.ts.take (cutn m n)⟩ else zero
theorem mcut_no {m : M} (h : mok m = false) (n : Int) : mcut m n = zero := by unfold mcut; rw [if_neg (by rw [h]; simp)]
theorem mcut_yes {m : M} (h : mok m = true) (n : Int) : mcut m n = ⟨m.n, m.c, m.prior, m.base, m.ks, m.ts.take (cutn m n)⟩ := by unfold mcut; rw [if_pos h]
theorem info_ctr : (Tryz.prog.info? 56).map (fun i => (i.zero, i.size, i.bytes)) = some (some (.agg #[.slice none 0 0, .slice none 0 0]), 2, 48) := by kernel_rfl
theorem info_tree : (Tryz.prog.info? 60).map (fun i => (i.zero, i.size, i.bytes)) = some (some (.agg #[.slice none 0 0, .slice none 0 0]), 2, 48) := by kernel_rfl
theorem pair_cell {w : World} {E : Nat} {u0 u1 : Value} (e0 : w.cell? ⟨E, 0, none⟩ = some u0) (e1 : w.cell? ⟨E, 1, none⟩ = some u1) : ∀ j u, ([u0, u1] : List Value)[j]? = some u → w.cell? ((⟨E, 0, none⟩ : Addr).add j) = some u := by
 intro j u hj
 rw [Go.WideShapes.add_plain, Nat.zero_add]
 match j, hj with
 | 0, hj => simp at hj; subst hj; exact e0
 | 1, hj => simp at hj; subst hj; exact e1
theorem pair_one {a b : Option Addr} {n c m d : Nat} : ∀ u ∈ ([.slice a n c, .slice b m d] : List Value), u.oneCell' = true := by
 intro u hu
 simp at hu
 rcases hu with rfl | rfl <;> rfl
theorem wp_pushK {o : Oper} {a : Act} {w : World} {K : Act → World → Prop} {Q : Exit → Act → World → Prop} (s x : Operand) (ho : o.op = .call { callee := .builtin .append, args := #[s, x], argTypes := #[26, 26] }) (dt : Option Tmp) (hd : o.dst = dt)
  (B : Nat → Prop) (m : Nat) (v : Value) (ks : List Kv) (h : OwK w (fun y => B y ∧ y < m) v ks) (E : Nat) (b0 b1 : Option Addr) (d0 d1 n0 n1 : Nat) (t : Kv) (hs : a.eval s = v) (hx : a.eval x = .slice (some ⟨E, 0, none⟩) 1 1)
  (e0 : w.cell? ⟨E, 0, none⟩ = some (.slice b0 n0 d0)) (e1 : w.cell? ⟨E, 1, none⟩ = some (.slice b1 n1 d1)) (o0 : Ls.Own w m (.slice b0 n0 d0) t.ws) (o1 : Li.Own w m (.slice b1 n1 d1) t.vs) (h01 : ∀ k, (Value.slice b0 n0 d0).ownBlock = some k → (Value.slice b1 n1 d1).ownBlock ≠ some k)
  (hB : ∀ y, m ≤ y → B y) (hm : m ≤ w.heap.size) (hl : ks.length ≤ 1000) (L : Nat) (hL : ks.length + 1 = L)
  (hq : ∀ a5 c5 w5, OwK w5 B (.slice a5 L c5) (ks ++ [t]) → w.grownBy w5 v.ownBlock → K (a.put dt (.slice a5 L c5)) w5) : o.wp Tryz.prog a w K Q := by
 subst hd; subst hL
 obtain ⟨i0, hi, hz0, hz1, hz2⟩ := info_parts info_ctr
 obtain ⟨vs, hown, hvl, he, hv, hbb, hss⟩ := h
 obtain ⟨v', w', hr, h2, h3, hnil, h5⟩ := run_append_own_at (P := Tryz.prog) w 0 26 o.type 56 i0 (.agg #[.slice none 0 0, .slice none 0 0]) 2 48 Tryz.underlying26 hi hz0 hz1 hz2 rfl (by decide) v ks.length vs hown ⟨E, 0, none⟩ 1 1 [.slice b0 n0 d0, .slice b1 n1 d1] rfl (pair_cell e0 e1) pair_one (by unfold maxLen; omega) (by omega) (by omega)
 have hok := owk_snoc (B := B) (m := m) hvl he hv hbb hss o0 o1 h01 hB hm h2 h3 h5
 obtain ⟨a5, c5, e5, _⟩ := hok.isk
 rw [List.length_append] at e5
 subst e5
 unfold Oper.wp execOp
 simp only [ho, resolve, invoke, builtin, Sem.run_bind, Sem.run_pure, Result.andThen_ok, List.map_toArray, List.map_cons, List.map_nil, hs, hx, hr]
 exact hq a5 c5 w' hok h3
theorem wp_pushT {o : Oper} {a : Act} {w : World} {K : Act → World → Prop} {Q : Exit → Act → World → Prop} (s x : Operand) (ho : o.op = .call { callee := .builtin .append, args := #[s, x], argTypes := #[27, 27] }) (dt : Option Tmp) (hd : o.dst = dt)
  (B : Nat → Prop) (m : Nat) (v : Value) (ks : List Tr.T) (h : OwT w (fun y => B y ∧ y < m) v ks) (E : Nat) (b0 b1 : Option Addr) (d0 d1 n0 n1 : Nat) (t : Tr.T) (hs : a.eval s = v) (hx : a.eval x = .slice (some ⟨E, 0, none⟩) 1 1)
  (e0 : w.cell? ⟨E, 0, none⟩ = some (.slice b0 n0 d0)) (e1 : w.cell? ⟨E, 1, none⟩ = some (.slice b1 n1 d1)) (o0 : OwnP w m (.slice b0 n0 d0) t.sp) (o1 : Li.Own w m (.slice b1 n1 d1) t.lv) (h01 : ∀ k, (Value.slice b0 n0 d0).ownBlock = some k → (Value.slice b1 n1 d1).ownBlock ≠ some k)
  (hB : ∀ y, m ≤ y → B y) (hm : m ≤ w.heap.size) (hl : ks.length ≤ 1000) (L : Nat) (hL : ks.length + 1 = L)
  (hq : ∀ a5 c5 w5, OwT w5 B (.slice a5 L c5) (ks ++ [t]) → w.grownBy w5 v.ownBlock → K (a.put dt (.slice a5 L c5)) w5) : o.wp Tryz.prog a w K Q := by
 subst hd; subst hL
 obtain ⟨i0, hi, hz0, hz1, hz2⟩ := info_parts info_tree
 obtain ⟨vs, hown, hvl, he, hv, hbb, hss⟩ := h
 obtain ⟨v', w', hr, h2, h3, hnil, h5⟩ := run_append_own_at (P := Tryz.prog) w 0 27 o.type 60 i0 (.agg #[.slice none 0 0, .slice none 0 0]) 2 48 Tryz.underlying27 hi hz0 hz1 hz2 rfl (by decide) v ks.length vs hown ⟨E, 0, none⟩ 1 1 [.slice b0 n0 d0, .slice b1 n1 d1] rfl (pair_cell e0 e1) pair_one (by unfold maxLen; omega) (by omega) (by omega)
 have hok := owt_snoc (B := B) (m := m) hvl he hv hbb hss o0 o1 h01 hB hm h2 h3 h5
 obtain ⟨a5, c5, e5, _⟩ := hok.ist
 rw [List.length_append] at e5
 subst e5
 unfold Oper.wp execOp
 simp only [ho, resolve, invoke, builtin, Sem.run_bind, Sem.run_pure, Result.andThen_ok, List.map_toArray, List.map_cons, List.map_nil, hs, hx, hr]
 exact hq a5 c5 w' hok h3
def Fx (b2 m : Nat) : Nat → Prop := fun y => y = b2 ∨ m ≤ y
theorem fx_bel {b2 m : Nat} {w2 wr : World} {n : Nat} (h : Fr (Fx b2 m) w2 wr) (hb : n ≤ b2) (hm : n ≤ m) (hn : n ≤ w2.heap.size) : Below n w2 wr := h.bel (fun k e => by rcases e with e | e <;> omega) hn
theorem fx_grown {b2 m : Nat} {w w1 : World} {v : Value} (hg : w.grownBy w1 v.ownBlock) (hv : ∀ k, v.ownBlock = some k → m ≤ k) : Fr (Fx b2 m) w w1 :=
 ⟨hg.os, hg.tape, hg.output, hg.size, fun k hk hn => hg.block k hk (fun e => hn (.inr (hv k e.symm)))⟩
theorem fx_set {b2 m : Nat} (w : World) (o : Nat) (x : Value) : Fr (Fx b2 m) w (w.setCell ⟨b2, o, none⟩ x) := fr_grown (Li.grown_set w b2 o x) (.inl rfl)
theorem fx_below {b2 m : Nat} {w w1 : World} (h : Below w.heap.size w w1) : Fr (Fx b2 m) w w1 := fr_below h
theorem szT_take_le (ts : List Tr.T) (q : Nat) : Tm.szT (ts.take q) ≤ Tm.szT ts := by
 induction ts generalizing q with
 | nil => simp
 | cons t ts ih =>
  cases q with
  | zero => simp [Tm.szT]
  | succ q => simp only [List.take_succ_cons, Tm.szT]; have := ih q; omega
theorem mcut_sz (m : M) (n : Int) : (mcut m n).sz ≤ m.sz := by
 cases h : mok m with
 | false => rw [mcut_no h]; simp [zero, M.sz, Kt.ksz, Tm.szT]
 | true =>
  rw [mcut_yes h]
  unfold M.sz
  have h1 := szT_take_le m.ts (cutn m n)
  have h2 : (m.ts.take (cutn m n)).length ≤ m.ts.length := by rw [List.length_take]; omega
  show m.ks.length + Kt.ksz m.ks + ((m.ts.take (cutn m n)).length + Tm.szT (m.ts.take (cutn m n))) ≤ _
  omega
end Go.Proofs.YtglllflleabmbaaGreat.Ct
