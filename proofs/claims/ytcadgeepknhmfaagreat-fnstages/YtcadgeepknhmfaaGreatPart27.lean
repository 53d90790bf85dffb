/-
  Contracts that the proof leans on, put together in the order in which they build.
-/
import Derived.Test.YtcadgeepknhmfaaGreatPart26
import Derived.Test.YtcadgeepknhmfaaGreatPart11
import Derived.Test.YtcadgeepknhmfaaGreatPart13
import Derived.Deep.Cut
import Derived.Test.YtcadgeepknhmfaaGreatPart25
import Derived.RangeFuncBox
import Derived.RangeFuncNested
import Derived.RangeFuncBound
import Derived.RangeFuncCalls
import Derived.RangeFuncLeaves
import Derived.RangeFuncWrites
import Derived.Shelf.Abstract
import Derived.Shelf.RegionOpen
import Derived.WalkKit
import Derived.OwnWalkIn
import Derived.TacticsInMore
import Derived.LoopNIn
import Derived.LoopIn
import Derived.Maps.AppendAt
import Derived.Stop.RegionWithIn
/-
  Copies of a tree and of a table of words, of both.
-/
namespace Go.Proofs.YtcadgeepknhmfaaGreat.Ct
set_option maxRecDepth 20000
open Go.RowKit
open Go.Proofs.YtcadgeepknhmfaaGreat.Tm (IsP OwnP pv)
open Go.Proofs.YtcadgeepknhmfaaGreat.Li (IsL iv below_none)
open Go.Proofs.YtcadgeepknhmfaaGreat.Sv (Wr wr2 new1 new2 Fr fr_grown)
open Go.Proofs.YtcadgeepknhmfaaGreat.Kt (Kv)
open Go.Proofs.YtcadgeepknhmfaaGreat.Tb (results_cell)
set_option linter.unusedVariables false
theorem Tp.fin {W wx : World} {u v : Value} {r s : Rw} {A : Option Nat} (h : Tp W wx (some (u, r)) (some (v, s)) A) : Ow wx W.heap.size u r ∧ Ow wx W.heap.size v s ∧ (∀ k, u.ownBlock = some k → v.ownBlock ≠ some k) := ⟨h.oM _ _ rfl, h.oC _ _ rfl, h.mc _ _ _ _ rfl rfl⟩
theorem ow_set {w : World} {base b o : Nat} {v x : Value} {r : Rw} (h : Ow w base v r) (hb : b < base) : Ow (w.setCell ⟨b, o, none⟩ x) base v r := Tb.ownsRow_at h (fun k e => (Li.grown_set w b o x).block k (h.lt k e).2 (fun e2 => by cases e2; have := (h.lt b e).1; omega))
theorem ow_put {w : World} {base b o : Nat} {v x : Value} {r : Rw} (h : Ow w base v r) (hb : v.ownBlock ≠ some b) : Ow (w.setCell ⟨b, o, none⟩ x) base v r := Tb.ownsRow_at h (fun k e => (Li.grown_set w b o x).block k (h.lt k e).2 (fun e2 => by cases e2; exact hb e))

set_option maxHeartbeats 4000000 in
theorem icopyT (w : World) (a0 a1 : Option Addr) (c0 c1 : Nat) (t : Tr.T) (h0 : IsP w a0 t.sp) (h1 : IsL w a1 t.lv) (hl : t.sp.length + t.lv.length ≤ 1048576) :
    Calls Tryz.prog 24 #[.agg #[.slice a0 t.sp.length c0, .slice a1 t.lv.length c1]] w fun e w' => ∃ b0 d0 b1 d1, e = .returned (.agg #[.slice b0 t.sp.length d0, .slice b1 t.lv.length d1]) ∧ OwnP w' w.heap.size (.slice b0 t.sp.length d0) t.sp ∧ Li.Own w' w.heap.size (.slice b1 t.lv.length d1) t.lv ∧ (∀ k, (Value.slice b0 t.sp.length d0).ownBlock = some k → (Value.slice b1 t.lv.length d1).ownBlock ≠ some k) ∧ Below w.heap.size w w' := by
  have hl0 : t.sp.length ≤ 1048576 := by omega
  have hl1 : t.lv.length ≤ 1048576 := by omega
  clear hl
  go_enter Tryz.func24, Tryz.ntmps24
  go_wp2_with fail
  obtain ⟨W, hW, hsz, hB, bx, br⟩ := new2 w [.slice a0 t.sp.length c0, .slice a1 t.lv.length c1] [.slice none 0 0, .slice none 0 0] 57 57
  rw [hW]
  clear hW
  have i0 := h0.below hB
  have i1 := h1.below hB
  have HSX : Hid (∀ X : World, Below W.heap.size W X → X.cell? ⟨w.heap.size, 0, none⟩ = some (.slice a0 t.sp.length c0) ∧ X.cell? ⟨w.heap.size, 1, none⟩ = some (.slice a1 t.lv.length c1)) := fun X hX => (wr2 (bx.below hX)).2.1
  have HBR : Hid (Wr W (w.heap.size + 1) 0 [.slice none 0 0, .slice none 0 0]) := br
  have HB : Hid (Below w.heap.size w W) := hB
  have HSZ : Hid (W.heap.size = w.heap.size + 2) := hsz
  have st := Tp.init W
  have hS := HSX.out _ st.bel
  clear bx br hB hsz h0 h1
  refine Hd.start (fun X => X.cell? ⟨w.heap.size, 0, none⟩ = some (.slice a0 t.sp.length c0) ∧ X.cell? ⟨w.heap.size, 1, none⟩ = some (.slice a1 t.lv.length c1)) 7 (by kernel_rfl) ?_
  generalize W.drew = w0 at st hS ⊢
  refine Hd.After.pureD (i := 0) (some 3) (.pointer (some ⟨w.heap.size, 0, none⟩)) rfl rfl (by kernel_rfl) (by decide) (by kernel_rfl) (by kernel_rfl) (fun _ _ _ h => h) (hS) (Or.inl ⟨by rfl, ?_⟩) ?_
  · intro X; go_simp; try with_reducible rfl
  (first | simp only [Act.put, List.setIfInBounds_toArray, List.set_cons_zero, List.set_cons_succ] | skip)
  refine Hd.After.takeD (i := 1) (some 4) (.slice a0 t.sp.length c0) rfl rfl (by kernel_rfl) (by kernel_rfl) (by kernel_rfl) (by kernel_rfl) (by kernel_rfl) (fun _ _ _ h => h) (hS) (Or.inl ⟨by rfl, ?_⟩) ?_
  · rintro X ⟨s0, s1⟩; go_simp; try with_reducible rfl
  (first | simp only [Act.put, List.setIfInBounds_toArray, List.set_cons_zero, List.set_cons_succ] | skip)
  refine Hd.After.pureD (i := 3) (some 6) (.pointer (some ⟨w.heap.size, 1, none⟩)) rfl rfl (by kernel_rfl) (by decide) (by kernel_rfl) (by kernel_rfl) (fun _ _ _ h => h) (hS) (Or.inl ⟨by rfl, ?_⟩) ?_
  · intro X; go_simp; try with_reducible rfl
  (first | simp only [Act.put, List.setIfInBounds_toArray, List.set_cons_zero, List.set_cons_succ] | skip)
  refine Hd.After.takeD (i := 4) (some 7) (.slice a1 t.lv.length c1) rfl rfl (by kernel_rfl) (by kernel_rfl) (by kernel_rfl) (by kernel_rfl) (by kernel_rfl) (fun _ _ _ h => h) (hS) (Or.inl ⟨by rfl, ?_⟩) ?_
  · rintro X ⟨s0, s1⟩; go_simp; try with_reducible rfl
  (first | simp only [Act.put, List.setIfInBounds_toArray, List.set_cons_zero, List.set_cons_succ] | skip)
  refine Hd.After.one (i := 2) (by kernel_rfl) rfl rfl ?_
  intro K hK
  go_simp
  go_wp2_with (go_at_call 49; refine (cloneP _ _ _ t.sp (i0.below st.bel) hl0).mono ?_; rintro e w1 ⟨b0, d0, rfl, o0, hb⟩)
  have st1 := st.addM hb o0
  clear hb
  refine hK _ _ (fun _ => HSX.out _ st1.bel) ?_
  clear hK K
  (first | simp only [Act.put, List.setIfInBounds_toArray, List.set_cons_zero, List.set_cons_succ] | skip)
  refine Hd.After.one (i := 5) (by kernel_rfl) rfl rfl ?_
  intro K hK
  go_simp
  go_wp2_with (go_at_call 47; refine (cloneI _ _ _ t.lv (i1.below st1.bel) hl1).mono ?_; rintro e w2 ⟨b1, d1, rfl, o1, hb⟩)
  have st2 := st1.addC hb o1
  clear hb
  refine hK _ _ (fun _ => HSX.out _ st2.bel) ?_
  clear hK K
  (first | simp only [Act.put, List.setIfInBounds_toArray, List.set_cons_zero, List.set_cons_succ] | skip)
  refine Hd.After.pureD (i := 6) (some 9) (.agg #[.slice b0 t.sp.length d0, .slice b1 t.lv.length d1]) rfl rfl (by kernel_rfl) (by decide) (by kernel_rfl) (by kernel_rfl) (fun _ _ _ h => h) (HSX.out _ st2.bel) (Or.inl ⟨by rfl, ?_⟩) ?_
  · intro X; go_simp; try with_reducible rfl
  (first | simp only [Act.put, List.setIfInBounds_toArray, List.set_cons_zero, List.set_cons_succ] | skip)
  have hN : w.heap.size + 1 < w2.heap.size := by have := st2.bel.size; have := HSZ.out; omega
  obtain ⟨_, ⟨q0, q1⟩, f0, f1⟩ := wr2 (HBR.out.below st2.bel)
  refine Hd.After.one (i := 7) (by kernel_rfl) rfl rfl ?_
  intro K hK
  go_simp
  refine hK _ _ (fun h => by cases h) ?_
  clear hK K
  refine Hd.After.done (by kernel_rfl) ?_ _
  obtain ⟨p0, p1, p2⟩ := st2.fin
  have hBe := HB.out.trans (st2.bel.mono HB.out.size)
  have hz := HSZ.out
  clear st st1 st2 o0 o1 HSX HBR HSZ hS i0 i1
  go_wp2
  refine bodyPost_ret (v := .agg #[.slice b0 t.sp.length d0, .slice b1 t.lv.length d1]) (by rw [results_cell rfl]; go_simp) rfl ⟨_, _, _, _, rfl, ?_, ?_, p2, ?_⟩
  · exact (ow_set (ow_set p0 (by omega)) (by omega)).mono (by omega)
  · exact (ow_set (ow_set p1 (by omega)) (by omega)).mono (by omega)
  · exact (hBe.setCell (by simp) _).setCell (by simp) _
structure Cb (W wx : World) (bo g n : Nat) (b1 : Option Addr) (m d1 : Nat) (l : List ByteArray) (vs : List Int) : Prop where
  bx : Wr wx bo 0 [.slice (some ⟨g, 0, none⟩) n n, .slice b1 m d1]
  ow : Ls.Own wx W.heap.size (.slice (some ⟨g, 0, none⟩) n n) l
  oi : Li.Own wx W.heap.size (.slice b1 m d1) vs
  n1 : ¬ bo = g
  n2 : (Value.slice b1 m d1).ownBlock ≠ some bo
  n3 : (Value.slice b1 m d1).ownBlock ≠ some g
  bel : Below W.heap.size W wx
  ge : W.heap.size ≤ bo
theorem Tp.toCb {W wx : World} {g n bo m d1 : Nat} {b1 : Option Addr} {vs : List Int} (h : Tp W wx (some (.slice (some ⟨g, 0, none⟩) n n, rs (List.replicate n ⟨#[]⟩))) (some (.slice b1 m d1, ri vs)) (some bo)) :
    Cb W ((wx.setCell ⟨bo, 0, none⟩ (.slice (some ⟨g, 0, none⟩) n n)).setCell ⟨bo, 1, none⟩ (.slice b1 m d1)) bo g n b1 m d1 (List.replicate n ⟨#[]⟩) vs := by
  obtain ⟨oA, geA⟩ := h.oA bo rfl
  have ha := h.ma _ _ _ rfl rfl
  have hc := h.ca _ _ _ rfl rfl
  have hm := h.mc _ _ _ _ rfl rfl g rfl
  refine ⟨?_, ow_put (ow_put (h.oM _ _ rfl) ha) ha, ow_put (ow_put (h.oC _ _ rfl) hc) hc, fun e => ha (by rw [e]; rfl), hc, hm, (h.bel.setCell (by exact geA) _).setCell (by exact geA) _, geA⟩
  have h1 := (oA.set 0 (by simp [pair0]) (.slice (some ⟨g, 0, none⟩) n n)).set 1 (by simp [pair0]) (.slice b1 m d1)
  exact h1
theorem Cb.below {W wx w1 : World} {bo g n m d1 : Nat} {b1 : Option Addr} {l : List ByteArray} {vs : List Int} (h : Cb W wx bo g n b1 m d1 l vs) (hb : Below wx.heap.size wx w1) : Cb W w1 bo g n b1 m d1 l vs :=
  ⟨h.bx.below hb, h.ow.below hb, h.oi.below hb, h.n1, h.n2, h.n3, h.bel.trans (hb.mono h.bel.size), h.ge⟩
theorem Cb.set {W wx : World} {bo g n m d1 : Nat} {b1 : Option Addr} {l : List ByteArray} {vs : List Int} (h : Cb W wx bo g n b1 m d1 l vs) (hn : l.length = n) (j : Nat) (x : ByteArray) : Cb W (wx.setCell ⟨g, j, none⟩ (.string x)) bo g n b1 m d1 (l.set j x) vs := by
  have hg := (h.ow.ge g rfl).1
  exact ⟨h.bx.setOther h.n1, h.ow.set hn j x, ow_put (r := ri vs) h.oi h.n3, h.n1, h.n2, h.n3, h.bel.setCell (by exact hg) _, h.ge⟩

set_option maxHeartbeats 4000000 in
theorem icopyK (w : World) (a0 a1 : Option Addr) (c0 c1 : Nat) (t : Kv) (h0 : Ls.IsS w a0 t.ws) (h1 : IsL w a1 t.vs) (hl : t.ws.length + t.vs.length ≤ 1048576) (hz : ∀ s ∈ t.ws, s.size ≤ 1048576) :
    Calls Tryz.prog 23 #[.agg #[.slice a0 t.ws.length c0, .slice a1 t.vs.length c1]] w fun e w' => ∃ b0 d0 b1 d1, e = .returned (.agg #[.slice b0 t.ws.length d0, .slice b1 t.vs.length d1]) ∧ Ls.Own w' w.heap.size (.slice b0 t.ws.length d0) t.ws ∧ Li.Own w' w.heap.size (.slice b1 t.vs.length d1) t.vs ∧ (∀ k, (Value.slice b0 t.ws.length d0).ownBlock = some k → (Value.slice b1 t.vs.length d1).ownBlock ≠ some k) ∧ Below w.heap.size w w' := by
  have hl0 : t.ws.length ≤ 1048576 := by omega
  have hl1 : t.vs.length ≤ 1048576 := by omega
  clear hl
  obtain ⟨n, hn⟩ : ∃ n, t.ws.length = n := ⟨_, rfl⟩
  obtain ⟨m, hm⟩ : ∃ n, t.vs.length = n := ⟨_, rfl⟩
  have HN : Hid (t.ws.length = n) := hn
  have HM : Hid (t.vs.length = m) := hm
  rw [hn] at hl0 ⊢
  rw [hm] at hl1 ⊢
  clear hn hm
  go_enter Tryz.func23, Tryz.ntmps23
  go_upto_region 1 with fail
  obtain ⟨W, hW, hsz, hB, bx, br⟩ := new2 w [.slice a0 n c0, .slice a1 m c1] [.slice none 0 0, .slice none 0 0] 53 53
  rw [hW]
  clear hW
  have i0 := h0.below hB
  have i1 := h1.below hB
  have HSX : Hid (∀ X : World, Below W.heap.size W X → X.cell? ⟨w.heap.size, 0, none⟩ = some (.slice a0 n c0) ∧ X.cell? ⟨w.heap.size, 1, none⟩ = some (.slice a1 m c1)) := fun X hX => (wr2 (bx.below hX)).2.1
  have HBR : Hid (Wr W (w.heap.size + 1) 0 [.slice none 0 0, .slice none 0 0]) := br
  have HB : Hid (Below w.heap.size w W) := hB
  have HSZ : Hid (W.heap.size = w.heap.size + 2) := hsz
  clear bx br hB hsz h0 h1
  go_cut [3] from 6 (fun p wx => ∃ bo g b1 d1, p = .pointer (some ⟨bo, 0, none⟩) ∧ Cb W wx bo g n b1 m d1 (List.replicate n ⟨#[]⟩) t.vs)
  case first =>
    have st := Tp.init W
    have hS := HSX.out _ st.bel
    refine Hd.start (fun X => X.cell? ⟨w.heap.size, 0, none⟩ = some (.slice a0 n c0) ∧ X.cell? ⟨w.heap.size, 1, none⟩ = some (.slice a1 m c1)) 9 (by kernel_rfl) ?_
    generalize W.drew = w0 at st hS ⊢
    refine Hd.After.pureD (i := 0) (some 6) (.pointer (some ⟨w.heap.size, 0, none⟩)) rfl rfl (by kernel_rfl) (by decide) (by kernel_rfl) (by kernel_rfl) (fun _ _ _ h => h) (hS) (Or.inl ⟨by rfl, ?_⟩) ?_
    · intro X; go_simp; try with_reducible rfl
    (first | simp only [Act.put, List.setIfInBounds_toArray, List.set_cons_zero, List.set_cons_succ] | skip)
    refine Hd.After.takeD (i := 1) (some 7) (.slice a0 n c0) rfl rfl (by kernel_rfl) (by kernel_rfl) (by kernel_rfl) (by kernel_rfl) (by kernel_rfl) (fun _ _ _ h => h) (hS) (Or.inl ⟨by rfl, ?_⟩) ?_
    · rintro X ⟨s0, s1⟩; go_simp; try with_reducible rfl
    (first | simp only [Act.put, List.setIfInBounds_toArray, List.set_cons_zero, List.set_cons_succ] | skip)
    refine Hd.After.pureD (i := 2) (some 8) (.int .i64 (n : Int)) rfl rfl (by kernel_rfl) (by decide) (by kernel_rfl) (by kernel_rfl) (fun _ _ _ h => h) (hS) (Or.inl ⟨by rfl, ?_⟩) ?_
    · intro X; go_simp; try with_reducible rfl
    (first | simp only [Act.put, List.setIfInBounds_toArray, List.set_cons_zero, List.set_cons_succ] | skip)
    refine Hd.After.pureD (i := 4) (some 10) (.pointer (some ⟨w.heap.size, 1, none⟩)) rfl rfl (by kernel_rfl) (by decide) (by kernel_rfl) (by kernel_rfl) (fun _ _ _ h => h) (hS) (Or.inl ⟨by rfl, ?_⟩) ?_
    · intro X; go_simp; try with_reducible rfl
    (first | simp only [Act.put, List.setIfInBounds_toArray, List.set_cons_zero, List.set_cons_succ] | skip)
    refine Hd.After.takeD (i := 5) (some 11) (.slice a1 m c1) rfl rfl (by kernel_rfl) (by kernel_rfl) (by kernel_rfl) (by kernel_rfl) (by kernel_rfl) (fun _ _ _ h => h) (hS) (Or.inl ⟨by rfl, ?_⟩) ?_
    · rintro X ⟨s0, s1⟩; go_simp; try with_reducible rfl
    (first | simp only [Act.put, List.setIfInBounds_toArray, List.set_cons_zero, List.set_cons_succ] | skip)
    refine Hd.After.three (i := 3) (j := 6) (k := 8) (by kernel_rfl) rfl rfl rfl rfl rfl rfl ?_ ?_ ?_
    · intro K hK
      refine wp_makeS _ _ rfl (some 9) rfl n rfl rfl hl0 ?_
      intro g w1 hg o0 hb
      have st1 := st.addM hb o0
      clear hb hg
      refine hK _ _ (fun _ => HSX.out _ st1.bel) ?_
      clear hK K
      (first | simp only [Act.put, List.setIfInBounds_toArray, List.set_cons_zero, List.set_cons_succ] | skip)
      refine Hd.After.two (i := 6) (j := 8) (by kernel_rfl) rfl rfl rfl rfl ?_ ?_
      · intro K hK
        go_simp
        rw [← HM.out]
        go_wp2_with (go_at_call 47; refine (cloneI _ _ _ t.vs (i1.below st1.bel) (by rw [HM.out]; exact hl1)).mono ?_; rintro e w2 ⟨b1, d1, rfl, o1, hb⟩; rw [HM.out] at o1 ⊢)
        have st2 := st1.addC hb o1
        clear hb
        refine hK _ _ (fun _ => HSX.out _ st2.bel) ?_
        clear hK K
        (first | simp only [Act.put, List.setIfInBounds_toArray, List.set_cons_zero, List.set_cons_succ] | skip)
        refine Hd.After.pureD (i := 7) (some 13) (.agg #[.slice (some ⟨g, 0, none⟩) n n, .slice b1 m d1]) rfl rfl (by kernel_rfl) (by decide) (by kernel_rfl) (by kernel_rfl) (fun _ _ _ h => h) (HSX.out _ st2.bel) (Or.inl ⟨by rfl, ?_⟩) ?_
        · intro X; go_simp; try with_reducible rfl
        (first | simp only [Act.put, List.setIfInBounds_toArray, List.set_cons_zero, List.set_cons_succ] | skip)
        refine Hd.After.one (i := 8) (by kernel_rfl) rfl rfl ?_
        intro K hK
        go_simp
        obtain ⟨w3, bo, hw, hg, st3⟩ := st2.newA 53
        rw [hw, hg]
        clear hw hg
        refine hK _ _ (fun _ => HSX.out _ st3.bel) ?_
        clear hK K
        (first | simp only [Act.put, List.setIfInBounds_toArray, List.set_cons_zero, List.set_cons_succ] | skip)
        have HCB : Hid (type_of% st3.toCb) := st3.toCb
        obtain ⟨hbl, ⟨q0, q1⟩, f0, f1⟩ := wr2 (st3.oA bo rfl).1
        refine Hd.After.one (i := 9) (by kernel_rfl) rfl rfl ?_
        intro K hK
        go_simp
        refine hK _ _ (fun h => by cases h) ?_
        clear hK K
        refine Hd.After.done (by kernel_rfl) ?_ _
        clear st st1 st2 st3 o0 o1 q0 q1 f0 f1 hbl hS
        go_wp2_with fail
        go_meet
        exact ⟨bo, g, b1, d1, rfl, HCB.out⟩
      · intro K hK
        go_simp
        obtain ⟨w2, bo, hw, hg, st2⟩ := st1.newA 53
        rw [hw, hg]
        clear hw hg
        refine hK _ _ (fun _ => HSX.out _ st2.bel) ?_
        clear hK K
        (first | simp only [Act.put, List.setIfInBounds_toArray, List.set_cons_zero, List.set_cons_succ] | skip)
        refine Hd.After.one (i := 6) (by kernel_rfl) rfl rfl ?_
        intro K hK
        go_simp
        rw [← HM.out]
        go_wp2_with (go_at_call 47; refine (cloneI _ _ _ t.vs (i1.below st2.bel) (by rw [HM.out]; exact hl1)).mono ?_; rintro e w3 ⟨b1, d1, rfl, o1, hb⟩; rw [HM.out] at o1 ⊢)
        have st3 := st2.addC hb o1
        clear hb
        refine hK _ _ (fun _ => HSX.out _ st3.bel) ?_
        clear hK K
        (first | simp only [Act.put, List.setIfInBounds_toArray, List.set_cons_zero, List.set_cons_succ] | skip)
        refine Hd.After.pureD (i := 7) (some 13) (.agg #[.slice (some ⟨g, 0, none⟩) n n, .slice b1 m d1]) rfl rfl (by kernel_rfl) (by decide) (by kernel_rfl) (by kernel_rfl) (fun _ _ _ h => h) (HSX.out _ st3.bel) (Or.inl ⟨by rfl, ?_⟩) ?_
        · intro X; go_simp; try with_reducible rfl
        (first | simp only [Act.put, List.setIfInBounds_toArray, List.set_cons_zero, List.set_cons_succ] | skip)
        have HCB : Hid (type_of% st3.toCb) := st3.toCb
        obtain ⟨hbl, ⟨q0, q1⟩, f0, f1⟩ := wr2 (st3.oA bo rfl).1
        refine Hd.After.one (i := 9) (by kernel_rfl) rfl rfl ?_
        intro K hK
        go_simp
        refine hK _ _ (fun h => by cases h) ?_
        clear hK K
        refine Hd.After.done (by kernel_rfl) ?_ _
        clear st st1 st2 st3 o0 o1 q0 q1 f0 f1 hbl hS
        go_wp2_with fail
        go_meet
        exact ⟨bo, g, b1, d1, rfl, HCB.out⟩
    · intro K hK
      go_simp
      rw [← HM.out]
      go_wp2_with (go_at_call 47; refine (cloneI _ _ _ t.vs (i1.below st.bel) (by rw [HM.out]; exact hl1)).mono ?_; rintro e w1 ⟨b1, d1, rfl, o1, hb⟩; rw [HM.out] at o1 ⊢)
      have st1 := st.addC hb o1
      clear hb
      refine hK _ _ (fun _ => HSX.out _ st1.bel) ?_
      clear hK K
      (first | simp only [Act.put, List.setIfInBounds_toArray, List.set_cons_zero, List.set_cons_succ] | skip)
      refine Hd.After.two (i := 3) (j := 8) (by kernel_rfl) rfl rfl rfl rfl ?_ ?_
      · intro K hK
        refine wp_makeS _ _ rfl (some 9) rfl n rfl rfl hl0 ?_
        intro g w2 hg o0 hb
        have st2 := st1.addM hb o0
        clear hb hg
        refine hK _ _ (fun _ => HSX.out _ st2.bel) ?_
        clear hK K
        (first | simp only [Act.put, List.setIfInBounds_toArray, List.set_cons_zero, List.set_cons_succ] | skip)
        refine Hd.After.pureD (i := 7) (some 13) (.agg #[.slice (some ⟨g, 0, none⟩) n n, .slice b1 m d1]) rfl rfl (by kernel_rfl) (by decide) (by kernel_rfl) (by kernel_rfl) (fun _ _ _ h => h) (HSX.out _ st2.bel) (Or.inl ⟨by rfl, ?_⟩) ?_
        · intro X; go_simp; try with_reducible rfl
        (first | simp only [Act.put, List.setIfInBounds_toArray, List.set_cons_zero, List.set_cons_succ] | skip)
        refine Hd.After.one (i := 8) (by kernel_rfl) rfl rfl ?_
        intro K hK
        go_simp
        obtain ⟨w3, bo, hw, hg, st3⟩ := st2.newA 53
        rw [hw, hg]
        clear hw hg
        refine hK _ _ (fun _ => HSX.out _ st3.bel) ?_
        clear hK K
        (first | simp only [Act.put, List.setIfInBounds_toArray, List.set_cons_zero, List.set_cons_succ] | skip)
        have HCB : Hid (type_of% st3.toCb) := st3.toCb
        obtain ⟨hbl, ⟨q0, q1⟩, f0, f1⟩ := wr2 (st3.oA bo rfl).1
        refine Hd.After.one (i := 9) (by kernel_rfl) rfl rfl ?_
        intro K hK
        go_simp
        refine hK _ _ (fun h => by cases h) ?_
        clear hK K
        refine Hd.After.done (by kernel_rfl) ?_ _
        clear st st1 st2 st3 o0 o1 q0 q1 f0 f1 hbl hS
        go_wp2_with fail
        go_meet
        exact ⟨bo, g, b1, d1, rfl, HCB.out⟩
      · intro K hK
        go_simp
        obtain ⟨w2, bo, hw, hg, st2⟩ := st1.newA 53
        rw [hw, hg]
        clear hw hg
        refine hK _ _ (fun _ => HSX.out _ st2.bel) ?_
        clear hK K
        (first | simp only [Act.put, List.setIfInBounds_toArray, List.set_cons_zero, List.set_cons_succ] | skip)
        refine Hd.After.one (i := 3) (by kernel_rfl) rfl rfl ?_
        intro K hK
        refine wp_makeS _ _ rfl (some 9) rfl n rfl rfl hl0 ?_
        intro g w3 hg o0 hb
        have st3 := st2.addM hb o0
        clear hb hg
        refine hK _ _ (fun _ => HSX.out _ st3.bel) ?_
        clear hK K
        (first | simp only [Act.put, List.setIfInBounds_toArray, List.set_cons_zero, List.set_cons_succ] | skip)
        refine Hd.After.pureD (i := 7) (some 13) (.agg #[.slice (some ⟨g, 0, none⟩) n n, .slice b1 m d1]) rfl rfl (by kernel_rfl) (by decide) (by kernel_rfl) (by kernel_rfl) (fun _ _ _ h => h) (HSX.out _ st3.bel) (Or.inl ⟨by rfl, ?_⟩) ?_
        · intro X; go_simp; try with_reducible rfl
        (first | simp only [Act.put, List.setIfInBounds_toArray, List.set_cons_zero, List.set_cons_succ] | skip)
        have HCB : Hid (type_of% st3.toCb) := st3.toCb
        obtain ⟨hbl, ⟨q0, q1⟩, f0, f1⟩ := wr2 (st3.oA bo rfl).1
        refine Hd.After.one (i := 9) (by kernel_rfl) rfl rfl ?_
        intro K hK
        go_simp
        refine hK _ _ (fun h => by cases h) ?_
        clear hK K
        refine Hd.After.done (by kernel_rfl) ?_ _
        clear st st1 st2 st3 o0 o1 q0 q1 f0 f1 hbl hS
        go_wp2_with fail
        go_meet
        exact ⟨bo, g, b1, d1, rfl, HCB.out⟩
    · intro K hK
      go_simp
      obtain ⟨w1, bo, hw, hg, st1⟩ := st.newA 53
      rw [hw, hg]
      clear hw hg
      refine hK _ _ (fun _ => HSX.out _ st1.bel) ?_
      clear hK K
      (first | simp only [Act.put, List.setIfInBounds_toArray, List.set_cons_zero, List.set_cons_succ] | skip)
      refine Hd.After.two (i := 3) (j := 6) (by kernel_rfl) rfl rfl rfl rfl ?_ ?_
      · intro K hK
        refine wp_makeS _ _ rfl (some 9) rfl n rfl rfl hl0 ?_
        intro g w2 hg o0 hb
        have st2 := st1.addM hb o0
        clear hb hg
        refine hK _ _ (fun _ => HSX.out _ st2.bel) ?_
        clear hK K
        (first | simp only [Act.put, List.setIfInBounds_toArray, List.set_cons_zero, List.set_cons_succ] | skip)
        refine Hd.After.one (i := 6) (by kernel_rfl) rfl rfl ?_
        intro K hK
        go_simp
        rw [← HM.out]
        go_wp2_with (go_at_call 47; refine (cloneI _ _ _ t.vs (i1.below st2.bel) (by rw [HM.out]; exact hl1)).mono ?_; rintro e w3 ⟨b1, d1, rfl, o1, hb⟩; rw [HM.out] at o1 ⊢)
        have st3 := st2.addC hb o1
        clear hb
        refine hK _ _ (fun _ => HSX.out _ st3.bel) ?_
        clear hK K
        (first | simp only [Act.put, List.setIfInBounds_toArray, List.set_cons_zero, List.set_cons_succ] | skip)
        refine Hd.After.pureD (i := 7) (some 13) (.agg #[.slice (some ⟨g, 0, none⟩) n n, .slice b1 m d1]) rfl rfl (by kernel_rfl) (by decide) (by kernel_rfl) (by kernel_rfl) (fun _ _ _ h => h) (HSX.out _ st3.bel) (Or.inl ⟨by rfl, ?_⟩) ?_
        · intro X; go_simp; try with_reducible rfl
        (first | simp only [Act.put, List.setIfInBounds_toArray, List.set_cons_zero, List.set_cons_succ] | skip)
        have HCB : Hid (type_of% st3.toCb) := st3.toCb
        obtain ⟨hbl, ⟨q0, q1⟩, f0, f1⟩ := wr2 (st3.oA bo rfl).1
        refine Hd.After.one (i := 9) (by kernel_rfl) rfl rfl ?_
        intro K hK
        go_simp
        refine hK _ _ (fun h => by cases h) ?_
        clear hK K
        refine Hd.After.done (by kernel_rfl) ?_ _
        clear st st1 st2 st3 o0 o1 q0 q1 f0 f1 hbl hS
        go_wp2_with fail
        go_meet
        exact ⟨bo, g, b1, d1, rfl, HCB.out⟩
      · intro K hK
        go_simp
        rw [← HM.out]
        go_wp2_with (go_at_call 47; refine (cloneI _ _ _ t.vs (i1.below st1.bel) (by rw [HM.out]; exact hl1)).mono ?_; rintro e w2 ⟨b1, d1, rfl, o1, hb⟩; rw [HM.out] at o1 ⊢)
        have st2 := st1.addC hb o1
        clear hb
        refine hK _ _ (fun _ => HSX.out _ st2.bel) ?_
        clear hK K
        (first | simp only [Act.put, List.setIfInBounds_toArray, List.set_cons_zero, List.set_cons_succ] | skip)
        refine Hd.After.one (i := 3) (by kernel_rfl) rfl rfl ?_
        intro K hK
        refine wp_makeS _ _ rfl (some 9) rfl n rfl rfl hl0 ?_
        intro g w3 hg o0 hb
        have st3 := st2.addM hb o0
        clear hb hg
        refine hK _ _ (fun _ => HSX.out _ st3.bel) ?_
        clear hK K
        (first | simp only [Act.put, List.setIfInBounds_toArray, List.set_cons_zero, List.set_cons_succ] | skip)
        refine Hd.After.pureD (i := 7) (some 13) (.agg #[.slice (some ⟨g, 0, none⟩) n n, .slice b1 m d1]) rfl rfl (by kernel_rfl) (by decide) (by kernel_rfl) (by kernel_rfl) (fun _ _ _ h => h) (HSX.out _ st3.bel) (Or.inl ⟨by rfl, ?_⟩) ?_
        · intro X; go_simp; try with_reducible rfl
        (first | simp only [Act.put, List.setIfInBounds_toArray, List.set_cons_zero, List.set_cons_succ] | skip)
        have HCB : Hid (type_of% st3.toCb) := st3.toCb
        obtain ⟨hbl, ⟨q0, q1⟩, f0, f1⟩ := wr2 (st3.oA bo rfl).1
        refine Hd.After.one (i := 9) (by kernel_rfl) rfl rfl ?_
        intro K hK
        go_simp
        refine hK _ _ (fun h => by cases h) ?_
        clear hK K
        refine Hd.After.done (by kernel_rfl) ?_ _
        clear st st1 st2 st3 o0 o1 q0 q1 f0 f1 hbl hS
        go_wp2_with fail
        go_meet
        exact ⟨bo, g, b1, d1, rfl, HCB.out⟩
  case rest =>
    obtain ⟨bo, g, b1, d1, rfl, cb⟩ := hcut
    obtain ⟨x0, x1⟩ := HSX.out _ cb.bel
    go_wp2
    go_loopw [17] (fun i wr => ∃ (k : Nat) (l : List ByteArray), k ≤ n ∧ i = .int .i64 k ∧ l.length = n ∧ Ls.Like l t.ws k ∧ Cb W wr bo g n b1 m d1 l t.vs) (fun i _ => n - (intOf i).toNat)
    case atStart => exact ⟨0, List.replicate n ⟨#[]⟩, Nat.zero_le _, rfl, by simp, fun j hj => by omega, cb⟩
    case round =>
      clear cb x0 x1
      obtain ⟨k, l, hk, rfl, hll, hlike, cb⟩ := hrel
      have HLL : Hid (l.length = n) := hll
      have HLK : Hid (Ls.Like l t.ws k) := hlike
      clear hll hlike
      have nb := cb.n1
      have nb' : ¬ g = bo := fun e => nb e.symm
      by_cases hlt : k < n
      · have hlw : k < t.ws.length := by rw [HN.out]; exact hlt
        rcases i0.below cb.bel with e0 | ⟨xb, xo, rfl, hxb, hxc⟩
        · rw [e0] at hlw; simp at hlw
        have d := hxc k hlw
        have hzs := hz t.ws[k] (List.getElem_mem hlw)
        have HL : Hid (Ls.Like (l.set k t.ws[k]) t.ws (k + 1)) := Ls.like_set HLK.out hlw (by rw [HLL.out, HN.out])
        generalize t.ws[k] = s at d hzs HL
        obtain ⟨hbl, ⟨y0, y1⟩, _⟩ := wr2 cb.bx
        have HCB : Hid (type_of% cb) := cb
        have HBD : Hid (Below wr.heap.size wr wr.drew) := (Below.refl wr.heap.size wr).drew
        clear hxc hlw cb
        go_wp2_with fail
        go_region_held3 (fun w' => w'.cell? ⟨bo, 0, none⟩ = some (.slice (some ⟨g, 0, none⟩) n n)) (go_keep) (first
          | (go_at_call 48
             refine (Co.clone _ s (by omega)).mono ?_
             rintro e w5 ⟨rfl, hb⟩
             have HC5 : Hid (Cb W w5 bo g n b1 m d1 l t.vs) := HCB.out.below (HBD.out.trans hb)
             obtain ⟨_, ⟨z0, z1⟩, _⟩ := wr2 HC5.out.bx
             have hcl := HC5.out.ow.cell HLL.out k (by rw [HLL.out]; exact hlt)
             have hcf := HC5.out.ow.frozen HLL.out k
             have hgl := (HC5.out.ow.ge g rfl).2
             clear hb))
        have HC6 : Hid (Cb W (w5.setCell ⟨g, k, none⟩ (.string s)) bo g n b1 m d1 (l.set k s) t.vs) := HC5.out.set HLL.out k s
        have HL6 : Hid ((l.set k s).length = n) := by show _ = _; rw [List.length_set]; exact HLL.out
        clear y0 y1 z0 z1 hcl hcf hgl d
        go_wp2
        go_roundw
        case rel => exact ⟨k + 1, l.set k s, by omega, by go_num, HL6.out, HL.out, HC6.out⟩
        case measure => simp [intOf]; omega
      · have e := Ls.like_all (xs := t.ws) (ys := l) (by rw [HN.out, show n = k by omega]; exact HLK.out) (by rw [HN.out]; exact HLL.out)
        subst e
        obtain ⟨hbl, ⟨y0, y1⟩, _⟩ := wr2 cb.bx
        obtain ⟨hbr, ⟨q0, q1⟩, f0, f1⟩ := wr2 (HBR.out.below cb.bel)
        have HCB : Hid (type_of% cb) := cb
        have hz2 := HSZ.out
        clear cb
        go_wp2
        have cb := HCB.out
        have hge := cb.ge
        refine bodyPost_ret (v := .agg #[.slice (some ⟨g, 0, none⟩) n n, .slice b1 m d1]) (by rw [results_cell rfl]; go_simp) rfl ⟨_, _, _, _, rfl, ?_, ?_, ?_, ?_⟩
        · exact (ow_set (r := rs t.ws) (ow_set cb.ow (by omega)) (by omega)).mono (by omega)
        · exact (ow_set (r := ri t.vs) (ow_set cb.oi (by omega)) (by omega)).mono (by omega)
        · intro y ey; simp [Value.ownBlock] at ey; subst ey; exact cb.n3
        · exact ((HB.out.trans (cb.bel.mono HB.out.size)).setCell (by simp) _).setCell (by simp) _
end Go.Proofs.YtcadgeepknhmfaaGreat.Ct
/-
  One more table of words, or tree, put behind a list of them; what is cut off a model.
-/
namespace Go.Proofs.YtcadgeepknhmfaaGreat.Ct
set_option maxRecDepth 20000
open Go.RowKit
open Go.Proofs.YtcadgeepknhmfaaGreat.Tb (ownsRow_at)
open Go.Proofs.YtcadgeepknhmfaaGreat.Sv (Fr fr_below fr_grown Wr)
open Go.Proofs.YtcadgeepknhmfaaGreat.Kt (Kv OwK owk_snoc)
open Go.Proofs.YtcadgeepknhmfaaGreat.To (OwT owt_snoc)
open Go.Proofs.YtcadgeepknhmfaaGreat.Tm (OwnP)
open Go.Proofs.YtcadgeepknhmfaaGreat.Md (M mok OwM)
set_option linter.unusedVariables false
def cutn (m : M) (n : Int) : Nat := (max 0 (min n (m.ts.length : Int))).toNat
def zero : M := ⟨0, 0, 0, 0, [], []⟩
def mcut (m : M) (n : Int) : M := if mok m = true then ⟨m.n, m.c, m.prior, m.base, m.ks, m.ts.take (cutn m n)⟩ else zero
theorem mcut_no {m : M} (h : mok m = false) (n : Int) : mcut m n = zero := by unfold mcut; rw [if_neg (by rw [h]; simp)]
theorem mcut_yes {m : M} (h : mok m = true) (n : Int) : mcut m n = ⟨m.n, m.c, m.prior, m.base, m.ks, m.ts.take (cutn m n)⟩ := by unfold mcut; rw [if_pos h]
theorem info_ctr : (Tryz.prog.info? 53).map (fun i => (i.zero, i.size, i.bytes)) = some (some (.agg #[.slice none 0 0, .slice none 0 0]), 2, 48) := by kernel_rfl
theorem info_tree : (Tryz.prog.info? 57).map (fun i => (i.zero, i.size, i.bytes)) = some (some (.agg #[.slice none 0 0, .slice none 0 0]), 2, 48) := by kernel_rfl
theorem pair_cell {w : World} {E : Nat} {u0 u1 : Value} (e0 : w.cell? ⟨E, 0, none⟩ = some u0) (e1 : w.cell? ⟨E, 1, none⟩ = some u1) : ∀ j u, ([u0, u1] : List Value)[j]? = some u → w.cell? ((⟨E, 0, none⟩ : Addr).add j) = some u := by
  intro j u hj
  rw [Go.WideShapes.add_plain, Nat.zero_add]
  match j, hj with
  | 0, hj => simp at hj; subst hj; exact e0
  | 1, hj => simp at hj; subst hj; exact e1
theorem pair_one {a b : Option Addr} {n c m d : Nat} : ∀ u ∈ ([.slice a n c, .slice b m d] : List Value), u.oneCell' = true := by
  intro u hu
  simp at hu
  rcases hu with rfl | rfl <;> rfl
theorem wp_pushK {o : Oper} {a : Act} {w : World} {K : Act → World → Prop} {Q : Exit → Act → World → Prop} (s x : Operand) (ho : o.op = .call { callee := .builtin .append, args := #[s, x], argTypes := #[26, 26] }) (dt : Option Tmp) (hd : o.dst = dt)
    (B : Nat → Prop) (m : Nat) (v : Value) (ks : List Kv) (h : OwK w (fun y => B y ∧ y < m) v ks) (E : Nat) (b0 b1 : Option Addr) (d0 d1 n0 n1 : Nat) (t : Kv) (hs : a.eval s = v) (hx : a.eval x = .slice (some ⟨E, 0, none⟩) 1 1)
    (e0 : w.cell? ⟨E, 0, none⟩ = some (.slice b0 n0 d0)) (e1 : w.cell? ⟨E, 1, none⟩ = some (.slice b1 n1 d1)) (o0 : Ls.Own w m (.slice b0 n0 d0) t.ws) (o1 : Li.Own w m (.slice b1 n1 d1) t.vs) (h01 : ∀ k, (Value.slice b0 n0 d0).ownBlock = some k → (Value.slice b1 n1 d1).ownBlock ≠ some k)
    (hB : ∀ y, m ≤ y → B y) (hm : m ≤ w.heap.size) (hl : ks.length ≤ 1000) (L : Nat) (hL : ks.length + 1 = L)
    (hq : ∀ a5 c5 w5, OwK w5 B (.slice a5 L c5) (ks ++ [t]) → w.grownBy w5 v.ownBlock → K (a.put dt (.slice a5 L c5)) w5) : o.wp Tryz.prog a w K Q := by
  subst hd; subst hL
  obtain ⟨i0, hi, hz0, hz1, hz2⟩ := info_parts info_ctr
  obtain ⟨vs, hown, hvl, he, hv, hbb, hss⟩ := h
  obtain ⟨v', w', hr, h2, h3, hnil, h5⟩ := run_append_own_at (P := Tryz.prog) w 0 26 o.type 53 i0 (.agg #[.slice none 0 0, .slice none 0 0]) 2 48 Tryz.underlying26 hi hz0 hz1 hz2 rfl (by decide) v ks.length vs hown ⟨E, 0, none⟩ 1 1 [.slice b0 n0 d0, .slice b1 n1 d1] rfl (pair_cell e0 e1) pair_one (by unfold maxLen; omega) (by omega) (by omega)
  have hok := owk_snoc (B := B) (m := m) hvl he hv hbb hss o0 o1 h01 hB hm h2 h3 h5
  obtain ⟨a5, c5, e5, _⟩ := hok.isk
  rw [List.length_append] at e5
  subst e5
  unfold Oper.wp execOp
  simp only [ho, resolve, invoke, builtin, Sem.run_bind, Sem.run_pure, Result.andThen_ok, List.map_toArray, List.map_cons, List.map_nil, hs, hx, hr]
  exact hq a5 c5 w' hok h3
theorem wp_pushT {o : Oper} {a : Act} {w : World} {K : Act → World → Prop} {Q : Exit → Act → World → Prop} (s x : Operand) (ho : o.op = .call { callee := .builtin .append, args := #[s, x], argTypes := #[27, 27] }) (dt : Option Tmp) (hd : o.dst = dt)
    (B : Nat → Prop) (m : Nat) (v : Value) (ks : List Tr.T) (h : OwT w (fun y => B y ∧ y < m) v ks) (E : Nat) (b0 b1 : Option Addr) (d0 d1 n0 n1 : Nat) (t : Tr.T) (hs : a.eval s = v) (hx : a.eval x = .slice (some ⟨E, 0, none⟩) 1 1)
    (e0 : w.cell? ⟨E, 0, none⟩ = some (.slice b0 n0 d0)) (e1 : w.cell? ⟨E, 1, none⟩ = some (.slice b1 n1 d1)) (o0 : OwnP w m (.slice b0 n0 d0) t.sp) (o1 : Li.Own w m (.slice b1 n1 d1) t.lv) (h01 : ∀ k, (Value.slice b0 n0 d0).ownBlock = some k → (Value.slice b1 n1 d1).ownBlock ≠ some k)
    (hB : ∀ y, m ≤ y → B y) (hm : m ≤ w.heap.size) (hl : ks.length ≤ 1000) (L : Nat) (hL : ks.length + 1 = L)
    (hq : ∀ a5 c5 w5, OwT w5 B (.slice a5 L c5) (ks ++ [t]) → w.grownBy w5 v.ownBlock → K (a.put dt (.slice a5 L c5)) w5) : o.wp Tryz.prog a w K Q := by
  subst hd; subst hL
  obtain ⟨i0, hi, hz0, hz1, hz2⟩ := info_parts info_tree
  obtain ⟨vs, hown, hvl, he, hv, hbb, hss⟩ := h
  obtain ⟨v', w', hr, h2, h3, hnil, h5⟩ := run_append_own_at (P := Tryz.prog) w 0 27 o.type 57 i0 (.agg #[.slice none 0 0, .slice none 0 0]) 2 48 Tryz.underlying27 hi hz0 hz1 hz2 rfl (by decide) v ks.length vs hown ⟨E, 0, none⟩ 1 1 [.slice b0 n0 d0, .slice b1 n1 d1] rfl (pair_cell e0 e1) pair_one (by unfold maxLen; omega) (by omega) (by omega)
  have hok := owt_snoc (B := B) (m := m) hvl he hv hbb hss o0 o1 h01 hB hm h2 h3 h5
  obtain ⟨a5, c5, e5, _⟩ := hok.ist
  rw [List.length_append] at e5
  subst e5
  unfold Oper.wp execOp
  simp only [ho, resolve, invoke, builtin, Sem.run_bind, Sem.run_pure, Result.andThen_ok, List.map_toArray, List.map_cons, List.map_nil, hs, hx, hr]
  exact hq a5 c5 w' hok h3
def Fx (b2 m : Nat) : Nat → Prop := fun y => y = b2 ∨ m ≤ y
theorem fx_bel {b2 m : Nat} {w2 wr : World} {n : Nat} (h : Fr (Fx b2 m) w2 wr) (hb : n ≤ b2) (hm : n ≤ m) (hn : n ≤ w2.heap.size) : Below n w2 wr := h.bel (fun k e => by rcases e with e | e <;> omega) hn
theorem fx_grown {b2 m : Nat} {w w1 : World} {v : Value} (hg : w.grownBy w1 v.ownBlock) (hv : ∀ k, v.ownBlock = some k → m ≤ k) : Fr (Fx b2 m) w w1 :=
  ⟨hg.os, hg.tape, hg.output, hg.size, fun k hk hn => hg.block k hk (fun e => hn (.inr (hv k e.symm)))⟩
theorem fx_set {b2 m : Nat} (w : World) (o : Nat) (x : Value) : Fr (Fx b2 m) w (w.setCell ⟨b2, o, none⟩ x) := fr_grown (Li.grown_set w b2 o x) (.inl rfl)
theorem fx_below {b2 m : Nat} {w w1 : World} (h : Below w.heap.size w w1) : Fr (Fx b2 m) w w1 := fr_below h
theorem szT_take_le (ts : List Tr.T) (q : Nat) : Tm.szT (ts.take q) ≤ Tm.szT ts := by
  induction ts generalizing q with
  | nil => simp
  | cons t ts ih =>
    cases q with
    | zero => simp [Tm.szT]
    | succ q => simp only [List.take_succ_cons, Tm.szT]; have := ih q; omega
theorem mcut_sz (m : M) (n : Int) : (mcut m n).sz ≤ m.sz := by
  cases h : mok m with
  | false => rw [mcut_no h]; simp [zero, M.sz, Kt.ksz, Tm.szT]
  | true =>
    rw [mcut_yes h]
    unfold M.sz
    have h1 := szT_take_le m.ts (cutn m n)
    have h2 : (m.ts.take (cutn m n)).length ≤ m.ts.length := by rw [List.length_take]; omega
    show m.ks.length + Kt.ksz m.ks + ((m.ts.take (cutn m n)).length + Tm.szT (m.ts.take (cutn m n))) ≤ _
    omega
end Go.Proofs.YtcadgeepknhmfaaGreat.Ct
/-
  A model cut short is as good as it was.
-/
namespace Go.Proofs.YtcadgeepknhmfaaGreat.Ct
set_option maxRecDepth 20000
open Go.Proofs.YtcadgeepknhmfaaGreat.Md (M mok mok_parts)
open Go.Proofs.YtcadgeepknhmfaaGreat.Sw (allok)
theorem mok_take {m : M} (h : mok m = true) (q : Nat) : mok ⟨m.n, m.c, m.prior, m.base, m.ks, m.ts.take q⟩ = true := by
  obtain ⟨h1, h2, h3, h4, h5, h6, h7⟩ := mok_parts h
  unfold mok
  simp only [Bool.and_eq_true, decide_eq_true_eq]
  refine ⟨h1, h2, h3, by rw [List.length_take]; omega, h5, ?_, h7⟩
  unfold allok at h6 ⊢
  rw [List.all_eq_true] at h6 ⊢
  exact fun t ht => h6 t (List.mem_of_mem_take ht)
theorem mok_cut {m : M} (h : mok m = true) (n : Int) : mok (mcut m n) = true := by
  rw [mcut_yes h]; exact mok_take h _
end Go.Proofs.YtcadgeepknhmfaaGreat.Ct
/-
  What is told stage by stage is what is told with so many trees; at first the base, at last what is told.
-/
namespace Go.Proofs.YtcadgeepknhmfaaGreat.Md
set_option maxRecDepth 20000
open Go.Proofs.YtcadgeepknhmfaaGreat.Bo (fok)
open Go.Proofs.YtcadgeepknhmfaaGreat.Sw (sm sm_yes allok fd)
open Go.Proofs.YtcadgeepknhmfaaGreat.Tb (Row)
open Go.Proofs.YtcadgeepknhmfaaGreat.Ad (clip clip_id)
theorem fits_cut {m : M} {r : Row} (h : fits m r = true) (n : Int) : fits (Ct.mcut m n) r = true := by
  have h1 : mok m = true := by simp [fits] at h; exact h.1
  have h2 := Ct.mok_cut h1 n
  unfold fits at h ⊢
  rw [h1] at h
  rw [h2]
  rw [Ct.mcut_yes h1]
  exact h
theorem pred_cut {m : M} {r : Row} (h : fits m r = true) (k : Nat) (hk : k ≤ m.ts.length) : pred (Ct.mcut m k) r = sm (m.ts.take k) (pad (fl m r)) m.base := by
  have h1 : mok m = true := by simp [fits] at h; exact h.1
  rw [pred_yes (fits_cut h k), Ct.mcut_yes h1]
  have e : Ct.cutn m (k : Int) = k := by unfold Ct.cutn; omega
  rw [e]
  rfl
theorem stg_get {m : M} {r : Row} (h : fits m r = true) (k : Nat) (hk : k ≤ m.ts.length) : (stg m r).getD k 0 = sm (m.ts.take k) (pad (fl m r)) m.base := by
  rw [show stg m r = stgN m.ts (pad (fl m r)) m.base (m.ts.length + 1) by unfold stg; rw [if_pos h]]
  unfold stgN
  rw [List.getD_eq_getElem?_getD, List.getElem?_eq_getElem (by simp; omega)]
  simp
theorem stgl {m : M} {r : Row} (h : fits m r = true) : (stg m r).length = m.ts.length + 1 := by
  rw [show stg m r = stgN m.ts (pad (fl m r)) m.base (m.ts.length + 1) by unfold stg; rw [if_pos h], stgN_length]
theorem stg_last {m : M} {r : Row} (h : fits m r = true) : (stg m r).getD m.ts.length 0 = pred m r := by
  rw [stg_get h _ (Nat.le_refl _), List.take_length, pred_yes h]
theorem stg_first {m : M} {r : Row} (h : fits m r = true) : (stg m r).getD 0 0 = m.base := by
  have h1 : mok m = true := by simp [fits] at h; exact h.1
  rw [stg_get h 0 (Nat.zero_le _), List.take_zero, sm_yes rfl]
  have hb := (mok_parts h1).2.2.1
  show clip m.base = m.base
  unfold fok at hb
  simp at hb
  exact clip_id _ (by omega) (by omega)
theorem stg_cut {m : M} {r : Row} (h : fits m r = true) (k : Nat) (hk : k ≤ m.ts.length) : pred (Ct.mcut m k) r = (stg m r).getD k 0 := by
  rw [stg_get h k hk, pred_cut h k hk]
theorem stg_le (m : M) (r : Row) : (stg m r).length ≤ 13 := by
  cases h : fits m r with
  | false => rw [stg_no h]; simp
  | true =>
    have h1 : mok m = true := by simp [fits] at h; exact h.1
    have := (mok_parts h1).2.2.2.1
    rw [stgl h]; omega
end Go.Proofs.YtcadgeepknhmfaaGreat.Md
/-
  The stages that the program hands out, one more tree each time: a range over a function.
-/
namespace Go.Proofs.YtcadgeepknhmfaaGreat.Md
set_option maxRecDepth 100000
open Go.RowKit Go.Shelf
open Go.Proofs.YtcadgeepknhmfaaGreat.Li (ret_bool ret_int btw below_none iv)
open Go.Proofs.YtcadgeepknhmfaaGreat.Tb (lets Row RowIs)
open Go.Proofs.YtcadgeepknhmfaaGreat.Tm (IsT szT)
open Go.Proofs.YtcadgeepknhmfaaGreat.Sv (new1 new2 Wr wr2 wr1)
open Go.Proofs.YtcadgeepknhmfaaGreat.Sw (sm)
set_option linter.unusedVariables false
attribute [local go_sem] Oper.semAt_some
theorem grown_bel {w w1 : World} (h : Below w.heap.size w w1) : w.grownBy w1 none := ⟨h.os, h.tape, h.output, h.size, fun k hk _ => h.block k hk⟩
set_option maxHeartbeats 4000000 in
theorem stages1_in (n : Nat) (hn : 2 ≤ n) (l Bm Bf n₀ B : Nat) (ak ax : Option Addr) (ck ct : Nat) (m : M) (af : Option Addr) (L cf : Nat) (f : List Int) (hL : f.length = L) (hl : m.sz ≤ 1048576) (ht : m.ts.length ≤ 12) (hL6 : L ≤ 6) (J Jx : List Int → World → Prop) (W : World) (hJ : AbidesFrom W.heap.size J)
    (hY : ∀ pre x W1, J pre W1 → pre.length < m.ts.length + 1 → YieldAt Fence.wide (n - 1) Tryz.prog l #[.int .i64 x] W1 fun e W' =>
      (e = .returned (.bool true) ∧ J (pre ++ [x]) W' ∧ Sv.Fr (fun q => q = B ∨ n₀ ≤ q) W1 W') ∨ (e = .returned (.bool false) ∧ Jx (pre ++ [x]) W'))
    (hn₀ : n₀ ≤ W.heap.size) (hm : Wr W Bm 0 [.int .i64 m.n, .int .i64 m.c, .int .i64 m.prior, .int .i64 m.base, .slice ak m.ks.length ck, .slice ax m.ts.length ct]) (hBm : Bm < n₀ ∧ ¬ Bm = B) (hf : Wr W Bf 0 [.slice af L cf]) (hBf : Bf < n₀ ∧ ¬ Bf = B) (hax : ∀ W', Sv.Fr (fun q => q = B ∨ n₀ ≤ q) W W' → IsT W' ax m.ts ∧ Li.IsL W' af f) (hcap : m.ts.length ≤ ct) (h0 : J [] W) :
    CallsIn Fence.wide n Tryz.prog 32 #[.func (.yield l) #[] #[], .pointer (some ⟨Bm, 0, none⟩), .pointer (some ⟨Bf, 0, none⟩)] W fun e W' => (∃ v, e = .returned v) ∧
      ((∃ ys, ys = stgN m.ts f m.base (m.ts.length + 1) ∧ J ys W') ∨ (∃ pre, True ∧ Jx pre W')) := by
  refine callsIn_of_wp Tryz.func32 rfl trivial ?_ rfl
  simp only [Tryz.ntmps32, List.size_toArray, List.length_cons, List.length_nil, Nat.reduceAdd, Nat.reduceSub, Array.replicate_succ, Array.replicate_zero, List.push_toArray, List.append_toArray, List.nil_append, List.cons_append]
  obtain ⟨hbl, ⟨x0, x1, x2, x3, x4, x5⟩, _⟩ := wr6 hm
  have htt : (m.ts.length : Int) + 1 ≤ 13 := by omega
  gi_wp2
  gi_loopw [9] (fun i wr => ∃ k : Nat, k ≤ m.ts.length + 1 ∧ i = .int .i64 k ∧ J (stgN m.ts f m.base k) wr ∧ Sv.Fr (fun q => q = B ∨ n₀ ≤ q) W wr) (fun i _ => m.ts.length + 1 - (intOf i).toNat)
  case atStart => exact ⟨0, Nat.zero_le _, rfl, h0, Sv.Fr.refl _ _⟩
  case round =>
    obtain ⟨k, hk, rfl, hJs, hB⟩ := hrel
    clear x0 x1 x2 x3 x4 x5
    by_cases hlt : k < m.ts.length + 1
    · have hmr := hm.keptAt hB.size (hB.block Bm hm.1 (by omega))
      have hfr := hf.keptAt hB.size (hB.block Bf hf.1 (by omega))
      have hx3 := (wr6 hmr).2.1.2.2.2.1
      have hx5 := (wr6 hmr).2.1.2.2.2.2.2
      have hxf := (wr1 hfr).2.1
      obtain ⟨it, ifl⟩ := hax wr hB
      have HIT : Hid (IsT wr ax (m.ts.take k)) := ist_take it k
      have HIF : Hid (Li.IsL wr af f) := ifl
      have HTL : Hid ((m.ts.take k).length = k) := by show _ = _; simp; omega
      have HSZ : Hid ((m.ts.take k).length + szT (m.ts.take k) ≤ 1048576) := by show _ ≤ _; have := szT_pre m.ts k; have := sz_ts hl; omega
      have HLL : Hid (f.length = L) := hL
      have HSN : Hid (stgN m.ts f m.base (k + 1) = stgN m.ts f m.base k ++ [sm (m.ts.take k) f m.base]) := stgN_snoc _ _ _ _
      have HNL : Hid ((stgN m.ts f m.base k).length < m.ts.length + 1) := by show _ < _; rw [stgN_length]; exact hlt
      have hkc : (k : Int) ≤ (ct : Int) := by omega
      have hkl : (k : Int) < (m.ts.length : Int) + 1 := by omega
      obtain ⟨x, hx'⟩ : ∃ x, sm (m.ts.take k) f m.base = x := ⟨_, rfl⟩
      have HX : Hid (sm (m.ts.take k) f m.base = x) := hx'
      rw [hx'] at HSN
      have HJS : Hid (type_of% hJs) := hJs
      have HB : Hid (type_of% hB) := hB
      have HJ : Hid (type_of% hJ) := hJ
      have HY : Hid (type_of% hY) := hY
      have HBD : Hid (Below wr.heap.size wr wr.drew) := (Below.refl wr.heap.size wr).drew
      clear hL it ifl hx' hJs hB hJ hY hax hm hf hmr hfr
      gi_wp2
      gi_region_with (first
        | (refine ⟨trivial, fun _ => (by omega), ?_⟩
           gi_at_call 21
           have hcall := Sw.isum wr.drew ax af ct cf (m.ts.take k) f m.base (HIT.out.below HBD.out) (HIF.out.below HBD.out) HSZ.out (by have := HLL.out; omega)
           rw [HTL.out, HLL.out, HX.out] at hcall
           refine (callsIn_wide.2 hcall).mono ?_
           rintro e w5 ⟨rfl, hb⟩
           have HB5 : Hid (Below wr.heap.size wr w5) := HBD.out.trans hb
           obtain ⟨fn, tmps, assign, body, hy, hR0⟩ := HY.out _ x w5 (HJ.out _ wr w5 none HJS.out (grown_bel HB5.out) (fun r e => (by cases e))) HNL.out
           have HR : Hid (RoundIn Fence.wide (n - 1) Tryz.prog l fn tmps assign body w5 (fun e W' => ∃ q : Bool, e = .returned (.bool q) ∧ (q = true → J (stgN m.ts f m.base (k + 1)) W' ∧ Sv.Fr (fun q => q = B ∨ n₀ ≤ q) w5 W') ∧ (q = false → ∃ pre, Jx pre W'))) := hR0.mono (fun e W' hh => by
             rcases hh with ⟨rfl, h1, h2⟩ | ⟨rfl, h1⟩
             · exact ⟨true, rfl, fun _ => ⟨by rw [HSN.out]; exact h1, h2⟩, fun e => (by cases e)⟩
             · exact ⟨false, rfl, fun e => (by cases e), fun _ => ⟨_, h1⟩⟩)
           clear hb hcall hR0)
        | (refine ⟨fun _ => (by omega), HR.out.mono ?_⟩
           rintro e W3 ⟨q, rfl, hq1, hq2⟩
           have HQ1 : Hid (type_of% hq1) := hq1
           have HQ2 : Hid (type_of% hq2) := hq2
           clear hq1 hq2))
      all_goals
        cases q
        · obtain ⟨pre, hpre⟩ := HQ2.out rfl
          have HP : Hid (Jx pre W3) := hpre
          clear hpre
          gi_wp2
          refine bodyPost_ret (results_none rfl _ _ _) rfl ?_
          exact ⟨⟨_, rfl⟩, .inr ⟨pre, HP.out⟩⟩
        · obtain ⟨hj3, hk3⟩ := HQ1.out rfl
          have HJ3 : Hid (type_of% hj3) := hj3
          have HK3 : Hid (Sv.Fr (fun q => q = B ∨ n₀ ≤ q) W W3) := HB.out.trans ((Sv.fr_below HB5.out).trans hk3)
          clear hj3 hk3
          gi_wp2
          go_roundw
          case rel => exact ⟨k + 1, by omega, by simp, HJ3.out, HK3.out⟩
          case measure => simp [intOf]; omega
    · obtain rfl : k = m.ts.length + 1 := by omega
      have hkl : ¬ ((m.ts.length + 1 : Nat) : Int) < (m.ts.length : Int) + 1 := by omega
      gi_wp2
      go_end0
      exact ⟨⟨_, rfl⟩, .inl hJs⟩
set_option maxHeartbeats 1000000 in
theorem stages_in (n : Nat) (ak ax : Option Addr) (ck ct : Nat) (m : M) (af : Option Addr) (L cf : Nat) (w : World) :
    CallsIn Fence.wide n Tryz.prog 18 #[.agg #[.int .i64 m.n, .int .i64 m.c, .int .i64 m.prior, .int .i64 m.base, .slice ak m.ks.length ck, .slice ax m.ts.length ct], .slice af L cf] w fun e w' => e = .returned (.func (.func 32) #[] #[.pointer (some ⟨w.heap.size, 0, none⟩), .pointer (some ⟨w.heap.size + 1, 0, none⟩)]) ∧ w' = (w.alloc (.cells #[.int .i64 m.n, .int .i64 m.c, .int .i64 m.prior, .int .i64 m.base, .slice ak m.ks.length ck, .slice ax m.ts.length ct] 29)).alloc (.cells #[.slice af L cf] 30) := by
  refine callsIn_of_wp Tryz.func18 rfl trivial ?_ rfl
  simp only [Tryz.ntmps18, List.size_toArray, List.length_cons, List.length_nil, Nat.reduceAdd, Nat.reduceSub, Array.replicate_succ, Array.replicate_zero, List.push_toArray, List.append_toArray, List.nil_append, List.cons_append]
  gi_wp2
  go_ret
  exact ⟨rfl, rfl⟩
theorem stages_stops (n : Nat) (hn : 2 ≤ n) (Bm Bf n₀ B : Nat) (ak ax : Option Addr) (ck ct : Nat) (m : M) (af : Option Addr) (L cf : Nat) (f : List Int) (hL : f.length = L) (hl : m.sz ≤ 1048576) (ht : m.ts.length ≤ 12) (hL6 : L ≤ 6) (w : World) (hn₀ : n₀ ≤ w.heap.size) (hm : Wr w Bm 0 [.int .i64 m.n, .int .i64 m.c, .int .i64 m.prior, .int .i64 m.base, .slice ak m.ks.length ck, .slice ax m.ts.length ct]) (hBm : Bm < n₀ ∧ ¬ Bm = B) (hf : Wr w Bf 0 [.slice af L cf]) (hBf : Bf < n₀ ∧ ¬ Bf = B) (hax : ∀ W', Sv.Fr (fun q => q = B ∨ n₀ ≤ q) w W' → IsT W' ax m.ts ∧ Li.IsL W' af f) (hcap : m.ts.length ≤ ct) :
    SeqStopsK Fence.wide n Tryz.prog 32 #[.pointer (some ⟨Bm, 0, none⟩), .pointer (some ⟨Bf, 0, none⟩)] (fun x : Int => #[Value.int .i64 x]) (Sv.Fr (fun q => q = B ∨ n₀ ≤ q)) (fun ys => ys = stgN m.ts f m.base (m.ts.length + 1)) (fun _ => True) (m.ts.length + 1) w := fun l J Jx W hW hJ hJx hY h0 => by
  have hWn : Sv.Fr (fun q => q = B ∨ n₀ ≤ q) w W := Sv.fr_below hW
  exact stages1_in n hn l Bm Bf n₀ B ak ax ck ct m af L cf f hL hl ht hL6 J Jx W hJ hY (Nat.le_trans hn₀ hW.size) (hm.below hW) hBm (hf.below hW) hBf (fun W' hb => hax W' (hWn.trans hb)) hcap h0
end Go.Proofs.YtcadgeepknhmfaaGreat.Md
