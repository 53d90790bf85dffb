/-
  Contracts that the proof leans on, put together in the order in which they build.
-/
import Derived.Test.YtcadgeepknhmfaaPart27
import Derived.Test.YtcadgeepknhmfaaPart12
import Derived.Test.YtcadgeepknhmfaaPart14
import Derived.Deep.Cut
import Derived.Test.YtcadgeepknhmfaaPart26
/-
  Copies of a tree and of a table of words, of both.
-/
namespace Go.Proofs.Ytcadgeepknhmfaa.Ct
set_option maxRecDepth 20000
open Go.RowKit
open Go.Proofs.Ytcadgeepknhmfaa.Tm (IsP OwnP pv)
open Go.Proofs.Ytcadgeepknhmfaa.Li (IsL iv below_none)
open Go.Proofs.Ytcadgeepknhmfaa.Sv (Wr wr2 new1 new2 Fr fr_grown)
open Go.Proofs.Ytcadgeepknhmfaa.Kt (Kv)
open Go.Proofs.Ytcadgeepknhmfaa.Tb (results_cell)
set_option linter.unusedVariables false
/-- What is left of a region that has made both lists: their values, owned and apart. -/
theorem Tp.fin {W wx : World} {u v : Value} {r s : Rw} {A : Option Nat} (h : Tp W wx (some (u, r)) (some (v, s)) A) : Ow wx W.heap.size u r ∧ Ow wx W.heap.size v s ∧ (∀ k, u.ownBlock = some k → v.ownBlock ≠ some k) := ⟨h.oM _ _ rfl, h.oC _ _ rfl, h.mc _ _ _ _ rfl rfl⟩
theorem ow_set {w : World} {base b o : Nat} {v x : Value} {r : Rw} (h : Ow w base v r) (hb : b < base) : Ow (w.setCell ⟨b, o, none⟩ x) base v r := Tb.ownsRow_at h (fun k e => (Li.grown_set w b o x).block k (h.lt k e).2 (fun e2 => by cases e2; have := (h.lt b e).1; omega))
theorem ow_put {w : World} {base b o : Nat} {v x : Value} {r : Rw} (h : Ow w base v r) (hb : v.ownBlock ≠ some b) : Ow (w.setCell ⟨b, o, none⟩ x) base v r := Tb.ownsRow_at h (fun k e => (Li.grown_set w b o x).block k (h.lt k e).2 (fun e2 => by cases e2; exact hb e))

set_option maxHeartbeats 4000000 in
theorem icopyT (w : World) (a0 a1 : Option Addr) (c0 c1 : Nat) (t : Tr.T) (h0 : IsP w a0 t.sp) (h1 : IsL w a1 t.lv) (hl : t.sp.length + t.lv.length ≤ 1048576) :
    Calls Try.prog 23 #[.agg #[.slice a0 t.sp.length c0, .slice a1 t.lv.length c1]] w fun e w' => ∃ b0 d0 b1 d1, e = .returned (.agg #[.slice b0 t.sp.length d0, .slice b1 t.lv.length d1]) ∧ OwnP w' w.heap.size (.slice b0 t.sp.length d0) t.sp ∧ Li.Own w' w.heap.size (.slice b1 t.lv.length d1) t.lv ∧ (∀ k, (Value.slice b0 t.sp.length d0).ownBlock = some k → (Value.slice b1 t.lv.length d1).ownBlock ≠ some k) ∧ Below w.heap.size w w' := by
  have hl0 : t.sp.length ≤ 1048576 := by omega
  have hl1 : t.lv.length ≤ 1048576 := by omega
  clear hl
  go_enter Try.func23, Try.ntmps23
  go_wp2_with fail
  obtain ⟨W, hW, hsz, hB, bx, br⟩ := new2 w [.slice a0 t.sp.length c0, .slice a1 t.lv.length c1] [.slice none 0 0, .slice none 0 0] 38 38
  rw [hW]
  clear hW
  have i0 := h0.below hB
  have i1 := h1.below hB
  have HSX : Hid (∀ X : World, Below W.heap.size W X → X.cell? ⟨w.heap.size, 0, none⟩ = some (.slice a0 t.sp.length c0) ∧ X.cell? ⟨w.heap.size, 1, none⟩ = some (.slice a1 t.lv.length c1)) := fun X hX => (wr2 (bx.below hX)).2.1
  have HBR : Hid (Wr W (w.heap.size + 1) 0 [.slice none 0 0, .slice none 0 0]) := br
  have HB : Hid (Below w.heap.size w W) := hB
  have HSZ : Hid (W.heap.size = w.heap.size + 2) := hsz
  have st := Tp.init W
  have hS := HSX.out _ st.bel
  clear bx br hB hsz h0 h1
  refine Hd.start (fun X => X.cell? ⟨w.heap.size, 0, none⟩ = some (.slice a0 t.sp.length c0) ∧ X.cell? ⟨w.heap.size, 1, none⟩ = some (.slice a1 t.lv.length c1)) 7 (by kernel_rfl) ?_
  generalize W.drew = w0 at st hS ⊢
  refine Hd.After.pureD (i := 0) (some 3) (.pointer (some ⟨w.heap.size, 0, none⟩)) rfl rfl (by kernel_rfl) (by decide) (by kernel_rfl) (by kernel_rfl) (fun _ _ _ h => h) (hS) (Or.inl ⟨by rfl, ?_⟩) ?_
  · intro X; go_simp; try with_reducible rfl
  (first | simp only [Act.put, List.setIfInBounds_toArray, List.set_cons_zero, List.set_cons_succ] | skip)
  refine Hd.After.takeD (i := 1) (some 4) (.slice a0 t.sp.length c0) rfl rfl (by kernel_rfl) (by kernel_rfl) (by kernel_rfl) (by kernel_rfl) (by kernel_rfl) (fun _ _ _ h => h) (hS) (Or.inl ⟨by rfl, ?_⟩) ?_
  · rintro X ⟨s0, s1⟩; go_simp; try with_reducible rfl
  (first | simp only [Act.put, List.setIfInBounds_toArray, List.set_cons_zero, List.set_cons_succ] | skip)
  refine Hd.After.pureD (i := 3) (some 6) (.pointer (some ⟨w.heap.size, 1, none⟩)) rfl rfl (by kernel_rfl) (by decide) (by kernel_rfl) (by kernel_rfl) (fun _ _ _ h => h) (hS) (Or.inl ⟨by rfl, ?_⟩) ?_
  · intro X; go_simp; try with_reducible rfl
  (first | simp only [Act.put, List.setIfInBounds_toArray, List.set_cons_zero, List.set_cons_succ] | skip)
  refine Hd.After.takeD (i := 4) (some 7) (.slice a1 t.lv.length c1) rfl rfl (by kernel_rfl) (by kernel_rfl) (by kernel_rfl) (by kernel_rfl) (by kernel_rfl) (fun _ _ _ h => h) (hS) (Or.inl ⟨by rfl, ?_⟩) ?_
  · rintro X ⟨s0, s1⟩; go_simp; try with_reducible rfl
  (first | simp only [Act.put, List.setIfInBounds_toArray, List.set_cons_zero, List.set_cons_succ] | skip)
  refine Hd.After.one (i := 2) (by kernel_rfl) rfl rfl ?_
  intro K hK
  go_simp
  go_wp2_with (go_at_call 37; refine (cloneP _ _ _ t.sp (i0.below st.bel) hl0).mono ?_; rintro e w1 ⟨b0, d0, rfl, o0, hb⟩)
  have st1 := st.addM hb o0
  clear hb
  refine hK _ _ (fun _ => HSX.out _ st1.bel) ?_
  clear hK K
  (first | simp only [Act.put, List.setIfInBounds_toArray, List.set_cons_zero, List.set_cons_succ] | skip)
  refine Hd.After.one (i := 5) (by kernel_rfl) rfl rfl ?_
  intro K hK
  go_simp
  go_wp2_with (go_at_call 35; refine (cloneI _ _ _ t.lv (i1.below st1.bel) hl1).mono ?_; rintro e w2 ⟨b1, d1, rfl, o1, hb⟩)
  have st2 := st1.addC hb o1
  clear hb
  refine hK _ _ (fun _ => HSX.out _ st2.bel) ?_
  clear hK K
  (first | simp only [Act.put, List.setIfInBounds_toArray, List.set_cons_zero, List.set_cons_succ] | skip)
  refine Hd.After.pureD (i := 6) (some 9) (.agg #[.slice b0 t.sp.length d0, .slice b1 t.lv.length d1]) rfl rfl (by kernel_rfl) (by decide) (by kernel_rfl) (by kernel_rfl) (fun _ _ _ h => h) (HSX.out _ st2.bel) (Or.inl ⟨by rfl, ?_⟩) ?_
  · intro X; go_simp; try with_reducible rfl
  (first | simp only [Act.put, List.setIfInBounds_toArray, List.set_cons_zero, List.set_cons_succ] | skip)
  have hN : w.heap.size + 1 < w2.heap.size := by have := st2.bel.size; have := HSZ.out; omega
  obtain ⟨_, ⟨q0, q1⟩, f0, f1⟩ := wr2 (HBR.out.below st2.bel)
  refine Hd.After.one (i := 7) (by kernel_rfl) rfl rfl ?_
  intro K hK
  go_simp
  refine hK _ _ (fun h => by cases h) ?_
  clear hK K
  refine Hd.After.done (by kernel_rfl) ?_ _
  obtain ⟨p0, p1, p2⟩ := st2.fin
  have hBe := HB.out.trans (st2.bel.mono HB.out.size)
  have hz := HSZ.out
  clear st st1 st2 o0 o1 HSX HBR HSZ hS i0 i1
  go_wp2
  refine bodyPost_ret (v := .agg #[.slice b0 t.sp.length d0, .slice b1 t.lv.length d1]) (by rw [results_cell rfl]; go_simp) rfl ⟨_, _, _, _, rfl, ?_, ?_, p2, ?_⟩
  · exact (ow_set (ow_set p0 (by omega)) (by omega)).mono (by omega)
  · exact (ow_set (ow_set p1 (by omega)) (by omega)).mono (by omega)
  · exact (hBe.setCell (by simp) _).setCell (by simp) _
/-- A copied table of words: its variable, its words up to now, its numbers. -/
structure Cb (W wx : World) (bo g n : Nat) (b1 : Option Addr) (m d1 : Nat) (l : List ByteArray) (vs : List Int) : Prop where
  bx : Wr wx bo 0 [.slice (some ⟨g, 0, none⟩) n n, .slice b1 m d1]
  ow : Ls.Own wx W.heap.size (.slice (some ⟨g, 0, none⟩) n n) l
  oi : Li.Own wx W.heap.size (.slice b1 m d1) vs
  n1 : ¬ bo = g
  n2 : (Value.slice b1 m d1).ownBlock ≠ some bo
  n3 : (Value.slice b1 m d1).ownBlock ≠ some g
  bel : Below W.heap.size W wx
  ge : W.heap.size ≤ bo
theorem Tp.toCb {W wx : World} {g n bo m d1 : Nat} {b1 : Option Addr} {vs : List Int} (h : Tp W wx (some (.slice (some ⟨g, 0, none⟩) n n, rs (List.replicate n ⟨#[]⟩))) (some (.slice b1 m d1, ri vs)) (some bo)) :
    Cb W ((wx.setCell ⟨bo, 0, none⟩ (.slice (some ⟨g, 0, none⟩) n n)).setCell ⟨bo, 1, none⟩ (.slice b1 m d1)) bo g n b1 m d1 (List.replicate n ⟨#[]⟩) vs := by
  obtain ⟨oA, geA⟩ := h.oA bo rfl
  have ha := h.ma _ _ _ rfl rfl
  have hc := h.ca _ _ _ rfl rfl
  have hm := h.mc _ _ _ _ rfl rfl g rfl
  refine ⟨?_, ow_put (ow_put (h.oM _ _ rfl) ha) ha, ow_put (ow_put (h.oC _ _ rfl) hc) hc, fun e => ha (by rw [e]; rfl), hc, hm, (h.bel.setCell (by exact geA) _).setCell (by exact geA) _, geA⟩
  have h1 := (oA.set 0 (by simp [pair0]) (.slice (some ⟨g, 0, none⟩) n n)).set 1 (by simp [pair0]) (.slice b1 m d1)
  exact h1
theorem Cb.below {W wx w1 : World} {bo g n m d1 : Nat} {b1 : Option Addr} {l : List ByteArray} {vs : List Int} (h : Cb W wx bo g n b1 m d1 l vs) (hb : Below wx.heap.size wx w1) : Cb W w1 bo g n b1 m d1 l vs :=
  ⟨h.bx.below hb, h.ow.below hb, h.oi.below hb, h.n1, h.n2, h.n3, h.bel.trans (hb.mono h.bel.size), h.ge⟩
theorem Cb.set {W wx : World} {bo g n m d1 : Nat} {b1 : Option Addr} {l : List ByteArray} {vs : List Int} (h : Cb W wx bo g n b1 m d1 l vs) (hn : l.length = n) (j : Nat) (x : ByteArray) : Cb W (wx.setCell ⟨g, j, none⟩ (.string x)) bo g n b1 m d1 (l.set j x) vs := by
  have hg := (h.ow.ge g rfl).1
  exact ⟨h.bx.setOther h.n1, h.ow.set hn j x, ow_put (r := ri vs) h.oi h.n3, h.n1, h.n2, h.n3, h.bel.setCell (by exact hg) _, h.ge⟩

set_option maxHeartbeats 4000000 in
theorem icopyK (w : World) (a0 a1 : Option Addr) (c0 c1 : Nat) (t : Kv) (h0 : Ls.IsS w a0 t.ws) (h1 : IsL w a1 t.vs) (hl : t.ws.length + t.vs.length ≤ 1048576) (hz : ∀ s ∈ t.ws, s.size ≤ 1048576) :
    Calls Try.prog 22 #[.agg #[.slice a0 t.ws.length c0, .slice a1 t.vs.length c1]] w fun e w' => ∃ b0 d0 b1 d1, e = .returned (.agg #[.slice b0 t.ws.length d0, .slice b1 t.vs.length d1]) ∧ Ls.Own w' w.heap.size (.slice b0 t.ws.length d0) t.ws ∧ Li.Own w' w.heap.size (.slice b1 t.vs.length d1) t.vs ∧ (∀ k, (Value.slice b0 t.ws.length d0).ownBlock = some k → (Value.slice b1 t.vs.length d1).ownBlock ≠ some k) ∧ Below w.heap.size w w' := by
  have hl0 : t.ws.length ≤ 1048576 := by omega
  have hl1 : t.vs.length ≤ 1048576 := by omega
  clear hl
  obtain ⟨n, hn⟩ : ∃ n, t.ws.length = n := ⟨_, rfl⟩
  obtain ⟨m, hm⟩ : ∃ n, t.vs.length = n := ⟨_, rfl⟩
  have HN : Hid (t.ws.length = n) := hn
  have HM : Hid (t.vs.length = m) := hm
  rw [hn] at hl0 ⊢
  rw [hm] at hl1 ⊢
  clear hn hm
  go_enter Try.func22, Try.ntmps22
  go_upto_region 1 with fail
  obtain ⟨W, hW, hsz, hB, bx, br⟩ := new2 w [.slice a0 n c0, .slice a1 m c1] [.slice none 0 0, .slice none 0 0] 54 54
  rw [hW]
  clear hW
  have i0 := h0.below hB
  have i1 := h1.below hB
  have HSX : Hid (∀ X : World, Below W.heap.size W X → X.cell? ⟨w.heap.size, 0, none⟩ = some (.slice a0 n c0) ∧ X.cell? ⟨w.heap.size, 1, none⟩ = some (.slice a1 m c1)) := fun X hX => (wr2 (bx.below hX)).2.1
  have HBR : Hid (Wr W (w.heap.size + 1) 0 [.slice none 0 0, .slice none 0 0]) := br
  have HB : Hid (Below w.heap.size w W) := hB
  have HSZ : Hid (W.heap.size = w.heap.size + 2) := hsz
  clear bx br hB hsz h0 h1
  go_cut [3] from 6 (fun p wx => ∃ bo g b1 d1, p = .pointer (some ⟨bo, 0, none⟩) ∧ Cb W wx bo g n b1 m d1 (List.replicate n ⟨#[]⟩) t.vs)
  case first =>
    have st := Tp.init W
    have hS := HSX.out _ st.bel
    refine Hd.start (fun X => X.cell? ⟨w.heap.size, 0, none⟩ = some (.slice a0 n c0) ∧ X.cell? ⟨w.heap.size, 1, none⟩ = some (.slice a1 m c1)) 9 (by kernel_rfl) ?_
    generalize W.drew = w0 at st hS ⊢
    refine Hd.After.pureD (i := 0) (some 6) (.pointer (some ⟨w.heap.size, 0, none⟩)) rfl rfl (by kernel_rfl) (by decide) (by kernel_rfl) (by kernel_rfl) (fun _ _ _ h => h) (hS) (Or.inl ⟨by rfl, ?_⟩) ?_
    · intro X; go_simp; try with_reducible rfl
    (first | simp only [Act.put, List.setIfInBounds_toArray, List.set_cons_zero, List.set_cons_succ] | skip)
    refine Hd.After.takeD (i := 1) (some 7) (.slice a0 n c0) rfl rfl (by kernel_rfl) (by kernel_rfl) (by kernel_rfl) (by kernel_rfl) (by kernel_rfl) (fun _ _ _ h => h) (hS) (Or.inl ⟨by rfl, ?_⟩) ?_
    · rintro X ⟨s0, s1⟩; go_simp; try with_reducible rfl
    (first | simp only [Act.put, List.setIfInBounds_toArray, List.set_cons_zero, List.set_cons_succ] | skip)
    refine Hd.After.pureD (i := 2) (some 8) (.int .i64 (n : Int)) rfl rfl (by kernel_rfl) (by decide) (by kernel_rfl) (by kernel_rfl) (fun _ _ _ h => h) (hS) (Or.inl ⟨by rfl, ?_⟩) ?_
    · intro X; go_simp; try with_reducible rfl
    (first | simp only [Act.put, List.setIfInBounds_toArray, List.set_cons_zero, List.set_cons_succ] | skip)
    refine Hd.After.pureD (i := 4) (some 10) (.pointer (some ⟨w.heap.size, 1, none⟩)) rfl rfl (by kernel_rfl) (by decide) (by kernel_rfl) (by kernel_rfl) (fun _ _ _ h => h) (hS) (Or.inl ⟨by rfl, ?_⟩) ?_
    · intro X; go_simp; try with_reducible rfl
    (first | simp only [Act.put, List.setIfInBounds_toArray, List.set_cons_zero, List.set_cons_succ] | skip)
    refine Hd.After.takeD (i := 5) (some 11) (.slice a1 m c1) rfl rfl (by kernel_rfl) (by kernel_rfl) (by kernel_rfl) (by kernel_rfl) (by kernel_rfl) (fun _ _ _ h => h) (hS) (Or.inl ⟨by rfl, ?_⟩) ?_
    · rintro X ⟨s0, s1⟩; go_simp; try with_reducible rfl
    (first | simp only [Act.put, List.setIfInBounds_toArray, List.set_cons_zero, List.set_cons_succ] | skip)
    refine Hd.After.three (i := 3) (j := 6) (k := 8) (by kernel_rfl) rfl rfl rfl rfl rfl rfl ?_ ?_ ?_
    · intro K hK
      refine wp_makeS _ _ rfl (some 9) rfl n rfl rfl hl0 ?_
      intro g w1 hg o0 hb
      have st1 := st.addM hb o0
      clear hb hg
      refine hK _ _ (fun _ => HSX.out _ st1.bel) ?_
      clear hK K
      (first | simp only [Act.put, List.setIfInBounds_toArray, List.set_cons_zero, List.set_cons_succ] | skip)
      refine Hd.After.two (i := 6) (j := 8) (by kernel_rfl) rfl rfl rfl rfl ?_ ?_
      · intro K hK
        go_simp
        rw [← HM.out]
        go_wp2_with (go_at_call 35; refine (cloneI _ _ _ t.vs (i1.below st1.bel) (by rw [HM.out]; exact hl1)).mono ?_; rintro e w2 ⟨b1, d1, rfl, o1, hb⟩; rw [HM.out] at o1 ⊢)
        have st2 := st1.addC hb o1
        clear hb
        refine hK _ _ (fun _ => HSX.out _ st2.bel) ?_
        clear hK K
        (first | simp only [Act.put, List.setIfInBounds_toArray, List.set_cons_zero, List.set_cons_succ] | skip)
        refine Hd.After.pureD (i := 7) (some 13) (.agg #[.slice (some ⟨g, 0, none⟩) n n, .slice b1 m d1]) rfl rfl (by kernel_rfl) (by decide) (by kernel_rfl) (by kernel_rfl) (fun _ _ _ h => h) (HSX.out _ st2.bel) (Or.inl ⟨by rfl, ?_⟩) ?_
        · intro X; go_simp; try with_reducible rfl
        (first | simp only [Act.put, List.setIfInBounds_toArray, List.set_cons_zero, List.set_cons_succ] | skip)
        refine Hd.After.one (i := 8) (by kernel_rfl) rfl rfl ?_
        intro K hK
        go_simp
        obtain ⟨w3, bo, hw, hg, st3⟩ := st2.newA 54
        rw [hw, hg]
        clear hw hg
        refine hK _ _ (fun _ => HSX.out _ st3.bel) ?_
        clear hK K
        (first | simp only [Act.put, List.setIfInBounds_toArray, List.set_cons_zero, List.set_cons_succ] | skip)
        have HCB : Hid (type_of% st3.toCb) := st3.toCb
        obtain ⟨hbl, ⟨q0, q1⟩, f0, f1⟩ := wr2 (st3.oA bo rfl).1
        refine Hd.After.one (i := 9) (by kernel_rfl) rfl rfl ?_
        intro K hK
        go_simp
        refine hK _ _ (fun h => by cases h) ?_
        clear hK K
        refine Hd.After.done (by kernel_rfl) ?_ _
        clear st st1 st2 st3 o0 o1 q0 q1 f0 f1 hbl hS
        go_wp2_with fail
        go_meet
        exact ⟨bo, g, b1, d1, rfl, HCB.out⟩
      · intro K hK
        go_simp
        obtain ⟨w2, bo, hw, hg, st2⟩ := st1.newA 54
        rw [hw, hg]
        clear hw hg
        refine hK _ _ (fun _ => HSX.out _ st2.bel) ?_
        clear hK K
        (first | simp only [Act.put, List.setIfInBounds_toArray, List.set_cons_zero, List.set_cons_succ] | skip)
        refine Hd.After.one (i := 6) (by kernel_rfl) rfl rfl ?_
        intro K hK
        go_simp
        rw [← HM.out]
        go_wp2_with (go_at_call 35; refine (cloneI _ _ _ t.vs (i1.below st2.bel) (by rw [HM.out]; exact hl1)).mono ?_; rintro e w3 ⟨b1, d1, rfl, o1, hb⟩; rw [HM.out] at o1 ⊢)
        have st3 := st2.addC hb o1
        clear hb
        refine hK _ _ (fun _ => HSX.out _ st3.bel) ?_
        clear hK K
        (first | simp only [Act.put, List.setIfInBounds_toArray, List.set_cons_zero, List.set_cons_succ] | skip)
        refine Hd.After.pureD (i := 7) (some 13) (.agg #[.slice (some ⟨g, 0, none⟩) n n, .slice b1 m d1]) rfl rfl (by kernel_rfl) (by decide) (by kernel_rfl) (by kernel_rfl) (fun _ _ _ h => h) (HSX.out _ st3.bel) (Or.inl ⟨by rfl, ?_⟩) ?_
        · intro X; go_simp; try with_reducible rfl
        (first | simp only [Act.put, List.setIfInBounds_toArray, List.set_cons_zero, List.set_cons_succ] | skip)
        have HCB : Hid (type_of% st3.toCb) := st3.toCb
        obtain ⟨hbl, ⟨q0, q1⟩, f0, f1⟩ := wr2 (st3.oA bo rfl).1
        refine Hd.After.one (i := 9) (by kernel_rfl) rfl rfl ?_
        intro K hK
        go_simp
        refine hK _ _ (fun h => by cases h) ?_
        clear hK K
        refine Hd.After.done (by kernel_rfl) ?_ _
        clear st st1 st2 st3 o0 o1 q0 q1 f0 f1 hbl hS
        go_wp2_with fail
        go_meet
        exact ⟨bo, g, b1, d1, rfl, HCB.out⟩
    · intro K hK
      go_simp
      rw [← HM.out]
      go_wp2_with (go_at_call 35; refine (cloneI _ _ _ t.vs (i1.below st.bel) (by rw [HM.out]; exact hl1)).mono ?_; rintro e w1 ⟨b1, d1, rfl, o1, hb⟩; rw [HM.out] at o1 ⊢)
      have st1 := st.addC hb o1
      clear hb
      refine hK _ _ (fun _ => HSX.out _ st1.bel) ?_
      clear hK K
      (first | simp only [Act.put, List.setIfInBounds_toArray, List.set_cons_zero, List.set_cons_succ] | skip)
      refine Hd.After.two (i := 3) (j := 8) (by kernel_rfl) rfl rfl rfl rfl ?_ ?_
      · intro K hK
        refine wp_makeS _ _ rfl (some 9) rfl n rfl rfl hl0 ?_
        intro g w2 hg o0 hb
        have st2 := st1.addM hb o0
        clear hb hg
        refine hK _ _ (fun _ => HSX.out _ st2.bel) ?_
        clear hK K
        (first | simp only [Act.put, List.setIfInBounds_toArray, List.set_cons_zero, List.set_cons_succ] | skip)
        refine Hd.After.pureD (i := 7) (some 13) (.agg #[.slice (some ⟨g, 0, none⟩) n n, .slice b1 m d1]) rfl rfl (by kernel_rfl) (by decide) (by kernel_rfl) (by kernel_rfl) (fun _ _ _ h => h) (HSX.out _ st2.bel) (Or.inl ⟨by rfl, ?_⟩) ?_
        · intro X; go_simp; try with_reducible rfl
        (first | simp only [Act.put, List.setIfInBounds_toArray, List.set_cons_zero, List.set_cons_succ] | skip)
        refine Hd.After.one (i := 8) (by kernel_rfl) rfl rfl ?_
        intro K hK
        go_simp
        obtain ⟨w3, bo, hw, hg, st3⟩ := st2.newA 54
        rw [hw, hg]
        clear hw hg
        refine hK _ _ (fun _ => HSX.out _ st3.bel) ?_
        clear hK K
        (first | simp only [Act.put, List.setIfInBounds_toArray, List.set_cons_zero, List.set_cons_succ] | skip)
        have HCB : Hid (type_of% st3.toCb) := st3.toCb
        obtain ⟨hbl, ⟨q0, q1⟩, f0, f1⟩ := wr2 (st3.oA bo rfl).1
        refine Hd.After.one (i := 9) (by kernel_rfl) rfl rfl ?_
        intro K hK
        go_simp
        refine hK _ _ (fun h => by cases h) ?_
        clear hK K
        refine Hd.After.done (by kernel_rfl) ?_ _
        clear st st1 st2 st3 o0 o1 q0 q1 f0 f1 hbl hS
        go_wp2_with fail
        go_meet
        exact ⟨bo, g, b1, d1, rfl, HCB.out⟩
      · intro K hK
        go_simp
        obtain ⟨w2, bo, hw, hg, st2⟩ := st1.newA 54
        rw [hw, hg]
        clear hw hg
        refine hK _ _ (fun _ => HSX.out _ st2.bel) ?_
        clear hK K
        (first | simp only [Act.put, List.setIfInBounds_toArray, List.set_cons_zero, List.set_cons_succ] | skip)
        refine Hd.After.one (i := 3) (by kernel_rfl) rfl rfl ?_
        intro K hK
        refine wp_makeS _ _ rfl (some 9) rfl n rfl rfl hl0 ?_
        intro g w3 hg o0 hb
        have st3 := st2.addM hb o0
        clear hb hg
        refine hK _ _ (fun _ => HSX.out _ st3.bel) ?_
        clear hK K
        (first | simp only [Act.put, List.setIfInBounds_toArray, List.set_cons_zero, List.set_cons_succ] | skip)
        refine Hd.After.pureD (i := 7) (some 13) (.agg #[.slice (some ⟨g, 0, none⟩) n n, .slice b1 m d1]) rfl rfl (by kernel_rfl) (by decide) (by kernel_rfl) (by kernel_rfl) (fun _ _ _ h => h) (HSX.out _ st3.bel) (Or.inl ⟨by rfl, ?_⟩) ?_
        · intro X; go_simp; try with_reducible rfl
        (first | simp only [Act.put, List.setIfInBounds_toArray, List.set_cons_zero, List.set_cons_succ] | skip)
        have HCB : Hid (type_of% st3.toCb) := st3.toCb
        obtain ⟨hbl, ⟨q0, q1⟩, f0, f1⟩ := wr2 (st3.oA bo rfl).1
        refine Hd.After.one (i := 9) (by kernel_rfl) rfl rfl ?_
        intro K hK
        go_simp
        refine hK _ _ (fun h => by cases h) ?_
        clear hK K
        refine Hd.After.done (by kernel_rfl) ?_ _
        clear st st1 st2 st3 o0 o1 q0 q1 f0 f1 hbl hS
        go_wp2_with fail
        go_meet
        exact ⟨bo, g, b1, d1, rfl, HCB.out⟩
    · intro K hK
      go_simp
      obtain ⟨w1, bo, hw, hg, st1⟩ := st.newA 54
      rw [hw, hg]
      clear hw hg
      refine hK _ _ (fun _ => HSX.out _ st1.bel) ?_
      clear hK K
      (first | simp only [Act.put, List.setIfInBounds_toArray, List.set_cons_zero, List.set_cons_succ] | skip)
      refine Hd.After.two (i := 3) (j := 6) (by kernel_rfl) rfl rfl rfl rfl ?_ ?_
      · intro K hK
        refine wp_makeS _ _ rfl (some 9) rfl n rfl rfl hl0 ?_
        intro g w2 hg o0 hb
        have st2 := st1.addM hb o0
        clear hb hg
        refine hK _ _ (fun _ => HSX.out _ st2.bel) ?_
        clear hK K
        (first | simp only [Act.put, List.setIfInBounds_toArray, List.set_cons_zero, List.set_cons_succ] | skip)
        refine Hd.After.one (i := 6) (by kernel_rfl) rfl rfl ?_
        intro K hK
        go_simp
        rw [← HM.out]
        go_wp2_with (go_at_call 35; refine (cloneI _ _ _ t.vs (i1.below st2.bel) (by rw [HM.out]; exact hl1)).mono ?_; rintro e w3 ⟨b1, d1, rfl, o1, hb⟩; rw [HM.out] at o1 ⊢)
        have st3 := st2.addC hb o1
        clear hb
        refine hK _ _ (fun _ => HSX.out _ st3.bel) ?_
        clear hK K
        (first | simp only [Act.put, List.setIfInBounds_toArray, List.set_cons_zero, List.set_cons_succ] | skip)
        refine Hd.After.pureD (i := 7) (some 13) (.agg #[.slice (some ⟨g, 0, none⟩) n n, .slice b1 m d1]) rfl rfl (by kernel_rfl) (by decide) (by kernel_rfl) (by kernel_rfl) (fun _ _ _ h => h) (HSX.out _ st3.bel) (Or.inl ⟨by rfl, ?_⟩) ?_
        · intro X; go_simp; try with_reducible rfl
        (first | simp only [Act.put, List.setIfInBounds_toArray, List.set_cons_zero, List.set_cons_succ] | skip)
        have HCB : Hid (type_of% st3.toCb) := st3.toCb
        obtain ⟨hbl, ⟨q0, q1⟩, f0, f1⟩ := wr2 (st3.oA bo rfl).1
        refine Hd.After.one (i := 9) (by kernel_rfl) rfl rfl ?_
        intro K hK
        go_simp
        refine hK _ _ (fun h => by cases h) ?_
        clear hK K
        refine Hd.After.done (by kernel_rfl) ?_ _
        clear st st1 st2 st3 o0 o1 q0 q1 f0 f1 hbl hS
        go_wp2_with fail
        go_meet
        exact ⟨bo, g, b1, d1, rfl, HCB.out⟩
      · intro K hK
        go_simp
        rw [← HM.out]
        go_wp2_with (go_at_call 35; refine (cloneI _ _ _ t.vs (i1.below st1.bel) (by rw [HM.out]; exact hl1)).mono ?_; rintro e w2 ⟨b1, d1, rfl, o1, hb⟩; rw [HM.out] at o1 ⊢)
        have st2 := st1.addC hb o1
        clear hb
        refine hK _ _ (fun _ => HSX.out _ st2.bel) ?_
        clear hK K
        (first | simp only [Act.put, List.setIfInBounds_toArray, List.set_cons_zero, List.set_cons_succ] | skip)
        refine Hd.After.one (i := 3) (by kernel_rfl) rfl rfl ?_
        intro K hK
        refine wp_makeS _ _ rfl (some 9) rfl n rfl rfl hl0 ?_
        intro g w3 hg o0 hb
        have st3 := st2.addM hb o0
        clear hb hg
        refine hK _ _ (fun _ => HSX.out _ st3.bel) ?_
        clear hK K
        (first | simp only [Act.put, List.setIfInBounds_toArray, List.set_cons_zero, List.set_cons_succ] | skip)
        refine Hd.After.pureD (i := 7) (some 13) (.agg #[.slice (some ⟨g, 0, none⟩) n n, .slice b1 m d1]) rfl rfl (by kernel_rfl) (by decide) (by kernel_rfl) (by kernel_rfl) (fun _ _ _ h => h) (HSX.out _ st3.bel) (Or.inl ⟨by rfl, ?_⟩) ?_
        · intro X; go_simp; try with_reducible rfl
        (first | simp only [Act.put, List.setIfInBounds_toArray, List.set_cons_zero, List.set_cons_succ] | skip)
        have HCB : Hid (type_of% st3.toCb) := st3.toCb
        obtain ⟨hbl, ⟨q0, q1⟩, f0, f1⟩ := wr2 (st3.oA bo rfl).1
        refine Hd.After.one (i := 9) (by kernel_rfl) rfl rfl ?_
        intro K hK
        go_simp
        refine hK _ _ (fun h => by cases h) ?_
        clear hK K
        refine Hd.After.done (by kernel_rfl) ?_ _
        clear st st1 st2 st3 o0 o1 q0 q1 f0 f1 hbl hS
        go_wp2_with fail
        go_meet
        exact ⟨bo, g, b1, d1, rfl, HCB.out⟩
  case rest =>
    obtain ⟨bo, g, b1, d1, rfl, cb⟩ := hcut
    obtain ⟨x0, x1⟩ := HSX.out _ cb.bel
    go_wp2
    go_loopw [17] (fun i wr => ∃ (k : Nat) (l : List ByteArray), k ≤ n ∧ i = .int .i64 k ∧ l.length = n ∧ Ls.Like l t.ws k ∧ Cb W wr bo g n b1 m d1 l t.vs) (fun i _ => n - (intOf i).toNat)
    case atStart => exact ⟨0, List.replicate n ⟨#[]⟩, Nat.zero_le _, rfl, by simp, fun j hj => by omega, cb⟩
    case round =>
      clear cb x0 x1
      obtain ⟨k, l, hk, rfl, hll, hlike, cb⟩ := hrel
      have HLL : Hid (l.length = n) := hll
      have HLK : Hid (Ls.Like l t.ws k) := hlike
      clear hll hlike
      have nb := cb.n1
      have nb' : ¬ g = bo := fun e => nb e.symm
      by_cases hlt : k < n
      · have hlw : k < t.ws.length := by rw [HN.out]; exact hlt
        rcases i0.below cb.bel with e0 | ⟨xb, xo, rfl, hxb, hxc⟩
        · rw [e0] at hlw; simp at hlw
        have d := hxc k hlw
        have hzs := hz t.ws[k] (List.getElem_mem hlw)
        have HL : Hid (Ls.Like (l.set k t.ws[k]) t.ws (k + 1)) := Ls.like_set HLK.out hlw (by rw [HLL.out, HN.out])
        generalize t.ws[k] = s at d hzs HL
        obtain ⟨hbl, ⟨y0, y1⟩, _⟩ := wr2 cb.bx
        have HCB : Hid (type_of% cb) := cb
        have HBD : Hid (Below wr.heap.size wr wr.drew) := (Below.refl wr.heap.size wr).drew
        clear hxc hlw cb
        go_wp2_with fail
        go_region_held3 (fun w' => w'.cell? ⟨bo, 0, none⟩ = some (.slice (some ⟨g, 0, none⟩) n n)) (go_keep) (first
          | (go_at_call 36
             refine (Co.clone _ s (by omega)).mono ?_
             rintro e w5 ⟨rfl, hb⟩
             have HC5 : Hid (Cb W w5 bo g n b1 m d1 l t.vs) := HCB.out.below (HBD.out.trans hb)
             obtain ⟨_, ⟨z0, z1⟩, _⟩ := wr2 HC5.out.bx
             have hcl := HC5.out.ow.cell HLL.out k (by rw [HLL.out]; exact hlt)
             have hcf := HC5.out.ow.frozen HLL.out k
             have hgl := (HC5.out.ow.ge g rfl).2
             clear hb))
        have HC6 : Hid (Cb W (w5.setCell ⟨g, k, none⟩ (.string s)) bo g n b1 m d1 (l.set k s) t.vs) := HC5.out.set HLL.out k s
        have HL6 : Hid ((l.set k s).length = n) := by show _ = _; rw [List.length_set]; exact HLL.out
        clear y0 y1 z0 z1 hcl hcf hgl d
        go_wp2
        go_roundw
        case rel => exact ⟨k + 1, l.set k s, by omega, by go_num, HL6.out, HL.out, HC6.out⟩
        case measure => simp [intOf]; omega
      · have e := Ls.like_all (xs := t.ws) (ys := l) (by rw [HN.out, show n = k by omega]; exact HLK.out) (by rw [HN.out]; exact HLL.out)
        subst e
        obtain ⟨hbl, ⟨y0, y1⟩, _⟩ := wr2 cb.bx
        obtain ⟨hbr, ⟨q0, q1⟩, f0, f1⟩ := wr2 (HBR.out.below cb.bel)
        have HCB : Hid (type_of% cb) := cb
        have hz2 := HSZ.out
        clear cb
        go_wp2
        have cb := HCB.out
        have hge := cb.ge
        refine bodyPost_ret (v := .agg #[.slice (some ⟨g, 0, none⟩) n n, .slice b1 m d1]) (by rw [results_cell rfl]; go_simp) rfl ⟨_, _, _, _, rfl, ?_, ?_, ?_, ?_⟩
        · exact (ow_set (r := rs t.ws) (ow_set cb.ow (by omega)) (by omega)).mono (by omega)
        · exact (ow_set (r := ri t.vs) (ow_set cb.oi (by omega)) (by omega)).mono (by omega)
        · intro y ey; simp [Value.ownBlock] at ey; subst ey; exact cb.n3
        · exact ((HB.out.trans (cb.bel.mono HB.out.size)).setCell (by simp) _).setCell (by simp) _
end Go.Proofs.Ytcadgeepknhmfaa.Ct
/-
  One more table of words, or tree, put behind a list of them; what is cut off a model.
-/
namespace Go.Proofs.Ytcadgeepknhmfaa.Ct
set_option maxRecDepth 20000
open Go.RowKit
open Go.Proofs.Ytcadgeepknhmfaa.Tb (ownsRow_at)
open Go.Proofs.Ytcadgeepknhmfaa.Sv (Fr fr_below fr_grown Wr)
open Go.Proofs.Ytcadgeepknhmfaa.Kt (Kv OwK owk_snoc)
open Go.Proofs.Ytcadgeepknhmfaa.To (OwT owt_snoc)
open Go.Proofs.Ytcadgeepknhmfaa.Tm (OwnP)
open Go.Proofs.Ytcadgeepknhmfaa.Md (M mok OwM)
set_option linter.unusedVariables false
def cutn (m : M) (n : Int) : Nat := (max 0 (min n (m.ts.length : Int))).toNat
def zero : M := ⟨0, 0, 0, 0, [], []⟩
def mcut (m : M) (n : Int) : M := if mok m = true then ⟨m.n, m.c, m.prior, m.base, m.ks, m.ts.take (cutn m n)⟩ else zero
theorem mcut_no {m : M} (h : mok m = false) (n : Int) : mcut m n = zero := by unfold mcut; rw [if_neg (by rw [h]; simp)]
theorem mcut_yes {m : M} (h : mok m = true) (n : Int) : mcut m n = ⟨m.n, m.c, m.prior, m.base, m.ks, m.ts.take (cutn m n)⟩ := by unfold mcut; rw [if_pos h]
theorem info_ctr : (Try.prog.info? 54).map (fun i => (i.zero, i.size, i.bytes)) = some (some (.agg #[.slice none 0 0, .slice none 0 0]), 2, 48) := by kernel_rfl
theorem info_tree : (Try.prog.info? 38).map (fun i => (i.zero, i.size, i.bytes)) = some (some (.agg #[.slice none 0 0, .slice none 0 0]), 2, 48) := by kernel_rfl
theorem pair_cell {w : World} {E : Nat} {u0 u1 : Value} (e0 : w.cell? ⟨E, 0, none⟩ = some u0) (e1 : w.cell? ⟨E, 1, none⟩ = some u1) : ∀ j u, ([u0, u1] : List Value)[j]? = some u → w.cell? ((⟨E, 0, none⟩ : Addr).add j) = some u := by
  intro j u hj
  rw [Go.WideShapes.add_plain, Nat.zero_add]
  match j, hj with
  | 0, hj => simp at hj; subst hj; exact e0
  | 1, hj => simp at hj; subst hj; exact e1
theorem pair_one {a b : Option Addr} {n c m d : Nat} : ∀ u ∈ ([.slice a n c, .slice b m d] : List Value), u.oneCell' = true := by
  intro u hu
  simp at hu
  rcases hu with rfl | rfl <;> rfl
theorem wp_pushK {o : Oper} {a : Act} {w : World} {K : Act → World → Prop} {Q : Exit → Act → World → Prop} (s x : Operand) (ho : o.op = .call { callee := .builtin .append, args := #[s, x], argTypes := #[26, 26] }) (dt : Option Tmp) (hd : o.dst = dt)
    (B : Nat → Prop) (m : Nat) (v : Value) (ks : List Kv) (h : OwK w (fun y => B y ∧ y < m) v ks) (E : Nat) (b0 b1 : Option Addr) (d0 d1 n0 n1 : Nat) (t : Kv) (hs : a.eval s = v) (hx : a.eval x = .slice (some ⟨E, 0, none⟩) 1 1)
    (e0 : w.cell? ⟨E, 0, none⟩ = some (.slice b0 n0 d0)) (e1 : w.cell? ⟨E, 1, none⟩ = some (.slice b1 n1 d1)) (o0 : Ls.Own w m (.slice b0 n0 d0) t.ws) (o1 : Li.Own w m (.slice b1 n1 d1) t.vs) (h01 : ∀ k, (Value.slice b0 n0 d0).ownBlock = some k → (Value.slice b1 n1 d1).ownBlock ≠ some k)
    (hB : ∀ y, m ≤ y → B y) (hm : m ≤ w.heap.size) (hl : ks.length ≤ 1000) (L : Nat) (hL : ks.length + 1 = L)
    (hq : ∀ a5 c5 w5, OwK w5 B (.slice a5 L c5) (ks ++ [t]) → w.grownBy w5 v.ownBlock → K (a.put dt (.slice a5 L c5)) w5) : o.wp Try.prog a w K Q := by
  subst hd; subst hL
  obtain ⟨i0, hi, hz0, hz1, hz2⟩ := info_parts info_ctr
  obtain ⟨vs, hown, hvl, he, hv, hbb, hss⟩ := h
  obtain ⟨v', w', hr, h2, h3, hnil, h5⟩ := run_append_own_at (P := Try.prog) w 0 26 o.type 54 i0 (.agg #[.slice none 0 0, .slice none 0 0]) 2 48 Try.underlying26 hi hz0 hz1 hz2 rfl (by decide) v ks.length vs hown ⟨E, 0, none⟩ 1 1 [.slice b0 n0 d0, .slice b1 n1 d1] rfl (pair_cell e0 e1) pair_one (by unfold maxLen; omega) (by omega) (by omega)
  have hok := owk_snoc (B := B) (m := m) hvl he hv hbb hss o0 o1 h01 hB hm h2 h3 h5
  obtain ⟨a5, c5, e5, _⟩ := hok.isk
  rw [List.length_append] at e5
  subst e5
  unfold Oper.wp execOp
  simp only [ho, resolve, invoke, builtin, Sem.run_bind, Sem.run_pure, Result.andThen_ok, List.map_toArray, List.map_cons, List.map_nil, hs, hx, hr]
  exact hq a5 c5 w' hok h3
theorem wp_pushT {o : Oper} {a : Act} {w : World} {K : Act → World → Prop} {Q : Exit → Act → World → Prop} (s x : Operand) (ho : o.op = .call { callee := .builtin .append, args := #[s, x], argTypes := #[27, 27] }) (dt : Option Tmp) (hd : o.dst = dt)
    (B : Nat → Prop) (m : Nat) (v : Value) (ks : List Tr.T) (h : OwT w (fun y => B y ∧ y < m) v ks) (E : Nat) (b0 b1 : Option Addr) (d0 d1 n0 n1 : Nat) (t : Tr.T) (hs : a.eval s = v) (hx : a.eval x = .slice (some ⟨E, 0, none⟩) 1 1)
    (e0 : w.cell? ⟨E, 0, none⟩ = some (.slice b0 n0 d0)) (e1 : w.cell? ⟨E, 1, none⟩ = some (.slice b1 n1 d1)) (o0 : OwnP w m (.slice b0 n0 d0) t.sp) (o1 : Li.Own w m (.slice b1 n1 d1) t.lv) (h01 : ∀ k, (Value.slice b0 n0 d0).ownBlock = some k → (Value.slice b1 n1 d1).ownBlock ≠ some k)
    (hB : ∀ y, m ≤ y → B y) (hm : m ≤ w.heap.size) (hl : ks.length ≤ 1000) (L : Nat) (hL : ks.length + 1 = L)
    (hq : ∀ a5 c5 w5, OwT w5 B (.slice a5 L c5) (ks ++ [t]) → w.grownBy w5 v.ownBlock → K (a.put dt (.slice a5 L c5)) w5) : o.wp Try.prog a w K Q := by
  subst hd; subst hL
  obtain ⟨i0, hi, hz0, hz1, hz2⟩ := info_parts info_tree
  obtain ⟨vs, hown, hvl, he, hv, hbb, hss⟩ := h
  obtain ⟨v', w', hr, h2, h3, hnil, h5⟩ := run_append_own_at (P := Try.prog) w 0 27 o.type 38 i0 (.agg #[.slice none 0 0, .slice none 0 0]) 2 48 Try.underlying27 hi hz0 hz1 hz2 rfl (by decide) v ks.length vs hown ⟨E, 0, none⟩ 1 1 [.slice b0 n0 d0, .slice b1 n1 d1] rfl (pair_cell e0 e1) pair_one (by unfold maxLen; omega) (by omega) (by omega)
  have hok := owt_snoc (B := B) (m := m) hvl he hv hbb hss o0 o1 h01 hB hm h2 h3 h5
  obtain ⟨a5, c5, e5, _⟩ := hok.ist
  rw [List.length_append] at e5
  subst e5
  unfold Oper.wp execOp
  simp only [ho, resolve, invoke, builtin, Sem.run_bind, Sem.run_pure, Result.andThen_ok, List.map_toArray, List.map_cons, List.map_nil, hs, hx, hr]
  exact hq a5 c5 w' hok h3
/-- What a push turns: the variable and blocks from a world on. -/
def Fx (b2 m : Nat) : Nat → Prop := fun y => y = b2 ∨ m ≤ y
theorem fx_bel {b2 m : Nat} {w2 wr : World} {n : Nat} (h : Fr (Fx b2 m) w2 wr) (hb : n ≤ b2) (hm : n ≤ m) (hn : n ≤ w2.heap.size) : Below n w2 wr := h.bel (fun k e => by rcases e with e | e <;> omega) hn
theorem fx_grown {b2 m : Nat} {w w1 : World} {v : Value} (hg : w.grownBy w1 v.ownBlock) (hv : ∀ k, v.ownBlock = some k → m ≤ k) : Fr (Fx b2 m) w w1 :=
  ⟨hg.os, hg.tape, hg.output, hg.size, fun k hk hn => hg.block k hk (fun e => hn (.inr (hv k e.symm)))⟩
theorem fx_set {b2 m : Nat} (w : World) (o : Nat) (x : Value) : Fr (Fx b2 m) w (w.setCell ⟨b2, o, none⟩ x) := fr_grown (Li.grown_set w b2 o x) (.inl rfl)
theorem fx_below {b2 m : Nat} {w w1 : World} (h : Below w.heap.size w w1) : Fr (Fx b2 m) w w1 := fr_below h
theorem szT_take_le (ts : List Tr.T) (q : Nat) : Tm.szT (ts.take q) ≤ Tm.szT ts := by
  induction ts generalizing q with
  | nil => simp
  | cons t ts ih =>
    cases q with
    | zero => simp [Tm.szT]
    | succ q => simp only [List.take_succ_cons, Tm.szT]; have := ih q; omega
theorem mcut_sz (m : M) (n : Int) : (mcut m n).sz ≤ m.sz := by
  cases h : mok m with
  | false => rw [mcut_no h]; simp [zero, M.sz, Kt.ksz, Tm.szT]
  | true =>
    rw [mcut_yes h]
    unfold M.sz
    have h1 := szT_take_le m.ts (cutn m n)
    have h2 : (m.ts.take (cutn m n)).length ≤ m.ts.length := by rw [List.length_take]; omega
    show m.ks.length + Kt.ksz m.ks + ((m.ts.take (cutn m n)).length + Tm.szT (m.ts.take (cutn m n))) ≤ _
    omega
theorem owm_cap {w : World} {B : Nat → Prop} {vk : Value} {ax : Option Addr} {ct : Nat} {m : M} (h : OwM w B vk (.slice ax m.ts.length ct) m) : m.ts.length ≤ ct := by
  obtain ⟨_, _, vs, ho, _⟩ := h
  rcases ho.2 with ⟨e, h0⟩ | ⟨g, cap, cur, e, _, _, h3, _⟩
  · omega
  · cases e; exact h3
theorem mm_rm {w : World} {B : Nat → Prop} {ak ax : Option Addr} {ck ct : Nat} {q : Int} {m : M} (h : OwM w B (.slice ak m.ks.length ck) (.slice ax m.ts.length ct) (Md.mm q m)) : Md.Rm w ak ax (Md.mm q m) := by
  obtain ⟨_, _, _, _, ek, et, rm⟩ := h.rm
  injection ek with e1 e2 e3
  injection et with f1 f2 f3
  subst e1; subst f1
  exact rm
end Go.Proofs.Ytcadgeepknhmfaa.Ct
/-
  A model cut short is as good as it was.
-/
namespace Go.Proofs.Ytcadgeepknhmfaa.Ct
set_option maxRecDepth 20000
open Go.Proofs.Ytcadgeepknhmfaa.Md (M mok mok_parts)
open Go.Proofs.Ytcadgeepknhmfaa.Sw (allok)
theorem mok_take {m : M} (h : mok m = true) (q : Nat) : mok ⟨m.n, m.c, m.prior, m.base, m.ks, m.ts.take q⟩ = true := by
  obtain ⟨h1, h2, h3, h4, h5, h6, h7⟩ := mok_parts h
  unfold mok
  simp only [Bool.and_eq_true, decide_eq_true_eq]
  refine ⟨h1, h2, h3, by rw [List.length_take]; omega, h5, ?_, h7⟩
  unfold allok at h6 ⊢
  rw [List.all_eq_true] at h6 ⊢
  exact fun t ht => h6 t (List.mem_of_mem_take ht)
theorem mok_cut {m : M} (h : mok m = true) (n : Int) : mok (mcut m n) = true := by
  rw [mcut_yes h]; exact mok_take h _
end Go.Proofs.Ytcadgeepknhmfaa.Ct
/-
  What the counts of all features come to; with fewer trees none is greater.
-/
namespace Go.Proofs.Ytcadgeepknhmfaa.Md
set_option maxRecDepth 20000
theorem set_sum : ∀ (l : List Int) (k : Nat) (v : Int), k < l.length → (l.set k v).sum = l.sum - l.getD k 0 + v
  | [], k, v, h => by simp at h
  | x :: l, 0, v, _ => by simp; omega
  | x :: l, k + 1, v, h => by
    have := set_sum l k v (by simpa using h)
    simp only [List.set_cons_succ, List.sum_cons, List.getD_cons_succ, this]
    omega
theorem bump_sum {l : List Int} {p : Int × Int} (h : p.1.toNat < l.length) : (bump l p).sum = l.sum + 1 := by
  unfold bump; rw [set_sum _ _ _ h]; omega
theorem bump_len (l : List Int) (p : Int × Int) : (bump l p).length = l.length := by simp [bump]
theorem bump_ge (l : List Int) (p : Int × Int) (k : Nat) : l.getD k 0 ≤ (bump l p).getD k 0 := by
  unfold bump
  rw [List.getD_eq_getElem?_getD, List.getD_eq_getElem?_getD, List.getElem?_set]
  split
  · rename_i e
    subst e
    split
    · rename_i h; simp [h]; omega
    · rename_i h; simp [h]
  · exact Int.le_refl _
theorem folds_len : ∀ (ps : List (Int × Int)) (l : List Int), (ps.foldl bump l).length = l.length
  | [], l => rfl
  | p :: ps, l => by rw [List.foldl_cons, folds_len ps, bump_len]
theorem folds_sum : ∀ (ps : List (Int × Int)) (l : List Int), (∀ p ∈ ps, p.1.toNat < l.length) → (ps.foldl bump l).sum = l.sum + ps.length
  | [], l, _ => by simp
  | p :: ps, l, h => by
    rw [List.foldl_cons, folds_sum ps _ (fun q hq => by rw [bump_len]; exact h q (List.mem_cons_of_mem _ hq)), bump_sum (h p List.mem_cons_self), List.length_cons]
    omega
theorem folds_ge : ∀ (ps : List (Int × Int)) (l : List Int) (k : Nat), l.getD k 0 ≤ (ps.foldl bump l).getD k 0
  | [], l, k => Int.le_refl _
  | p :: ps, l, k => by rw [List.foldl_cons]; exact Int.le_trans (bump_ge l p k) (folds_ge ps _ k)
theorem impT_len (l : List Int) (t : Tr.T) : (impT l t).length = l.length := folds_len t.sp l
theorem impF_len : ∀ (ts : List Tr.T) (l : List Int), (ts.foldl impT l).length = l.length
  | [], l => rfl
  | t :: ts, l => by rw [List.foldl_cons, impF_len ts, impT_len]
theorem impF_sum : ∀ (ts : List Tr.T) (l : List Int), l.length = 6 → (∀ t ∈ ts, ∀ p ∈ t.sp, p.1.toNat < 6) → (ts.foldl impT l).sum = l.sum + tsp ts
  | [], l, _, _ => by simp [tsp]
  | t :: ts, l, hl, h => by
    rw [List.foldl_cons, impF_sum ts _ (by rw [impT_len]; exact hl) (fun u hu => h u (List.mem_cons_of_mem _ hu))]
    have h1 := folds_sum t.sp l (fun p hp => by rw [hl]; exact h t List.mem_cons_self p hp)
    unfold impT
    rw [h1, tsp]
    omega
theorem impF_ge : ∀ (ts : List Tr.T) (l : List Int) (k : Nat), l.getD k 0 ≤ (ts.foldl impT l).getD k 0
  | [], l, k => Int.le_refl _
  | t :: ts, l, k => by rw [List.foldl_cons]; exact Int.le_trans (folds_ge t.sp l k) (impF_ge ts _ k)
theorem impL_len (ts : List Tr.T) : (impL ts).length = 6 := by unfold impL; rw [impF_len]; rfl
theorem impL_take (ts : List Tr.T) (q k : Nat) : (impL (ts.take q)).getD k 0 ≤ (impL ts).getD k 0 := by
  have h : impL ts = (ts.drop q).foldl impT (impL (ts.take q)) := by
    unfold impL; rw [← List.foldl_append, List.take_append_drop]
  rw [h]; exact impF_ge _ _ _
theorem imps_sum {m : M} (h : mok m = true) : (imps m).sum = tsp m.ts := by
  rw [imps_yes h]
  unfold impL
  rw [impF_sum m.ts _ (by simp) (fun t ht p hp => by
    obtain ⟨k, hk, rfl⟩ := List.getElem_of_mem ht
    obtain ⟨j, hj, rfl⟩ := List.getElem_of_mem hp
    have := (sp_at h k hk).2 j hj
    omega)]
  rw [List.sum_replicate_int]
  simp
theorem imps_len6 {m : M} (h : mok m = true) : (imps m).length = 6 := by rw [imps_yes h]; exact impL_len _
theorem imps_cut {m : M} (h : mok m = true) (n : Int) (k : Nat) : (imps (Ct.mcut m n)).getD k 0 ≤ (imps m).getD k 0 := by
  rw [imps_yes (Ct.mok_cut h n), imps_yes h, Ct.mcut_yes h]
  exact impL_take _ _ _
theorem tsp_snoc (ts : List Tr.T) (k : Nat) (h : k < ts.length) : tsp (ts.take (k + 1)) = tsp (ts.take k) + ts[k].sp.length := by
  induction ts generalizing k with
  | nil => simp at h
  | cons t ts ih =>
    cases k with
    | zero => simp [tsp]
    | succ k => simp only [List.take_succ_cons, tsp, List.getElem_cons_succ]; rw [ih k (by simpa using h)]; omega
theorem sum_snoc (l : List Int) (k : Nat) (h : k < l.length) : (l.take (k + 1)).sum = (l.take k).sum + l[k] := by
  rw [List.take_succ_eq_append_getElem h, List.sum_append_int]; simp
theorem imp_le {m : M} (x : Int) (hx : x ∈ imps m) : 0 ≤ x ∧ x ≤ tsp m.ts := by
  unfold imps at hx
  split at hx
  · exact (imp_bb m.ts).2 x hx
  · simp at hx
theorem sum_bd : ∀ (l : List Int) (N : Int), (∀ x ∈ l, 0 ≤ x ∧ x ≤ N) → 0 ≤ l.sum ∧ l.sum ≤ N * l.length
  | [], N, _ => by simp
  | x :: l, N, h => by
    have h1 := sum_bd l N (fun y hy => h y (List.mem_cons_of_mem _ hy))
    have h2 := h x List.mem_cons_self
    simp only [List.sum_cons, List.length_cons, Int.natCast_add, Int.mul_add]
    omega
end Go.Proofs.Ytcadgeepknhmfaa.Md
