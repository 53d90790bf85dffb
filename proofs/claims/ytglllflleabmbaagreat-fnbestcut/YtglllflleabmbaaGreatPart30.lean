/-
  Contracts that the proof leans on, put together in the order in which they build.
-/
import Derived.Test.YtglllflleabmbaaGreatPart28
/-
  CutTo of the specification.
-/
namespace Go.Proofs.YtglllflleabmbaaGreat.Ct
set_option maxRecDepth 100000
open Go.RowKit
open Go.Proofs.YtglllflleabmbaaGreat.Sv (Fr fr_below fr_grown Wr wr2 new1 new2 new3)
open Go.Proofs.YtglllflleabmbaaGreat.Kt (Kv OwK IsK)
open Go.Proofs.YtglllflleabmbaaGreat.To (OwT)
open Go.Proofs.YtglllflleabmbaaGreat.Tm (OwnP IsT)
open Go.Proofs.YtglllflleabmbaaGreat.Md (M mok mok_parts OwM Rm wr6 smok ks_at ts_at)
open Go.Proofs.YtglllflleabmbaaGreat.Tb (results_cell)
set_option linter.unusedVariables false
theorem getD_take {vs : List Value} {n p : Nat} (h : p < n) : (vs.take n).getD p undef = vs.getD p undef := by
 simp [List.getD_eq_getElem?_getD, h]
theorem owt_take {w : World} {B : Nat → Prop} {a : Option Addr} {c q : Nat} {ts : List Tr.T} (h : OwT w B (.slice a ts.length c) ts) (hq : q ≤ ts.length) : OwT w B (.slice a q c) (ts.take q) := by
 obtain ⟨vs, ho, hl, he, hv, hb, hs⟩ := h
 have hlt : (ts.take q).length = q := by rw [List.length_take]; omega
 have hvl : (vs.take (q * 2)).length = q * 2 := by rw [List.length_take]; omega
 have hob : (Value.slice a q c).ownBlock = (Value.slice a ts.length c).ownBlock := by unfold Value.ownBlock; rcases a with _ | ⟨g, o, z⟩ <;> simp
 refine ⟨vs.take (q * 2), ⟨by rw [hvl, hlt], ?_⟩, by rw [hvl, hlt], fun j hj => ?_, fun k e => hv k (hob ▸ e), fun p hp k e => ?_, fun p r hp hr hpr k e => ?_⟩
 ·
  rcases ho.2 with ⟨e, h0⟩ | ⟨g, cap, cur, e, h1, h2, h3, h4, h5, h6⟩
  ·
   injection e with e1 e2 e3
   subst e1; subst e3
   exact .inl ⟨by rw [show q = 0 by omega], by rw [hlt]; omega⟩
  ·
   cases e
   refine .inr ⟨g, c, cur, by rw [hlt], h1, h2, by rw [hlt]; omega, h4, h5, ?_⟩
   rw [hlt, ← h6, List.take_take, Nat.min_eq_left (by omega)]
 ·
  have hjq : j < q := by rw [hlt] at hj; exact hj
  rw [getD_take (by omega), getD_take (by omega), List.getElem_take]
  exact he j (by omega)
 ·
  rw [hvl] at hp
  rw [getD_take hp] at e
  exact ⟨(hb p (by omega) k e).1, hob ▸ (hb p (by omega) k e).2⟩
 ·
  rw [hvl] at hp hr
  rw [getD_take hp] at e
  rw [getD_take hr]
  exact hs p r (by omega) (by omega) hpr k e
set_option maxHeartbeats 8000000 in
theorem scopyM (w : World) (ak ax : Option Addr) (ck ct : Nat) (m : M) (h : Rm w ak ax m) (hl : m.sz ≤ 1048576) (h40 : m.ks.length ≤ 40 ∧ m.ts.length ≤ 12) :
  Calls Tryz.prog 44 #[.agg #[.int .i64 m.n, .int .i64 m.c, .int .i64 m.prior, .int .i64 m.base, .slice ak m.ks.length ck, .slice ax m.ts.length ct]] w fun e w' => ∃ ka kc ac cc, e = .returned (.agg #[.int .i64 m.n, .int .i64 m.c, .int .i64 m.prior, .int .i64 m.base, .slice ka m.ks.length kc, .slice ac m.ts.length cc]) ∧ OwM w' (fun y => w.heap.size ≤ y ∧ y < w'.heap.size) (.slice ka m.ks.length kc) (.slice ac m.ts.length cc) m ∧ Below w.heap.size w w' := by
 have HKL : Hid (m.ks.length ≤ 40 ∧ m.ts.length ≤ 12) := h40
 have HL : Hid (m.sz ≤ 1048576) := hl
 clear hl h40
 go_enter Tryz.func44, Tryz.ntmps44
 go_wp2
 obtain ⟨w2, hW, hsz, hB, bm, br, bx0⟩ := new3 w [.int .i64 m.n, .int .i64 m.c, .int .i64 m.prior, .int .i64 m.base, .slice ak m.ks.length ck, .slice ax m.ts.length ct] [.int .i64 0, .int .i64 0, .int .i64 0, .int .i64 0, .slice none 0 0, .slice none 0 0] [.int .i64 m.n, .int .i64 m.c, .int .i64 m.prior, .int .i64 m.base, .slice none 0 0, .slice none 0 0] 29 29 29
 rw [hW]
 obtain ⟨b2, hb2e⟩ : ∃ b2, w.heap.size + 1 + 1 = b2 := ⟨_, rfl⟩
 rw [show w.heap.size + 2 = b2 by omega] at bx0
 rw [hb2e]
 obtain ⟨M0, hM0⟩ : ∃ M0, w2.heap.size = M0 := ⟨_, rfl⟩
 have HBX0 : Hid (type_of% bx0) := bx0
 have HBM : Hid (type_of% bm) := bm
 have HBR : Hid (type_of% br) := br
 have HBW2 : Hid (Below w.heap.size w w2) := hB
 have HWB : Hid (w.heap.size + 2 ≤ b2) := by show _ ≤ _; omega
 have HMB : Hid (b2 < M0) := by show _ < _; omega
 have HWM : Hid (w.heap.size + 2 ≤ M0) := by show _ ≤ _; omega
 have HWS : Hid (M0 ≤ w2.heap.size) := by show _ ≤ _; omega
 clear hW hsz bx0 hb2e hM0 bm br hB
 go_loopw [4] (fun i wr => ∃ (k : Nat) (ka : Option Addr) (kc : Nat), k ≤ m.ks.length ∧ i = .int .i64 k ∧ Wr wr b2 0 [.int .i64 m.n, .int .i64 m.c, .int .i64 m.prior, .int .i64 m.base, .slice ka k kc, .slice none 0 0] ∧ OwK wr (fun y => M0 ≤ y) (.slice ka k kc) (m.ks.take k) ∧ Fr (Fx b2 M0) w2 wr) (fun i _ => m.ks.length - (intOf i).toNat)
 case atStart => exact ⟨0, none, 0, Nat.zero_le _, rfl, HBX0.out, OwK.nil _ _, Fr.refl _ _⟩
 case round =>
  clear HBX0
  obtain ⟨k, ka, kc, hk, rfl, bx, ok, hf⟩ := hrel
  have hs2 := hf.size
  have hBw : Below w.heap.size w wr := HBW2.out.trans (fx_bel hf (by have := HWB.out; omega) (by have := HWM.out; omega) HBW2.out.size)
  have HBMr : Hid (type_of% (HBM.out.keptAt hf.size (hf.block _ HBM.out.1 (by unfold Fx; have := HWB.out; have := HWM.out; omega)))) := HBM.out.keptAt hf.size (hf.block _ HBM.out.1 (by unfold Fx; have := HWB.out; have := HWM.out; omega))
  obtain ⟨hbl, ⟨x0, x1, x2, x3, x4, x5⟩, _⟩ := wr6 bx
  obtain ⟨hbm, ⟨y0, y1, y2, y3, y4, y5⟩, _⟩ := wr6 HBMr.out
  by_cases hlt : k < m.ks.length
  ·
   rcases h.k with e0 | ⟨xb, xo, rfl, hxb, hxc⟩
   ·
    rw [e0] at hlt; simp at hlt
   obtain ⟨a0, c0, a1, c1, ⟨d0, d1⟩, i0, i1⟩ := hxc k hlt
   have hl01 := ks_at HL.out k hlt
   have hl0 : m.ks[k].ws.length ≤ 1048576 := by omega
   have hl1 : m.ks[k].vs.length ≤ 1048576 := by omega
   clear hl01
   have HTK : Hid (m.ks.take (k + 1) = m.ks.take k ++ [m.ks[k]]) := List.take_succ_eq_append_getElem hlt
   have HTL : Hid ((m.ks.take k).length = k) := by show _ = _; rw [List.length_take]; omega
   have hk40 : k ≤ 40 := by have := HKL.out; omega
   have hki : (k : Int) < (m.ks.length : Int) := by omega
   generalize m.ks[k] = t at d0 d1 i0 i1 HTK hl0 hl1
   have d0 := (hBw.cell (p := ⟨xb, xo + k * 2, none⟩) hxb).trans d0
   have d1 := (hBw.cell (p := ⟨xb, xo + k * 2 + 1, none⟩) hxb).trans d1
   have i0 := i0.below hBw
   have i1 := i1.below hBw
   have hxr : xb < wr.heap.size := Nat.lt_of_lt_of_le hxb hBw.size
   clear hxc
   obtain ⟨wo, hwo⟩ : ∃ wo, wo = wr := ⟨_, rfl⟩
   rw [← hwo] at bx ok hf hBw HBMr hbl hbm x0 x1 x2 x3 x4 x5 y0 y1 y2 y3 y4 y5 d0 d1 i0 i1 hxr hs2 ⊢
   clear hwo
   go_wp2_with fail
   have HVB : Hid (∀ y, (Value.slice ka k kc).ownBlock = some y → M0 ≤ y) := fun y ey => by obtain ⟨_, _, _, _, hv, _⟩ := ok; exact hv y ey
   have HOK : Hid (OwK wo (fun y => M0 ≤ y ∧ y < wo.heap.size) (.slice ka k kc) (m.ks.take k)) := ok.bound
   have HBX : Hid (Wr wo b2 0 [.int .i64 m.n, .int .i64 m.c, .int .i64 m.prior, .int .i64 m.base, .slice ka k kc, .slice none 0 0]) := bx
   have HF : Hid (Fr (Fx b2 M0) w2 wo) := hf
   have HM0 : Hid (M0 ≤ wo.heap.size) := by have := HWS.out; show _ ≤ _; omega
   have HSX : Hid (∀ X : World, Below wo.heap.size wo X → X.cell? ⟨b2, 4, none⟩ = some (.slice ka k kc) ∧ X.cell? ⟨w.heap.size, 4, none⟩ = some (.slice (some ⟨xb, xo, none⟩) m.ks.length ck) ∧ X.cell? ⟨xb, xo + k * 2, none⟩ = some (.slice a0 t.ws.length c0) ∧ X.cell? ⟨xb, xo + k * 2 + 1, none⟩ = some (.slice a1 t.vs.length c1)) := fun X hX => ⟨(hX.cell (p := ⟨b2, 4, none⟩) hbl).trans x4, (hX.cell (p := ⟨w.heap.size, 4, none⟩) hbm).trans y4, (hX.cell (p := ⟨xb, xo + k * 2, none⟩) hxr).trans d0, (hX.cell (p := ⟨xb, xo + k * 2 + 1, none⟩) hxr).trans d1⟩
   have HS7 : Hid (∀ X : World, Fr (Fx b2 M0) wo X → X.cell? ⟨b2, 4, none⟩ = some (.slice ka k kc) → X.cell? ⟨b2, 4, none⟩ = some (.slice ka k kc) ∧ X.cell? ⟨w.heap.size, 4, none⟩ = some (.slice (some ⟨xb, xo, none⟩) m.ks.length ck) ∧ X.cell? ⟨xb, xo + k * 2, none⟩ = some (.slice a0 t.ws.length c0) ∧ X.cell? ⟨xb, xo + k * 2 + 1, none⟩ = some (.slice a1 t.vs.length c1)) := fun X hX e => ⟨e, (World.cell?_of_block (a := ⟨w.heap.size, 4, none⟩) (hX.block w.heap.size hbm (by unfold Fx; have := HWB.out; have := HWM.out; omega))).trans y4, (World.cell?_of_block (a := ⟨xb, xo + k * 2, none⟩) (hX.block xb hxr (by unfold Fx; have := HWB.out; have := HWM.out; omega))).trans d0, (World.cell?_of_block (a := ⟨xb, xo + k * 2 + 1, none⟩) (hX.block xb hxr (by unfold Fx; have := HWB.out; have := HWM.out; omega))).trans d1⟩
   have st := Tp.init wo
   have hS := HSX.out _ st.bel
   clear bx ok hf d0 d1 x0 x1 x2 x3 x4 x5 y0 y1 y2 y3 y4 y5 hBw hbl hbm hxb hxr
   refine Hd.start (fun X => X.cell? ⟨b2, 4, none⟩ = some (.slice ka k kc) ∧ X.cell? ⟨w.heap.size, 4, none⟩ = some (.slice (some ⟨xb, xo, none⟩) m.ks.length ck) ∧ X.cell? ⟨xb, xo + k * 2, none⟩ = some (.slice a0 t.ws.length c0) ∧ X.cell? ⟨xb, xo + k * 2 + 1, none⟩ = some (.slice a1 t.vs.length c1)) 22 (by kernel_rfl) ?_
   generalize wo.drew = w0 at st hS ⊢
   refine Hd.After.pureD (i := 0) (some 20) (.pointer (some ⟨b2, 4, none⟩)) rfl rfl (by kernel_rfl) (by decide) (by kernel_rfl) (by kernel_rfl) (fun _ _ _ h => h) (hS) (Or.inl ⟨by rfl, ?_⟩) ?_
   ·
    intro X; go_simp; try with_reducible rfl
   (first | simp only [Act.put, List.setIfInBounds_toArray, List.set_cons_zero, List.set_cons_succ] | skip)
   refine Hd.After.takeD (i := 1) (some 21) (.slice ka k kc) rfl rfl (by kernel_rfl) (by kernel_rfl) (by kernel_rfl) (by kernel_rfl) (by kernel_rfl) (fun _ _ _ h => h) (hS) (Or.inl ⟨by rfl, ?_⟩) ?_
   ·
    rintro X ⟨s0, s1, s2, s3⟩; go_simp; try with_reducible rfl
   (first | simp only [Act.put, List.setIfInBounds_toArray, List.set_cons_zero, List.set_cons_succ] | skip)
   refine Hd.After.pureD (i := 3) (some 23) (.pointer (some ⟨w.heap.size, 4, none⟩)) rfl rfl (by kernel_rfl) (by decide) (by kernel_rfl) (by kernel_rfl) (fun _ _ _ h => h) (hS) (Or.inl ⟨by rfl, ?_⟩) ?_
   ·
    intro X; go_simp; try with_reducible rfl
   (first | simp only [Act.put, List.setIfInBounds_toArray, List.set_cons_zero, List.set_cons_succ] | skip)
   refine Hd.After.takeD (i := 4) (some 24) (.slice (some ⟨xb, xo, none⟩) m.ks.length ck) rfl rfl (by kernel_rfl) (by kernel_rfl) (by kernel_rfl) (by kernel_rfl) (by kernel_rfl) (fun _ _ _ h => h) (hS) (Or.inl ⟨by rfl, ?_⟩) ?_
   ·
    rintro X ⟨s0, s1, s2, s3⟩; go_simp; try with_reducible rfl
   (first | simp only [Act.put, List.setIfInBounds_toArray, List.set_cons_zero, List.set_cons_succ] | skip)
   refine Hd.After.pureD (i := 5) (some 25) (.int .i64 (k : Int)) rfl rfl (by kernel_rfl) (by decide) (by kernel_rfl) (by kernel_rfl) (fun _ _ _ h => h) (hS) (Or.inl ⟨by rfl, ?_⟩) ?_
   ·
    intro X; go_simp; try with_reducible rfl
   (first | simp only [Act.put, List.setIfInBounds_toArray, List.set_cons_zero, List.set_cons_succ] | skip)
   refine Hd.After.pureD (i := 6) (some 26) (.pointer (some ⟨xb, xo + k * 2, none⟩)) rfl rfl (by kernel_rfl) (by decide) (by kernel_rfl) (by kernel_rfl) (fun _ _ _ h => h) (hS) (Or.inl ⟨by rfl, ?_⟩) ?_
   ·
    intro X; go_simp; try with_reducible rfl
   (first | simp only [Act.put, List.setIfInBounds_toArray, List.set_cons_zero, List.set_cons_succ] | skip)
   refine Hd.After.pureD (i := 7) (some 27) (.pointer (some ⟨xb, xo + k * 2, none⟩)) rfl rfl (by kernel_rfl) (by decide) (by kernel_rfl) (by kernel_rfl) (fun _ _ _ h => h) (hS) (Or.inl ⟨by rfl, ?_⟩) ?_
   ·
    intro X; go_simp; try with_reducible rfl
   (first | simp only [Act.put, List.setIfInBounds_toArray, List.set_cons_zero, List.set_cons_succ] | skip)
   refine Hd.After.takeD (i := 8) (some 28) (.slice a0 t.ws.length c0) rfl rfl (by kernel_rfl) (by kernel_rfl) (by kernel_rfl) (by kernel_rfl) (by kernel_rfl) (fun _ _ _ h => h) (hS) (Or.inl ⟨by rfl, ?_⟩) ?_
   ·
    rintro X ⟨s0, s1, s2, s3⟩; go_simp; try with_reducible rfl
   (first | simp only [Act.put, List.setIfInBounds_toArray, List.set_cons_zero, List.set_cons_succ] | skip)
   refine Hd.After.pureD (i := 11) (some 31) (.pointer (some ⟨w.heap.size, 4, none⟩)) rfl rfl (by kernel_rfl) (by decide) (by kernel_rfl) (by kernel_rfl) (fun _ _ _ h => h) (hS) (Or.inl ⟨by rfl, ?_⟩) ?_
   ·
    intro X; go_simp; try with_reducible rfl
   (first | simp only [Act.put, List.setIfInBounds_toArray, List.set_cons_zero, List.set_cons_succ] | skip)
   refine Hd.After.takeD (i := 12) (some 32) (.slice (some ⟨xb, xo, none⟩) m.ks.length ck) rfl rfl (by kernel_rfl) (by kernel_rfl) (by kernel_rfl) (by kernel_rfl) (by kernel_rfl) (fun _ _ _ h => h) (hS) (Or.inl ⟨by rfl, ?_⟩) ?_
   ·
    rintro X ⟨s0, s1, s2, s3⟩; go_simp; try with_reducible rfl
   (first | simp only [Act.put, List.setIfInBounds_toArray, List.set_cons_zero, List.set_cons_succ] | skip)
   refine Hd.After.pureD (i := 13) (some 33) (.int .i64 (k : Int)) rfl rfl (by kernel_rfl) (by decide) (by kernel_rfl) (by kernel_rfl) (fun _ _ _ h => h) (hS) (Or.inl ⟨by rfl, ?_⟩) ?_
   ·
    intro X; go_simp; try with_reducible rfl
   (first | simp only [Act.put, List.setIfInBounds_toArray, List.set_cons_zero, List.set_cons_succ] | skip)
   refine Hd.After.pureD (i := 14) (some 34) (.pointer (some ⟨xb, xo + k * 2, none⟩)) rfl rfl (by kernel_rfl) (by decide) (by kernel_rfl) (by kernel_rfl) (fun _ _ _ h => h) (hS) (Or.inl ⟨by rfl, ?_⟩) ?_
   ·
    intro X; go_simp; try with_reducible rfl
   (first | simp only [Act.put, List.setIfInBounds_toArray, List.set_cons_zero, List.set_cons_succ] | skip)
   refine Hd.After.pureD (i := 15) (some 35) (.pointer (some ⟨xb, xo + k * 2 + 1, none⟩)) rfl rfl (by kernel_rfl) (by decide) (by kernel_rfl) (by kernel_rfl) (fun _ _ _ h => h) (hS) (Or.inl ⟨by rfl, ?_⟩) ?_
   ·
    intro X; go_simp; try with_reducible rfl
   (first | simp only [Act.put, List.setIfInBounds_toArray, List.set_cons_zero, List.set_cons_succ] | skip)
   refine Hd.After.takeD (i := 16) (some 36) (.slice a1 t.vs.length c1) rfl rfl (by kernel_rfl) (by kernel_rfl) (by kernel_rfl) (by kernel_rfl) (by kernel_rfl) (fun _ _ _ h => h) (hS) (Or.inl ⟨by rfl, ?_⟩) ?_
   ·
    rintro X ⟨s0, s1, s2, s3⟩; go_simp; try with_reducible rfl
   (first | simp only [Act.put, List.setIfInBounds_toArray, List.set_cons_zero, List.set_cons_succ] | skip)
   refine Hd.After.two (i := 2) (j := 10) (by kernel_rfl) rfl rfl rfl rfl ?_ ?_
   ·
    intro K hK
    go_simp
    obtain ⟨wq1, g2, hw, hg, st1⟩ := st.newM 9 1
    rw [hw, hg]
    clear hw hg
    refine hK _ _ (fun _ => HSX.out _ st1.bel) ?_
    clear hK K
    (first | simp only [Act.put, List.setIfInBounds_toArray, List.set_cons_zero, List.set_cons_succ] | skip)
    refine Hd.After.two (i := 9) (j := 10) (by kernel_rfl) rfl rfl rfl rfl ?_ ?_
    ·
     intro K hK
     refine wp_appS0 _ _ rfl (some 29) rfl wo.heap.size g2 _ _ _ t.ws rfl rfl rfl (st1.oM _ _ rfl) (i0.below st1.bel) hl0 st1.bel.size ?_
     intro k0 d0 wq2 oo0 hg0 hk0
     have st2 := st1.fillM oo0 hg0 hk0
     clear hg0 hk0
     refine hK _ _ (fun _ => HSX.out _ st2.bel) ?_
     clear hK K
     (first | simp only [Act.put, List.setIfInBounds_toArray, List.set_cons_zero, List.set_cons_succ] | skip)
     refine Hd.After.one (i := 10) (by kernel_rfl) rfl rfl ?_
     intro K hK
     go_simp
     obtain ⟨wq3, g10, hw, hg, st3⟩ := st2.newC 3 1
     rw [hw, hg]
     clear hw hg
     refine hK _ _ (fun _ => HSX.out _ st3.bel) ?_
     clear hK K
     (first | simp only [Act.put, List.setIfInBounds_toArray, List.set_cons_zero, List.set_cons_succ] | skip)
     refine Hd.After.one (i := 17) (by kernel_rfl) rfl rfl ?_
     intro K hK
     refine wp_appI0 _ _ rfl (some 37) rfl wo.heap.size g10 _ _ _ t.vs rfl rfl rfl (st3.oC _ _ rfl) (i1.below st3.bel) hl1 st3.bel.size ?_
     intro k1 d1 w5 oo1 hg1 hk1
     have st4 := st3.fillC oo1 hg1 hk1
     clear hg1 hk1
     refine hK _ _ (fun _ => HSX.out _ st4.bel) ?_
     clear hK K
     (first | simp only [Act.put, List.setIfInBounds_toArray, List.set_cons_zero, List.set_cons_succ] | skip)
     refine Hd.After.pureD (i := 18) (some 38) (.agg #[.slice (some ⟨k0, 0, none⟩) t.ws.length d0, .slice (some ⟨k1, 0, none⟩) t.vs.length d1]) rfl rfl (by kernel_rfl) (by decide) (by kernel_rfl) (by kernel_rfl) (fun _ _ _ h => h) (HSX.out _ st4.bel) (Or.inl ⟨by rfl, ?_⟩) ?_
     ·
      intro X; go_simp; try with_reducible rfl
     (first | simp only [Act.put, List.setIfInBounds_toArray, List.set_cons_zero, List.set_cons_succ] | skip)
     obtain ⟨o0, o1, h01⟩ := st4.fin
     have st5 := st4.bel
     have h05 : wo.heap.size ≤ wo.heap.size := Nat.le_refl _
     clear st st1 st2 st3 st4 oo0 oo1
     have hA : Below w5.heap.size w5 (w5.alloc (.cells #[.slice (some ⟨k0, 0, none⟩) t.ws.length d0, .slice (some ⟨k1, 0, none⟩) t.vs.length d1] 56)) := (Below.refl _ _).alloc (Nat.le_refl _) _
     have st6 := st5.trans (hA.mono st5.size)
     refine Hd.After.one (i := 19) (by kernel_rfl) rfl rfl ?_
     intro K hK
     go_simp
     refine hK _ _ (fun _ => HSX.out _ st6) ?_
     clear hK K
     (first | simp only [Act.put, List.setIfInBounds_toArray, List.set_cons_zero, List.set_cons_succ] | skip)
     refine Hd.After.one (i := 20) (by kernel_rfl) rfl rfl ?_
     intro K hK
     refine wp_pushK _ _ rfl (some 40) rfl (fun y => M0 ≤ y) wo.heap.size _ (m.ks.take k) (HOK.out.below st6) w5.heap.size _ _ _ _ _ _ t rfl rfl (by simp) (by simp) ((o0.below hA).mono (by have := h05; omega)) ((o1.below hA).mono (by have := h05; omega)) h01 (fun y hy => by have := HM0.out; omega) st6.size (by rw [HTL.out]; omega) (k + 1) (by rw [HTL.out]) ?_
     intro a7 c7 w7 hok7 hg7
     rw [← HTK.out] at hok7
     have hf67 : Fr (Fx b2 M0) wo w7 := (fx_below st6).trans (fx_grown hg7 HVB.out)
     have hf7 : Fr (Fx b2 M0) w2 w7 := HF.out.trans hf67
     have hb7 : Wr w7 b2 0 [.int .i64 m.n, .int .i64 m.c, .int .i64 m.prior, .int .i64 m.base, .slice ka k kc, .slice none 0 0] := (HBX.out.below st6).keptAt hg7.size (hg7.block b2 (Nat.lt_of_lt_of_le HBX.out.1 st6.size) (fun e => by have := HVB.out b2 e.symm; have := HMB.out; omega))
     obtain ⟨hl7, ⟨p0, p1, p2, p3, p4, p5⟩, q0, q1, q2, q3, q4, q5⟩ := wr6 hb7
     have hS7 := HS7.out w7 hf67 p4
     clear hg7 hf67
     refine hK _ _ (fun _ => hS7) ?_
     clear hK K
     (first | simp only [Act.put, List.setIfInBounds_toArray, List.set_cons_zero, List.set_cons_succ] | skip)
     refine Hd.After.pureD (i := 21) (some 41) (.pointer (some ⟨b2, 4, none⟩)) rfl rfl (by kernel_rfl) (by decide) (by kernel_rfl) (by kernel_rfl) (fun _ _ _ h => h) (hS7) (Or.inl ⟨by rfl, ?_⟩) ?_
     ·
      intro X; go_simp; try with_reducible rfl
     (first | simp only [Act.put, List.setIfInBounds_toArray, List.set_cons_zero, List.set_cons_succ] | skip)
     refine Hd.After.one (i := 22) (by kernel_rfl) rfl rfl ?_
     intro K hK
     go_simp
     refine hK _ _ (fun h => by cases h) ?_
     clear hK K
     refine Hd.After.done (by kernel_rfl) ?_ _
     have HB8 : Hid (Wr (w7.setCell ⟨b2, 4, none⟩ (.slice a7 (k + 1) c7)) b2 0 [.int .i64 m.n, .int .i64 m.c, .int .i64 m.prior, .int .i64 m.base, .slice a7 (k + 1) c7, .slice none 0 0]) := hb7.set 4 (by simp) _
     have HO8 : Hid (OwK (w7.setCell ⟨b2, 4, none⟩ (.slice a7 (k + 1) c7)) (fun y => M0 ≤ y) (.slice a7 (k + 1) c7) (m.ks.take (k + 1))) := hok7.fr (fr_grown (B := fun y => y = b2) (Li.grown_set w7 b2 4 _) rfl) (fun y hy e => by have := HMB.out; omega)
     have HF8 : Hid (Fr (Fx b2 M0) w2 (w7.setCell ⟨b2, 4, none⟩ (.slice a7 (k + 1) c7))) := hf7.trans (fx_set w7 4 _)
     clear hS hS7 st5 st6 hA o0 o1 h01 hok7 hf7 hb7 p0 p1 p2 p3 p4 p5 q0 q1 q2 q3 q4 q5 i0 i1 HSX HS7
     go_wp2
     go_roundw
     case rel => exact ⟨k + 1, a7, c7, by omega, by go_num, HB8.out, HO8.out, HF8.out⟩
     case measure => simp [intOf]; omega
    ·
     intro K hK
     go_simp
     obtain ⟨wq2, g10, hw, hg, st2⟩ := st1.newC 3 1
     rw [hw, hg]
     clear hw hg
     refine hK _ _ (fun _ => HSX.out _ st2.bel) ?_
     clear hK K
     (first | simp only [Act.put, List.setIfInBounds_toArray, List.set_cons_zero, List.set_cons_succ] | skip)
     refine Hd.After.one (i := 9) (by kernel_rfl) rfl rfl ?_
     intro K hK
     refine wp_appS0 _ _ rfl (some 29) rfl wo.heap.size g2 _ _ _ t.ws rfl rfl rfl (st2.oM _ _ rfl) (i0.below st2.bel) hl0 st2.bel.size ?_
     intro k0 d0 wq3 oo0 hg0 hk0
     have st3 := st2.fillM oo0 hg0 hk0
     clear hg0 hk0
     refine hK _ _ (fun _ => HSX.out _ st3.bel) ?_
     clear hK K
     (first | simp only [Act.put, List.setIfInBounds_toArray, List.set_cons_zero, List.set_cons_succ] | skip)
     refine Hd.After.one (i := 17) (by kernel_rfl) rfl rfl ?_
     intro K hK
     refine wp_appI0 _ _ rfl (some 37) rfl wo.heap.size g10 _ _ _ t.vs rfl rfl rfl (st3.oC _ _ rfl) (i1.below st3.bel) hl1 st3.bel.size ?_
     intro k1 d1 w5 oo1 hg1 hk1
     have st4 := st3.fillC oo1 hg1 hk1
     clear hg1 hk1
     refine hK _ _ (fun _ => HSX.out _ st4.bel) ?_
     clear hK K
     (first | simp only [Act.put, List.setIfInBounds_toArray, List.set_cons_zero, List.set_cons_succ] | skip)
     refine Hd.After.pureD (i := 18) (some 38) (.agg #[.slice (some ⟨k0, 0, none⟩) t.ws.length d0, .slice (some ⟨k1, 0, none⟩) t.vs.length d1]) rfl rfl (by kernel_rfl) (by decide) (by kernel_rfl) (by kernel_rfl) (fun _ _ _ h => h) (HSX.out _ st4.bel) (Or.inl ⟨by rfl, ?_⟩) ?_
     ·
      intro X; go_simp; try with_reducible rfl
     (first | simp only [Act.put, List.setIfInBounds_toArray, List.set_cons_zero, List.set_cons_succ] | skip)
     obtain ⟨o0, o1, h01⟩ := st4.fin
     have st5 := st4.bel
     have h05 : wo.heap.size ≤ wo.heap.size := Nat.le_refl _
     clear st st1 st2 st3 st4 oo0 oo1
     have hA : Below w5.heap.size w5 (w5.alloc (.cells #[.slice (some ⟨k0, 0, none⟩) t.ws.length d0, .slice (some ⟨k1, 0, none⟩) t.vs.length d1] 56)) := (Below.refl _ _).alloc (Nat.le_refl _) _
     have st6 := st5.trans (hA.mono st5.size)
     refine Hd.After.one (i := 19) (by kernel_rfl) rfl rfl ?_
     intro K hK
     go_simp
     refine hK _ _ (fun _ => HSX.out _ st6) ?_
     clear hK K
     (first | simp only [Act.put, List.setIfInBounds_toArray, List.set_cons_zero, List.set_cons_succ] | skip)
     refine Hd.After.one (i := 20) (by kernel_rfl) rfl rfl ?_
     intro K hK
     refine wp_pushK _ _ rfl (some 40) rfl (fun y => M0 ≤ y) wo.heap.size _ (m.ks.take k) (HOK.out.below st6) w5.heap.size _ _ _ _ _ _ t rfl rfl (by simp) (by simp) ((o0.below hA).mono (by have := h05; omega)) ((o1.below hA).mono (by have := h05; omega)) h01 (fun y hy => by have := HM0.out; omega) st6.size (by rw [HTL.out]; omega) (k + 1) (by rw [HTL.out]) ?_
     intro a7 c7 w7 hok7 hg7
     rw [← HTK.out] at hok7
     have hf67 : Fr (Fx b2 M0) wo w7 := (fx_below st6).trans (fx_grown hg7 HVB.out)
     have hf7 : Fr (Fx b2 M0) w2 w7 := HF.out.trans hf67
     have hb7 : Wr w7 b2 0 [.int .i64 m.n, .int .i64 m.c, .int .i64 m.prior, .int .i64 m.base, .slice ka k kc, .slice none 0 0] := (HBX.out.below st6).keptAt hg7.size (hg7.block b2 (Nat.lt_of_lt_of_le HBX.out.1 st6.size) (fun e => by have := HVB.out b2 e.symm; have := HMB.out; omega))
     obtain ⟨hl7, ⟨p0, p1, p2, p3, p4, p5⟩, q0, q1, q2, q3, q4, q5⟩ := wr6 hb7
     have hS7 := HS7.out w7 hf67 p4
     clear hg7 hf67
     refine hK _ _ (fun _ => hS7) ?_
     clear hK K
     (first | simp only [Act.put, List.setIfInBounds_toArray, List.set_cons_zero, List.set_cons_succ] | skip)
     refine Hd.After.pureD (i := 21) (some 41) (.pointer (some ⟨b2, 4, none⟩)) rfl rfl (by kernel_rfl) (by decide) (by kernel_rfl) (by kernel_rfl) (fun _ _ _ h => h) (hS7) (Or.inl ⟨by rfl, ?_⟩) ?_
     ·
      intro X; go_simp; try with_reducible rfl
     (first | simp only [Act.put, List.setIfInBounds_toArray, List.set_cons_zero, List.set_cons_succ] | skip)
     refine Hd.After.one (i := 22) (by kernel_rfl) rfl rfl ?_
     intro K hK
     go_simp
     refine hK _ _ (fun h => by cases h) ?_
     clear hK K
     refine Hd.After.done (by kernel_rfl) ?_ _
     have HB8 : Hid (Wr (w7.setCell ⟨b2, 4, none⟩ (.slice a7 (k + 1) c7)) b2 0 [.int .i64 m.n, .int .i64 m.c, .int .i64 m.prior, .int .i64 m.base, .slice a7 (k + 1) c7, .slice none 0 0]) := hb7.set 4 (by simp) _
     have HO8 : Hid (OwK (w7.setCell ⟨b2, 4, none⟩ (.slice a7 (k + 1) c7)) (fun y => M0 ≤ y) (.slice a7 (k + 1) c7) (m.ks.take (k + 1))) := hok7.fr (fr_grown (B := fun y => y = b2) (Li.grown_set w7 b2 4 _) rfl) (fun y hy e => by have := HMB.out; omega)
     have HF8 : Hid (Fr (Fx b2 M0) w2 (w7.setCell ⟨b2, 4, none⟩ (.slice a7 (k + 1) c7))) := hf7.trans (fx_set w7 4 _)
     clear hS hS7 st5 st6 hA o0 o1 h01 hok7 hf7 hb7 p0 p1 p2 p3 p4 p5 q0 q1 q2 q3 q4 q5 i0 i1 HSX HS7
     go_wp2
     go_roundw
     case rel => exact ⟨k + 1, a7, c7, by omega, by go_num, HB8.out, HO8.out, HF8.out⟩
     case measure => simp [intOf]; omega
   ·
    intro K hK
    go_simp
    obtain ⟨wq1, g10, hw, hg, st1⟩ := st.newC 3 1
    rw [hw, hg]
    clear hw hg
    refine hK _ _ (fun _ => HSX.out _ st1.bel) ?_
    clear hK K
    (first | simp only [Act.put, List.setIfInBounds_toArray, List.set_cons_zero, List.set_cons_succ] | skip)
    refine Hd.After.one (i := 2) (by kernel_rfl) rfl rfl ?_
    intro K hK
    go_simp
    obtain ⟨wq2, g2, hw, hg, st2⟩ := st1.newM 9 1
    rw [hw, hg]
    clear hw hg
    refine hK _ _ (fun _ => HSX.out _ st2.bel) ?_
    clear hK K
    (first | simp only [Act.put, List.setIfInBounds_toArray, List.set_cons_zero, List.set_cons_succ] | skip)
    refine Hd.After.one (i := 9) (by kernel_rfl) rfl rfl ?_
    intro K hK
    refine wp_appS0 _ _ rfl (some 29) rfl wo.heap.size g2 _ _ _ t.ws rfl rfl rfl (st2.oM _ _ rfl) (i0.below st2.bel) hl0 st2.bel.size ?_
    intro k0 d0 wq3 oo0 hg0 hk0
    have st3 := st2.fillM oo0 hg0 hk0
    clear hg0 hk0
    refine hK _ _ (fun _ => HSX.out _ st3.bel) ?_
    clear hK K
    (first | simp only [Act.put, List.setIfInBounds_toArray, List.set_cons_zero, List.set_cons_succ] | skip)
    refine Hd.After.one (i := 17) (by kernel_rfl) rfl rfl ?_
    intro K hK
    refine wp_appI0 _ _ rfl (some 37) rfl wo.heap.size g10 _ _ _ t.vs rfl rfl rfl (st3.oC _ _ rfl) (i1.below st3.bel) hl1 st3.bel.size ?_
    intro k1 d1 w5 oo1 hg1 hk1
    have st4 := st3.fillC oo1 hg1 hk1
    clear hg1 hk1
    refine hK _ _ (fun _ => HSX.out _ st4.bel) ?_
    clear hK K
    (first | simp only [Act.put, List.setIfInBounds_toArray, List.set_cons_zero, List.set_cons_succ] | skip)
    refine Hd.After.pureD (i := 18) (some 38) (.agg #[.slice (some ⟨k0, 0, none⟩) t.ws.length d0, .slice (some ⟨k1, 0, none⟩) t.vs.length d1]) rfl rfl (by kernel_rfl) (by decide) (by kernel_rfl) (by kernel_rfl) (fun _ _ _ h => h) (HSX.out _ st4.bel) (Or.inl ⟨by rfl, ?_⟩) ?_
    ·
     intro X; go_simp; try with_reducible rfl
    (first | simp only [Act.put, List.setIfInBounds_toArray, List.set_cons_zero, List.set_cons_succ] | skip)
    obtain ⟨o0, o1, h01⟩ := st4.fin
    have st5 := st4.bel
    have h05 : wo.heap.size ≤ wo.heap.size := Nat.le_refl _
    clear st st1 st2 st3 st4 oo0 oo1
    have hA : Below w5.heap.size w5 (w5.alloc (.cells #[.slice (some ⟨k0, 0, none⟩) t.ws.length d0, .slice (some ⟨k1, 0, none⟩) t.vs.length d1] 56)) := (Below.refl _ _).alloc (Nat.le_refl _) _
    have st6 := st5.trans (hA.mono st5.size)
    refine Hd.After.one (i := 19) (by kernel_rfl) rfl rfl ?_
    intro K hK
    go_simp
    refine hK _ _ (fun _ => HSX.out _ st6) ?_
    clear hK K
    (first | simp only [Act.put, List.setIfInBounds_toArray, List.set_cons_zero, List.set_cons_succ] | skip)
    refine Hd.After.one (i := 20) (by kernel_rfl) rfl rfl ?_
    intro K hK
    refine wp_pushK _ _ rfl (some 40) rfl (fun y => M0 ≤ y) wo.heap.size _ (m.ks.take k) (HOK.out.below st6) w5.heap.size _ _ _ _ _ _ t rfl rfl (by simp) (by simp) ((o0.below hA).mono (by have := h05; omega)) ((o1.below hA).mono (by have := h05; omega)) h01 (fun y hy => by have := HM0.out; omega) st6.size (by rw [HTL.out]; omega) (k + 1) (by rw [HTL.out]) ?_
    intro a7 c7 w7 hok7 hg7
    rw [← HTK.out] at hok7
    have hf67 : Fr (Fx b2 M0) wo w7 := (fx_below st6).trans (fx_grown hg7 HVB.out)
    have hf7 : Fr (Fx b2 M0) w2 w7 := HF.out.trans hf67
    have hb7 : Wr w7 b2 0 [.int .i64 m.n, .int .i64 m.c, .int .i64 m.prior, .int .i64 m.base, .slice ka k kc, .slice none 0 0] := (HBX.out.below st6).keptAt hg7.size (hg7.block b2 (Nat.lt_of_lt_of_le HBX.out.1 st6.size) (fun e => by have := HVB.out b2 e.symm; have := HMB.out; omega))
    obtain ⟨hl7, ⟨p0, p1, p2, p3, p4, p5⟩, q0, q1, q2, q3, q4, q5⟩ := wr6 hb7
    have hS7 := HS7.out w7 hf67 p4
    clear hg7 hf67
    refine hK _ _ (fun _ => hS7) ?_
    clear hK K
    (first | simp only [Act.put, List.setIfInBounds_toArray, List.set_cons_zero, List.set_cons_succ] | skip)
    refine Hd.After.pureD (i := 21) (some 41) (.pointer (some ⟨b2, 4, none⟩)) rfl rfl (by kernel_rfl) (by decide) (by kernel_rfl) (by kernel_rfl) (fun _ _ _ h => h) (hS7) (Or.inl ⟨by rfl, ?_⟩) ?_
    ·
     intro X; go_simp; try with_reducible rfl
    (first | simp only [Act.put, List.setIfInBounds_toArray, List.set_cons_zero, List.set_cons_succ] | skip)
    refine Hd.After.one (i := 22) (by kernel_rfl) rfl rfl ?_
    intro K hK
    go_simp
    refine hK _ _ (fun h => by cases h) ?_
    clear hK K
    refine Hd.After.done (by kernel_rfl) ?_ _
    have HB8 : Hid (Wr (w7.setCell ⟨b2, 4, none⟩ (.slice a7 (k + 1) c7)) b2 0 [.int .i64 m.n, .int .i64 m.c, .int .i64 m.prior, .int .i64 m.base, .slice a7 (k + 1) c7, .slice none 0 0]) := hb7.set 4 (by simp) _
    have HO8 : Hid (OwK (w7.setCell ⟨b2, 4, none⟩ (.slice a7 (k + 1) c7)) (fun y => M0 ≤ y) (.slice a7 (k + 1) c7) (m.ks.take (k + 1))) := hok7.fr (fr_grown (B := fun y => y = b2) (Li.grown_set w7 b2 4 _) rfl) (fun y hy e => by have := HMB.out; omega)
    have HF8 : Hid (Fr (Fx b2 M0) w2 (w7.setCell ⟨b2, 4, none⟩ (.slice a7 (k + 1) c7))) := hf7.trans (fx_set w7 4 _)
    clear hS hS7 st5 st6 hA o0 o1 h01 hok7 hf7 hb7 p0 p1 p2 p3 p4 p5 q0 q1 q2 q3 q4 q5 i0 i1 HSX HS7
    go_wp2
    go_roundw
    case rel => exact ⟨k + 1, a7, c7, by omega, by go_num, HB8.out, HO8.out, HF8.out⟩
    case measure => simp [intOf]; omega
  ·
   obtain rfl : k = m.ks.length := by omega
   have e1 : m.ks.take m.ks.length = m.ks := List.take_of_length_le (Nat.le_refl _)
   rw [e1] at ok
   have okb := ok.bound
   generalize wr = w3 at *
   obtain ⟨M1, hM1⟩ : ∃ M1, w3.heap.size = M1 := ⟨_, rfl⟩
   rw [hM1] at okb
   have HOKK : Hid (OwK w3 (fun y => M0 ≤ y ∧ y < M1) (.slice ka m.ks.length kc) m.ks) := okb
   have HBX0 : Hid (type_of% bx) := bx
   have HBR3 : Hid (type_of% (HBR.out.keptAt hf.size (hf.block _ HBR.out.1 (by unfold Fx; have := HWB.out; have := HWM.out; omega)))) := HBR.out.keptAt hf.size (hf.block _ HBR.out.1 (by unfold Fx; have := HWB.out; have := HWM.out; omega))
   have HBM : Hid (type_of% HBMr.out) := HBMr.out
   have HBW3 : Hid (Below w.heap.size w w3) := hBw
   have HWM1 : Hid (w.heap.size + 2 ≤ M1) := by have := HWM.out; have := HWS.out; show _ ≤ _; omega
   have HWS1 : Hid (M1 ≤ w3.heap.size) := by show _ ≤ _; omega
   have HMB1 : Hid (b2 < M1) := by have := HMB.out; have := HWS.out; show _ < _; omega
   have HM01 : Hid (M0 ≤ M1) := by have := HWS.out; show _ ≤ _; omega
   clear e1 ok okb bx hf hM1 hBw hs2 x0 x1 x2 x3 x4 x5 hlt HBMr
   go_wp2
   clear y0 y1 y2 y3 y4 y5
   go_loopw [5] (fun i wr => ∃ (k : Nat) (ac : Option Addr) (cc : Nat), k ≤ m.ts.length ∧ i = .int .i64 k ∧ Wr wr b2 0 [.int .i64 m.n, .int .i64 m.c, .int .i64 m.prior, .int .i64 m.base, .slice ka m.ks.length kc, .slice ac k cc] ∧ OwT wr (fun y => M1 ≤ y) (.slice ac k cc) (m.ts.take k) ∧ Fr (Fx b2 M1) w3 wr) (fun i _ => m.ts.length - (intOf i).toNat)
   case atStart => exact ⟨0, none, 0, Nat.zero_le _, rfl, HBX0.out, OwT.nil _ _, Fr.refl _ _⟩
   case round =>
    clear HBX0
    obtain ⟨k, ac, cc, hk, rfl, bx, ok, hf⟩ := hrel
    have hs2 := hf.size
    have hBw : Below w.heap.size w wr := HBW3.out.trans (fx_bel hf (by have := HWB.out; omega) (by have := HWM1.out; omega) HBW3.out.size)
    have HBMr : Hid (type_of% (HBM.out.keptAt hf.size (hf.block _ HBM.out.1 (by unfold Fx; have := HWB.out; have := HWM1.out; omega)))) := HBM.out.keptAt hf.size (hf.block _ HBM.out.1 (by unfold Fx; have := HWB.out; have := HWM1.out; omega))
    obtain ⟨hbl, ⟨x0, x1, x2, x3, x4, x5⟩, _⟩ := wr6 bx
    obtain ⟨hbm, ⟨y0, y1, y2, y3, y4, y5⟩, _⟩ := wr6 HBMr.out
    by_cases hlt : k < m.ts.length
    ·
     rcases h.t with e0 | ⟨xb, xo, rfl, hxb, hxc⟩
     ·
      rw [e0] at hlt; simp at hlt
     obtain ⟨v0, v1, ⟨d0, d1⟩, a0, c0, a1, c1, rfl, rfl, i0, i1⟩ := hxc k hlt
     have hl01 := ts_at HL.out k hlt
     have HTK : Hid (m.ts.take (k + 1) = m.ts.take k ++ [m.ts[k]]) := List.take_succ_eq_append_getElem hlt
     have HTL : Hid ((m.ts.take k).length = k) := by show _ = _; rw [List.length_take]; omega
     have hk40 : k ≤ 40 := by have := HKL.out; omega
     have hki : (k : Int) < (m.ts.length : Int) := by omega
     generalize m.ts[k] = t at d0 d1 i0 i1 HTK hl01
     have d0 := (hBw.cell (p := ⟨xb, xo + k * 2, none⟩) hxb).trans d0
     have d1 := (hBw.cell (p := ⟨xb, xo + k * 2 + 1, none⟩) hxb).trans d1
     have i0 := i0.below hBw
     have i1 := i1.below hBw
     have hxr : xb < wr.heap.size := Nat.lt_of_lt_of_le hxb hBw.size
     clear hxc
     obtain ⟨wo, hwo⟩ : ∃ wo, wo = wr := ⟨_, rfl⟩
     rw [← hwo] at bx ok hf hBw HBMr hbl hbm x0 x1 x2 x3 x4 x5 y0 y1 y2 y3 y4 y5 d0 d1 i0 i1 hxr hs2 ⊢
     clear hwo
     go_wp2_with fail
     have HVB : Hid (∀ y, (Value.slice ac k cc).ownBlock = some y → M1 ≤ y) := fun y ey => by obtain ⟨_, _, _, _, hv, _⟩ := ok; exact hv y ey
     have HOK : Hid (OwT wo (fun y => M1 ≤ y ∧ y < wo.heap.size) (.slice ac k cc) (m.ts.take k)) := ok.bound
     have HBX : Hid (Wr wo b2 0 [.int .i64 m.n, .int .i64 m.c, .int .i64 m.prior, .int .i64 m.base, .slice ka m.ks.length kc, .slice ac k cc]) := bx
     have HF : Hid (Fr (Fx b2 M1) w3 wo) := hf
     have HM0 : Hid (M1 ≤ wo.heap.size) := by have := HWS1.out; show _ ≤ _; omega
     have HSX : Hid (∀ X : World, Below wo.heap.size wo X → X.cell? ⟨b2, 5, none⟩ = some (.slice ac k cc) ∧ X.cell? ⟨w.heap.size, 5, none⟩ = some (.slice (some ⟨xb, xo, none⟩) m.ts.length ct) ∧ X.cell? ⟨xb, xo + k * 2, none⟩ = some (.slice a0 t.sp.length c0) ∧ X.cell? ⟨xb, xo + k * 2 + 1, none⟩ = some (.slice a1 t.lv.length c1)) := fun X hX => ⟨(hX.cell (p := ⟨b2, 5, none⟩) hbl).trans x5, (hX.cell (p := ⟨w.heap.size, 5, none⟩) hbm).trans y5, (hX.cell (p := ⟨xb, xo + k * 2, none⟩) hxr).trans d0, (hX.cell (p := ⟨xb, xo + k * 2 + 1, none⟩) hxr).trans d1⟩
     have HS7 : Hid (∀ X : World, Fr (Fx b2 M1) wo X → X.cell? ⟨b2, 5, none⟩ = some (.slice ac k cc) → X.cell? ⟨b2, 5, none⟩ = some (.slice ac k cc) ∧ X.cell? ⟨w.heap.size, 5, none⟩ = some (.slice (some ⟨xb, xo, none⟩) m.ts.length ct) ∧ X.cell? ⟨xb, xo + k * 2, none⟩ = some (.slice a0 t.sp.length c0) ∧ X.cell? ⟨xb, xo + k * 2 + 1, none⟩ = some (.slice a1 t.lv.length c1)) := fun X hX e => ⟨e, (World.cell?_of_block (a := ⟨w.heap.size, 5, none⟩) (hX.block w.heap.size hbm (by unfold Fx; have := HWB.out; have := HWM1.out; omega))).trans y5, (World.cell?_of_block (a := ⟨xb, xo + k * 2, none⟩) (hX.block xb hxr (by unfold Fx; have := HWB.out; have := HWM1.out; omega))).trans d0, (World.cell?_of_block (a := ⟨xb, xo + k * 2 + 1, none⟩) (hX.block xb hxr (by unfold Fx; have := HWB.out; have := HWM1.out; omega))).trans d1⟩
     have st : Below wo.heap.size wo wo.drew := (Below.refl _ _).drew
     have hS := HSX.out _ st
     clear bx ok hf d0 d1 x0 x1 x2 x3 x4 x5 y0 y1 y2 y3 y4 y5 hBw hbl hbm hxb hxr
     refine Hd.start (fun X => X.cell? ⟨b2, 5, none⟩ = some (.slice ac k cc) ∧ X.cell? ⟨w.heap.size, 5, none⟩ = some (.slice (some ⟨xb, xo, none⟩) m.ts.length ct) ∧ X.cell? ⟨xb, xo + k * 2, none⟩ = some (.slice a0 t.sp.length c0) ∧ X.cell? ⟨xb, xo + k * 2 + 1, none⟩ = some (.slice a1 t.lv.length c1)) 11 (by kernel_rfl) ?_
     generalize wo.drew = w0 at st hS ⊢
     refine Hd.After.pureD (i := 0) (some 49) (.pointer (some ⟨b2, 5, none⟩)) rfl rfl (by kernel_rfl) (by decide) (by kernel_rfl) (by kernel_rfl) (fun _ _ _ h => h) (hS) (Or.inl ⟨by rfl, ?_⟩) ?_
     ·
      intro X; go_simp; try with_reducible rfl
     (first | simp only [Act.put, List.setIfInBounds_toArray, List.set_cons_zero, List.set_cons_succ] | skip)
     refine Hd.After.takeD (i := 1) (some 50) (.slice ac k cc) rfl rfl (by kernel_rfl) (by kernel_rfl) (by kernel_rfl) (by kernel_rfl) (by kernel_rfl) (fun _ _ _ h => h) (hS) (Or.inl ⟨by rfl, ?_⟩) ?_
     ·
      rintro X ⟨s0, s1, s2, s3⟩; go_simp; try with_reducible rfl
     (first | simp only [Act.put, List.setIfInBounds_toArray, List.set_cons_zero, List.set_cons_succ] | skip)
     refine Hd.After.pureD (i := 2) (some 51) (.pointer (some ⟨w.heap.size, 5, none⟩)) rfl rfl (by kernel_rfl) (by decide) (by kernel_rfl) (by kernel_rfl) (fun _ _ _ h => h) (hS) (Or.inl ⟨by rfl, ?_⟩) ?_
     ·
      intro X; go_simp; try with_reducible rfl
     (first | simp only [Act.put, List.setIfInBounds_toArray, List.set_cons_zero, List.set_cons_succ] | skip)
     refine Hd.After.takeD (i := 3) (some 52) (.slice (some ⟨xb, xo, none⟩) m.ts.length ct) rfl rfl (by kernel_rfl) (by kernel_rfl) (by kernel_rfl) (by kernel_rfl) (by kernel_rfl) (fun _ _ _ h => h) (hS) (Or.inl ⟨by rfl, ?_⟩) ?_
     ·
      rintro X ⟨s0, s1, s2, s3⟩; go_simp; try with_reducible rfl
     (first | simp only [Act.put, List.setIfInBounds_toArray, List.set_cons_zero, List.set_cons_succ] | skip)
     refine Hd.After.pureD (i := 4) (some 53) (.int .i64 (k : Int)) rfl rfl (by kernel_rfl) (by decide) (by kernel_rfl) (by kernel_rfl) (fun _ _ _ h => h) (hS) (Or.inl ⟨by rfl, ?_⟩) ?_
     ·
      intro X; go_simp; try with_reducible rfl
     (first | simp only [Act.put, List.setIfInBounds_toArray, List.set_cons_zero, List.set_cons_succ] | skip)
     refine Hd.After.pureD (i := 5) (some 54) (.pointer (some ⟨xb, xo + k * 2, none⟩)) rfl rfl (by kernel_rfl) (by decide) (by kernel_rfl) (by kernel_rfl) (fun _ _ _ h => h) (hS) (Or.inl ⟨by rfl, ?_⟩) ?_
     ·
      intro X; go_simp; try with_reducible rfl
     (first | simp only [Act.put, List.setIfInBounds_toArray, List.set_cons_zero, List.set_cons_succ] | skip)
     refine Hd.After.takeD (i := 6) (some 55) (.agg #[.slice a0 t.sp.length c0, .slice a1 t.lv.length c1]) rfl rfl (by kernel_rfl) (by kernel_rfl) (by kernel_rfl) (by kernel_rfl) (by kernel_rfl) (fun _ _ _ h => h) (hS) (Or.inl ⟨by rfl, ?_⟩) ?_
     ·
      rintro X ⟨s0, s1, s2, s3⟩; go_simp; try with_reducible rfl
     (first | simp only [Act.put, List.setIfInBounds_toArray, List.set_cons_zero, List.set_cons_succ] | skip)
     refine Hd.After.one (i := 7) (by kernel_rfl) rfl rfl ?_
     intro K hK
     go_simp
     go_wp2_with (go_at_call 73; refine (scopyT _ _ _ _ _ t (i0.below st) (i1.below st) hl01).mono ?_; rintro e w5 ⟨b0, d0, b1, d1, rfl, o0, o1, h01, hb⟩)
     have st5 : Below wo.heap.size wo w5 := st.trans (hb.mono st.size)
     have h05 := st.size
     clear hb
     refine hK _ _ (fun _ => HSX.out _ st5) ?_
     clear hK K
     (first | simp only [Act.put, List.setIfInBounds_toArray, List.set_cons_zero, List.set_cons_succ] | skip)
     have hA : Below w5.heap.size w5 (w5.alloc (.cells #[.slice b0 t.sp.length d0, .slice b1 t.lv.length d1] 60)) := (Below.refl _ _).alloc (Nat.le_refl _) _
     have st6 := st5.trans (hA.mono st5.size)
     refine Hd.After.one (i := 8) (by kernel_rfl) rfl rfl ?_
     intro K hK
     go_simp
     refine hK _ _ (fun _ => HSX.out _ st6) ?_
     clear hK K
     (first | simp only [Act.put, List.setIfInBounds_toArray, List.set_cons_zero, List.set_cons_succ] | skip)
     refine Hd.After.one (i := 9) (by kernel_rfl) rfl rfl ?_
     intro K hK
     refine wp_pushT _ _ rfl (some 58) rfl (fun y => M1 ≤ y) wo.heap.size _ (m.ts.take k) (HOK.out.below st6) w5.heap.size _ _ _ _ _ _ t rfl rfl (by simp) (by simp) ((o0.below hA).mono (by have := h05; omega)) ((o1.below hA).mono (by have := h05; omega)) h01 (fun y hy => by have := HM0.out; omega) st6.size (by rw [HTL.out]; omega) (k + 1) (by rw [HTL.out]) ?_
     intro a7 c7 w7 hok7 hg7
     rw [← HTK.out] at hok7
     have hf67 : Fr (Fx b2 M1) wo w7 := (fx_below st6).trans (fx_grown hg7 HVB.out)
     have hf7 : Fr (Fx b2 M1) w3 w7 := HF.out.trans hf67
     have hb7 : Wr w7 b2 0 [.int .i64 m.n, .int .i64 m.c, .int .i64 m.prior, .int .i64 m.base, .slice ka m.ks.length kc, .slice ac k cc] := (HBX.out.below st6).keptAt hg7.size (hg7.block b2 (Nat.lt_of_lt_of_le HBX.out.1 st6.size) (fun e => by have := HVB.out b2 e.symm; have := HMB1.out; omega))
     obtain ⟨hl7, ⟨p0, p1, p2, p3, p4, p5⟩, q0, q1, q2, q3, q4, q5⟩ := wr6 hb7
     have hS7 := HS7.out w7 hf67 p5
     clear hg7 hf67
     refine hK _ _ (fun _ => hS7) ?_
     clear hK K
     (first | simp only [Act.put, List.setIfInBounds_toArray, List.set_cons_zero, List.set_cons_succ] | skip)
     refine Hd.After.pureD (i := 10) (some 59) (.pointer (some ⟨b2, 5, none⟩)) rfl rfl (by kernel_rfl) (by decide) (by kernel_rfl) (by kernel_rfl) (fun _ _ _ h => h) (hS7) (Or.inl ⟨by rfl, ?_⟩) ?_
     ·
      intro X; go_simp; try with_reducible rfl
     (first | simp only [Act.put, List.setIfInBounds_toArray, List.set_cons_zero, List.set_cons_succ] | skip)
     refine Hd.After.one (i := 11) (by kernel_rfl) rfl rfl ?_
     intro K hK
     go_simp
     refine hK _ _ (fun h => by cases h) ?_
     clear hK K
     refine Hd.After.done (by kernel_rfl) ?_ _
     clear st
     have HB8 : Hid (Wr (w7.setCell ⟨b2, 5, none⟩ (.slice a7 (k + 1) c7)) b2 0 [.int .i64 m.n, .int .i64 m.c, .int .i64 m.prior, .int .i64 m.base, .slice ka m.ks.length kc, .slice a7 (k + 1) c7]) := hb7.set 5 (by simp) _
     have HO8 : Hid (OwT (w7.setCell ⟨b2, 5, none⟩ (.slice a7 (k + 1) c7)) (fun y => M1 ≤ y) (.slice a7 (k + 1) c7) (m.ts.take (k + 1))) := hok7.fr (fr_grown (B := fun y => y = b2) (Li.grown_set w7 b2 5 _) rfl) (fun y hy e => by have := HMB1.out; omega)
     have HF8 : Hid (Fr (Fx b2 M1) w3 (w7.setCell ⟨b2, 5, none⟩ (.slice a7 (k + 1) c7))) := hf7.trans (fx_set w7 5 _)
     clear hS hS7 st5 st6 hA o0 o1 h01 hok7 hf7 hb7 p0 p1 p2 p3 p4 p5 q0 q1 q2 q3 q4 q5 i0 i1 HSX HS7
     go_wp2
     go_roundw
     case rel => exact ⟨k + 1, a7, c7, by omega, by go_num, HB8.out, HO8.out, HF8.out⟩
     case measure => simp [intOf]; omega
    ·
     obtain rfl : k = m.ts.length := by omega
     have e1 : m.ts.take m.ts.length = m.ts := List.take_of_length_le (Nat.le_refl _)
     rw [e1] at ok
     have okk := HOKK.out.fr hf (fun y hy e => by rcases e with e | e; have := HMB.out; omega; omega)
     have okb := ok.bound
     obtain ⟨hrl, ⟨r0, r1, r2, r3, r4, r5⟩, f0, f1, f2, f3, f4, f5⟩ := wr6 (HBR3.out.keptAt hf.size (hf.block _ HBR3.out.1 (by unfold Fx; have := HWB.out; have := HWM1.out; omega)))
     have HEND : Hid (OwK wr (fun y => M0 ≤ y ∧ y < M1) (.slice ka m.ks.length kc) m.ks ∧ OwT wr (fun y => M1 ≤ y ∧ y < wr.heap.size) (.slice ac m.ts.length cc) m.ts) := ⟨okk, okb⟩
     have HBE : Hid (Below w.heap.size w wr) := hBw
     have HSW : Hid (M1 ≤ wr.heap.size) := by have := HWS1.out; show _ ≤ _; omega
     clear ok okk okb hf hBw e1
     go_wp2
     have hW0 := HWB.out
     have hW1 := HMB.out
     have hW2 := HM01.out
     have hsw := HSW.out
     have hset : ∀ (X : World) (o : Nat) (x : Value), Fr (fun y => y = w.heap.size + 1) X (X.setCell ⟨w.heap.size + 1, o, none⟩ x) := fun X o x => fr_grown (Li.grown_set X (w.heap.size + 1) o x) rfl
     have hall := fun (X : World) (v0 v1 v2 v3 v4 v5 : Value) => ((((((hset X 0 v0).trans (hset _ 1 v1)).trans (hset _ 2 v2)).trans (hset _ 3 v3)).trans (hset _ 4 v4)).trans (hset _ 5 v5))
     refine bodyPost_ret (v := .agg #[.int .i64 m.n, .int .i64 m.c, .int .i64 m.prior, .int .i64 m.base, .slice ka m.ks.length kc, .slice ac m.ts.length cc]) (by rw [results_cell rfl]; go_simp) rfl ⟨_, _, _, _, rfl, ?_, ?_⟩
     ·
      refine ⟨fun y => y < M1, (HEND.out.1.fr (hall _ _ _ _ _ _ _) (fun y hy e => by omega)).mono (fun y hy => ⟨⟨by omega, by simp [World.setCell]; omega⟩, hy.2⟩), (HEND.out.2.fr (hall _ _ _ _ _ _ _) (fun y hy e => by omega)).mono (fun y hy => ⟨⟨by omega, by simp [World.setCell]; omega⟩, by omega⟩)⟩
     ·
      exact ((((((HBE.out.setCell (by simp) _).setCell (by simp) _).setCell (by simp) _).setCell (by simp) _).setCell (by simp) _).setCell (by simp) _)
set_option maxHeartbeats 8000000 in
theorem scut (w : World) (ak ax : Option Addr) (ck ct : Nat) (m : M) (n : Int) (h : Rm w ak ax m) (hl : m.sz ≤ 1048576) :
  Calls Tryz.prog 24 #[.agg #[.int .i64 m.n, .int .i64 m.c, .int .i64 m.prior, .int .i64 m.base, .slice ak m.ks.length ck, .slice ax m.ts.length ct], .int .i64 n] w fun e w' => ∃ vk vt, e = .returned (.agg #[.int .i64 (mcut m n).n, .int .i64 (mcut m n).c, .int .i64 (mcut m n).prior, .int .i64 (mcut m n).base, vk, vt]) ∧ OwM w' (fun y => w.heap.size ≤ y ∧ y < w'.heap.size) vk vt (mcut m n) ∧ Below w.heap.size w w' := by
 go_enter Tryz.func24, Tryz.ntmps24
 go_wp2_with fail
 obtain ⟨W, hW, hsz, hB, bm, br⟩ := new2 w [.int .i64 m.n, .int .i64 m.c, .int .i64 m.prior, .int .i64 m.base, .slice ak m.ks.length ck, .slice ax m.ts.length ct] [.int .i64 0, .int .i64 0, .int .i64 0, .int .i64 0, .slice none 0 0, .slice none 0 0] 29 29
 rw [hW]
 clear hW
 refine (smok _ _ _ _ _ m (h.below hB) hl).mono ?_
 rintro e w1 ⟨rfl, hb⟩
 have bm := bm.below hb
 have br := br.below hb
 have hB := hB.trans (hb.mono hB.size)
 have hsz1 : w.heap.size + 2 ≤ w1.heap.size := by have := hb.size; omega
 clear hb hsz
 cases h1 : mok m with
 | false =>
  have HR : Hid (mcut m n = zero) := mcut_no h1 n
  obtain ⟨hrl, ⟨r0, r1, r2, r3, r4, r5⟩, f0, f1, f2, f3, f4, f5⟩ := wr6 br
  go_wp2
  refine bodyPost_ret (v := .agg #[.int .i64 0, .int .i64 0, .int .i64 0, .int .i64 0, .slice none 0 0, .slice none 0 0]) (by rw [results_cell rfl]; go_simp) rfl ⟨.slice none 0 0, .slice none 0 0, by rw [HR.out]; rfl, ?_, ?_⟩
  ·
   rw [HR.out]; exact ⟨fun _ => True, OwK.nil _ _, OwT.nil _ _⟩
  ·
   exact (((((hB.setCell (by simp) _).setCell (by simp) _).setCell (by simp) _).setCell (by simp) _).setCell (by simp) _).setCell (by simp) _
 | true =>
 have HR : Hid (mcut m n = ⟨m.n, m.c, m.prior, m.base, m.ks, m.ts.take (cutn m n)⟩) := mcut_yes h1 n
 have HKL : Hid (m.ks.length ≤ 40 ∧ m.ts.length ≤ 12) := ⟨by have h2 := (mok_parts h1).2.2.2.2.1; have h3 := Tk.sok_iff.1 (mok_parts h1).1; unfold Md.ncol at h2; split at h2 <;> omega, (mok_parts h1).2.2.2.1⟩
 clear h1
 obtain ⟨_, ⟨x0, x1, x2, x3, x4, x5⟩, _⟩ := wr6 bm
 go_wp2_with fail
 refine (scopyM _ _ _ _ _ m (h.below hB) hl HKL.out).mono ?_
 rintro e w2 ⟨ka, kc, ac, cc, rfl, om, hb⟩
 have br := br.below hb
 have hB := hB.trans (hb.mono hB.size)
 have h12 := hb.size
 have hcc : m.ts.length ≤ cc := by
  obtain ⟨_, _, vs, ho, _⟩ := om
  rcases ho.2 with ⟨e, h0⟩ | ⟨g, cap, cur, e, _, _, h3, _⟩
  ·
   omega
  ·
   cases e; exact h3
 clear hb x0 x1 x2 x3 x4 x5 bm
 obtain ⟨q, hq⟩ : ∃ q : Nat, max 0 (min n (m.ts.length : Int)) = (q : Int) := ⟨(max 0 (min n (m.ts.length : Int))).toNat, by omega⟩
 have HQ : Hid (q ≤ m.ts.length) := by show _ ≤ _; omega
 have HCQ : Hid (cutn m n = q) := by show _ = _; unfold cutn; rw [hq]; simp
 have hqc : q ≤ cc := by have := HQ.out; omega
 have hqt : (q : Int) ≤ (m.ts.length : Int) := by have := HQ.out; omega
 obtain ⟨hrl, ⟨r0, r1, r2, r3, r4, r5⟩, f0, f1, f2, f3, f4, f5⟩ := wr6 br
 have HBE : Hid (Below w.heap.size w w2) := hB
 have HOM : Hid (type_of% om) := om
 have hne : ¬ w2.heap.size = w.heap.size + 1 := by omega
 have hne' : ¬ w.heap.size + 1 = w2.heap.size := by omega
 clear om hB br
 go_wp2
 have hset : ∀ (X : World) (o : Nat) (x : Value), Fr (fun y => y = w.heap.size + 1) X (X.setCell ⟨w.heap.size + 1, o, none⟩ x) := fun X o x => fr_grown (Li.grown_set X (w.heap.size + 1) o x) rfl
 have hall := fun (X : World) (v0 v1 v2 v3 v4 v5 : Value) => ((((((hset X 0 v0).trans (hset _ 1 v1)).trans (hset _ 2 v2)).trans (hset _ 3 v3)).trans (hset _ 4 v4)).trans (hset _ 5 v5))
 have hbe := (((((((HBE.out.setCell (p := ⟨w.heap.size + 1, 0, none⟩) (by simp) (.int .i64 m.n)).setCell (p := ⟨w.heap.size + 1, 1, none⟩) (by simp) (.int .i64 m.c)).setCell (p := ⟨w.heap.size + 1, 2, none⟩) (by simp) (.int .i64 m.prior)).setCell (p := ⟨w.heap.size + 1, 3, none⟩) (by simp) (.int .i64 m.base)).setCell (p := ⟨w.heap.size + 1, 4, none⟩) (by simp) (.slice ka m.ks.length kc)).setCell (p := ⟨w.heap.size + 1, 5, none⟩) (by simp) (.slice ac q cc)))
 have hfr := hall w2 (.int .i64 m.n) (.int .i64 m.c) (.int .i64 m.prior) (.int .i64 m.base) (.slice ka m.ks.length kc) (.slice ac q cc)
 have hsx : (((((((w2.setCell ⟨w.heap.size + 1, 0, none⟩ (.int .i64 m.n)).setCell ⟨w.heap.size + 1, 1, none⟩ (.int .i64 m.c)).setCell ⟨w.heap.size + 1, 2, none⟩ (.int .i64 m.prior)).setCell ⟨w.heap.size + 1, 3, none⟩ (.int .i64 m.base)).setCell ⟨w.heap.size + 1, 4, none⟩ (.slice ka m.ks.length kc)).setCell ⟨w.heap.size + 1, 5, none⟩ (.slice ac q cc))).heap.size = w2.heap.size := by simp [World.setCell]
 refine bodyPost_ret (v := .agg #[.int .i64 m.n, .int .i64 m.c, .int .i64 m.prior, .int .i64 m.base, .slice ka m.ks.length kc, .slice ac q cc]) (by rw [results_cell rfl]; go_simp) rfl ⟨.slice ka m.ks.length kc, .slice ac q cc, by rw [HR.out], ?_, hbe.alloc hbe.size _⟩
 rw [HR.out, HCQ.out]
 obtain ⟨P, k0, t0⟩ := HOM.out
 refine ⟨P, ((k0.fr hfr (fun y hy e => by omega)).below ((Below.refl _ _).alloc (Nat.le_refl _) _)).mono (fun y hy => ⟨⟨by omega, ?_⟩, hy.2⟩), (((owt_take t0 HQ.out).fr hfr (fun y hy e => by omega)).below ((Below.refl _ _).alloc (Nat.le_refl _) _)).mono (fun y hy => ⟨⟨by omega, ?_⟩, hy.2⟩)⟩
 ·
  rw [Sv.size_alloc, hsx]; omega
 ·
  rw [Sv.size_alloc, hsx]; omega
end Go.Proofs.YtglllflleabmbaaGreat.Ct
