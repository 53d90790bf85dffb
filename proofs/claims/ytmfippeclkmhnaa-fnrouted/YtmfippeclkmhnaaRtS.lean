/-
  Routed of the model.
-/
import Derived.Test.YtmfippeclkmhnaaApC
import Derived.Test.YtmfippeclkmhnaaSeG
import Derived.Test.YtmfippeclkmhnaaRtI
import Derived.Deep.CutRange
namespace Go.Proofs.Ytmfippeclkmhnaa.Rt
open Go.RowKit
open Go.Proofs.Ytmfippeclkmhnaa.Li (ret_bool ret_int below_none IsL btw iv)
open Go.Proofs.Ytmfippeclkmhnaa.Tm (IsP pv pv_length)
open Go.Proofs.Ytmfippeclkmhnaa.Se Go.Proofs.Ytmfippeclkmhnaa.Sv Go.Proofs.Ytmfippeclkmhnaa.Sw7
set_option linter.unusedVariables false

section
variable {w wx w3 w4 : World} {bo lo hi : Nat} {vx vg vi : Value} {lv2 l2 : Int} {TS : List Value} {cx : List Value} {V : Nat → Value} {bl : Nat → Nat} {xs : List (List Int)} {k : Nat} {ids gs : List Int} {RA : List Value}
theorem bvQ (h : SQ w wx bo lo hi vx vg vi lv2 l2 TS cx V bl xs k ids gs RA) (hb : Below wx.heap.size wx w4) (hg : w4.grownBy w3 vx.ownBlock) : Wr w3 bo 0 [vx, vg, vi, .int .i64 lv2, .int .i64 l2] :=
  (h.bv.below hb).keptAt hg.size (hg.block bo (h.bv.below hb).1 (fun e => (h.bx bo e.symm).1 rfl))
theorem baQ (h : SQ w wx bo lo hi vx vg vi lv2 l2 TS cx V bl xs k ids gs RA) (hb : Below wx.heap.size wx w4) (hg : w4.grownBy w3 vx.ownBlock) : Wr w3 w.heap.size 0 RA ∧ Below w.heap.size w w3 := by
  refine ⟨(h.ba.below hb).keptAt hg.size (hg.block _ (h.ba.below hb).1 (fun e => by have := (World.ownsRow.lt h.ox _ e.symm).1; omega)), ?_⟩
  have h4 := h.below hb
  exact Ai.below_app h4.bel h4.bel.size hg (fun q e => by have := (World.ownsRow.lt h.ox q e).1; omega)
end
theorem SQ.init {w W wx : World} {bo kg ki n m cg ci : Nat} {lv l2 : Int} {gs ids : List Int} {xs : List (List Int)} {RA TS : List Value} (V : Nat → Value) (bl : Nat → Nat) (h : Re W wx bo kg ki n m cg ci lv l2 gs ids) (hn : gs.length = n) (hm : ids.length = m) (hs : w.heap.size + 3 ≤ W.heap.size) (ba : Wr W w.heap.size 0 RA) (bs : Wr W (w.heap.size + 1) 0 TS) (br : Wr W (w.heap.size + 1 + 1) 0 zr5') (hB : Below w.heap.size w W) :
    SQ w wx bo kg (kg + 1) (.slice none 0 0) (.slice (some ⟨kg, 0, none⟩) n cg) (.slice (some ⟨ki, 0, none⟩) m ci) lv l2 TS [] V bl xs 0 ids gs RA := by
  obtain ⟨n1, n2, n3⟩ := h.ne
  have g1 := h.og.ge kg rfl
  have g2 := h.oi.ge ki rfl
  have g3 := h.ge
  refine ⟨h.bx, World.ownsRow_nil _ _ _ _, h.oi.mono (by omega), owi_of h.og hn ⟨Nat.le_refl _, by omega⟩, ba.below h.bel, bs.below h.bel, br.below h.bel, hB.trans (h.bel.mono hB.size), ⟨by omega, by omega, by omega⟩, fun q e => by simp [Value.ownBlock] at e, fun q e => ?_, by omega, fun i _ h => by omega, fun i j _ h => by omega⟩
  simp [Value.ownBlock] at e
  omega
/-- What the second loop holds. -/
structure LQ (w wr : World) (bo : Nat) (u0 u1 u2 : Value) (q : R) (TS : List Value) : Prop where
  bx : Wr wr bo 0 [u0, u1, u2, .int .i64 q.lv, .int .i64 q.l2]
  ow : OwR wr (fun k => w.heap.size + 3 ≤ k ∧ k < wr.heap.size ∧ ¬ k = bo) u0 u1 u2 q
  bt : Wr wr (w.heap.size + 1) 0 TS
  br : Wr wr (w.heap.size + 1 + 1) 0 zr5'
  ge : w.heap.size + 3 ≤ bo
  bel : Below w.heap.size w wr
theorem LQ.below {w wr wn : World} {bo : Nat} {u0 u1 u2 : Value} {q : R} {TS : List Value} (h : LQ w wr bo u0 u1 u2 q TS) (hb : Below wr.heap.size wr wn) : LQ w wn bo u0 u1 u2 q TS :=
  ⟨h.bx.below hb, (h.ow.below hb).mono (fun k hk => ⟨hk.1, Nat.lt_of_lt_of_le hk.2.1 hb.size, hk.2.2⟩), h.bt.below hb, h.br.below hb, h.ge, h.bel.trans (hb.mono h.bel.size)⟩
theorem LQ.put {w wr wn : World} {bo : Nat} {u0 u1 u2 x0 x1 x2 : Value} {q q' : R} {TS : List Value} (h : LQ w wr bo u0 u1 u2 q TS) (hb : Below wr.heap.size wr wn) (ho : OwR wn (fun k => wr.heap.size ≤ k ∧ k < wn.heap.size) x0 x1 x2 q') :
    LQ w (((((wn.setCell ⟨bo, 0, none⟩ x0).setCell ⟨bo, 1, none⟩ x1).setCell ⟨bo, 2, none⟩ x2).setCell ⟨bo, 3, none⟩ (.int .i64 q'.lv)).setCell ⟨bo, 4, none⟩ (.int .i64 q'.l2)) bo x0 x1 x2 q' TS := by
  have k := h.below hb
  have hge := h.ge
  have hbl := h.bx.1
  have hbs := h.bel.size
  have hfr : ∀ (A : World) (o : Nat) (v : Value), Fr (fun k => k = bo) A (A.setCell ⟨bo, o, none⟩ v) := fun A o v => fr_grown (Li.grown_set A bo o v) rfl
  have hF : Fr (fun k => k = bo) wn (((((wn.setCell ⟨bo, 0, none⟩ x0).setCell ⟨bo, 1, none⟩ x1).setCell ⟨bo, 2, none⟩ x2).setCell ⟨bo, 3, none⟩ (.int .i64 q'.lv)).setCell ⟨bo, 4, none⟩ (.int .i64 q'.l2)) := by
    iterate 5 refine Fr.trans ?_ (hfr _ _ _)
    exact Fr.refl _ _
  refine ⟨?_, (ho.fr hF (fun q hq e => by omega)).mono (fun q hq => ⟨by have := h.br.1; omega, by simpa [World.setCell] using hq.2, by omega⟩), k.bt.fr hF (by omega), k.br.fr hF (by omega), h.ge, k.bel.trans (hF.bel (fun q e => by omega) k.bel.size)⟩
  have h0 := k.bx.set 0 (by simp) x0
  have h1 := h0.set 1 (by simp) x1
  have h2 := h1.set 2 (by simp) x2
  have h3 := h2.set 3 (by simp) (.int .i64 q'.lv)
  have h4 := h3.set 4 (by simp) (.int .i64 q'.l2)
  simpa using h4
set_option maxRecDepth 100000 in
set_option maxHeartbeats 20000000 in
theorem srouted (w : World) (a0 a1 a2 d0 d1 : Option Addr) (c0 c1 c2 e0 e1 : Nat) (r : R) (t : Tr.T) (h : Rd w a0 a1 a2 r) (hp : IsP w d0 t.sp) (hx : IsL w d1 t.lv) (hl : t.sp.length + t.lv.length ≤ 1048576) :
    Calls Try.prog 15 #[.agg #[.slice a0 r.x.length c0, .slice a1 r.g.length c1, .slice a2 r.ids.length c2, .int .i64 r.lv, .int .i64 r.l2], .agg #[.slice d0 t.sp.length e0, .slice d1 t.lv.length e1]] w fun e w' => ∃ v0 v1 v2, e = .returned (.agg #[v0, v1, v2, .int .i64 (routed r t).lv, .int .i64 (routed r t).l2]) ∧ OwR w' (fun k => w.heap.size ≤ k ∧ k < w'.heap.size) v0 v1 v2 (routed r t) ∧ Below w.heap.size w w' := by
  go_enter Try.func15, Try.ntmps15
  go_wp2_with fail
  obtain ⟨W, hW, hsz, hB, bx, bt, br⟩ := new3 w [.slice a0 r.x.length c0, .slice a1 r.g.length c1, .slice a2 r.ids.length c2, .int .i64 r.lv, .int .i64 r.l2] [.slice d0 t.sp.length e0, .slice d1 t.lv.length e1] [.slice none 0 0, .slice none 0 0, .slice none 0 0, .int .i64 0, .int .i64 0] 27 42 27
  rw [hW]
  clear hW
  refine (srows _ _ _ _ _ _ _ r (h.below hB)).mono ?_
  rintro e w1 ⟨rfl, hb⟩
  have bx := bx.below hb
  have bt := bt.below hb
  have br := br.below hb
  have hB := hB.trans (hb.mono hB.size)
  have hS : w.heap.size + 3 ≤ w1.heap.size := by have := hb.size; omega
  clear hb hsz
  obtain ⟨_, ⟨y0, y1, y2, y3, y4⟩, g0, g1, g2, g3, g4⟩ := wr5 br
  cases hu : rok r with
  | false =>
    have HR : Hid (routed r t = ⟨[], [], [], 0, 0⟩) := routed_no (by simp only [rtok, hu, Bool.false_and])
    go_wp2_with fail
    refine bodyPost_ret (v := .agg #[.slice none 0 0, .slice none 0 0, .slice none 0 0, .int .i64 0, .int .i64 0]) (by rw [Tm.results_cell rfl]; go_simp) rfl ⟨.slice none 0 0, .slice none 0 0, .slice none 0 0, by rw [HR.out], ?_, ?_⟩
    · rw [HR.out]
      exact ⟨fun _ => False, fun _ => False, fun _ => False, ⟨none, 0, rfl, .inl rfl⟩, ⟨none, 0, rfl, .inl rfl⟩, ⟨none, 0, rfl, .inl rfl⟩, fun k e => e.elim, fun k e => e.elim, fun k e => e.elim⟩
    · iterate 5 refine Below.setCell ?_ (by simp; try omega) _
      exact hB
  | true =>
    obtain ⟨_, ⟨x0, x1, x2, x3, x4⟩, _⟩ := wr5 bx
    by_cases h1 : r.lv = 1
    rotate_left
    · have HR : Hid (routed r t = ⟨[], [], [], 0, 0⟩) := routed_no (by simp [rtok, h1])
      have hne : (r.lv != 1) = true := by simpa using h1
      clear h1
      go_wp2_with fail
      refine bodyPost_ret (v := .agg #[.slice none 0 0, .slice none 0 0, .slice none 0 0, .int .i64 0, .int .i64 0]) (by rw [Tm.results_cell rfl]; go_simp) rfl ⟨.slice none 0 0, .slice none 0 0, .slice none 0 0, by rw [HR.out], ?_, ?_⟩
      · rw [HR.out]
        exact ⟨fun _ => False, fun _ => False, fun _ => False, ⟨none, 0, rfl, .inl rfl⟩, ⟨none, 0, rfl, .inl rfl⟩, ⟨none, 0, rfl, .inl rfl⟩, fun k e => e.elim, fun k e => e.elim, fun k e => e.elim⟩
      · iterate 5 refine Below.setCell ?_ (by simp; try omega) _
        exact hB
    have hne : (r.lv != 1) = false := by simp [h1]
    obtain ⟨_, ⟨z0, z1⟩, _⟩ := wr2 bt
    have H1 : Hid (r.lv = 1) := h1
    clear h1
    go_wp2_with fail
    clear z0 z1 x0 x1 x2 x3 x4 y0 y1 y2 y3 y4 g0 g1 g2 g3 g4
    refine (Tw.stok _ _ _ _ _ t (hp.below hB) (hx.below hB) hl).mono ?_
    rintro e w2 ⟨rfl, hb⟩
    have bx := bx.below hb
    have bt := bt.below hb
    have br := br.below hb
    have hB := hB.trans (hb.mono hB.size)
    have hS : w.heap.size + 3 ≤ w2.heap.size := by have := hb.size; omega
    clear hb
    cases hv : Tr.tok t with
    | false =>
      have HR : Hid (routed r t = ⟨[], [], [], 0, 0⟩) := routed_no (by simp only [rtok, hv, Bool.and_false])
      obtain ⟨_, ⟨y0, y1, y2, y3, y4⟩, g0, g1, g2, g3, g4⟩ := wr5 br
      go_wp2_with fail
      refine bodyPost_ret (v := .agg #[.slice none 0 0, .slice none 0 0, .slice none 0 0, .int .i64 0, .int .i64 0]) (by rw [Tm.results_cell rfl]; go_simp) rfl ⟨.slice none 0 0, .slice none 0 0, .slice none 0 0, by rw [HR.out], ?_, ?_⟩
      · rw [HR.out]
        exact ⟨fun _ => False, fun _ => False, fun _ => False, ⟨none, 0, rfl, .inl rfl⟩, ⟨none, 0, rfl, .inl rfl⟩, ⟨none, 0, rfl, .inl rfl⟩, fun k e => e.elim, fun k e => e.elim, fun k e => e.elim⟩
      · iterate 5 refine Below.setCell ?_ (by simp; try omega) _
        exact hB
    | true =>
      have HR : Hid (routed r t = askAll r t.sp) := routed_ok (by simp only [rtok, hu, hv, H1.out, decide_true, Bool.and_true])
      have HK : Hid (ROk r) := rok_iff.1 hu
      have HS2 : Hid (r.g.length = r.x.length) := HK.out.1.2.1
      have HS3 : Hid (r.ids.length = r.x.length) := HK.out.1.2.2.1
      have hx40 : r.x.length ≤ 40 := HK.out.1.1
      have hgn : r.g.length ≤ 40 := by rw [HS2.out]; exact hx40
      have hin : r.ids.length ≤ 40 := by rw [HS3.out]; exact hx40
      have hs4 : t.sp.length ≤ 4 := (Tr.tok_iff.1 hv).1.1
      have HIG : Hid (IsL w2 a1 r.g) := (h.below hB).2.1
      have HII : Hid (IsL w2 a2 r.ids) := (h.below hB).2.2
      have HBX : Hid (type_of% bx) := bx
      have HBT : Hid (type_of% bt) := bt
      have HBR : Hid (type_of% br) := br
      have HHB : Hid (type_of% hB) := hB
      have HSZ : Hid (type_of% hS) := hS
      have HS : Hid (∀ W_ : World, Below w2.heap.size w2 W_ → W_.cell? ⟨w.heap.size, 1, none⟩ = some (.slice a1 r.g.length c1) ∧ W_.cell? ⟨w.heap.size, 2, none⟩ = some (.slice a2 r.ids.length c2) ∧ W_.cell? ⟨w.heap.size, 3, none⟩ = some (.int .i64 r.lv) ∧ W_.cell? ⟨w.heap.size, 4, none⟩ = some (.int .i64 r.l2)) := fun W_ hb => (wr5 (bx.below hb)).2.1.2
      obtain ⟨_, ⟨x0, x1, x2, x3, x4⟩, _⟩ := wr5 bx
      have st1 := Sd.init w2
      have st := st1.drew
      clear hu hv hne bx bt br hB hS
      go_wp2_with fail
      go_cut [5] from 22 (fun s_ wx => ∃ bo kg ki cg ci, s_ = .pointer (some ⟨bo, 0, none⟩) ∧ Re w2 wx bo kg ki r.g.length r.ids.length cg ci r.lv r.l2 r.g r.ids)
      case first =>
        go_region_held3 (fun W_ => W_.cell? ⟨w.heap.size, 1, none⟩ = some (.slice a1 r.g.length c1) ∧ W_.cell? ⟨w.heap.size, 2, none⟩ = some (.slice a2 r.ids.length c2) ∧ W_.cell? ⟨w.heap.size, 3, none⟩ = some (.int .i64 r.lv) ∧ W_.cell? ⟨w.heap.size, 4, none⟩ = some (.int .i64 r.l2)) (first | (have k_ := HS.out _ st.bel; with_reducible exact k_) | (have k_ := HS.out _ st.drew.bel; with_reducible exact k_) | (have k_ := HS.out _ st1.bel; with_reducible exact k_) | (have k_ := HS.out _ st1.drew.bel; with_reducible exact k_) | (have k_ := HS.out _ st.alV.bel; with_reducible exact k_) | (have k_ := HS.out _ st.alV.drew.bel; with_reducible exact k_) | (have k_ := HS.out _ st1.alV.bel; with_reducible exact k_) | (have k_ := HS.out _ st1.alV.drew.bel; with_reducible exact k_) | (have k_ := HS.out _ st.alG.bel; with_reducible exact k_) | (have k_ := HS.out _ st.alG.drew.bel; with_reducible exact k_) | (have k_ := HS.out _ st1.alG.bel; with_reducible exact k_) | (have k_ := HS.out _ st1.alG.drew.bel; with_reducible exact k_) | (have k_ := HS.out _ st.alI.bel; with_reducible exact k_) | (have k_ := HS.out _ st.alI.drew.bel; with_reducible exact k_) | (have k_ := HS.out _ st1.alI.bel; with_reducible exact k_) | (have k_ := HS.out _ st1.alI.drew.bel; with_reducible exact k_) | (have k_ := HS.out _ st.alV.alG1.bel; with_reducible exact k_) | (have k_ := HS.out _ st.alV.alG1.drew.bel; with_reducible exact k_) | (have k_ := HS.out _ st1.alV.alG1.bel; with_reducible exact k_) | (have k_ := HS.out _ st1.alV.alG1.drew.bel; with_reducible exact k_) | (have k_ := HS.out _ st.alV.alI1.bel; with_reducible exact k_) | (have k_ := HS.out _ st.alV.alI1.drew.bel; with_reducible exact k_) | (have k_ := HS.out _ st1.alV.alI1.bel; with_reducible exact k_) | (have k_ := HS.out _ st1.alV.alI1.drew.bel; with_reducible exact k_) | (have k_ := HS.out _ st.alG.alV1.bel; with_reducible exact k_) | (have k_ := HS.out _ st.alG.alV1.drew.bel; with_reducible exact k_) | (have k_ := HS.out _ st1.alG.alV1.bel; with_reducible exact k_) | (have k_ := HS.out _ st1.alG.alV1.drew.bel; with_reducible exact k_) | (have k_ := HS.out _ st.alG.alI1.bel; with_reducible exact k_) | (have k_ := HS.out _ st.alG.alI1.drew.bel; with_reducible exact k_) | (have k_ := HS.out _ st1.alG.alI1.bel; with_reducible exact k_) | (have k_ := HS.out _ st1.alG.alI1.drew.bel; with_reducible exact k_) | (have k_ := HS.out _ st.alI.alV1.bel; with_reducible exact k_) | (have k_ := HS.out _ st.alI.alV1.drew.bel; with_reducible exact k_) | (have k_ := HS.out _ st1.alI.alV1.bel; with_reducible exact k_) | (have k_ := HS.out _ st1.alI.alV1.drew.bel; with_reducible exact k_) | (have k_ := HS.out _ st.alI.alG1.bel; with_reducible exact k_) | (have k_ := HS.out _ st.alI.alG1.drew.bel; with_reducible exact k_) | (have k_ := HS.out _ st1.alI.alG1.bel; with_reducible exact k_) | (have k_ := HS.out _ st1.alI.alG1.drew.bel; with_reducible exact k_) | (have k_ := HS.out _ st.alV.alG1.alI2.bel; with_reducible exact k_) | (have k_ := HS.out _ st.alV.alG1.alI2.drew.bel; with_reducible exact k_) | (have k_ := HS.out _ st1.alV.alG1.alI2.bel; with_reducible exact k_) | (have k_ := HS.out _ st1.alV.alG1.alI2.drew.bel; with_reducible exact k_) | (have k_ := HS.out _ st.alV.alI1.alG2.bel; with_reducible exact k_) | (have k_ := HS.out _ st.alV.alI1.alG2.drew.bel; with_reducible exact k_) | (have k_ := HS.out _ st1.alV.alI1.alG2.bel; with_reducible exact k_) | (have k_ := HS.out _ st1.alV.alI1.alG2.drew.bel; with_reducible exact k_) | (have k_ := HS.out _ st.alG.alV1.alI2.bel; with_reducible exact k_) | (have k_ := HS.out _ st.alG.alV1.alI2.drew.bel; with_reducible exact k_) | (have k_ := HS.out _ st1.alG.alV1.alI2.bel; with_reducible exact k_) | (have k_ := HS.out _ st1.alG.alV1.alI2.drew.bel; with_reducible exact k_) | (have k_ := HS.out _ st.alG.alI1.alV2.bel; with_reducible exact k_) | (have k_ := HS.out _ st.alG.alI1.alV2.drew.bel; with_reducible exact k_) | (have k_ := HS.out _ st1.alG.alI1.alV2.bel; with_reducible exact k_) | (have k_ := HS.out _ st1.alG.alI1.alV2.drew.bel; with_reducible exact k_) | (have k_ := HS.out _ st.alI.alV1.alG2.bel; with_reducible exact k_) | (have k_ := HS.out _ st.alI.alV1.alG2.drew.bel; with_reducible exact k_) | (have k_ := HS.out _ st1.alI.alV1.alG2.bel; with_reducible exact k_) | (have k_ := HS.out _ st1.alI.alV1.alG2.drew.bel; with_reducible exact k_) | (have k_ := HS.out _ st.alI.alG1.alV2.bel; with_reducible exact k_) | (have k_ := HS.out _ st.alI.alG1.alV2.drew.bel; with_reducible exact k_) | (have k_ := HS.out _ st1.alI.alG1.alV2.bel; with_reducible exact k_) | (have k_ := HS.out _ st1.alI.alG1.alV2.drew.bel; with_reducible exact k_) | (have k_ := HS.out _ (st.ofSet (lv := r.lv) (l2 := r.l2)).bel; with_reducible exact k_) | (have k_ := HS.out _ (st.ofNew (lv := r.lv) (l2 := r.l2)).bel; with_reducible exact k_) | go_keep) (first
          | ((first | (refine stepG st1.alG.drew rfl _ _ rfl a1 r.g.length c1 r.g rfl rfl rfl HIG.out (by omega) ?_) | (refine stepG st1.alG rfl _ _ rfl a1 r.g.length c1 r.g rfl rfl rfl HIG.out (by omega) ?_) | (refine stepG st.alG rfl _ _ rfl a1 r.g.length c1 r.g rfl rfl rfl HIG.out (by omega) ?_) | (refine stepG st.alG.drew rfl _ _ rfl a1 r.g.length c1 r.g rfl rfl rfl HIG.out (by omega) ?_) | (refine stepG st1.alV.alG1.drew rfl _ _ rfl a1 r.g.length c1 r.g rfl rfl rfl HIG.out (by omega) ?_) | (refine stepG st1.alV.alG1 rfl _ _ rfl a1 r.g.length c1 r.g rfl rfl rfl HIG.out (by omega) ?_) | (refine stepG st.alV.alG1 rfl _ _ rfl a1 r.g.length c1 r.g rfl rfl rfl HIG.out (by omega) ?_) | (refine stepG st.alV.alG1.drew rfl _ _ rfl a1 r.g.length c1 r.g rfl rfl rfl HIG.out (by omega) ?_) | (refine stepG st1.alG.alV1.drew rfl _ _ rfl a1 r.g.length c1 r.g rfl rfl rfl HIG.out (by omega) ?_) | (refine stepG st1.alG.alV1 rfl _ _ rfl a1 r.g.length c1 r.g rfl rfl rfl HIG.out (by omega) ?_) | (refine stepG st.alG.alV1 rfl _ _ rfl a1 r.g.length c1 r.g rfl rfl rfl HIG.out (by omega) ?_) | (refine stepG st.alG.alV1.drew rfl _ _ rfl a1 r.g.length c1 r.g rfl rfl rfl HIG.out (by omega) ?_) | (refine stepG st1.alG.alI1.drew rfl _ _ rfl a1 r.g.length c1 r.g rfl rfl rfl HIG.out (by omega) ?_) | (refine stepG st1.alG.alI1 rfl _ _ rfl a1 r.g.length c1 r.g rfl rfl rfl HIG.out (by omega) ?_) | (refine stepG st.alG.alI1 rfl _ _ rfl a1 r.g.length c1 r.g rfl rfl rfl HIG.out (by omega) ?_) | (refine stepG st.alG.alI1.drew rfl _ _ rfl a1 r.g.length c1 r.g rfl rfl rfl HIG.out (by omega) ?_) | (refine stepG st1.alI.alG1.drew rfl _ _ rfl a1 r.g.length c1 r.g rfl rfl rfl HIG.out (by omega) ?_) | (refine stepG st1.alI.alG1 rfl _ _ rfl a1 r.g.length c1 r.g rfl rfl rfl HIG.out (by omega) ?_) | (refine stepG st.alI.alG1 rfl _ _ rfl a1 r.g.length c1 r.g rfl rfl rfl HIG.out (by omega) ?_) | (refine stepG st.alI.alG1.drew rfl _ _ rfl a1 r.g.length c1 r.g rfl rfl rfl HIG.out (by omega) ?_) | (refine stepG st1.alV.alG1.alI2.drew rfl _ _ rfl a1 r.g.length c1 r.g rfl rfl rfl HIG.out (by omega) ?_) | (refine stepG st1.alV.alG1.alI2 rfl _ _ rfl a1 r.g.length c1 r.g rfl rfl rfl HIG.out (by omega) ?_) | (refine stepG st.alV.alG1.alI2 rfl _ _ rfl a1 r.g.length c1 r.g rfl rfl rfl HIG.out (by omega) ?_) | (refine stepG st.alV.alG1.alI2.drew rfl _ _ rfl a1 r.g.length c1 r.g rfl rfl rfl HIG.out (by omega) ?_) | (refine stepG st1.alV.alI1.alG2.drew rfl _ _ rfl a1 r.g.length c1 r.g rfl rfl rfl HIG.out (by omega) ?_) | (refine stepG st1.alV.alI1.alG2 rfl _ _ rfl a1 r.g.length c1 r.g rfl rfl rfl HIG.out (by omega) ?_) | (refine stepG st.alV.alI1.alG2 rfl _ _ rfl a1 r.g.length c1 r.g rfl rfl rfl HIG.out (by omega) ?_) | (refine stepG st.alV.alI1.alG2.drew rfl _ _ rfl a1 r.g.length c1 r.g rfl rfl rfl HIG.out (by omega) ?_) | (refine stepG st1.alG.alV1.alI2.drew rfl _ _ rfl a1 r.g.length c1 r.g rfl rfl rfl HIG.out (by omega) ?_) | (refine stepG st1.alG.alV1.alI2 rfl _ _ rfl a1 r.g.length c1 r.g rfl rfl rfl HIG.out (by omega) ?_) | (refine stepG st.alG.alV1.alI2 rfl _ _ rfl a1 r.g.length c1 r.g rfl rfl rfl HIG.out (by omega) ?_) | (refine stepG st.alG.alV1.alI2.drew rfl _ _ rfl a1 r.g.length c1 r.g rfl rfl rfl HIG.out (by omega) ?_) | (refine stepG st1.alG.alI1.alV2.drew rfl _ _ rfl a1 r.g.length c1 r.g rfl rfl rfl HIG.out (by omega) ?_) | (refine stepG st1.alG.alI1.alV2 rfl _ _ rfl a1 r.g.length c1 r.g rfl rfl rfl HIG.out (by omega) ?_) | (refine stepG st.alG.alI1.alV2 rfl _ _ rfl a1 r.g.length c1 r.g rfl rfl rfl HIG.out (by omega) ?_) | (refine stepG st.alG.alI1.alV2.drew rfl _ _ rfl a1 r.g.length c1 r.g rfl rfl rfl HIG.out (by omega) ?_) | (refine stepG st1.alI.alV1.alG2.drew rfl _ _ rfl a1 r.g.length c1 r.g rfl rfl rfl HIG.out (by omega) ?_) | (refine stepG st1.alI.alV1.alG2 rfl _ _ rfl a1 r.g.length c1 r.g rfl rfl rfl HIG.out (by omega) ?_) | (refine stepG st.alI.alV1.alG2 rfl _ _ rfl a1 r.g.length c1 r.g rfl rfl rfl HIG.out (by omega) ?_) | (refine stepG st.alI.alV1.alG2.drew rfl _ _ rfl a1 r.g.length c1 r.g rfl rfl rfl HIG.out (by omega) ?_) | (refine stepG st1.alI.alG1.alV2.drew rfl _ _ rfl a1 r.g.length c1 r.g rfl rfl rfl HIG.out (by omega) ?_) | (refine stepG st1.alI.alG1.alV2 rfl _ _ rfl a1 r.g.length c1 r.g rfl rfl rfl HIG.out (by omega) ?_) | (refine stepG st.alI.alG1.alV2 rfl _ _ rfl a1 r.g.length c1 r.g rfl rfl rfl HIG.out (by omega) ?_) | (refine stepG st.alI.alG1.alV2.drew rfl _ _ rfl a1 r.g.length c1 r.g rfl rfl rfl HIG.out (by omega) ?_)); clear st; intro kG cG wG st; (first | (have kv := wr5 (st.oV _ rfl).1; obtain ⟨_, ⟨k0, k1, k2, k3, k4⟩, l0, l1, l2, l3, l4⟩ := kv) | skip))
          | ((first | (refine stepI st1.drew rfl _ _ rfl a2 r.ids.length c2 r.ids rfl rfl rfl HII.out (by omega) ?_) | (refine stepI st1 rfl _ _ rfl a2 r.ids.length c2 r.ids rfl rfl rfl HII.out (by omega) ?_) | (refine stepI st rfl _ _ rfl a2 r.ids.length c2 r.ids rfl rfl rfl HII.out (by omega) ?_) | (refine stepI st.drew rfl _ _ rfl a2 r.ids.length c2 r.ids rfl rfl rfl HII.out (by omega) ?_) | (refine stepI st1.alV.drew rfl _ _ rfl a2 r.ids.length c2 r.ids rfl rfl rfl HII.out (by omega) ?_) | (refine stepI st1.alV rfl _ _ rfl a2 r.ids.length c2 r.ids rfl rfl rfl HII.out (by omega) ?_) | (refine stepI st.alV rfl _ _ rfl a2 r.ids.length c2 r.ids rfl rfl rfl HII.out (by omega) ?_) | (refine stepI st.alV.drew rfl _ _ rfl a2 r.ids.length c2 r.ids rfl rfl rfl HII.out (by omega) ?_) | (refine stepI st1.alI.drew rfl _ _ rfl a2 r.ids.length c2 r.ids rfl rfl rfl HII.out (by omega) ?_) | (refine stepI st1.alI rfl _ _ rfl a2 r.ids.length c2 r.ids rfl rfl rfl HII.out (by omega) ?_) | (refine stepI st.alI rfl _ _ rfl a2 r.ids.length c2 r.ids rfl rfl rfl HII.out (by omega) ?_) | (refine stepI st.alI.drew rfl _ _ rfl a2 r.ids.length c2 r.ids rfl rfl rfl HII.out (by omega) ?_) | (refine stepI st1.alV.alI1.drew rfl _ _ rfl a2 r.ids.length c2 r.ids rfl rfl rfl HII.out (by omega) ?_) | (refine stepI st1.alV.alI1 rfl _ _ rfl a2 r.ids.length c2 r.ids rfl rfl rfl HII.out (by omega) ?_) | (refine stepI st.alV.alI1 rfl _ _ rfl a2 r.ids.length c2 r.ids rfl rfl rfl HII.out (by omega) ?_) | (refine stepI st.alV.alI1.drew rfl _ _ rfl a2 r.ids.length c2 r.ids rfl rfl rfl HII.out (by omega) ?_) | (refine stepI st1.alI.alV1.drew rfl _ _ rfl a2 r.ids.length c2 r.ids rfl rfl rfl HII.out (by omega) ?_) | (refine stepI st1.alI.alV1 rfl _ _ rfl a2 r.ids.length c2 r.ids rfl rfl rfl HII.out (by omega) ?_) | (refine stepI st.alI.alV1 rfl _ _ rfl a2 r.ids.length c2 r.ids rfl rfl rfl HII.out (by omega) ?_) | (refine stepI st.alI.alV1.drew rfl _ _ rfl a2 r.ids.length c2 r.ids rfl rfl rfl HII.out (by omega) ?_)); clear st; intro kI cI wI st; (first | (have kv := wr5 (st.oV _ rfl).1; obtain ⟨_, ⟨k0, k1, k2, k3, k4⟩, l0, l1, l2, l3, l4⟩ := kv) | skip)))
        all_goals
          go_wp2_with fail
          go_meet
          case rel =>
            first
              | (have k_ := st.ofNew (lv := r.lv) (l2 := r.l2); with_reducible exact ⟨_, _, _, _, _, rfl, k_⟩)
              | (have k_ := st.ofSet (lv := r.lv) (l2 := r.l2); with_reducible exact ⟨_, _, _, _, _, rfl, k_⟩)
      case rest =>
        obtain ⟨bo, kg, ki, cg, ci, rfl, hre⟩ := hcut
        have sq := SQ.init (xs := r.x) (fun _ => undef) (fun _ => 0) hre rfl rfl HSZ.out HBX.out HBT.out (show Wr _ _ _ zr5' from HBR.out) HHB.out
        obtain ⟨lo, hlo⟩ : ∃ lo, kg = lo := ⟨_, rfl⟩
        obtain ⟨hi, hhi⟩ : ∃ hi, kg + 1 = hi := ⟨_, rfl⟩
        obtain ⟨vg, hvg⟩ : ∃ vg, Value.slice (some ⟨kg, 0, none⟩) r.g.length cg = vg := ⟨_, rfl⟩
        obtain ⟨vi, hvi⟩ : ∃ vi, Value.slice (some ⟨ki, 0, none⟩) r.ids.length ci = vi := ⟨_, rfl⟩
        rw [hvg, hvi, hhi] at sq
        rw [hlo] at sq
        clear hlo hhi hvg hvi hre HBX HBT HBR HHB HIG HII HS st st1 x0 x1 x2 x3 x4 HSZ
        obtain ⟨i0, hi0, hz0, hz1, hz2⟩ := info_parts info_vec
        obtain ⟨j0, hj, hy0, hy1, hy2⟩ := info_parts Li.info_int
        go_wp2
        go_loopw [6] (fun i wr => ∃ k : Nat, k ≤ r.x.length ∧ i = .int .i64 k ∧ ∃ vx cx V bl, SQ w wr bo lo hi vx vg vi r.lv r.l2 [.slice d0 t.sp.length e0, .slice d1 t.lv.length e1] cx V bl r.x k r.ids r.g [.slice a0 r.x.length c0, .slice a1 r.g.length c1, .slice a2 r.ids.length c2, .int .i64 r.lv, .int .i64 r.l2] ∧ cx.length = k) (fun i _ => r.x.length - (intOf i).toNat)
        case atStart => exact ⟨0, Nat.zero_le _, rfl, _, _, _, _, sq, rfl⟩
        case round =>
          obtain ⟨k, hk, rfl, vx, cx, V, bl, sp, hcl⟩ := hrel
          obtain ⟨e0', e1', e2', e3', e4'⟩ := c5' sp.ba
          by_cases hlt : k < r.x.length
          · obtain ⟨xb, xo, gb, go, ib, io, a', c', ea0, ea1, ea2, ⟨hl0, hl1, hl2⟩, hx0, hxl0, _, _⟩ := rd_row h HS2.out HS3.out k hlt
            have hl0' : xb < wr.heap.size := Nat.lt_of_lt_of_le hl0 sp.bel.size
            subst ea0
            clear ea1 ea2 hl1 hl2
            obtain ⟨hx6, _, _⟩ := HK.out.2 k hlt
            obtain ⟨rb, ro, ea', hrb, hrc⟩ := isl_pos hxl0 (k := 0) (by rw [hx6]; omega)
            subst ea'
            have HXK : Hid (r.x.getD k [] = r.x[k]) := by show _ = _; simp [List.getD_eq_getElem?_getD, hlt]
            have HK6 : Hid (r.x[k].length = 6) := by show _ = _; rw [← HXK.out]; exact hx6
            rw [hx6] at hx0
            have HX0 : Hid (w.cell? ⟨xb, xo + k, none⟩ = some (.slice (some ⟨rb, ro, none⟩) 6 c')) := hx0
            have HI0 : Hid (IsL w (some ⟨rb, ro, none⟩) r.x[k]) := by have := hxl0; rw [HXK.out] at this; exact this
            have HL0 : Hid (xb < w.heap.size) := hl0
            have HCL : Hid (cx.length = k) := hcl
            have SQ3 : Hid (type_of% sp) := sp
            have hkx : (k : Int) < (r.x.length : Int) := by omega
            have hk00 : (0 : Int) ≤ (k : Int) := by omega
            obtain ⟨_, ⟨p0, p1, p2, p3, p4⟩, _⟩ := wr5 sp.bv
            have hxk := (sp.bel.cell (p := ⟨xb, xo + k, none⟩) (by exact hl0)).trans hx0
            have HRL : Hid (IsL wr (some ⟨rb, ro, none⟩) r.x[k]) := HI0.out.below sp.bel
            have hww : w.heap.size < wr.heap.size := sp.ba.1
            have hbw : bo < wr.heap.size := sp.bv.1
            have nb1 : ¬ w.heap.size = bo := by have := sp.ge.1; omega
            have nb2 : ¬ bo = w.heap.size := by have := sp.ge.1; omega
            have nb3 : ¬ xb = bo := by have := sp.ge.1; omega
            have nb4 : ¬ bo = xb := by have := sp.ge.1; omega
            clear hrc hcl hx6 hx0 hxl0 hrb sp p1 p2 p3 p4 e1' e2' e3' e4'
            go_wp2
            have hS := (show wr.drew.cell? ⟨bo, 0, none⟩ = some vx ∧ wr.drew.cell? ⟨w.heap.size, 0, none⟩ = some (.slice (some ⟨xb, xo, none⟩) r.x.length c0) ∧ wr.drew.cell? ⟨xb, xo + k, none⟩ = some (.slice (some ⟨rb, ro, none⟩) 6 c') from ⟨p0, e0', hxk⟩)
            have HSX : Hid (∀ X : World, Below wr.heap.size wr X → X.cell? ⟨bo, 0, none⟩ = some vx ∧ X.cell? ⟨w.heap.size, 0, none⟩ = some (.slice (some ⟨xb, xo, none⟩) r.x.length c0) ∧ X.cell? ⟨xb, xo + k, none⟩ = some (.slice (some ⟨rb, ro, none⟩) 6 c')) := fun X hX => by have s := SQ3.out.below hX; exact ⟨(wr5 s.bv).2.1.1, (c5' s.ba).1, (s.bel.cell (p := ⟨xb, xo + k, none⟩) (by exact HL0.out)).trans HX0.out⟩
            have HQ2 : Hid (Below wr.heap.size wr (wr.drew.alloc (.cells #[] 3))) := (Tm.below_drew wr).alloc (Nat.le_refl _) _
            refine Hd.start (fun w' => w'.cell? ⟨bo, 0, none⟩ = some vx ∧ w'.cell? ⟨w.heap.size, 0, none⟩ = some (.slice (some ⟨xb, xo, none⟩) r.x.length c0) ∧ w'.cell? ⟨xb, xo + k, none⟩ = some (.slice (some ⟨rb, ro, none⟩) 6 c')) 14 (by kernel_rfl) ?_
            refine Hd.After.pure (i := 0) (.pointer (some ⟨bo, 0, none⟩)) rfl (by kernel_rfl) (by decide) (by kernel_rfl) (by kernel_rfl) (fun _ _ _ h => h) hS (Or.inl ⟨by rfl, ?_⟩) ?_
            · intro W; go_simp
            (first | simp only [Act.put] | skip)
            refine Hd.After.take (i := 1) (vx) rfl (by kernel_rfl) (by kernel_rfl) (by kernel_rfl) (by kernel_rfl) (by kernel_rfl) (fun _ _ _ h => h) hS (Or.inl ⟨by rfl, ?_⟩) ?_
            · rintro W ⟨hW1, hW2, hW3⟩; go_simp
            (first | simp only [Act.put] | skip)
            refine Hd.After.pure (i := 3) (.pointer (some ⟨w.heap.size, 0, none⟩)) rfl (by kernel_rfl) (by decide) (by kernel_rfl) (by kernel_rfl) (fun _ _ _ h => h) hS (Or.inl ⟨by rfl, ?_⟩) ?_
            · intro W; go_simp
            (first | simp only [Act.put] | skip)
            refine Hd.After.take (i := 4) (.slice (some ⟨xb, xo, none⟩) r.x.length c0) rfl (by kernel_rfl) (by kernel_rfl) (by kernel_rfl) (by kernel_rfl) (by kernel_rfl) (fun _ _ _ h => h) hS (Or.inl ⟨by rfl, ?_⟩) ?_
            · rintro W ⟨hW1, hW2, hW3⟩; go_simp
            (first | simp only [Act.put] | skip)
            refine Hd.After.pure (i := 5) (.int .i64 k) rfl (by kernel_rfl) (by decide) (by kernel_rfl) (by kernel_rfl) (fun _ _ _ h => h) hS (Or.inl ⟨by rfl, ?_⟩) ?_
            · intro W; go_simp
            (first | simp only [Act.put] | skip)
            refine Hd.After.pure (i := 6) (.pointer (some ⟨xb, xo + k, none⟩)) rfl (by kernel_rfl) (by decide) (by kernel_rfl) (by kernel_rfl) (fun _ _ _ h => h) hS (Or.inl ⟨by rfl, ?_⟩) ?_
            · intro W; go_simp
            (first | simp only [Act.put] | skip)
            refine Hd.After.pure (i := 7) (.pointer (some ⟨xb, xo + k, none⟩)) rfl (by kernel_rfl) (by decide) (by kernel_rfl) (by kernel_rfl) (fun _ _ _ h => h) hS (Or.inl ⟨by rfl, ?_⟩) ?_
            · intro W; go_simp
            (first | simp only [Act.put] | skip)
            refine Hd.After.take (i := 8) (.slice (some ⟨rb, ro, none⟩) 6 c') rfl (by kernel_rfl) (by kernel_rfl) (by kernel_rfl) (by kernel_rfl) (by kernel_rfl) (fun _ _ _ h => h) hS (Or.inl ⟨by rfl, ?_⟩) ?_
            · rintro W ⟨hW1, hW2, hW3⟩; go_simp
            (first | simp only [Act.put] | skip)
            refine Hd.After.one (i := 2) (by kernel_rfl) rfl rfl ?_
            intro K2 hK2
            go_simp
            refine hK2 _ _ (fun _ => HSX.out _ HQ2.out) ?_
            clear hK2 K2
            (first | simp only [Act.put] | skip)
            refine Hd.After.one (i := 9) (by kernel_rfl) rfl rfl ?_
            intro K9 hK9
            refine wp_append_lies _ _ _ 25 rfl wr.heap.size 3 j0 (.int .i64 0) 1 8 Try.underlying25 hj hy0 hy1 hy2 rfl (by decide) (.slice (some ⟨wr.heap.size, 0, none⟩) 0 0) 0 [] rfl (by exact Ai.own_empty wr wr.heap.size (Nat.le_refl _)) ⟨rb, ro, none⟩ 6 c' (iv r.x[k]) rfl (by rw [Li.iv_length, HK6.out]) (by exact Ai.news_i (HRL.out.below HQ2.out)) (Li.iv_one _) (by omega) (by unfold maxLen; omega) (by omega) (by simp) _ rfl ?_
            intro g1 cap1 w6 hown1 hgrow1 hp1 hglt1
            have HB6 : Hid (Below wr.heap.size wr w6) := Ai.below_app HQ2.out (by simp) hgrow1 (by intro q hq; simp [Value.ownBlock] at hq; omega)
            have HO1 : Hid (OwI w6 (fun q => q = g1) (.slice (some ⟨g1, 0, none⟩) 6 cap1) r.x[k]) := owi_of (own6 HK6.out hown1) HK6.out rfl
            have HP1 : Hid (wr.heap.size ≤ g1 ∧ g1 < w6.heap.size) := ⟨by simp [Value.ownBlock] at hp1; omega, hglt1⟩
            have HA6 : Hid (Below wr.heap.size wr (w6.alloc (.cells #[.slice (some ⟨g1, 0, none⟩) 6 cap1] 50))) := HB6.out.alloc HB6.out.size _
            have hS6 := HSX.out _ HB6.out
            refine hK9 _ _ (fun _ => hS6) ?_
            clear hK9 K9 hown1 hgrow1 hp1 hglt1
            (first | simp only [Act.put] | skip)
            refine Hd.After.pure (i := 10) (.agg #[.slice (some ⟨g1, 0, none⟩) 6 cap1]) rfl (by kernel_rfl) (by decide) (by kernel_rfl) (by kernel_rfl) (fun _ _ _ h => h) hS6 (Or.inl ⟨by rfl, ?_⟩) ?_
            · intro W; go_simp
            (first | simp only [Act.put] | skip)
            refine Hd.After.one (i := 11) (by kernel_rfl) rfl rfl ?_
            intro K11 hK11
            go_simp
            refine hK11 _ _ (fun _ => HSX.out _ HA6.out) ?_
            clear hK11 K11
            (first | simp only [Act.put] | skip)
            refine Hd.After.one (i := 12) (by kernel_rfl) rfl rfl ?_
            intro K12 hK12
            refine wp_append_lies _ _ _ 24 rfl (w.heap.size + 3) 50 i0 (.agg #[.slice none 0 0]) 1 24 Try.underlying24 hi0 hz0 hz1 hz2 rfl (by decide) vx k cx rfl (row_below SQ3.out.ox HA6.out) ⟨w6.heap.size, 0, none⟩ 1 1 [.slice (some ⟨g1, 0, none⟩) 6 cap1] rfl rfl (news1 w6 _ _) (one1 _ rfl) (by omega) (by unfold maxLen; omega) (by omega) (by have := SQ3.out.ge; have := SQ3.out.bv.1; have := HB6.out.size; simp; omega) (w6.heap.size + 1) (by simp) ?_
            intro g2 cap2 w7 hown2 hgrow2 hp2 hglt2
            have SQ7 : Hid _ := SQ3.out.addX hlt HCL.out HA6.out (HO1.out.below ((Below.refl _ w6).alloc (Nat.le_refl _) _)) HP1.out.1 (by have := HP1.out.2; simp; omega) hown2 hgrow2 (by rw [Sv.size_alloc]; exact hp2)
            obtain ⟨mb, ⟨m0, m1, m2, m3, m4⟩, mf0, mf1, mf2, mf3, mf4⟩ := wr5 (bvQ SQ3.out HA6.out hgrow2)
            obtain ⟨hba7, hbl7⟩ := baQ SQ3.out HA6.out hgrow2
            have hS7 := (show w7.cell? ⟨bo, 0, none⟩ = some vx ∧ w7.cell? ⟨w.heap.size, 0, none⟩ = some (.slice (some ⟨xb, xo, none⟩) r.x.length c0) ∧ w7.cell? ⟨xb, xo + k, none⟩ = some (.slice (some ⟨rb, ro, none⟩) 6 c') from ⟨m0, (c5' hba7).1, (hbl7.cell (p := ⟨xb, xo + k, none⟩) (by exact HL0.out)).trans HX0.out⟩)
            refine hK12 _ _ (fun _ => hS7) ?_
            clear hK12 K12 hown2 hgrow2 hp2 hglt2 hba7 hbl7 m1 m2 m3 m4 mf1 mf2 mf3 mf4
            (first | simp only [Act.put] | skip)
            refine Hd.After.pure (i := 13) (.pointer (some ⟨bo, 0, none⟩)) rfl (by kernel_rfl) (by decide) (by kernel_rfl) (by kernel_rfl) (fun _ _ _ h => h) hS7 (Or.inl ⟨by rfl, ?_⟩) ?_
            · intro W; go_simp
            (first | simp only [Act.put] | skip)
            refine Hd.After.one (i := 14) (by kernel_rfl) rfl rfl ?_
            intro K14 hK14
            go_simp
            refine hK14 _ _ (fun h => by cases h) ?_
            clear hK14 K14
            refine Hd.After.done (by kernel_rfl) ?_ _
            have HC1 : Hid ((cx ++ [Value.slice (some ⟨g1, 0, none⟩) 6 cap1]).length = k + 1) := by show _ = _; rw [List.length_append, HCL.out]; rfl
            have HLT : Hid (k < r.x.length) := hlt
            clear hS hS6 hS7 HSX HQ2 HB6 HO1 HP1 HA6 SQ3 m0 mf0 mb p0 e0' hxk
            go_wp2
            go_roundw
            case rel => exact ⟨k + 1, HLT.out, by go_num, _, _, _, _, SQ7.out, HC1.out⟩
            case measure => have := HLT.out; simp [intOf]; omega
          · obtain rfl : k = r.x.length := by omega
            have hown := sp.own hcl r.lv r.l2
            have lq : LQ w wr bo vx vg vi (askAll r (t.sp.take 0)) [.slice d0 t.sp.length e0, .slice d1 t.lv.length e1] := ⟨sp.bv, hown, sp.bs, sp.br, sp.ge.1, sp.bel⟩
            clear hown sp hcl
            go_wp2
            go_loopw [7] (fun i wr => ∃ k : Nat, k ≤ t.sp.length ∧ i = .int .i64 k ∧ ∃ u0 u1 u2, LQ w wr bo u0 u1 u2 (askAll r (t.sp.take k)) [.slice d0 t.sp.length e0, .slice d1 t.lv.length e1]) (fun i _ => t.sp.length - (intOf i).toNat)
            case atStart => exact ⟨0, Nat.zero_le _, rfl, _, _, _, lq⟩
            case round =>
              obtain ⟨k, hk, rfl, u0, u1, u2, lq⟩ := hrel
              obtain ⟨z0, m0, z1, m1, z2, m2, rfl, rfl, rfl, _⟩ := lq.ow.rd
              obtain ⟨_, ⟨s0, s1⟩, _⟩ := wr2 lq.bt
              by_cases hlt : k < t.sp.length
              · have HTK : Hid (askAll r (t.sp.take (k + 1)) = asked (askAll r (t.sp.take k)) t.sp[k].1 t.sp[k].2) := askAll_take r t.sp k hlt
                obtain ⟨q, hq⟩ : ∃ q, askAll r (t.sp.take k) = q := ⟨_, rfl⟩
                rw [hq] at lq HTK
                clear hq
                rcases hp with h0 | ⟨pb, po, rfl, hpb, hpc0⟩
                · rw [h0] at hlt; simp at hlt
                obtain ⟨y0, y1⟩ := hpc0 k hlt
                obtain ⟨X, hX⟩ : ∃ X, t.sp[k].1 = X := ⟨_, rfl⟩
                obtain ⟨Y, hY⟩ : ∃ Y, t.sp[k].2 = Y := ⟨_, rfl⟩
                rw [hX] at y0 HTK
                rw [hY] at y1 HTK
                have HPC : Hid (w.cell? ⟨pb, po + k * 2, none⟩ = some (.int .i64 X) ∧ w.cell? ⟨pb, po + k * 2 + 1, none⟩ = some (.int .i64 Y)) := ⟨y0, y1⟩
                have HPB : Hid (pb < w.heap.size) := hpb
                have HLQ : Hid (type_of% lq) := lq
                have HS : Hid (∀ W_ : World, Below wr.heap.size wr W_ → (W_.cell? ⟨bo, 0, none⟩ = some (.slice z0 q.x.length m0) ∧ W_.cell? ⟨bo, 1, none⟩ = some (.slice z1 q.g.length m1) ∧ W_.cell? ⟨bo, 2, none⟩ = some (.slice z2 q.ids.length m2) ∧ W_.cell? ⟨bo, 3, none⟩ = some (.int .i64 q.lv) ∧ W_.cell? ⟨bo, 4, none⟩ = some (.int .i64 q.l2)) ∧ W_.cell? ⟨w.heap.size + 1, 0, none⟩ = some (.slice (some ⟨pb, po, none⟩) t.sp.length e0) ∧ W_.cell? ⟨pb, po + k * 2, none⟩ = some (.int .i64 X) ∧ W_.cell? ⟨pb, po + k * 2 + 1, none⟩ = some (.int .i64 Y)) := fun W_ hb => by
                  have l := HLQ.out.below hb
                  exact ⟨(wr5 l.bx).2.1, (wr2 l.bt).2.1.1, (l.bel.cell (p := ⟨pb, po + k * 2, none⟩) (by exact HPB.out)).trans HPC.out.1, (l.bel.cell (p := ⟨pb, po + k * 2 + 1, none⟩) (by exact HPB.out)).trans HPC.out.2⟩
                have hkx : (k : Int) < (t.sp.length : Int) := by omega
                have hk00 : (0 : Int) ≤ (k : Int) := by omega
                have hS := HS.out wr.drew (Tm.below_drew wr)
                have hge := lq.ge
                have nb1 : ¬ w.heap.size + 1 = bo := by omega
                have nb2 : ¬ bo = w.heap.size + 1 := by omega
                have nb3 : ¬ pb = bo := by omega
                have nb4 : ¬ bo = pb := by omega
                clear hX hY y0 y1 lq hpc0
                go_wp2
                clear s0 s1
                refine Hd.start (fun W_ => (W_.cell? ⟨bo, 0, none⟩ = some (.slice z0 q.x.length m0) ∧ W_.cell? ⟨bo, 1, none⟩ = some (.slice z1 q.g.length m1) ∧ W_.cell? ⟨bo, 2, none⟩ = some (.slice z2 q.ids.length m2) ∧ W_.cell? ⟨bo, 3, none⟩ = some (.int .i64 q.lv) ∧ W_.cell? ⟨bo, 4, none⟩ = some (.int .i64 q.l2)) ∧ W_.cell? ⟨w.heap.size + 1, 0, none⟩ = some (.slice (some ⟨pb, po, none⟩) t.sp.length e0) ∧ W_.cell? ⟨pb, po + k * 2, none⟩ = some (.int .i64 X) ∧ W_.cell? ⟨pb, po + k * 2 + 1, none⟩ = some (.int .i64 Y)) 7 (by kernel_rfl) ?_
                refine Hd.After.take (i := 0) (.agg #[.slice z0 q.x.length m0, .slice z1 q.g.length m1, .slice z2 q.ids.length m2, .int .i64 q.lv, .int .i64 q.l2]) rfl (by kernel_rfl) (by kernel_rfl) (by kernel_rfl) (by kernel_rfl) (by kernel_rfl) (fun _ _ _ h => h) hS (Or.inl ⟨by rfl, ?_⟩) ?_
                · rintro W ⟨⟨hW0, hW1, hW2, hW3, hW4⟩, hW5, hW6, hW7⟩; go_simp
                (first | simp only [Act.put] | skip)
                refine Hd.After.pure (i := 1) (.pointer (some ⟨w.heap.size + 1, 0, none⟩)) rfl (by kernel_rfl) (by decide) (by kernel_rfl) (by kernel_rfl) (fun _ _ _ h => h) hS (Or.inl ⟨by rfl, ?_⟩) ?_
                · intro W; go_simp
                (first | simp only [Act.put] | skip)
                refine Hd.After.take (i := 2) (.slice (some ⟨pb, po, none⟩) t.sp.length e0) rfl (by kernel_rfl) (by kernel_rfl) (by kernel_rfl) (by kernel_rfl) (by kernel_rfl) (fun _ _ _ h => h) hS (Or.inl ⟨by rfl, ?_⟩) ?_
                · rintro W ⟨⟨hW0, hW1, hW2, hW3, hW4⟩, hW5, hW6, hW7⟩; go_simp
                (first | simp only [Act.put] | skip)
                refine Hd.After.pure (i := 3) (.int .i64 k) rfl (by kernel_rfl) (by decide) (by kernel_rfl) (by kernel_rfl) (fun _ _ _ h => h) hS (Or.inl ⟨by rfl, ?_⟩) ?_
                · intro W; go_simp
                (first | simp only [Act.put] | skip)
                refine Hd.After.pure (i := 4) (.pointer (some ⟨pb, po + k * 2, none⟩)) rfl (by kernel_rfl) (by decide) (by kernel_rfl) (by kernel_rfl) (fun _ _ _ h => h) hS (Or.inl ⟨by rfl, ?_⟩) ?_
                · intro W; go_simp
                (first | simp only [Act.put] | skip)
                refine Hd.After.take (i := 5) (.agg #[.int .i64 X, .int .i64 Y]) rfl (by kernel_rfl) (by kernel_rfl) (by kernel_rfl) (by kernel_rfl) (by kernel_rfl) (fun _ _ _ h => h) hS (Or.inl ⟨by rfl, ?_⟩) ?_
                · rintro W ⟨⟨hW0, hW1, hW2, hW3, hW4⟩, hW5, hW6, hW7⟩; go_simp
                (first | simp only [Act.put] | skip)
                refine Hd.After.one (i := 6) (by kernel_rfl) rfl rfl ?_
                intro K6 hK6
                go_simp
                go_wp2_with (go_at_call 38; refine (sasked wr.drew _ _ _ _ _ _ q X Y (HLQ.out.below (Tm.below_drew wr)).ow.rd').mono ?_; rintro e w6 ⟨x0, x1, x2, rfl, oA, hb⟩)
                have HB6 : Hid (Below wr.heap.size wr w6) := (Tm.below_drew wr).trans hb
                have oA' : OwR w6 (fun k => wr.heap.size ≤ k ∧ k < w6.heap.size) x0 x1 x2 (asked q X Y) := oA
                have lq6 := HLQ.out.put HB6.out oA'
                obtain ⟨b0', n0', b1', n1', b2', n2', rfl, rfl, rfl, _⟩ := oA.rd
                have HL6 : Hid (type_of% lq6) := lq6
                obtain ⟨_, ⟨p0, p1, p2, p3, p4⟩, f0, f1, f2, f3, f4⟩ := wr5 (HLQ.out.below HB6.out).bx
                have hS6 := HS.out w6 HB6.out
                clear hb oA oA' lq6
                refine hK6 _ _ (fun _ => hS6) ?_
                clear hK6 K6
                (first | simp only [Act.put] | skip)
                refine Hd.After.one (i := 7) (by kernel_rfl) rfl rfl ?_
                intro K7 hK7
                go_simp
                refine hK7 _ _ (fun h => by cases h) ?_
                clear hK7 K7
                refine Hd.After.done (by kernel_rfl) ?_ _
                have HLT : Hid (k < t.sp.length) := hlt
                clear hS hS6 HS HLQ HB6 p0 p1 p2 p3 p4 f0 f1 f2 f3 f4
                go_wp2
                go_roundw
                case rel => exact ⟨k + 1, HLT.out, by go_num, _, _, _, by rw [HTK.out]; exact HL6.out⟩
                case measure => have := HLT.out; simp [intOf]; omega
              · obtain rfl : k = t.sp.length := by omega
                have ht : t.sp.take t.sp.length = t.sp := List.take_length
                rw [ht] at lq
                obtain ⟨q, hq⟩ : ∃ q, askAll r t.sp = q := ⟨_, rfl⟩
                have HQ : Hid (askAll r t.sp = q) := hq
                rw [hq] at lq
                clear hq ht
                obtain ⟨_, ⟨p0, p1, p2, p3, p4⟩, _⟩ := wr5 lq.bx
                obtain ⟨_, ⟨y0, y1, y2, y3, y4⟩, f0, f1, f2, f3, f4⟩ := wr5 lq.br
                have HM : Hid (type_of% lq) := lq
                clear lq
                go_wp2
                refine bodyPost_ret (v := .agg #[.slice z0 q.x.length m0, .slice z1 q.g.length m1, .slice z2 q.ids.length m2, .int .i64 q.lv, .int .i64 q.l2]) (by rw [Tm.results_cell rfl]; go_simp) rfl ⟨_, _, _, by rw [HR.out, HQ.out], ?_, ?_⟩
                · rw [HR.out, HQ.out]
                  have hfr : ∀ (A : World) (o : Nat) (v : Value), Fr (fun q => q = w.heap.size + 1 + 1) A (A.setCell ⟨w.heap.size + 1 + 1, o, none⟩ v) := fun A o v => fr_grown (Li.grown_set A _ o v) rfl
                  refine (HM.out.ow.fr (B' := fun q => q = w.heap.size + 1 + 1) ?_ (fun q hq e => by omega)).mono (fun q hq => ⟨by omega, by simpa [World.setCell] using hq.2.1⟩)
                  iterate 5 refine Fr.trans ?_ (hfr _ _ _)
                  exact Fr.refl _ _
                · have hB := HM.out.bel
                  iterate 5 refine Below.setCell ?_ (by simp; try omega) _
                  exact hB
end Go.Proofs.Ytmfippeclkmhnaa.Rt
