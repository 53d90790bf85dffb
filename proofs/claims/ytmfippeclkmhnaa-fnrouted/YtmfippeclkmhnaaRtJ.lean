/-
  Routed of the program.
-/
import Derived.Test.YtmfippeclkmhnaaRtI
import Derived.Deep.CutRange
namespace Go.Proofs.Ytmfippeclkmhnaa.Rt
open Go.RowKit
open Go.Proofs.Ytmfippeclkmhnaa.Li (ret_bool ret_int below_none IsL btw iv)
open Go.Proofs.Ytmfippeclkmhnaa.Tm (IsP pv pv_length OwnP)
open Go.Proofs.Ytmfippeclkmhnaa.Se Go.Proofs.Ytmfippeclkmhnaa.Sv Go.Proofs.Ytmfippeclkmhnaa.Sw7
set_option linter.unusedVariables false

/-- Rows that lie within what was made since w, apart from the variable. -/
def Ap (w wc : World) (V : Option Nat) (v0 v1 v2 : Value) (q : R) : Prop := ∃ B : Nat → Prop, OwR wc B v0 v1 v2 q ∧ ∀ k, B k → w.heap.size ≤ k ∧ k < wc.heap.size ∧ ∀ g, V = some g → ¬ k = g
/-- How far the region has come: the variable, the copy, the answer. -/
structure Sp (w wc : World) (r q : R) (V : Option Nat) (C G : Option (Value × Value × Value)) : Prop where
  bel : Below w.heap.size w wc
  oV : ∀ g, V = some g → Wr wc g 0 zr5 ∧ w.heap.size ≤ g
  oC : ∀ v0 v1 v2, C = some (v0, v1, v2) → Ap w wc V v0 v1 v2 r
  oG : ∀ v0 v1 v2, G = some (v0, v1, v2) → Ap w wc V v0 v1 v2 q
structure Rp (w wx : World) (bo : Nat) (v0 v1 v2 : Value) (q : R) : Prop where
  bx : Wr wx bo 0 [v0, v1, v2, .int .i64 q.lv, .int .i64 q.l2]
  ow : Ap w wx (some bo) v0 v1 v2 q
  ge : w.heap.size ≤ bo
  bel : Below w.heap.size w wx
section
variable {w wc wn : World} {r q : R} {V : Option Nat} {C G : Option (Value × Value × Value)} {v0 v1 v2 : Value}
theorem Ap.below (h : Ap w wc V v0 v1 v2 q) (hb : Below wc.heap.size wc wn) : Ap w wn V v0 v1 v2 q := by
  obtain ⟨B, ho, hB⟩ := h
  exact ⟨B, ho.below hb, fun k hk => ⟨(hB k hk).1, Nat.lt_of_lt_of_le (hB k hk).2.1 hb.size, (hB k hk).2.2⟩⟩
theorem Sp.init (w : World) (r q : R) : Sp w w r q none none none := ⟨Below.refl _ _, fun g e => by simp at e, fun v0 v1 v2 e => by simp at e, fun v0 v1 v2 e => by simp at e⟩
theorem Sp.step (h : Sp w wc r q V C G) (hb : Below wc.heap.size wc wn) : Sp w wn r q V C G :=
  ⟨h.bel.trans (hb.mono h.bel.size), fun g e => ⟨(h.oV g e).1.below hb, (h.oV g e).2⟩, fun v0 v1 v2 e => (h.oC v0 v1 v2 e).below hb, fun v0 v1 v2 e => (h.oG v0 v1 v2 e).below hb⟩
theorem Sp.drew (h : Sp w wc r q V C G) : Sp w wc.drew r q V C G := h.step (Tm.below_drew wc)
theorem Ap.box (h : Ap w wc none v0 v1 v2 q) (hb : Below wc.heap.size wc wn) : Ap w wn (some wc.heap.size) v0 v1 v2 q := by
  obtain ⟨B, ho, hB⟩ := h
  refine ⟨B, ho.below hb, fun k hk => ⟨(hB k hk).1, Nat.lt_of_lt_of_le (hB k hk).2.1 hb.size, fun g e => ?_⟩⟩
  cases e
  have := (hB k hk).2.1
  omega
theorem Sp.al0 (h : Sp w wc r q none C G) : Sp w (wc.alloc (.cells #[.slice none 0 0, .slice none 0 0, .slice none 0 0, .int .i64 0, .int .i64 0] 27)) r q (some wc.heap.size) C G := by
  have hb : Below wc.heap.size wc (wc.alloc (.cells #[.slice none 0 0, .slice none 0 0, .slice none 0 0, .int .i64 0, .int .i64 0] 27)) := (Below.refl _ _).alloc (Nat.le_refl _) _
  refine ⟨h.bel.trans (hb.mono h.bel.size), fun g e => ?_, fun v0 v1 v2 e => (h.oC v0 v1 v2 e).box hb, fun v0 v1 v2 e => (h.oG v0 v1 v2 e).box hb⟩
  cases e
  exact ⟨wr_new wc zr5 27, h.bel.size⟩
theorem Sp.al (h : Sp w wc r q none C G) : Sp w (wc.alloc (.cells #[.slice none 0 0, .slice none 0 0, .slice none 0 0, .int .i64 0, .int .i64 0] 27)).drew r q (some wc.heap.size) C G := h.al0.drew
theorem Sp.made (h : Sp w wc r q V C G) (hb : Below wc.heap.size wc wn) {B : Nat → Prop} {v0 v1 v2 : Value} {q' : R} (ho : OwR wn B v0 v1 v2 q') (hB : ∀ k, B k → (wc.heap.size ≤ k ∧ k < wn.heap.size)) : Ap w wn V v0 v1 v2 q' := by
  refine ⟨B, ho, fun k hk => ⟨?_, (hB k hk).2, fun g e => ?_⟩⟩
  · have := (hB k hk).1; have := h.bel.size; omega
  · have := (h.oV g e).1.1; have := (hB k hk).1; omega
end
theorem Sp.ofSet {w wn : World} {r q : R} {C : Option (Value × Value × Value)} {bo : Nat} {v0 v1 v2 : Value} (h : Sp w wn r q (some bo) C (some (v0, v1, v2))) :
    Rp w (((((wn.setCell ⟨bo, 0, none⟩ v0).setCell ⟨bo, 1, none⟩ v1).setCell ⟨bo, 2, none⟩ v2).setCell ⟨bo, 3, none⟩ (.int .i64 q.lv)).setCell ⟨bo, 4, none⟩ (.int .i64 q.l2)) bo v0 v1 v2 q := by
  obtain ⟨oV, geV⟩ := h.oV bo rfl
  obtain ⟨B, oG, hB⟩ := h.oG v0 v1 v2 rfl
  have hfr : ∀ (A : World) (o : Nat) (v : Value), Fr (fun k => k = bo) A (A.setCell ⟨bo, o, none⟩ v) := fun A o v => fr_grown (Li.grown_set A bo o v) rfl
  have hF : Fr (fun k => k = bo) wn (((((wn.setCell ⟨bo, 0, none⟩ v0).setCell ⟨bo, 1, none⟩ v1).setCell ⟨bo, 2, none⟩ v2).setCell ⟨bo, 3, none⟩ (.int .i64 q.lv)).setCell ⟨bo, 4, none⟩ (.int .i64 q.l2)) := by
    iterate 5 refine Fr.trans ?_ (hfr _ _ _)
    exact Fr.refl _ _
  refine ⟨?_, ⟨B, oG.fr hF (fun k hk e => (hB k hk).2.2 bo rfl e), fun k hk => ⟨(hB k hk).1, Nat.lt_of_lt_of_le (hB k hk).2.1 hF.size, (hB k hk).2.2⟩⟩, geV, h.bel.trans (hF.bel (fun k hk => by omega) h.bel.size)⟩
  have h0 := oV.set 0 (by simp [zr5]) v0
  have h1 := h0.set 1 (by simp [zr5]) v1
  have h2 := h1.set 2 (by simp [zr5]) v2
  have h3 := h2.set 3 (by simp [zr5]) (.int .i64 q.lv)
  have h4 := h3.set 4 (by simp [zr5]) (.int .i64 q.l2)
  simpa [zr5] using h4
theorem Sp.ofNew {w wn : World} {r q : R} {C : Option (Value × Value × Value)} {v0 v1 v2 : Value} (h : Sp w wn r q none C (some (v0, v1, v2))) :
    Rp w (wn.alloc (.cells #[v0, v1, v2, .int .i64 q.lv, .int .i64 q.l2] 27)) wn.heap.size v0 v1 v2 q := by
  have hb : Below wn.heap.size wn (wn.alloc (.cells #[v0, v1, v2, .int .i64 q.lv, .int .i64 q.l2] 27)) := (Below.refl _ _).alloc (Nat.le_refl _) _
  exact ⟨wr_new wn [v0, v1, v2, .int .i64 q.lv, .int .i64 q.l2] 27, (h.oG v0 v1 v2 rfl).box hb, h.bel.size, h.bel.trans (hb.mono h.bel.size)⟩
theorem kcopy {w wc : World} {r q : R} {V : Option Nat} (a0 a1 a2 : Option Addr) (c0 c1 c2 : Nat) (st : Sp w wc r q V none none) (h : Rd w a0 a1 a2 r) (hk : ROk r) :
    Calls Try.prog 26 #[.agg #[.slice a0 r.x.length c0, .slice a1 r.g.length c1, .slice a2 r.ids.length c2, .int .i64 r.lv, .int .i64 r.l2]] wc fun e w' => ∃ v0 v1 v2, e = .returned (.agg #[v0, v1, v2, .int .i64 r.lv, .int .i64 r.l2]) ∧ Sp w w' r q V (some (v0, v1, v2)) none := by
  refine (icopy wc a0 a1 a2 c0 c1 c2 r (h.below st.bel) hk).mono ?_
  rintro e w' ⟨v0, v1, v2, rfl, ho, hb⟩
  have k := st.step hb
  refine ⟨v0, v1, v2, rfl, k.bel, k.oV, fun u0 u1 u2 e => ?_, k.oG⟩
  cases e
  exact Sp.made st hb ho (fun k hk => hk)
theorem kaskOn {w wc : World} {r : R} {V : Option Nat} {v0 v1 v2 : Value} (a : Option Addr) (c : Nat) (sp : List (Int × Int)) (st : Sp w wc r (askAll r sp) V (some (v0, v1, v2)) none) (hp : IsP w a sp) (hl : sp.length ≤ 4) :
    Calls Try.prog 36 #[.agg #[v0, v1, v2, .int .i64 r.lv, .int .i64 r.l2], .func (Fn.func 37) #[.agg #[.slice a sp.length c]] #[]] wc fun e w' => ∃ u0 u1 u2 v, e = .returned (.tuple #[.agg #[u0, u1, u2, .int .i64 (askAll r sp).lv, .int .i64 (askAll r sp).l2], v]) ∧ Sp w w' r (askAll r sp) V none (some (u0, u1, u2)) := by
  obtain ⟨B, ho, hB⟩ := st.oC v0 v1 v2 rfl
  refine (iaskOn wc B v0 v1 v2 r a c sp ho (fun k hk => (hB k hk).2.1) (hp.below st.bel) hl).mono ?_
  rintro e w' ⟨u0, u1, u2, v, rfl, ho', hb⟩
  have k := st.step hb
  refine ⟨u0, u1, u2, v, rfl, k.bel, k.oV, fun u0 u1 u2 e => by simp at e, fun x0 x1 x2 e => ?_⟩
  cases e
  refine ⟨_, ho', fun k hk => ?_⟩
  rcases hk with hk | hk
  · have := hb.size
    exact ⟨(hB k hk).1, by have := (hB k hk).2.1; omega, (hB k hk).2.2⟩
  · refine ⟨by have := st.bel.size; omega, hk.2, fun g e => by have := (st.oV g e).1.1; omega⟩
set_option maxRecDepth 100000 in
set_option maxHeartbeats 4000000 in
theorem irouted (w : World) (a0 a1 a2 d0 d1 : Option Addr) (c0 c1 c2 e0 e1 : Nat) (r : R) (t : Tr.T) (h : Rd w a0 a1 a2 r) (hp : IsP w d0 t.sp) (hx : IsL w d1 t.lv) (hl : t.sp.length + t.lv.length ≤ 1048576) :
    Calls Try.prog 14 #[.agg #[.slice a0 r.x.length c0, .slice a1 r.g.length c1, .slice a2 r.ids.length c2, .int .i64 r.lv, .int .i64 r.l2], .agg #[.slice d0 t.sp.length e0, .slice d1 t.lv.length e1]] w fun e w' => ∃ v0 v1 v2, e = .returned (.agg #[v0, v1, v2, .int .i64 (routed r t).lv, .int .i64 (routed r t).l2]) ∧ OwR w' (fun k => w.heap.size ≤ k ∧ k < w'.heap.size) v0 v1 v2 (routed r t) ∧ Below w.heap.size w w' := by
  go_enter Try.func14, Try.ntmps14
  go_wp2_with fail
  obtain ⟨W, hW, hsz, hB, bx, bt, br⟩ := new3 w [.slice a0 r.x.length c0, .slice a1 r.g.length c1, .slice a2 r.ids.length c2, .int .i64 r.lv, .int .i64 r.l2] [.slice d0 t.sp.length e0, .slice d1 t.lv.length e1] [.slice none 0 0, .slice none 0 0, .slice none 0 0, .int .i64 0, .int .i64 0] 27 42 27
  rw [hW]
  clear hW
  refine (iun _ _ _ _ _ _ _ r (h.below hB)).mono ?_
  rintro e w1 ⟨rfl, hb⟩
  have bx := bx.below hb
  have bt := bt.below hb
  have br := br.below hb
  have hB := hB.trans (hb.mono hB.size)
  have hS : w.heap.size + 3 ≤ w1.heap.size := by have := hb.size; omega
  clear hb hsz
  cases hu : (rok r && decide (r.lv = 1)) with
  | false =>
    have HR : Hid (routed r t = ⟨[], [], [], 0, 0⟩) := routed_no (by simp only [rtok, hu, Bool.false_and])
    obtain ⟨_, ⟨y0, y1, y2, y3, y4⟩, g0, g1, g2, g3, g4⟩ := wr5 br
    go_wp2_with fail
    refine bodyPost_ret (v := .agg #[.slice none 0 0, .slice none 0 0, .slice none 0 0, .int .i64 0, .int .i64 0]) (by rw [Tm.results_cell rfl]; go_simp) rfl ⟨.slice none 0 0, .slice none 0 0, .slice none 0 0, by rw [HR.out], ?_, ?_⟩
    · rw [HR.out]
      exact ⟨fun _ => False, fun _ => False, fun _ => False, ⟨none, 0, rfl, .inl rfl⟩, ⟨none, 0, rfl, .inl rfl⟩, ⟨none, 0, rfl, .inl rfl⟩, fun k e => e.elim, fun k e => e.elim, fun k e => e.elim⟩
    · iterate 5 refine Below.setCell ?_ (by simp; try omega) _
      exact hB
  | true =>
    obtain ⟨_, ⟨y0, y1⟩, _⟩ := wr2 bt
    go_wp2_with fail
    clear y0 y1
    refine (Tw.itok _ _ _ _ _ t (hp.below hB) (hx.below hB) hl).mono ?_
    rintro e w2 ⟨rfl, hb⟩
    have bx := bx.below hb
    have bt := bt.below hb
    have br := br.below hb
    have hB := hB.trans (hb.mono hB.size)
    have hS : w.heap.size + 3 ≤ w2.heap.size := by have := hb.size; omega
    clear hb
    cases hv : Tr.tok t with
    | false =>
      have HR : Hid (routed r t = ⟨[], [], [], 0, 0⟩) := routed_no (by simp only [rtok, hv, Bool.and_false])
      obtain ⟨_, ⟨y0, y1, y2, y3, y4⟩, g0, g1, g2, g3, g4⟩ := wr5 br
      go_wp2_with fail
      refine bodyPost_ret (v := .agg #[.slice none 0 0, .slice none 0 0, .slice none 0 0, .int .i64 0, .int .i64 0]) (by rw [Tm.results_cell rfl]; go_simp) rfl ⟨.slice none 0 0, .slice none 0 0, .slice none 0 0, by rw [HR.out], ?_, ?_⟩
      · rw [HR.out]
        exact ⟨fun _ => False, fun _ => False, fun _ => False, ⟨none, 0, rfl, .inl rfl⟩, ⟨none, 0, rfl, .inl rfl⟩, ⟨none, 0, rfl, .inl rfl⟩, fun k e => e.elim, fun k e => e.elim, fun k e => e.elim⟩
      · iterate 5 refine Below.setCell ?_ (by simp; try omega) _
        exact hB
    | true =>
      have HR : Hid (routed r t = askAll r t.sp) := routed_ok (by simp only [rtok, hu, hv, Bool.and_true])
      have HK : Hid (ROk r) := by simp only [Bool.and_eq_true] at hu; exact rok_iff.1 hu.1
      have hs4 : t.sp.length ≤ 4 := (Tr.tok_iff.1 hv).1.1
      obtain ⟨_, ⟨y0, y1⟩, _⟩ := wr2 bt
      have hw1 : w.heap.size + 1 < w2.heap.size := by omega
      clear hu hv
      go_wp2_with fail
      clear y0 y1
      obtain ⟨W3, hW3, hsz3, hb3, bn⟩ := new1 w2 [.slice d0 t.sp.length e0] 68
      rw [hW3]
      have bx := bx.below hb3
      have br := br.below hb3
      have hB := hB.trans (hb3.mono hB.size)
      have hS : w.heap.size + 3 ≤ W3.heap.size := by omega
      have HS : Hid (∀ W_ : World, Below W3.heap.size W3 W_ → (W_.cell? ⟨w.heap.size, 0, none⟩ = some (.slice a0 r.x.length c0) ∧ W_.cell? ⟨w.heap.size, 1, none⟩ = some (.slice a1 r.g.length c1) ∧ W_.cell? ⟨w.heap.size, 2, none⟩ = some (.slice a2 r.ids.length c2) ∧ W_.cell? ⟨w.heap.size, 3, none⟩ = some (.int .i64 r.lv) ∧ W_.cell? ⟨w.heap.size, 4, none⟩ = some (.int .i64 r.l2)) ∧ W_.cell? ⟨w2.heap.size, 0, none⟩ = some (.slice d0 t.sp.length e0)) := fun W_ hb => ⟨(wr5 (bx.below hb)).2.1, (wr1 (bn.below hb)).2.1⟩
      have HRD : Hid (Rd W3 a0 a1 a2 r) := h.below hB
      have HPP : Hid (IsP W3 d0 t.sp) := hp.below hB
      have HBR : Hid (type_of% br) := br
      have HHB : Hid (type_of% hB) := hB
      obtain ⟨q, hq⟩ : ∃ q, askAll r t.sp = q := ⟨_, rfl⟩
      have HQ : Hid (askAll r t.sp = q) := hq
      have st1 := Sp.init W3 r q
      have st := st1.drew
      have hS0 := HS.out W3 (Below.refl _ _)
      have HKA : Hid (∀ {wc : World} {V : Option Nat} {v0 v1 v2 : Value}, Sp W3 wc r q V (some (v0, v1, v2)) none → Calls Try.prog 36 #[.agg #[v0, v1, v2, .int .i64 r.lv, .int .i64 r.l2], .func (Fn.func 37) #[.agg #[.slice d0 t.sp.length e0]] #[]] wc fun e w' => ∃ u0 u1 u2 v, e = .returned (.tuple #[.agg #[u0, u1, u2, .int .i64 q.lv, .int .i64 q.l2], v]) ∧ Sp W3 w' r q V none (some (u0, u1, u2))) := by
        intro wc V v0 v1 v2 st
        rw [← hq] at st ⊢
        exact kaskOn d0 e0 t.sp st HPP.out hs4
      clear hW3 hsz3 hb3 bn bx bt br hB hq
      go_cut [6] from 20 (fun s_ wx => ∃ bo u0 u1 u2, s_ = .pointer (some ⟨bo, 0, none⟩) ∧ Rp W3 wx bo u0 u1 u2 q)
      case first =>
        obtain ⟨⟨t0, t1, t2, t3, t4⟩, t5⟩ := hS0
        go_region_held3 (fun W_ => (W_.cell? ⟨w.heap.size, 0, none⟩ = some (.slice a0 r.x.length c0) ∧ W_.cell? ⟨w.heap.size, 1, none⟩ = some (.slice a1 r.g.length c1) ∧ W_.cell? ⟨w.heap.size, 2, none⟩ = some (.slice a2 r.ids.length c2) ∧ W_.cell? ⟨w.heap.size, 3, none⟩ = some (.int .i64 r.lv) ∧ W_.cell? ⟨w.heap.size, 4, none⟩ = some (.int .i64 r.l2)) ∧ W_.cell? ⟨w2.heap.size, 0, none⟩ = some (.slice d0 t.sp.length e0)) (first | (have k_ := HS.out _ st.bel; with_reducible exact k_) | (have k_ := HS.out _ st.al.bel; with_reducible exact k_) | (have k_ := HS.out _ st.al0.bel; with_reducible exact k_) | (have k_ := HS.out _ st1.al.bel; with_reducible exact k_) | (have k_ := HS.out _ st.ofSet.bel; with_reducible exact k_) | (have k_ := HS.out _ st.ofNew.bel; with_reducible exact k_) | go_keep) (first
          | (go_at_call 26; (first | (have k_ := kcopy a0 a1 a2 c0 c1 c2 st HRD.out HK.out; with_reducible refine k_.mono ?_) | (have k_ := kcopy a0 a1 a2 c0 c1 c2 st.al HRD.out HK.out; with_reducible refine k_.mono ?_) | (have k_ := kcopy a0 a1 a2 c0 c1 c2 st.al0 HRD.out HK.out; with_reducible refine k_.mono ?_) | (have k_ := kcopy a0 a1 a2 c0 c1 c2 st1.al HRD.out HK.out; with_reducible refine k_.mono ?_)); clear st; rintro e w_0 ⟨v0, v1, v2, rfl, st⟩; (first | (have kv := wr5 (st.oV _ rfl).1; obtain ⟨_, ⟨k0, k1, k2, k3, k4⟩, l0, l1, l2, l3, l4⟩ := kv) | skip))
          | (go_at_call 36; (first | (have k_ := HKA.out st; with_reducible refine k_.mono ?_) | (have k_ := HKA.out st.al; with_reducible refine k_.mono ?_) | (have k_ := HKA.out st.al0; with_reducible refine k_.mono ?_)); clear st; rintro e w_1 ⟨u0, u1, u2, v, rfl, st⟩; (first | (have kv := wr5 (st.oV _ rfl).1; obtain ⟨_, ⟨k0, k1, k2, k3, k4⟩, l0, l1, l2, l3, l4⟩ := kv) | skip); obtain ⟨_, ho_, _⟩ := st.oG _ _ _ rfl; obtain ⟨x0_, y0_, x1_, y1_, x2_, y2_, rfl, rfl, rfl, _⟩ := ho_.rd; clear ho_))
        all_goals
          go_wp2_with fail
          go_meet
          case rel =>
            first
              | (have k_ := st.ofNew; with_reducible exact ⟨_, _, _, _, rfl, k_⟩)
              | (have k_ := st.ofSet; with_reducible exact ⟨_, _, _, _, rfl, k_⟩)
      case rest =>
        obtain ⟨bo, u0, u1, u2, rfl, hres⟩ := hcut
        obtain ⟨B, ho, hBk⟩ := hres.ow
        obtain ⟨x0, m0, x1, m1, x2, m2, rfl, rfl, rfl, _⟩ := ho.rd
        obtain ⟨_, ⟨t0, t1, t2, t3, t4⟩, _⟩ := wr5 hres.bx
        have br := HBR.out.below hres.bel
        have hB := HHB.out.trans (hres.bel.mono HHB.out.size)
        have hge := hres.ge
        obtain ⟨_, ⟨z0, z1, z2, z3, z4⟩, f0, f1, f2, f3, f4⟩ := wr5 br
        have HO : Hid (type_of% ho) := ho
        have HBK : Hid (type_of% hBk) := hBk
        have HB : Hid (type_of% hB) := hB
        clear HS hS0 st st1 HKA HRD HPP HBR HHB hres ho hBk br hB
        go_wp2
        refine bodyPost_ret (v := .agg #[.slice x0 q.x.length m0, .slice x1 q.g.length m1, .slice x2 q.ids.length m2, .int .i64 q.lv, .int .i64 q.l2]) (by rw [Tm.results_cell rfl]; go_simp) rfl ⟨_, _, _, by rw [HR.out, HQ.out], ?_, ?_⟩
        · rw [HR.out, HQ.out]
          have hfr : ∀ (A : World) (o : Nat) (v : Value), Fr (fun q => q = w.heap.size + 1 + 1) A (A.setCell ⟨w.heap.size + 1 + 1, o, none⟩ v) := fun A o v => fr_grown (Li.grown_set A _ o v) rfl
          have hF : Fr (fun q => q = w.heap.size + 1 + 1) wc (((((wc.setCell ⟨w.heap.size + 1 + 1, 0, none⟩ (.slice x0 q.x.length m0)).setCell ⟨w.heap.size + 1 + 1, 1, none⟩ (.slice x1 q.g.length m1)).setCell ⟨w.heap.size + 1 + 1, 2, none⟩ (.slice x2 q.ids.length m2)).setCell ⟨w.heap.size + 1 + 1, 3, none⟩ (.int .i64 q.lv)).setCell ⟨w.heap.size + 1 + 1, 4, none⟩ (.int .i64 q.l2)) := by
            iterate 5 refine Fr.trans ?_ (hfr _ _ _)
            exact Fr.refl _ _
          refine (HO.out.fr hF (fun k hk e => ?_)).mono (fun k hk => ⟨?_, ?_⟩)
          · have := (HBK.out k hk).1; omega
          · have := (HBK.out k hk).1; omega
          · exact Nat.lt_of_lt_of_le (HBK.out k hk).2.1 hF.size
        · have hB := HB.out
          iterate 5 refine Below.setCell ?_ (by simp; try omega) _
          exact hB
end Go.Proofs.Ytmfippeclkmhnaa.Rt
