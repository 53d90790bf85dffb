/-
  Rows asked one question behind the other: the program's askOn over questions that stand already, and Routed.
-/
import Derived.Test.YtmfippeclkmhnaaSeJ
import Derived.Test.YtmfippeclkmhnaaTrW
import Derived.Test.YtmfippeclkmhnaaSeV
import Derived.Laws.ResultCell
namespace Go.Proofs.Ytmfippeclkmhnaa.Rt
open Go.RowKit
open Go.Proofs.Ytmfippeclkmhnaa.Li (ret_bool ret_int below_none IsL btw iv)
open Go.Proofs.Ytmfippeclkmhnaa.Tm (IsP pv pv_length OwnP)
open Go.Proofs.Ytmfippeclkmhnaa.Se Go.Proofs.Ytmfippeclkmhnaa.Sv Go.Proofs.Ytmfippeclkmhnaa.Sw7
set_option linter.unusedVariables false

def askAll (r : R) (ss : List (Int × Int)) : R := ss.foldl (fun r s => asked r s.1 s.2) r
theorem askAll_take (r : R) (ss : List (Int × Int)) (k : Nat) (h : k < ss.length) : askAll r (ss.take (k + 1)) = asked (askAll r (ss.take k)) ss[k].1 ss[k].2 := by
  unfold askAll
  rw [List.take_succ_eq_append_getElem h, List.foldl_append]; rfl
theorem szr_askAll (r : R) (ss : List (Int × Int)) : szr (askAll r ss) ≤ szr r := by
  unfold askAll
  induction ss generalizing r with
  | nil => exact Nat.le_refl _
  | cons s ss ih => exact Nat.le_trans (ih _) (szr_asked r s.1 s.2)
def rtok (r : R) (t : Tr.T) : Bool := rok r && decide (r.lv = 1) && Tr.tok t
def routed (r : R) (t : Tr.T) : R := if rtok r t = true then askAll r t.sp else ⟨[], [], [], 0, 0⟩
theorem routed_ok {r : R} {t : Tr.T} (h : rtok r t = true) : routed r t = askAll r t.sp := if_pos h
theorem routed_no {r : R} {t : Tr.T} (h : rtok r t = false) : routed r t = ⟨[], [], [], 0, 0⟩ := if_neg (by simp [h])
theorem szr_routed (r : R) (t : Tr.T) : szr (routed r t) ≤ szr r := by
  cases h : rtok r t with
  | false => rw [routed_no h]; simp [szr, tot]
  | true => rw [routed_ok h]; exact szr_askAll _ _
def lenV : Value → Nat
  | .slice _ n _ => n
  | _ => 0
theorem two_cell (w : World) (T : TypeId) (x y : Int) (H : Nat) (hH : w.heap.size = H) : ∀ j u, ([Value.int .i64 x, .int .i64 y] : List Value)[j]? = some u → (w.alloc (.cells #[.int .i64 x, .int .i64 y] T)).cell? ((⟨H, 0, none⟩ : Addr).add j) = some u := by
  subst hH
  intro j u hj
  match j, hj with
  | 0, hj => simp at hj; subst hj; simp [Addr.add]
  | 1, hj => simp at hj; subst hj; simp [Addr.add]
  | j + 2, hj => simp at hj
theorem two_one (x y : Int) : ∀ u ∈ ([Value.int .i64 x, .int .i64 y] : List Value), u.oneCell' = true := by
  intro u hu; simp at hu; rcases hu with rfl | rfl <;> rfl
theorem ownP_snoc {w : World} {base n : Nat} {v : Value} {l : List (Int × Int)} {x y : Int} (hn : l.length = n) (h : w.ownsRow base 29 2 v (n + 1) (pv l ++ [.int .i64 x, .int .i64 y])) : OwnP w base v (l ++ [(x, y)]) := by
  subst hn
  unfold OwnP
  rw [← Tm.pv_append, List.length_append]
  exact h
/-- An append changes no block below its own. -/
theorem fr_app {w w1 : World} {r : Option Nat} {L : Nat} (h : w.grownBy w1 r) (hr : ∀ k, r = some k → L ≤ k) : Fr (fun k => L ≤ k) w w1 :=
  ⟨h.os, h.tape, h.output, h.size, fun k hk hn => h.block k hk (fun e => hn (hr k e.symm))⟩
set_option maxHeartbeats 1000000 in
theorem iun (w : World) (a0 a1 a2 : Option Addr) (c0 c1 c2 : Nat) (r : R) (h : Rd w a0 a1 a2 r) :
    Calls Try.prog 34 #[.agg #[.slice a0 r.x.length c0, .slice a1 r.g.length c1, .slice a2 r.ids.length c2, .int .i64 r.lv, .int .i64 r.l2]] w fun e w' => e = .returned (.bool (rok r && decide (r.lv = 1))) ∧ Below w.heap.size w w' := by
  go_enter Try.func34, Try.ntmps34
  go_wp2_with fail
  obtain ⟨W, hW, hsz, hB, bx⟩ := new1 w [.slice a0 r.x.length c0, .slice a1 r.g.length c1, .slice a2 r.ids.length c2, .int .i64 r.lv, .int .i64 r.l2] 27
  rw [hW]
  clear hW hsz
  refine (irows _ _ _ _ _ _ _ r (h.below hB)).mono ?_
  rintro e w1 ⟨rfl, hb⟩
  obtain ⟨_, ⟨x0, x1, x2, x3, x4⟩, _⟩ := wr5 (bx.below hb)
  have hB := hB.trans (hb.mono hB.size)
  clear hb
  cases hv : rok r with
  | false =>
    have HV : Hid (rok r = false) := hv
    go_wp2
    go_ret
    exact ⟨by rw [HV.out]; rfl, hB⟩
  | true =>
    have HV : Hid (rok r = true) := hv
    go_wp2
    go_ret
    exact ⟨ret_bool (by rw [HV.out]; rw [Bool.eq_iff_iff]; simp), hB⟩
set_option maxHeartbeats 1000000 in
theorem inext_yes (w : World) (a : Option Addr) (n c : Nat) (sp : List (Int × Int)) (v0 v1 v2 v3 v4 : Value) (k : Nat) (h : IsP w a sp) (hn : sp.length = n) (hk : k < sp.length) :
    Calls Try.prog 37 #[.agg #[.slice a n c], .agg #[v0, v1, v2, v3, v4], .int .i64 k] w fun e w' => e = .returned (.tuple #[.agg #[.int .i64 sp[k].1, .int .i64 sp[k].2], .bool true]) ∧ Below w.heap.size w w' := by
  rcases h with h0 | ⟨b, off, rfl, hb, hc⟩
  · rw [h0] at hk; simp at hk
  obtain ⟨x0, x1⟩ := hc k hk
  obtain ⟨X, hX⟩ : ∃ X, sp[k].1 = X := ⟨_, rfl⟩
  obtain ⟨Y, hY⟩ : ∃ Y, sp[k].2 = Y := ⟨_, rfl⟩
  rw [hX] at x0 ⊢
  rw [hY] at x1 ⊢
  have hkn : (k : Int) < (n : Int) := by omega
  have hne : ((k : Int) == (n : Int)) = false := by simp; omega
  have hb1 : b < w.heap.size + 1 := by omega
  have hb2 : b < w.heap.size + 1 + 1 := by omega
  clear hc hX hY hk hn
  go_enter Try.func37, Try.ntmps37
  go_wp2
  refine bodyPost_ret (v := .tuple #[.agg #[.int .i64 X, .int .i64 Y], .bool true]) (by rw [results_cell_tmp rfl]; go_simp) rfl ⟨rfl, ?_⟩
  exact (((Below.refl _ _).alloc (Nat.le_refl _) _).alloc (by simp) _).alloc (by simp; omega) _
set_option maxHeartbeats 1000000 in
theorem inext_no (w : World) (a : Option Addr) (n c : Nat) (v0 v1 v2 v3 v4 : Value) :
    Calls Try.prog 37 #[.agg #[.slice a n c], .agg #[v0, v1, v2, v3, v4], .int .i64 n] w fun e w' => e = .returned (.tuple #[.agg #[.int .i64 0, .int .i64 0], .bool false]) ∧ Below w.heap.size w w' := by
  have hne : ((n : Int) == (n : Int)) = true := by simp
  go_enter Try.func37, Try.ntmps37
  go_wp2
  refine bodyPost_ret (v := .tuple #[.agg #[.int .i64 0, .int .i64 0], .bool false]) (by rw [results_cell_tmp rfl]; go_simp) rfl ⟨rfl, ?_⟩
  exact (((Below.refl _ _).alloc (Nat.le_refl _) _).alloc (by simp) _).alloc (by simp; omega) _
/-- What askOn holds in its loop. -/
structure AO (w wr : World) (B : Nat → Prop) (u0 u1 u2 v : Value) (q : R) (ps : List (Int × Int)) : Prop where
  bx : Wr wr w.heap.size 0 [u0, u1, u2, .int .i64 q.lv, .int .i64 q.l2]
  br : Wr wr (w.heap.size + 1) 0 zr5
  ow : OwR wr (fun k => B k ∨ (w.heap.size + 2 ≤ k ∧ k < wr.heap.size ∧ ¬ v.ownBlock = some k)) u0 u1 u2 q
  op : OwnP wr (w.heap.size + 2) v ps
  lt : ∀ k, B k → k < w.heap.size
  bel : Below w.heap.size w wr
theorem AO.below {w wr wn : World} {B : Nat → Prop} {u0 u1 u2 v : Value} {q : R} {ps : List (Int × Int)} (h : AO w wr B u0 u1 u2 v q ps) (hb : Below wr.heap.size wr wn) : AO w wn B u0 u1 u2 v q ps :=
  ⟨h.bx.below hb, h.br.below hb, (h.ow.below hb).mono (fun k hk => hk.imp id (fun e => ⟨e.1, Nat.lt_of_lt_of_le e.2.1 hb.size, e.2.2⟩)), h.op.below hb, h.lt, h.bel.trans (hb.mono h.bel.size)⟩
/-- An append to the questions: the rows stay. -/
theorem AO.app {w wr wn : World} {B : Nat → Prop} {u0 u1 u2 v v' : Value} {q : R} {ps ps' : List (Int × Int)} (h : AO w wr B u0 u1 u2 v q ps) (hg : wr.grownBy wn v.ownBlock) (ho : OwnP wn (w.heap.size + 2) v' ps') (hv : v'.ownBlock = v.ownBlock ∨ ∀ k, v'.ownBlock = some k → wr.heap.size ≤ k) : AO w wn B u0 u1 u2 v' q ps' := by
  have hge : ∀ k, v.ownBlock = some k → w.heap.size + 2 ≤ k := fun k hk => (h.op.ge k hk).1
  have hF : Fr (fun k => v.ownBlock = some k) wr wn := ⟨hg.os, hg.tape, hg.output, hg.size, fun k hk hn => hg.block k hk (fun e => hn e.symm)⟩
  refine ⟨h.bx.fr hF (fun e => by have := hge _ e; omega), h.br.fr hF (fun e => by have := hge _ e; omega), ?_, ho, h.lt, h.bel.trans (hF.bel (fun k hk => by have := hge k hk; omega) h.bel.size)⟩
  have hlt := h.lt
  refine (h.ow.fr hF (fun k hk e => ?_)).mono (fun k hk => ?_)
  · rcases hk with hk | hk
    · have := hlt k hk; have := hge k e; omega
    · exact hk.2.2 e
  · rcases hk with hk | hk
    · exact .inl hk
    · refine .inr ⟨hk.1, Nat.lt_of_lt_of_le hk.2.1 hg.size, fun e => ?_⟩
      rcases hv with hv | hv
      · exact hk.2.2 (by rw [← hv]; exact e)
      · have := hv k e; omega
/-- New rows in the variable. -/
theorem AO.put {w wr wn : World} {B : Nat → Prop} {u0 u1 u2 v x0 x1 x2 : Value} {q q' : R} {ps : List (Int × Int)} (h : AO w wr B u0 u1 u2 v q ps) (hb : Below wr.heap.size wr wn) (ho : OwR wn (fun k => wr.heap.size ≤ k ∧ k < wn.heap.size) x0 x1 x2 q') :
    AO w (((((wn.setCell ⟨w.heap.size, 0, none⟩ x0).setCell ⟨w.heap.size, 1, none⟩ x1).setCell ⟨w.heap.size, 2, none⟩ x2).setCell ⟨w.heap.size, 3, none⟩ (.int .i64 q'.lv)).setCell ⟨w.heap.size, 4, none⟩ (.int .i64 q'.l2)) B x0 x1 x2 v q' ps := by
  have k := h.below hb
  have hfr : ∀ (A : World) (o : Nat) (v : Value), Fr (fun k => k = w.heap.size) A (A.setCell ⟨w.heap.size, o, none⟩ v) := fun A o v => fr_grown (Li.grown_set A w.heap.size o v) rfl
  have hF : Fr (fun k => k = w.heap.size) wn (((((wn.setCell ⟨w.heap.size, 0, none⟩ x0).setCell ⟨w.heap.size, 1, none⟩ x1).setCell ⟨w.heap.size, 2, none⟩ x2).setCell ⟨w.heap.size, 3, none⟩ (.int .i64 q'.lv)).setCell ⟨w.heap.size, 4, none⟩ (.int .i64 q'.l2)) := by
    iterate 5 refine Fr.trans ?_ (hfr _ _ _)
    exact Fr.refl _ _
  have hsz := h.br.1
  have hop := h.op.ge
  refine ⟨?_, k.br.fr hF (by omega), (ho.fr hF (fun q hq e => by omega)).mono (fun q hq => .inr ⟨by omega, by simpa [World.setCell] using hq.2, fun e => by have := (hop q e).2; omega⟩), ?_, h.lt, k.bel.trans (hF.bel (fun q e => by omega) k.bel.size)⟩
  · have h0 := k.bx.set 0 (by simp) x0
    have h1 := h0.set 1 (by simp) x1
    have h2 := h1.set 2 (by simp) x2
    have h3 := h2.set 3 (by simp) (.int .i64 q'.lv)
    have h4 := h3.set 4 (by simp) (.int .i64 q'.l2)
    simpa using h4
  · have hg : ∀ (A : World) (o : Nat) (y : Value), OwnP A (w.heap.size + 2) v ps → OwnP (A.setCell ⟨w.heap.size, o, none⟩ y) (w.heap.size + 2) v ps := fun A o y hA => hA.kept (Li.grown_set A w.heap.size o y) (by
      cases e : v.ownBlock with
      | none => exact .inl rfl
      | some g => exact .inr (fun e' => by have := (hop g e).1; cases e'; omega))
    iterate 5 refine hg _ _ _ ?_
    exact k.op
set_option maxRecDepth 100000 in
set_option maxHeartbeats 4000000 in
theorem iaskOn (w : World) (B : Nat → Prop) (v0 v1 v2 : Value) (r : R) (a : Option Addr) (c : Nat) (sp : List (Int × Int)) (h : OwR w B v0 v1 v2 r) (hlt : ∀ q, B q → q < w.heap.size) (hp : IsP w a sp) (hl : sp.length ≤ 4) :
    Calls Try.prog 36 #[.agg #[v0, v1, v2, .int .i64 r.lv, .int .i64 r.l2], .func (Fn.func 37) #[.agg #[.slice a sp.length c]] #[]] w fun e w' => ∃ u0 u1 u2 v, e = .returned (.tuple #[.agg #[u0, u1, u2, .int .i64 (askAll r sp).lv, .int .i64 (askAll r sp).l2], v]) ∧ OwR w' (fun k => B k ∨ (w.heap.size ≤ k ∧ k < w'.heap.size)) u0 u1 u2 (askAll r sp) ∧ Below w.heap.size w w' := by
  obtain ⟨i0, hi, hz0, hz1, hz2⟩ := info_parts Tm.info_spl
  go_enter Try.func36, Try.ntmps36
  go_wp2_with fail
  obtain ⟨W, hW, hsz, hB, bx, br⟩ := new2 w [v0, v1, v2, .int .i64 r.lv, .int .i64 r.l2] [.slice none 0 0, .slice none 0 0, .slice none 0 0, .int .i64 0, .int .i64 0] 27 27
  rw [hW]
  have am : AO w W B v0 v1 v2 (.slice none 0 0) (askAll r []) [] :=
    ⟨bx, br, (h.below hB).mono (fun k hk => .inl hk), World.ownsRow_nil _ _ _ _, hlt, hB⟩
  clear hW hsz bx br hB h
  go_loopw [6] (fun v wr => ∃ ps : List (Int × Int), ps.length ≤ sp.length ∧ ps = sp.take ps.length ∧ ∃ u0 u1 u2, AO w wr B u0 u1 u2 v (askAll r ps) ps) (fun v _ => sp.length - lenV v)
  case atStart => exact ⟨[], Nat.zero_le _, by simp, _, _, _, am⟩
  case round =>
    obtain ⟨ps, hk, hps, u0, u1, u2, am⟩ := hrel
    obtain ⟨a0, c0, a1, c1, a2, c2, rfl, rfl, rfl, hrd⟩ := am.ow.rd
    obtain ⟨av, cv, rfl, hcv, _⟩ := am.op.isp
    obtain ⟨_, ⟨x0, x1, x2, x3, x4⟩, _⟩ := wr5 am.bx
    by_cases hlts : ps.length < sp.length
    · have HPS : Hid (ps = sp.take ps.length) := hps
      have HTK : Hid (sp.take (ps.length + 1) = ps ++ [sp[ps.length]]) := by
        show _ = _
        rw [List.take_succ_eq_append_getElem hlts, ← HPS.out]
      obtain ⟨q, hq⟩ : ∃ q, askAll r ps = q := ⟨_, rfl⟩
      have HQ : Hid (askAll r ps = q) := hq
      rw [hq] at am hrd x0 x1 x2 x3 x4
      have HN := fun (W : World) (hW : IsP W a sp) (y0 y1 y2 y3 y4 : Value) => inext_yes W a sp.length c sp y0 y1 y2 y3 y4 ps.length hW rfl hlts
      obtain ⟨X, hX⟩ : ∃ X, sp[ps.length].1 = X := ⟨_, rfl⟩
      obtain ⟨Y, hY⟩ : ∃ Y, sp[ps.length].2 = Y := ⟨_, rfl⟩
      have HXY : Hid (sp[ps.length] = (X, Y)) := by show _ = _; rw [← hX, ← hY]
      rw [hX, hY] at HN
      have HNN : Hid (type_of% HN) := HN
      clear hX hY hq hps HN
      go_wp2_with fail
      refine (HNN.out _ (hp.below am.bel) _ _ _ _ _).mono ?_
      rintro e w1 ⟨rfl, hb⟩
      have am1 := am.below hb
      have hb2 : Below w1.heap.size w1 ((w1.alloc (.cells #[.int .i64 X, .int .i64 Y] 29)).alloc (.cells #[.int .i64 X, .int .i64 Y] 29)) := ((Below.refl _ _).alloc (Nat.le_refl _) _).alloc (by simp) _
      have am2 := am1.below hb2
      have bs2 : Wr ((w1.alloc (.cells #[.int .i64 X, .int .i64 Y] 29)).alloc (.cells #[.int .i64 X, .int .i64 Y] 29)) w1.heap.size 0 [.int .i64 X, .int .i64 Y] := (wr_new w1 [.int .i64 X, .int .i64 Y] 29).alloc _
      have hvb : ∀ k, (Value.slice av ps.length cv).ownBlock = some k → k < w1.heap.size := fun k hk => (am1.op.ge k hk).2
      clear hb hb2 x0 x1 x2 x3 x4 am hrd
      go_wp2_with (at_builtin; refine wpList_append_lies _ rfl _ _ 40 rfl (w.heap.size + 2) 29 i0 (.agg #[.int .i64 0, .int .i64 0]) 2 16 Try.underlying40 hi hz0 hz1 hz2 rfl (by decide) _ _ _ rfl am2.op ⟨w1.heap.size + 1, 0, none⟩ 1 1 [.int .i64 X, .int .i64 Y] rfl rfl (two_cell _ _ _ _ _ (by simp)) (two_one _ _) (by decide) (by unfold maxLen; omega) (by omega) (by have := am2.br.1; omega) _ rfl ?_)
      intro g cap w3 hown hgrow hpos hg3
      have ho : OwnP w3 (w.heap.size + 2) (.slice (some ⟨g, 0, none⟩) (ps.length + 1) cap) (ps ++ [(X, Y)]) := ownP_snoc rfl hown
      have am3 := am2.app hgrow ho (hpos.imp (fun e => e.symm) (fun e k hk => by cases hk; first | omega | (simp; omega) | (simp at e ⊢; omega)))
      have hF : Fr (fun k => (Value.slice av ps.length cv).ownBlock = some k) _ w3 := ⟨hgrow.os, hgrow.tape, hgrow.output, hgrow.size, fun k hk hn => hgrow.block k hk (fun e => hn e.symm)⟩
      have bs3 := bs2.fr hF (fun e => by have := hvb _ e; omega)
      obtain ⟨_, ⟨x0, x1, x2, x3, x4⟩, _⟩ := wr5 am3.bx
      obtain ⟨_, ⟨y0, y1⟩, _⟩ := wr2 bs3
      have HAM : Hid (type_of% am3) := am3
      clear hown hgrow hpos hF ho bs2 am2 am1 bs3 am3
      go_wp2_with fail
      clear x0 x1 x2 x3 x4 y0 y1
      refine (iasked _ _ _ _ _ _ _ q X Y HAM.out.ow.rd').mono ?_
      rintro e w4 ⟨z0, z1, z2, rfl, oA, hb4⟩
      have am5 := HAM.out.put hb4 oA
      obtain ⟨d0, e0, d1, e1, d2, e2, rfl, rfl, rfl, _⟩ := oA.rd
      obtain ⟨_, ⟨x0, x1, x2, x3, x4⟩, f0, f1, f2, f3, f4⟩ := wr5 (HAM.out.bx.below hb4)
      have HAA : Hid (askAll r (ps ++ [(X, Y)]) = asked q X Y) := by show _ = _; rw [← HQ.out]; unfold askAll; rw [List.foldl_append]; rfl
      have HM5 : Hid (type_of% am5) := am5
      clear am5 oA hb4 HAM
      go_wp2
      go_roundw
      case rel =>
        refine ⟨ps ++ [(X, Y)], by simp; omega, ?_, _, _, _, by rw [HAA.out]; exact HM5.out⟩
        rw [List.length_append, List.length_singleton, HTK.out, HXY.out]
      case measure => simp only [lenV]; omega
    · have hpe : ps = sp := by rw [hps]; exact List.take_of_length_le (by omega)
      subst hpe
      obtain ⟨q, hq⟩ : ∃ q, askAll r ps = q := ⟨_, rfl⟩
      have HQ : Hid (askAll r ps = q) := hq
      rw [hq] at am hrd x0 x1 x2 x3 x4
      clear hq hps
      go_wp2_with fail
      refine (inext_no _ a _ c _ _ _ _ _).mono ?_
      rintro e w1 ⟨rfl, hb⟩
      have am1 := am.below hb
      have hw0 : w.heap.size < w1.heap.size := am1.bx.1
      have hw1 : w.heap.size + 1 < w1.heap.size := am1.br.1
      clear x0 x1 x2 x3 x4 hb am hrd
      obtain ⟨_, ⟨x0, x1, x2, x3, x4⟩, _⟩ := wr5 am1.bx
      obtain ⟨_, ⟨y0, y1, y2, y3, y4⟩, f0, f1, f2, f3, f4⟩ := wr5 am1.br
      have HAM : Hid (type_of% am1) := am1
      clear am1
      go_wp2
      refine bodyPost_ret (v := .tuple #[.agg #[.slice a0 q.x.length c0, .slice a1 q.g.length c1, .slice a2 q.ids.length c2, .int .i64 q.lv, .int .i64 q.l2], .slice av ps.length cv]) (by rw [results_cell_tmp rfl]; go_simp) rfl ⟨_, _, _, _, by rw [HQ.out], ?_, ?_⟩
      · have am := HAM.out
        have hlt2 := am.lt
        have hfr : ∀ (A : World) (o : Nat) (v : Value), Fr (fun q => q = w.heap.size + 1) A (A.setCell ⟨w.heap.size + 1, o, none⟩ v) := fun A o v => fr_grown (Li.grown_set A _ o v) rfl
        rw [HQ.out]
        have hF : Fr (fun q => q = w.heap.size + 1) w1 (((((w1.setCell ⟨w.heap.size + 1, 0, none⟩ (.slice a0 q.x.length c0)).setCell ⟨w.heap.size + 1, 1, none⟩ (.slice a1 q.g.length c1)).setCell ⟨w.heap.size + 1, 2, none⟩ (.slice a2 q.ids.length c2)).setCell ⟨w.heap.size + 1, 3, none⟩ (.int .i64 q.lv)).setCell ⟨w.heap.size + 1, 4, none⟩ (.int .i64 q.l2)) := by
          iterate 5 refine Fr.trans ?_ (hfr _ _ _)
          exact Fr.refl _ _
        refine (((am.ow.fr hF (fun k hk e => ?_)).below ((Below.refl _ _).alloc (Nat.le_refl _) _))).mono (fun k hk => ?_)
        · rcases hk with hk | hk
          · have := hlt2 k hk; omega
          · omega
        · rcases hk with hk | hk
          · exact .inl hk
          · refine .inr ⟨by omega, ?_⟩
            have h1 := hk.2.1
            simp [World.setCell]
            omega
      · have hB := HAM.out.bel
        refine Below.alloc ?_ (by simp [World.setCell]; omega) _
        iterate 5 refine Below.setCell ?_ (by simp; try omega) _
        exact hB
end Go.Proofs.Ytmfippeclkmhnaa.Rt
