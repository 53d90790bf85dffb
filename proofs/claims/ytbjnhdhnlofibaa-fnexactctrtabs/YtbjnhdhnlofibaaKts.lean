/-
  CtrTabs of the model.
-/
import Derived.Test.YtbjnhdhnlofibaaKti
namespace Go.Proofs.Ytbjnhdhnlofibaa.Kt
set_option maxRecDepth 20000
open Go.RowKit
open Go.Proofs.Ytbjnhdhnlofibaa.Tb
open Go.Proofs.Ytbjnhdhnlofibaa.Tk
open Go.Proofs.Ytbjnhdhnlofibaa.Co
open Go.Proofs.Ytbjnhdhnlofibaa.Wd (dictOf dictOf_mem dictOf_len)
open Go.Proofs.Ytbjnhdhnlofibaa.Wc (wcols tok_c IsCb OC)
open Go.Proofs.Ytbjnhdhnlofibaa.Vc (wcols_le wcols_len wcols_word labels_yes labs_lok)
open Go.Proofs.Ytbjnhdhnlofibaa.Sv (Fr fr_below new1 wr2 Wr)
open Go.Proofs.Ytbjnhdhnlofibaa.Li (below_none)
set_option linter.unusedVariables false

theorem owk_made (w : World) : OwK (w.alloc (.cells #[] 92)) (fun y => y = w.heap.size) (.slice (some ⟨w.heap.size, 0, none⟩) 0 0) [] :=
  ⟨[], World.ownsRow_made w #[] 0 (Nat.zero_le _) (by unfold maxLen; omega) (by simp), rfl, fun j h => by simp at h, fun k hk => by simp [Value.ownBlock] at hk; omega, fun p h => by simp at h, fun p q h => by simp at h⟩
theorem one_cell (w : World) (T : TypeId) (x : Int) : ∀ j u, ([Value.int .i64 x] : List Value)[j]? = some u → (w.alloc (.cells #[.int .i64 x] T)).cell? ((⟨w.heap.size, 0, none⟩ : Addr).add j) = some u := by
  intro j u hj
  match j, hj with
  | 0, hj => simp at hj; subst hj; simp [Addr.add]
theorem one_one (x : Int) : ∀ u ∈ ([Value.int .i64 x] : List Value), u.oneCell' = true := by
  intro u hu; simp at hu; subst hu; rfl
theorem own_snoc {w : World} {base n : Nat} {v : Value} {l : List Int} {x : Int} (hn : l.length = n) (h : w.ownsRow base 3 1 v (n + 1) (Li.iv l ++ [.int .i64 x])) : Li.Own w base v (l ++ [x]) := by
  subst hn
  unfold Li.Own
  rw [← Li.iv_append, List.length_append]
  exact h
set_option maxHeartbeats 8000000 in
theorem stabs (w : World) (n c : Int) (a : Option Addr) (cap : Nat) (rs : List Row) (k : Cf.C) (hx : IsR w a rs) (hl : rs.length + szR rs ≤ 1048576) :
    Calls Try.prog 22 #[.agg #[.int .i64 n, .int .i64 c, .slice a rs.length cap], .agg #[.int .i64 k.trees, .int .i64 k.depth, .int .i64 k.most, .int .i64 k.rate, .int .i64 k.l2, .int .i64 k.prior, .int .i64 k.seed]] w fun e w' => ∃ v, e = .returned (.tuple #[v, .bool (tok n c rs && Cf.cok k)]) ∧ OwK w' (fun q => w.heap.size ≤ q ∧ q < w'.heap.size) v (ktabs n c rs k) ∧ Below w.heap.size w w' := by
  obtain ⟨i0, hi, hz0, hz1, hz2⟩ := info_parts info_tab
  obtain ⟨j0, hj, jz0, jz1, jz2⟩ := info_parts Li.info_int
  go_enter Try.func22, Try.ntmps22
  go_wp2_with fail
  obtain ⟨W1, hW, hsz, hB, bx⟩ := box3_new' w (.int .i64 n) (.int .i64 c) (.slice a rs.length cap) 28
  rw [hW]
  clear hW
  obtain ⟨W2, hW2, hsz2, hb2, bc⟩ := Cf.bx_new W1 k 30
  rw [hW2]
  clear hW2
  rw [hsz] at bc
  have bx := bx.below hb2
  have hB := hB.trans (hb2.mono hB.size)
  have st := owk_made W2
  obtain ⟨W, hW3⟩ : ∃ W, W2.alloc (.cells #[] 92) = W := ⟨_, rfl⟩
  have hb3 : Below W2.heap.size W2 W := by rw [← hW3]; exact (Below.refl _ _).alloc (Nat.le_refl _) _
  have hsz3 : W.heap.size = W2.heap.size + 1 := by rw [← hW3]; simp
  rw [hW3] at st ⊢
  clear hW3
  have bx := bx.below hb3
  have bc := bc.below hb3 (by omega)
  have hB := hB.trans (hb3.mono hB.size)
  have hG2 : W2.heap.size = w.heap.size + 2 := by omega
  rw [hG2] at st
  have hszW : w.heap.size + 2 < W.heap.size := by omega
  clear hsz hsz2 hb2 hb3 hsz3 hG2
  refine (stab _ _ _ _ _ rs (hx.below hB) hl).mono ?_
  rintro e w1 ⟨rfl, hb⟩
  have bx := bx.below hb
  have bc := bc.below hb (by omega)
  have st := st.below hb
  have hB := hB.trans (hb.mono hB.size)
  have hszW : w.heap.size + 2 < w1.heap.size := by have := hb.size; omega
  clear hb
  obtain ⟨_, d0, d1, d2, d3, d4, d5, d6⟩ := id bc
  cases ht : tok n c rs
  · have HM : Hid (ktabs n c rs k = []) := ktabs_no (by rw [ht]; simp)
    have HV : Hid ((tok n c rs && Cf.cok k) = false) := by show _ = _; rw [ht]; rfl
    go_wp2
    refine bodyPost_ret (v := .tuple #[.slice (some ⟨w.heap.size + 2, 0, none⟩) 0 0, .bool false]) (by simp [results, Try.results22, go_sem]) rfl ?_
    exact ⟨.slice (some ⟨w.heap.size + 2, 0, none⟩) 0 0, by rw [HV.out], by rw [HM.out]; exact st.mono (fun y hy => by omega), hB⟩
  go_wp2_with fail
  refine (Cf.scok _ _).mono ?_
  rintro e w2 ⟨rfl, hb⟩
  have bx := bx.below hb
  have bc := bc.below hb (by omega)
  have st := st.below hb
  have hB := hB.trans (hb.mono hB.size)
  have hszW : w.heap.size + 2 < w2.heap.size := by have := hb.size; omega
  clear hb d0 d1 d2 d3 d4 d5 d6
  cases hk : Cf.cok k
  · have HM : Hid (ktabs n c rs k = []) := ktabs_no (by rw [hk]; simp)
    have HV : Hid ((tok n c rs && Cf.cok k) = false) := by show _ = _; rw [ht, hk]; rfl
    go_wp2
    refine bodyPost_ret (v := .tuple #[.slice (some ⟨w.heap.size + 2, 0, none⟩) 0 0, .bool false]) (by simp [results, Try.results22, go_sem]) rfl ?_
    exact ⟨.slice (some ⟨w.heap.size + 2, 0, none⟩) 0 0, by rw [HV.out], by rw [HM.out]; exact st.mono (fun y hy => by omega), hB⟩
  have HM : Hid (ktabs n c rs k = tabsN (wcols c rs).length c rs k.prior) := ktabs_yes ht hk
  have HV : Hid ((tok n c rs && Cf.cok k) = true) := by show _ = _; rw [ht, hk]; rfl
  have HT : Hid (tok n c rs = true) := ht
  have HLA : Hid (labels n c rs = labs rs) := labels_yes ht
  have HWL : Hid (∀ j (hj : j < (wcols c rs).length), (wcols c rs)[j].length = rs.length) := fun j hj => wcols_len ht j hj
  have hw3 := wcols_le ht
  obtain ⟨⟨n0, n3⟩, ⟨c0, c2⟩, h40⟩ := tok_c ht
  have hlab : (labs rs).length ≤ 1048577 := by rw [labs_length]; omega
  clear ht hk
  obtain ⟨_, ⟨cx0, cx1, cx2⟩, _⟩ := id bx
  go_wp2_with fail
  refine (Wc.swc _ _ _ _ _ rs (hx.below hB) hl HT.out).mono ?_
  rintro e w4 ⟨vc, rfl, oc, hb⟩
  have bx := bx.below hb
  have bc := bc.below hb (by omega)
  have st := st.below hb
  have hB := hB.trans (hb.mono hB.size)
  have h24 := hb.size
  clear hb cx0 cx1 cx2
  obtain ⟨ac, cc, rfl, ic⟩ := oc.iscb
  clear oc
  go_wp2
  go_loopw [6, 8] (fun v i wr => ∃ q : Nat, q ≤ (wcols c rs).length ∧ i = .int .i64 q ∧ OwK wr (fun y => y = w.heap.size + 2 ∨ w4.heap.size ≤ y) v (tabsN q c rs k.prior) ∧ Fr (fun y => y = w.heap.size + 2 ∨ w4.heap.size ≤ y) w4 wr) (fun _ i _ => (wcols c rs).length - (intOf i).toNat)
  case atStart => exact ⟨0, Nat.zero_le _, rfl, st.mono (fun y hy => .inl hy), Fr.refl _ _⟩
  case round =>
    obtain ⟨q, hq, rfl, ok, hf⟩ := hrel
    have hs4 := hf.size
    have hBw : Below w.heap.size w wr := hB.trans (hf.bel (fun y hy => by omega) hB.size)
    by_cases hlt : q < (wcols c rs).length
    · rcases ic.same hf.size (fun y h1 h2 => hf.block y h2 (by omega)) with h0 | ⟨cb, co, rfl, ⟨hcl, hcb⟩, hcc⟩
      · rw [h0] at hlt; simp at hlt
      obtain ⟨a', c', dq, iq, _⟩ := hcc q hlt
      have hlq := HWL.out q hlt
      have HSN : Hid (tabsN (q + 1) c rs k.prior = tabsN q c rs k.prior ++ [tab (wcols c rs)[q] (labs rs) k.prior]) := tabsN_snoc q c rs k.prior hlt
      have hcq := tabsN_length q c rs k.prior hq
      obtain ⟨ws, hws⟩ : ∃ ws, (wcols c rs)[q] = ws := ⟨_, rfl⟩
      rw [hws] at dq iq hlq HSN
      have hlq40 : ws.length ≤ 40 := by omega
      obtain ⟨pre, hpre⟩ : ∃ pre, tabsN q c rs k.prior = pre := ⟨_, rfl⟩
      rw [hpre] at ok HSN hcq
      have hp3 : pre.length ≤ 3 := by omega
      have bxr := bx.keptAt hf.size (hf.block _ bx.1 (by omega))
      have bcr := bc.kept hf.size (hf.block _ bc.1 (by omega))
      obtain ⟨wo, rfl⟩ : ∃ wo, wo = wr := ⟨_, rfl⟩
      have okm := ok.bound
      clear hcc hws hpre hlq hcq ok
      go_wp2_with fail
      refine (Di.sdict _ _ _ ws iq (by omega)).mono ?_
      rintro e w5 ⟨vd, rfl, od, hb⟩
      have okm := okm.below hb
      have dq := (hb.cell (p := ⟨cb, co + q, none⟩) hcb).trans dq
      have iq := iq.below hb
      have bxr := bxr.below hb
      have bcr := bcr.below hb (by omega)
      have hBw := hBw.trans (hb.mono hBw.size)
      have hf := hf.trans (fr_below hb)
      have ho5 := hb.size
      have hcb5 : cb < w5.heap.size := by omega
      clear hb
      have hdl : (dictOf ws).length ≤ 40 := by have := dictOf_len ws; omega
      obtain ⟨t, ht⟩ : ∃ t, tab ws (labs rs) k.prior = t := ⟨_, rfl⟩
      have HTW : Hid (dictOf ws = t.ws) := by show _ = _; rw [← ht]; rfl
      have HTV : Hid (t.vs.length = t.ws.length ∧ ∀ j (hj : j < t.ws.length) (hj' : j < t.vs.length), t.vs[j] = Ct.oNum ws (labs rs) t.ws[j] k.prior) := by
        show _ ∧ _
        subst ht
        exact ⟨by simp [tab], fun j hj hj' => by simp [tab]⟩
      rw [ht] at HSN
      rw [HTW.out] at od hdl
      clear ht
      obtain ⟨ad, cd, rfl, idd⟩ := od.iss
      go_wp2
      obtain ⟨w6, hw6, hsz6, hb6, bv⟩ := new1 w5 [.slice ad t.ws.length cd, .slice none 0 0] 92
      rw [hw6]
      clear hw6
      obtain ⟨D, hD⟩ : ∃ D, w5.heap.size = D := ⟨_, rfl⟩
      have HD : Hid (w5.heap.size = D) := hD
      rw [hD] at bv hsz6 hcb5 ho5 ⊢
      have hb6 : Below D w5 w6 := by rw [← hD]; exact hb6
      clear hD
      go_loopw [10] (fun i wr => ∃ j : Nat, j ≤ t.ws.length ∧ i = .int .i64 j ∧ ∃ vv, Wr wr D 0 [.slice ad t.ws.length cd, vv] ∧ Li.Own wr (D + 1) vv (t.vs.take j) ∧ Below D w5 wr) (fun i _ => t.ws.length - (intOf i).toNat)
      case atStart => exact ⟨0, Nat.zero_le _, rfl, _, bv, by simpa using Li.Own.nil _ _, hb6⟩
      case round =>
        obtain ⟨j, hj', rfl, vv, bv, ov, hbD⟩ := hrel
        have hbo : Below w5.heap.size w5 wr := by rw [HD.out]; exact hbD
        obtain ⟨hDw, ⟨dv0, dv1⟩, fv0, fv1⟩ := wr2 bv
        by_cases hjl : j < t.ws.length
        · rcases idd.below hbo with h0 | ⟨db, dd, rfl, hdb, hdc⟩
          · rw [h0] at hjl; simp at hjl
          have dd0 := hdc j hjl
          have hjv : j < t.vs.length := by have := HTV.out.1; omega
          have hval := HTV.out.2 j hjl hjv
          have HTK : Hid (t.vs.take (j + 1) = t.vs.take j ++ [t.vs[j]]) := List.take_succ_eq_append_getElem hjv
          rw [hval] at HTK
          obtain ⟨s, hs⟩ : ∃ s, t.ws[j] = s := ⟨_, rfl⟩
          rw [hs] at dd0 HTK
          have htl : (t.vs.take j).length ≤ 40 := by simp; omega
          obtain ⟨tk, htk⟩ : ∃ tk, t.vs.take j = tk := ⟨_, rfl⟩
          rw [htk] at ov HTK htl
          have HBX : Hid (Box3 wr w.heap.size (.int .i64 n) (.int .i64 c) (.slice a rs.length cap)) := bxr.below hbo
          have HBC : Hid (Cf.Bx wr (w.heap.size + 1) k) := bcr.below hbo (by rw [HD.out]; omega)
          have hcbr : cb < wr.heap.size := by have := hbo.size; rw [HD.out] at this; omega
          have eq := (hbo.cell (p := ⟨cb, co + q, none⟩) (by show cb < _; rw [HD.out]; exact hcb5)).trans dq
          have HIQ : Hid (Ls.IsS wr a' ws) := iq.below hbo
          have HXR : Hid (IsR wr a rs) := hx.below (hBw.trans (hbo.mono hBw.size))
          have HBV : Hid (Wr wr D 0 [.slice (some ⟨db, dd, none⟩) t.ws.length cd, vv]) := bv
          have HOV : Hid (Li.Own wr (D + 1) vv tk) := ov
          have HBO : Hid (Below D w5 wr) := hbD
          have HBD : Hid (Below wr.heap.size wr wr.drew) := (Below.refl wr.heap.size wr).drew
          obtain ⟨_, ⟨x0, x1, x2⟩, _⟩ := id HBX.out
          obtain ⟨_, _, _, _, _, _, y5, _⟩ := id HBC.out
          have hwb : w.heap.size + 1 < wr.heap.size := by omega
          clear hdc hs htk hval bv ov hbD hbo
          go_wp2_with fail
          go_region_held3 (fun w' => w'.cell? ⟨w.heap.size, 0, none⟩ = some (.int .i64 n) ∧ w'.cell? ⟨w.heap.size, 1, none⟩ = some (.int .i64 c) ∧ w'.cell? ⟨w.heap.size, 2, none⟩ = some (.slice a rs.length cap) ∧ w'.cell? ⟨w.heap.size + 1, 5, none⟩ = some (.int .i64 k.prior) ∧ w'.cell? ⟨cb, co + q, none⟩ = some (.slice a' ws.length c') ∧ w'.cell? ⟨D, 0, none⟩ = some (.slice (some ⟨db, dd, none⟩) t.ws.length cd) ∧ w'.cell? ⟨db, dd + j, none⟩ = some (.string s)) (go_keep) (first
            | (go_at_call 37
               refine (slabels wr.drew _ _ _ _ rs (HXR.out.below HBD.out) hl).mono ?_
               rintro e w10 ⟨vl, rfl, ol, hb⟩
               have HY0 : Hid (Below wr.heap.size wr w10) := HBD.out.trans hb
               obtain ⟨_, ⟨lx0, lx1, lx2⟩, _⟩ := id (HBX.out.below HY0.out)
               obtain ⟨_, _, _, _, _, _, l5, _⟩ := HBC.out.below HY0.out hwb
               have lq := (HY0.out.cell (p := ⟨cb, co + q, none⟩) hcbr).trans eq
               have ld := (HY0.out.cell (p := ⟨db, dd + j, none⟩) hdb).trans dd0
               have lv := (HY0.out.cell (p := ⟨D, 0, none⟩) hDw).trans dv0
               rw [HLA.out] at ol
               obtain ⟨al, cl, el, il⟩ := ol.isl
               subst el
               have HIL : Hid (Li.IsL w10 al (labs rs)) := il
               clear hb ol il)
            | (go_at_call 50
               refine (Ct.sofB w10 _ _ _ _ ws (labs rs) s k.prior (HIQ.out.below HY0.out) HIL.out (by omega) hlab).mono ?_
               rintro e w11 ⟨rfl, hb⟩
               have HY1 : Hid (Below wr.heap.size wr w11) := HY0.out.trans (hb.mono HY0.out.size)
               obtain ⟨_, ⟨px0, px1, px2⟩, _⟩ := id (HBX.out.below HY1.out)
               obtain ⟨_, _, _, _, _, _, p5, _⟩ := HBC.out.below HY1.out hwb
               have pq := (HY1.out.cell (p := ⟨cb, co + q, none⟩) hcbr).trans eq
               have pd := (HY1.out.cell (p := ⟨db, dd + j, none⟩) hdb).trans dd0
               have pv := (HY1.out.cell (p := ⟨D, 0, none⟩) hDw).trans dv0
               clear hb))
          have bv := HBV.out.below HY1.out
          have ov := HOV.out.below HY1.out
          have hbD : Below D w5 w11 := HBO.out.trans (HY1.out.mono (by omega))
          obtain ⟨z, hz⟩ : ∃ z, Ct.oNum ws (labs rs) s k.prior = z := ⟨_, rfl⟩
          rw [hz] at HTK ⊢
          clear HY0 HY1 HBX HBC HIQ HXR HBV HOV HBO HBD HIL hz x0 x1 x2 y5 eq dd0 dv0 dv1 fv0 fv1 hDw
          try clear lx0 lx1 lx2 l5 lq ld lv
          try clear px0 px1 px2 p5 pq pd pv
          obtain ⟨hDw, ⟨dv0, dv1⟩, fv0, fv1⟩ := wr2 bv
          have HBA : Hid (Below w11.heap.size w11 (w11.alloc (.cells #[.int .i64 z] 3))) := (Below.refl _ _).alloc (Nat.le_refl _) _
          have HBV2 : Hid (Wr w11 D 0 [.slice (some ⟨db, dd, none⟩) t.ws.length cd, vv]) := bv
          go_wp2_with (at_builtin
                       refine wpList_append_own_at _ rfl _ _ 37 rfl (D + 1) 3 j0 (.int .i64 0) 1 8 Try.underlying37 hj jz0 jz1 jz2 rfl (by decide) _ _ _ rfl (World.ownsRow.alloc ov _) ⟨w11.heap.size, 0, none⟩ 1 1 [.int .i64 z] rfl rfl (one_cell _ _ _) (one_one _) (by unfold maxLen; omega) (by omega) (by simp; omega) ?_
                       intro v3 w12 hown3 hgrow3 hnn3 hloc3
                       have ov3 := own_snoc rfl hown3
                       obtain ⟨a3, c3, e3, _⟩ := ov3.isl
                       replace e3 : v3 = .slice a3 (tk.length + 1) c3 := by rw [e3]; simp
                       subst e3
                       have hge : ∀ y, vv.ownBlock = some y → D + 1 ≤ y := fun y e => (ov.ge y e).1
                       have hsz12 := hgrow3.size
                       have bv12 : Wr w12 D 0 [.slice (some ⟨db, dd, none⟩) t.ws.length cd, vv] := (HBV2.out.below HBA.out).keptAt hgrow3.size (hgrow3.block D (by simp; omega) (fun e => by have := hge D e.symm; omega))
                       obtain ⟨hDw2, ⟨ev0, ev1⟩, gv0, gv1⟩ := wr2 bv12
                       have hb12 : Below D w5 w12 := hbD.trans ((HBA.out.mono (by omega)).trans ⟨hgrow3.os, hgrow3.tape, hgrow3.output, hgrow3.size, fun y hy => hgrow3.block y (by simp; omega) (fun e => by have := hge y e.symm; omega)⟩)
                       have HW3 : Hid (Wr (w12.setCell ⟨D, 1, none⟩ (.slice a3 (tk.length + 1) c3)) D 0 [.slice (some ⟨db, dd, none⟩) t.ws.length cd, .slice a3 (tk.length + 1) c3]) := bv12.set 1 (by simp) _
                       have HO3 : Hid (Li.Own (w12.setCell ⟨D, 1, none⟩ (.slice a3 (tk.length + 1) c3)) (D + 1) (.slice a3 (tk.length + 1) c3) (t.vs.take (j + 1))) := by
                         rw [HTK.out]
                         exact ov3.kept (Li.grown_set w12 D 1 _) (by
                           cases e : (Value.slice a3 (tk.length + 1) c3).ownBlock with
                           | none => exact .inl rfl
                           | some y => exact .inr (fun e' => by have := (ov3.ge y e).1; injection e' with e'; omega))
                       have HB3 : Hid (Below D w5 (w12.setCell ⟨D, 1, none⟩ (.slice a3 (tk.length + 1) c3))) := hb12.setCell (p := ⟨D, 1, none⟩) (Nat.le_refl _) _
                       clear hown3 hgrow3 hnn3 hloc3 ov3 hge bv12 hb12 hsz12)
          go_roundw
          case rel => exact ⟨j + 1, by omega, by go_num, _, HW3.out, HO3.out, HB3.out⟩
          case measure => simp [intOf]; omega
        · obtain rfl : j = t.ws.length := by omega
          have hvl : t.vs.length = t.ws.length := HTV.out.1
          rw [List.take_of_length_le (by omega)] at ov
          clear hvl
          obtain ⟨av, cv, ev, _⟩ := ov.isl
          subst ev
          have od2 := od.below hbo
          have okm2 := okm.below hbo
          obtain ⟨vs, ho, hvl2, he, hv, hbb, hs⟩ := okm2
          have HBA : Hid (Below wr.heap.size wr (wr.alloc (.cells #[.slice ad t.ws.length cd, .slice av t.vs.length cv] 92))) := (Below.refl _ _).alloc (Nat.le_refl _) _
          have ho' : (wr.alloc (.cells #[.slice ad t.ws.length cd, .slice av t.vs.length cv] 92)).ownsRow 0 92 2 u6 pre.length vs := ownsRow_at ho (fun y e => HBA.out.block y (World.ownsRow.lt ho y e).2)
          have HV2 : Hid (∀ y, u6.ownBlock = some y → (y = w.heap.size + 2 ∨ w4.heap.size ≤ y) ∧ y < wo.heap.size) := hv
          have hwr5 : D ≤ wr.heap.size := by omega
          have hdD : ∀ y, (Value.slice ad t.ws.length cd).ownBlock = some y → y < D := fun y e => by have := (od.ge y e).2; rw [HD.out] at this; exact this
          have HPP : Hid (∀ v3 w7, w7.ownsRow 0 92 2 v3 (pre.length + 1) (vs ++ [.slice ad t.ws.length cd, .slice av t.vs.length cv]) → (wr.alloc (.cells #[.slice ad t.ws.length cd, .slice av t.vs.length cv] 92)).grownBy w7 u6.ownBlock → (v3.ownBlock = u6.ownBlock ∨ v3.ownBlock = some (wr.alloc (.cells #[.slice ad t.ws.length cd, .slice av t.vs.length cv] 92)).heap.size) → OwK w7 (fun y => y = w.heap.size + 2 ∨ w4.heap.size ≤ y) v3 (pre ++ [t])) := fun v3 w7 h1 h2 h3 => by
            refine owk_snoc (B := fun y => y = w.heap.size + 2 ∨ w4.heap.size ≤ y) (m := wo.heap.size) hvl2 (fun i hi => ?_) hv hbb hs (od2.below HBA.out) ((ov.below HBA.out).mono (by omega)) (fun y e e' => by have := hdD y e; have := (ov.ge y e').1; omega) (fun y hy => by omega) (by simp; omega) h1 h2 h3
            obtain ⟨q0, q1⟩ := he i hi
            exact ⟨q0.below HBA.out, q1.below HBA.out⟩
          have HF : Hid (Fr (fun y => y = w.heap.size + 2 ∨ w4.heap.size ≤ y) w4 wr) := hf.trans (fr_below hbo)
          clear ho he hv hbb hs hvl2 od2 hjl hbo
          go_wp2_with (at_builtin; refine wpList_append_own_at _ rfl _ _ 59 rfl 0 92 i0 (.agg #[.slice none 0 0, .slice none 0 0]) 2 48 Try.underlying59 hi hz0 hz1 hz2 rfl (by decide) _ _ _ rfl ho' ⟨wr.heap.size, 0, none⟩ 1 1 [.slice ad t.ws.length cd, .slice av t.vs.length cv] rfl rfl (two_cell _ _ _ _) two_one (by unfold maxLen; omega) (by omega) (by omega) ?_; intro v3 w7 hown3 hgrow3 hnn3 hloc3)
          have ok7 := HPP.out v3 w7 hown3 hgrow3 hloc3
          rw [← HSN.out] at ok7
          have hf7 : Fr (fun y => y = w.heap.size + 2 ∨ w4.heap.size ≤ y) w4 w7 := (HF.out.trans (fr_below HBA.out)).trans ⟨hgrow3.os, hgrow3.tape, hgrow3.output, hgrow3.size, fun y hy hn => hgrow3.block y hy (fun e => hn (HV2.out y e.symm).1)⟩
          clear hown3 hgrow3 hnn3 hloc3 HPP HBA ho' HV2
          go_wp2
          go_roundw
          case rel => exact ⟨q + 1, by omega, by go_num, ok7, hf7⟩
          case measure => simp [intOf]; omega
    · obtain rfl : q = (wcols c rs).length := by omega
      rw [← HM.out] at ok
      have okb := ok.bound
      clear hlt ok
      go_wp2
      refine bodyPost_ret (v := .tuple #[u6, .bool true]) (by simp [results, Try.results22, go_sem]) rfl ?_
      exact ⟨u6, by rw [HV.out], okb.mono (fun y hy => by omega), hBw⟩
end Go.Proofs.Ytbjnhdhnlofibaa.Kt
