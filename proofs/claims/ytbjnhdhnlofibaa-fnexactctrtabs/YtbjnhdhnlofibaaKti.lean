/-
  CtrTabs of the program: the words of each column and what all labels tell of them.
-/
import Derived.Test.YtbjnhdhnlofibaaKtb
import Derived.Test.YtbjnhdhnlofibaaVcl
import Derived.Test.YtbjnhdhnlofibaaDictW
namespace Go.Proofs.Ytbjnhdhnlofibaa.Kt
set_option maxRecDepth 20000
open Go.RowKit
open Go.Proofs.Ytbjnhdhnlofibaa.Tb
open Go.Proofs.Ytbjnhdhnlofibaa.Tk
open Go.Proofs.Ytbjnhdhnlofibaa.Co
open Go.Proofs.Ytbjnhdhnlofibaa.Wd (dictOf dictOf_mem dictOf_len)
open Go.Proofs.Ytbjnhdhnlofibaa.Wc (wcols tok_c IsCb OC)
open Go.Proofs.Ytbjnhdhnlofibaa.Vc (wcols_le wcols_len wcols_word labels_yes labs_lok)
open Go.Proofs.Ytbjnhdhnlofibaa.Sv (Fr fr_below new1 wr2 Wr)
open Go.Proofs.Ytbjnhdhnlofibaa.Li (below_none)
set_option linter.unusedVariables false

noncomputable def tab (ws : List ByteArray) (ls : List Int) (p : Int) : Kv := ⟨dictOf ws, (dictOf ws).map fun s => Ct.oNum ws ls s p⟩
noncomputable def tabsN (q : Nat) (c : Int) (rs : List Row) (p : Int) : List Kv := ((wcols c rs).take q).map fun ws => tab ws (labs rs) p
theorem tabsN_length (q : Nat) (c : Int) (rs : List Row) (p : Int) (h : q ≤ (wcols c rs).length) : (tabsN q c rs p).length = q := by simp [tabsN]; omega
theorem tabsN_snoc (q : Nat) (c : Int) (rs : List Row) (p : Int) (h : q < (wcols c rs).length) : tabsN (q + 1) c rs p = tabsN q c rs p ++ [tab (wcols c rs)[q] (labs rs) p] := by
  unfold tabsN
  rw [List.take_succ_eq_append_getElem h, List.map_append]; rfl
noncomputable def ktabs (n c : Int) (rs : List Row) (k : Cf.C) : List Kv := if tok n c rs = true ∧ Cf.cok k = true then tabsN (wcols c rs).length c rs k.prior else []
theorem ktabs_no {n c : Int} {rs : List Row} {k : Cf.C} (h : ¬ (tok n c rs = true ∧ Cf.cok k = true)) : ktabs n c rs k = [] := by unfold ktabs; rw [if_neg h]
theorem ktabs_yes {n c : Int} {rs : List Row} {k : Cf.C} (h : tok n c rs = true) (h' : Cf.cok k = true) : ktabs n c rs k = tabsN (wcols c rs).length c rs k.prior := by unfold ktabs; rw [if_pos ⟨h, h'⟩]
theorem ktot_app (xs : List Kv) (y : Kv) : ktot (xs ++ [y]) = ktot xs + (y.ws.length + y.vs.length) := by
  induction xs with
  | nil => simp [ktot]
  | cons x xs ih => simp only [List.cons_append, ktot, ih]; omega
theorem tabsN_sz {n c : Int} {rs : List Row} (p : Int) (h : tok n c rs = true) : ∀ q, q ≤ (wcols c rs).length → ktot (tabsN q c rs p) ≤ 80 * q
  | 0, _ => by simp [tabsN, ktot]
  | q + 1, hq => by
    have ih := tabsN_sz p h q (by omega)
    rw [tabsN_snoc q c rs p (by omega), ktot_app]
    have h1 := dictOf_len (wcols c rs)[q]
    have h2 := wcols_len h q (by omega)
    have h3 := (tok_c h).2.2
    simp only [tab, List.length_map]
    omega
theorem ktabs_sz (n c : Int) (rs : List Row) (k : Cf.C) : (ktabs n c rs k).length + ktot (ktabs n c rs k) ≤ 1048576 := by
  by_cases h : tok n c rs = true ∧ Cf.cok k = true
  · rw [ktabs_yes h.1 h.2, tabsN_length _ _ _ _ (Nat.le_refl _)]
    have := wcols_le h.1
    have := tabsN_sz (p := k.prior) h.1 (wcols c rs).length (Nat.le_refl _)
    omega
  · rw [ktabs_no h]; simp [ktot]
theorem dict_sz {ws : List ByteArray} {b : Nat} (h : ∀ i (hi : i < ws.length), ws[i].size ≤ b) (j : Nat) (hj : j < (dictOf ws).length) : (dictOf ws)[j].size ≤ b := by
  have := dictOf_mem.1 (List.getElem_mem hj)
  obtain ⟨i, hi, e⟩ := List.getElem_of_mem this
  rw [← e]; exact h i hi
theorem info_tab : (Try.prog.info? 92).map (fun i => (i.zero, i.size, i.bytes)) = some (some (.agg #[.slice none 0 0, .slice none 0 0]), 2, 48) := by kernel_rfl
theorem two_cell (w : World) (T : TypeId) (x y : Value) : ∀ j u, ([x, y] : List Value)[j]? = some u → (w.alloc (.cells #[x, y] T)).cell? ((⟨w.heap.size, 0, none⟩ : Addr).add j) = some u := by
  intro j u hj
  match j, hj with
  | 0, hj => simp at hj; subst hj; simp [Addr.add]
  | 1, hj => simp at hj; subst hj; simp [Addr.add]
theorem two_one {a b : Option Addr} {n c m d : Nat} : ∀ u ∈ ([.slice a n c, .slice b m d] : List Value), u.oneCell' = true := by
  intro u hu
  simp at hu
  rcases hu with rfl | rfl <;> rfl
set_option maxHeartbeats 4000000 in
theorem itab1 (w : World) (aw al : Option Addr) (cw cl : Nat) (ws : List ByteArray) (ls : List Int) (p : Int) (hw : Ls.IsS w aw ws) (hl : Li.IsL w al ls) (hwl : ws.length ≤ 40) (hll : ls.length ≤ 1048577) (hz : ∀ i (hi : i < ws.length), ws[i].size ≤ 25) :
    Calls Try.prog 53 #[.slice aw ws.length cw, .slice al ls.length cl, .int .i64 p] w fun e w' => ∃ a0 c0 a1 c1, e = .returned (.agg #[.slice a0 (tab ws ls p).ws.length c0, .slice a1 (tab ws ls p).vs.length c1]) ∧ Ls.Own w' w.heap.size (.slice a0 (tab ws ls p).ws.length c0) (tab ws ls p).ws ∧ Li.Own w' w.heap.size (.slice a1 (tab ws ls p).vs.length c1) (tab ws ls p).vs ∧ (∀ k, (Value.slice a0 (tab ws ls p).ws.length c0).ownBlock = some k → (Value.slice a1 (tab ws ls p).vs.length c1).ownBlock ≠ some k) ∧ Below w.heap.size w w' := by
  obtain ⟨i0, hi, hz0, hz1, hz2⟩ := info_parts Li.info_int
  go_enter Try.func53, Try.ntmps53
  go_wp2_with fail
  obtain ⟨W, hW, hsz, hB, bx⟩ := new1 w [.slice none 0 0, .slice none 0 0] 92
  rw [hW]
  clear hW
  have hWs : w.heap.size < W.heap.size := by omega
  clear hsz
  refine (Di.idict _ _ _ ws (hw.below hB) (by omega) (fun i h => by have := hz i h; omega)).mono ?_
  rintro e w1 ⟨vd, rfl, od, hb⟩
  have bx := bx.below hb
  have hB := hB.trans (hb.mono hB.size)
  have hs1 : W.heap.size ≤ w1.heap.size := hb.size
  clear hb
  have hdl : (dictOf ws).length ≤ 40 := by have := dictOf_len ws; omega
  have HDZ : Hid (∀ j (hj : j < (dictOf ws).length), (dictOf ws)[j].size ≤ 25) := fun j hj => dict_sz hz j hj
  obtain ⟨dw, hdw⟩ : ∃ dw, dictOf ws = dw := ⟨_, rfl⟩
  have HDW : Hid (dictOf ws = dw) := hdw
  have HTW : Hid ((tab ws ls p).ws = dw) := hdw
  have HTV : Hid ((tab ws ls p).vs = dw.map fun s => Ct.oNum ws ls s p) := by show _ = _; rw [← hdw]; rfl
  rw [hdw] at od hdl HDZ
  clear hdw
  obtain ⟨ad, cd, rfl, idd⟩ := od.iss
  have hdG : ∀ k, (Value.slice ad dw.length cd).ownBlock = some k → k < w1.heap.size := fun k e => (od.ge k e).2
  go_wp2_with (at_make; refine wpList_make_full _ rfl _ _ 37 rfl w1.heap.size 3 i0 (.int .i64 0) 1 Try.underlying37 hi hz0 hz1 _ _ _ _ dw.length rfl rfl (by omega) (by omega) (by rw [hz2]; omega) (by unfold maxLen; omega) (Nat.le_refl _) ?_; intro w2 hown hgrow)
  have o2 := Li.own_made hown
  have hb2 := below_none hgrow
  have bx := bx.below hb2
  have hB := hB.trans (hb2.mono hB.size)
  have od := od.below hb2
  have hWs2 : w.heap.size < w2.heap.size := by have := hb2.size; omega
  obtain ⟨G, hG⟩ : ∃ G, w1.heap.size = G := ⟨_, rfl⟩
  rw [hG] at o2 hdG hs1 ⊢
  clear hown hgrow hb2 hG idd
  have HLM : Hid ((dw.map fun s => Ct.oNum ws ls s p).length = dw.length) := by show _ = _; simp
  obtain ⟨zs, hzs⟩ : ∃ zs, (dw.map fun s => Ct.oNum ws ls s p) = zs := ⟨_, rfl⟩
  have HZS : Hid (∀ j (hj : j < dw.length) (hj' : j < zs.length), zs[j] = Ct.oNum ws ls dw[j] p) := fun j hj hj' => by subst hzs; simp
  rw [hzs] at HTV HLM
  clear hzs
  go_wp2
  go_loopw [18] (fun i wr => ∃ q : Nat, q ≤ dw.length ∧ i = .int .i64 q ∧ ∃ l : List Int, l.length = dw.length ∧ Li.Like l zs q ∧ Li.Own wr G (.slice (some ⟨G, 0, none⟩) dw.length dw.length) l ∧ Ls.Own wr W.heap.size (.slice ad dw.length cd) dw ∧ Wr wr w.heap.size 0 [.slice none 0 0, .slice none 0 0] ∧ Below w.heap.size w wr) (fun i _ => dw.length - (intOf i).toNat)
  case atStart => exact ⟨0, Nat.zero_le _, rfl, _, by simp, fun j hj => by omega, o2, od, bx, hB⟩
  case round =>
    obtain ⟨q, hq, rfl, l, hll, hlike, ol, od, bx, hBr⟩ := hrel
    clear o2
    by_cases hlt : q < dw.length
    · obtain ⟨_, _, ee, idr⟩ := od.iss
      cases ee
      rcases idr with h0 | ⟨db, dd, rfl, hdb, hdc⟩
      · rw [h0] at hlt; simp at hlt
      have dq := hdc q hlt
      have hzq := HDZ.out q hlt
      have hql : q < zs.length := by rw [HLM.out]; exact hlt
      have hnx : Li.Like (l.set q zs[q]) zs (q + 1) := Li.like_set hlike hql (by rw [HLM.out]; exact hll)
      rw [HZS.out q hlt hql] at hnx
      obtain ⟨s, hs⟩ : ∃ s, dw[q] = s := ⟨_, rfl⟩
      rw [hs] at dq hzq hnx
      have HNX : Hid (Li.Like (l.set q (Ct.oNum ws ls s p)) zs (q + 1)) := hnx
      have hwr := hw.below hBr
      have hlr := hl.below hBr
      have HLL : Hid (l.length = dw.length) := hll
      clear hdc hs hnx hlike hll
      go_wp2_with fail
      refine (Ct.iof _ _ _ _ _ ws ls s p hwr hlr (by omega) hll (fun i h => by have := hz i h; unfold maxLen; omega) (by unfold maxLen; omega)).mono ?_
      rintro e w4 ⟨rfl, hb⟩
      have ol := ol.below hb
      have HOD : Hid (Ls.Own w4 W.heap.size (.slice (some ⟨db, dd, none⟩) dw.length cd) dw) := od.below hb
      have HBX : Hid (Wr w4 w.heap.size 0 [.slice none 0 0, .slice none 0 0]) := bx.below hb
      have HBR : Hid (Below w.heap.size w w4) := hBr.trans (hb.mono hBr.size)
      have hGw := (ol.ge G rfl).2
      have hcell := ol.cell HLL.out q (by have := HLL.out; omega)
      obtain ⟨cv, hcv⟩ : ∃ cv, w4.cell? ⟨G, q, none⟩ = some cv := ⟨_, hcell⟩
      have hcf := ol.frozen HLL.out q
      obtain ⟨x, hx⟩ : ∃ x, Ct.oNum ws ls s p = x := ⟨_, rfl⟩
      rw [hx] at HNX ⊢
      have HO : Hid (Li.Own (w4.setCell ⟨G, q, none⟩ (.int .i64 x)) G (.slice (some ⟨G, 0, none⟩) dw.length dw.length) (l.set q x)) := ol.set HLL.out q x
      have HD2 : Hid (Ls.Own (w4.setCell ⟨G, q, none⟩ (.int .i64 x)) W.heap.size (.slice (some ⟨db, dd, none⟩) dw.length cd) dw) := HOD.out.kept (Li.grown_set _ _ _ _) (.inr (fun e => by have := hdG G e; omega))
      have HB2 : Hid (Wr (w4.setCell ⟨G, q, none⟩ (.int .i64 x)) w.heap.size 0 [.slice none 0 0, .slice none 0 0]) := HBX.out.setOther (by omega)
      have HR2 : Hid (Below w.heap.size w (w4.setCell ⟨G, q, none⟩ (.int .i64 x))) := HBR.out.setCell (p := ⟨G, q, none⟩) (by show w.heap.size ≤ G; omega) _
      clear ol hcell od bx hBr hb hx dq hwr hlr
      go_wp2
      go_roundw
      case rel => exact ⟨q + 1, by omega, by go_num, _, by simpa using HLL.out, HNX.out, HO.out, HD2.out, HB2.out, HR2.out⟩
      case measure => simp [intOf]; omega
    · obtain rfl : q = dw.length := by omega
      obtain rfl := Li.like_all (xs := zs) (by rw [HLM.out]; exact hlike) (by rw [HLM.out]; exact hll)
      obtain ⟨hbl, ⟨b0, b1⟩, f0, f1⟩ := wr2 bx
      have hh0 : ∀ k, (Value.slice ad dw.length cd).ownBlock = some k → ¬ k = w.heap.size := fun k e => by have := (od.ge k e).1; omega
      have HO0 : Hid (∀ v0 v1, Ls.Own ((wr.setCell ⟨w.heap.size, 0, none⟩ v0).setCell ⟨w.heap.size, 1, none⟩ v1) w.heap.size (.slice ad dw.length cd) dw) := fun v0 v1 =>
        ((od.kept (Li.grown_set wr w.heap.size 0 v0) (.inr (fun e => hh0 _ e rfl))).kept (Li.grown_set _ w.heap.size 1 v1) (.inr (fun e => hh0 _ e rfl))).mono (by omega)
      have HO1 : Hid (∀ v0 v1, Li.Own ((wr.setCell ⟨w.heap.size, 0, none⟩ v0).setCell ⟨w.heap.size, 1, none⟩ v1) w.heap.size (.slice (some ⟨G, 0, none⟩) dw.length dw.length) l) := fun v0 v1 =>
        ((ol.kept (Li.grown_set wr w.heap.size 0 v0) (.inr (by simp [Value.ownBlock]; omega))).kept (Li.grown_set _ w.heap.size 1 v1) (.inr (by simp [Value.ownBlock]; omega))).mono (by omega)
      have HB1 : Hid (∀ v0 v1, Below w.heap.size w ((wr.setCell ⟨w.heap.size, 0, none⟩ v0).setCell ⟨w.heap.size, 1, none⟩ v1)) := fun v0 v1 => (hBr.setCell (p := ⟨w.heap.size, 0, none⟩) (Nat.le_refl _) _).setCell (p := ⟨w.heap.size, 1, none⟩) (Nat.le_refl _) _
      have HLL : Hid (l.length = dw.length) := hll
      clear od ol bx hBr hll hlike hlt hh0
      go_wp2
      refine bodyPost_ret (v := .agg #[.slice ad dw.length cd, .slice (some ⟨G, 0, none⟩) dw.length dw.length]) (by rw [Cf.results_cell rfl]; go_simp) rfl ?_
      refine ⟨ad, cd, some ⟨G, 0, none⟩, dw.length, ?_⟩
      rw [HTW.out, HTV.out, HLL.out]
      exact ⟨rfl, HO0.out _ _, HO1.out _ _, fun k e e' => by have := hdG k e; simp [Value.ownBlock] at e'; omega, HB1.out _ _⟩
set_option maxHeartbeats 8000000 in
theorem itabs (w : World) (n c : Int) (a : Option Addr) (cap : Nat) (rs : List Row) (k : Cf.C) (hx : IsR w a rs) (hl : rs.length + szR rs ≤ 1048576) :
    Calls Try.prog 23 #[.agg #[.int .i64 n, .int .i64 c, .slice a rs.length cap], .agg #[.int .i64 k.trees, .int .i64 k.depth, .int .i64 k.most, .int .i64 k.rate, .int .i64 k.l2, .int .i64 k.prior, .int .i64 k.seed]] w fun e w' => ∃ v, e = .returned (.tuple #[v, .bool (tok n c rs && Cf.cok k)]) ∧ OwK w' (fun q => w.heap.size ≤ q ∧ q < w'.heap.size) v (ktabs n c rs k) ∧ Below w.heap.size w w' := by
  obtain ⟨i0, hi, hz0, hz1, hz2⟩ := info_parts info_tab
  go_enter Try.func23, Try.ntmps23
  go_wp2_with fail
  obtain ⟨W1, hW, hsz, hB, bx⟩ := box3_new' w (.int .i64 n) (.int .i64 c) (.slice a rs.length cap) 28
  rw [hW]
  clear hW
  obtain ⟨W, hW2, hsz2, hb2, bc⟩ := Cf.bx_new W1 k 30
  rw [hW2]
  clear hW2
  rw [hsz] at bc
  have bx := bx.below hb2
  have hB := hB.trans (hb2.mono hB.size)
  have hszW : w.heap.size + 1 < W.heap.size := by omega
  have hxW := hx.below hB
  clear hsz hsz2 hb2 hx
  refine (itab _ _ _ _ _ rs hxW hl).mono ?_
  rintro e w1 ⟨rfl, hb⟩
  have bx := bx.below hb
  have bc := bc.below hb (by omega)
  have hxW := hxW.below hb
  have hB := hB.trans (hb.mono hB.size)
  have hszW : w.heap.size + 1 < w1.heap.size := by have := hb.size; omega
  clear hb
  obtain ⟨_, d0, d1, d2, d3, d4, d5, d6⟩ := id bc
  cases ht : tok n c rs
  · have HM : Hid (ktabs n c rs k = []) := ktabs_no (by rw [ht]; simp)
    have HV : Hid ((tok n c rs && Cf.cok k) = false) := by show _ = _; rw [ht]; rfl
    go_wp2
    refine bodyPost_ret (v := .tuple #[.slice none 0 0, .bool false]) (by simp [results, Try.results23, go_sem]) rfl ?_
    exact ⟨.slice none 0 0, by rw [HV.out], by rw [HM.out]; exact OwK.nil _ _, hB⟩
  go_wp2_with fail
  refine (Cf.icok _ _).mono ?_
  rintro e w2 ⟨rfl, hb⟩
  have bx := bx.below hb
  have bc := bc.below hb (by omega)
  have hxW := hxW.below hb
  have hB := hB.trans (hb.mono hB.size)
  have hszW : w.heap.size + 1 < w2.heap.size := by have := hb.size; omega
  clear hb d0 d1 d2 d3 d4 d5 d6
  cases hk : Cf.cok k
  · have HM : Hid (ktabs n c rs k = []) := ktabs_no (by rw [hk]; simp)
    have HV : Hid ((tok n c rs && Cf.cok k) = false) := by show _ = _; rw [ht, hk]; rfl
    go_wp2
    refine bodyPost_ret (v := .tuple #[.slice none 0 0, .bool false]) (by simp [results, Try.results23, go_sem]) rfl ?_
    exact ⟨.slice none 0 0, by rw [HV.out], by rw [HM.out]; exact OwK.nil _ _, hB⟩
  have HM : Hid (ktabs n c rs k = tabsN (wcols c rs).length c rs k.prior) := ktabs_yes ht hk
  have HV : Hid ((tok n c rs && Cf.cok k) = true) := by show _ = _; rw [ht, hk]; rfl
  have HT : Hid (tok n c rs = true) := ht
  have HLA : Hid (labels n c rs = labs rs) := labels_yes ht
  have HWL : Hid (∀ j (hj : j < (wcols c rs).length), (wcols c rs)[j].length = rs.length) := fun j hj => wcols_len ht j hj
  have HWZ : Hid (∀ j (hj : j < (wcols c rs).length) i (hi : i < (wcols c rs)[j].length), (wcols c rs)[j][i].size ≤ 25) := fun j hj i hi => wcols_word ht j hj i hi
  have hw3 := wcols_le ht
  obtain ⟨⟨n0, n3⟩, ⟨c0, c2⟩, h40⟩ := tok_c ht
  have hlab : (labs rs).length ≤ 1048577 := by rw [labs_length]; omega
  clear ht hk
  obtain ⟨_, ⟨cx0, cx1, cx2⟩, _⟩ := id bx
  go_wp2_with fail
  refine (ilabels _ _ _ _ _ rs hxW hl).mono ?_
  rintro e w3 ⟨vl, rfl, ol, hb⟩
  rw [HLA.out] at ol
  have bx := bx.below hb
  have bc := bc.below hb (by omega)
  have hxW := hxW.below hb
  have hB := hB.trans (hb.mono hB.size)
  have hszW : w.heap.size + 1 < w3.heap.size := by have := hb.size; omega
  clear hb cx0 cx1 cx2
  obtain ⟨_, ⟨cx0, cx1, cx2⟩, _⟩ := id bx
  go_wp2_with fail
  refine (Wc.iwc _ _ _ _ _ rs hxW hl HT.out).mono ?_
  rintro e w4 ⟨vc, rfl, oc, hb⟩
  have bc := bc.below hb (by omega)
  have ol := ol.below hb
  have hB := hB.trans (hb.mono hB.size)
  have hszW : w.heap.size + 1 < w4.heap.size := by have := hb.size; omega
  clear hb cx0 cx1 cx2 bx hxW
  obtain ⟨ac, cc, rfl, ic⟩ := oc.isc
  obtain ⟨al, cl, el, il⟩ := ol.isl
  subst el
  clear oc ol
  go_wp2
  go_loopw [7, 23] (fun v i wr => ∃ q : Nat, q ≤ (wcols c rs).length ∧ i = .int .i64 q ∧ OwK wr (fun y => w4.heap.size ≤ y) v (tabsN q c rs k.prior) ∧ Below w4.heap.size w4 wr) (fun _ i _ => (wcols c rs).length - (intOf i).toNat)
  case atStart => exact ⟨0, Nat.zero_le _, rfl, OwK.nil _ _, Below.refl _ _⟩
  case round =>
    obtain ⟨q, hq, rfl, ok, hBq⟩ := hrel
    by_cases hlt : q < (wcols c rs).length
    · rcases ic.below hBq with h0 | ⟨cb, co, rfl, hcb, hcc⟩
      · rw [h0] at hlt; simp at hlt
      obtain ⟨a', c', dq, iq⟩ := hcc q hlt
      have hlq := HWL.out q hlt
      have hzq := HWZ.out q hlt
      have HSN : Hid (tabsN (q + 1) c rs k.prior = tabsN q c rs k.prior ++ [tab (wcols c rs)[q] (labs rs) k.prior]) := tabsN_snoc q c rs k.prior hlt
      have hcq := tabsN_length q c rs k.prior hq
      obtain ⟨ws, hws⟩ : ∃ ws, (wcols c rs)[q] = ws := ⟨_, rfl⟩
      rw [hws] at dq iq hlq hzq HSN
      have hlq40 : ws.length ≤ 40 := by omega
      obtain ⟨pre, hpre⟩ : ∃ pre, tabsN q c rs k.prior = pre := ⟨_, rfl⟩
      rw [hpre] at ok HSN hcq
      have hp3 : pre.length ≤ 3 := by omega
      obtain ⟨_, _, _, _, _, _, d5, _⟩ := bc.below hBq (by omega)
      have ilq := il.below hBq
      have hsq := hBq.size
      clear hcc hws hpre hlq hcq
      go_wp2_with fail
      refine (itab1 _ _ _ _ _ ws (labs rs) k.prior iq ilq hlq40 hlab hzq).mono ?_
      rintro e w5 ⟨a0, c0', a1, c1', rfl, u0, u1, h01, hb⟩
      have ok1 := ok.below hb
      have okm := ok.bound.below hb
      have hB5 := hBq.trans (hb.mono hBq.size)
      have hs5 := hB5.size
      have hq5 := hb.size
      clear hb d5 dq iq ilq ok hzq
      obtain ⟨t, ht⟩ : ∃ t, tab ws (labs rs) k.prior = t := ⟨_, rfl⟩
      rw [ht] at HSN u0 u1 h01 ⊢
      clear ht
      obtain ⟨vs, ho, hvl, he, hv, hbb, hs⟩ := okm
      have HBA : Hid (Below w5.heap.size w5 (w5.alloc (.cells #[.slice a0 t.ws.length c0', .slice a1 t.vs.length c1'] 92))) := (Below.refl _ _).alloc (Nat.le_refl _) _
      have ho' : (w5.alloc (.cells #[.slice a0 t.ws.length c0', .slice a1 t.vs.length c1'] 92)).ownsRow 0 92 2 u7 pre.length vs := ownsRow_at ho (fun y e => HBA.out.block y (World.ownsRow.lt ho y e).2)
      have HV2 : Hid (∀ y, u7.ownBlock = some y → w4.heap.size ≤ y ∧ y < wr.heap.size) := hv
      have HPP : Hid (∀ v3 w6, w6.ownsRow 0 92 2 v3 (pre.length + 1) (vs ++ [.slice a0 t.ws.length c0', .slice a1 t.vs.length c1']) → (w5.alloc (.cells #[.slice a0 t.ws.length c0', .slice a1 t.vs.length c1'] 92)).grownBy w6 u7.ownBlock → (v3.ownBlock = u7.ownBlock ∨ v3.ownBlock = some (w5.alloc (.cells #[.slice a0 t.ws.length c0', .slice a1 t.vs.length c1'] 92)).heap.size) → OwK w6 (fun y => w4.heap.size ≤ y) v3 (pre ++ [t])) := fun v3 w6 h1 h2 h3 => by
        refine owk_snoc (B := fun y => w4.heap.size ≤ y) (m := wr.heap.size) hvl (fun j hj => ?_) hv hbb hs (u0.below HBA.out) (u1.below HBA.out) h01 (fun y hy => by omega) (by simp; omega) h1 h2 h3
        obtain ⟨q0, q1⟩ := he j hj
        exact ⟨q0.below HBA.out, q1.below HBA.out⟩
      clear ho he hv hbb hs hvl u0 u1 h01 ok1
      go_wp2_with (at_builtin; refine wpList_append_own_at _ rfl _ _ 59 rfl 0 92 i0 (.agg #[.slice none 0 0, .slice none 0 0]) 2 48 Try.underlying59 hi hz0 hz1 hz2 rfl (by decide) _ _ _ rfl ho' ⟨w5.heap.size, 0, none⟩ 1 1 [.slice a0 t.ws.length c0', .slice a1 t.vs.length c1'] rfl rfl (two_cell _ _ _ _) two_one (by unfold maxLen; omega) (by omega) (by omega) ?_; intro v3 w6 hown3 hgrow3 hnn3 hloc3)
      have ok6 := HPP.out v3 w6 hown3 hgrow3 hloc3
      rw [← HSN.out] at ok6
      have hB6 : Below w4.heap.size w4 w6 := hB5.trans ((HBA.out.mono hs5).trans ⟨hgrow3.os, hgrow3.tape, hgrow3.output, hgrow3.size, fun y hy => hgrow3.block y (by simp; omega) (fun e => by have := (HV2.out y e.symm).1; omega)⟩)
      clear hown3 hgrow3 hnn3 hloc3 HPP HBA ho' HV2
      go_wp2
      go_roundw
      case rel => exact ⟨q + 1, by omega, by go_num, ok6, hB6⟩
      case measure => simp [intOf]; omega
    · obtain rfl : q = (wcols c rs).length := by omega
      rw [← HM.out] at ok
      have hBe := hB.trans (hBq.mono hB.size)
      have okb := ok.bound
      clear hlt ok
      go_wp2
      refine bodyPost_ret (v := .tuple #[u7, .bool true]) (by simp [results, Try.results23, go_sem]) rfl ?_
      exact ⟨u7, by rw [HV.out], okb.mono (fun y hy => by omega), hBe⟩
end Go.Proofs.Ytbjnhdhnlofibaa.Kt
