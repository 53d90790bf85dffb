/-
  The features of all rows: Matrix of the program and of the model.
-/
import Derived.Test.YtbjnhdhnlofibaaVcl
import Derived.Test.YtbjnhdhnlofibaaSeO
namespace Go.Proofs.Ytbjnhdhnlofibaa.Mx
set_option maxRecDepth 20000
open Go.RowKit
open Go.Proofs.Ytbjnhdhnlofibaa.Tb
open Go.Proofs.Ytbjnhdhnlofibaa.Tk
open Go.Proofs.Ytbjnhdhnlofibaa.Co
open Go.Proofs.Ytbjnhdhnlofibaa.Vc
open Go.Proofs.Ytbjnhdhnlofibaa.Sv (OwV OwI IsV Wr Fr fr_grown NestV nestV_step nestV_own info_vec)
open Go.Proofs.Ytbjnhdhnlofibaa.Wc (wcols tok_c)
open Go.Proofs.Ytbjnhdhnlofibaa.Li (below_none iv)
set_option linter.unusedVariables false

/-- N rows of six numbers. -/
def mk (N : Nat) (e : Nat → Nat → Int) : List (List Int) := (List.range N).map fun i => (List.range 6).map fun g => e i g
theorem mk_length (N : Nat) (e : Nat → Nat → Int) : (mk N e).length = N := by simp [mk]
theorem mk_get (N : Nat) (e : Nat → Nat → Int) (i : Nat) (h : i < (mk N e).length) : (mk N e)[i] = (List.range 6).map fun g => e i g := by simp [mk]
theorem mk_row (N : Nat) (e : Nat → Nat → Int) (i : Nat) (h : i < (mk N e).length) : (mk N e)[i].length = 6 := by simp [mk]
theorem mk_congr {N : Nat} {e e' : Nat → Nat → Int} (h : ∀ i g, i < N → g < 6 → e i g = e' i g) : mk N e = mk N e' := by
  unfold mk
  refine List.map_congr_left fun i hi => List.map_congr_left fun g hg => ?_
  exact h i g (by simpa using hi) (by simpa using hg)
theorem mk_set (N : Nat) (e : Nat → Nat → Int) (i f : Nat) (x : Int) (h : i < (mk N e).length) : (mk N e).set i ((mk N e)[i].set f x) = mk N (fun i' g => if i' = i ∧ g = f then x else e i' g) := by
  apply List.ext_getElem
  · simp [mk]
  · intro j h1 h2
    rw [mk_get _ _ _ h2, List.getElem_set]
    split
    · rename_i hij
      subst hij
      rw [mk_get]
      apply List.ext_getElem
      · simp
      · intro g h3 h4
        rw [List.getElem_set]
        simp only [List.getElem_map, List.getElem_range, true_and]
        by_cases hfg : f = g
        · rw [if_pos hfg, if_pos hfg.symm]
        · rw [if_neg hfg, if_neg (fun e => hfg e.symm)]
    · rename_i hij
      rw [mk_get]
      refine List.map_congr_left fun g _ => ?_
      rw [if_neg (fun e => hij e.1.symm)]
theorem mk_zero (N : Nat) : List.replicate N (List.replicate 6 (0 : Int)) = mk N (fun _ _ => 0) := by
  apply List.ext_getElem
  · simp [mk]
  · intro j h1 h2
    rw [mk_get]; simp; rfl
theorem iv_set (xs : List Int) (f : Nat) (x : Int) : (iv xs).set f (.int .i64 x) = iv (xs.set f x) := by simp [iv, List.map_set]
/-- One number of rows that may be written. -/
theorem owv_at {w : World} {B : Nat → Prop} {G n cap : Nat} {xs : List (List Int)} (h : OwV w B (.slice (some ⟨G, 0, none⟩) n cap) xs) (j : Nat) (hj : j < xs.length) (hne : 0 < xs[j].length) :
    ∃ b o c, w.cell? ⟨G, j, none⟩ = some (.slice (some ⟨b, o, none⟩) xs[j].length c) ∧ B b ∧ b < w.heap.size ∧ (∀ f (hf : f < xs[j].length), w.cell? ⟨b, o + f, none⟩ = some (.int .i64 xs[j][f]) ∧ w.frozen? ⟨b, o + f, none⟩ = false) ∧
      ∀ f (hf : f < xs[j].length) x, OwV (w.setCell ⟨b, o + f, none⟩ (.int .i64 x)) B (.slice (some ⟨G, 0, none⟩) n cap) (xs.set j (xs[j].set f x)) := by
  obtain ⟨a, cp, e, h⟩ := h
  rcases h with h | ⟨g, off, V, bl, ha, hBg, hg, hc, hn, hi⟩
  · subst h; simp at hj
  simp only [Value.slice.injEq] at e
  obtain ⟨e1, e2, e3⟩ := e
  rw [ha] at e1
  injection e1 with e1
  injection e1 with e4 e5
  subst e4 e5
  obtain ⟨h1, h2⟩ := hc j hj
  obtain ⟨a', c', e', h2'⟩ := h2
  rcases h2' with h0 | ⟨b, o, ha', hb, hw⟩
  · rw [h0] at hne; simp at hne
  subst hb
  subst ha'
  refine ⟨bl j, o, c', by have h3 := h1; rw [Nat.zero_add, e'] at h3; exact h3, (hn j hj).1, hw.1, fun f hf => ?_, fun f hf x => ?_⟩
  · have := hw.2 f (by simpa [iv] using hf)
    exact ⟨by simpa [iv] using this.1, this.2⟩
  · have hlen : f < (iv xs[j]).length := by simpa [iv] using hf
    refine ⟨_, cap, by rw [List.length_set]; exact congrArg (fun q => Value.slice _ q cap) e2, .inr ⟨G, 0, V, bl, rfl, hBg, by simpa [World.setCell] using hg, fun i hi' => ?_, fun i hi' => ?_, fun i q hi' hq => ?_⟩⟩
    · have hix : i < xs.length := by simpa using hi'
      have hfr : Fr (fun q => q = bl j) w (w.setCell ⟨bl j, o + f, none⟩ (.int .i64 x)) := fr_grown (Li.grown_set _ _ _ _) rfl
      refine ⟨?_, ?_⟩
      · rw [World.cell?_of_block (w := w) (a := ⟨G, 0 + i, none⟩) (hfr.block G hg (fun e => (hn j hj).2 e.symm))]
        exact (hc i hix).1
      · by_cases hij : j = i
        · subst hij
          rw [List.getElem_set_self]
          refine ⟨_, c', by rw [e', List.length_set], .inr ⟨bl j, o, rfl, rfl, ?_⟩⟩
          have := hw.set f hlen (.int .i64 x)
          rwa [iv_set] at this
        · rw [List.getElem_set_ne hij]
          exact (hc i hix).2.fr hfr (fun q e1 e2 => by subst e1; exact hi i j hix hj (fun e => hij e.symm) e2)
    · exact hn i (by simpa using hi')
    · exact hi i q (by simpa using hi') (by simpa using hq)
/-- The number of row i in column g. -/
noncomputable def fnum (n c : Int) (rs : List Row) (s p : Int) (i g : Nat) : Int := ((fcols n c rs s p)[g]?.bind (fun l => l[i]?)).getD 0
noncomputable def mat (n c : Int) (rs : List Row) (k : Cf.C) : List (List Int) := if tok n c rs = true ∧ Cf.cok k = true then mk rs.length (fnum n c rs k.seed k.prior) else []
theorem mat_no {n c : Int} {rs : List Row} {k : Cf.C} (h : ¬ (tok n c rs = true ∧ Cf.cok k = true)) : mat n c rs k = [] := by unfold mat; rw [if_neg h]
theorem mat_yes {n c : Int} {rs : List Row} {k : Cf.C} (h : tok n c rs = true) (h' : Cf.cok k = true) : mat n c rs k = mk rs.length (fnum n c rs k.seed k.prior) := by unfold mat; rw [if_pos ⟨h, h'⟩]
theorem cok_prior {k : Cf.C} (hk : Cf.cok k = true) : -1000000 ≤ k.prior ∧ k.prior ≤ 1000000 := by
  unfold Cf.cok at hk
  simp only [Bool.and_eq_true] at hk
  exact Cf.dec_btw hk.2.2.2.2.2.1
theorem fcols_length {n c : Int} {rs : List Row} (s p : Int) (h : tok n c rs = true) : (fcols n c rs s p).length = n.toNat + (wcols c rs).length := by
  unfold fcols; rw [List.length_append, ncols_length, ccols_length _ _ _ _ _ (Nat.le_refl _)]
theorem fcols_le {n c : Int} {rs : List Row} (s p : Int) (h : tok n c rs = true) : (fcols n c rs s p).length ≤ 6 := by
  rw [fcols_length s p h]
  obtain ⟨⟨n0, n3⟩, _, _⟩ := tok_c h
  have := wcols_le h
  omega
theorem fcols_len {n c : Int} {rs : List Row} (s : Int) {p : Int} (h : tok n c rs = true) (hp : -1000000 ≤ p ∧ p ≤ 1000000) (g : Nat) (hg : g < (fcols n c rs s p).length) : (fcols n c rs s p)[g].length = rs.length := by
  unfold fcols at hg ⊢
  by_cases h1 : g < (ncols n.toNat rs).length
  · rw [List.getElem_append_left h1]
    simp [ncols, nat_length]
  · rw [List.getElem_append_right (by omega)]
    simp only [ccols, List.getElem_map]
    refine cAll_len h ?_ s hp
    rw [List.getElem_take]
    exact wcols_len h _ _
theorem fnum_get {n c : Int} {rs : List Row} {s p : Int} (i g : Nat) (hg : g < (fcols n c rs s p).length) (hi : i < (fcols n c rs s p)[g].length) : fnum n c rs s p i g = (fcols n c rs s p)[g][i] := by
  unfold fnum
  rw [List.getElem?_eq_getElem hg]
  simp [hi]
theorem fnum_out {n c : Int} {rs : List Row} {s p : Int} (i g : Nat) (hg : ¬ g < (fcols n c rs s p).length) : fnum n c rs s p i g = 0 := by
  unfold fnum
  rw [List.getElem?_eq_none (by omega)]
  simp
set_option maxHeartbeats 8000000 in
theorem imat (w : World) (n c : Int) (a : Option Addr) (cap : Nat) (rs : List Row) (k : Cf.C) (hx : IsR w a rs) (hl : rs.length + szR rs ≤ 1048576) :
    Calls Try.prog 8 #[.agg #[.int .i64 n, .int .i64 c, .slice a rs.length cap], .agg #[.int .i64 k.trees, .int .i64 k.depth, .int .i64 k.most, .int .i64 k.rate, .int .i64 k.l2, .int .i64 k.prior, .int .i64 k.seed]] w fun e w' => ∃ v, e = .returned (.tuple #[v, .bool (tok n c rs && Cf.cok k)]) ∧ OwV w' (fun q => w.heap.size ≤ q ∧ q < w'.heap.size) v (mat n c rs k) ∧ Below w.heap.size w w' := by
  obtain ⟨i0, hi, hz0, hz1, hz2⟩ := info_parts info_vec
  obtain ⟨j0, hj, jz0, jz1, jz2⟩ := info_parts Li.info_int
  go_enter Try.func8, Try.ntmps8
  go_wp2_with fail
  obtain ⟨W1, hW, hsz, hB, bx⟩ := box3_new' w (.int .i64 n) (.int .i64 c) (.slice a rs.length cap) 28
  rw [hW]
  clear hW
  obtain ⟨W, hW2, hsz2, hb2, bc⟩ := Cf.bx_new W1 k 30
  rw [hW2]
  clear hW2
  rw [hsz] at bc
  have bx := bx.below hb2
  have hB := hB.trans (hb2.mono hB.size)
  have hszW : w.heap.size + 1 < W.heap.size := by omega
  have hxW := hx.below hB
  clear hsz hsz2 hb2 hx
  refine (itab _ _ _ _ _ rs hxW hl).mono ?_
  rintro e w1 ⟨rfl, hb⟩
  have bx := bx.below hb
  have bc := bc.below hb (by omega)
  have hxW := hxW.below hb
  have hB := hB.trans (hb.mono hB.size)
  have hszW : w.heap.size + 1 < w1.heap.size := by have := hb.size; omega
  clear hb
  obtain ⟨_, d0, d1, d2, d3, d4, d5, d6⟩ := id bc
  cases ht : tok n c rs
  · have HM : Hid (mat n c rs k = []) := mat_no (by rw [ht]; simp)
    have HV : Hid ((tok n c rs && Cf.cok k) = false) := by show _ = _; rw [ht]; rfl
    go_wp2
    refine bodyPost_ret (v := .tuple #[.slice none 0 0, .bool false]) (by simp [results, Try.results8, go_sem]) rfl ?_
    exact ⟨.slice none 0 0, by rw [HV.out], by rw [HM.out]; exact ⟨none, 0, rfl, .inl rfl⟩, hB⟩
  go_wp2_with fail
  refine (Cf.icok _ _).mono ?_
  rintro e w2 ⟨rfl, hb⟩
  have bx := bx.below hb
  have bc := bc.below hb (by omega)
  have hxW := hxW.below hb
  have hB := hB.trans (hb.mono hB.size)
  have hszW : w.heap.size + 1 < w2.heap.size := by have := hb.size; omega
  clear hb d0 d1 d2 d3 d4 d5 d6
  cases hk : Cf.cok k
  · have HM : Hid (mat n c rs k = []) := mat_no (by rw [hk]; simp)
    have HV : Hid ((tok n c rs && Cf.cok k) = false) := by show _ = _; rw [ht, hk]; rfl
    go_wp2
    refine bodyPost_ret (v := .tuple #[.slice none 0 0, .bool false]) (by simp [results, Try.results8, go_sem]) rfl ?_
    exact ⟨.slice none 0 0, by rw [HV.out], by rw [HM.out]; exact ⟨none, 0, rfl, .inl rfl⟩, hB⟩
  have HM : Hid (mat n c rs k = mk rs.length (fnum n c rs k.seed k.prior)) := mat_yes ht hk
  have hpr := cok_prior hk
  obtain ⟨⟨n0, n3⟩, ⟨c0, c2⟩, h40⟩ := tok_c ht
  have HT : Hid (tok n c rs = true) := ht
  have HK : Hid (Cf.cok k = true) := hk
  have hf6 := fcols_le k.seed k.prior ht
  have HFL : Hid (∀ g (hg : g < (fcols n c rs k.seed k.prior).length), (fcols n c rs k.seed k.prior)[g].length = rs.length) := fun g hg => fcols_len k.seed ht hpr g hg
  clear ht hk hpr
  obtain ⟨_, ⟨cx0, cx1, cx2⟩, _⟩ := id bx
  go_wp2_with (at_make; refine wpList_make_full _ rfl _ _ 33 rfl w2.heap.size 45 i0 (.agg #[.slice none 0 0]) 1 Try.underlying33 hi hz0 hz1 _ _ _ _ rs.length rfl rfl (by omega) (by omega) (by rw [hz2]; omega) (by unfold maxLen; omega) (Nat.le_refl _) ?_; intro w3 hown hgrow)
  have hB3 := below_none hgrow
  obtain ⟨cs0, hcs⟩ : ∃ cs, (madeCells (Value.agg #[.slice none 0 0]).cells (rs.length * 1)).toList = cs := ⟨_, rfl⟩
  rw [hcs] at hown
  obtain ⟨G, hG⟩ : ∃ G, w2.heap.size = G := ⟨_, rfl⟩
  rw [hG] at hown hB3 hszW ⊢
  have hBG : Below G w2 w3 := hB3
  have HG : Hid (w2.heap.size = G) := hG
  clear hcs hgrow hG hB3 cx0 cx1 cx2
  obtain ⟨Z, hZ⟩ : ∃ Z : List (List Int), List.replicate rs.length (List.replicate 6 (0 : Int)) = Z := ⟨_, rfl⟩
  have hZl : Z.length = rs.length := by rw [← hZ]; simp
  have HZL : Hid (Z.length = rs.length) := hZl
  have HZK : Hid (∀ q (hq : q < Z.length), Z[q] = List.replicate 6 (0 : Int)) := fun q hq => by subst hZ; simp
  have HZ : Hid (Z = mk rs.length (fun _ _ => 0)) := by show _ = _; rw [← hZ, mk_zero]
  clear hZ hZl
  go_wp2
  go_loopw [26] (fun i wr => ∃ q : Nat, q ≤ rs.length ∧ i = .int .i64 q ∧ ∃ cs V bl, wr.ownsRow G 45 1 (.slice (some ⟨G, 0, none⟩) rs.length rs.length) rs.length cs ∧ NestV wr G V bl cs Z q ∧ Below G w2 wr) (fun i _ => rs.length - (intOf i).toNat)
  case atStart => exact ⟨0, Nat.zero_le _, rfl, cs0, fun _ => undef, fun _ => 0, hown, ⟨fun i hi h => by omega, fun i j _ h => by omega⟩, hBG⟩
  case round =>
    obtain ⟨q, hq, rfl, cs, V, bl, hown, hnest, hBG⟩ := hrel
    have hcl : cs.length = rs.length := by have := hown.1; omega
    have hltr : G < wr.heap.size := (World.ownsRow.lt hown G rfl).2
    by_cases hlt : q < rs.length
    · have hqz : q < Z.length := by have := HZL.out; omega
      go_wp2_with (at_make
                   refine wpList_make_full _ rfl _ _ 37 rfl wr.heap.size 3 j0 (.int .i64 0) 1 Try.underlying37 hj jz0 jz1 _ _ _ _ 6 rfl rfl (by omega) (by omega) (by rw [jz2]; omega) (by unfold maxLen; omega) (Nat.le_refl _) ?_
                   intro w4 hown4 hgrow4
                   have o4 := Li.own_made hown4
                   have hb4 := below_none hgrow4
                   have o4' : OwI w4 (fun y => y = wr.heap.size) (.slice (some ⟨wr.heap.size, 0, none⟩) 6 6) Z[q] := by rw [HZK.out q hqz]; exact Sv.owi_of o4 (by simp) rfl
                   have HN : Hid _ := nestV_step (hnest.below hb4) hqz (by have := HZL.out; omega) rfl o4' hltr ((o4.ge wr.heap.size rfl).2) (fun i hi => by have := (hnest.1 i (by omega) hi).2.2.2; omega)
                   have hown5 : w4.ownsRow G 45 1 (.slice (some ⟨G, 0, none⟩) rs.length rs.length) rs.length cs := row_below hown hb4
                   have k0 := World.ownsRow.cellAt hown5 q (by omega)
                   rw [List.getElem?_eq_getElem (by omega)] at k0
                   have f0 := World.ownsRow.frozenAt hown5 q
                   have HW : Hid _ := (World.ownsRow.stored hown5 q (.slice (some ⟨wr.heap.size, 0, none⟩) 6 6)).1
                   have hBG4 : Below G w2 w4 := hBG.trans (hb4.mono (by omega))
                   have hw4 : G < w4.heap.size := by have := hb4.size; omega
                   obtain ⟨x0, hx0⟩ : ∃ x, cs[q]'(by omega) = x := ⟨_, rfl⟩
                   rw [hx0] at k0
                   clear hx0 hown hown4 hgrow4 hown5 hnest o4 o4' hb4 hltr hcl hBG)
      go_roundw
      case rel => exact ⟨q + 1, by omega, by go_num, _, _, _, HW.out, HN.out, hBG4.setCell (p := ⟨G, q, none⟩) (Nat.le_refl _) _⟩
      case measure => simp [intOf]; omega
    · obtain rfl : q = rs.length := by omega
      have ov0 : OwV wr (fun y => G ≤ y ∧ y < wr.heap.size) (.slice (some ⟨G, 0, none⟩) rs.length rs.length) Z := by
        have h1 := hown
        have h2 := hnest
        rw [← HZL.out] at h1 h2 ⊢
        exact nestV_own h2 h1
      rw [HZ.out] at ov0
      have hBr : Below w2.heap.size w2 wr := by rw [HG.out]; exact hBG
      have bx := bx.below hBr
      have bc := bc.below hBr (by rw [HG.out]; omega)
      have hxr := hxW.below hBr
      have hBw := hB.trans (hBr.mono hB.size)
      obtain ⟨_, ⟨cx0, cx1, cx2⟩, _⟩ := id bx
      obtain ⟨_, d0, d1, d2, d3, d4, d5, d6⟩ := id bc
      clear hown hnest hlt hBr hBG bx bc hxW hcl
      go_wp2_with fail
      refine (ifc _ _ _ _ _ rs k hxr hl HT.out HK.out).mono ?_
      rintro e w6 ⟨vf, rfl, of, hb⟩
      have ov0 := ov0.below hb
      have hBw := hBw.trans (hb.mono hBw.size)
      obtain ⟨A, hA⟩ : ∃ A, wr.heap.size = A := ⟨_, rfl⟩
      have hA6 : A ≤ w6.heap.size := by rw [← hA]; exact hb.size
      rw [hA] at ov0 of hltr
      clear hb hA hxr cx0 cx1 cx2 d0 d1 d2 d3 d4 d5 d6
      obtain ⟨af, cf, rfl, ifv⟩ := of.isvb
      clear of
      have hGw : w.heap.size ≤ G := by omega
      obtain ⟨F, hF⟩ : ∃ F : Nat → Nat → Int, fnum n c rs k.seed k.prior = F := ⟨_, rfl⟩
      have HF1 : Hid (∀ i g (hg : g < (fcols n c rs k.seed k.prior).length) (hi : i < (fcols n c rs k.seed k.prior)[g].length), F i g = (fcols n c rs k.seed k.prior)[g][i]) := fun i g hg hi => by rw [← hF]; exact fnum_get i g hg hi
      have HF2 : Hid (∀ i g, ¬ g < (fcols n c rs k.seed k.prior).length → F i g = 0) := fun i g hg => by rw [← hF]; exact fnum_out i g hg
      rw [hF] at HM
      clear hF
      obtain ⟨cols, hcols⟩ : ∃ cols, fcols n c rs k.seed k.prior = cols := ⟨_, rfl⟩
      rw [hcols] at HF1 HF2 HFL hf6 ifv ⊢
      clear hcols
      go_wp2
      go_loopw [39] (fun i wr => ∃ f : Nat, f ≤ cols.length ∧ i = .int .i64 f ∧ ∃ e : Nat → Nat → Int, (∀ i g, i < rs.length → g < 6 → e i g = if g < f then F i g else 0) ∧ OwV wr (fun y => G ≤ y ∧ y < A) (.slice (some ⟨G, 0, none⟩) rs.length rs.length) (mk rs.length e) ∧ (w6.heap.size ≤ wr.heap.size ∧ ∀ y, A ≤ y → y < w6.heap.size → wr.heap[y]? = w6.heap[y]?) ∧ Below w.heap.size w wr) (fun i _ => cols.length - (intOf i).toNat)
      case atStart => exact ⟨0, Nat.zero_le _, rfl, fun _ _ => 0, fun i g _ _ => by simp, ov0, ⟨Nat.le_refl _, fun _ _ _ => rfl⟩, hBw⟩
      case round =>
        obtain ⟨f, hf, rfl, e, he, ov, ⟨hs6, hsame⟩, hBr⟩ := hrel
        have HE : Hid (∀ i g, i < rs.length → g < 6 → e i g = if g < f then F i g else 0) := he
        have HSM : Hid (∀ y, A ≤ y → y < w6.heap.size → wr.heap[y]? = w6.heap[y]?) := hsame
        clear he hsame ov0 hBw
        by_cases hlt : f < cols.length
        · rcases ifv with h0 | ⟨cb, co, rfl, ⟨hcA, hcb⟩, hcc⟩
          · rw [h0] at hlt; simp at hlt
          obtain ⟨a', c', dq6, iq6, hd6⟩ := hcc f hlt
          have dq : wr.cell? ⟨cb, co + f, none⟩ = some (.slice a' cols[f].length c') := by
            rw [World.cell?_of_block (w := w6) (a := ⟨cb, co + f, none⟩) (HSM.out cb hcA hcb)]; exact dq6
          have hlq := HFL.out f hlt
          have HLQ : Hid (cols[f].length = rs.length) := hlq
          have HFV : Hid (∀ i (hi : i < cols[f].length), F i f = cols[f][i]) := fun i hi => HF1.out i f hlt hi
          obtain ⟨col, hcol⟩ : ∃ col, cols[f] = col := ⟨_, rfl⟩
          rw [hcol] at dq iq6 HLQ HFV hlq
          have hc40 : col.length ≤ 40 := by omega
          have hf6' : f < 6 := by omega
          clear hcc hcol hlq dq6
          go_wp2
          go_loopw [46] (fun i wr => ∃ r : Nat, r ≤ col.length ∧ i = .int .i64 r ∧ ∃ e : Nat → Nat → Int, (∀ i g, i < rs.length → g < 6 → e i g = if g < f ∨ (g = f ∧ i < r) then F i g else 0) ∧ OwV wr (fun y => G ≤ y ∧ y < A) (.slice (some ⟨G, 0, none⟩) rs.length rs.length) (mk rs.length e) ∧ (w6.heap.size ≤ wr.heap.size ∧ ∀ y, A ≤ y → y < w6.heap.size → wr.heap[y]? = w6.heap[y]?) ∧ Below w.heap.size w wr) (fun i _ => col.length - (intOf i).toNat)
          case atStart => exact ⟨0, Nat.zero_le _, rfl, e, fun i g h1 h2 => by rw [HE.out i g h1 h2]; simp, ov, ⟨hs6, HSM.out⟩, hBr⟩
          case round =>
            obtain ⟨r, hr, rfl, e1, he1, ov, ⟨hs6, hsame⟩, hBr⟩ := hrel
            have HE1 : Hid (∀ i g, i < rs.length → g < 6 → e1 i g = if g < f ∨ (g = f ∧ i < r) then F i g else 0) := he1
            clear he1
            by_cases hlr : r < col.length
            · rcases iq6.keptAt hs6 (fun x hx _ => hsame _ (hd6 x hx).1 (hd6 x hx).2) with h0 | ⟨db, dd, rfl, hdb, hdc⟩
              · rw [h0] at hlr; simp at hlr
              have hcv := hdc r hlr
              have hFV := HFV.out r hlr
              obtain ⟨x, hx⟩ : ∃ x, col[r] = x := ⟨_, rfl⟩
              rw [hx] at hcv hFV
              have hrN : r < rs.length := by have := HLQ.out; omega
              have hmr : r < (mk rs.length e1).length := by rw [mk_length]; exact hrN
              have h6 := mk_row rs.length e1 r hmr
              obtain ⟨b, o, c6, dG, ⟨hbG, hbA⟩, hbl, hcf, hset⟩ := owv_at ov r hmr (by omega)
              rw [h6] at dG
              obtain ⟨hcell, hfz⟩ := hcf f (by omega)
              have HO : Hid (OwV (wr.setCell ⟨b, o + f, none⟩ (.int .i64 x)) (fun y => G ≤ y ∧ y < A) (.slice (some ⟨G, 0, none⟩) rs.length rs.length) (mk rs.length (fun i' g => if i' = r ∧ g = f then x else e1 i' g))) := by
                have := hset f (by omega) x
                rwa [mk_set] at this
              have HE2 : Hid (∀ i g, i < rs.length → g < 6 → (fun i' g => if i' = r ∧ g = f then x else e1 i' g) i g = if g < f ∨ (g = f ∧ i < r + 1) then F i g else 0) := fun i g h1 h2 => by
                show (if i = r ∧ g = f then x else e1 i g) = _
                by_cases hh : i = r ∧ g = f
                · rw [if_pos hh, if_pos (by omega), hh.1, hh.2, hFV]
                · rw [if_neg hh, HE1.out i g h1 h2]
                  by_cases h3 : g < f ∨ (g = f ∧ i < r)
                  · rw [if_pos h3, if_pos (by omega)]
                  · rw [if_neg h3, if_neg (by omega)]
              obtain ⟨cv, hcv2⟩ : ∃ cv, wr.cell? ⟨b, o + f, none⟩ = some cv := ⟨_, hcell⟩
              have HS2 : Hid (∀ y, A ≤ y → y < w6.heap.size → (wr.setCell ⟨b, o + f, none⟩ (.int .i64 x)).heap[y]? = w6.heap[y]?) := fun y h1 h2 => by
                rw [Below.heap_setCell _ _ _ _ (fun e => by have : y = b := e; omega)]; exact hsame y h1 h2
              have HB2 : Hid (Below w.heap.size w (wr.setCell ⟨b, o + f, none⟩ (.int .i64 x))) := hBr.setCell (p := ⟨b, o + f, none⟩) (by show w.heap.size ≤ b; omega) _
              have hs7 : w6.heap.size ≤ (wr.setCell ⟨b, o + f, none⟩ (.int .i64 x)).heap.size := by simpa [World.setCell] using hs6
              have HS7 : Hid (w6.heap.size ≤ (wr.setCell ⟨b, o + f, none⟩ (.int .i64 x)).heap.size) := hs7
              clear hset hcf hcell ov hsame hBr hdc hx hFV h6 hs7
              go_wp2
              go_roundw
              case rel => exact ⟨r + 1, by omega, by go_num, _, HE2.out, HO.out, ⟨HS7.out, HS2.out⟩, HB2.out⟩
              case measure => simp [intOf]; omega
            · obtain rfl : r = col.length := by omega
              have HE3 : Hid (∀ i g, i < rs.length → g < 6 → e1 i g = if g < f + 1 then F i g else 0) := fun i g h1 h2 => by
                rw [HE1.out i g h1 h2]
                have := HLQ.out
                by_cases h3 : g < f + 1
                · rw [if_pos h3, if_pos (by omega)]
                · rw [if_neg h3, if_neg (by omega)]
              clear hlr
              go_wp2
              go_roundw
              case rel => exact ⟨f + 1, by omega, by go_num, e1, HE3.out, ov, ⟨hs6, hsame⟩, hBr⟩
              case measure => simp [intOf]; omega
        · obtain rfl : f = cols.length := by omega
          have hmk : mk rs.length e = mk rs.length F := mk_congr fun i g h1 h2 => by
            rw [HE.out i g h1 h2]
            by_cases h3 : g < cols.length
            · rw [if_pos h3]
            · rw [if_neg h3, HF2.out i g h3]
          rw [hmk, ← HM.out] at ov
          have HV : Hid ((tok n c rs && Cf.cok k) = true) := by show _ = _; rw [HT.out, HK.out]; rfl
          clear hmk hlt
          go_wp2
          refine bodyPost_ret (v := .tuple #[.slice (some ⟨G, 0, none⟩) rs.length rs.length, .bool true]) (by simp [results, Try.results8, go_sem]) rfl ?_
          exact ⟨.slice (some ⟨G, 0, none⟩) rs.length rs.length, by rw [HV.out], ov.mono (fun y hy => by omega), hBr⟩
end Go.Proofs.Ytbjnhdhnlofibaa.Mx
