/-
  Flipped of the model: two questions changed.
-/
import Derived.Test.YtomembbdbmjgmaaFlC
import Derived.BigRegion
namespace Go.Proofs.Ytomembbdbmjgmaa.Fw
open Go.RowKit
open Go.Proofs.Ytomembbdbmjgmaa.Li (ret_bool ret_int below_none)
open Go.Proofs.Ytomembbdbmjgmaa.Tr Go.Proofs.Ytomembbdbmjgmaa.Tm
set_option linter.unusedVariables false

theorem flip_len (t : T) (i : Int) : (flipped t i).sp.length + (flipped t i).lv.length ≤ 1048576 := by
  cases h : canFlip t i with
  | false => rw [flipped_no h]; simp
  | true =>
    rw [flipped_yes h]
    simp only [swp_length, flipL_length]
    obtain ⟨ht, _⟩ := canFlip_iff.1 h
    obtain ⟨⟨h4, hl⟩, _⟩ := tok_iff.1 ht
    have := Nat.pow_le_pow_right (n := 2) (j := 4) (by decide) h4
    omega
theorem ownP_nil (w : World) (base : Nat) : OwnP w base (.slice none 0 0) [] := World.ownsRow_nil _ _ _ _
theorem sizes {t : T} (h : tok t = true) (h2 : 2 ≤ t.sp.length) : (t.sp.length = 2 ∧ t.lv.length = 4) ∨ (t.sp.length = 3 ∧ t.lv.length = 8) ∨ (t.sp.length = 4 ∧ t.lv.length = 16) := by
  obtain ⟨⟨h4, hl⟩, _⟩ := tok_iff.1 h
  have h3 : t.sp.length = 2 ∨ t.sp.length = 3 ∨ t.sp.length = 4 := by omega
  rcases h3 with e | e | e
  · rw [e] at hl; exact .inl ⟨e, hl⟩
  · rw [e] at hl; exact .inr (.inl ⟨e, hl⟩)
  · rw [e] at hl; exact .inr (.inr ⟨e, hl⟩)
theorem isl_pos' {w : World} {a : Option Addr} {xs : List Int} (h : Li.IsL w a xs) (hk : 0 < xs.length) : ∃ b off, a = some ⟨b, off, none⟩ ∧ b < w.heap.size ∧ ∀ j (hj : j < xs.length), w.cell? ⟨b, off + j, none⟩ = some (.int .i64 xs[j]) := by
  rcases h with h0 | h
  · rw [h0] at hk; simp at hk
  · exact h
theorem ownP_drew {w : World} {B : Nat} {v : Value} {ps : List (Int × Int)} (h : OwnP w B v ps) : OwnP w.drew B v ps := h
theorem grown_drew' {w w1 : World} {r : Option Nat} (h : w.grownBy w1 r) : w.grownBy w1.drew r := Li.grown_trans h ⟨rfl, rfl, rfl, Nat.le_refl _, fun _ _ _ => rfl⟩
theorem grown2 (w : World) (g o : Nat) (x y : Value) : w.grownBy ((w.setCell ⟨g, o, none⟩ x).setCell ⟨g, o + 1, none⟩ y).drew (some g) := grown_drew' (Li.grown_trans (Li.grown_set _ _ _ _) (Li.grown_set _ _ _ _))
theorem below_grown {w w1 : World} {b B : Nat} (h : w.grownBy w1 (some b)) (hb : B ≤ b) (hB : B ≤ w.heap.size) : Below B w w1 :=
  ⟨h.os, h.tape, h.output, h.size, fun k hk => h.block k (by omega) (fun e => by cases e; omega)⟩
theorem put_at {i d n j : Nat} {lv l : List Int} {x : Int} {m : Nat} (h : Put i lv (l.set m x) d n) (e : j = m) : Put i lv (l.set j x) d n := by subst e; exact h
/-- What a loop over the leaves writes into block g alone. -/
structure Lp (w5 wr : World) (g : Nat) (B c1 i d k : Nat) (lv l : List Int) : Prop where
  put : Put i lv l d k
  own : Li.Own wr B (.slice (some ⟨g, 0, none⟩) lv.length c1) l
  grown : w5.grownBy wr (some g)
theorem mv0f : ∀ k : Fin 16, (k.val : Int) - (k.val : Int) % 2 - (k.val : Int) / 2 % 2 * 2 + (k.val : Int) / 2 % 2 + (k.val : Int) % 2 * 2 = ((mv 0 k.val : Nat) : Int) := by decide +kernel
theorem mv1f : ∀ k : Fin 16, (k.val : Int) - (k.val : Int) / 2 % 2 * 2 - (k.val : Int) / 4 % 2 * 4 + (k.val : Int) / 4 % 2 * 2 + (k.val : Int) / 2 % 2 * 4 = ((mv 1 k.val : Nat) : Int) := by decide +kernel
theorem mv2f : ∀ k : Fin 16, (k.val : Int) - (k.val : Int) / 4 % 2 * 4 - (k.val : Int) / 8 % 2 * 8 + (k.val : Int) / 8 % 2 * 4 + (k.val : Int) / 4 % 2 * 8 = ((mv 2 k.val : Nat) : Int) := by decide +kernel
theorem mv0 (k : Nat) (h : k < 16) : (k : Int) - (k : Int) % 2 - (k : Int) / 2 % 2 * 2 + (k : Int) / 2 % 2 + (k : Int) % 2 * 2 = ((mv 0 k : Nat) : Int) := mv0f ⟨k, h⟩
theorem mv1 (k : Nat) (h : k < 16) : (k : Int) - (k : Int) / 2 % 2 * 2 - (k : Int) / 4 % 2 * 4 + (k : Int) / 4 % 2 * 2 + (k : Int) / 2 % 2 * 4 = ((mv 1 k : Nat) : Int) := mv1f ⟨k, h⟩
theorem mv2 (k : Nat) (h : k < 16) : (k : Int) - (k : Int) / 4 % 2 * 4 - (k : Int) / 8 % 2 * 8 + (k : Int) / 8 % 2 * 4 + (k : Int) / 4 % 2 * 8 = ((mv 2 k : Nat) : Int) := mv2f ⟨k, h⟩
structure Lq (w5 wr : World) (g : Nat) (B c1 : Nat) (lv l : List Int) : Prop where
  own' : Li.Own wr B (.slice (some ⟨g, 0, none⟩) lv.length c1) l
  len : l.length = lv.length
  grown : w5.grownBy wr (some g)
theorem Lq.own {w5 wr : World} {g B c1 : Nat} {lv l : List Int} (h : Lq w5 wr g B c1 lv l) : Li.Own wr B (.slice (some ⟨g, 0, none⟩) l.length c1) l := by rw [h.len]; exact h.own'
theorem lq_drewN {w5 wr : World} {g B c1 : Nat} {lv l : List Int} (h : Lq w5 wr g B c1 lv l) (n : Nat) : Lq w5 (wr.drewN n) g B c1 lv l := ⟨h.own', h.len, Li.grown_trans h.grown ⟨rfl, rfl, rfl, Nat.le_refl _, fun _ _ _ => rfl⟩⟩
theorem own_drew {w : World} {B : Nat} {v : Value} {xs : List Int} (h : Li.Own w B v xs) : Li.Own w.drew B v xs := h
theorem grown1 (w : World) (g o : Nat) (x : Value) : w.grownBy (w.setCell ⟨g, o, none⟩ x).drew (some g) := grown_drew' (Li.grown_set _ _ _ _)
set_option maxRecDepth 100000 in
set_option maxHeartbeats 8000000 in
theorem sflip (w : World) (a a' : Option Addr) (c c' : Nat) (t : T) (i : Int) (hp : IsP w a t.sp) (hx : Li.IsL w a' t.lv) (hl : t.sp.length + t.lv.length ≤ 1048576) :
    Calls Try.prog 10 #[.agg #[.slice a t.sp.length c, .slice a' t.lv.length c'], .int .i64 i] w fun e w' => ∃ v0 v1, e = .returned (.agg #[v0, v1]) ∧ OwnP w' w.heap.size v0 (flipped t i).sp ∧ Li.Own w' w.heap.size v1 (flipped t i).lv ∧ Apt v0 v1 ∧ Below w.heap.size w w' := by
  obtain ⟨R, hR⟩ : ∃ R, flipped t i = R := ⟨_, rfl⟩
  rw [hR]
  have HR : Hid (flipped t i = R) := hR
  clear hR
  go_enter Try.func10, Try.ntmps10
  go_wp2_with fail
  obtain ⟨W, hW, hsz, hB, bx, br⟩ := boxes2 w (.slice a t.sp.length c) (.slice a' t.lv.length c') (.slice none 0 0) (.slice none 0 0) 27 27
  rw [hW]
  clear hW
  have HP0 : Hid (IsP w a t.sp) := hp
  have HX0 : Hid (Li.IsL w a' t.lv) := hx
  have hp := hp.below hB
  have hx := hx.below hB
  refine (Tw.stok _ _ _ _ _ t hp hx hl).mono ?_
  rintro e w1 ⟨rfl, hB1⟩
  have hlt1 : w.heap.size + 1 < w1.heap.size := by have := hB1.size; omega
  have bx := bx.below hB1
  have br := br.below hB1
  have hp := hp.below hB1
  have hx := hx.below hB1
  have hB := hB.trans (hB1.mono hB.size)
  clear hB1 hsz
  obtain ⟨_, ⟨cx0, cx1⟩, _⟩ := id bx
  obtain ⟨_, ⟨cr0, cr1⟩, fr0, fr1⟩ := id br
  by_cases hcan : canFlip t i = true
  rotate_left
  · have hcf : canFlip t i = false := by simpa using hcan
    obtain rfl : R = ⟨[], []⟩ := by rw [← HR.out]; exact flipped_no hcf
    have hbt : tok t = true → Li.btw i 0 ((t.sp.length : Int) - 2) = false := fun h => by
      unfold canFlip at hcf
      rw [h] at hcf
      simpa [Li.btw] using hcf
    cases ht : tok t with
    | false =>
      clear hcan hcf hbt HR
      go_wp2
      refine bodyPost_ret (v := .agg #[.slice none 0 0, .slice none 0 0]) (by rw [results_cell rfl]; go_simp) rfl ⟨_, _, rfl, ownP_nil _ _, Li.Own.nil _ _, apt_of (fun k e => by simp [Value.ownBlock] at e), ?_⟩
      exact (hB.setCell (by simp) _).setCell (by simp) _
    | true =>
      have hb2 := hbt ht
      clear hcan hcf hbt HR
      go_wp2_with (go_at_call 25; refine (Li.between_any _ _ _ _).mono ?_; rintro e w' ⟨rfl, hw⟩; subst w'; rw [hb2])
      refine bodyPost_ret (v := .agg #[.slice none 0 0, .slice none 0 0]) (by rw [results_cell rfl]; go_simp) rfl ⟨_, _, rfl, ownP_nil _ _, Li.Own.nil _ _, apt_of (fun k e => by simp [Value.ownBlock] at e), ?_⟩
      exact (hB.setCell (by simp) _).setCell (by simp) _
  obtain ⟨ht, hi0, hi1⟩ := canFlip_iff.1 hcan
  have HRY : Hid (R = ⟨swp t.sp i.toNat, flipL i.toNat t.lv⟩) := HR.out.symm.trans (flipped_yes hcan)
  obtain ⟨n, rfl⟩ : ∃ n : Nat, i = (n : Int) := ⟨i.toNat, by omega⟩
  have hn2 : n + 2 ≤ t.sp.length := by omega
  have hszs := sizes ht (by omega)
  have H4 : Hid (t.sp.length ≤ 4 ∧ t.lv.length = 2 ^ t.sp.length) := (tok_iff.1 ht).1
  have hbt : Li.btw (n : Int) 0 ((t.sp.length : Int) - 2) = true := by simp [Li.btw]; omega
  have h0 : 0 < t.sp.length := by omega
  have h1 : 0 < t.lv.length := by omega
  rw [Int.toNat_natCast] at HRY
  have HS : Hid ((t.sp.length = 2 ∧ t.lv.length = 4) ∨ (t.sp.length = 3 ∧ t.lv.length = 8) ∨ (t.sp.length = 4 ∧ t.lv.length = 16)) := hszs
  clear hcan hi0 hi1 hszs HR
  rw [ht]
  clear ht
  go_wp2_with (go_at_call 25; refine (Li.between_any _ _ _ _).mono ?_; rintro e w' ⟨rfl, hw⟩; subst w'; rw [hbt])
  refine (scopy _ _ _ _ _ t hp hx h0 h1 hl).mono ?_
  rintro e w2 ⟨g0, d0, g1, d1, rfl, o0, o1, hap, hB2⟩
  have o0 := o0.mono (base' := w.heap.size + 2) (by omega)
  have o1 := o1.mono (base' := w.heap.size + 2) (by omega)
  have bx := bx.below hB2
  have br := br.below hB2
  have hp := hp.below hB2
  have hx := hx.below hB2
  have hB := hB.trans (hB2.mono hB.size)
  have hg0 := o0.ge g0 rfl
  have hg1 := o1.ge g1 rfl
  have hgg : ¬ g0 = g1 := by have := hap.1; simp [Value.ownBlock] at this; omega
  clear hB2 hlt1 cx0 cx1 cr0 cr1 fr0 fr1 hbt hap
  go_wp2_with fail
  obtain ⟨W3, hW3, hsz3, hb3, bo⟩ := boxes1 w2 (.slice (some ⟨g0, 0, none⟩) t.sp.length d0) (.slice (some ⟨g1, 0, none⟩) t.lv.length d1) 27
  rw [hW3]
  have o0 := o0.below hb3
  have o1 := o1.below hb3
  have bx := bx.below hb3
  have br := br.below hb3
  have hp := hp.below hb3
  have hx := hx.below hb3
  have hB := hB.trans (hb3.mono hB.size)
  have hlt3 : w2.heap.size < W3.heap.size := by omega
  clear hW3 hsz3 hb3
  obtain ⟨pb, po, rfl, hpb, hpc⟩ : ∃ b off, a = some ⟨b, off, none⟩ ∧ b < W3.heap.size ∧ ∀ j (hj : j < t.sp.length), W3.cell? ⟨b, off + j * 2, none⟩ = some (.int .i64 t.sp[j].1) ∧ W3.cell? ⟨b, off + j * 2 + 1, none⟩ = some (.int .i64 t.sp[j].2) := by
    rcases hp with h | h
    · rw [h] at h0; simp at h0
    · exact h
  have hpb0 : pb < w.heap.size := by
    rcases HP0.out with h | ⟨b, off, e, hb, _⟩
    · rw [h] at h0; simp at h0
    · cases e; exact hb
  obtain ⟨xb, xo, rfl, hxb, hxc⟩ := isl_pos' hx h1
  have hxb0 : xb < w.heap.size := by
    rcases HX0.out with h | ⟨b, off, e, hb, _⟩
    · rw [h] at h1; simp at h1
    · cases e; exact hb
  clear HP0 HX0
  have HPC : Hid (∀ j (hj : j < t.sp.length), W3.cell? ⟨pb, po + j * 2, none⟩ = some (.int .i64 t.sp[j].1) ∧ W3.cell? ⟨pb, po + j * 2 + 1, none⟩ = some (.int .i64 t.sp[j].2)) := hpc
  have HXC : Hid (∀ j (hj : j < t.lv.length), W3.cell? ⟨xb, xo + j, none⟩ = some (.int .i64 t.lv[j])) := hxc
  obtain ⟨px0, px1⟩ := hpc (n + 1) (by omega)
  obtain ⟨_, ⟨cx0, cx1⟩, _⟩ := id bx
  obtain ⟨_, ⟨co0, co1⟩, _⟩ := id bo
  obtain ⟨e0, e1⟩ := o0.cell rfl n (by omega)
  have f0 := o0.frozen rfl (n * 2)
  have f1 := o0.frozen rfl (n * 2 + 1)
  clear hpc hxc hp hx
  go_region
  obtain ⟨W4, hW4, hg4, o4⟩ : ∃ W4, ((W3.setCell ⟨g0, n * 2, none⟩ (.int .i64 t.sp[n + 1].1)).setCell ⟨g0, n * 2 + 1, none⟩ (.int .i64 t.sp[n + 1].2)).drew = W4 ∧ W3.grownBy W4 (some g0) ∧ OwnP W4 (w.heap.size + 2) (.slice (some ⟨g0, 0, none⟩) t.sp.length d0) (t.sp.set n (t.sp[n + 1].1, t.sp[n + 1].2)) :=
    ⟨_, rfl, grown2 W3 g0 (n * 2) (.int .i64 t.sp[n + 1].1) (.int .i64 t.sp[n + 1].2), ownP_drew (o0.set rfl n t.sp[n + 1].1 t.sp[n + 1].2)⟩
  rw [hW4]
  have HG4 : Hid (W3.grownBy W4 (some g0)) := hg4
  have px := HPC.out n (by omega)
  have px0 : W4.cell? ⟨pb, po + n * 2, none⟩ = some (.int .i64 t.sp[n].1) := (hg4.cell_far ⟨pb, po + n * 2, none⟩ hpb (by simp; omega)).trans px.1
  have px1 : W4.cell? ⟨pb, po + n * 2 + 1, none⟩ = some (.int .i64 t.sp[n].2) := (hg4.cell_far ⟨pb, po + n * 2 + 1, none⟩ hpb (by simp; omega)).trans px.2
  have bx4 := bx.keptAt hg4.size (hg4.block _ bx.1 (by simp; omega))
  have bo4 := bo.keptAt hg4.size (hg4.block _ bo.1 (by simp; omega))
  clear hW4 hg4 px cx0 cx1 co0 co1 e0 e1 f0 f1 o0
  obtain ⟨_, ⟨cx0, cx1⟩, _⟩ := id bx4
  obtain ⟨_, ⟨co0, co1⟩, _⟩ := id bo4
  have hll : (t.sp.set n (t.sp[n + 1].1, t.sp[n + 1].2)).length = t.sp.length := by simp
  obtain ⟨y0, y1, e0, e1⟩ : ∃ y0 y1 : Int, W4.cell? ⟨g0, (n + 1) * 2, none⟩ = some (.int .i64 y0) ∧ W4.cell? ⟨g0, (n + 1) * 2 + 1, none⟩ = some (.int .i64 y1) := ⟨_, _, o4.cell hll (n + 1) (by rw [hll]; omega)⟩
  have f0 := o4.frozen hll ((n + 1) * 2)
  have f1 := o4.frozen hll ((n + 1) * 2 + 1)
  have HO4 : Hid (OwnP W4 (w.heap.size + 2) (.slice (some ⟨g0, 0, none⟩) t.sp.length d0) (t.sp.set n (t.sp[n + 1].1, t.sp[n + 1].2))) := o4
  clear o4 hll
  go_wp2
  go_region
  obtain ⟨W5, hW5, hg5, o5⟩ : ∃ W5, ((W4.setCell ⟨g0, (n + 1) * 2, none⟩ (.int .i64 t.sp[n].1)).setCell ⟨g0, (n + 1) * 2 + 1, none⟩ (.int .i64 t.sp[n].2)).drew = W5 ∧ W3.grownBy W5 (some g0) ∧ OwnP W5 (w.heap.size + 2) (.slice (some ⟨g0, 0, none⟩) t.sp.length d0) (swp t.sp n) :=
    ⟨_, rfl, Li.grown_trans HG4.out (grown2 W4 g0 ((n + 1) * 2) (.int .i64 t.sp[n].1) (.int .i64 t.sp[n].2)), by
      have h := HO4.out.set (by simp) (n + 1) t.sp[n].1 t.sp[n].2
      have e : swp t.sp n = (t.sp.set n (t.sp[n + 1].1, t.sp[n + 1].2)).set (n + 1) (t.sp[n].1, t.sp[n].2) := by
        unfold swp
        simp [List.getD_eq_getElem?_getD, List.getElem?_eq_getElem (show n + 1 < t.sp.length by omega), List.getElem?_eq_getElem (show n < t.sp.length by omega)]
      rw [e]; exact ownP_drew h⟩
  rw [hW5]
  have HXC5 : Hid (∀ j (hj : j < t.lv.length), W5.cell? ⟨xb, xo + j, none⟩ = some (.int .i64 t.lv[j])) := fun j hj => (hg5.cell_far ⟨xb, xo + j, none⟩ hxb (by simp; omega)).trans (HXC.out j hj)
  have bx5 := bx.keptAt hg5.size (hg5.block _ bx.1 (by simp; omega))
  have bo5 := bo.keptAt hg5.size (hg5.block _ bo.1 (by simp; omega))
  have br5 := br.keptAt hg5.size (hg5.block _ br.1 (by simp; omega))
  have o15 : Li.Own W5 (w.heap.size + 2) (.slice (some ⟨g1, 0, none⟩) t.lv.length d1) t.lv := o1.kept hg5 (.inr (by simp [Value.ownBlock]; omega))
  have hB5 : Below w.heap.size w W5 := hB.trans (below_grown hg5 (by omega) hB.size)
  have hxb5 : xb < W5.heap.size := Nat.lt_of_lt_of_le hxb hg5.size
  have hlt5 : w2.heap.size < W5.heap.size := Nat.lt_of_lt_of_le hlt3 hg5.size
  clear hW5 hg5 cx0 cx1 co0 co1 e0 e1 f0 f1 HO4 HG4 px0 px1 bx4 bo4 bx bo br o1 hB hlt3 HPC HXC hxb hpb
  go_wp2
  go_loopw [6] (fun i wr => ∃ k : Nat, k ≤ t.lv.length ∧ i = .int .i64 k ∧ ∃ l, Lp W5 wr g1 (w.heap.size + 2) d1 n t.sp.length k t.lv l) (fun i _ => t.lv.length - (intOf i).toNat)
  case atStart => exact ⟨0, Nat.zero_le _, rfl, t.lv, put_zero _ _ _ _ rfl, o15, Li.grown_refl _ _⟩
  case round =>
    obtain ⟨k, hk, rfl, l, hput, hown, hgr⟩ := hrel
    have bxr := bx5.keptAt hgr.size (hgr.block _ bx5.1 (by simp; omega))
    have bor := bo5.keptAt hgr.size (hgr.block _ bo5.1 (by simp; omega))
    have brr := br5.keptAt hgr.size (hgr.block _ br5.1 (by simp; omega))
    obtain ⟨_, ⟨cx0, cx1⟩, _⟩ := id bxr
    obtain ⟨_, ⟨co0, co1⟩, _⟩ := id bor
    have hs5 := hgr.size
    by_cases hlt : k < t.lv.length
    · have hcx : wr.cell? ⟨xb, xo + k, none⟩ = some (.int .i64 t.lv[k]) := (hgr.cell_far ⟨xb, xo + k, none⟩ hxb5 (by simp; omega)).trans (HXC5.out k hlt)
      have hmv := mv_all t.sp.length H4.out.1 n hn2 k (by rw [← H4.out.2]; exact hlt)
      rw [← H4.out.2] at hmv
      have HPut : Hid (Put n t.lv (l.set (mv n k) t.lv[k]) t.sp.length (k + 1)) := put_step H4.out.1 hn2 H4.out.2 hlt hput
      obtain ⟨m, hm⟩ : ∃ m, mv n k = m := ⟨_, rfl⟩
      have HM : Hid (mv n k = m) := hm
      rw [hm] at hmv HPut
      have hml : m < t.lv.length := hmv.1
      have hk16 : k < 16 := by have := HS.out; omega
      obtain ⟨z, hcl⟩ : ∃ z : Int, wr.cell? ⟨g1, m, none⟩ = some (.int .i64 z) := ⟨_, hown.cell hput.1 m (by rw [hput.1]; exact hml)⟩
      have hcf := hown.frozen hput.1 m
      have HO : Hid (Li.Own wr (w.heap.size + 2) (.slice (some ⟨g1, 0, none⟩) t.lv.length d1) l ∧ l.length = t.lv.length ∧ W5.grownBy wr (some g1)) := ⟨hown, hput.1, hgr⟩
      have hxr : xb < wr.heap.size := by omega
      have hg1r := (hown.ge g1 rfl).2
      obtain ⟨x, hxv⟩ : ∃ x, t.lv[k] = x := ⟨_, rfl⟩
      rw [hxv] at hcx HPut
      have hn3 : n = 0 ∨ n = 1 ∨ n = 2 := by have := HS.out; omega
      clear hmv hm hput hown hgr hxv
      rcases hn3 with rfl | rfl | rfl
      · have hE : (k : Int) - (k : Int) % 2 - (k : Int) / 2 % 2 * 2 + (k : Int) / 2 % 2 + (k : Int) % 2 * 2 = m := by rw [← HM.out]; exact mv0 k hk16
        have HE : Hid _ := hE
        clear hE
        go_wp2
        go_quiet (fail)
        obtain ⟨nq0, hq0⟩ : ∃ q, q = nq := ⟨_, rfl⟩
        subst hq0
        go_wp2
        go_quiet (fail)
        go_wp2
        rw [HE.out]
        obtain ⟨wq, hwq, hO, hcx, hcl, hcf, cx0, cx1, co0, co1, hsq⟩ : ∃ wq, (wr.drewN nq0).drewN nq = wq ∧ Lq W5 wq g1 (w.heap.size + 2) d1 t.lv l ∧ wq.cell? ⟨xb, xo + k, none⟩ = some (.int .i64 x) ∧ wq.cell? ⟨g1, m, none⟩ = some (.int .i64 z) ∧ wq.frozen? ⟨g1, m, none⟩ = false ∧ wq.cell? ⟨w.heap.size, 0, none⟩ = some (.slice (some ⟨pb, po, none⟩) t.sp.length c) ∧ wq.cell? ⟨w.heap.size, 1, none⟩ = some (.slice (some ⟨xb, xo, none⟩) t.lv.length c') ∧ wq.cell? ⟨w2.heap.size, 0, none⟩ = some (.slice (some ⟨g0, 0, none⟩) t.sp.length d0) ∧ wq.cell? ⟨w2.heap.size, 1, none⟩ = some (.slice (some ⟨g1, 0, none⟩) t.lv.length d1) ∧ wq.heap.size = wr.heap.size :=
          ⟨_, rfl, lq_drewN (lq_drewN ⟨HO.out.1, HO.out.2.1, HO.out.2.2⟩ _) _, hcx, hcl, hcf, cx0, cx1, co0, co1, rfl⟩
        rw [hwq]
        have HLQ : Hid (Lq W5 wq g1 (w.heap.size + 2) d1 t.lv l) := hO
        have hxq : xb < wq.heap.size := by omega
        have hgq : g1 < wq.heap.size := by omega
        have h2q : w2.heap.size < wq.heap.size := by omega
        have h0q : w.heap.size < wq.heap.size := by omega
        clear hwq hO hsq
        go_region
        all_goals
          go_wp2
          go_roundw
          case rel => exact ⟨k + 1, by omega, by go_num, _, HPut.out, own_drew (HLQ.out.own'.set HLQ.out.len m x), Li.grown_trans HLQ.out.grown (grown1 wq g1 m (.int .i64 x))⟩
          case measure => simp [intOf]; omega
      · have hE : (k : Int) - (k : Int) / 2 % 2 * 2 - (k : Int) / 4 % 2 * 4 + (k : Int) / 4 % 2 * 2 + (k : Int) / 2 % 2 * 4 = m := by rw [← HM.out]; exact mv1 k hk16
        have HE : Hid _ := hE
        clear hE
        go_wp2
        go_quiet (fail)
        obtain ⟨nq0, hq0⟩ : ∃ q, q = nq := ⟨_, rfl⟩
        subst hq0
        go_wp2
        go_quiet (fail)
        go_wp2
        rw [HE.out]
        obtain ⟨wq, hwq, hO, hcx, hcl, hcf, cx0, cx1, co0, co1, hsq⟩ : ∃ wq, (wr.drewN nq0).drewN nq = wq ∧ Lq W5 wq g1 (w.heap.size + 2) d1 t.lv l ∧ wq.cell? ⟨xb, xo + k, none⟩ = some (.int .i64 x) ∧ wq.cell? ⟨g1, m, none⟩ = some (.int .i64 z) ∧ wq.frozen? ⟨g1, m, none⟩ = false ∧ wq.cell? ⟨w.heap.size, 0, none⟩ = some (.slice (some ⟨pb, po, none⟩) t.sp.length c) ∧ wq.cell? ⟨w.heap.size, 1, none⟩ = some (.slice (some ⟨xb, xo, none⟩) t.lv.length c') ∧ wq.cell? ⟨w2.heap.size, 0, none⟩ = some (.slice (some ⟨g0, 0, none⟩) t.sp.length d0) ∧ wq.cell? ⟨w2.heap.size, 1, none⟩ = some (.slice (some ⟨g1, 0, none⟩) t.lv.length d1) ∧ wq.heap.size = wr.heap.size :=
          ⟨_, rfl, lq_drewN (lq_drewN ⟨HO.out.1, HO.out.2.1, HO.out.2.2⟩ _) _, hcx, hcl, hcf, cx0, cx1, co0, co1, rfl⟩
        rw [hwq]
        have HLQ : Hid (Lq W5 wq g1 (w.heap.size + 2) d1 t.lv l) := hO
        have hxq : xb < wq.heap.size := by omega
        have hgq : g1 < wq.heap.size := by omega
        have h2q : w2.heap.size < wq.heap.size := by omega
        have h0q : w.heap.size < wq.heap.size := by omega
        clear hwq hO hsq
        go_region
        all_goals
          go_wp2
          go_roundw
          case rel => exact ⟨k + 1, by omega, by go_num, _, HPut.out, own_drew (HLQ.out.own'.set HLQ.out.len m x), Li.grown_trans HLQ.out.grown (grown1 wq g1 m (.int .i64 x))⟩
          case measure => simp [intOf]; omega
      · have hE : (k : Int) - (k : Int) / 4 % 2 * 4 - (k : Int) / 8 % 2 * 8 + (k : Int) / 8 % 2 * 4 + (k : Int) / 4 % 2 * 8 = m := by rw [← HM.out]; exact mv2 k hk16
        have HE : Hid _ := hE
        clear hE
        go_wp2
        go_quiet (fail)
        obtain ⟨nq0, hq0⟩ : ∃ q, q = nq := ⟨_, rfl⟩
        subst hq0
        go_wp2
        go_quiet (fail)
        go_wp2
        rw [HE.out]
        obtain ⟨wq, hwq, hO, hcx, hcl, hcf, cx0, cx1, co0, co1, hsq⟩ : ∃ wq, (wr.drewN nq0).drewN nq = wq ∧ Lq W5 wq g1 (w.heap.size + 2) d1 t.lv l ∧ wq.cell? ⟨xb, xo + k, none⟩ = some (.int .i64 x) ∧ wq.cell? ⟨g1, m, none⟩ = some (.int .i64 z) ∧ wq.frozen? ⟨g1, m, none⟩ = false ∧ wq.cell? ⟨w.heap.size, 0, none⟩ = some (.slice (some ⟨pb, po, none⟩) t.sp.length c) ∧ wq.cell? ⟨w.heap.size, 1, none⟩ = some (.slice (some ⟨xb, xo, none⟩) t.lv.length c') ∧ wq.cell? ⟨w2.heap.size, 0, none⟩ = some (.slice (some ⟨g0, 0, none⟩) t.sp.length d0) ∧ wq.cell? ⟨w2.heap.size, 1, none⟩ = some (.slice (some ⟨g1, 0, none⟩) t.lv.length d1) ∧ wq.heap.size = wr.heap.size :=
          ⟨_, rfl, lq_drewN (lq_drewN ⟨HO.out.1, HO.out.2.1, HO.out.2.2⟩ _) _, hcx, hcl, hcf, cx0, cx1, co0, co1, rfl⟩
        rw [hwq]
        have HLQ : Hid (Lq W5 wq g1 (w.heap.size + 2) d1 t.lv l) := hO
        have hxq : xb < wq.heap.size := by omega
        have hgq : g1 < wq.heap.size := by omega
        have h2q : w2.heap.size < wq.heap.size := by omega
        have h0q : w.heap.size < wq.heap.size := by omega
        clear hwq hO hsq
        go_region
        all_goals
          go_wp2
          go_roundw
          case rel => exact ⟨k + 1, by omega, by go_num, _, HPut.out, own_drew (HLQ.out.own'.set HLQ.out.len m x), Li.grown_trans HLQ.out.grown (grown1 wq g1 m (.int .i64 x))⟩
          case measure => simp [intOf]; omega
    · obtain rfl : k = t.lv.length := by omega
      have HL : Hid (l = flipL n t.lv) := put_all H4.out.1 hn2 H4.out.2 hput
      obtain ⟨_, ⟨cr0, cr1⟩, fr0, fr1⟩ := id brr
      have hBr : Below w.heap.size w wr := hB5.trans (below_grown hgr (by omega) hB5.size)
      have o0r : OwnP wr (w.heap.size + 2) (.slice (some ⟨g0, 0, none⟩) t.sp.length d0) (swp t.sp n) := o5.kept hgr (.inr (by simp [Value.ownBlock]; omega))
      have hr1 : w.heap.size + 1 < w.heap.size + 2 := by omega
      go_wp2
      refine bodyPost_ret (v := .agg #[.slice (some ⟨g0, 0, none⟩) t.sp.length d0, .slice (some ⟨g1, 0, none⟩) t.lv.length d1]) (by rw [results_cell rfl]; go_simp) rfl ⟨_, _, rfl, ?_, ?_, apt_of (fun k e e' => by simp [Value.ownBlock] at e e'; omega), ?_⟩
      · rw [HRY.out]
        exact (ownP_off (ownP_off o0r (Li.grown_set _ _ _ _) hr1) (Li.grown_set _ _ _ _) hr1).mono (by omega)
      · rw [HRY.out]
        show Li.Own _ _ _ (flipL n t.lv)
        rw [← HL.out]
        exact (own_off (own_off hown (Li.grown_set _ _ _ _) hr1) (Li.grown_set _ _ _ _) hr1).mono (by omega)
      · exact (hBr.setCell (by simp) _).setCell (by simp) _
end Go.Proofs.Ytomembbdbmjgmaa.Fw
