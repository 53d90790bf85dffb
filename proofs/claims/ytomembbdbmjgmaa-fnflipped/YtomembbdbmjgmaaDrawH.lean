/-
  What the model draws for trees: DrawFlipped.
-/
import Derived.Test.YtomembbdbmjgmaaDrawE
import Derived.Test.YtomembbdbmjgmaaHeldS
namespace Go.Proofs.Ytomembbdbmjgmaa.Df
open Go.RowKit
open Go.Proofs.Ytomembbdbmjgmaa.Li (iv ret_bool ret_int below_none)
open Go.Proofs.Ytomembbdbmjgmaa.Ai Go.Proofs.Ytomembbdbmjgmaa.Tr Go.Proofs.Ytomembbdbmjgmaa.Tm
set_option maxRecDepth 100000
set_option linter.unusedVariables false

theorem two_at (T : TypeId) (p q z : Int) (h0 : 0 ≤ z) (h2 : z < 2) : ∃ v, (v = p ∨ v = q) ∧ ∀ W : World, (W.alloc (.cells #[.int .i64 p, .int .i64 q] T)).cell? ⟨W.heap.size, z.toNat, none⟩ = some (.int .i64 v) := by
  rcases (by omega : z = 0 ∨ z = 1) with rfl | rfl
  · exact ⟨p, .inl rfl, fun W => by simp [World.cell?_alloc_new]⟩
  · exact ⟨q, .inr rfl, fun W => by simp [World.cell?_alloc_new]⟩
structure Fl (w U : World) (X : Nat) (K : Int) (a0 a1 : Option Addr) (c0 c1 : Nat) (t : T) : Prop where
  cu : Cu.Cur U (w.heap.size + 1) K
  bx : Box2 U X (.slice a0 t.sp.length c0) (.slice a1 t.lv.length c1)
  br : Box2 U w.heap.size (.slice none 0 0) (.slice none 0 0)
  o0 : OwnP U (w.heap.size + 2) (.slice a0 t.sp.length c0) t.sp
  o1 : Li.Own U (w.heap.size + 2) (.slice a1 t.lv.length c1) t.lv
  bel : Below w.heap.size w U
  ge : w.heap.size + 2 ≤ X
section
variable {w U V : World} {X : Nat} {K K' : Int} {a0 a1 : Option Addr} {c0 c1 : Nat} {t : T}
theorem Fl.below (h : Fl w U X K a0 a1 c0 c1 t) (hb : Below U.heap.size U V) : Fl w V X K a0 a1 c0 c1 t :=
  ⟨h.cu.keptB hb.size (fun k hk => hb.block k (by have := h.cu.lt; omega)), h.bx.below hb, h.br.below hb, h.o0.below hb, h.o1.below hb, h.bel.trans (hb.mono h.bel.size), h.ge⟩
theorem Fl.drew (h : Fl w U X K a0 a1 c0 c1 t) : Fl w U.drew X K a0 a1 c0 c1 t := h.below (below_drew U)
theorem Fl.alloc (h : Fl w U X K a0 a1 c0 c1 t) (o : Obj) : Fl w (U.alloc o) X K a0 a1 c0 c1 t := h.below ((Below.refl _ _).alloc (Nat.le_refl _) o)
theorem Fl.cur (h : Fl w U X K a0 a1 c0 c1 t) (hg : U.grownBy V (some (w.heap.size + 1))) (hc : Cu.Cur V (w.heap.size + 1) K') : Fl w V X K' a0 a1 c0 c1 t := by
  have hge := h.ge
  refine ⟨hc, h.bx.keptAt hg.size (hg.block _ h.bx.1 (fun e => by injection e with e; omega)), h.br.keptAt hg.size (hg.block _ h.br.1 (fun e => by injection e with e; omega)), ownP_off h.o0 hg (by omega), own_off h.o1 hg (by omega), h.bel.trans (Cu.grown_below hg (by omega) h.bel.size), h.ge⟩
theorem Fl.cells (h : Fl w U X K a0 a1 c0 c1 t) : U.cell? ⟨X, 0, none⟩ = some (.slice a0 t.sp.length c0) ∧ U.cell? ⟨X, 1, none⟩ = some (.slice a1 t.lv.length c1) := h.bx.2.1
/-- What is handed back. -/
theorem Fl.fin (h : Fl w U X K a0 a1 c0 c1 t) (V0 V1 : Value) :
    OwnP ((U.setCell ⟨w.heap.size, 0, none⟩ V0).setCell ⟨w.heap.size, 1, none⟩ V1) w.heap.size (.slice a0 t.sp.length c0) t.sp ∧ Li.Own ((U.setCell ⟨w.heap.size, 0, none⟩ V0).setCell ⟨w.heap.size, 1, none⟩ V1) w.heap.size (.slice a1 t.lv.length c1) t.lv ∧ Below w.heap.size w ((U.setCell ⟨w.heap.size, 0, none⟩ V0).setCell ⟨w.heap.size, 1, none⟩ V1) := by
  have g1 := Li.grown_set U w.heap.size 0 V0
  have g2 := Li.grown_set (U.setCell ⟨w.heap.size, 0, none⟩ V0) w.heap.size 1 V1
  exact ⟨(ownP_off (ownP_off h.o0 g1 (by omega)) g2 (by omega)).mono (by omega), (own_off (own_off h.o1 g1 (by omega)) g2 (by omega)).mono (by omega), (h.bel.setCell (p := ⟨w.heap.size, 0, none⟩) (by simp) _).setCell (p := ⟨w.heap.size, 1, none⟩) (by simp) _⟩
end
theorem keepF {U : World} {w X G : Nat} {j : Nat} {V0 V1 A B C : Value} (h1 : ¬ X = w) (h2 : ¬ G = w) (h : U.cell? ⟨X, 0, none⟩ = some A ∧ U.cell? ⟨X, 1, none⟩ = some B ∧ U.cell? ⟨G, j, none⟩ = some C) :
    ((U.setCell ⟨w, 0, none⟩ V0).setCell ⟨w, 1, none⟩ V1).cell? ⟨X, 0, none⟩ = some A ∧ ((U.setCell ⟨w, 0, none⟩ V0).setCell ⟨w, 1, none⟩ V1).cell? ⟨X, 1, none⟩ = some B ∧ ((U.setCell ⟨w, 0, none⟩ V0).setCell ⟨w, 1, none⟩ V1).cell? ⟨G, j, none⟩ = some C := by
  have n : ∀ (b o k : Nat), ¬ b = w → (⟨b, o, none⟩ : Addr) ≠ ⟨w, k, none⟩ := fun b o k hb e => hb (by injection e)
  refine ⟨?_, ?_, ?_⟩
  · rw [World.cell?_setCell_other _ _ _ _ (fun e => n _ _ _ h1 e.symm), World.cell?_setCell_other _ _ _ _ (fun e => n _ _ _ h1 e.symm)]; exact h.1
  · rw [World.cell?_setCell_other _ _ _ _ (fun e => n _ _ _ h1 e.symm), World.cell?_setCell_other _ _ _ _ (fun e => n _ _ _ h1 e.symm)]; exact h.2.1
  · rw [World.cell?_setCell_other _ _ _ _ (fun e => n _ _ _ h2 e.symm), World.cell?_setCell_other _ _ _ _ (fun e => n _ _ _ h2 e.symm)]; exact h.2.2
theorem keepF2 {U : World} {w X : Nat} {V0 V1 A B : Value} (h1 : ¬ X = w) (h : U.cell? ⟨X, 0, none⟩ = some A ∧ U.cell? ⟨X, 1, none⟩ = some B) :
    ((U.setCell ⟨w, 0, none⟩ V0).setCell ⟨w, 1, none⟩ V1).cell? ⟨X, 0, none⟩ = some A ∧ ((U.setCell ⟨w, 0, none⟩ V0).setCell ⟨w, 1, none⟩ V1).cell? ⟨X, 1, none⟩ = some B :=
  ⟨(keepF h1 h1 ⟨h.1, h.2, h.2⟩).1, (keepF h1 h1 ⟨h.1, h.2, h.2⟩).2.1⟩
theorem setF {U : World} {w : Nat} {V0 V1 A B : Value} (h : Box2 U w A B) : ((U.setCell ⟨w, 0, none⟩ V0).setCell ⟨w, 1, none⟩ V1).cell? ⟨w, 0, none⟩ = some V0 ∧ ((U.setCell ⟨w, 0, none⟩ V0).setCell ⟨w, 1, none⟩ V1).cell? ⟨w, 1, none⟩ = some V1 :=
  ((h.set0 V0).set1 V1).2.1
theorem endF {w V : World} {a0 a1 : Option Addr} {n0 c0 n1 c1 : Nat} {i : Int} {Post : Ending → World → Prop} (t : Array Value) (h2 : t[2]?.getD undef = .pointer (some ⟨w.heap.size, 0, none⟩)) (h3 : t[3]?.getD undef = .int .i64 i)
    (e0 : V.cell? ⟨w.heap.size, 0, none⟩ = some (.slice a0 n0 c0)) (e1 : V.cell? ⟨w.heap.size, 1, none⟩ = some (.slice a1 n1 c1)) (hP : Post (.returned (.tuple #[.agg #[.slice a0 n0 c0, .slice a1 n1 c1], .int .i64 i])) V) :
    bodyPost Try.prog Try.f6 Post Exit.ret { tmps := t, defers := [] } V :=
  bodyPost_ret (v := .tuple #[.agg #[.slice a0 n0 c0, .slice a1 n1 c1], .int .i64 i]) (by simp [results, Try.results6, go_sem, h2, h3, e0, e1]) rfl hP
set_option maxHeartbeats 8000000 in
theorem drawFlipped_any (w : World) (a : Option Addr) (len cap : Nat) (hB : Cu.Bytes w w.heap.size a len) (hl : (len : Int) ≤ 1048576) :
    Calls Try.prog 6 #[.slice a len cap] w fun e w' => ∃ a0 c0 a1 c1 t, ∃ i : Int, e = .returned (.tuple #[.agg #[.slice a0 (t : T).sp.length c0, .slice a1 t.lv.length c1], .int .i64 i]) ∧ t.sp.length + t.lv.length ≤ 100 ∧ (-9223372036854775808 ≤ i ∧ i ≤ 9223372036854775807) ∧ OwnP w' w.heap.size (.slice a0 t.sp.length c0) t.sp ∧ Li.Own w' w.heap.size (.slice a1 t.lv.length c1) t.lv ∧ Apt (.slice a0 t.sp.length c0) (.slice a1 t.lv.length c1) ∧ Below w.heap.size w w' := by
  go_enter Try.func6, Try.ntmps6
  go_wp2_with fail
  obtain ⟨W0, hW0, hsz0, hB0, br⟩ := boxes1 w (.slice none 0 0) (.slice none 0 0) 27
  rw [hW0]
  clear hW0
  have hB := hB.keptB hB0.size (fun k hk => hB0.block k hk)
  refine (Cu.open_any _ _ _ _ hB hl).mono ?_
  rintro e w1 ⟨rfl, hg, hc⟩
  have br := br.below (Cu.grown_below hg (Nat.le_refl _) (Nat.le_refl _))
  have hBw : Below w.heap.size w w1 := hB0.trans ((Cu.grown_below hg (Nat.le_refl _) (Nat.le_refl _)).mono hB0.size)
  have hb1 := hc.lt
  clear hg hB0 hB
  rw [hsz0] at hc hb1 ⊢
  clear hsz0
  go_wp2_with fail
  refine (tree_any _ _ _ hc (by omega) (by omega)).mono ?_
  rintro e w2 ⟨v0, v1, t, rfl, hlen, o0, o1, ap, hg, hc2⟩
  have hzz := hg.size
  have br := br.keptAt hg.size (hg.block w.heap.size br.1 (fun e => by injection e with e; omega))
  have hBw := hBw.trans (Cu.grown_below hg (show w.heap.size ≤ w.heap.size + 1 by omega) (show w.heap.size ≤ w1.heap.size by omega))
  have o0 := o0.mono (base' := w.heap.size + 2) (by omega)
  have o1 := o1.mono (base' := w.heap.size + 2) (by omega)
  clear hg hc
  obtain ⟨a0, c0, rfl, _, _⟩ := o0.isp
  obtain ⟨a1, c1, rfl, _⟩ := o1.isl
  go_wp2
  have hb2 : w.heap.size + 1 < w2.heap.size := hc2.lt
  obtain ⟨W, hW, hszW, hbW, bx⟩ := boxes1 w2 (.slice a0 t.sp.length c0) (.slice a1 t.lv.length c1) 27
  rw [hW]
  have FL : Hid (Fl w W w2.heap.size 200 a0 a1 c0 c1 t) := ⟨hc2.keptB hbW.size (fun k hk => hbW.block k (by omega)), bx, br.below hbW, o0.below hbW, o1.below hbW, hBw.trans (hbW.mono hBw.size), by omega⟩
  have HLEN : Hid (type_of% hlen) := hlen
  have HAP : Hid (type_of% ap) := ap
  have hS := FL.out.drew.cells
  have hneX : ¬ w.heap.size = w2.heap.size := by omega
  have hneY : ¬ w2.heap.size = w.heap.size := by omega
  clear hW hbW hc2 br bx o0 o1 hBw hszW hlen ap
  refine Hs.start (fun U => U.cell? ⟨w2.heap.size, 0, none⟩ = some (.slice a0 t.sp.length c0) ∧ U.cell? ⟨w2.heap.size, 1, none⟩ = some (.slice a1 t.lv.length c1)) (by kernel_rfl) ?_
  refine Hs.take (i := 0) (.agg #[.slice a0 t.sp.length c0, .slice a1 t.lv.length c1]) rfl (by kernel_rfl) (by kernel_rfl) (by kernel_rfl) (fun _ _ _ h => h) hS (Or.inl ⟨by rfl, ?_⟩) ?_
  · rintro U ⟨u0, u1⟩; go_simp; try with_reducible rfl
  try simp only [Act.put]
  refine Hs.take (i := 1) (.pointer (some ⟨w.heap.size + 1, 0, none⟩)) rfl (by kernel_rfl) (by kernel_rfl) (by kernel_rfl) (fun _ _ _ h => h) hS (Or.inl ⟨by rfl, ?_⟩) ?_
  · rintro U ⟨u0, u1⟩; go_simp; try with_reducible rfl
  try simp only [Act.put]
  refine Hs.take (i := 3) (.pointer (some ⟨w.heap.size + 1, 0, none⟩)) rfl (by kernel_rfl) (by kernel_rfl) (by kernel_rfl) (fun _ _ _ h => h) hS (Or.inl ⟨by rfl, ?_⟩) ?_
  · rintro U ⟨u0, u1⟩; go_simp; try with_reducible rfl
  try simp only [Act.put]
  refine Hs.take (i := 6) (.pointer (some ⟨w.heap.size + 1, 0, none⟩)) rfl (by kernel_rfl) (by kernel_rfl) (by kernel_rfl) (fun _ _ _ h => h) hS (Or.inl ⟨by rfl, ?_⟩) ?_
  · rintro U ⟨u0, u1⟩; go_simp; try with_reducible rfl
  try simp only [Act.put]
  refine Hs.one (i := 2) (by kernel_rfl) rfl rfl ?_
  intro K2 hK2
  go_simp
  go_wp2_with (go_at_call 19; refine (Cu.pick_any _ _ _ FL.out.drew.cu (by omega) _ (by omega)).mono ?_; rintro e w3 ⟨p, rfl, p0, p1, hg3, hz3, hc3⟩)
  have p2 := p1 (by omega)
  have FL3 : Hid (Fl w w3 w2.heap.size 201 a0 a1 c0 c1 t) := FL.out.drew.cur hg3 hc3
  refine hK2 _ _ FL3.out.cells ?_
  clear hK2 K2 hg3 hz3 hc3 p1 FL hS
  try simp only [Act.put]
  refine Hs.one (i := 4) (by kernel_rfl) rfl rfl ?_
  intro K4 hK4
  go_simp
  go_wp2_with (go_at_call 20; refine (Cu.raw_any _ _ _ FL3.out.cu (by omega)).mono ?_; rintro e w4 ⟨q, rfl, q0, q1, hg4, hc4⟩)
  have FL4 : Hid (Fl w w4 w2.heap.size 203 a0 a1 c0 c1 t) := FL3.out.cur hg4 hc4
  refine hK4 _ _ FL4.out.cells ?_
  clear hK4 K4 hg4 hc4 FL3
  try simp only [Act.put]
  refine Hs.two (i := 5) (j := 7) (by kernel_rfl) rfl rfl rfl rfl ?_ ?_
  · intro K5 hK5
    go_simp
    have FLA := FL4.out.alloc (.cells #[.int .i64 p, .int .i64 q] 3)
    refine hK5 _ _ FLA.cells ?_
    clear hK5 K5
    try simp only [Act.put]
    refine Hs.one (i := 7) (by kernel_rfl) rfl rfl ?_
    intro K7 hK7
    go_simp
    go_wp2_with (go_at_call 19; refine (Cu.pick_any _ _ _ (FLA).cu (by omega) _ (by omega)).mono ?_; rintro e w5 ⟨z, rfl, z0, z1, hg5, hz5, hc5⟩)
    have z2 : z < 2 := z1 (by omega)
    have FL5 : Hid (Fl w w5 w2.heap.size 204 a0 a1 c0 c1 t) := (FLA).cur hg5 hc5
    obtain ⟨v, hvv, hcell⟩ := two_at 3 p q z z0 z2
    have hlt4 : w.heap.size + 1 < w4.heap.size := FL4.out.cu.lt
    have hx5 : w5.cell? ⟨w4.heap.size, z.toNat, none⟩ = some (.int .i64 v) := (kept hg5 _ _ hlt4 (by simp)).trans (hcell w4)
    have hnb : ¬ w.heap.size = w4.heap.size := by omega
    have hnc : ¬ w4.heap.size = w.heap.size := by omega
    have hw45 : w4.heap.size < w5.heap.size := by rw [hz5]; simp
    refine hK7 _ _ FL5.out.cells ?_
    clear hK7 K7 hg5 hz5 hc5 z1 FLA
    try simp only [Act.put]
    refine Hs.more (S' := fun U => U.cell? ⟨w2.heap.size, 0, none⟩ = some (.slice a0 t.sp.length c0) ∧ U.cell? ⟨w2.heap.size, 1, none⟩ = some (.slice a1 t.lv.length c1) ∧ U.cell? ⟨w4.heap.size, z.toNat, none⟩ = some (.int .i64 v)) (fun _ h => ⟨h.1, h.2.1⟩) ?_
    have hS5 := And.intro FL5.out.cells.1 (And.intro FL5.out.cells.2 hx5)
    refine Hs.take (i := 8) (.pointer (some ⟨w4.heap.size, z.toNat, none⟩)) rfl (by kernel_rfl) (by kernel_rfl) (by kernel_rfl) (fun _ _ _ h => h) hS5 (Or.inl ⟨by rfl, ?_⟩) ?_
    · rintro U ⟨u0, u1, u2⟩; go_simp; try with_reducible rfl
    try simp only [Act.put]
    refine Hs.take (i := 9) (.int .i64 v) rfl (by kernel_rfl) (by kernel_rfl) (by kernel_rfl) (fun _ _ _ h => h) hS5 (Or.inl ⟨by rfl, ?_⟩) ?_
    · rintro U ⟨u0, u1, u2⟩; go_simp; try with_reducible rfl
    try simp only [Act.put]
    refine Hs.one (i := 10) (by kernel_rfl) rfl rfl ?_
    have HBRR := id FL5.out.br
    have hS6 := keepF (V0 := .slice a0 t.sp.length c0) (V1 := .slice a1 t.lv.length c1) hneY hnc hS5
    have HCC := setF (V0 := .slice a0 t.sp.length c0) (V1 := .slice a1 t.lv.length c1) FL5.out.br
    intro K10 hK10
    obtain ⟨hr_, ⟨g0, g1⟩, gf0, gf1⟩ := HBRR
    go_simp
    refine hK10 _ _ hS6 ?_
    clear hK10 K10 hr_ g0 g1 gf0 gf1
    try simp only [Act.put]
    refine Hs.takeD (i := 11) (some 3) (.int .i64 v) rfl rfl (by kernel_rfl) (by kernel_rfl) (by kernel_rfl) (fun _ _ _ h => h) hS6 (Or.inl ⟨by rfl, ?_⟩) ?_
    · rintro U ⟨u0, u1, u2⟩; go_simp; try with_reducible rfl
    try simp only [Act.put]
    refine wpAnyH_done (by kernel_rfl) ?_ _
    have hfin := FL5.out.fin (.slice a0 t.sp.length c0) (.slice a1 t.lv.length c1)
    have hcc := HCC
    obtain ⟨V, hV⟩ : ∃ V, ((w5).setCell ⟨w.heap.size, 0, none⟩ (.slice a0 t.sp.length c0)).setCell ⟨w.heap.size, 1, none⟩ (.slice a1 t.lv.length c1) = V := ⟨_, rfl⟩
    rw [hV] at hfin hcc ⊢
    clear hV
    obtain ⟨e0, e1⟩ := hcc
    go_wp2
    exact endF (w := w) _ rfl rfl e0 e1 ⟨a0, c0, a1, c1, t, v, rfl, HLEN.out, by rcases hvv with e | e <;> (subst e; omega), hfin.1, hfin.2.1, HAP.out, hfin.2.2⟩
  · intro K7 hK7
    go_simp
    go_wp2_with (go_at_call 19; refine (Cu.pick_any _ _ _ (FL4.out).cu (by omega) _ (by omega)).mono ?_; rintro e w5 ⟨z, rfl, z0, z1, hg5, hz5, hc5⟩)
    have z2 : z < 2 := z1 (by omega)
    have FL5 : Hid (Fl w w5 w2.heap.size 204 a0 a1 c0 c1 t) := (FL4.out).cur hg5 hc5
    obtain ⟨v, hvv, hcell⟩ := two_at 3 p q z z0 z2
    refine hK7 _ _ FL5.out.cells ?_
    clear hK7 K7 hg5 hz5 hc5 z1
    try simp only [Act.put]
    have hlt5 : w.heap.size + 1 < w5.heap.size := FL5.out.cu.lt
    have hnb : ¬ w.heap.size = w5.heap.size := by omega
    have hnc : ¬ w5.heap.size = w.heap.size := by omega
    refine Hs.two (i := 5) (j := 10) (by kernel_rfl) rfl rfl rfl rfl ?_ ?_
    · intro K5 hK5
      go_simp
      have FLA := FL5.out.alloc (.cells #[.int .i64 p, .int .i64 q] 3)
      refine hK5 _ _ FLA.cells ?_
      clear hK5 K5
      try simp only [Act.put]
      refine Hs.more (S' := fun U => U.cell? ⟨w2.heap.size, 0, none⟩ = some (.slice a0 t.sp.length c0) ∧ U.cell? ⟨w2.heap.size, 1, none⟩ = some (.slice a1 t.lv.length c1) ∧ U.cell? ⟨w5.heap.size, z.toNat, none⟩ = some (.int .i64 v)) (fun _ h => ⟨h.1, h.2.1⟩) ?_
      have hS5 := And.intro FLA.cells.1 (And.intro FLA.cells.2 (hcell w5))
      refine Hs.take (i := 8) (.pointer (some ⟨w5.heap.size, z.toNat, none⟩)) rfl (by kernel_rfl) (by kernel_rfl) (by kernel_rfl) (fun _ _ _ h => h) hS5 (Or.inl ⟨by rfl, ?_⟩) ?_
      · rintro U ⟨u0, u1, u2⟩; go_simp; try with_reducible rfl
      try simp only [Act.put]
      refine Hs.take (i := 9) (.int .i64 v) rfl (by kernel_rfl) (by kernel_rfl) (by kernel_rfl) (fun _ _ _ h => h) hS5 (Or.inl ⟨by rfl, ?_⟩) ?_
      · rintro U ⟨u0, u1, u2⟩; go_simp; try with_reducible rfl
      try simp only [Act.put]
      refine Hs.one (i := 10) (by kernel_rfl) rfl rfl ?_
      have HBRR := id FLA.br
      have hS6 := keepF (V0 := .slice a0 t.sp.length c0) (V1 := .slice a1 t.lv.length c1) hneY hnc hS5
      have HCC := setF (V0 := .slice a0 t.sp.length c0) (V1 := .slice a1 t.lv.length c1) FLA.br
      intro K10 hK10
      obtain ⟨hr_, ⟨g0, g1⟩, gf0, gf1⟩ := HBRR
      go_simp
      refine hK10 _ _ hS6 ?_
      clear hK10 K10 hr_ g0 g1 gf0 gf1
      try simp only [Act.put]
      refine Hs.takeD (i := 11) (some 3) (.int .i64 v) rfl rfl (by kernel_rfl) (by kernel_rfl) (by kernel_rfl) (fun _ _ _ h => h) hS6 (Or.inl ⟨by rfl, ?_⟩) ?_
      · rintro U ⟨u0, u1, u2⟩; go_simp; try with_reducible rfl
      try simp only [Act.put]
      refine wpAnyH_done (by kernel_rfl) ?_ _
      have hfin := FLA.fin (.slice a0 t.sp.length c0) (.slice a1 t.lv.length c1)
      have hcc := HCC
      obtain ⟨V, hV⟩ : ∃ V, ((w5.alloc (.cells #[.int .i64 p, .int .i64 q] 3)).setCell ⟨w.heap.size, 0, none⟩ (.slice a0 t.sp.length c0)).setCell ⟨w.heap.size, 1, none⟩ (.slice a1 t.lv.length c1) = V := ⟨_, rfl⟩
      rw [hV] at hfin hcc ⊢
      clear hV
      obtain ⟨e0, e1⟩ := hcc
      go_wp2
      exact endF (w := w) _ rfl rfl e0 e1 ⟨a0, c0, a1, c1, t, v, rfl, HLEN.out, by rcases hvv with e | e <;> (subst e; omega), hfin.1, hfin.2.1, HAP.out, hfin.2.2⟩
    · have HBRR := id FL5.out.br
      have hS6 := keepF2 (V0 := .slice a0 t.sp.length c0) (V1 := .slice a1 t.lv.length c1) hneY FL5.out.cells
      have HCC0 := setF (V0 := .slice a0 t.sp.length c0) (V1 := .slice a1 t.lv.length c1) FL5.out.br
      intro K10 hK10
      obtain ⟨hr_, ⟨g0, g1⟩, gf0, gf1⟩ := HBRR
      go_simp
      refine hK10 _ _ hS6 ?_
      clear hK10 K10 hr_ g0 g1 gf0 gf1
      try simp only [Act.put]
      have hfin0 := FL5.out.fin (.slice a0 t.sp.length c0) (.slice a1 t.lv.length c1)
      obtain ⟨V6, hV6⟩ : ∃ V6, ((w5).setCell ⟨w.heap.size, 0, none⟩ (.slice a0 t.sp.length c0)).setCell ⟨w.heap.size, 1, none⟩ (.slice a1 t.lv.length c1) = V6 := ⟨_, rfl⟩
      have hX6 : w2.heap.size < V6.heap.size := by rw [← hV6]; have := FL5.out.bx.1; simpa [World.setCell] using this
      have hw6 : w.heap.size < V6.heap.size := by rw [← hV6]; have := FL5.out.br.1; simpa [World.setCell] using this
      rw [hV6] at hS6 HCC0 hfin0 ⊢
      clear hV6
      refine Hs.one (i := 5) (by kernel_rfl) rfl rfl ?_
      intro K5 hK5
      go_simp
      have hba : Below V6.heap.size V6 (V6.alloc (.cells #[.int .i64 p, .int .i64 q] 3)) := (Below.refl _ _).alloc (Nat.le_refl _) _
      have hS7 : (V6.alloc (.cells #[.int .i64 p, .int .i64 q] 3)).cell? ⟨w2.heap.size, 0, none⟩ = some (.slice a0 t.sp.length c0) ∧ (V6.alloc (.cells #[.int .i64 p, .int .i64 q] 3)).cell? ⟨w2.heap.size, 1, none⟩ = some (.slice a1 t.lv.length c1) := ⟨(hba.cell (p := ⟨w2.heap.size, 0, none⟩) hX6).trans hS6.1, (hba.cell (p := ⟨w2.heap.size, 1, none⟩) hX6).trans hS6.2⟩
      refine hK5 _ _ hS7 ?_
      clear hK5 K5
      try simp only [Act.put]
      refine Hs.more (S' := fun U => U.cell? ⟨w2.heap.size, 0, none⟩ = some (.slice a0 t.sp.length c0) ∧ U.cell? ⟨w2.heap.size, 1, none⟩ = some (.slice a1 t.lv.length c1) ∧ U.cell? ⟨V6.heap.size, z.toNat, none⟩ = some (.int .i64 v)) (fun _ h => ⟨h.1, h.2.1⟩) ?_
      have hS8 := And.intro hS7.1 (And.intro hS7.2 (hcell V6))
      refine Hs.takeD (i := 8) (some 18) (.pointer (some ⟨V6.heap.size, z.toNat, none⟩)) rfl rfl (by kernel_rfl) (by kernel_rfl) (by kernel_rfl) (fun _ _ _ h => h) hS8 (Or.inl ⟨by rfl, ?_⟩) ?_
      · rintro U ⟨u0, u1, u2⟩; go_simp; try with_reducible rfl
      try simp only [Act.put]
      refine Hs.takeD (i := 9) (some 19) (.int .i64 v) rfl rfl (by kernel_rfl) (by kernel_rfl) (by kernel_rfl) (fun _ _ _ h => h) hS8 (Or.inl ⟨by rfl, ?_⟩) ?_
      · rintro U ⟨u0, u1, u2⟩; go_simp; try with_reducible rfl
      try simp only [Act.put]
      refine Hs.takeD (i := 11) (some 3) (.int .i64 v) rfl rfl (by kernel_rfl) (by kernel_rfl) (by kernel_rfl) (fun _ _ _ h => h) hS8 (Or.inl ⟨by rfl, ?_⟩) ?_
      · rintro U ⟨u0, u1, u2⟩; go_simp; try with_reducible rfl
      try simp only [Act.put]
      refine wpAnyH_done (by kernel_rfl) ?_ _
      have e0 := (hba.cell (p := ⟨w.heap.size, 0, none⟩) hw6).trans HCC0.1
      have e1 := (hba.cell (p := ⟨w.heap.size, 1, none⟩) hw6).trans HCC0.2
      have f0 := hfin0.1.below hba
      have f1 := hfin0.2.1.below hba
      have f2 := hfin0.2.2.trans (hba.mono hfin0.2.2.size)
      obtain ⟨V, hV⟩ : ∃ V, V6.alloc (.cells #[.int .i64 p, .int .i64 q] 3) = V := ⟨_, rfl⟩
      rw [hV] at e0 e1 f0 f1 f2 ⊢
      clear hV
      go_wp2
      exact endF (w := w) _ rfl rfl e0 e1 ⟨a0, c0, a1, c1, t, v, rfl, HLEN.out, by rcases hvv with e | e <;> (subst e; omega), f0, f1, HAP.out, f2⟩
end Go.Proofs.Ytomembbdbmjgmaa.Df
