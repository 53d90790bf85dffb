/-
  Models as the laws and both texts hold them: what is read, what may be written, where it lies; contracts of the laws' own helpers over models.
-/
import Derived.Test.YtkiddmbenepfjaaKto
import Derived.Test.YtkiddmbenepfjaaTrO
namespace Go.Proofs.Ytkiddmbenepfjaa.Md
set_option maxRecDepth 20000
open Go.RowKit
open Go.Proofs.Ytkiddmbenepfjaa.Tb (sub sub_yes sub_no)
open Go.Proofs.Ytkiddmbenepfjaa.Tm (IsT szT FitsT)
open Go.Proofs.Ytkiddmbenepfjaa.Kt (Kv IsK OwK ksz FitsK)
open Go.Proofs.Ytkiddmbenepfjaa.To (OwT)
open Go.Proofs.Ytkiddmbenepfjaa.Sv (Fr fr_below fr_grown new1 new2 new3 Wr)
set_option linter.unusedVariables false
structure M where
  n : Int
  c : Int
  prior : Int
  base : Int
  ks : List Kv
  ts : List Tr.T
def M.sz (m : M) : Nat := m.ks.length + ksz m.ks + (m.ts.length + szT m.ts)
def FitsM (m : M) : Prop := FitsK m.ks ∧ FitsT m.ts
/-- What is read of a model. -/
structure Rm (w : World) (ak ax : Option Addr) (m : M) : Prop where
  k : IsK w ak m.ks
  t : IsT w ax m.ts
theorem Rm.below {w w1 : World} {ak ax : Option Addr} {m : M} (h : Rm w ak ax m) (hb : Below w.heap.size w w1) : Rm w1 ak ax m := ⟨h.k.below hb, h.t.below hb⟩
/-- What may be written of it: words and trees in blocks of B, apart. -/
def OwM (w : World) (B : Nat → Prop) (vk vt : Value) (m : M) : Prop := ∃ P : Nat → Prop, OwK w (fun k => B k ∧ P k) vk m.ks ∧ OwT w (fun k => B k ∧ ¬ P k) vt m.ts
theorem OwM.fr {w w1 : World} {B B' : Nat → Prop} {vk vt : Value} {m : M} (h : OwM w B vk vt m) (hf : Fr B' w w1) (hd : ∀ k, B k → ¬ B' k) : OwM w1 B vk vt m := by
  obtain ⟨P, h0, h1⟩ := h
  exact ⟨P, h0.fr hf (fun k e => hd k e.1), h1.fr hf (fun k e => hd k e.1)⟩
theorem OwM.below {w w1 : World} {B : Nat → Prop} {vk vt : Value} {m : M} (h : OwM w B vk vt m) (hb : Below w.heap.size w w1) : OwM w1 B vk vt m := h.fr (fr_below (B := fun _ => False) hb) (fun _ _ e => e)
theorem OwM.mono {w : World} {B B' : Nat → Prop} {vk vt : Value} {m : M} (h : OwM w B vk vt m) (hb : ∀ k, B k → B' k) : OwM w B' vk vt m := by
  obtain ⟨P, h0, h1⟩ := h
  exact ⟨P, h0.mono (fun k e => ⟨hb k e.1, e.2⟩), h1.mono (fun k e => ⟨hb k e.1, e.2⟩)⟩
theorem OwM.bound {w : World} {B : Nat → Prop} {vk vt : Value} {m : M} (h : OwM w B vk vt m) : OwM w (fun k => B k ∧ k < w.heap.size) vk vt m := by
  obtain ⟨P, h0, h1⟩ := h
  exact ⟨P, h0.bound.mono (fun k e => ⟨⟨e.1.1, e.2⟩, e.1.2⟩), h1.bound.mono (fun k e => ⟨⟨e.1.1, e.2⟩, e.1.2⟩)⟩
theorem OwM.rm {w : World} {B : Nat → Prop} {vk vt : Value} {m : M} (h : OwM w B vk vt m) : ∃ ak ck ax ct, vk = .slice ak m.ks.length ck ∧ vt = .slice ax m.ts.length ct ∧ Rm w ak ax m := by
  obtain ⟨P, h0, h1⟩ := h
  obtain ⟨ak, ck, e0, i0⟩ := h0.isk
  obtain ⟨ax, ct, e1, i1⟩ := h1.ist
  exact ⟨ak, ck, ax, ct, e0, e1, i0, i1⟩
theorem wr6 {w : World} {b : Nat} {v0 v1 v2 v3 v4 v5 : Value} (h : Wr w b 0 [v0, v1, v2, v3, v4, v5]) :
    b < w.heap.size ∧ (w.cell? ⟨b, 0, none⟩ = some v0 ∧ w.cell? ⟨b, 1, none⟩ = some v1 ∧ w.cell? ⟨b, 2, none⟩ = some v2 ∧ w.cell? ⟨b, 3, none⟩ = some v3 ∧ w.cell? ⟨b, 4, none⟩ = some v4 ∧ w.cell? ⟨b, 5, none⟩ = some v5) ∧
    w.frozen? ⟨b, 0, none⟩ = false ∧ w.frozen? ⟨b, 1, none⟩ = false ∧ w.frozen? ⟨b, 2, none⟩ = false ∧ w.frozen? ⟨b, 3, none⟩ = false ∧ w.frozen? ⟨b, 4, none⟩ = false ∧ w.frozen? ⟨b, 5, none⟩ = false :=
  ⟨h.1, ⟨(h.2 0 (by simp)).1, (h.2 1 (by simp)).1, (h.2 2 (by simp)).1, (h.2 3 (by simp)).1, (h.2 4 (by simp)).1, (h.2 5 (by simp)).1⟩, (h.2 0 (by simp)).2, (h.2 1 (by simp)).2, (h.2 2 (by simp)).2, (h.2 3 (by simp)).2, (h.2 4 (by simp)).2, (h.2 5 (by simp)).2⟩
set_option maxHeartbeats 2000000 in
theorem szModel (w : World) (ak ax : Option Addr) (ck ct : Nat) (left : Int) (m : M) (hm : Rm w ak ax m) (hf : FitsM m) (h0 : 0 ≤ left) (h1 : left ≤ 1048576) :
    Calls Try.prog 8 #[.agg #[.int .i64 m.n, .int .i64 m.c, .int .i64 m.prior, .int .i64 m.base, .slice ak m.ks.length ck, .slice ax m.ts.length ct], .int .i64 left] w fun e w' => e = .returned (.int .i64 (sub left m.sz)) ∧ Below w.heap.size w w' := by
  obtain ⟨z, hz⟩ : ∃ z, m.ks.length + ksz m.ks = z := ⟨_, rfl⟩
  obtain ⟨y, hy⟩ : ∃ y, m.ts.length + szT m.ts = y := ⟨_, rfl⟩
  have HZ : Hid (m.sz = z + y) := by show _ = _; unfold M.sz; omega
  go_enter Try.func8, Try.ntmps8
  go_wp2_with fail
  obtain ⟨W, hW, hsz, hB, bx⟩ := new1 w [.int .i64 m.n, .int .i64 m.c, .int .i64 m.prior, .int .i64 m.base, .slice ak m.ks.length ck, .slice ax m.ts.length ct] 27
  rw [hW]
  clear hW
  refine (Kt.szTabs _ _ _ _ m.ks (hm.k.below hB) hf.1 h0 h1).mono ?_
  rintro e w1 ⟨rfl, hb⟩
  have bx := bx.below hb
  have hB := hB.trans (hb.mono hB.size)
  rw [hz]
  clear hb hz hsz
  obtain ⟨_, ⟨c0, c1, c2, c3, c4, c5⟩, _⟩ := wr6 bx
  by_cases hfit : (z : Int) ≤ left
  · rw [sub_yes hfit]
    go_wp2_with fail
    refine (Tm.szTrees _ _ _ _ m.ts (hm.t.below hB) hf.2 (by omega) (by omega)).mono ?_
    rintro e w2 ⟨rfl, hb⟩
    have hB := hB.trans (hb.mono hB.size)
    rw [hy]
    clear hb hy
    by_cases hfit2 : (y : Int) ≤ left - z
    · rw [sub_yes hfit2]
      have HR : Hid (sub left (z + y) = left - z - y) := by show sub _ _ = _; rw [sub_yes (by omega)]; omega
      clear c0 c1 c2 c3 c4 c5
      go_wp2
      go_ret
      exact ⟨by rw [HZ.out, HR.out]; rfl, hB⟩
    · rw [sub_no hfit2]
      have HR : Hid (sub left (z + y) = -1) := sub_no (by omega)
      clear c0 c1 c2 c3 c4 c5
      go_wp2
      go_ret
      exact ⟨by rw [HZ.out, HR.out]; rfl, hB⟩
  · rw [sub_no hfit]
    have HR : Hid (sub left (z + y) = -1) := sub_no (by omega)
    clear hy c0 c1 c2 c3 c4 c5
    go_wp2
    go_ret
    exact ⟨by rw [HZ.out, HR.out]; rfl, hB⟩
set_option maxHeartbeats 2000000 in
theorem eqModel (w : World) (ak ax bk bt : Option Addr) (ck ct dk dt : Nat) (m : M) (hx : Rm w ak ax m) (hy : Rm w bk bt m) (hl : m.sz ≤ 1048576) :
    Calls Try.prog 12 #[.agg #[.int .i64 m.n, .int .i64 m.c, .int .i64 m.prior, .int .i64 m.base, .slice ak m.ks.length ck, .slice ax m.ts.length ct], .agg #[.int .i64 m.n, .int .i64 m.c, .int .i64 m.prior, .int .i64 m.base, .slice bk m.ks.length dk, .slice bt m.ts.length dt]] w fun e w' => e = .returned (.bool true) ∧ Below w.heap.size w w' := by
  unfold M.sz at hl
  have hks := Kt.ktot_ksz m.ks
  have e1 : (m.prior != m.prior) = false := by simp
  have e2 : (m.base != m.base) = false := by simp
  go_enter Try.func12, Try.ntmps12
  go_wp2_with fail
  obtain ⟨W, hW, hsz, hB, bx, bY⟩ := new2 w [.int .i64 m.n, .int .i64 m.c, .int .i64 m.prior, .int .i64 m.base, .slice ak m.ks.length ck, .slice ax m.ts.length ct] [.int .i64 m.n, .int .i64 m.c, .int .i64 m.prior, .int .i64 m.base, .slice bk m.ks.length dk, .slice bt m.ts.length dt] 34 34
  rw [hW]
  clear hW
  refine (Tb.eqSchema _ _ _ _ _).mono ?_
  rintro e w1 ⟨rfl, hb⟩
  rw [show decide (m.n = m.n ∧ m.c = m.c) = true by simp]
  have bx := bx.below hb
  have bY := bY.below hb
  have hB := hB.trans (hb.mono hB.size)
  clear hb hsz
  obtain ⟨_, ⟨x0, x1, x2, x3, x4, x5⟩, _⟩ := wr6 bx
  obtain ⟨_, ⟨y0, y1, y2, y3, y4, y5⟩, _⟩ := wr6 bY
  have hx := hx.below hB
  have hy := hy.below hB
  go_wp2_with fail
  refine (Kt.eqTabs _ _ _ _ _ m.ks hx.k hy.k (by omega)).mono ?_
  rintro e w2 ⟨rfl, hb⟩
  have bx := bx.below hb
  have bY := bY.below hb
  have hB := hB.trans (hb.mono hB.size)
  have hx := hx.below hb
  have hy := hy.below hb
  clear hb x0 x1 x2 x3 x4 x5 y0 y1 y2 y3 y4 y5
  obtain ⟨_, ⟨x0, x1, x2, x3, x4, x5⟩, _⟩ := wr6 bx
  obtain ⟨_, ⟨y0, y1, y2, y3, y4, y5⟩, _⟩ := wr6 bY
  go_wp2_with fail
  refine (Tm.eqTrees _ _ _ _ _ m.ts hx.t hy.t (by omega)).mono ?_
  rintro e w3 ⟨rfl, hb⟩
  have hB := hB.trans (hb.mono hB.size)
  clear hb x0 x1 x2 x3 x4 x5 y0 y1 y2 y3 y4 y5
  go_wp2
  go_ret
  exact ⟨rfl, hB⟩
set_option maxHeartbeats 4000000 in
theorem toModel (w : World) (ak ax : Option Addr) (ck ct : Nat) (m : M) (hx : Rm w ak ax m) (hl : m.sz ≤ 1048576) :
    Calls Try.prog 10 #[.agg #[.int .i64 m.n, .int .i64 m.c, .int .i64 m.prior, .int .i64 m.base, .slice ak m.ks.length ck, .slice ax m.ts.length ct]] w fun e w' => ∃ vk vt, e = .returned (.agg #[.int .i64 m.n, .int .i64 m.c, .int .i64 m.prior, .int .i64 m.base, vk, vt]) ∧ OwM w' (fun k => w.heap.size ≤ k ∧ k < w'.heap.size) vk vt m ∧ Below w.heap.size w w' := by
  unfold M.sz at hl
  have hks := Kt.ktot_ksz m.ks
  go_enter Try.func10, Try.ntmps10
  go_wp2_with fail
  obtain ⟨W, hW, hsz, hB, bx, br, bo⟩ := new3 w [.int .i64 m.n, .int .i64 m.c, .int .i64 m.prior, .int .i64 m.base, .slice ak m.ks.length ck, .slice ax m.ts.length ct] [.int .i64 0, .int .i64 0, .int .i64 0, .int .i64 0, .slice none 0 0, .slice none 0 0] [.int .i64 0, .int .i64 0, .int .i64 0, .int .i64 0, .slice none 0 0, .slice none 0 0] 27 34 34
  rw [hW]
  clear hW
  refine (Tb.toSchema _ _ _).mono ?_
  rintro e w1 ⟨rfl, hb⟩
  have bx := bx.below hb
  have br := br.below hb
  have bo := bo.below hb
  have hB := hB.trans (hb.mono hB.size)
  have hs1 : w.heap.size + 3 ≤ w1.heap.size := by have := hb.size; omega
  clear hb hsz
  obtain ⟨_, ⟨x0, x1, x2, x3, x4, x5⟩, _⟩ := wr6 bx
  obtain ⟨hbo, ⟨o0, o1, o2, o3, o4, o5⟩, f0, f1, f2, f3, f4, f5⟩ := wr6 bo
  obtain ⟨W2, hW2⟩ : ∃ W2, (((w1.setCell ⟨w.heap.size + 1 + 1, 0, none⟩ (.int .i64 m.n)).setCell ⟨w.heap.size + 1 + 1, 1, none⟩ (.int .i64 m.c)).setCell ⟨w.heap.size + 1 + 1, 2, none⟩ (.int .i64 m.prior)).setCell ⟨w.heap.size + 1 + 1, 3, none⟩ (.int .i64 m.base) = W2 := ⟨_, rfl⟩
  have HW2 : Hid ((((w1.setCell ⟨w.heap.size + 1 + 1, 0, none⟩ (.int .i64 m.n)).setCell ⟨w.heap.size + 1 + 1, 1, none⟩ (.int .i64 m.c)).setCell ⟨w.heap.size + 1 + 1, 2, none⟩ (.int .i64 m.prior)).setCell ⟨w.heap.size + 1 + 1, 3, none⟩ (.int .i64 m.base) = W2) := hW2
  have HS2 : Hid (w1.heap.size ≤ W2.heap.size) := by show _ ≤ _; rw [← hW2]; simp [World.setCell]
  have HBX : Hid (Wr W2 w.heap.size 0 [.int .i64 m.n, .int .i64 m.c, .int .i64 m.prior, .int .i64 m.base, .slice ak m.ks.length ck, .slice ax m.ts.length ct]) := by rw [← hW2]; exact (((bx.setOther (by omega)).setOther (by omega)).setOther (by omega)).setOther (by omega)
  have HBR : Hid (Wr W2 (w.heap.size + 1) 0 [.int .i64 0, .int .i64 0, .int .i64 0, .int .i64 0, .slice none 0 0, .slice none 0 0]) := by rw [← hW2]; exact (((br.setOther (by omega)).setOther (by omega)).setOther (by omega)).setOther (by omega)
  have HBO : Hid (Wr W2 (w.heap.size + 2) 0 [.int .i64 m.n, .int .i64 m.c, .int .i64 m.prior, .int .i64 m.base, .slice none 0 0, .slice none 0 0]) := by
    rw [← hW2]
    exact (((bo.set 0 (by simp) _).set 1 (by simp) _).set 2 (by simp) _).set 3 (by simp) _
  have HBB : Hid (Below w.heap.size w W2) := by rw [← hW2]; exact (((hB.setCell (by simp; omega) _).setCell (by simp; omega) _).setCell (by simp; omega) _).setCell (by simp; omega) _
  clear hW2 bx br bo hB
  go_wp2_with fail
  rw [HW2.out]
  have bx := HBX.out
  have br := HBR.out
  have bo := HBO.out
  have hB := HBB.out
  have hs2 : w.heap.size + 3 ≤ W2.heap.size := by have := HS2.out; omega
  clear HW2 HBX HBR HBO HBB HS2 x0 x1 x2 x3 x4 x5 o0 o1 o2 o3 o4 o5 f0 f1 f2 f3 f4 f5 hbo hs1
  refine (Kt.toTabs _ _ _ m.ks (hx.k.below hB) (by omega)).mono ?_
  rintro e w3 ⟨vk, rfl, ok, hb⟩
  have bx := bx.below hb
  have br := br.below hb
  have bo := bo.below hb
  have hB := hB.trans (hb.mono hB.size)
  have hs3 : w.heap.size + 3 ≤ w3.heap.size := by have := hb.size; omega
  clear hb
  obtain ⟨_, ⟨x0, x1, x2, x3, x4, x5⟩, _⟩ := wr6 bx
  obtain ⟨hbo, ⟨o0, o1, o2, o3, o4, o5⟩, f0, f1, f2, f3, f4, f5⟩ := wr6 bo
  obtain ⟨pk, qk, ek, _⟩ := ok.isk
  subst ek
  obtain ⟨W4, hW4⟩ : ∃ W4, w3.setCell ⟨w.heap.size + 1 + 1, 4, none⟩ (.slice pk m.ks.length qk) = W4 := ⟨_, rfl⟩
  have HW4 : Hid (w3.setCell ⟨w.heap.size + 1 + 1, 4, none⟩ (.slice pk m.ks.length qk) = W4) := hW4
  have HS4 : Hid (W4.heap.size = w3.heap.size) := by show _ = _; rw [← hW4]; simp [World.setCell]
  have HBX : Hid (Wr W4 w.heap.size 0 [.int .i64 m.n, .int .i64 m.c, .int .i64 m.prior, .int .i64 m.base, .slice ak m.ks.length ck, .slice ax m.ts.length ct]) := by rw [← hW4]; exact bx.setOther (by omega)
  have HBR : Hid (Wr W4 (w.heap.size + 1) 0 [.int .i64 0, .int .i64 0, .int .i64 0, .int .i64 0, .slice none 0 0, .slice none 0 0]) := by rw [← hW4]; exact br.setOther (by omega)
  have HBO : Hid (Wr W4 (w.heap.size + 2) 0 [.int .i64 m.n, .int .i64 m.c, .int .i64 m.prior, .int .i64 m.base, .slice pk m.ks.length qk, .slice none 0 0]) := by
    rw [← hW4]
    exact bo.set 4 (by simp) _
  have HBB : Hid (Below w.heap.size w W4) := by rw [← hW4]; exact hB.setCell (by simp; omega) _
  have HOK : Hid (OwK W4 (fun k => W2.heap.size ≤ k ∧ k < w3.heap.size) (.slice pk m.ks.length qk) m.ks) := by
    rw [← hW4]
    exact ok.fr (B' := fun k => k = w.heap.size + 2) (fr_grown (Li.grown_set _ _ _ _) rfl) (fun k hk e => by omega)
  clear hW4 bx br bo hB ok
  go_wp2_with fail
  rw [HW4.out]
  have bx := HBX.out
  have br := HBR.out
  have bo := HBO.out
  have hB := HBB.out
  have ok := HOK.out
  have hs4 := HS4.out
  clear HW4 HBX HBR HBO HBB HOK x0 x1 x2 x3 x4 x5 o0 o1 o2 o3 o4 o5 f0 f1 f2 f3 f4 f5 hbo
  refine (To.toTreesO _ _ _ m.ts (hx.t.below hB) (by omega)).mono ?_
  rintro e w5 ⟨vt, rfl, ot, hb⟩
  have bx := bx.below hb
  have br := br.below hb
  have bo := bo.below hb
  have ok := ok.below hb
  have hB := hB.trans (hb.mono hB.size)
  have hs5 : w3.heap.size ≤ w5.heap.size := by have := hb.size; omega
  rw [hs4] at ot
  clear hb hs4 HS4
  obtain ⟨_, ⟨x0, x1, x2, x3, x4, x5⟩, _⟩ := wr6 bx
  obtain ⟨hbo, ⟨o0, o1, o2, o3, o4, o5⟩, f0, f1, f2, f3, f4, f5⟩ := wr6 bo
  obtain ⟨hbr, ⟨r0, r1, r2, r3, r4, r5⟩, g0, g1, g2, g3, g4, g5⟩ := wr6 br
  obtain ⟨pt, qt, et, _⟩ := ot.ist
  subst et
  have HFR : Hid (∀ v0 v1 v2 v3 v4 v5 v6, Fr (fun k => k = w.heap.size + 1 ∨ k = w.heap.size + 2) w5 (((((((w5.setCell ⟨w.heap.size + 1 + 1, 5, none⟩ v0).setCell ⟨w.heap.size + 1, 0, none⟩ v1).setCell ⟨w.heap.size + 1, 1, none⟩ v2).setCell ⟨w.heap.size + 1, 2, none⟩ v3).setCell ⟨w.heap.size + 1, 3, none⟩ v4).setCell ⟨w.heap.size + 1, 4, none⟩ v5).setCell ⟨w.heap.size + 1, 5, none⟩ v6)) := fun v0 v1 v2 v3 v4 v5 v6 =>
    ((((((fr_grown (Li.grown_set _ _ _ _) (.inr rfl)).trans (fr_grown (Li.grown_set _ _ _ _) (.inl rfl))).trans (fr_grown (Li.grown_set _ _ _ _) (.inl rfl))).trans (fr_grown (Li.grown_set _ _ _ _) (.inl rfl))).trans (fr_grown (Li.grown_set _ _ _ _) (.inl rfl))).trans (fr_grown (Li.grown_set _ _ _ _) (.inl rfl))).trans (fr_grown (Li.grown_set _ _ _ _) (.inl rfl))
  have HOW : Hid (OwM w5 (fun k => w.heap.size + 3 ≤ k ∧ k < w5.heap.size) (.slice pk m.ks.length qk) (.slice pt m.ts.length qt) m) := ⟨fun k => k < w3.heap.size, ok.mono (fun k hk => by omega), ot.mono (fun k hk => by omega)⟩
  have HB : Hid (Below w.heap.size w w5) := hB
  clear bx br bo ok ot hB
  go_wp2
  refine bodyPost_ret (v := .agg #[.int .i64 m.n, .int .i64 m.c, .int .i64 m.prior, .int .i64 m.base, .slice pk m.ks.length qk, .slice pt m.ts.length qt]) (by rw [Tb.results_cell rfl]; go_simp) rfl ⟨_, _, rfl, ?_, ?_⟩
  · refine OwM.mono (OwM.fr HOW.out (HFR.out _ _ _ _ _ _ _) (fun k hk e => by omega)) (fun k hk => ⟨by omega, ?_⟩)
    have := (HFR.out (.int .i64 m.n) (.int .i64 m.n) (.int .i64 m.n) (.int .i64 m.n) (.int .i64 m.n) (.int .i64 m.n) (.int .i64 m.n)).size
    simp [World.setCell]
    omega
  · exact HB.out.trans ((HFR.out _ _ _ _ _ _ _).bel (fun k hk => by omega) HB.out.size)
end Go.Proofs.Ytkiddmbenepfjaa.Md
