/-
  copyOfRows of the program.
-/
import Derived.Test.YtmfippeclkmhnaaSeH
import Derived.Deep.CutRange
namespace Go.Proofs.Ytmfippeclkmhnaa.Sw7
open Go.RowKit
open Go.Proofs.Ytmfippeclkmhnaa.Li (ret_bool ret_int below_none IsL btw iv)
open Go.Proofs.Ytmfippeclkmhnaa.Tm (IsP pv pv_length)
open Go.Proofs.Ytmfippeclkmhnaa.Se Go.Proofs.Ytmfippeclkmhnaa.Sv
set_option linter.unusedVariables false

theorem mkVec (n : Nat) (hn : n ≤ 40) : ∃ z : List Value, z.length = n ∧ ∀ W : World, (Instr.makeSlice 24 (.int .i64 (n : Int)) (.int .i64 (n : Int))).run Try.prog W = .ok (.slice (some ⟨W.heap.size, 0, none⟩) n n) (W.alloc (.cells z.toArray 50)) := by
  obtain ⟨i0, hi, hz0, hz1, hz2⟩ := info_parts info_vec
  refine ⟨(madeCells (Value.agg #[.slice none 0 0]).cells (n * 1)).toList, by simp [madeCells], fun W => ?_⟩
  have hr := run_make (P := Try.prog) W 24 50 i0 (.agg #[.slice none 0 0]) Try.underlying24 hi hz0 .i64 .i64 n n (by omega) (Int.le_refl _) (by rw [hz2]; omega) (by omega)
  rw [hz1] at hr
  simpa using hr
theorem c5 {w : World} {b : Nat} {v0 v1 v2 v3 v4 : Value} (h : Wr w b 0 [v0, v1, v2, v3, v4]) : w.cell? ⟨b, 0, none⟩ = some v0 ∧ w.cell? ⟨b, 1, none⟩ = some v1 ∧ w.cell? ⟨b, 2, none⟩ = some v2 ∧ w.cell? ⟨b, 3, none⟩ = some v3 ∧ w.cell? ⟨b, 4, none⟩ = some v4 := (wr5 h).2.1
/-- A make, an alloc at a step of a region that draws its order: the block and the world are letters. -/
theorem upon_make {P : Program} {w : World} {o : Oper} {a : Act} {K : Act → World → Prop} {Q : Exit → Act → World → Prop} (t : TypeId) (n : Nat) (z : List Value) (e : TypeId)
    (hrun : ∀ W : World, (Instr.makeSlice t (.int .i64 (n : Int)) (.int .i64 (n : Int))).run P W = .ok (.slice (some ⟨W.heap.size, 0, none⟩) n n) (W.alloc (.cells z.toArray e)))
    (h : ∀ g w', w.heap.size ≤ g → g < w'.heap.size → Wr w' g 0 z → Below w.heap.size w w' → K (a.put o.dst (.slice (some ⟨g, 0, none⟩) n n)) w') :
    Oper.upon P o a K Q ((Sem.run P (Instr.makeSlice t (.int .i64 (n : Int)) (.int .i64 (n : Int))) w).andThen fun v w' => Result.ok (Next.value v) w') := by
  rw [hrun]
  exact h _ _ (Nat.le_refl _) (by simp) (wr_new _ _ _) ((Below.refl _ _).alloc (Nat.le_refl _) _)
def zr5 : List Value := [.slice none 0 0, .slice none 0 0, .slice none 0 0, .int .i64 0, .int .i64 0]
theorem rdG {w : World} {a0 a1 a2 : Option Addr} {r : R} (h : Rd w a0 a1 a2 r) : IsL w a1 r.g := h.2.1
theorem rdI {w : World} {a0 a1 a2 : Option Addr} {r : R} (h : Rd w a0 a1 a2 r) : IsL w a2 r.ids := h.2.2
/-- What the copied rows' variable and lists are in the loop. -/
structure CM (w wx : World) (bo gx lg hg li hi : Nat) (vg vi : Value) (n : Nat) (lv l2 : Int) (cx : List Value) (gs ids : List Int) (RA : List Value) : Prop where
  bv : Wr wx bo 0 [.slice (some ⟨gx, 0, none⟩) n n, vg, vi, .int .i64 lv, .int .i64 l2]
  ox : Wr wx gx 0 cx
  og : OwI wx (fun k => lg ≤ k ∧ k < hg) vg gs
  oi : OwI wx (fun k => li ≤ k ∧ k < hi) vi ids
  ba : Wr wx w.heap.size 0 RA
  br : Wr wx (w.heap.size + 1) 0 zr5
  ge : w.heap.size + 2 ≤ bo ∧ w.heap.size + 2 ≤ gx ∧ w.heap.size + 2 ≤ lg ∧ w.heap.size + 2 ≤ li
  ne : ¬ bo = gx
  nl : ¬ (lg ≤ bo ∧ bo < hg) ∧ ¬ (lg ≤ gx ∧ gx < hg) ∧ ¬ (li ≤ bo ∧ bo < hi) ∧ ¬ (li ≤ gx ∧ gx < hi)
  gi : hg ≤ li ∨ hi ≤ lg
  hl : hg ≤ wx.heap.size ∧ hi ≤ wx.heap.size
  bel : Below w.heap.size w wx
/-- How far the region has come: what has been made so far, and where it lies. -/
structure Sc (w wc : World) (RA : List Value) (zx : List Value) (gs ids : List Int) (X V : Option Nat) (G I : Option (Value × Nat × Nat)) : Prop where
  ba : Wr wc w.heap.size 0 RA
  br : Wr wc (w.heap.size + 1) 0 zr5
  bel : Below w.heap.size w wc
  sz : w.heap.size + 2 ≤ wc.heap.size
  oX : ∀ g, X = some g → Wr wc g 0 zx ∧ w.heap.size + 2 ≤ g
  oV : ∀ g, V = some g → Wr wc g 0 zr5 ∧ w.heap.size + 2 ≤ g
  oG : ∀ v lo hi, G = some (v, lo, hi) → OwI wc (fun k => lo ≤ k ∧ k < hi) v gs ∧ w.heap.size + 2 ≤ lo ∧ hi ≤ wc.heap.size
  oI : ∀ v lo hi, I = some (v, lo, hi) → OwI wc (fun k => lo ≤ k ∧ k < hi) v ids ∧ w.heap.size + 2 ≤ lo ∧ hi ≤ wc.heap.size
  xv : ∀ g h, X = some g → V = some h → ¬ g = h
  xg : ∀ g v lo hi, X = some g → G = some (v, lo, hi) → ¬ (lo ≤ g ∧ g < hi)
  xi : ∀ g v lo hi, X = some g → I = some (v, lo, hi) → ¬ (lo ≤ g ∧ g < hi)
  vg : ∀ g v lo hi, V = some g → G = some (v, lo, hi) → ¬ (lo ≤ g ∧ g < hi)
  vi : ∀ g v lo hi, V = some g → I = some (v, lo, hi) → ¬ (lo ≤ g ∧ g < hi)
  gi : ∀ v lo hi u l h, G = some (v, lo, hi) → I = some (u, l, h) → hi ≤ l ∨ h ≤ lo
section
variable {w wc wn : World} {RA : List Value} {zx : List Value} {gs ids : List Int} {X V : Option Nat} {G I : Option (Value × Nat × Nat)}
theorem Sc.below (h : Sc w wc RA zx gs ids X V G I) (hb : Below wc.heap.size wc wn) : Sc w wn RA zx gs ids X V G I :=
  ⟨h.ba.below hb, h.br.below hb, h.bel.trans (hb.mono h.bel.size), Nat.le_trans h.sz hb.size, fun g e => ⟨(h.oX g e).1.below hb, (h.oX g e).2⟩, fun g e => ⟨(h.oV g e).1.below hb, (h.oV g e).2⟩, fun v lo hi e => ⟨(h.oG v lo hi e).1.below hb, (h.oG v lo hi e).2.1, Nat.le_trans (h.oG v lo hi e).2.2 hb.size⟩, fun v lo hi e => ⟨(h.oI v lo hi e).1.below hb, (h.oI v lo hi e).2.1, Nat.le_trans (h.oI v lo hi e).2.2 hb.size⟩, h.xv, h.xg, h.xi, h.vg, h.vi, h.gi⟩
theorem Sc.init (ba : Wr wc w.heap.size 0 RA) (br : Wr wc (w.heap.size + 1) 0 zr5) (hB : Below w.heap.size w wc) (hS : w.heap.size + 2 ≤ wc.heap.size) : Sc w wc RA zx gs ids none none none none := by
  refine ⟨ba, br, hB, hS, ?_, ?_, ?_, ?_, ?_, ?_, ?_, ?_, ?_, ?_⟩
  all_goals (intros; simp_all)
theorem Sc.drew (h : Sc w wc RA zx gs ids X V G I) : Sc w wc.drew RA zx gs ids X V G I := h.below (Tm.below_drew wc)
theorem Sc.mkX (h : Sc w wc RA zx gs ids none V G I) {g : Nat} (h1 : wc.heap.size ≤ g) (hw : Wr wn g 0 zx) (hb : Below wc.heap.size wc wn) : Sc w wn RA zx gs ids (some g) V G I := by
  have k := h.below hb
  have hz := h.sz
  refine ⟨k.ba, k.br, k.bel, k.sz, fun q e => ?_, k.oV, k.oG, k.oI, fun q p e e' => ?_, fun q v lo hi e e' => ?_, fun q v lo hi e e' => ?_, k.vg, k.vi, k.gi⟩
  all_goals (cases e)
  · exact ⟨hw, by omega⟩
  · have := (h.oV p e').1.1; omega
  · have := (h.oG v lo hi e').2.2; omega
  · have := (h.oI v lo hi e').2.2; omega
theorem Sc.mkV (h : Sc w wc RA zx gs ids X none G I) {g : Nat} (h1 : wc.heap.size ≤ g) (hw : Wr wn g 0 zr5) (hb : Below wc.heap.size wc wn) : Sc w wn RA zx gs ids X (some g) G I := by
  have k := h.below hb
  have hz := h.sz
  refine ⟨k.ba, k.br, k.bel, k.sz, k.oX, fun q e => ?_, k.oG, k.oI, fun p q e' e => ?_, k.xg, k.xi, fun q v lo hi e e' => ?_, fun q v lo hi e e' => ?_, k.gi⟩
  all_goals (cases e)
  · exact ⟨hw, by omega⟩
  · have := (h.oX p e').1.1; omega
  · have := (h.oG v lo hi e').2.2; omega
  · have := (h.oI v lo hi e').2.2; omega
theorem Sc.mkG (h : Sc w wc RA zx gs ids X V none I) {v : Value} (hw : OwI wn (fun k => wc.heap.size ≤ k ∧ k < wn.heap.size) v gs) (hb : Below wc.heap.size wc wn) : Sc w wn RA zx gs ids X V (some (v, wc.heap.size, wn.heap.size)) I := by
  have k := h.below hb
  have hz := h.sz
  refine ⟨k.ba, k.br, k.bel, k.sz, k.oX, k.oV, fun v lo hi e => ?_, k.oI, k.xv, fun q v lo hi e' e => ?_, k.xi, fun q v lo hi e' e => ?_, k.vi, fun v lo hi u l h' e e' => ?_⟩
  all_goals (cases e)
  · exact ⟨hw, hz, Nat.le_refl _⟩
  · have := (h.oX q e').1.1; omega
  · have := (h.oV q e').1.1; omega
  · have := (h.oI u l h' e').2.2; omega
theorem Sc.mkI (h : Sc w wc RA zx gs ids X V G none) {v : Value} (hw : OwI wn (fun k => wc.heap.size ≤ k ∧ k < wn.heap.size) v ids) (hb : Below wc.heap.size wc wn) : Sc w wn RA zx gs ids X V G (some (v, wc.heap.size, wn.heap.size)) := by
  have k := h.below hb
  have hz := h.sz
  refine ⟨k.ba, k.br, k.bel, k.sz, k.oX, k.oV, k.oG, fun v lo hi e => ?_, k.xv, k.xg, fun q v lo hi e' e => ?_, k.vg, fun q v lo hi e' e => ?_, fun v lo hi u l h' e' e => ?_⟩
  all_goals (cases e)
  · exact ⟨hw, hz, Nat.le_refl _⟩
  · have := (h.oX q e').1.1; omega
  · have := (h.oV q e').1.1; omega
  · have := (h.oG v lo hi e').2.2; omega
theorem Sc.al (h : Sc w wc RA zx gs ids X none G I) : Sc w (wc.alloc (.cells #[.slice none 0 0, .slice none 0 0, .slice none 0 0, .int .i64 0, .int .i64 0] 27)).drew RA zx gs ids X (some wc.heap.size) G I :=
  Sc.drew (h.mkV (Nat.le_refl _) (wr_new wc zr5 27) ((Below.refl _ _).alloc (Nat.le_refl _) _))
theorem Sc.al0 (h : Sc w wc RA zx gs ids X none G I) : Sc w (wc.alloc (.cells #[.slice none 0 0, .slice none 0 0, .slice none 0 0, .int .i64 0, .int .i64 0] 27)) RA zx gs ids X (some wc.heap.size) G I :=
  h.mkV (Nat.le_refl _) (wr_new wc zr5 27) ((Below.refl _ _).alloc (Nat.le_refl _) _)
end
theorem Sc.ofSet {w wn : World} {bo gx lg hg li hi n : Nat} {vg vi : Value} {lv l2 : Int} {zx : List Value} {gs ids : List Int} {RA : List Value} (h : Sc w wn RA zx gs ids (some gx) (some bo) (some (vg, lg, hg)) (some (vi, li, hi))) :
    CM w (((((wn.setCell ⟨bo, 0, none⟩ (.slice (some ⟨gx, 0, none⟩) n n)).setCell ⟨bo, 1, none⟩ vg).setCell ⟨bo, 2, none⟩ vi).setCell ⟨bo, 3, none⟩ (.int .i64 lv)).setCell ⟨bo, 4, none⟩ (.int .i64 l2)) bo gx lg hg li hi vg vi n lv l2 zx gs ids RA := by
  obtain ⟨oV, geV⟩ := h.oV bo rfl
  obtain ⟨oX, geX⟩ := h.oX gx rfl
  obtain ⟨oG, geG, hl⟩ := h.oG vg lg hg rfl
  obtain ⟨oI, geI, hl'⟩ := h.oI vi li hi rfl
  have n2 := h.xv gx bo rfl rfl
  have m1 := h.xg gx vg lg hg rfl rfl
  have m2 := h.xi gx vi li hi rfl rfl
  have m3 := h.vg bo vg lg hg rfl rfl
  have m4 := h.vi bo vi li hi rfl rfl
  have m5 := h.gi vg lg hg vi li hi rfl rfl
  have hfr : ∀ (A : World) (o : Nat) (v : Value), Fr (fun k => k = bo) A (A.setCell ⟨bo, o, none⟩ v) := fun A o v => fr_grown (Li.grown_set A bo o v) rfl
  have hF : Fr (fun k => k = bo) wn (((((wn.setCell ⟨bo, 0, none⟩ (.slice (some ⟨gx, 0, none⟩) n n)).setCell ⟨bo, 1, none⟩ vg).setCell ⟨bo, 2, none⟩ vi).setCell ⟨bo, 3, none⟩ (.int .i64 lv)).setCell ⟨bo, 4, none⟩ (.int .i64 l2)) := by
    iterate 5 refine Fr.trans ?_ (hfr _ _ _)
    exact Fr.refl _ _
  refine ⟨?_, oX.fr hF (by omega), oG.fr hF (fun k hk e => by omega), oI.fr hF (fun k hk e => by omega), h.ba.fr hF (by omega), h.br.fr hF (by omega), ⟨geV, geX, geG, geI⟩, by omega, ⟨m3, m1, m4, m2⟩, m5, ⟨Nat.le_trans hl hF.size, Nat.le_trans hl' hF.size⟩, h.bel.trans (hF.bel (fun k hk => by omega) h.bel.size)⟩
  have h0 := oV.set 0 (by simp [zr5]) (.slice (some ⟨gx, 0, none⟩) n n)
  have h1 := h0.set 1 (by simp [zr5]) vg
  have h2 := h1.set 2 (by simp [zr5]) vi
  have h3 := h2.set 3 (by simp [zr5]) (.int .i64 lv)
  have h4 := h3.set 4 (by simp [zr5]) (.int .i64 l2)
  simpa [zr5] using h4
theorem Sc.ofNew {w wn : World} {gx lg hg li hi n : Nat} {vg vi : Value} {lv l2 : Int} {zx : List Value} {gs ids : List Int} {RA : List Value} (h : Sc w wn RA zx gs ids (some gx) none (some (vg, lg, hg)) (some (vi, li, hi))) :
    CM w (wn.alloc (.cells #[.slice (some ⟨gx, 0, none⟩) n n, vg, vi, .int .i64 lv, .int .i64 l2] 27)) wn.heap.size gx lg hg li hi vg vi n lv l2 zx gs ids RA := by
  obtain ⟨oX, geX⟩ := h.oX gx rfl
  obtain ⟨oG, geG, hl⟩ := h.oG vg lg hg rfl
  obtain ⟨oI, geI, hl'⟩ := h.oI vi li hi rfl
  have m1 := h.xg gx vg lg hg rfl rfl
  have m2 := h.xi gx vi li hi rfl rfl
  have m5 := h.gi vg lg hg vi li hi rfl rfl
  have h1 := oX.1
  have h3 := h.sz
  exact ⟨wr_new wn [.slice (some ⟨gx, 0, none⟩) n n, vg, vi, .int .i64 lv, .int .i64 l2] 27, oX.alloc _, oG.below ((Below.refl _ _).alloc (Nat.le_refl _) _), oI.below ((Below.refl _ _).alloc (Nat.le_refl _) _), h.ba.alloc _, h.br.alloc _, ⟨h3, geX, geG, geI⟩, by omega, ⟨by omega, m1, by omega, m2⟩, m5, ⟨by rw [Sv.size_alloc]; omega, by rw [Sv.size_alloc]; omega⟩, h.bel.alloc h.bel.size _⟩
section
variable {w wx wy : World} {bo gx lg hg li hi n : Nat} {vg vi : Value} {lv l2 : Int} {cx : List Value} {gs ids : List Int} {RA : List Value}
theorem CM.below (h : CM w wx bo gx lg hg li hi vg vi n lv l2 cx gs ids RA) (hb : Below wx.heap.size wx wy) : CM w wy bo gx lg hg li hi vg vi n lv l2 cx gs ids RA :=
  ⟨h.bv.below hb, h.ox.below hb, h.og.below hb, h.oi.below hb, h.ba.below hb, h.br.below hb, h.ge, h.ne, h.nl, h.gi, ⟨Nat.le_trans h.hl.1 hb.size, Nat.le_trans h.hl.2 hb.size⟩, h.bel.trans (hb.mono h.bel.size)⟩
theorem CM.setX {k : Nat} (h : CM w wx bo gx lg hg li hi vg vi n lv l2 cx gs ids RA) (hk : k < cx.length) (v : Value) : CM w (wx.setCell ⟨gx, k, none⟩ v) bo gx lg hg li hi vg vi n lv l2 (cx.set k v) gs ids RA := by
  obtain ⟨g1, g2, g3, g4⟩ := h.ge
  have n1 := h.ne
  obtain ⟨m1, m2, m3, m4⟩ := h.nl
  have hF : Fr (fun q => q = gx) wx (wx.setCell ⟨gx, k, none⟩ v) := fr_grown (Li.grown_set _ _ _ _) rfl
  refine ⟨h.bv.fr hF (by omega), ?_, h.og.fr hF (fun q hq e => by omega), h.oi.fr hF (fun q hq e => by omega), h.ba.fr hF (by omega), h.br.fr hF (by omega), h.ge, h.ne, h.nl, h.gi, ⟨Nat.le_trans h.hl.1 hF.size, Nat.le_trans h.hl.2 hF.size⟩, h.bel.trans (hF.bel (fun q e => by omega) h.bel.size)⟩
  have := h.ox.set k hk v
  rwa [Nat.zero_add] at this
end
theorem nestV_fr {w w1 : World} {lo k g : Nat} {V : Nat → Value} {bl : Nat → Nat} {cs : List Value} {xs : List (List Int)} (h : NestV w lo V bl cs xs k) (hf : Fr (fun q => q = g) w w1) (hg : g ≤ lo) : NestV w1 lo V bl cs xs k := by
  refine ⟨fun i hi hik => ?_, h.2⟩
  obtain ⟨h1, h2, h3, h4⟩ := h.1 i hi hik
  exact ⟨h1, h2.fr hf (fun q e => by omega), h3, Nat.lt_of_lt_of_le h4 hf.size⟩
theorem nestA_step {w : World} {lo g b k : Nat} {V : Nat → Value} {bl : Nat → Nat} {cs : List Value} {xs : List (List Int)} {u : Value} (h : NestV w lo V bl cs xs k) (hk : k < xs.length) (hcl : cs.length = xs.length) (hg : g ≤ lo)
    (ho : OwI w (fun q => q = b) u xs[k]) (hb : lo < b) (hb' : b < w.heap.size) (hlt : ∀ i, i < k → bl i < b) :
    NestV (w.setCell ⟨g, k, none⟩ u) lo (fun i => if i = k then u else V i) (fun i => if i = k then b else bl i) (cs.set k u) xs (k + 1) := by
  have hfr : Fr (fun q => q = g) w (w.setCell ⟨g, k, none⟩ u) := fr_grown (Li.grown_set _ _ _ _) rfl
  refine ⟨fun i hi hik => ?_, fun i j hij hjk => ?_⟩
  · by_cases e : i = k
    · subst e
      simp only [if_true]
      refine ⟨by simp [hcl, hk], ho.fr hfr (fun q e => by omega), hb, by simpa [World.setCell] using hb'⟩
    · obtain ⟨h1, h2, h3, h4⟩ := h.1 i hi (by omega)
      simp only [e, if_false]
      refine ⟨by rw [List.getElem?_set_ne (by omega)]; exact h1, h2.fr hfr (fun q e => by omega), h3, by simpa [World.setCell] using h4⟩
  · by_cases e : j = k
    · subst e
      simp only [show ¬ i = j by omega, if_false, if_true]
      exact hlt i hij
    · simp only [show ¬ i = k by omega, e, if_false]
      exact h.2 i j hij (by omega)
/-- A list that was just copied lies in one block. -/
theorem owi_one {w : World} {L H : Nat} {v : Value} {xs : List Int} (h : OwI w (fun k => L ≤ k ∧ k < H) v xs) (h0 : 0 < xs.length) : ∃ g, L ≤ g ∧ g < H ∧ OwI w (fun k => k = g) v xs := by
  obtain ⟨a, cap, e, h⟩ := h
  rcases h with h | ⟨g, off, ha, hb, hw⟩
  · rw [h] at h0; simp at h0
  · exact ⟨g, hb.1, hb.2, a, cap, e, .inr ⟨g, off, ha, rfl, hw⟩⟩
theorem nestA_own {w : World} {lo g n : Nat} {V : Nat → Value} {bl : Nat → Nat} {cs : List Value} {xs : List (List Int)} {B : Nat → Prop} (h : NestV w lo V bl cs xs xs.length) (hn : xs.length = n) (ho : Wr w g 0 cs) (hcl : cs.length = xs.length) (hg : g ≤ lo) (hB : B g) (hB' : ∀ k, lo < k → k < w.heap.size → B k) :
    OwV w B (.slice (some ⟨g, 0, none⟩) n n) xs := by
  subst hn
  refine ⟨_, xs.length, rfl, .inr ⟨g, 0, V, bl, rfl, hB, ho.1, fun j hj => ?_, fun j hj => ?_, fun i j hi hj hij => ?_⟩⟩
  · obtain ⟨h1, h2, _⟩ := h.1 j hj hj
    refine ⟨?_, h2⟩
    rw [(ho.2 j (by omega)).1, ← h1, List.getElem?_eq_getElem (by omega)]
  · obtain ⟨_, _, h3, h4⟩ := h.1 j hj hj
    exact ⟨hB' _ h3 h4, by omega⟩
  · rcases Nat.lt_or_gt_of_ne hij with h1 | h1
    · have := h.2 i j h1 hj; omega
    · have := h.2 j i h1 hi; omega
set_option maxRecDepth 100000 in
set_option maxHeartbeats 40000000 in
theorem icopy (w : World) (a0 a1 a2 : Option Addr) (c0 c1 c2 : Nat) (r : R) (h : Rd w a0 a1 a2 r) (hk : ROk r) :
    Calls Try.prog 26 #[.agg #[.slice a0 r.x.length c0, .slice a1 r.g.length c1, .slice a2 r.ids.length c2, .int .i64 r.lv, .int .i64 r.l2]] w fun e w' => ∃ v0 v1 v2, e = .returned (.agg #[v0, v1, v2, .int .i64 r.lv, .int .i64 r.l2]) ∧ OwR w' (fun k => w.heap.size ≤ k ∧ k < w'.heap.size) v0 v1 v2 r ∧ Below w.heap.size w w' := by
  go_enter Try.func26, Try.ntmps26
  have HK : Hid (ROk r) := hk
  have HS2 : Hid (r.g.length = r.x.length) := HK.out.1.2.1
  have HS3 : Hid (r.ids.length = r.x.length) := HK.out.1.2.2.1
  have hgn : r.g.length ≤ 40 := by rw [HS2.out]; exact HK.out.1.1
  have hin : r.ids.length ≤ 40 := by rw [HS3.out]; exact HK.out.1.1
  obtain ⟨zx, hzx, mkx0⟩ := mkVec r.x.length HK.out.1.1
  have mkx : Hid (type_of% mkx0) := mkx0
  have HZX : Hid (zx.length = r.x.length) := hzx
  clear mkx0 hzx hk
  go_wp2_with fail
  obtain ⟨W, hW, hS, hB, bx, br⟩ := new2 w [.slice a0 r.x.length c0, .slice a1 r.g.length c1, .slice a2 r.ids.length c2, .int .i64 r.lv, .int .i64 r.l2] [.slice none 0 0, .slice none 0 0, .slice none 0 0, .int .i64 0, .int .i64 0] 27 27
  rw [hW]
  replace hS : w.heap.size + 2 ≤ W.heap.size := Nat.le_of_eq hS.symm
  have st1 : Sc w W [.slice a0 r.x.length c0, .slice a1 r.g.length c1, .slice a2 r.ids.length c2, .int .i64 r.lv, .int .i64 r.l2] zx r.g r.ids none none none none := Sc.init bx br hB hS
  have st : Sc w W.drew [.slice a0 r.x.length c0, .slice a1 r.g.length c1, .slice a2 r.ids.length c2, .int .i64 r.lv, .int .i64 r.l2] zx r.g r.ids none none none none := Sc.drew (Sc.init bx br hB hS)
  obtain ⟨t0, t1, t2, t3, t4⟩ := c5 bx
  clear hW bx br hB hS
  go_cut [3] from 6 (fun s3 wx => ∃ bo gx lg hg li hi vg vi, s3 = .pointer (some ⟨bo, 0, none⟩) ∧ CM w wx bo gx lg hg li hi vg vi r.x.length r.lv r.l2 zx r.g r.ids [.slice a0 r.x.length c0, .slice a1 r.g.length c1, .slice a2 r.ids.length c2, .int .i64 r.lv, .int .i64 r.l2])
  case first =>
    go_region_held3 (fun w' => w'.cell? ⟨w.heap.size, 0, none⟩ = some (.slice a0 r.x.length c0) ∧ w'.cell? ⟨w.heap.size, 1, none⟩ = some (.slice a1 r.g.length c1) ∧ w'.cell? ⟨w.heap.size, 2, none⟩ = some (.slice a2 r.ids.length c2) ∧ w'.cell? ⟨w.heap.size, 3, none⟩ = some (.int .i64 r.lv) ∧ w'.cell? ⟨w.heap.size, 4, none⟩ = some (.int .i64 r.l2)) (first | (with_reducible exact ⟨t0, t1, t2, t3, t4⟩) | (with_reducible exact c5 st.al.ba) | (with_reducible exact c5 st.al0.ba) | (with_reducible exact c5 st1.al.ba) | (with_reducible exact c5 st.ofSet.ba) | (with_reducible exact c5 st.ofNew.ba) | go_keep) (first
      | (refine upon_make 24 r.x.length zx 50 mkx.out ?_; intro gX wX sX uX oX hb; (first | (with_reducible replace st := st.mkX sX oX hb) | (with_reducible replace st := st.al.mkX sX oX hb) | (with_reducible replace st := st.al0.mkX sX oX hb) | (with_reducible replace st := st1.al.mkX sX oX hb)); (first | clear t0 t1 t2 t3 t4 | skip); obtain ⟨t0, t1, t2, t3, t4⟩ := c5 st.ba; (first | (have kv := wr5 (st.oV _ rfl).1; obtain ⟨_, ⟨k0, k1, k2, k3, k4⟩, l0, l1, l2, l3, l4⟩ := kv) | skip); clear hb sX uX oX)
      | (go_at_call_of 48 c1; refine (cloneI _ a1 _ c1 r.g rfl (by first | (with_reducible exact rdG (h.below st.bel)) | (with_reducible exact rdG (h.below st.al.bel)) | (with_reducible exact rdG (h.below st.al0.bel)) | (with_reducible exact rdG (h.below st1.al.bel))) (by omega)).mono ?_; rintro e wG ⟨vg, rfl, oG, hb⟩; obtain ⟨ag, cg, rfl, _⟩ := oG.isl; (first | (with_reducible replace st := st.mkG oG hb) | (with_reducible replace st := st.al.mkG oG hb) | (with_reducible replace st := st.al0.mkG oG hb) | (with_reducible replace st := st1.al.mkG oG hb)); (first | clear t0 t1 t2 t3 t4 | skip); obtain ⟨t0, t1, t2, t3, t4⟩ := c5 st.ba; (first | (have kv := wr5 (st.oV _ rfl).1; obtain ⟨_, ⟨k0, k1, k2, k3, k4⟩, l0, l1, l2, l3, l4⟩ := kv) | skip); clear hb oG)
      | (go_at_call_of 48 c2; refine (cloneI _ a2 _ c2 r.ids rfl (by first | (with_reducible exact rdI (h.below st.bel)) | (with_reducible exact rdI (h.below st.al.bel)) | (with_reducible exact rdI (h.below st.al0.bel)) | (with_reducible exact rdI (h.below st1.al.bel))) (by omega)).mono ?_; rintro e wI ⟨vi, rfl, oI, hb⟩; obtain ⟨ai, ci, rfl, _⟩ := oI.isl; (first | (with_reducible replace st := st.mkI oI hb) | (with_reducible replace st := st.al.mkI oI hb) | (with_reducible replace st := st.al0.mkI oI hb) | (with_reducible replace st := st1.al.mkI oI hb)); (first | clear t0 t1 t2 t3 t4 | skip); obtain ⟨t0, t1, t2, t3, t4⟩ := c5 st.ba; (first | (have kv := wr5 (st.oV _ rfl).1; obtain ⟨_, ⟨k0, k1, k2, k3, k4⟩, l0, l1, l2, l3, l4⟩ := kv) | skip); clear hb oI))
    all_goals
      go_wp2_with fail
      go_meet
      case rel =>
        first
          | (with_reducible exact ⟨_, _, _, _, _, _, _, _, rfl, st.ofSet⟩)
          | (with_reducible exact ⟨_, _, _, _, _, _, _, _, rfl, st.ofNew⟩)
          | (with_reducible exact ⟨_, _, _, _, _, _, _, _, rfl, st1.ofNew⟩)
  case rest =>
    obtain ⟨bo, gx, lg, hg, li, hi, vg, vi, rfl, am⟩ := hcut
    clear st st1 t0 t1 t2 t3 t4 mkx
    have hl0 := am.hl
    have hl1 := am.bv.1
    have hl2 := am.ox.1
    obtain ⟨L, hL⟩ : ∃ L, wc.heap.size - 1 = L := ⟨_, rfl⟩
    have HL : Hid (wc.heap.size = L + 1) := by show _ = _; omega
    have q1 : bo ≤ L := by omega
    have q2 : gx ≤ L := by omega
    have q3 : hg ≤ L + 1 := by omega
    have q4 : hi ≤ L + 1 := by omega
    obtain ⟨ag, cg, rfl, _⟩ := am.og.isl
    obtain ⟨ai, ci, rfl, _⟩ := am.oi.isl
    obtain ⟨t0, t1, t2, t3, t4⟩ := c5 am.ba
    clear hL hl0 hl1 hl2
    go_wp2
    clear t0 t1 t2 t3 t4
    go_loopw [24] (fun i wr => ∃ k : Nat, k ≤ r.x.length ∧ i = .int .i64 k ∧ ∃ cx V bl, CM w wr bo gx lg hg li hi (.slice ag r.g.length cg) (.slice ai r.ids.length ci) r.x.length r.lv r.l2 cx r.g r.ids [.slice a0 r.x.length c0, .slice a1 r.g.length c1, .slice a2 r.ids.length c2, .int .i64 r.lv, .int .i64 r.l2] ∧ cx.length = r.x.length ∧ NestV wr L V bl cx r.x k ∧ L + 1 ≤ wr.heap.size) (fun i _ => r.x.length - (intOf i).toNat)
    case atStart => exact ⟨0, Nat.zero_le _, rfl, zx, fun _ => undef, fun _ => 0, am, HZX.out, ⟨fun i hi h => by omega, fun i j _ h => by omega⟩, Nat.le_of_eq HL.out.symm⟩
    case round =>
      obtain ⟨k, hk, rfl, cx, V, bl, am, hcl, hnest, hsz⟩ := hrel
      have HCL : Hid (cx.length = r.x.length) := hcl
      clear hcl
      by_cases hlt : k < r.x.length
      · obtain ⟨xb, xo, gb, go, ib, io, a', c', e0, e1, e2, ⟨hl0, hl1, hl2⟩, hx, hxl, _, _⟩ := rd_row (h.below am.bel) HS2.out HS3.out k hlt
        subst e0
        have hx6 := (HK.out.2 k hlt).1
        have HXK : Hid (r.x.getD k [] = r.x[k]) := by show _ = _; simp [List.getD_eq_getElem?_getD, hlt]
        have HX6 : Hid ((r.x.getD k []).length = 6) := hx6
        rw [hx6] at hx
        have hltx : (k : Int) < (r.x.length : Int) := by omega
        have HIA : Hid (IsL wr a' (r.x.getD k [])) := hxl
        clear e1 e2 hl1 hl2 hxl hx6
        go_wp2
        obtain ⟨W2, hW2, hsz2, hb2, bv2⟩ := new1 wr [.slice a' 6 c'] 50
        rw [hW2]
        have am2 := am.below hb2
        have nest2 := hnest.below hb2
        have HI2 : Hid (IsL W2 a' (r.x.getD k [])) := HIA.out.below hb2
        have hsz2' : L + 1 ≤ W2.heap.size := by omega
        have HM2 : Hid (type_of% am2) := am2
        have HN2 : Hid (type_of% nest2) := nest2
        have HV2 : Hid (type_of% bv2) := bv2
        obtain ⟨_, ⟨d0, d1, d2, d3, d4⟩, _⟩ := wr5 am2.bv
        obtain ⟨_, y0, _⟩ := wr1 bv2
        have hwg : gx < wr.heap.size := am.ox.1
        have ne1 := am.ne
        have nq1 : ¬ gx = bo := fun e => ne1 e.symm
        have nq2 : ¬ gx = wr.heap.size := by omega
        have nq3 : ¬ wr.heap.size = gx := by omega
        clear hW2 hsz2 hb2 bv2 am2 nest2 am hnest HIA hx d1 d2 d3 d4
        go_region_held3 (fun w' => w'.cell? ⟨bo, 0, none⟩ = some (.slice (some ⟨gx, 0, none⟩) r.x.length r.x.length) ∧ w'.cell? ⟨wr.heap.size, 0, none⟩ = some (.slice a' 6 c')) (go_keep) (first
          | (go_at_call 48; refine (cloneI W2.drew a' 6 c' (r.x.getD k []) HX6.out HI2.out (by omega)).mono ?_; rintro e w3 ⟨v, rfl, ov, hb⟩; have HB3 : Hid (Below W2.heap.size W2 w3) := (Tm.below_drew W2).trans hb; have hs3 : L + 1 ≤ w3.heap.size := (Nat.le_trans hsz2' HB3.out.size); obtain ⟨ak, ck, rfl, _⟩ := ov.isl; have HOV : Hid (type_of% ov) := ov; obtain ⟨_, ⟨g0, g1, g2, g3, g4⟩, _⟩ := wr5 (HM2.out.below HB3.out).bv; obtain ⟨_, u0, _⟩ := wr1 (HV2.out.below HB3.out); have hgx := (HM2.out.below HB3.out).ox.1; obtain ⟨z0, z1⟩ := (HM2.out.below HB3.out).ox.2 k (by rw [HCL.out]; exact hlt); rw [Nat.zero_add] at z0 z1; clear hb ov g1 g2 g3 g4))
        all_goals
          have am3 := HM2.out.below HB3.out
          have nest3 := HN2.out.below HB3.out
          obtain ⟨gk, hk1, hk2, ok⟩ := owi_one HOV.out (by rw [HX6.out]; omega)
          rw [HXK.out] at ok
          have hkW : W2.heap.size ≤ gk := hk1
          have am4 := am3.setX (k := k) (by rw [HCL.out]; exact hlt) (.slice ak r.x[k].length ck)
          have nest4 := nestA_step nest3 hlt HCL.out q2 ok (by omega) hk2 (fun i hi => by have := (HN2.out.1 i (by omega) hi).2.2.2; omega)
          obtain ⟨W4, hW4⟩ : ∃ W4, w3.setCell ⟨gx, k, none⟩ (.slice ak r.x[k].length ck) = W4 := ⟨_, rfl⟩
          have hs4 : L + 1 ≤ W4.heap.size := by rw [← hW4]; simpa [World.setCell] using hs3
          rw [hW4] at am4 nest4
          first | rw [hW4] | skip
          have HM4 : Hid (type_of% am4) := am4
          have HN4 : Hid (type_of% nest4) := nest4
          have HS4 : Hid (type_of% hs4) := hs4
          have HLT : Hid (k < r.x.length) := hlt
          have hx40 : r.x.length ≤ 40 := HK.out.1.1
          clear hW4 am4 nest4 am3 nest3 ok hk1 hk2 hkW hs3 hs4 HB3 HM2 HN2 HV2 HOV HI2 hsz2' u0 z0 z1 hgx d0 y0 g0
          go_wp2
          go_roundw
          case rel => exact ⟨k + 1, HLT.out, by go_num, _, _, _, HM4.out, by simpa using HCL.out, HN4.out, HS4.out⟩
          case measure => have := HLT.out; simp [intOf]; omega
      · obtain rfl : k = r.x.length := by omega
        obtain ⟨_, ⟨d0, d1, d2, d3, d4⟩, _⟩ := wr5 am.bv
        obtain ⟨_, ⟨e0, e1, e2, e3, e4⟩, f0, f1, f2, f3, f4⟩ := wr5 am.br
        have HM : Hid (type_of% am) := am
        have HN : Hid (type_of% hnest) := hnest
        have HLE : Hid (L + 1 ≤ wr.heap.size) := hsz
        clear am hnest hsz
        go_wp2
        refine bodyPost_ret (v := .agg #[.slice (some ⟨gx, 0, none⟩) r.x.length r.x.length, .slice ag r.g.length cg, .slice ai r.ids.length ci, .int .i64 r.lv, .int .i64 r.l2]) (by rw [Tm.results_cell rfl]; go_simp) rfl ⟨_, _, _, rfl, ?_, ?_⟩
        · have am := HM.out
          obtain ⟨g1, g2, g3, g4⟩ := am.ge
          have n1 := am.ne
          obtain ⟨m1, m2, m3, m4⟩ := am.nl
          have gi := am.gi
          have hfr : ∀ (A : World) (o : Nat) (v : Value), Fr (fun q => q = w.heap.size + 1) A (A.setCell ⟨w.heap.size + 1, o, none⟩ v) := fun A o v => fr_grown (Li.grown_set A _ o v) rfl
          have o0 : OwV wr (fun q => q = gx ∨ (L < q ∧ q < wr.heap.size)) (.slice (some ⟨gx, 0, none⟩) r.x.length r.x.length) r.x := nestA_own HN.out rfl am.ox HCL.out q2 (.inl rfl) (fun q h1 h2 => .inr ⟨h1, h2⟩)
          have hown : OwR wr (fun q => w.heap.size + 2 ≤ q ∧ q < wr.heap.size) (.slice (some ⟨gx, 0, none⟩) r.x.length r.x.length) (.slice ag r.g.length cg) (.slice ai r.ids.length ci) r := by
            have hx1 := am.ox.1
            have hx3 := am.hl
            refine ⟨_, _, _, o0, am.og, am.oi, fun q hq => ?_, fun q hq => ?_, fun q hq => ?_⟩
            · refine ⟨?_, ?_, ?_⟩
              · rcases hq with e | e <;> omega
              · intro e'; rcases hq with e | e <;> omega
              · intro e'; rcases hq with e | e <;> omega
            · exact ⟨by omega, fun e => by omega⟩
            · omega
          refine (hown.fr (B' := fun q => q = w.heap.size + 1) ?_ (fun q hq e => by omega)).mono (fun q hq => ⟨by omega, by simpa [World.setCell] using hq.2⟩)
          iterate 5 refine Fr.trans ?_ (hfr _ _ _)
          exact Fr.refl _ _
        · have hB := HM.out.bel
          iterate 5 refine Below.setCell ?_ (by simp; try omega) _
          exact hB
end Go.Proofs.Ytmfippeclkmhnaa.Sw7
