/-
  What the model draws for rows: the rows that are being put together, and what is done to them.
-/
import Derived.Test.YtmfippeclkmhnaaSeL
import Derived.Test.YtmfippeclkmhnaaCur
namespace Go.Proofs.Ytmfippeclkmhnaa.Dr
open Go.RowKit
open Go.Proofs.Ytmfippeclkmhnaa.Li (iv IsL)
open Go.Proofs.Ytmfippeclkmhnaa.Se Go.Proofs.Ytmfippeclkmhnaa.Sv
open Go.Proofs.Ytmfippeclkmhnaa.Sw7 (zr5' row_fr row_below)
set_option linter.unusedVariables false

theorem grown_new {w w1 w2 : World} {b : Nat} {r : Option Nat} (h : w.grownBy w1 (some b)) (h' : w1.grownBy w2 r) (hr : ∀ k, r = some k → w.heap.size ≤ k) : w.grownBy w2 (some b) :=
  ⟨h'.os.trans h.os, h'.tape.trans h.tape, h'.output.trans h.output, Nat.le_trans h.size h'.size, fun k hk hne => (h'.block k (Nat.lt_of_lt_of_le hk h.size) (fun e => by have := hr k e.symm; omega)).trans (h.block k hk hne)⟩
theorem cur_new {w w1 : World} {b : Nat} {K : Int} {r : Option Nat} (h : Cu.Cur w b K) (h' : w.grownBy w1 r) (hr : ∀ k, r = some k → b < k) : Cu.Cur w1 b K :=
  h.keptB h'.size (fun k hk => h'.block k (by have := h.lt; omega) (fun e => by have := hr k e.symm; omega))
/-- Rows that are being drawn: their variable in block bo, the result's in block w.heap.size, the cursor in block b. -/
structure DR (w wx : World) (b bo : Nat) (K : Int) (vx vg vi : Value) (lv l2 : Int) (cx : List Value) (xs : List (List Int)) (gs ids : List Int) : Prop where
  bv : Wr wx bo 0 [vx, vg, vi, .int .i64 lv, .int .i64 l2]
  br : Wr wx w.heap.size 0 zr5'
  lo : w.heap.size < bo ∧ bo < (bo + 1) ∧ b < w.heap.size
  ox : wx.ownsRow ((bo + 1)) 50 1 vx xs.length cx
  cl : cx.length = xs.length
  og : Li.Own wx ((bo + 1)) vg gs
  oi : Li.Own wx ((bo + 1)) vi ids
  gr : w.grownBy wx (some b)
  cu : Cu.Cur wx b K
  ap : ∀ q, vx.ownBlock = some q → ¬ vg.ownBlock = some q ∧ ¬ vi.ownBlock = some q
  ag : ∀ q, vg.ownBlock = some q → ¬ vi.ownBlock = some q
  nest : ∀ i (hi : i < cx.length) (hi' : i < xs.length), Li.Own wx ((bo + 1)) cx[i] xs[i] ∧ ∀ q, cx[i].ownBlock = some q → ¬ vx.ownBlock = some q ∧ ¬ vg.ownBlock = some q ∧ ¬ vi.ownBlock = some q
  inj : ∀ i j (hi : i < cx.length) (hj : j < cx.length), i ≠ j → ∀ q, cx[i].ownBlock = some q → ¬ cx[j].ownBlock = some q
section
variable {w wx wy : World} {b bo : Nat} {K K' : Int} {vx vg vi : Value} {lv l2 : Int} {cx : List Value} {xs : List (List Int)} {gs ids : List Int}
/-- What writes none of its blocks keeps it. -/
theorem DR.kept {B : Nat → Prop} (h : DR w wx b bo K vx vg vi lv l2 cx xs gs ids) (hF : Fr B wx wy) (hB : ∀ q, w.heap.size ≤ q → q < wx.heap.size → ¬ B q) (hg : w.grownBy wy (some b)) (hc : Cu.Cur wy b K') : DR w wy b bo K' vx vg vi lv l2 cx xs gs ids := by
  obtain ⟨l0, l1, l3⟩ := h.lo
  have hs := h.bv.1
  have hb : ∀ {base s n : Nat} {t : TypeId} {v : Value} {vs : List Value}, wx.ownsRow base t s v n vs → w.heap.size ≤ base → wy.ownsRow base t s v n vs := fun ho hle =>
    row_fr ho hF (fun q e => by have := World.ownsRow.lt ho q e; exact hB q (by omega) (by omega))
  exact ⟨h.bv.fr hF (hB _ (by omega) hs), h.br.fr hF (hB _ (by omega) (by omega)), h.lo, hb h.ox (by omega), h.cl, hb h.og (by omega), hb h.oi (by omega), hg, hc, h.ap, h.ag, fun i hi hi' => ⟨hb (h.nest i hi hi').1 (by omega), (h.nest i hi hi').2⟩, h.inj⟩
theorem DR.cur (h : DR w wx b bo K vx vg vi lv l2 cx xs gs ids) (hg : wx.grownBy wy (some b)) (hc : Cu.Cur wy b K') : DR w wy b bo K' vx vg vi lv l2 cx xs gs ids :=
  h.kept (B := fun q => q = b) (fr_grown hg rfl) (fun q h1 _ e => by have := h.lo.2.2; omega) (Cu.grown_trans h.gr hg) hc
theorem DR.below (h : DR w wx b bo K vx vg vi lv l2 cx xs gs ids) (hb : Below wx.heap.size wx wy) : DR w wy b bo K vx vg vi lv l2 cx xs gs ids :=
  h.kept (B := fun _ => False) ⟨hb.os, hb.tape, hb.output, hb.size, fun q hq _ => hb.block q hq⟩ (fun _ _ _ e => e) (grown_new (r := none) h.gr ⟨hb.os, hb.tape, hb.output, hb.size, fun q hq _ => hb.block q hq⟩ (fun k e => by cases e)) (h.cu.kept hb.size (fun k hk => hb.block k hk))
theorem DR.alloc (h : DR w wx b bo K vx vg vi lv l2 cx xs gs ids) (o : Obj) : DR w (wx.alloc o) b bo K vx vg vi lv l2 cx xs gs ids := h.below ((Below.refl _ _).alloc (Nat.le_refl _) _)
theorem DR.drew (h : DR w wx b bo K vx vg vi lv l2 cx xs gs ids) : DR w wx.drew b bo K vx vg vi lv l2 cx xs gs ids :=
  ⟨h.bv, h.br, h.lo, h.ox, h.cl, h.og, h.oi, Cu.grown_drew h.gr, h.cu.drew, h.ap, h.ag, h.nest, h.inj⟩
theorem DR.mono (h : DR w wx b bo K vx vg vi lv l2 cx xs gs ids) (hK : K ≤ K') : DR w wx b bo K' vx vg vi lv l2 cx xs gs ids :=
  ⟨h.bv, h.br, h.lo, h.ox, h.cl, h.og, h.oi, h.gr, h.cu.mono hK, h.ap, h.ag, h.nest, h.inj⟩
/-- A number of the rows' own is set. -/
theorem DR.set3 (h : DR w wx b bo K vx vg vi lv l2 cx xs gs ids) (x : Int) : DR w (wx.setCell ⟨bo, 3, none⟩ (.int .i64 x)) b bo K vx vg vi x l2 cx xs gs ids := by
  obtain ⟨l0, l1, l3⟩ := h.lo
  have hg := Li.grown_set wx bo 3 (.int .i64 x)
  have hF : Fr (fun q => q = bo) wx _ := fr_grown hg rfl
  have hb : ∀ {base s n : Nat} {t : TypeId} {v : Value} {vs : List Value}, wx.ownsRow base t s v n vs → (bo + 1) ≤ base → (wx.setCell ⟨bo, 3, none⟩ (.int .i64 x)).ownsRow base t s v n vs := fun ho hle =>
    row_fr ho hF (fun q e e' => by have := World.ownsRow.lt ho q e; omega)
  refine ⟨?_, h.br.fr hF (by omega), h.lo, hb h.ox (by omega), h.cl, hb h.og (by omega), hb h.oi (by omega), grown_new h.gr hg (fun k e => by cases e; omega), cur_new h.cu hg (fun k e => by cases e; omega), h.ap, h.ag, fun i hi hi' => ⟨hb (h.nest i hi hi').1 (by omega), (h.nest i hi hi').2⟩, h.inj⟩
  have := h.bv.set 3 (by simp) (.int .i64 x)
  simpa using this
theorem DR.set4 (h : DR w wx b bo K vx vg vi lv l2 cx xs gs ids) (x : Int) : DR w (wx.setCell ⟨bo, 4, none⟩ (.int .i64 x)) b bo K vx vg vi lv x cx xs gs ids := by
  obtain ⟨l0, l1, l3⟩ := h.lo
  have hg := Li.grown_set wx bo 4 (.int .i64 x)
  have hF : Fr (fun q => q = bo) wx _ := fr_grown hg rfl
  have hb : ∀ {base s n : Nat} {t : TypeId} {v : Value} {vs : List Value}, wx.ownsRow base t s v n vs → (bo + 1) ≤ base → (wx.setCell ⟨bo, 4, none⟩ (.int .i64 x)).ownsRow base t s v n vs := fun ho hle =>
    row_fr ho hF (fun q e e' => by have := World.ownsRow.lt ho q e; omega)
  refine ⟨?_, h.br.fr hF (by omega), h.lo, hb h.ox (by omega), h.cl, hb h.og (by omega), hb h.oi (by omega), grown_new h.gr hg (fun k e => by cases e; omega), cur_new h.cu hg (fun k e => by cases e; omega), h.ap, h.ag, fun i hi hi' => ⟨hb (h.nest i hi hi').1 (by omega), (h.nest i hi hi').2⟩, h.inj⟩
  have := h.bv.set 4 (by simp) (.int .i64 x)
  simpa using this
theorem fr_of {r : Option Nat} (hg : wx.grownBy wy r) : Fr (fun q => r = some q) wx wy := ⟨hg.os, hg.tape, hg.output, hg.size, fun q hq hn => hg.block q hq (fun e => hn e.symm)⟩
/-- A list grows, and is put into a variable below: what owns other blocks stays. -/
theorem fr2 {w3 : World} {r : Option Nat} {o j base s n : Nat} {nv v : Value} {t : TypeId} {vs : List Value} (ho : wx.ownsRow base t s v n vs) (hg : wx.grownBy w3 r) (hr : ∀ q, v.ownBlock = some q → ¬ r = some q) (hbo : o < base) : (w3.setCell ⟨o, j, none⟩ nv).ownsRow base t s v n vs :=
  row_fr (row_fr ho (fr_of hg) hr) (fr_grown (B := fun q => q = o) (Li.grown_set w3 o j nv) rfl) (fun q e e' => by have := World.ownsRow.lt ho q e; omega)
theorem fr1 {w3 : World} {o j base s n : Nat} {nv v : Value} {t : TypeId} {vs : List Value} (ho : w3.ownsRow base t s v n vs) (hbo : o < base) : (w3.setCell ⟨o, j, none⟩ nv).ownsRow base t s v n vs :=
  row_fr ho (fr_grown (B := fun q => q = o) (Li.grown_set w3 o j nv) rfl) (fun q e e' => by have := World.ownsRow.lt ho q e; omega)
/-- Ids put behind the Ids. -/
theorem DR.putI {w3 : World} {g n cap : Nat} {ys : List Int} (h : DR w wx b bo K vx vg vi lv l2 cx xs gs ids) (hown : Li.Own w3 ((bo + 1)) (.slice (some ⟨g, 0, none⟩) n cap) ys) (hg : wx.grownBy w3 vi.ownBlock) (hp : vi.ownBlock = some g ∨ wx.heap.size ≤ g) :
    DR w (w3.setCell ⟨bo, 2, none⟩ (.slice (some ⟨g, 0, none⟩) n cap)) b bo K vx vg (.slice (some ⟨g, 0, none⟩) n cap) lv l2 cx xs gs ys := by
  obtain ⟨l0, l1, l3⟩ := h.lo
  have hge := h.oi.ge
  have hF := fr_of hg
  have hnv : ∀ q, q < (bo + 1) → ¬ vi.ownBlock = some q := fun q hq e => by have := (hge q e).1; omega
  have hnew : ∀ {base s n : Nat} {t : TypeId} {v : Value} {vs : List Value}, wx.ownsRow base t s v n vs → (∀ q, v.ownBlock = some q → ¬ vi.ownBlock = some q) → ∀ q, v.ownBlock = some q → ¬ Value.ownBlock (.slice (some ⟨g, 0, none⟩) n cap) = some q := fun ho hd q e e' => by
    simp [Value.ownBlock] at e'
    subst e'
    rcases hp with e' | e'
    · exact hd g e e'
    · have := (World.ownsRow.lt ho g e).2; omega
  refine ⟨?_, (h.br.fr hF (hnv _ (by omega))).setOther (by omega), h.lo, fr2 h.ox hg (fun q e => (h.ap q e).2) (by omega), h.cl, fr2 h.og hg h.ag (by omega), fr1 hown (by omega),
    grown_new (grown_new h.gr hg (fun k e => by have := (hge k e).1; omega)) (Li.grown_set _ _ _ _) (fun k e => by cases e; omega), cur_new (cur_new h.cu hg (fun k e => by have := (hge k e).1; omega)) (Li.grown_set _ _ _ _) (fun k e => by cases e; omega),
    fun q e => ⟨(h.ap q e).1, hnew h.ox (fun q e => (h.ap q e).2) q e⟩, fun q e => hnew h.og h.ag q e, fun i hi hi' => ⟨fr2 (h.nest i hi hi').1 hg (fun q e => ((h.nest i hi hi').2 q e).2.2) (by omega), fun q e => ⟨((h.nest i hi hi').2 q e).1, ((h.nest i hi hi').2 q e).2.1, hnew (h.nest i hi hi').1 (fun q e => ((h.nest i hi hi').2 q e).2.2) q e⟩⟩, h.inj⟩
  have := (h.bv.fr hF (hnv _ (by omega))).set 2 (by simp) (.slice (some ⟨g, 0, none⟩) n cap)
  simpa using this
/-- Gradients put behind the gradients. -/
theorem DR.putG {w3 : World} {g n cap : Nat} {ys : List Int} (h : DR w wx b bo K vx vg vi lv l2 cx xs gs ids) (hown : Li.Own w3 ((bo + 1)) (.slice (some ⟨g, 0, none⟩) n cap) ys) (hg : wx.grownBy w3 vg.ownBlock) (hp : vg.ownBlock = some g ∨ wx.heap.size ≤ g) :
    DR w (w3.setCell ⟨bo, 1, none⟩ (.slice (some ⟨g, 0, none⟩) n cap)) b bo K vx (.slice (some ⟨g, 0, none⟩) n cap) vi lv l2 cx xs ys ids := by
  obtain ⟨l0, l1, l3⟩ := h.lo
  have hge := h.og.ge
  have hF := fr_of hg
  have hnv : ∀ q, q < (bo + 1) → ¬ vg.ownBlock = some q := fun q hq e => by have := (hge q e).1; omega
  have hnew : ∀ {base s n : Nat} {t : TypeId} {v : Value} {vs : List Value}, wx.ownsRow base t s v n vs → (∀ q, v.ownBlock = some q → ¬ vg.ownBlock = some q) → ∀ q, v.ownBlock = some q → ¬ Value.ownBlock (.slice (some ⟨g, 0, none⟩) n cap) = some q := fun ho hd q e e' => by
    simp [Value.ownBlock] at e'
    subst e'
    rcases hp with e' | e'
    · exact hd g e e'
    · have := (World.ownsRow.lt ho g e).2; omega
  have hig : ∀ q, vi.ownBlock = some q → ¬ vg.ownBlock = some q := fun q e e' => h.ag q e' e
  refine ⟨?_, (h.br.fr hF (hnv _ (by omega))).setOther (by omega), h.lo, fr2 h.ox hg (fun q e => (h.ap q e).1) (by omega), h.cl, fr1 hown (by omega), fr2 h.oi hg hig (by omega),
    grown_new (grown_new h.gr hg (fun k e => by have := (hge k e).1; omega)) (Li.grown_set _ _ _ _) (fun k e => by cases e; omega), cur_new (cur_new h.cu hg (fun k e => by have := (hge k e).1; omega)) (Li.grown_set _ _ _ _) (fun k e => by cases e; omega),
    fun q e => ⟨hnew h.ox (fun q e => (h.ap q e).1) q e, (h.ap q e).2⟩, fun q e e' => hnew h.oi hig q e' e, fun i hi hi' => ⟨fr2 (h.nest i hi hi').1 hg (fun q e => ((h.nest i hi hi').2 q e).2.1) (by omega), fun q e => ⟨((h.nest i hi hi').2 q e).1, hnew (h.nest i hi hi').1 (fun q e => ((h.nest i hi hi').2 q e).2.1) q e, ((h.nest i hi hi').2 q e).2.2⟩⟩, h.inj⟩
  have := (h.bv.fr hF (hnv _ (by omega))).set 1 (by simp) (.slice (some ⟨g, 0, none⟩) n cap)
  simpa using this
/-- A row of numbers put behind the rows: what it owns lies apart from all else. -/
theorem DR.putX {w3 : World} {g n cap : Nat} {v1 : Value} {x1 : List Int} (h : DR w wx b bo K vx vg vi lv l2 cx xs gs ids) (o1 : Li.Own wx ((bo + 1)) v1 x1) (h1 : ∀ q, v1.ownBlock = some q → ¬ vx.ownBlock = some q ∧ ¬ vg.ownBlock = some q ∧ ¬ vi.ownBlock = some q ∧ ∀ i (hi : i < cx.length), ¬ cx[i].ownBlock = some q)
    (hown : w3.ownsRow ((bo + 1)) 50 1 (.slice (some ⟨g, 0, none⟩) n cap) (xs.length + 1) (cx ++ [v1])) (hg : wx.grownBy w3 vx.ownBlock) (hp : vx.ownBlock = some g ∨ wx.heap.size ≤ g) :
    DR w (w3.setCell ⟨bo, 0, none⟩ (.slice (some ⟨g, 0, none⟩) n cap)) b bo K (.slice (some ⟨g, 0, none⟩) n cap) vg vi lv l2 (cx ++ [v1]) (xs ++ [x1]) gs ids := by
  obtain ⟨l0, l1, l3⟩ := h.lo
  have hge := World.ownsRow.lt h.ox
  have hF := fr_of hg
  have hcl := h.cl
  have hnv : ∀ q, q < (bo + 1) → ¬ vx.ownBlock = some q := fun q hq e => by have := (hge q e).1; omega
  have hnew : ∀ {base s n : Nat} {t : TypeId} {v : Value} {vs : List Value}, wx.ownsRow base t s v n vs → (∀ q, v.ownBlock = some q → ¬ vx.ownBlock = some q) → ∀ q, v.ownBlock = some q → ¬ Value.ownBlock (.slice (some ⟨g, 0, none⟩) n cap) = some q := fun ho hd q e e' => by
    simp [Value.ownBlock] at e'
    subst e'
    rcases hp with e' | e'
    · exact hd g e e'
    · have := (World.ownsRow.lt ho g e).2; omega
  have hgx : ∀ q, vg.ownBlock = some q → ¬ vx.ownBlock = some q := fun q e e' => (h.ap q e').1 e
  have hix : ∀ q, vi.ownBlock = some q → ¬ vx.ownBlock = some q := fun q e e' => (h.ap q e').2 e
  refine ⟨?_, (h.br.fr hF (hnv _ (by omega))).setOther (by omega), h.lo, by rw [List.length_append]; exact fr1 hown (by omega), by simp [hcl], fr2 h.og hg hgx (by omega), fr2 h.oi hg hix (by omega),
    grown_new (grown_new h.gr hg (fun k e => by have := (hge k e).1; omega)) (Li.grown_set _ _ _ _) (fun k e => by cases e; omega), cur_new (cur_new h.cu hg (fun k e => by have := (hge k e).1; omega)) (Li.grown_set _ _ _ _) (fun k e => by cases e; omega),
    fun q e => ⟨fun e' => hnew h.og hgx q e' e, fun e' => hnew h.oi hix q e' e⟩, h.ag, fun i hi hi' => ?_, fun i j hi hj hij q => ?_⟩
  · have := (h.bv.fr hF (hnv _ (by omega))).set 0 (by simp) (.slice (some ⟨g, 0, none⟩) n cap)
    simpa using this
  · by_cases e : i < cx.length
    · obtain ⟨n1, n2⟩ := h.nest i e (by omega)
      rw [List.getElem_append_left e, List.getElem_append_left (by omega)]
      exact ⟨fr2 n1 hg (fun q e => (n2 q e).1) (by omega), fun q e => ⟨hnew n1 (fun q e => (n2 q e).1) q e, (n2 q e).2⟩⟩
    · have e2 : i = cx.length := by simp at hi; omega
      subst e2
      have ex : (xs ++ [x1])[cx.length] = x1 := by simp [hcl]
      have ec : (cx ++ [v1])[cx.length] = v1 := by simp
      rw [ex, ec]
      exact ⟨fr2 o1 hg (fun q e => (h1 q e).1) (by omega), fun q e => ⟨hnew o1 (fun q e => (h1 q e).1) q e, (h1 q e).2.1, (h1 q e).2.2.1⟩⟩
  · by_cases e : i < cx.length
    · rw [List.getElem_append_left e]
      by_cases e' : j < cx.length
      · rw [List.getElem_append_left e']
        exact h.inj i j e e' hij q
      · have e2 : j = cx.length := by simp at hj; omega
        subst e2
        rw [show (cx ++ [v1])[cx.length] = v1 by simp]
        exact fun h2 h3 => (h1 q h3).2.2.2 i e h2
    · have e2 : i = cx.length := by simp at hi; omega
      subst e2
      rw [show (cx ++ [v1])[cx.length] = v1 by simp, List.getElem_append_left (show j < cx.length by simp at hj; omega)]
      exact fun h2 h3 => (h1 q h2).2.2.2 j (by simp at hj; omega) h3
/-- A gradient is set. -/
theorem DR.setG {g n c : Nat} (h : DR w wx b bo K vx (.slice (some ⟨g, 0, none⟩) n c) vi lv l2 cx xs gs ids) (hn : gs.length = n) (x : Int) :
    DR w (wx.setCell ⟨g, 0, none⟩ (.int .i64 x)) b bo K vx (.slice (some ⟨g, 0, none⟩) n c) vi lv l2 cx xs (gs.set 0 x) ids := by
  obtain ⟨l0, l1, l3⟩ := h.lo
  have hge := h.og.ge g rfl
  have hg := Li.grown_set wx g 0 (.int .i64 x)
  have hF := fr_of hg
  have hb : ∀ {base s n : Nat} {t : TypeId} {v : Value} {vs : List Value}, wx.ownsRow base t s v n vs → (∀ q, v.ownBlock = some q → ¬ q = g) → (wx.setCell ⟨g, 0, none⟩ (.int .i64 x)).ownsRow base t s v n vs := fun ho hd =>
    row_fr ho hF (fun q e e' => by simp at e'; exact hd q e e'.symm)
  exact ⟨h.bv.setOther (by omega), h.br.setOther (by omega), h.lo, hb h.ox (fun q e e' => (h.ap q e).1 (by rw [e']; rfl)), h.cl, h.og.set hn 0 x, hb h.oi (fun q e e' => h.ag q (by rw [e']; rfl) e),
    grown_new h.gr hg (fun k e => by cases e; omega), cur_new h.cu hg (fun k e => by cases e; omega), h.ap, h.ag, fun i hi hi' => ⟨hb (h.nest i hi hi').1 (fun q e e' => ((h.nest i hi hi').2 q e).2.1 (by rw [e']; rfl)), (h.nest i hi hi').2⟩, h.inj⟩
/-- The first row of numbers grows, and is put back. -/
theorem DR.setX {w3 : World} {gx m c g n cap : Nat} {ys : List Int} (h : DR w wx b bo K (.slice (some ⟨gx, 0, none⟩) m c) vg vi lv l2 cx xs gs ids) (hm : xs.length = m) (h0 : 0 < cx.length) (hown : Li.Own w3 ((bo + 1)) (.slice (some ⟨g, 0, none⟩) n cap) ys) (hg : wx.grownBy w3 cx[0].ownBlock) (hp : cx[0].ownBlock = some g ∨ wx.heap.size ≤ g) :
    DR w (w3.setCell ⟨gx, 0, none⟩ (.slice (some ⟨g, 0, none⟩) n cap)) b bo K (.slice (some ⟨gx, 0, none⟩) m c) vg vi lv l2 (cx.set 0 (.slice (some ⟨g, 0, none⟩) n cap)) (xs.set 0 ys) gs ids := by
  obtain ⟨l0, l1, l3⟩ := h.lo
  have hcl := h.cl
  obtain ⟨o0, a0⟩ := h.nest 0 h0 (by omega)
  have hge := o0.ge
  have hgx := World.ownsRow.lt h.ox gx rfl
  have hF := fr_of hg
  have hg2 := Li.grown_set w3 gx 0 (.slice (some ⟨g, 0, none⟩) n cap)
  have hF2 := fr_of hg2
  have hnv : ∀ q, q < (bo + 1) → ¬ cx[0].ownBlock = some q := fun q hq e => by have := (hge q e).1; omega
  have hb : ∀ {base s n' : Nat} {t : TypeId} {v : Value} {vs : List Value}, wx.ownsRow base t s v n' vs → (∀ q, v.ownBlock = some q → ¬ cx[0].ownBlock = some q) → (∀ q, v.ownBlock = some q → ¬ q = gx) → (w3.setCell ⟨gx, 0, none⟩ (.slice (some ⟨g, 0, none⟩) n cap)).ownsRow base t s v n' vs := fun ho h1 h2 =>
    row_fr (row_fr ho hF h1) hF2 (fun q e e' => by simp at e'; exact h2 q e e'.symm)
  have hnew : ∀ {base s n' : Nat} {t : TypeId} {v : Value} {vs : List Value}, wx.ownsRow base t s v n' vs → (∀ q, v.ownBlock = some q → ¬ cx[0].ownBlock = some q) → ¬ v.ownBlock = some g := fun ho hd e => by
    rcases hp with e' | e'
    · exact hd g e e'
    · have := (World.ownsRow.lt ho g e).2; omega
  have xg : ∀ q, vg.ownBlock = some q → ¬ q = gx := fun q e e' => (h.ap gx rfl).1 (by rw [← e']; exact e)
  have xi : ∀ q, vi.ownBlock = some q → ¬ q = gx := fun q e e' => (h.ap gx rfl).2 (by rw [← e']; exact e)
  have gg : ∀ q, vg.ownBlock = some q → ¬ cx[0].ownBlock = some q := fun q e e' => (a0 q e').2.1 e
  have gi : ∀ q, vi.ownBlock = some q → ¬ cx[0].ownBlock = some q := fun q e e' => (a0 q e').2.2 e
  have gxx : ∀ q, Value.ownBlock (.slice (some ⟨gx, 0, none⟩) m c) = some q → ¬ cx[0].ownBlock = some q := fun q e e' => (a0 q e').1 e
  have hgne : ¬ g = gx := by
    rcases hp with e | e
    · exact fun e' => (a0 g e).1 (by rw [e']; rfl)
    · omega
  refine ⟨(h.bv.fr hF (hnv _ (by omega))).setOther (by omega), (h.br.fr hF (hnv _ (by omega))).setOther (by omega), h.lo, ?_, by simp [hcl], hb h.og gg xg, hb h.oi gi xi,
    grown_new (grown_new h.gr hg (fun k e => by have := (hge k e).1; omega)) hg2 (fun k e => by cases e; omega), cur_new (cur_new h.cu hg (fun k e => by have := (hge k e).1; omega)) hg2 (fun k e => by cases e; omega),
    h.ap, h.ag, fun i hi hi' => ?_, fun i j hi hj hij q => ?_⟩
  · rw [List.length_set]
    have hox := row_fr h.ox hF gxx
    rw [hm] at hox ⊢
    exact (World.ownsRow.stored hox 0 _).1
  · rw [List.length_set] at hi hi'
    by_cases e : i = 0
    · subst e
      simp only [List.getElem_set_self]
      refine ⟨row_fr hown hF2 (fun q e e' => by simp [Value.ownBlock] at e e'; omega), fun q e => ?_⟩
      simp only [Value.ownBlock, Option.some.injEq] at e
      subst e
      exact ⟨hnew h.ox gxx, hnew h.og gg, hnew h.oi gi⟩
    · rw [List.getElem_set_ne (by omega), List.getElem_set_ne (by omega)]
      obtain ⟨n1, n2⟩ := h.nest i hi hi'
      exact ⟨hb n1 (fun q e' => h.inj i 0 hi h0 e q e') (fun q e1 e2 => (n2 q e1).1 (by rw [e2]; rfl)), n2⟩
  · rw [List.length_set] at hi hj
    by_cases e : i = 0
    · subst e
      rw [List.getElem_set_self, List.getElem_set_ne (by omega)]
      obtain ⟨n1, n2⟩ := h.nest j hj (by omega)
      intro h1
      simp only [Value.ownBlock, Option.some.injEq] at h1
      subst h1
      exact hnew n1 (fun q e' => h.inj j 0 hj h0 (by omega) q e')
    · rw [List.getElem_set_ne (by omega)]
      by_cases e' : j = 0
      · subst e'
        rw [List.getElem_set_self]
        obtain ⟨n1, n2⟩ := h.nest i hi (by omega)
        intro h1 h2
        simp only [Value.ownBlock, Option.some.injEq] at h2
        subst h2
        exact hnew n1 (fun q e' => h.inj i 0 hi h0 e q e') h1
      · rw [List.getElem_set_ne (by omega)]
        exact h.inj i j hi hj hij q
/-- The rows as they are read. -/
theorem DR.rd (h : DR w wx b bo K vx vg vi lv l2 cx xs gs ids) (lv' l2' : Int) : ∃ a0 c0 a1 c1 a2 c2, vx = .slice a0 xs.length c0 ∧ vg = .slice a1 gs.length c1 ∧ vi = .slice a2 ids.length c2 ∧ Rd wx a0 a1 a2 ⟨xs, gs, ids, lv', l2'⟩ := by
  have hcl := h.cl
  obtain ⟨a1, c1, e1, i1⟩ := h.og.isl
  obtain ⟨a2, c2, e2, i2⟩ := h.oi.isl
  have ho := h.ox
  rcases h.ox.2 with ⟨e, h0⟩ | ⟨g, cap, cur, e, hb, hh, r⟩
  · obtain rfl := List.length_eq_zero_iff.1 h0
    exact ⟨none, 0, a1, c1, a2, c2, e, e1, e2, .inl rfl, i1, i2⟩
  · subst e
    refine ⟨_, cap, a1, c1, a2, c2, rfl, e1, e2, .inr ⟨g, 0, rfl, (World.ownsRow.lt ho g rfl).2, fun j hj => ?_⟩, i1, i2⟩
    replace hj : j < xs.length := hj
    obtain ⟨n1, _⟩ := h.nest j (by omega) hj
    obtain ⟨a', c', e', i'⟩ := n1.isl
    exact ⟨a', c', by rw [Nat.zero_add, World.ownsRow.cellAt ho j (by omega), List.getElem?_eq_getElem (by omega), e'], i'⟩
/-- They are put into the result's variable. -/
theorem DR.done (h : DR w wx b bo K vx vg vi lv l2 cx xs gs ids) (u0 u1 u2 u3 u4 : Value) :
    DR w wx b bo K vx vg vi lv l2 cx xs gs ids ∧ w.grownBy (((((wx.setCell ⟨w.heap.size, 0, none⟩ u0).setCell ⟨w.heap.size, 1, none⟩ u1).setCell ⟨w.heap.size, 2, none⟩ u2).setCell ⟨w.heap.size, 3, none⟩ u3).setCell ⟨w.heap.size, 4, none⟩ u4) (some b)
      ∧ Cu.Cur (((((wx.setCell ⟨w.heap.size, 0, none⟩ u0).setCell ⟨w.heap.size, 1, none⟩ u1).setCell ⟨w.heap.size, 2, none⟩ u2).setCell ⟨w.heap.size, 3, none⟩ u3).setCell ⟨w.heap.size, 4, none⟩ u4) b K
      ∧ ∃ a0 c0 a1 c1 a2 c2, vx = .slice a0 xs.length c0 ∧ vg = .slice a1 gs.length c1 ∧ vi = .slice a2 ids.length c2 ∧ Rd (((((wx.setCell ⟨w.heap.size, 0, none⟩ u0).setCell ⟨w.heap.size, 1, none⟩ u1).setCell ⟨w.heap.size, 2, none⟩ u2).setCell ⟨w.heap.size, 3, none⟩ u3).setCell ⟨w.heap.size, 4, none⟩ u4) a0 a1 a2 ⟨xs, gs, ids, lv, l2⟩ := by
  have l3 := h.lo.2.2
  have l4 := h.lo.1
  have g0 := Li.grown_set wx w.heap.size 0 u0
  have g1 := Cu.grown_set g0 1 u1
  have g2 := Cu.grown_set g1 2 u2
  have g3 := Cu.grown_set g2 3 u3
  have g4 := Cu.grown_set g3 4 u4
  refine ⟨h, grown_new h.gr g4 (fun k e => by cases e; omega), cur_new h.cu g4 (fun k e => by cases e; omega), ?_⟩
  have hF := fr_of g4
  have hb : ∀ {base s n : Nat} {t : TypeId} {v : Value} {vs : List Value}, wx.ownsRow base t s v n vs → w.heap.size < base → World.ownsRow _ base t s v n vs := fun ho hle =>
    row_fr ho hF (fun q e e' => by have := World.ownsRow.lt ho q e; simp at e'; omega)
  have hcl := h.cl
  obtain ⟨a1, c1, e1, i1⟩ := Li.Own.isl (hb h.og (by omega))
  obtain ⟨a2, c2, e2, i2⟩ := Li.Own.isl (hb h.oi (by omega))
  have ho := hb h.ox (by omega)
  rcases h.ox.2 with ⟨e, h0⟩ | ⟨g, cap, cur, e, hb', hh, r⟩
  · obtain rfl := List.length_eq_zero_iff.1 h0
    exact ⟨none, 0, a1, c1, a2, c2, e, e1, e2, .inl rfl, i1, i2⟩
  · subst e
    refine ⟨_, cap, a1, c1, a2, c2, rfl, e1, e2, .inr ⟨g, 0, rfl, (World.ownsRow.lt ho g rfl).2, fun j hj => ?_⟩, i1, i2⟩
    replace hj : j < xs.length := hj
    obtain ⟨n1, _⟩ := h.nest j (by omega) hj
    obtain ⟨a', c', e', i'⟩ := Li.Own.isl (hb n1 (by omega))
    exact ⟨a', c', by rw [Nat.zero_add, World.ownsRow.cellAt ho j (by omega), List.getElem?_eq_getElem (by omega), e'], i'⟩
/-- Rows that are handed on: what is owned, and that it lies apart. -/
structure DQ (wx : World) (n0 : Nat) (vx vg vi : Value) (cx : List Value) (xs : List (List Int)) (gs ids : List Int) : Prop where
  ox : wx.ownsRow n0 50 1 vx xs.length cx
  cl : cx.length = xs.length
  og : Li.Own wx n0 vg gs
  oi : Li.Own wx n0 vi ids
  ap : ∀ q, vx.ownBlock = some q → ¬ vi.ownBlock = some q
  ag : ∀ q, vg.ownBlock = some q → ¬ vi.ownBlock = some q
  nest : ∀ i (hi : i < cx.length) (hi' : i < xs.length), Li.Own wx n0 cx[i] xs[i] ∧ ∀ q, cx[i].ownBlock = some q → ¬ vi.ownBlock = some q
theorem DQ.fr {n0 : Nat} {B : Nat → Prop} (h : DQ wx n0 vx vg vi cx xs gs ids) (hF : Fr B wx wy) (hB : ∀ q, B q → q < n0 ∨ wx.heap.size ≤ q) : DQ wy n0 vx vg vi cx xs gs ids := by
  have hb : ∀ {s n : Nat} {t : TypeId} {v : Value} {vs : List Value}, wx.ownsRow n0 t s v n vs → wy.ownsRow n0 t s v n vs := fun ho =>
    row_fr ho hF (fun q e e' => by have := World.ownsRow.lt ho q e; have := hB q e'; omega)
  exact ⟨hb h.ox, h.cl, hb h.og, hb h.oi, h.ap, h.ag, fun i hi hi' => ⟨hb (h.nest i hi hi').1, (h.nest i hi hi').2⟩⟩
theorem DQ.below {n0 : Nat} (h : DQ wx n0 vx vg vi cx xs gs ids) (hb : Below wx.heap.size wx wy) : DQ wy n0 vx vg vi cx xs gs ids := h.fr (fr_below (B := fun _ => False) hb) (fun _ e => e.elim)
/-- One of the ids is set. -/
theorem DQ.setI {n0 g n c : Nat} (h : DQ wx n0 vx vg (.slice (some ⟨g, 0, none⟩) n c) cx xs gs ids) (hn : ids.length = n) (j : Nat) (x : Int) : DQ (wx.setCell ⟨g, j, none⟩ (.int .i64 x)) n0 vx vg (.slice (some ⟨g, 0, none⟩) n c) cx xs gs (ids.set j x) := by
  have hF : Fr (fun q => q = g) wx (wx.setCell ⟨g, j, none⟩ (.int .i64 x)) := fr_grown (Li.grown_set wx g j (.int .i64 x)) rfl
  have e : ∀ q, Value.ownBlock (.slice (some ⟨g, 0, none⟩) n c) = some q → q = g := fun q e => by simp [Value.ownBlock] at e; exact e.symm
  exact ⟨row_fr h.ox hF (fun q e1 e2 => h.ap q e1 (by rw [e2]; rfl)), h.cl, row_fr h.og hF (fun q e1 e2 => h.ag q e1 (by rw [e2]; rfl)), h.oi.set hn j x, h.ap, h.ag, fun i hi hi' => ⟨row_fr (h.nest i hi hi').1 hF (fun q e1 e2 => (h.nest i hi hi').2 q e1 (by rw [e2]; rfl)), (h.nest i hi hi').2⟩⟩
theorem DQ.rd {n0 : Nat} (h : DQ wx n0 vx vg vi cx xs gs ids) (lv' l2' : Int) : ∃ a0 c0 a1 c1 a2 c2, vx = .slice a0 xs.length c0 ∧ vg = .slice a1 gs.length c1 ∧ vi = .slice a2 ids.length c2 ∧ Rd wx a0 a1 a2 ⟨xs, gs, ids, lv', l2'⟩ := by
  have hcl := h.cl
  obtain ⟨a1, c1, e1, i1⟩ := h.og.isl
  obtain ⟨a2, c2, e2, i2⟩ := h.oi.isl
  have ho := h.ox
  rcases h.ox.2 with ⟨e, h0⟩ | ⟨g, cap, cur, e, hb, hh, r⟩
  · obtain rfl := List.length_eq_zero_iff.1 h0
    exact ⟨none, 0, a1, c1, a2, c2, e, e1, e2, .inl rfl, i1, i2⟩
  · subst e
    refine ⟨_, cap, a1, c1, a2, c2, rfl, e1, e2, .inr ⟨g, 0, rfl, (World.ownsRow.lt ho g rfl).2, fun j hj => ?_⟩, i1, i2⟩
    replace hj : j < xs.length := hj
    obtain ⟨n1, _⟩ := h.nest j (by omega) hj
    obtain ⟨a', c', e', i'⟩ := n1.isl
    exact ⟨a', c', by rw [Nat.zero_add, World.ownsRow.cellAt ho j (by omega), List.getElem?_eq_getElem (by omega), e'], i'⟩
theorem DR.dq (h : DR w wx b bo K vx vg vi lv l2 cx xs gs ids) : DQ wx (bo + 1) vx vg vi cx xs gs ids :=
  ⟨h.ox, h.cl, h.og, h.oi, fun q e => (h.ap q e).2, h.ag, fun i hi hi' => ⟨(h.nest i hi hi').1, fun q e => ((h.nest i hi hi').2 q e).2.2⟩⟩
end
end Go.Proofs.Ytmfippeclkmhnaa.Dr
