/-
  What the model draws for rows.
-/
import Derived.Test.YtmfippeclkmhnaaDrawRo
import Derived.Test.YtmfippeclkmhnaaOgn
import Derived.Test.YtmfippeclkmhnaaSiza
import Derived.Test.YtmfippeclkmhnaaSnI
import Derived.Test.YtmfippeclkmhnaaHeldE
import Derived.Test.YtmfippeclkmhnaaApI
namespace Go.Proofs.Ytmfippeclkmhnaa.Dr
open Go.RowKit
open Go.Proofs.Ytmfippeclkmhnaa.Li (iv IsL Own)
open Go.Proofs.Ytmfippeclkmhnaa.Se Go.Proofs.Ytmfippeclkmhnaa.Sv
open Go.Proofs.Ytmfippeclkmhnaa.Sw7 (zr5' row_fr row_below)
set_option linter.unusedVariables false
set_option maxRecDepth 100000
theorem kept {w w' : World} {b : Nat} (h : w.grownBy w' (some b)) : ∀ blk o, b < blk → blk < w.heap.size → w'.cell? ⟨blk, o, none⟩ = w.cell? ⟨blk, o, none⟩ :=
  fun blk o h1 h2 => World.cell?_of_block (a := ⟨blk, o, none⟩) (h.block blk h2 (fun e => by cases e; omega))
theorem keptF {w w' : World} {b : Nat} (h : w.grownBy w' (some b)) : ∀ blk o, b < blk → blk < w.heap.size → w'.frozen? ⟨blk, o, none⟩ = w.frozen? ⟨blk, o, none⟩ :=
  fun blk o h1 h2 => World.frozen?_of_block (a := ⟨blk, o, none⟩) (h.block blk h2 (fun e => by cases e; omega))
theorem wr_cur {w w' : World} {b g : Nat} {vs : List Value} (h : Wr w g 0 vs) (hb : b < g) (hg : w.grownBy w' (some b)) : Wr w' g 0 vs := h.keptAt hg.size (hg.block _ h.1 (by simp; omega))
theorem wr5' {w : World} {g : Nat} (h : Wr w g 0 zr5') : g < w.heap.size ∧ (w.cell? ⟨g, 0, none⟩ = some (.slice none 0 0) ∧ w.cell? ⟨g, 1, none⟩ = some (.slice none 0 0) ∧ w.cell? ⟨g, 2, none⟩ = some (.slice none 0 0) ∧ w.cell? ⟨g, 3, none⟩ = some (.int .i64 0) ∧ w.cell? ⟨g, 4, none⟩ = some (.int .i64 0)) ∧ w.frozen? ⟨g, 0, none⟩ = false ∧ w.frozen? ⟨g, 1, none⟩ = false ∧ w.frozen? ⟨g, 2, none⟩ = false ∧ w.frozen? ⟨g, 3, none⟩ = false ∧ w.frozen? ⟨g, 4, none⟩ = false := by
  have k := fun j hj => h.2 j hj
  have k0 := k 0 (by decide)
  have k1 := k 1 (by decide)
  have k2 := k 2 (by decide)
  have k3 := k 3 (by decide)
  have k4 := k 4 (by decide)
  simp [zr5'] at k0 k1 k2 k3 k4
  exact ⟨h.1, ⟨k0.1, k1.1, k2.1, k3.1, k4.1⟩, k0.2, k1.2, k2.2, k3.2, k4.2⟩
/-- Ahead of the rows: the result's variable stands. -/
structure S1 (w wx : World) (b : Nat) (K : Int) : Prop where
  br : Wr wx w.heap.size 0 zr5'
  lo : b < w.heap.size
  gr : w.grownBy wx (some b)
  cu : Cu.Cur wx b K
theorem S1.alloc {w wx : World} {b : Nat} {K : Int} (h : S1 w wx b K) (o : Obj) : S1 w (wx.alloc o) b K := ⟨h.br.alloc o, h.lo, Cu.grown_alloc h.gr o, h.cu.alloc o⟩
theorem S1.drew {w wx : World} {b : Nat} {K : Int} (h : S1 w wx b K) : S1 w wx.drew b K := ⟨h.br, h.lo, Cu.grown_drew h.gr, h.cu.drew⟩
theorem S1.cur {w wx wy : World} {b : Nat} {K K' : Int} (h : S1 w wx b K) (hg : wx.grownBy wy (some b)) (hc : Cu.Cur wy b K') : S1 w wy b K' :=
  ⟨h.br.keptAt hg.size (hg.block _ h.br.1 (by have := h.lo; simp; omega)), h.lo, Cu.grown_trans h.gr hg, hc⟩
theorem s1_start {w : World} {b : Nat} {K : Int} (hc : Cu.Cur w b K) (T : TypeId) : S1 w (w.alloc (.cells #[.slice none 0 0, .slice none 0 0, .slice none 0 0, .int .i64 0, .int .i64 0] T)) b K := by
  exact ⟨wr_new w zr5' T, hc.lt, World.grownBy_alloc _ _ _, hc.alloc _⟩
theorem dr_start {w W : World} {b bo : Nat} {K : Int} (h : S1 w W b K) (hb : Wr W bo 0 zr5') (h0 : w.heap.size < bo) (lv l2 : Int) :
    DR w (((((W.setCell ⟨bo, 0, none⟩ (.slice none 0 0)).setCell ⟨bo, 1, none⟩ (.slice none 0 0)).setCell ⟨bo, 2, none⟩ (.slice none 0 0)).setCell ⟨bo, 3, none⟩ (.int .i64 lv)).setCell ⟨bo, 4, none⟩ (.int .i64 l2)) b bo K (.slice none 0 0) (.slice none 0 0) (.slice none 0 0) lv l2 [] [] [] [] := by
  have g0 := Li.grown_set W bo 0 (.slice none 0 0)
  have g1 := Cu.grown_set g0 1 (.slice none 0 0)
  have g2 := Cu.grown_set g1 2 (.slice none 0 0)
  have g3 := Cu.grown_set g2 3 (.int .i64 lv)
  have g4 := Cu.grown_set g3 4 (.int .i64 l2)
  have hl := h.lo
  have hF := fr_of g4
  refine ⟨?_, h.br.fr hF (by simp; omega), ⟨h0, by omega, hl⟩, World.ownsRow_nil _ _ _ _, rfl, World.ownsRow_nil _ _ _ _, World.ownsRow_nil _ _ _ _, grown_new h.gr g4 (fun k e => by cases e; omega), cur_new h.cu g4 (fun k e => by cases e; omega), fun q e => by simp [Value.ownBlock] at e, fun q e => by simp [Value.ownBlock] at e, fun i hi => by simp at hi, fun i j hi => by simp at hi⟩
  have b0 := hb.set 0 (by simp [zr5']) (.slice none 0 0)
  have b1 := b0.set 1 (by simp [zr5']) (.slice none 0 0)
  have b2 := b1.set 2 (by simp [zr5']) (.slice none 0 0)
  have b3 := b2.set 3 (by simp [zr5']) (.int .i64 lv)
  have b4 := b3.set 4 (by simp [zr5']) (.int .i64 l2)
  simpa [zr5'] using b4
theorem shl4 (x : Int) (h0 : 0 ≤ x) (h1 : x < 4) : 1 ≤ IntKind.i64.wrap (2 ^ x.toNat) ∧ IntKind.i64.wrap (2 ^ x.toNat) ≤ 8 := by
  have : x = 0 ∨ x = 1 ∨ x = 2 ∨ x = 3 := by omega
  rcases this with rfl | rfl | rfl | rfl <;> decide
/-- All that is owned lies below u. -/
def Und (vx vg vi : Value) (cx : List Value) (u : Nat) : Prop := (∀ q, vx.ownBlock = some q → q < u) ∧ (∀ q, vg.ownBlock = some q → q < u) ∧ (∀ q, vi.ownBlock = some q → q < u) ∧ ∀ i (hi : i < cx.length) q, cx[i].ownBlock = some q → q < u
section
variable {w wx wy : World} {b bo : Nat} {K K' : Int} {vx vg vi : Value} {lv l2 : Int} {cx : List Value} {xs : List (List Int)} {gs ids : List Int}
theorem DR.und (h : DR w wx b bo K vx vg vi lv l2 cx xs gs ids) : Und vx vg vi cx wx.heap.size :=
  ⟨fun q e => (World.ownsRow.lt h.ox q e).2, fun q e => (h.og.ge q e).2, fun q e => (h.oi.ge q e).2, fun i hi q e => ((h.nest i hi (by have := h.cl; omega)).1.ge q e).2⟩
theorem DR.keptU {B : Nat → Prop} {u : Nat} (h : DR w wx b bo K vx vg vi lv l2 cx xs gs ids) (hu : Und vx vg vi cx u) (hbu : bo < u) (hF : Fr B wx wy) (hB : ∀ q, B q → u ≤ q) : DR w wy b bo K vx vg vi lv l2 cx xs gs ids := by
  obtain ⟨l0, l1, l3⟩ := h.lo
  obtain ⟨u0, u1, u2, u3⟩ := hu
  have hn : ∀ q, q < u → ¬ B q := fun q hq e => by have := hB q e; omega
  refine ⟨h.bv.fr hF (hn _ hbu), h.br.fr hF (hn _ (by omega)), h.lo, row_fr h.ox hF (fun q e => hn q (u0 q e)), h.cl, row_fr h.og hF (fun q e => hn q (u1 q e)), row_fr h.oi hF (fun q e => hn q (u2 q e)), ?_, ?_, h.ap, h.ag, fun i hi hi' => ⟨row_fr (h.nest i hi hi').1 hF (fun q e => hn q (u3 i hi q e)), (h.nest i hi hi').2⟩, h.inj⟩
  · have hg := h.gr
    exact ⟨hF.os.trans hg.os, hF.tape.trans hg.tape, hF.output.trans hg.output, Nat.le_trans hg.size hF.size, fun k hk hne => (hF.block k (Nat.lt_of_lt_of_le hk hg.size) (hn k (by omega))).trans (hg.block k hk hne)⟩
  · exact h.cu.keptB hF.size (fun k hk => hF.block k (by have := h.cu.lt; omega) (hn k (by omega)))
end
theorem DR.bvk {w wx w3 : World} {b bo : Nat} {K : Int} {vx vg vi : Value} {lv l2 : Int} {cx : List Value} {xs : List (List Int)} {gs ids : List Int} {r : Option Nat} (h : DR w wx b bo K vx vg vi lv l2 cx xs gs ids) (hg : wx.grownBy w3 r) (hr : ∀ q, r = some q → bo < q) : Wr w3 bo 0 [vx, vg, vi, .int .i64 lv, .int .i64 l2] :=
  h.bv.keptAt hg.size (hg.block bo h.bv.1 (fun e => by have := hr bo e.symm; omega))
def Lens (xs : List (List Int)) (gs ids : List Int) (k : Nat) : Prop := xs.length + k ≤ 10 ∧ gs.length + k ≤ 10 ∧ ids.length + k ≤ 10 ∧ ∀ x ∈ xs, x.length ≤ 6
theorem own_fr' {w w1 : World} {B u : Nat} {v : Value} {xs : List Int} (h : Own w B v xs) (hg : w.grownBy w1 (some u)) (hu : u < B) : Own w1 B v xs := Ai.own_cur h hg hu
theorem DQ.mono {wx : World} {n0 n1 : Nat} {vx vg vi : Value} {cx : List Value} {xs : List (List Int)} {gs ids : List Int} (h : DQ wx n0 vx vg vi cx xs gs ids) (hn : n1 ≤ n0) : DQ wx n1 vx vg vi cx xs gs ids :=
  ⟨Tm.ownsRow_mono h.ox hn, h.cl, Tm.ownsRow_mono h.og hn, Tm.ownsRow_mono h.oi hn, h.ap, h.ag, fun i hi hi' => ⟨Tm.ownsRow_mono (h.nest i hi hi').1 hn, (h.nest i hi hi').2⟩⟩
theorem set5_fr (wx : World) (p : Nat) (u0 u1 u2 u3 u4 : Value) : Fr (fun q => q = p) wx (((((wx.setCell ⟨p, 0, none⟩ u0).setCell ⟨p, 1, none⟩ u1).setCell ⟨p, 2, none⟩ u2).setCell ⟨p, 3, none⟩ u3).setCell ⟨p, 4, none⟩ u4) := by
  have g0 := Li.grown_set wx p 0 u0
  have g1 := Cu.grown_set g0 1 u1
  have g2 := Cu.grown_set g1 2 u2
  have g3 := Cu.grown_set g2 3 u3
  exact fr_grown (Cu.grown_set g3 4 u4) rfl
/-- What is handed on. -/
def RowsPost (w : World) (b : Nat) (K : Int) (e : Ending) (w' : World) : Prop := ∃ vx vg vi cx lv l2 xs gs ids, e = .returned (.agg #[vx, vg, vi, .int .i64 lv, .int .i64 l2]) ∧ (xs : List (List Int)).length ≤ 10 ∧ (gs : List Int).length ≤ 10 ∧ (ids : List Int).length ≤ 11 ∧ (∀ x ∈ xs, x.length ≤ 7) ∧ DQ w' w.heap.size vx vg vi cx xs gs ids ∧ w.grownBy w' (some b) ∧ Cu.Cur w' b (K + 1000)
theorem done_post {w wx : World} {b bo : Nat} {K K0 : Int} {vx vg vi : Value} {lv l2 : Int} {cx : List Value} {xs : List (List Int)} {gs ids : List Int} (h : DR w wx b bo K vx vg vi lv l2 cx xs gs ids) (hK : K ≤ K0 + 1000) (h1 : xs.length ≤ 10) (h2 : gs.length ≤ 10) (h3 : ids.length ≤ 11) (h4 : ∀ x ∈ xs, x.length ≤ 7) (u0 u1 u2 u3 u4 : Value) :
    RowsPost w b K0 (.returned (.agg #[vx, vg, vi, .int .i64 lv, .int .i64 l2])) (((((wx.setCell ⟨w.heap.size, 0, none⟩ u0).setCell ⟨w.heap.size, 1, none⟩ u1).setCell ⟨w.heap.size, 2, none⟩ u2).setCell ⟨w.heap.size, 3, none⟩ u3).setCell ⟨w.heap.size, 4, none⟩ u4) := by
  obtain ⟨_, hg, hc, _⟩ := h.done u0 u1 u2 u3 u4
  have l0 := h.lo.1
  exact ⟨vx, vg, vi, cx, lv, l2, xs, gs, ids, rfl, h1, h2, h3, h4, (h.dq.fr (set5_fr wx w.heap.size u0 u1 u2 u3 u4) (fun q e => by omega)).mono (by omega), hg, hc.mono hK⟩
theorem wr_num {w : World} {g : Nat} (zs : List Int) (h : Wr w g 0 (zs.map fun z => Value.int .i64 z)) (t : Nat) (ht : t < zs.length) : ∃ u, w.cell? ⟨g, t, none⟩ = some (.int .i64 u) := by
  have := (h.2 t (by simpa using ht)).1
  rw [Nat.zero_add] at this
  exact ⟨zs[t], by rw [this]; simp⟩
theorem lens_step {xs : List (List Int)} {gs ids : List Int} {k : Nat} {ys : List Int} {z t : Int} (h : Lens xs gs ids (k + 1)) (hy : ys.length = 6) : Lens (xs ++ [ys]) (gs ++ [z]) (ids ++ [t]) k := by
  obtain ⟨h1, h2, h3, h4⟩ := h
  refine ⟨by simp; omega, by simp; omega, by simp; omega, fun x hx => ?_⟩
  rcases List.mem_append.1 hx with h | h
  · exact h4 x h
  · simp at h; subst h; omega
theorem set_mem {xs : List (List Int)} {ys : List Int} (h : ∀ x ∈ xs, x.length ≤ 7) (hy : ys.length ≤ 7) : ∀ x ∈ xs.set 0 ys, x.length ≤ 7 := fun x hx => by
  rcases List.mem_or_eq_of_mem_set hx with h' | h'
  · exact h x h'
  · rw [h']; exact hy
def roMk (b H : Nat) (v : Nat → Value) : Act := ⟨#[.pointer (some ⟨b, 0, none⟩), undef, .pointer (some ⟨H, 0, none⟩), v 3, undef, undef, undef, v 7, v 8, v 9, v 10, v 11, v 12, v 13, v 14, v 15, undef, undef, undef, undef, undef, undef, undef, undef, undef, undef, undef, undef, undef, undef, undef, undef, undef, undef, undef, undef, undef, undef, undef, undef, undef, undef, undef, undef, undef, undef, undef, undef, undef, undef, undef, undef, undef, undef, undef, undef, undef, undef, undef, undef, undef, undef, undef, undef, undef, undef, undef, undef, undef, undef, undef, undef, undef, undef, undef, undef, undef, undef, undef, undef, undef, undef, undef, undef, undef, undef, undef, undef, undef, undef, undef, undef, undef, undef, undef, undef, undef, undef, undef, undef, undef, undef, undef, undef, undef, undef, undef, undef, undef, undef, undef, undef, undef, undef, undef, undef], []⟩
def roKd : List Og.Kd := [.ptr, .int 0 3, .int (1) (8), .tab 4, .ptr, .int 0 3, .elem, .num, .sat (fun x => ∃ p q : Int, x = .agg #[.slice none 0 0, .slice none 0 0, .slice none 0 0, .int .i64 p, .int .i64 q] ∧ 1 ≤ p ∧ p ≤ 8), .box [.slice none 0 0, .slice none 0 0, .slice none 0 0, .int .i64 0, .int .i64 0]]
def roDst : List Nat := [7, 8, 9, 10, 11, 12, 13, 14, 15, 3]
theorem roInj : ∀ i, i < 10 → ∀ j, j < 10 → roDst.getD i 100000 = roDst.getD j 100000 → i = j := by decide
theorem roLt {j : Nat} (h : j < 11) : j = 0 ∨ j = 1 ∨ j = 2 ∨ j = 3 ∨ j = 4 ∨ j = 5 ∨ j = 6 ∨ j = 7 ∨ j = 8 ∨ j = 9 ∨ j = 10 := by omega
theorem roLt0 {j : Nat} (h : j < 10) : j = 0 ∨ j = 1 ∨ j = 2 ∨ j = 3 ∨ j = 4 ∨ j = 5 ∨ j = 6 ∨ j = 7 ∨ j = 8 ∨ j = 9 := by omega
set_option maxHeartbeats 40000000 in
theorem rows_any (w : World) (b : Nat) (K : Int) (hc : Cu.Cur w b K) (hK : K ≤ 1000000000000) :
    Calls Try.prog 20 #[.pointer (some ⟨b, 0, none⟩)] w fun e w' => RowsPost w b K e w' := by
  have hbw := hc.lt
  have st := s1_start hc 27
  go_enter Try.func20, Try.ntmps20
  go_wp2_with fail
  obtain ⟨W, hW⟩ : ∃ W, w.alloc (.cells #[.slice none 0 0, .slice none 0 0, .slice none 0 0, .int .i64 0, .int .i64 0] 27) = W := ⟨_, rfl⟩
  rw [hW] at st ⊢
  have hcW : Cu.Cur W b K := st.cu
  have hsW : w.heap.size < W.heap.size := by rw [← hW]; simp
  clear hW hc
  refine Oi.start (Og.Inv b w.heap.size 10 K W (roMk b w.heap.size) roKd roDst (fun a w1 => ∃ bo lv l2, (∃ v, a = roMk b w.heap.size v ∧ v 3 = .pointer (some ⟨bo, 0, none⟩)) ∧ 1 ≤ lv ∧ lv ≤ 8 ∧ DR w w1 b bo (K + 30) (.slice none 0 0) (.slice none 0 0) (.slice none 0 0) lv l2 [] [] [] [])) (by kernel_rfl) ?_ ?_ ?_
  · exact Og.inv_start hcW (Cu.grown_refl _ _) (fun _ => undef) rfl
  · intro l a w1 j hs hI hj
    have hlt : j < 11 := Oi.ready_lt hj
    have hjf := (mem_ready.1 hj).1
    have hcl : Oi.cnt l ≤ 11 := by have := Oi.cnt_le l; rw [hs] at this; exact this
    rcases hI with ⟨_, hall, _⟩ | ⟨hn, v, rfl, hg, hcu, hv⟩
    · exact (Og.not_done hjf (hall j hlt)).elim
    have hltw := hcu.lt
    have hWw := hg.size
    rcases roLt hlt with rfl | rfl | rfl | rfl | rfl | rfl | rfl | rfl | rfl | rfl | rfl
    · refine Oi.op_step rfl rfl ?_
      intro K2 hK2
      unfold roMk
      go_simp
      refine hK2 _ _ ?_
      refine Og.act_eq (Og.inv_put (j := 0) (x := .pointer (some ⟨b, 0, none⟩)) roInj (by omega) hjf hn hv (Og.rl_refl _ _) hg (hcu.mono (by omega)) (show Og.psi b w.heap.size (.ptr) _ _ from rfl)) ?_
      show roMk b w.heap.size (Oi.upd v 7 _) = _
      first | rfl | simp [roMk, Oi.upd]
    · have D0 := hv 0 (by omega) (Oi.dep hj (by kernel_rfl))
      change Og.psi b w.heap.size (.ptr) (v 7) w1 at D0
      have e7 : v 7 = .pointer (some ⟨b, 0, none⟩) := D0
      refine Oi.op_step rfl rfl ?_
      intro K2 hK2
      unfold roMk
      go_simp
      go_wp2_with (go_at_call 42; refine (Cu.pick_any _ _ _ hcu (by omega) _ (by omega)).mono ?_; rintro e w2 ⟨y, rfl, y0, y1, hg2, hz2, hc2⟩)
      refine Og.act_eq (Og.inv_put (j := 1) (x := .int .i64 y) roInj (by omega) hjf hn hv (Og.rl_grown hg2) (Cu.grown_trans hg hg2) (hc2.mono (by omega)) (show Og.psi b w.heap.size (.int 0 3) _ _ from ⟨y, rfl, y0, by have := y1 (by omega); omega⟩)) ?_
      show roMk b w.heap.size (Oi.upd v 8 _) = _
      first | rfl | simp [roMk, Oi.upd, e7]
    · have D1 := hv 1 (by omega) (Oi.dep hj (by kernel_rfl))
      change Og.psi b w.heap.size (.int 0 3) (v 8) w1 at D1
      obtain ⟨y8, e8, l8, u8⟩ := D1
      refine Oi.op_step rfl rfl ?_
      intro K2 hK2
      unfold roMk
      go_simp
      refine hK2 _ _ ?_
      refine Og.act_eq (Og.inv_put (j := 2) (x := .int .i64 (IntKind.i64.wrap (2 ^ y8.toNat))) roInj (by omega) hjf hn hv (Og.rl_refl _ _) hg (hcu.mono (by omega)) (show Og.psi b w.heap.size (.int (1) (8)) _ _ from ⟨_, rfl, (shl4 y8 l8 (by omega)).1, (shl4 y8 l8 (by omega)).2⟩)) ?_
      show roMk b w.heap.size (Oi.upd v 9 _) = _
      first | rfl | simp [roMk, Oi.upd, e8]
    · refine Oi.op_step rfl rfl ?_
      intro K2 hK2
      unfold roMk
      go_simp
      refine hK2 _ _ ?_
      refine Og.act_eq (Og.inv_put (j := 3) (x := .slice (some ⟨w1.heap.size, 0, none⟩) 4 4) roInj (by omega) hjf hn hv (Og.rl_alloc _ _ _) (Cu.grown_alloc hg _) ((hcu.alloc _).mono (by omega)) (show Og.psi b w.heap.size (.tab 4) _ _ from ⟨w1.heap.size, rfl, by omega, by simp, fun t ht => Og.tab_new w1 [1, 2, 10, 1000] _ t ht⟩)) ?_
      show roMk b w.heap.size (Oi.upd v 10 _) = _
      first | rfl | simp [roMk, Oi.upd]
    · refine Oi.op_step rfl rfl ?_
      intro K2 hK2
      unfold roMk
      go_simp
      refine hK2 _ _ ?_
      refine Og.act_eq (Og.inv_put (j := 4) (x := .pointer (some ⟨b, 0, none⟩)) roInj (by omega) hjf hn hv (Og.rl_refl _ _) hg (hcu.mono (by omega)) (show Og.psi b w.heap.size (.ptr) _ _ from rfl)) ?_
      show roMk b w.heap.size (Oi.upd v 11 _) = _
      first | rfl | simp [roMk, Oi.upd]
    · have D4 := hv 4 (by omega) (Oi.dep hj (by kernel_rfl))
      change Og.psi b w.heap.size (.ptr) (v 11) w1 at D4
      have e11 : v 11 = .pointer (some ⟨b, 0, none⟩) := D4
      refine Oi.op_step rfl rfl ?_
      intro K2 hK2
      unfold roMk
      go_simp
      go_wp2_with (go_at_call 42; refine (Cu.pick_any _ _ _ hcu (by omega) _ (by omega)).mono ?_; rintro e w2 ⟨y, rfl, y0, y1, hg2, hz2, hc2⟩)
      refine Og.act_eq (Og.inv_put (j := 5) (x := .int .i64 y) roInj (by omega) hjf hn hv (Og.rl_grown hg2) (Cu.grown_trans hg hg2) (hc2.mono (by omega)) (show Og.psi b w.heap.size (.int 0 3) _ _ from ⟨y, rfl, y0, by have := y1 (by omega); omega⟩)) ?_
      show roMk b w.heap.size (Oi.upd v 12 _) = _
      first | rfl | simp [roMk, Oi.upd, e11]
    · have D3 := hv 3 (by omega) (Oi.dep hj (by kernel_rfl))
      change Og.psi b w.heap.size (.tab 4) (v 10) w1 at D3
      obtain ⟨g10, e10, n10, s10, c10⟩ := D3
      have D5 := hv 5 (by omega) (Oi.dep hj (by kernel_rfl))
      change Og.psi b w.heap.size (.int 0 3) (v 12) w1 at D5
      obtain ⟨y12, e12, l12, u12⟩ := D5
      obtain ⟨z, hz⟩ := c10 y12.toNat (by omega)
      have v12 : y12 < 4 := by omega
      refine Oi.op_step rfl rfl ?_
      intro K2 hK2
      unfold roMk
      go_simp
      refine hK2 _ _ ?_
      refine Og.act_eq (Og.inv_put (j := 6) (x := .pointer (some ⟨g10, y12.toNat, none⟩)) roInj (by omega) hjf hn hv (Og.rl_refl _ _) hg (hcu.mono (by omega)) (show Og.psi b w.heap.size (.elem) _ _ from ⟨g10, y12.toNat, z, rfl, n10, s10, hz⟩)) ?_
      show roMk b w.heap.size (Oi.upd v 13 _) = _
      first | rfl | simp [roMk, Oi.upd, e10, e12]
    · have D6 := hv 6 (by omega) (Oi.dep hj (by kernel_rfl))
      change Og.psi b w.heap.size (.elem) (v 13) w1 at D6
      obtain ⟨g13, t13, z13, e13, n13, s13, c13⟩ := D6
      refine Oi.op_step rfl rfl ?_
      intro K2 hK2
      unfold roMk
      go_simp
      refine hK2 _ _ ?_
      refine Og.act_eq (Og.inv_put (j := 7) (x := .int .i64 z13) roInj (by omega) hjf hn hv (Og.rl_refl _ _) hg (hcu.mono (by omega)) (show Og.psi b w.heap.size (.num) _ _ from ⟨z13, rfl⟩)) ?_
      show roMk b w.heap.size (Oi.upd v 14 _) = _
      first | rfl | simp [roMk, Oi.upd, e13]
    · have D2 := hv 2 (by omega) (Oi.dep hj (by kernel_rfl))
      change Og.psi b w.heap.size (.int (1) (8)) (v 9) w1 at D2
      obtain ⟨y9, e9, l9, u9⟩ := D2
      have D7 := hv 7 (by omega) (Oi.dep hj (by kernel_rfl))
      change Og.psi b w.heap.size (.num) (v 14) w1 at D7
      obtain ⟨y14, e14⟩ := D7
      refine Oi.op_step rfl rfl ?_
      intro K2 hK2
      unfold roMk
      go_simp
      refine hK2 _ _ ?_
      refine Og.act_eq (Og.inv_put (j := 8) (x := .agg #[.slice none 0 0, .slice none 0 0, .slice none 0 0, .int .i64 y9, .int .i64 y14]) roInj (by omega) hjf hn hv (Og.rl_refl _ _) hg (hcu.mono (by omega)) (show Og.psi b w.heap.size (.sat (fun x => ∃ p q : Int, x = .agg #[.slice none 0 0, .slice none 0 0, .slice none 0 0, .int .i64 p, .int .i64 q] ∧ 1 ≤ p ∧ p ≤ 8)) _ _ from ⟨y9, y14, rfl, l9, u9⟩)) ?_
      show roMk b w.heap.size (Oi.upd v 15 _) = _
      first | rfl | simp [roMk, Oi.upd, e9, e14]
    · refine Oi.op_step rfl rfl ?_
      intro K2 hK2
      unfold roMk
      go_simp
      refine hK2 _ _ ?_
      refine Og.act_eq (Og.inv_put (j := 9) (x := .pointer (some ⟨w1.heap.size, 0, none⟩)) roInj (by omega) hjf hn hv (Og.rl_alloc _ _ _) (Cu.grown_alloc hg _) ((hcu.alloc _).mono (by omega)) (show Og.psi b w.heap.size (.box [.slice none 0 0, .slice none 0 0, .slice none 0 0, .int .i64 0, .int .i64 0]) _ _ from ⟨w1.heap.size, rfl, by omega, by omega, Sv.wr_new w1 [.slice none 0 0, .slice none 0 0, .slice none 0 0, .int .i64 0, .int .i64 0] _⟩)) ?_
      show roMk b w.heap.size (Oi.upd v 3 _) = _
      first | rfl | simp [roMk, Oi.upd]
    · have hall : ∀ i, i < 10 → l.getD i false = true := by
        intro i hi
        rcases roLt0 hi with rfl | rfl | rfl | rfl | rfl | rfl | rfl | rfl | rfl | rfl
        all_goals exact Oi.dep hj (by kernel_rfl)
      have D8 := hv 8 (by omega) (Oi.dep hj (by kernel_rfl))
      change Og.psi b w.heap.size (.sat (fun x => ∃ p q : Int, x = .agg #[.slice none 0 0, .slice none 0 0, .slice none 0 0, .int .i64 p, .int .i64 q] ∧ 1 ≤ p ∧ p ≤ 8)) (v 15) w1 at D8
      obtain ⟨p15, q15, e15, l15, u15⟩ := D8
      have D9 := hv 9 (by omega) (Oi.dep hj (by kernel_rfl))
      change Og.psi b w.heap.size (.box [.slice none 0 0, .slice none 0 0, .slice none 0 0, .int .i64 0, .int .i64 0]) (v 3) w1 at D9
      obtain ⟨g3, e3, n3, h3, wr3⟩ := D9
      obtain ⟨hl3, ⟨q0, q1, q2, q3, q4⟩, f0, f1, f2, f3, f4⟩ := Sv.wr5 wr3
      have s1 : S1 w w1 b (K + 30) := st.cur hg (hcu.mono (by omega))
      have hdr := dr_start s1 wr3 h3 p15 q15
      refine Oi.op_step rfl rfl ?_
      intro K2 hK2
      unfold roMk
      go_simp
      refine hK2 _ _ ?_
      refine Og.inv_last hs (by omega) hall ?_
      exact ⟨g3, p15, q15, ⟨v, by first | rfl | simp [roMk, e3, e15], e3⟩, l15, u15, hdr⟩
  · intro l a w1 hs hI hr
    have hall := Oi.all_done (by kernel_rfl) hs hr
    rcases hI with ⟨_, _, hF⟩ | ⟨hn, _⟩
    rotate_left
    · exfalso
      have := hall 10 (show 10 < 11 by omega)
      rw [hn] at this; cases this
    clear hall hs hr
    obtain ⟨bo, lv, l2, ⟨v, rfl, e3⟩, lv1, lv8, hdr⟩ := hF
    unfold roMk
    rw [e3]
    clear e3 hcW st
    go_wp2_with fail
    refine (Dz.size_any _ _ _ hdr.cu (by omega) _ (by omega) (by omega)).mono ?_
    rintro e w2 ⟨x, rfl, x0, x1, hg2, hz2, hc2⟩
    have HD2 : Hid (type_of% (hdr.cur hg2 hc2)) := hdr.cur hg2 hc2
    obtain ⟨n0, rfl⟩ := Int.eq_ofNat_of_zero_le x0
    clear hg2 hz2 hc2 hdr x0
    go_wp2_with fail
    go_loopw [4] (fun i wr => ∃ k : Nat, k ≤ 10 ∧ i = .int .i64 k ∧ ∃ vx vg vi cx xs gs ids, DR w wr b bo (K + 100 + 30 * (10 - (k : Int))) vx vg vi lv l2 cx xs gs ids ∧ Lens xs gs ids k) (fun i _ => (intOf i).toNat)
    case atStart => exact ⟨n0, by omega, rfl, _, _, _, [], [], [], [], HD2.out.mono (by omega), by simp [Lens]; omega⟩
    case round =>
      obtain ⟨k, hk, rfl, vx, vg, vi, cx, xs, gs, ids, hdr, hlen⟩ := hrel
      clear HD2
      have HL : Hid (type_of% hlen) := hlen
      clear hlen
      by_cases hlt : 0 < k
      rotate_left
      · obtain rfl : k = 0 := by omega
        obtain ⟨a0, c0, a1, c1, a2, c2, rfl, rfl, rfl, -⟩ := hdr.rd 0 0
        go_wp2_with fail
        refine (Cu.once_any _ _ _ hdr.cu (by omega) _ (by omega) (by omega)).mono ?_
        rintro e w3 ⟨t, rfl, hg3, hz3, hc3⟩
        replace hdr := hdr.cur hg3 hc3
        clear hg3 hz3 hc3
        have HD : Hid (type_of% hdr) := hdr
        cases t
        · clear hdr
          obtain ⟨hbl, ⟨q0, q1, q2, q3, q4⟩, _⟩ := Sv.wr5 (HD.out).bv
          obtain ⟨hrl, ⟨r0, r1, r2, r3, r4⟩, f0, f1, f2, f3, f4⟩ := wr5' (HD.out).br
          have hne : ¬ bo = w.heap.size := (by have := (HD.out).lo; omega)
          have hne2 : ¬ w.heap.size = bo := (by have := (HD.out).lo; omega)
          have HP : Hid (∀ u0 u1 u2 u3 u4 : Value, RowsPost w b K _ _) := fun u0 u1 u2 u3 u4 => done_post (K0 := K) (HD.out) (by omega) (by have := HL.out.1; omega) (by have := HL.out.2.1; omega) (by have := HL.out.2.2.1; omega) (fun x hx => by have := HL.out.2.2.2 x hx; omega) u0 u1 u2 u3 u4
          go_wp2
          refine bodyPost_ret (v := .agg #[.slice a0 xs.length c0, .slice a1 gs.length c1, .slice a2 ids.length c2, .int .i64 lv, .int .i64 l2]) (by rw [Tm.results_cell rfl]; go_simp) rfl (HP.out _ _ _ _ _)
        · go_wp2_with fail
          refine (Cu.pick_any _ _ _ hdr.cu (by omega) _ (by omega)).mono ?_
          rintro e w4 ⟨y, rfl, y0, y1, hg4, hz4, hc4⟩
          replace HD : Hid (type_of% (hdr.cur hg4 hc4)) := hdr.cur hg4 hc4
          have y2 := y1 (by omega)
          clear hg4 hz4 hc4 y1 hdr
          have y5 : y = 0 ∨ y = 1 ∨ y = 2 ∨ y = 3 ∨ y = 4 := by omega
          clear y0 y2
          rcases y5 with rfl | rfl | rfl | rfl | rfl
          · go_wp2_with fail
            refine (Cu.raw_any _ _ _ HD.out.cu (by omega)).mono ?_
            rintro e w5 ⟨z, rfl, _, _, hg5, hc5⟩
            replace HD : Hid (type_of% (HD.out.cur hg5 hc5)) := HD.out.cur hg5 hc5
            clear hg5 hc5
            have hl5 := HD.out.cu.lt
            go_wp2_with fail
            refine (Cu.pick_any _ _ _ (HD.out.alloc _).cu (by omega) _ (by omega)).mono ?_
            rintro e w6 ⟨s, rfl, s0, s1, hg6, hz6, hc6⟩
            have s2 := s1 (by omega)
            obtain ⟨u, hu⟩ := Og.tab_new w5 [z, 16, 17] 3 s.toNat (by simp; omega)
            have hu6 : w6.cell? ⟨w5.heap.size, s.toNat, none⟩ = some (.int .i64 u) := hg6.cell (a := ⟨w5.heap.size, s.toNat, none⟩) hu (by simp; omega)
            have hs6 : w5.heap.size < w6.heap.size := by have := hg6.size; simp at this; omega
            replace HD : Hid (type_of% ((HD.out.alloc _).cur hg6 hc6)) := (HD.out.alloc _).cur hg6 hc6
            clear hg6 hz6 hc6 s1 hu
            obtain ⟨hb6, ⟨p0, p1, p2, p3, p4⟩, g0, g1, g2, g3, g4⟩ := Sv.wr5 HD.out.bv
            replace HD : Hid (type_of% (HD.out.set3 u)) := HD.out.set3 u
            obtain ⟨hbl, ⟨q0, q1, q2, q3, q4⟩, _⟩ := Sv.wr5 (HD.out).bv
            obtain ⟨hrl, ⟨r0, r1, r2, r3, r4⟩, f0, f1, f2, f3, f4⟩ := wr5' (HD.out).br
            have hne : ¬ bo = w.heap.size := (by have := (HD.out).lo; omega)
            have hne2 : ¬ w.heap.size = bo := (by have := (HD.out).lo; omega)
            have HP : Hid (∀ u0 u1 u2 u3 u4 : Value, RowsPost w b K _ _) := fun u0 u1 u2 u3 u4 => done_post (K0 := K) (HD.out) (by omega) (by have := HL.out.1; omega) (by have := HL.out.2.1; omega) (by have := HL.out.2.2.1; omega) (fun x hx => by have := HL.out.2.2.2 x hx; omega) u0 u1 u2 u3 u4
            go_wp2
            refine bodyPost_ret (v := .agg #[.slice a0 xs.length c0, .slice a1 gs.length c1, .slice a2 ids.length c2, .int .i64 u, .int .i64 l2]) (by rw [Tm.results_cell rfl]; go_simp) rfl (HP.out _ _ _ _ _)
          · go_wp2_with fail
            refine (Cu.raw_any _ _ _ HD.out.cu (by omega)).mono ?_
            rintro e w5 ⟨z, rfl, _, _, hg5, hc5⟩
            replace HD : Hid (type_of% (HD.out.cur hg5 hc5)) := HD.out.cur hg5 hc5
            clear hg5 hc5
            obtain ⟨hb6, ⟨p0, p1, p2, p3, p4⟩, g0, g1, g2, g3, g4⟩ := Sv.wr5 HD.out.bv
            replace HD : Hid (type_of% (HD.out.set4 z)) := HD.out.set4 z
            obtain ⟨hbl, ⟨q0, q1, q2, q3, q4⟩, _⟩ := Sv.wr5 (HD.out).bv
            obtain ⟨hrl, ⟨r0, r1, r2, r3, r4⟩, f0, f1, f2, f3, f4⟩ := wr5' (HD.out).br
            have hne : ¬ bo = w.heap.size := (by have := (HD.out).lo; omega)
            have hne2 : ¬ w.heap.size = bo := (by have := (HD.out).lo; omega)
            have HP : Hid (∀ u0 u1 u2 u3 u4 : Value, RowsPost w b K _ _) := fun u0 u1 u2 u3 u4 => done_post (K0 := K) (HD.out) (by omega) (by have := HL.out.1; omega) (by have := HL.out.2.1; omega) (by have := HL.out.2.2.1; omega) (fun x hx => by have := HL.out.2.2.2 x hx; omega) u0 u1 u2 u3 u4
            go_wp2
            refine bodyPost_ret (v := .agg #[.slice a0 xs.length c0, .slice a1 gs.length c1, .slice a2 ids.length c2, .int .i64 lv, .int .i64 z]) (by rw [Tm.results_cell rfl]; go_simp) rfl (HP.out _ _ _ _ _)
          · obtain ⟨hb6, ⟨p0, p1, p2, p3, p4⟩, g0, g1, g2, g3, g4⟩ := Sv.wr5 HD.out.bv
            have hl4 := HD.out.cu.lt
            have hbo := hb6
            go_wp2_with (at_builtin; refine Sn.wpl_snocI rfl _ _ rfl (bo + 1) _ ids w4.heap.size 0 rfl rfl (by simp) ((HD.out.alloc _).oi) (by simp; omega) (by have := HL.out.2.2.1; omega) ?_; intro g c w6 o6 hg6 hp6; obtain ⟨hb7, ⟨k0, k1, k2, k3, k4⟩, j0, j1, j2, j3, j4⟩ := Sv.wr5 ((HD.out.alloc _).bvk hg6 (fun q e => by have := (HD.out.oi.ge q e).1; omega)); replace HD : Hid (type_of% ((HD.out.alloc _).putI o6 hg6 hp6)) := (HD.out.alloc _).putI o6 hg6 hp6; clear o6 hp6; obtain ⟨hbl, ⟨q0, q1, q2, q3, q4⟩, _⟩ := Sv.wr5 (HD.out).bv; obtain ⟨hrl, ⟨r0, r1, r2, r3, r4⟩, f0, f1, f2, f3, f4⟩ := wr5' (HD.out).br; have hne : ¬ bo = w.heap.size := (by have := (HD.out).lo; omega); have hne2 : ¬ w.heap.size = bo := (by have := (HD.out).lo; omega); have HP : Hid (∀ u0 u1 u2 u3 u4 : Value, RowsPost w b K _ _) := fun u0 u1 u2 u3 u4 => done_post (K0 := K) (HD.out) (by omega) (by have := HL.out.1; omega) (by have := HL.out.2.1; omega) (by have := HL.out.2.2.1; simp; omega) (fun x hx => by have := HL.out.2.2.2 x hx; omega) u0 u1 u2 u3 u4)
            go_wp2
            refine bodyPost_ret (v := .agg #[.slice a0 xs.length c0, .slice a1 gs.length c1, .slice (some ⟨g, 0, none⟩) (ids.length + 1) c, .int .i64 lv, .int .i64 l2]) (by rw [Tm.results_cell rfl]; go_simp) rfl (HP.out _ _ _ _ _)
          · rcases HD.out.og.2 with ⟨e1, h0⟩ | ⟨g, cap, cur, e1, _, _, _⟩
            · injection e1 with j1 j2 j3
              subst j1 j3
              obtain rfl := List.length_eq_zero_iff.1 h0
              clear j2
              obtain ⟨hbl, ⟨q0, q1, q2, q3, q4⟩, _⟩ := Sv.wr5 (HD.out).bv
              obtain ⟨hrl, ⟨r0, r1, r2, r3, r4⟩, f0, f1, f2, f3, f4⟩ := wr5' (HD.out).br
              have hne : ¬ bo = w.heap.size := (by have := (HD.out).lo; omega)
              have hne2 : ¬ w.heap.size = bo := (by have := (HD.out).lo; omega)
              have HP : Hid (∀ u0 u1 u2 u3 u4 : Value, RowsPost w b K _ _) := fun u0 u1 u2 u3 u4 => done_post (K0 := K) (HD.out) (by omega) (by have := HL.out.1; omega) (by have := HL.out.2.1; omega) (by have := HL.out.2.2.1; omega) (fun x hx => by have := HL.out.2.2.2 x hx; omega) u0 u1 u2 u3 u4
              have hdz : decide (0 < (([] : List Int).length : Int)) = false := by simp
              go_wp2
              refine bodyPost_ret (v := .agg #[.slice a0 xs.length c0, .slice none ([] : List Int).length 0, .slice a2 ids.length c2, .int .i64 lv, .int .i64 l2]) (by rw [Tm.results_cell rfl]; go_simp) rfl (HP.out _ _ _ _ _)
            · injection e1 with j1 j2 j3
              subst j1 j3
              clear j2
              obtain ⟨hb6, ⟨p0, p1, p2, p3, p4⟩, g0, g1, g2, g3, g4⟩ := Sv.wr5 HD.out.bv
              by_cases hgz : gs.length = 0
              · obtain rfl := List.length_eq_zero_iff.1 hgz
                clear hb6 p0 p1 p2 p3 p4 g0 g1 g2 g3 g4 hgz
                obtain ⟨hbl, ⟨q0, q1, q2, q3, q4⟩, _⟩ := Sv.wr5 (HD.out).bv
                obtain ⟨hrl, ⟨r0, r1, r2, r3, r4⟩, f0, f1, f2, f3, f4⟩ := wr5' (HD.out).br
                have hne : ¬ bo = w.heap.size := (by have := (HD.out).lo; omega)
                have hne2 : ¬ w.heap.size = bo := (by have := (HD.out).lo; omega)
                have HP : Hid (∀ u0 u1 u2 u3 u4 : Value, RowsPost w b K _ _) := fun u0 u1 u2 u3 u4 => done_post (K0 := K) (HD.out) (by omega) (by have := HL.out.1; omega) (by have := HL.out.2.1; omega) (by have := HL.out.2.2.1; omega) (fun x hx => by have := HL.out.2.2.2 x hx; omega) u0 u1 u2 u3 u4
                go_wp2
                refine bodyPost_ret (v := .agg #[.slice a0 xs.length c0, .slice (some ⟨g, 0, none⟩) ([] : List Int).length c1, .slice a2 ids.length c2, .int .i64 lv, .int .i64 l2]) (by rw [Tm.results_cell rfl]; go_simp) rfl (HP.out _ _ _ _ _)
              · obtain ⟨n, hn⟩ : ∃ n, gs.length = n := ⟨_, rfl⟩
                have HN : Hid (gs.length = n) := hn
                rw [hn] at p1
                have hn0 : 0 < n := by omega
                have hni : (0 : Int) < n := by omega
                have hl4 := HD.out.cu.lt
                clear hn hgz
                go_wp2_with fail
                have D0 : Hid (type_of% HD.out.drew) := HD.out.drew
                have s0 : w4.drew.cell? ⟨bo, 1, none⟩ = some (.slice (some ⟨g, 0, none⟩) n c1) := p1
                clear p0 p1 p2 p3 p4 g0 g1 g2 g3 g4 hb6
                refine Hd.start (fun X => X.cell? ⟨bo, 1, none⟩ = some (.slice (some ⟨g, 0, none⟩) n c1)) 5 (by kernel_rfl) ?_
                generalize w4.drew = w0 at D0 s0 ⊢
                refine Hd.After.pureD (i := 0) (some 110) (.pointer (some ⟨bo, 1, none⟩)) rfl rfl (by kernel_rfl) (by decide) (by kernel_rfl) (by kernel_rfl) (fun _ _ _ h => h) (s0) (Or.inl ⟨by rfl, ?_⟩) ?_
                · intro X; go_simp; try with_reducible rfl
                (first | simp only [Act.put, List.setIfInBounds_toArray, List.set_cons_zero, List.set_cons_succ] | skip)
                refine Hd.After.takeD (i := 1) (some 111) (.slice (some ⟨g, 0, none⟩) n c1) rfl rfl (by kernel_rfl) (by kernel_rfl) (by kernel_rfl) (by kernel_rfl) (by kernel_rfl) (fun _ _ _ h => h) (s0) (Or.inl ⟨by rfl, ?_⟩) ?_
                · rintro X s0; go_simp; try with_reducible rfl
                (first | simp only [Act.put, List.setIfInBounds_toArray, List.set_cons_zero, List.set_cons_succ] | skip)
                refine Hd.After.pureD (i := 2) (some 112) (.pointer (some ⟨b, 0, none⟩)) rfl rfl (by kernel_rfl) (by decide) (by kernel_rfl) (by kernel_rfl) (fun _ _ _ h => h) (s0) (Or.inl ⟨by rfl, ?_⟩) ?_
                · intro X; go_simp; try with_reducible rfl
                (first | simp only [Act.put, List.setIfInBounds_toArray, List.set_cons_zero, List.set_cons_succ] | skip)
                refine Hd.After.one (i := 3) (by kernel_rfl) rfl rfl ?_
                intro K hK
                go_simp
                go_wp2_with (go_at_call 45; refine (Cu.raw_any _ _ _ D0.out.cu (by omega)).mono ?_; rintro e w5 ⟨z, rfl, _, _, hg5, hc5⟩)
                replace D0 : Hid (type_of% (D0.out.cur hg5 hc5)) := D0.out.cur hg5 hc5
                clear hg5 hc5
                have s5 : w5.cell? ⟨bo, 1, none⟩ = some (.slice (some ⟨g, 0, none⟩) n c1) := by have := (Sv.wr5 D0.out.bv).2.1.2.1; rw [HN.out] at this; exact this
                refine hK _ _ (fun _ => s5) ?_
                clear hK K
                (first | simp only [Act.put, List.setIfInBounds_toArray, List.set_cons_zero, List.set_cons_succ] | skip)
                refine Hd.After.pureD (i := 4) (some 114) (.pointer (some ⟨g, 0, none⟩)) rfl rfl (by kernel_rfl) (by decide) (by kernel_rfl) (by kernel_rfl) (fun _ _ _ h => h) (s5) (Or.inl ⟨by rfl, ?_⟩) ?_
                · intro X; go_simp; try with_reducible rfl
                (first | simp only [Act.put, List.setIfInBounds_toArray, List.set_cons_zero, List.set_cons_succ] | skip)
                have hgl : g < w5.heap.size := (D0.out.og.ge g rfl).2
                have hgc : w5.cell? ⟨g, 0, none⟩ = some (.int .i64 (gs[0]'(by rw [HN.out]; exact hn0))) := D0.out.og.cell rfl 0 (by rw [HN.out]; exact hn0)
                have hgf : w5.frozen? ⟨g, 0, none⟩ = false := D0.out.og.frozen rfl 0
                have HDX : Hid (type_of% (D0.out.setG rfl z)) := D0.out.setG rfl z
                refine Hd.After.one (i := 5) (by kernel_rfl) rfl rfl ?_
                intro K hK
                go_simp
                refine hK _ _ (fun h => by cases h) ?_
                clear hK K
                refine Hd.After.done (by kernel_rfl) ?_ _
                clear hgc hgf hgl s5 D0
                rw [HN.out] at HDX
                have HD := HDX
                obtain ⟨hbl, ⟨q0, q1, q2, q3, q4⟩, _⟩ := Sv.wr5 (HD.out).bv
                obtain ⟨hrl, ⟨r0, r1, r2, r3, r4⟩, f0, f1, f2, f3, f4⟩ := wr5' (HD.out).br
                have hne : ¬ bo = w.heap.size := (by have := (HD.out).lo; omega)
                have hne2 : ¬ w.heap.size = bo := (by have := (HD.out).lo; omega)
                have HP : Hid (∀ u0 u1 u2 u3 u4 : Value, RowsPost w b K _ _) := fun u0 u1 u2 u3 u4 => done_post (K0 := K) (HD.out) (by omega) (by have := HL.out.1; omega) (by have := HL.out.2.1; simp; omega) (by have := HL.out.2.2.1; omega) (fun x hx => by have := HL.out.2.2.2 x hx; omega) u0 u1 u2 u3 u4
                go_wp2
                refine bodyPost_ret (v := .agg #[.slice a0 xs.length c0, .slice (some ⟨g, 0, none⟩) n c1, .slice a2 ids.length c2, .int .i64 lv, .int .i64 l2]) (by rw [Tm.results_cell rfl]; go_simp) rfl (HP.out _ _ _ _ _)
          · rcases HD.out.ox.2 with ⟨e1, h0⟩ | ⟨g, cap, cur, e1, _, _, _⟩
            · injection e1 with j1 j2 j3
              subst j1 j3
              obtain rfl := List.length_eq_zero_iff.1 h0
              clear j2
              obtain ⟨hbl, ⟨q0, q1, q2, q3, q4⟩, _⟩ := Sv.wr5 (HD.out).bv
              obtain ⟨hrl, ⟨r0, r1, r2, r3, r4⟩, f0, f1, f2, f3, f4⟩ := wr5' (HD.out).br
              have hne : ¬ bo = w.heap.size := (by have := (HD.out).lo; omega)
              have hne2 : ¬ w.heap.size = bo := (by have := (HD.out).lo; omega)
              have HP : Hid (∀ u0 u1 u2 u3 u4 : Value, RowsPost w b K _ _) := fun u0 u1 u2 u3 u4 => done_post (K0 := K) (HD.out) (by omega) (by have := HL.out.1; omega) (by have := HL.out.2.1; omega) (by have := HL.out.2.2.1; omega) (fun x hx => by have := HL.out.2.2.2 x hx; omega) u0 u1 u2 u3 u4
              have hdz : decide (0 < (([] : List (List Int)).length : Int)) = false := by simp
              go_wp2
              refine bodyPost_ret (v := .agg #[.slice none ([] : List (List Int)).length 0, .slice a1 gs.length c1, .slice a2 ids.length c2, .int .i64 lv, .int .i64 l2]) (by rw [Tm.results_cell rfl]; go_simp) rfl (HP.out _ _ _ _ _)
            · injection e1 with j1 j2 j3
              subst j1 j3
              clear j2
              obtain ⟨hb6, ⟨p0, p1, p2, p3, p4⟩, g0, g1, g2, g3, g4⟩ := Sv.wr5 HD.out.bv
              by_cases hgz : xs.length = 0
              · obtain rfl := List.length_eq_zero_iff.1 hgz
                clear hb6 p0 p1 p2 p3 p4 g0 g1 g2 g3 g4 hgz
                obtain ⟨hbl, ⟨q0, q1, q2, q3, q4⟩, _⟩ := Sv.wr5 (HD.out).bv
                obtain ⟨hrl, ⟨r0, r1, r2, r3, r4⟩, f0, f1, f2, f3, f4⟩ := wr5' (HD.out).br
                have hne : ¬ bo = w.heap.size := (by have := (HD.out).lo; omega)
                have hne2 : ¬ w.heap.size = bo := (by have := (HD.out).lo; omega)
                have HP : Hid (∀ u0 u1 u2 u3 u4 : Value, RowsPost w b K _ _) := fun u0 u1 u2 u3 u4 => done_post (K0 := K) (HD.out) (by omega) (by have := HL.out.1; omega) (by have := HL.out.2.1; omega) (by have := HL.out.2.2.1; omega) (fun x hx => by have := HL.out.2.2.2 x hx; omega) u0 u1 u2 u3 u4
                go_wp2
                refine bodyPost_ret (v := .agg #[.slice (some ⟨g, 0, none⟩) ([] : List (List Int)).length c0, .slice a1 gs.length c1, .slice a2 ids.length c2, .int .i64 lv, .int .i64 l2]) (by rw [Tm.results_cell rfl]; go_simp) rfl (HP.out _ _ _ _ _)
              · obtain ⟨n, hn⟩ : ∃ n, xs.length = n := ⟨_, rfl⟩
                have HN : Hid (xs.length = n) := hn
                rw [hn] at p0
                have hn0 : 0 < n := by omega
                have hni : (0 : Int) < n := by omega
                have hl4 := HD.out.cu.lt
                have hcx : 0 < cx.length := by rw [HD.out.cl, HN.out]; exact hn0
                have hxx : 0 < xs.length := by rw [HN.out]; exact hn0
                obtain ⟨u0, hu0⟩ : ∃ u, cx[0] = u := ⟨_, rfl⟩
                obtain ⟨y0, hy0⟩ : ∃ u, xs[0] = u := ⟨_, rfl⟩
                have HU : Hid (cx[0] = u0) := hu0
                have HY : Hid (xs[0] = y0) := hy0
                have hy6 : y0.length ≤ 6 := by rw [← hy0]; exact HL.out.2.2.2 _ (List.getElem_mem hxx)
                have s1 : w4.drew.cell? ⟨g, 0, none⟩ = some u0 := by have := World.ownsRow.cellAt HD.out.ox 0 (by omega); rw [List.getElem?_eq_getElem hcx, hu0] at this; exact this
                clear hn hgz hu0 hy0
                go_wp2_with fail
                have D0 : Hid (type_of% HD.out.drew) := HD.out.drew
                have s0 : w4.drew.cell? ⟨bo, 0, none⟩ = some (.slice (some ⟨g, 0, none⟩) n c0) := p0
                clear p0 p1 p2 p3 p4 g0 g1 g2 g3 g4 hb6
                refine Hd.start (fun X => X.cell? ⟨bo, 0, none⟩ = some (.slice (some ⟨g, 0, none⟩) n c0) ∧ X.cell? ⟨g, 0, none⟩ = some u0) 11 (by kernel_rfl) ?_
                generalize w4.drew = w0 at D0 s0 s1 ⊢
                have hbo : bo < w0.heap.size := D0.out.bv.1
                have hgl : g < w0.heap.size := (World.ownsRow.lt D0.out.ox g rfl).2
                have HSX : Hid (∀ X : World, Below w0.heap.size w0 X → X.cell? ⟨bo, 0, none⟩ = some (.slice (some ⟨g, 0, none⟩) n c0) ∧ X.cell? ⟨g, 0, none⟩ = some u0) := fun X hX => ⟨(hX.cell (by exact hbo)).trans s0, (hX.cell (by exact hgl)).trans s1⟩
                refine Hd.After.pureD (i := 0) (some 71) (.pointer (some ⟨bo, 0, none⟩)) rfl rfl (by kernel_rfl) (by decide) (by kernel_rfl) (by kernel_rfl) (fun _ _ _ h => h) (⟨s0, s1⟩) (Or.inl ⟨by rfl, ?_⟩) ?_
                · intro X; go_simp; try with_reducible rfl
                (first | simp only [Act.put, List.setIfInBounds_toArray, List.set_cons_zero, List.set_cons_succ] | skip)
                refine Hd.After.takeD (i := 1) (some 72) (.slice (some ⟨g, 0, none⟩) n c0) rfl rfl (by kernel_rfl) (by kernel_rfl) (by kernel_rfl) (by kernel_rfl) (by kernel_rfl) (fun _ _ _ h => h) (⟨s0, s1⟩) (Or.inl ⟨by rfl, ?_⟩) ?_
                · rintro X ⟨s0, s1⟩; go_simp; try with_reducible rfl
                (first | simp only [Act.put, List.setIfInBounds_toArray, List.set_cons_zero, List.set_cons_succ] | skip)
                refine Hd.After.pureD (i := 2) (some 73) (.pointer (some ⟨bo, 0, none⟩)) rfl rfl (by kernel_rfl) (by decide) (by kernel_rfl) (by kernel_rfl) (fun _ _ _ h => h) (⟨s0, s1⟩) (Or.inl ⟨by rfl, ?_⟩) ?_
                · intro X; go_simp; try with_reducible rfl
                (first | simp only [Act.put, List.setIfInBounds_toArray, List.set_cons_zero, List.set_cons_succ] | skip)
                refine Hd.After.takeD (i := 3) (some 74) (.slice (some ⟨g, 0, none⟩) n c0) rfl rfl (by kernel_rfl) (by kernel_rfl) (by kernel_rfl) (by kernel_rfl) (by kernel_rfl) (fun _ _ _ h => h) (⟨s0, s1⟩) (Or.inl ⟨by rfl, ?_⟩) ?_
                · rintro X ⟨s0, s1⟩; go_simp; try with_reducible rfl
                (first | simp only [Act.put, List.setIfInBounds_toArray, List.set_cons_zero, List.set_cons_succ] | skip)
                refine Hd.After.pureD (i := 4) (some 75) (.pointer (some ⟨g, 0, none⟩)) rfl rfl (by kernel_rfl) (by decide) (by kernel_rfl) (by kernel_rfl) (fun _ _ _ h => h) (⟨s0, s1⟩) (Or.inl ⟨by rfl, ?_⟩) ?_
                · intro X; go_simp; try with_reducible rfl
                (first | simp only [Act.put, List.setIfInBounds_toArray, List.set_cons_zero, List.set_cons_succ] | skip)
                refine Hd.After.pureD (i := 5) (some 76) (.pointer (some ⟨g, 0, none⟩)) rfl rfl (by kernel_rfl) (by decide) (by kernel_rfl) (by kernel_rfl) (fun _ _ _ h => h) (⟨s0, s1⟩) (Or.inl ⟨by rfl, ?_⟩) ?_
                · intro X; go_simp; try with_reducible rfl
                (first | simp only [Act.put, List.setIfInBounds_toArray, List.set_cons_zero, List.set_cons_succ] | skip)
                refine Hd.After.takeD (i := 6) (some 77) (u0) rfl rfl (by kernel_rfl) (by kernel_rfl) (by kernel_rfl) (by kernel_rfl) (by kernel_rfl) (fun _ _ _ h => h) (⟨s0, s1⟩) (Or.inl ⟨by rfl, ?_⟩) ?_
                · rintro X ⟨s0, s1⟩; go_simp; try with_reducible rfl
                (first | simp only [Act.put, List.setIfInBounds_toArray, List.set_cons_zero, List.set_cons_succ] | skip)
                refine Hd.After.one (i := 7) (by kernel_rfl) rfl rfl ?_
                intro K hK
                go_simp
                refine hK _ _ (fun _ => HSX.out _ ((Below.refl _ _).alloc (Nat.le_refl _) _)) ?_
                clear hK K
                (first | simp only [Act.put, List.setIfInBounds_toArray, List.set_cons_zero, List.set_cons_succ] | skip)
                refine Hd.After.one (i := 8) (by kernel_rfl) rfl rfl ?_
                intro K hK
                obtain ⟨n1, n2⟩ := (D0.out.alloc (.cells #[.int .i64 1] 3)).nest 0 hcx hxx
                rw [HU.out] at n1 n2
                rw [HY.out] at n1
                refine Sn.wp_snocI _ _ rfl (some 79) rfl (bo + 1) u0 y0 w0.heap.size 1 rfl rfl (by simp) n1 (by simp; omega) (by omega) ?_
                intro g6 c6 w6 o6 hg6 hp6
                have hgE : (w0.alloc (.cells #[.int .i64 1] 3)).grownBy w6 cx[0].ownBlock := by rw [HU.out]; exact hg6
                have hpE : cx[0].ownBlock = some g6 ∨ (w0.alloc (.cells #[.int .i64 1] 3)).heap.size ≤ g6 := by rw [HU.out]; exact hp6
                obtain ⟨hb7, ⟨k0, k1, k2, k3, k4⟩, _⟩ := Sv.wr5 ((D0.out.alloc _).bvk hg6 (fun q e => by have := (n1.ge q e).1; omega))
                have hox6 : w6.ownsRow (bo + 1) 50 1 (.slice (some ⟨g, 0, none⟩) xs.length c0) xs.length cx := row_fr (D0.out.alloc _).ox (fr_of hg6) (fun q e e2 => (n2 q e2).1 e)
                have kg : w6.cell? ⟨g, 0, none⟩ = some u0 := by have := World.ownsRow.cellAt hox6 0 (by omega); rw [List.getElem?_eq_getElem hcx, HU.out] at this; exact this
                have kf : w6.frozen? ⟨g, 0, none⟩ = false := World.ownsRow.frozenAt hox6 0
                have kl : g < w6.heap.size := (World.ownsRow.lt hox6 g rfl).2
                have HDX : Hid (type_of% ((D0.out.alloc _).setX rfl hcx o6 hgE hpE)) := (D0.out.alloc _).setX rfl hcx o6 hgE hpE
                rw [HN.out] at k0
                clear n1 n2 hg6 hp6 o6 hgE hpE hox6 hb7 k1 k2 k3 k4
                refine hK _ _ (fun _ => ⟨k0, kg⟩) ?_
                clear hK K
                (first | simp only [Act.put, List.setIfInBounds_toArray, List.set_cons_zero, List.set_cons_succ] | skip)
                refine Hd.After.pureD (i := 9) (some 80) (.pointer (some ⟨g, 0, none⟩)) rfl rfl (by kernel_rfl) (by decide) (by kernel_rfl) (by kernel_rfl) (fun _ _ _ h => h) (⟨k0, kg⟩) (Or.inl ⟨by rfl, ?_⟩) ?_
                · intro X; go_simp; try with_reducible rfl
                (first | simp only [Act.put, List.setIfInBounds_toArray, List.set_cons_zero, List.set_cons_succ] | skip)
                refine Hd.After.pureD (i := 10) (some 81) (.pointer (some ⟨g, 0, none⟩)) rfl rfl (by kernel_rfl) (by decide) (by kernel_rfl) (by kernel_rfl) (fun _ _ _ h => h) (⟨k0, kg⟩) (Or.inl ⟨by rfl, ?_⟩) ?_
                · intro X; go_simp; try with_reducible rfl
                (first | simp only [Act.put, List.setIfInBounds_toArray, List.set_cons_zero, List.set_cons_succ] | skip)
                refine Hd.After.one (i := 11) (by kernel_rfl) rfl rfl ?_
                intro K hK
                go_simp
                refine hK _ _ (fun h => by cases h) ?_
                clear hK K
                refine Hd.After.done (by kernel_rfl) ?_ _
                clear kg kf kl k0 D0 HSX
                rw [HN.out] at HDX
                have HD := HDX
                obtain ⟨hbl, ⟨q0, q1, q2, q3, q4⟩, _⟩ := Sv.wr5 (HD.out).bv
                obtain ⟨hrl, ⟨r0, r1, r2, r3, r4⟩, f0, f1, f2, f3, f4⟩ := wr5' (HD.out).br
                have hne : ¬ bo = w.heap.size := (by have := (HD.out).lo; omega)
                have hne2 : ¬ w.heap.size = bo := (by have := (HD.out).lo; omega)
                have HP : Hid (∀ u0 u1 u2 u3 u4 : Value, RowsPost w b K _ _) := fun u0 u1 u2 u3 u4 => done_post (K0 := K) (HD.out) (by omega) (by have := HL.out.1; simp; omega) (by have := HL.out.2.1; omega) (by have := HL.out.2.2.1; omega) (set_mem (fun x hx => by have := HL.out.2.2.2 x hx; omega) (by simp; omega)) u0 u1 u2 u3 u4
                go_wp2
                refine bodyPost_ret (v := .agg #[.slice (some ⟨g, 0, none⟩) n c0, .slice a1 gs.length c1, .slice a2 ids.length c2, .int .i64 lv, .int .i64 l2]) (by rw [Tm.results_cell rfl]; go_simp) rfl (HP.out _ _ _ _ _)
      · skip
        obtain ⟨K1, hK1⟩ : ∃ K1, K + 100 + 30 * (10 - (k : Int)) = K1 := ⟨_, rfl⟩
        rw [hK1] at hdr
        have hK2 : K1 ≤ 1000000001000 := by omega
        have HK1 : Hid (K + 100 + 30 * (10 - (k : Int)) = K1) := hK1
        clear hK1
        have hlti : (0 : Int) < k := by omega
        go_wp2_with fail
        obtain ⟨X, hX, hsX, hbX, bv⟩ := Sv.new1 wr [.slice none 0 0] 50
        rw [hX]
        have hund := hdr.und
        have hbo : bo < wr.heap.size := hdr.bv.1
        have HDX : Hid (type_of% (hdr.below hbX)) := hdr.below hbX
        obtain ⟨Bq, hBq⟩ : ∃ Bq, wr.heap.size = Bq := ⟨_, rfl⟩
        rw [hBq] at hsX bv hund hbo ⊢
        have HU : Hid (type_of% hund) := hund
        have HBV : Hid (type_of% bv) := bv
        have hbB : b < Bq := by have := hdr.lo; omega
        have hlo := hdr.lo
        clear hX hbX hund bv hBq hsX hdr
        go_loopw [6] (fun i wr => ∃ f : Nat, f ≤ 6 ∧ i = .int .i64 f ∧ ∃ vv ys, Wr wr Bq 0 [vv] ∧ Own wr (Bq + 1) vv ys ∧ ys.length = f ∧ DR w wr b bo (K1 + f) vx vg vi lv l2 cx xs gs ids) (fun i _ => 6 - (intOf i).toNat)
        case atStart => exact ⟨0, by omega, rfl, _, [], HBV.out, World.ownsRow_nil _ _ _ _, rfl, HDX.out.mono (by omega)⟩
        case round =>
          obtain ⟨f, hf, rfl, vv, ys, bv, oy, hy, hdr⟩ := hrel
          clear HDX HBV
          by_cases hlf : f < 6
          · have hlfi : (f : Int) < 6 := by omega
            have HYF : Hid (ys.length = f) := hy
            clear hy
            go_wp2_with fail
            have D0 : Hid (type_of% hdr.drew) := hdr.drew
            have B0 : Wr wr.drew Bq 0 [vv] := bv
            have O0 : Own wr.drew (Bq + 1) vv ys := oy
            have s0 : wr.drew.cell? ⟨Bq, 0, none⟩ = some vv := (Sv.wr1 bv).2.1
            clear bv oy hdr
            refine Hd.start (fun X => X.cell? ⟨Bq, 0, none⟩ = some vv) 8 (by kernel_rfl) ?_
            generalize wr.drew = w0 at D0 B0 O0 s0 ⊢
            refine Hd.After.pureD (i := 0) (some 27) (.pointer (some ⟨Bq, 0, none⟩)) rfl rfl (by kernel_rfl) (by decide) (by kernel_rfl) (by kernel_rfl) (fun _ _ _ h => h) (s0) (Or.inl ⟨by rfl, ?_⟩) ?_
            · intro X; go_simp; try with_reducible rfl
            (first | simp only [Act.put, List.setIfInBounds_toArray, List.set_cons_zero, List.set_cons_succ] | skip)
            refine Hd.After.takeD (i := 1) (some 28) (vv) rfl rfl (by kernel_rfl) (by kernel_rfl) (by kernel_rfl) (by kernel_rfl) (by kernel_rfl) (fun _ _ _ h => h) (s0) (Or.inl ⟨by rfl, ?_⟩) ?_
            · rintro X s0; go_simp; try with_reducible rfl
            (first | simp only [Act.put, List.setIfInBounds_toArray, List.set_cons_zero, List.set_cons_succ] | skip)
            refine Hd.After.pureD (i := 2) (some 29) (.pointer (some ⟨b, 0, none⟩)) rfl rfl (by kernel_rfl) (by decide) (by kernel_rfl) (by kernel_rfl) (fun _ _ _ h => h) (s0) (Or.inl ⟨by rfl, ?_⟩) ?_
            · intro X; go_simp; try with_reducible rfl
            (first | simp only [Act.put, List.setIfInBounds_toArray, List.set_cons_zero, List.set_cons_succ] | skip)
            refine Hd.After.one (i := 3) (by kernel_rfl) rfl rfl ?_
            intro K hK
            go_simp
            go_wp2_with (go_at_call 42; refine (Cu.pick_any _ _ _ D0.out.cu (by omega) _ (by omega)).mono ?_; rintro e w3 ⟨y, rfl, y0, y1, hg3, hz3, hc3⟩)
            replace D0 : Hid (type_of% (D0.out.cur hg3 hc3)) := D0.out.cur hg3 hc3
            replace B0 := wr_cur B0 hbB hg3
            replace O0 := Ai.own_cur O0 hg3 (by omega)
            clear hg3 hc3 hz3 y0 y1 s0
            refine hK _ _ (fun _ => (Sv.wr1 B0).2.1) ?_
            clear hK K
            (first | simp only [Act.put, List.setIfInBounds_toArray, List.set_cons_zero, List.set_cons_succ] | skip)
            refine Hd.After.pureD (i := 4) (some 31) (.int .i64 (IntKind.i64.wrap (y * 1000))) rfl rfl (by kernel_rfl) (by decide) (by kernel_rfl) (by kernel_rfl) (fun _ _ _ h => h) ((Sv.wr1 B0).2.1) (Or.inl ⟨by rfl, ?_⟩) ?_
            · intro X; go_simp; try with_reducible rfl
            (first | simp only [Act.put, List.setIfInBounds_toArray, List.set_cons_zero, List.set_cons_succ] | skip)
            refine Hd.After.one (i := 5) (by kernel_rfl) rfl rfl ?_
            intro K hK
            go_simp
            refine hK _ _ (fun _ => (Sv.wr1 (B0.alloc _)).2.1) ?_
            clear hK K
            (first | simp only [Act.put, List.setIfInBounds_toArray, List.set_cons_zero, List.set_cons_succ] | skip)
            obtain ⟨X5, hX5, hs5, hb5, t5⟩ := Sv.new1 w3 [.int .i64 (IntKind.i64.wrap (y * 1000))] 3
            rw [hX5]
            replace D0 : Hid (type_of% (D0.out.below hb5)) := D0.out.below hb5
            replace B0 := B0.below hb5
            replace O0 := O0.below hb5
            have t0 := (Sv.wr1 t5).2.1
            have hl5 := B0.1
            clear hX5 hs5 hb5 t5
            refine Hd.After.one (i := 6) (by kernel_rfl) rfl rfl ?_
            intro K hK
            refine Sn.wp_snocI _ _ rfl (some 33) rfl (Bq + 1) vv ys w3.heap.size _ rfl rfl t0 O0 (by omega) (by rw [HYF.out]; omega) ?_
            intro g6 c6 w6 o6 hg6 hp6
            have hvB : ∀ q, vv.ownBlock = some q → Bq + 1 ≤ q := fun q e => (O0.ge q e).1
            have D6 : Hid (type_of% (D0.out.keptU HU.out hbo (fr_of hg6) (fun q e => by have := hvB q e; omega))) := D0.out.keptU HU.out hbo (fr_of hg6) (fun q e => by have := hvB q e; omega)
            have B6 := B0.keptAt hg6.size (hg6.block Bq B0.1 (fun e => by have := hvB Bq e.symm; omega))
            clear hg6 hp6 hvB t0 O0 D0 B0
            refine hK _ _ (fun _ => (Sv.wr1 B6).2.1) ?_
            clear hK K
            (first | simp only [Act.put, List.setIfInBounds_toArray, List.set_cons_zero, List.set_cons_succ] | skip)
            refine Hd.After.pureD (i := 7) (some 34) (.pointer (some ⟨Bq, 0, none⟩)) rfl rfl (by kernel_rfl) (by decide) (by kernel_rfl) (by kernel_rfl) (fun _ _ _ h => h) ((Sv.wr1 B6).2.1) (Or.inl ⟨by rfl, ?_⟩) ?_
            · intro X; go_simp; try with_reducible rfl
            (first | simp only [Act.put, List.setIfInBounds_toArray, List.set_cons_zero, List.set_cons_succ] | skip)
            obtain ⟨hl6, q6, f6⟩ := Sv.wr1 B6
            have B7 : Hid (Wr (w6.setCell ⟨Bq, 0, none⟩ (.slice (some ⟨g6, 0, none⟩) (ys.length + 1) c6)) Bq 0 [.slice (some ⟨g6, 0, none⟩) (ys.length + 1) c6]) := by show Wr _ _ _ _; have := B6.set 0 (by simp) (.slice (some ⟨g6, 0, none⟩) (ys.length + 1) c6); simpa using this
            have D7 : Hid (type_of% (D6.out.keptU HU.out hbo (fr_of (Li.grown_set w6 Bq 0 (.slice (some ⟨g6, 0, none⟩) (ys.length + 1) c6))) (fun q e => by simp at e; omega))) := D6.out.keptU HU.out hbo (fr_of (Li.grown_set w6 Bq 0 (.slice (some ⟨g6, 0, none⟩) (ys.length + 1) c6))) (fun q e => by simp at e; omega)
            have O7 : Hid (Own (w6.setCell ⟨Bq, 0, none⟩ (.slice (some ⟨g6, 0, none⟩) (ys.length + 1) c6)) (Bq + 1) (.slice (some ⟨g6, 0, none⟩) (ys.length + 1) c6) (ys ++ [IntKind.i64.wrap (y * 1000)])) := fr1 o6 (by omega)
            clear B6 D6 o6
            refine Hd.After.one (i := 8) (by kernel_rfl) rfl rfl ?_
            intro K hK
            go_simp
            refine hK _ _ (fun h => by cases h) ?_
            clear hK K
            refine Hd.After.done (by kernel_rfl) ?_ _
            clear q6 f6
            go_wp2
            go_roundw
            case rel => exact ⟨f + 1, by omega, by go_num, _, _, B7.out, O7.out, by simp [HYF.out], D7.out.mono (by omega)⟩
            case measure => simp [intOf]; omega
          · obtain rfl : f = 6 := by omega
            have hlfi : ¬ ((6 : Nat) : Int) < 6 := by omega
            obtain ⟨av, cv, rfl, -⟩ := oy.isl
            have HYF : Hid (ys.length = 6) := hy
            rw [hy] at oy bv
            have HOY : Hid (Own wr (Bq + 1) (.slice av 6 cv) ys) := oy
            have HD : Hid (type_of% hdr) := hdr
            obtain ⟨hbq, bq0, _⟩ := Sv.wr1 bv
            obtain ⟨hb6, ⟨p0, p1, p2, p3, p4⟩, g0, g1, g2, g3, g4⟩ := Sv.wr5 hdr.bv
            have hlw := hdr.cu.lt
            clear bv hdr oy hy hlf hf
            have HO1 : Hid (Own (wr.alloc (.cells #[.slice av 6 cv] 50)) (bo + 1) (.slice av 6 cv) ys) := Tm.ownsRow_mono (HOY.out.below ((Below.refl _ _).alloc (Nat.le_refl _) _)) (by omega)
            have HAP : Hid (∀ q, (Value.slice av 6 cv).ownBlock = some q → ¬ vx.ownBlock = some q ∧ ¬ vg.ownBlock = some q ∧ ¬ vi.ownBlock = some q ∧ ∀ i (hi : i < cx.length), ¬ cx[i].ownBlock = some q) := fun q e => by
              have h1 := (HOY.out.ge q e).1
              obtain ⟨u0, u1, u2, u3⟩ := HU.out
              exact ⟨fun e2 => by have := u0 q e2; omega, fun e2 => by have := u1 q e2; omega, fun e2 => by have := u2 q e2; omega, fun i hi e2 => by have := u3 i hi q e2; omega⟩
            go_wp2_with (at_builtin; refine Sn.wpl_snocV rfl _ _ rfl (bo + 1) vx xs.length cx wr.heap.size (.slice av 6 cv) rfl rfl rfl (by simp) ((HD.out.alloc _).ox) (by simp; omega) (by have := HL.out.1; omega) ?_; intro g c w6 o6 hg6 hp6; obtain ⟨hb7, ⟨k0, k1, k2, k3, k4⟩, j0, j1, j2, j3, j4⟩ := Sv.wr5 ((HD.out.alloc _).bvk hg6 (fun q e => (by have := (World.ownsRow.lt HD.out.ox q e).1; omega))); have HDP : Hid (type_of% ((HD.out.alloc _).putX HO1.out HAP.out o6 hg6 hp6)) := (HD.out.alloc _).putX HO1.out HAP.out o6 hg6 hp6; clear o6 hp6)
            clear k0 k1 k2 k3 k4 j0 j1 j2 j3 j4 hb7 hb6 p0 p1 p2 p3 p4 g0 g1 g2 g3 g4 bq0 hbq
            obtain ⟨W7, hW7⟩ : ∃ W, w6.setCell ⟨bo, 0, none⟩ (.slice (some ⟨g, 0, none⟩) (xs.length + 1) c) = W := ⟨_, rfl⟩
            rw [hW7] at HDP ⊢
            clear hW7 HD hg6
            have hl7 := HDP.out.cu.lt
            have D0 : Hid (type_of% HDP.out.drew) := HDP.out.drew
            have s0 : W7.drew.cell? ⟨bo, 1, none⟩ = some vg := (Sv.wr5 HDP.out.bv).2.1.2.1
            clear HDP
            refine Hd.start (fun X => X.cell? ⟨bo, 1, none⟩ = some vg) 13 (by kernel_rfl) ?_
            generalize W7.drew = w0 at D0 s0 ⊢
            refine Hd.After.pureD (i := 0) (some 41) (.pointer (some ⟨bo, 1, none⟩)) rfl rfl (by kernel_rfl) (by decide) (by kernel_rfl) (by kernel_rfl) (fun _ _ _ h => h) (s0) (Or.inl ⟨by rfl, ?_⟩) ?_
            · intro X; go_simp; try with_reducible rfl
            (first | simp only [Act.put, List.setIfInBounds_toArray, List.set_cons_zero, List.set_cons_succ] | skip)
            refine Hd.After.takeD (i := 1) (some 42) (vg) rfl rfl (by kernel_rfl) (by kernel_rfl) (by kernel_rfl) (by kernel_rfl) (by kernel_rfl) (fun _ _ _ h => h) (s0) (Or.inl ⟨by rfl, ?_⟩) ?_
            · rintro X s0; go_simp; try with_reducible rfl
            (first | simp only [Act.put, List.setIfInBounds_toArray, List.set_cons_zero, List.set_cons_succ] | skip)
            refine Hd.After.pureD (i := 2) (some 43) (.pointer (some ⟨b, 0, none⟩)) rfl rfl (by kernel_rfl) (by decide) (by kernel_rfl) (by kernel_rfl) (fun _ _ _ h => h) (s0) (Or.inl ⟨by rfl, ?_⟩) ?_
            · intro X; go_simp; try with_reducible rfl
            (first | simp only [Act.put, List.setIfInBounds_toArray, List.set_cons_zero, List.set_cons_succ] | skip)
            refine Hd.After.pureD (i := 6) (some 47) (.pointer (some ⟨b, 0, none⟩)) rfl rfl (by kernel_rfl) (by decide) (by kernel_rfl) (by kernel_rfl) (fun _ _ _ h => h) (s0) (Or.inl ⟨by rfl, ?_⟩) ?_
            · intro X; go_simp; try with_reducible rfl
            (first | simp only [Act.put, List.setIfInBounds_toArray, List.set_cons_zero, List.set_cons_succ] | skip)
            refine Hd.After.one (i := 3) (by kernel_rfl) rfl rfl ?_
            intro K hK
            go_simp
            go_wp2_with (go_at_call 42; refine (Cu.pick_any _ _ _ D0.out.cu (by omega) _ (by omega)).mono ?_; rintro e w8 ⟨y, rfl, y0, y1, hg8, hz8, hc8⟩)
            replace D0 : Hid (type_of% (D0.out.cur hg8 hc8)) := D0.out.cur hg8 hc8
            clear hg8 hc8 hz8 y0 y1 s0
            have hl8 := D0.out.cu.lt
            refine hK _ _ (fun _ => (Sv.wr5 D0.out.bv).2.1.2.1) ?_
            clear hK K
            (first | simp only [Act.put, List.setIfInBounds_toArray, List.set_cons_zero, List.set_cons_succ] | skip)
            refine Hd.After.pureD (i := 4) (some 45) (.int .i64 (IntKind.i64.wrap (y * 11))) rfl rfl (by kernel_rfl) (by decide) (by kernel_rfl) (by kernel_rfl) (fun _ _ _ h => h) ((Sv.wr5 D0.out.bv).2.1.2.1) (Or.inl ⟨by rfl, ?_⟩) ?_
            · intro X; go_simp; try with_reducible rfl
            (first | simp only [Act.put, List.setIfInBounds_toArray, List.set_cons_zero, List.set_cons_succ] | skip)
            refine Hd.After.two (i := 5) (j := 7) (by kernel_rfl) rfl rfl rfl rfl ?_ ?_
            · intro K hK
              go_simp
              refine hK _ _ (fun _ => (Sv.wr5 (D0.out.alloc _).bv).2.1.2.1) ?_
              clear hK K
              (first | simp only [Act.put, List.setIfInBounds_toArray, List.set_cons_zero, List.set_cons_succ] | skip)
              obtain ⟨X9, hX9, hs9, hb9, tb⟩ := Sv.new1 w8 [.int .i64 0, .int .i64 1000, .int .i64 (-1000), .int .i64 500, .int .i64 (-2500), .int .i64 2000000, .int .i64 (IntKind.i64.wrap (y * 11))] 3
              rw [hX9]
              have D1 : Hid (type_of% (D0.out.below hb9)) := D0.out.below hb9
              clear hX9 hs9 hb9
              refine Hd.After.one (i := 7) (by kernel_rfl) rfl rfl ?_
              intro K hK
              go_simp
              go_wp2_with (go_at_call 42; refine (Cu.pick_any _ _ _ D1.out.cu (by omega) _ (by omega)).mono ?_; rintro e w9 ⟨u, rfl, u0, u1, hg9, hz9, hc9⟩)
              have D2 : Hid (type_of% (D1.out.cur hg9 hc9)) := D1.out.cur hg9 hc9
              have u2 := u1 (by omega)
              have hl9 := D2.out.cu.lt
              replace tb := wr_cur tb hl8 hg9
              clear hg9 hc9 hz9 u1
              refine hK _ _ (fun _ => (Sv.wr5 D2.out.bv).2.1.2.1) ?_
              clear hK K
              (first | simp only [Act.put, List.setIfInBounds_toArray, List.set_cons_zero, List.set_cons_succ] | skip)
              obtain ⟨z, hz⟩ := wr_num [0, 1000, -1000, 500, -2500, 2000000, IntKind.i64.wrap (y * 11)] tb u.toNat (by simp; omega)
              have u7 : u < 7 := by omega
              have hgt := tb.1
              have hlZ := D2.out.cu.lt
              refine Hd.After.pureD (i := 8) (some 49) (.pointer (some ⟨w8.heap.size, u.toNat, none⟩)) rfl rfl (by kernel_rfl) (by decide) (by kernel_rfl) (by kernel_rfl) (fun _ _ _ h => h) ((Sv.wr5 D2.out.bv).2.1.2.1) (Or.inl ⟨by rfl, ?_⟩) ?_
              · intro X; go_simp; try with_reducible rfl
              (first | simp only [Act.put, List.setIfInBounds_toArray, List.set_cons_zero, List.set_cons_succ] | skip)
              refine Hd.After.one (i := 9) (by kernel_rfl) rfl rfl ?_
              intro K hK
              go_simp
              refine hK _ _ (fun _ => (Sv.wr5 D2.out.bv).2.1.2.1) ?_
              clear hK K
              (first | simp only [Act.put, List.setIfInBounds_toArray, List.set_cons_zero, List.set_cons_succ] | skip)
              refine Hd.After.one (i := 10) (by kernel_rfl) rfl rfl ?_
              intro K hK
              go_simp
              refine hK _ _ (fun _ => (Sv.wr5 (D2.out.alloc _).bv).2.1.2.1) ?_
              clear hK K
              (first | simp only [Act.put, List.setIfInBounds_toArray, List.set_cons_zero, List.set_cons_succ] | skip)
              obtain ⟨XA, hXA, hsA, hbA, tA⟩ := Sv.new1 w9 [.int .i64 z] 3
              rw [hXA]
              replace D2 : Hid (type_of% (D2.out.below hbA)) := D2.out.below hbA
              have t0 := (Sv.wr1 tA).2.1
              have hblA : bo < XA.heap.size := D2.out.bv.1
              clear hXA hsA hbA tA hz hgt tb
              refine Hd.After.one (i := 11) (by kernel_rfl) rfl rfl ?_
              intro K hK
              refine Sn.wp_snocI _ _ rfl (some 52) rfl (bo + 1) vg gs w9.heap.size _ rfl rfl t0 D2.out.og (by omega) (by have := HL.out.2.1; omega) ?_
              intro gb cb wB oB hgB hpB
              have DB : Hid (type_of% (D2.out.putG oB hgB hpB)) := D2.out.putG oB hgB hpB
              obtain ⟨hbB7, ⟨k0, k1, k2, k3, k4⟩, j0, j1, j2, j3, j4⟩ := Sv.wr5 (D2.out.bvk hgB (fun q e => by have := (D2.out.og.ge q e).1; omega))
              clear hgB hpB oB t0 D2
              refine hK _ _ (fun _ => k1) ?_
              clear hK K
              (first | simp only [Act.put, List.setIfInBounds_toArray, List.set_cons_zero, List.set_cons_succ] | skip)
              refine Hd.After.pureD (i := 12) (some 53) (.pointer (some ⟨bo, 1, none⟩)) rfl rfl (by kernel_rfl) (by decide) (by kernel_rfl) (by kernel_rfl) (fun _ _ _ h => h) (k1) (Or.inl ⟨by rfl, ?_⟩) ?_
              · intro X; go_simp; try with_reducible rfl
              (first | simp only [Act.put, List.setIfInBounds_toArray, List.set_cons_zero, List.set_cons_succ] | skip)
              refine Hd.After.one (i := 13) (by kernel_rfl) rfl rfl ?_
              intro K hK
              go_simp
              refine hK _ _ (fun h => by cases h) ?_
              clear hK K
              refine Hd.After.done (by kernel_rfl) ?_ _
              clear k0 k1 k2 k3 k4 j0 j1 j2 j3 j4 hbB7
              obtain ⟨WB, hWB⟩ : ∃ W, wB.setCell ⟨bo, 1, none⟩ (.slice (some ⟨gb, 0, none⟩) (gs.length + 1) cb) = W := ⟨_, rfl⟩
              rw [hWB] at DB ⊢
              clear hWB
              go_wp2_with fail
              have hlB := DB.out.cu.lt
              have E0 : Hid (type_of% DB.out.drew) := DB.out.drew
              have s0 : WB.drew.cell? ⟨bo, 2, none⟩ = some vi := (Sv.wr5 DB.out.bv).2.1.2.2.1
              have s1 : WB.drew.cell? ⟨bo, 3, none⟩ = some (.int .i64 lv) := (Sv.wr5 DB.out.bv).2.1.2.2.2.1
              clear DB
              refine Hd.start (fun X => X.cell? ⟨bo, 2, none⟩ = some vi ∧ X.cell? ⟨bo, 3, none⟩ = some (.int .i64 lv)) 9 (by kernel_rfl) ?_
              generalize WB.drew = w0 at E0 s0 s1 ⊢
              refine Hd.After.pureD (i := 0) (some 54) (.pointer (some ⟨bo, 2, none⟩)) rfl rfl (by kernel_rfl) (by decide) (by kernel_rfl) (by kernel_rfl) (fun _ _ _ h => h) (⟨s0, s1⟩) (Or.inl ⟨by rfl, ?_⟩) ?_
              · intro X; go_simp; try with_reducible rfl
              (first | simp only [Act.put, List.setIfInBounds_toArray, List.set_cons_zero, List.set_cons_succ] | skip)
              refine Hd.After.takeD (i := 1) (some 55) (vi) rfl rfl (by kernel_rfl) (by kernel_rfl) (by kernel_rfl) (by kernel_rfl) (by kernel_rfl) (fun _ _ _ h => h) (⟨s0, s1⟩) (Or.inl ⟨by rfl, ?_⟩) ?_
              · rintro X ⟨s0, s1⟩; go_simp; try with_reducible rfl
              (first | simp only [Act.put, List.setIfInBounds_toArray, List.set_cons_zero, List.set_cons_succ] | skip)
              refine Hd.After.pureD (i := 2) (some 56) (.pointer (some ⟨b, 0, none⟩)) rfl rfl (by kernel_rfl) (by decide) (by kernel_rfl) (by kernel_rfl) (fun _ _ _ h => h) (⟨s0, s1⟩) (Or.inl ⟨by rfl, ?_⟩) ?_
              · intro X; go_simp; try with_reducible rfl
              (first | simp only [Act.put, List.setIfInBounds_toArray, List.set_cons_zero, List.set_cons_succ] | skip)
              refine Hd.After.pureD (i := 3) (some 57) (.pointer (some ⟨bo, 3, none⟩)) rfl rfl (by kernel_rfl) (by decide) (by kernel_rfl) (by kernel_rfl) (fun _ _ _ h => h) (⟨s0, s1⟩) (Or.inl ⟨by rfl, ?_⟩) ?_
              · intro X; go_simp; try with_reducible rfl
              (first | simp only [Act.put, List.setIfInBounds_toArray, List.set_cons_zero, List.set_cons_succ] | skip)
              refine Hd.After.takeD (i := 4) (some 58) (.int .i64 lv) rfl rfl (by kernel_rfl) (by kernel_rfl) (by kernel_rfl) (by kernel_rfl) (by kernel_rfl) (fun _ _ _ h => h) (⟨s0, s1⟩) (Or.inl ⟨by rfl, ?_⟩) ?_
              · rintro X ⟨s0, s1⟩; go_simp; try with_reducible rfl
              (first | simp only [Act.put, List.setIfInBounds_toArray, List.set_cons_zero, List.set_cons_succ] | skip)
              refine Hd.After.one (i := 5) (by kernel_rfl) rfl rfl ?_
              intro K hK
              go_simp
              go_wp2_with (go_at_call 42; refine (Cu.pick_any _ _ _ E0.out.cu (by omega) _ (by omega)).mono ?_; rintro e wC ⟨t, rfl, t0, t1, hgC, hzC, hcC⟩)
              replace E0 : Hid (type_of% (E0.out.cur hgC hcC)) := E0.out.cur hgC hcC
              clear hgC hcC hzC t0 t1 s0 s1
              have hlC := E0.out.cu.lt
              refine hK _ _ (fun _ => ⟨(Sv.wr5 E0.out.bv).2.1.2.2.1, (Sv.wr5 E0.out.bv).2.1.2.2.2.1⟩) ?_
              clear hK K
              (first | simp only [Act.put, List.setIfInBounds_toArray, List.set_cons_zero, List.set_cons_succ] | skip)
              refine Hd.After.one (i := 6) (by kernel_rfl) rfl rfl ?_
              intro K hK
              go_simp
              refine hK _ _ (fun _ => ⟨(Sv.wr5 (E0.out.alloc _).bv).2.1.2.2.1, (Sv.wr5 (E0.out.alloc _).bv).2.1.2.2.2.1⟩) ?_
              clear hK K
              (first | simp only [Act.put, List.setIfInBounds_toArray, List.set_cons_zero, List.set_cons_succ] | skip)
              obtain ⟨XD, hXD, hsD, hbD, tD⟩ := Sv.new1 wC [.int .i64 t] 3
              rw [hXD]
              replace E0 : Hid (type_of% (E0.out.below hbD)) := E0.out.below hbD
              have t0 := (Sv.wr1 tD).2.1
              have hblD : bo < XD.heap.size := E0.out.bv.1
              clear hXD hsD hbD tD
              refine Hd.After.one (i := 7) (by kernel_rfl) rfl rfl ?_
              intro K hK
              refine Sn.wp_snocI _ _ rfl (some 61) rfl (bo + 1) vi ids wC.heap.size _ rfl rfl t0 E0.out.oi (by omega) (by have := HL.out.2.2.1; omega) ?_
              intro ge ce wE oE hgE hpE
              have DE : Hid (type_of% (E0.out.putI oE hgE hpE)) := E0.out.putI oE hgE hpE
              obtain ⟨hbE7, ⟨k0, k1, k2, k3, k4⟩, j0, j1, j2, j3, j4⟩ := Sv.wr5 (E0.out.bvk hgE (fun q e => by have := (E0.out.oi.ge q e).1; omega))
              clear hgE hpE oE t0 E0
              refine hK _ _ (fun _ => ⟨k2, k3⟩) ?_
              clear hK K
              (first | simp only [Act.put, List.setIfInBounds_toArray, List.set_cons_zero, List.set_cons_succ] | skip)
              refine Hd.After.pureD (i := 8) (some 62) (.pointer (some ⟨bo, 2, none⟩)) rfl rfl (by kernel_rfl) (by decide) (by kernel_rfl) (by kernel_rfl) (fun _ _ _ h => h) (⟨k2, k3⟩) (Or.inl ⟨by rfl, ?_⟩) ?_
              · intro X; go_simp; try with_reducible rfl
              (first | simp only [Act.put, List.setIfInBounds_toArray, List.set_cons_zero, List.set_cons_succ] | skip)
              refine Hd.After.one (i := 9) (by kernel_rfl) rfl rfl ?_
              intro K hK
              go_simp
              refine hK _ _ (fun h => by cases h) ?_
              clear hK K
              refine Hd.After.done (by kernel_rfl) ?_ _
              clear k0 k1 k2 k3 k4 j0 j1 j2 j3 j4 hbE7
              go_wp2
              go_roundw
              case rel => exact ⟨k - 1, by omega, by have h9 : ((k - 1 : Nat) : Int) = (k : Int) - 1 := (by omega); rw [h9], _, _, _, _, _, _, _, DE.out.mono (by have := HK1.out; omega), lens_step (by have h1 := HL.out; rw [show k - 1 + 1 = k by omega]; exact h1) HYF.out⟩
              case measure => simp [intOf]; omega
            · intro K hK
              go_simp
              go_wp2_with (go_at_call 42; refine (Cu.pick_any _ _ _ D0.out.cu (by omega) _ (by omega)).mono ?_; rintro e w9 ⟨u, rfl, u0, u1, hg9, hz9, hc9⟩)
              have D1 : Hid (type_of% (D0.out.cur hg9 hc9)) := D0.out.cur hg9 hc9
              have u2 := u1 (by omega)
              have hl9 := D1.out.cu.lt
              clear hg9 hc9 hz9 u1
              refine hK _ _ (fun _ => (Sv.wr5 D1.out.bv).2.1.2.1) ?_
              clear hK K
              (first | simp only [Act.put, List.setIfInBounds_toArray, List.set_cons_zero, List.set_cons_succ] | skip)
              refine Hd.After.one (i := 5) (by kernel_rfl) rfl rfl ?_
              intro K hK
              go_simp
              refine hK _ _ (fun _ => (Sv.wr5 (D1.out.alloc _).bv).2.1.2.1) ?_
              clear hK K
              (first | simp only [Act.put, List.setIfInBounds_toArray, List.set_cons_zero, List.set_cons_succ] | skip)
              obtain ⟨X9, hX9, hs9, hb9, tb⟩ := Sv.new1 w9 [.int .i64 0, .int .i64 1000, .int .i64 (-1000), .int .i64 500, .int .i64 (-2500), .int .i64 2000000, .int .i64 (IntKind.i64.wrap (y * 11))] 3
              rw [hX9]
              have D2 : Hid (type_of% (D1.out.below hb9)) := D1.out.below hb9
              clear hX9 hs9 hb9
              obtain ⟨z, hz⟩ := wr_num [0, 1000, -1000, 500, -2500, 2000000, IntKind.i64.wrap (y * 11)] tb u.toNat (by simp; omega)
              have u7 : u < 7 := by omega
              have hgt := tb.1
              have hlZ := D2.out.cu.lt
              refine Hd.After.pureD (i := 8) (some 49) (.pointer (some ⟨w9.heap.size, u.toNat, none⟩)) rfl rfl (by kernel_rfl) (by decide) (by kernel_rfl) (by kernel_rfl) (fun _ _ _ h => h) ((Sv.wr5 D2.out.bv).2.1.2.1) (Or.inl ⟨by rfl, ?_⟩) ?_
              · intro X; go_simp; try with_reducible rfl
              (first | simp only [Act.put, List.setIfInBounds_toArray, List.set_cons_zero, List.set_cons_succ] | skip)
              refine Hd.After.one (i := 9) (by kernel_rfl) rfl rfl ?_
              intro K hK
              go_simp
              refine hK _ _ (fun _ => (Sv.wr5 D2.out.bv).2.1.2.1) ?_
              clear hK K
              (first | simp only [Act.put, List.setIfInBounds_toArray, List.set_cons_zero, List.set_cons_succ] | skip)
              refine Hd.After.one (i := 10) (by kernel_rfl) rfl rfl ?_
              intro K hK
              go_simp
              refine hK _ _ (fun _ => (Sv.wr5 (D2.out.alloc _).bv).2.1.2.1) ?_
              clear hK K
              (first | simp only [Act.put, List.setIfInBounds_toArray, List.set_cons_zero, List.set_cons_succ] | skip)
              obtain ⟨XA, hXA, hsA, hbA, tA⟩ := Sv.new1 X9 [.int .i64 z] 3
              rw [hXA]
              replace D2 : Hid (type_of% (D2.out.below hbA)) := D2.out.below hbA
              have t0 := (Sv.wr1 tA).2.1
              have hblA : bo < XA.heap.size := D2.out.bv.1
              clear hXA hsA hbA tA hz hgt tb
              refine Hd.After.one (i := 11) (by kernel_rfl) rfl rfl ?_
              intro K hK
              refine Sn.wp_snocI _ _ rfl (some 52) rfl (bo + 1) vg gs X9.heap.size _ rfl rfl t0 D2.out.og (by omega) (by have := HL.out.2.1; omega) ?_
              intro gb cb wB oB hgB hpB
              have DB : Hid (type_of% (D2.out.putG oB hgB hpB)) := D2.out.putG oB hgB hpB
              obtain ⟨hbB7, ⟨k0, k1, k2, k3, k4⟩, j0, j1, j2, j3, j4⟩ := Sv.wr5 (D2.out.bvk hgB (fun q e => by have := (D2.out.og.ge q e).1; omega))
              clear hgB hpB oB t0 D2
              refine hK _ _ (fun _ => k1) ?_
              clear hK K
              (first | simp only [Act.put, List.setIfInBounds_toArray, List.set_cons_zero, List.set_cons_succ] | skip)
              refine Hd.After.pureD (i := 12) (some 53) (.pointer (some ⟨bo, 1, none⟩)) rfl rfl (by kernel_rfl) (by decide) (by kernel_rfl) (by kernel_rfl) (fun _ _ _ h => h) (k1) (Or.inl ⟨by rfl, ?_⟩) ?_
              · intro X; go_simp; try with_reducible rfl
              (first | simp only [Act.put, List.setIfInBounds_toArray, List.set_cons_zero, List.set_cons_succ] | skip)
              refine Hd.After.one (i := 13) (by kernel_rfl) rfl rfl ?_
              intro K hK
              go_simp
              refine hK _ _ (fun h => by cases h) ?_
              clear hK K
              refine Hd.After.done (by kernel_rfl) ?_ _
              clear k0 k1 k2 k3 k4 j0 j1 j2 j3 j4 hbB7
              obtain ⟨WB, hWB⟩ : ∃ W, wB.setCell ⟨bo, 1, none⟩ (.slice (some ⟨gb, 0, none⟩) (gs.length + 1) cb) = W := ⟨_, rfl⟩
              rw [hWB] at DB ⊢
              clear hWB
              go_wp2_with fail
              have hlB := DB.out.cu.lt
              have E0 : Hid (type_of% DB.out.drew) := DB.out.drew
              have s0 : WB.drew.cell? ⟨bo, 2, none⟩ = some vi := (Sv.wr5 DB.out.bv).2.1.2.2.1
              have s1 : WB.drew.cell? ⟨bo, 3, none⟩ = some (.int .i64 lv) := (Sv.wr5 DB.out.bv).2.1.2.2.2.1
              clear DB
              refine Hd.start (fun X => X.cell? ⟨bo, 2, none⟩ = some vi ∧ X.cell? ⟨bo, 3, none⟩ = some (.int .i64 lv)) 9 (by kernel_rfl) ?_
              generalize WB.drew = w0 at E0 s0 s1 ⊢
              refine Hd.After.pureD (i := 0) (some 54) (.pointer (some ⟨bo, 2, none⟩)) rfl rfl (by kernel_rfl) (by decide) (by kernel_rfl) (by kernel_rfl) (fun _ _ _ h => h) (⟨s0, s1⟩) (Or.inl ⟨by rfl, ?_⟩) ?_
              · intro X; go_simp; try with_reducible rfl
              (first | simp only [Act.put, List.setIfInBounds_toArray, List.set_cons_zero, List.set_cons_succ] | skip)
              refine Hd.After.takeD (i := 1) (some 55) (vi) rfl rfl (by kernel_rfl) (by kernel_rfl) (by kernel_rfl) (by kernel_rfl) (by kernel_rfl) (fun _ _ _ h => h) (⟨s0, s1⟩) (Or.inl ⟨by rfl, ?_⟩) ?_
              · rintro X ⟨s0, s1⟩; go_simp; try with_reducible rfl
              (first | simp only [Act.put, List.setIfInBounds_toArray, List.set_cons_zero, List.set_cons_succ] | skip)
              refine Hd.After.pureD (i := 2) (some 56) (.pointer (some ⟨b, 0, none⟩)) rfl rfl (by kernel_rfl) (by decide) (by kernel_rfl) (by kernel_rfl) (fun _ _ _ h => h) (⟨s0, s1⟩) (Or.inl ⟨by rfl, ?_⟩) ?_
              · intro X; go_simp; try with_reducible rfl
              (first | simp only [Act.put, List.setIfInBounds_toArray, List.set_cons_zero, List.set_cons_succ] | skip)
              refine Hd.After.pureD (i := 3) (some 57) (.pointer (some ⟨bo, 3, none⟩)) rfl rfl (by kernel_rfl) (by decide) (by kernel_rfl) (by kernel_rfl) (fun _ _ _ h => h) (⟨s0, s1⟩) (Or.inl ⟨by rfl, ?_⟩) ?_
              · intro X; go_simp; try with_reducible rfl
              (first | simp only [Act.put, List.setIfInBounds_toArray, List.set_cons_zero, List.set_cons_succ] | skip)
              refine Hd.After.takeD (i := 4) (some 58) (.int .i64 lv) rfl rfl (by kernel_rfl) (by kernel_rfl) (by kernel_rfl) (by kernel_rfl) (by kernel_rfl) (fun _ _ _ h => h) (⟨s0, s1⟩) (Or.inl ⟨by rfl, ?_⟩) ?_
              · rintro X ⟨s0, s1⟩; go_simp; try with_reducible rfl
              (first | simp only [Act.put, List.setIfInBounds_toArray, List.set_cons_zero, List.set_cons_succ] | skip)
              refine Hd.After.one (i := 5) (by kernel_rfl) rfl rfl ?_
              intro K hK
              go_simp
              go_wp2_with (go_at_call 42; refine (Cu.pick_any _ _ _ E0.out.cu (by omega) _ (by omega)).mono ?_; rintro e wC ⟨t, rfl, t0, t1, hgC, hzC, hcC⟩)
              replace E0 : Hid (type_of% (E0.out.cur hgC hcC)) := E0.out.cur hgC hcC
              clear hgC hcC hzC t0 t1 s0 s1
              have hlC := E0.out.cu.lt
              refine hK _ _ (fun _ => ⟨(Sv.wr5 E0.out.bv).2.1.2.2.1, (Sv.wr5 E0.out.bv).2.1.2.2.2.1⟩) ?_
              clear hK K
              (first | simp only [Act.put, List.setIfInBounds_toArray, List.set_cons_zero, List.set_cons_succ] | skip)
              refine Hd.After.one (i := 6) (by kernel_rfl) rfl rfl ?_
              intro K hK
              go_simp
              refine hK _ _ (fun _ => ⟨(Sv.wr5 (E0.out.alloc _).bv).2.1.2.2.1, (Sv.wr5 (E0.out.alloc _).bv).2.1.2.2.2.1⟩) ?_
              clear hK K
              (first | simp only [Act.put, List.setIfInBounds_toArray, List.set_cons_zero, List.set_cons_succ] | skip)
              obtain ⟨XD, hXD, hsD, hbD, tD⟩ := Sv.new1 wC [.int .i64 t] 3
              rw [hXD]
              replace E0 : Hid (type_of% (E0.out.below hbD)) := E0.out.below hbD
              have t0 := (Sv.wr1 tD).2.1
              have hblD : bo < XD.heap.size := E0.out.bv.1
              clear hXD hsD hbD tD
              refine Hd.After.one (i := 7) (by kernel_rfl) rfl rfl ?_
              intro K hK
              refine Sn.wp_snocI _ _ rfl (some 61) rfl (bo + 1) vi ids wC.heap.size _ rfl rfl t0 E0.out.oi (by omega) (by have := HL.out.2.2.1; omega) ?_
              intro ge ce wE oE hgE hpE
              have DE : Hid (type_of% (E0.out.putI oE hgE hpE)) := E0.out.putI oE hgE hpE
              obtain ⟨hbE7, ⟨k0, k1, k2, k3, k4⟩, j0, j1, j2, j3, j4⟩ := Sv.wr5 (E0.out.bvk hgE (fun q e => by have := (E0.out.oi.ge q e).1; omega))
              clear hgE hpE oE t0 E0
              refine hK _ _ (fun _ => ⟨k2, k3⟩) ?_
              clear hK K
              (first | simp only [Act.put, List.setIfInBounds_toArray, List.set_cons_zero, List.set_cons_succ] | skip)
              refine Hd.After.pureD (i := 8) (some 62) (.pointer (some ⟨bo, 2, none⟩)) rfl rfl (by kernel_rfl) (by decide) (by kernel_rfl) (by kernel_rfl) (fun _ _ _ h => h) (⟨k2, k3⟩) (Or.inl ⟨by rfl, ?_⟩) ?_
              · intro X; go_simp; try with_reducible rfl
              (first | simp only [Act.put, List.setIfInBounds_toArray, List.set_cons_zero, List.set_cons_succ] | skip)
              refine Hd.After.one (i := 9) (by kernel_rfl) rfl rfl ?_
              intro K hK
              go_simp
              refine hK _ _ (fun h => by cases h) ?_
              clear hK K
              refine Hd.After.done (by kernel_rfl) ?_ _
              clear k0 k1 k2 k3 k4 j0 j1 j2 j3 j4 hbE7
              go_wp2
              go_roundw
              case rel => exact ⟨k - 1, by omega, by have h9 : ((k - 1 : Nat) : Int) = (k : Int) - 1 := (by omega); rw [h9], _, _, _, _, _, _, _, DE.out.mono (by have := HK1.out; omega), lens_step (by have h1 := HL.out; rw [show k - 1 + 1 = k by omega]; exact h1) HYF.out⟩
              case measure => simp [intOf]; omega
end Go.Proofs.Ytmfippeclkmhnaa.Dr
