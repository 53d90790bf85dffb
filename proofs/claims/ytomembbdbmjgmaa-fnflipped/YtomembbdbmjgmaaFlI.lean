/-
  Flipped of the program.
-/
import Derived.Test.YtomembbdbmjgmaaFlW
import Derived.Deep.RegionHeldLaw
import Derived.Deep.RegionWith
import Derived.Deep.Cut
namespace Go.Proofs.Ytomembbdbmjgmaa.Fw
open Go.RowKit
open Go.Proofs.Ytomembbdbmjgmaa.Li (ret_bool ret_int below_none)
open Go.Proofs.Ytomembbdbmjgmaa.Tr Go.Proofs.Ytomembbdbmjgmaa.Tm
set_option linter.unusedVariables false

set_option maxRecDepth 100000 in
set_option maxHeartbeats 4000000 in
theorem ibits (w : World) (k n : Nat) (hk : k < 16) (hn : n ≤ 2) :
    Calls Try.prog 23 #[.int .i64 k, .int .i64 n] w fun e w' => e = .returned (.int .i64 (mv n k : Nat)) ∧ ∃ q, w' = w.drewN q := by
  have hn3 : n = 0 ∨ n = 1 ∨ n = 2 := by omega
  have hk16 : k = 0 ∨ k = 1 ∨ k = 2 ∨ k = 3 ∨ k = 4 ∨ k = 5 ∨ k = 6 ∨ k = 7 ∨ k = 8 ∨ k = 9 ∨ k = 10 ∨ k = 11 ∨ k = 12 ∨ k = 13 ∨ k = 14 ∨ k = 15 := by omega
  clear hn hk
  rcases hn3 with rfl | rfl | rfl
  all_goals
    rcases hk16 with rfl | rfl | rfl | rfl | rfl | rfl | rfl | rfl | rfl | rfl | rfl | rfl | rfl | rfl | rfl | rfl
  all_goals
    go_enter Try.func23, Try.ntmps23
    go_wp2
    go_quiet (fail)
    go_wp2
    go_ret
    exact ⟨ret_int (by decide +kernel), _, rfl⟩
theorem mkI (n : Nat) (hn : n = 4 ∨ n = 8 ∨ n = 16) (W : World) : (Instr.makeSlice 25 (.int .i64 (n : Int)) (.int .i64 (n : Int))).run Try.prog W = .ok (.slice (some ⟨W.heap.size, 0, none⟩) n n) (W.alloc (.cells (Array.replicate n (.int .i64 0)) 3)) := by
  rcases hn with rfl | rfl | rfl
  all_goals kernel_rfl
theorem ownZ {W : World} {B g N : Nat} (hB : B ≤ g) (hN : N ≤ 16) (h : W.heap[g]? = some (.cells (Array.replicate N (.int .i64 0)) 3 (0, 0))) : Li.Own W B (.slice (some ⟨g, 0, none⟩) N N) (List.replicate N 0) := by
  unfold Li.Own
  rw [List.length_replicate]
  exact ⟨by simp [Li.iv], .inr ⟨g, N, _, rfl, hB, h, Nat.le_refl _, by unfold maxLen; omega, by simp, by simp [Li.iv]⟩⟩
theorem ownZ_new (W : World) (B N : Nat) (hB : B ≤ W.heap.size) (hN : N ≤ 16) : Li.Own (W.alloc (.cells (Array.replicate N (.int .i64 0)) 3)) B (.slice (some ⟨W.heap.size, 0, none⟩) N N) (List.replicate N 0) :=
  ownZ hB hN (heap_alloc_new W _)
theorem pre2M (w1 w3 : World) (N : Nat) (hN : N ≤ 16) (h : Below (w1.alloc (.cells (Array.replicate N (.int .i64 0)) 3)).drew.heap.size (w1.alloc (.cells (Array.replicate N (.int .i64 0)) 3)).drew w3) : Li.Own w3 w1.heap.size (.slice (some ⟨w1.heap.size, 0, none⟩) N N) (List.replicate N 0) :=
  Li.Own.below (w := (w1.alloc (.cells (Array.replicate N (.int .i64 0)) 3)).drew) (ownZ_new w1 _ N (Nat.le_refl _) hN) h
theorem pre3B (w1 w3 : World) (v0 v1 : Value) (T : TypeId) (h : Below (w1.alloc (.cells #[v0, v1] T)).drew.heap.size (w1.alloc (.cells #[v0, v1] T)).drew w3) : Box2 w3 w1.heap.size v0 v1 :=
  Box2.below (w := (w1.alloc (.cells #[v0, v1] T)).drew) (box2_new w1 v0 v1 T) h
theorem pre4M (w1 w3 : World) (N : Nat) (v0 v1 : Value) (hN : N ≤ 16) (h : Below ((w1.alloc (.cells (Array.replicate N (.int .i64 0)) 3)).alloc (.cells #[v0, v1] 27)).drew.heap.size ((w1.alloc (.cells (Array.replicate N (.int .i64 0)) 3)).alloc (.cells #[v0, v1] 27)).drew w3) : Li.Own w3 w1.heap.size (.slice (some ⟨w1.heap.size, 0, none⟩) N N) (List.replicate N 0) :=
  Li.Own.below (w := ((w1.alloc (.cells (Array.replicate N (.int .i64 0)) 3)).alloc (.cells #[v0, v1] 27)).drew) (World.ownsRow.alloc (ownZ_new w1 _ N (Nat.le_refl _) hN) _) h
theorem pre4B (w1 w3 : World) (N : Nat) (v0 v1 : Value) (h : Below ((w1.alloc (.cells (Array.replicate N (.int .i64 0)) 3)).alloc (.cells #[v0, v1] 27)).drew.heap.size ((w1.alloc (.cells (Array.replicate N (.int .i64 0)) 3)).alloc (.cells #[v0, v1] 27)).drew w3) : Box2 w3 (w1.heap.size + 1) v0 v1 := by
  have := box2_new (w1.alloc (.cells (Array.replicate N (.int .i64 0)) 3)) v0 v1 27
  rw [size_alloc] at this
  exact Box2.below (w := ((w1.alloc (.cells (Array.replicate N (.int .i64 0)) 3)).alloc (.cells #[v0, v1] 27)).drew) this h
theorem pre5B (w1 w3 : World) (N : Nat) (v0 v1 : Value) (h : Below ((w1.alloc (.cells #[v0, v1] 27)).alloc (.cells (Array.replicate N (.int .i64 0)) 3)).drew.heap.size ((w1.alloc (.cells #[v0, v1] 27)).alloc (.cells (Array.replicate N (.int .i64 0)) 3)).drew w3) : Box2 w3 w1.heap.size v0 v1 :=
  Box2.below (w := ((w1.alloc (.cells #[v0, v1] 27)).alloc (.cells (Array.replicate N (.int .i64 0)) 3)).drew) ((box2_new w1 v0 v1 27).alloc _) h
theorem pre5M (w1 w3 : World) (N : Nat) (v0 v1 : Value) (hN : N ≤ 16) (h : Below ((w1.alloc (.cells #[v0, v1] 27)).alloc (.cells (Array.replicate N (.int .i64 0)) 3)).drew.heap.size ((w1.alloc (.cells #[v0, v1] 27)).alloc (.cells (Array.replicate N (.int .i64 0)) 3)).drew w3) : Li.Own w3 (w1.heap.size + 1) (.slice (some ⟨w1.heap.size + 1, 0, none⟩) N N) (List.replicate N 0) := by
  have := ownZ_new (w1.alloc (.cells #[v0, v1] 27)) (w1.heap.size + 1) N (by simp) hN
  rw [size_alloc] at this
  exact Li.Own.below (w := ((w1.alloc (.cells #[v0, v1] 27)).alloc (.cells (Array.replicate N (.int .i64 0)) 3)).drew) this h
/-- What has been made for the changed tree: its variable in block bo, its questions in g0, its leaves in g1. -/
structure FM (w wx : World) (bo g0 d0 g1 : Nat) (v0 v1 : Value) (t : T) : Prop where
  bo' : Box2 wx bo (.slice (some ⟨g0, 0, none⟩) t.sp.length d0) (.slice (some ⟨g1, 0, none⟩) t.lv.length t.lv.length)
  o0 : OwnP wx (w.heap.size + 2) (.slice (some ⟨g0, 0, none⟩) t.sp.length d0) t.sp
  o1 : Li.Own wx (w.heap.size + 2) (.slice (some ⟨g1, 0, none⟩) t.lv.length t.lv.length) (List.replicate t.lv.length 0)
  ne : ¬ g0 = g1 ∧ ¬ g0 = bo ∧ ¬ g1 = bo ∧ w.heap.size + 2 ≤ bo
  bx : Box2 wx w.heap.size v0 v1
  br : Box2 wx (w.heap.size + 1) (.slice none 0 0) (.slice none 0 0)
  below : Below w.heap.size w wx
theorem fm_mk {w w1 wx : World} {bo g0 d0 g1 : Nat} {v0 v1 : Value} {t : T} (HB : Below w.heap.size w w1) (HBX : Box2 w1 w.heap.size v0 v1) (HBR : Box2 w1 (w.heap.size + 1) (.slice none 0 0) (.slice none 0 0)) (hb : Below w1.heap.size w1 wx)
    (bo' : Box2 wx bo (.slice (some ⟨g0, 0, none⟩) t.sp.length d0) (.slice (some ⟨g1, 0, none⟩) t.lv.length t.lv.length)) (o0 : OwnP wx (w.heap.size + 2) (.slice (some ⟨g0, 0, none⟩) t.sp.length d0) t.sp) (o1 : Li.Own wx (w.heap.size + 2) (.slice (some ⟨g1, 0, none⟩) t.lv.length t.lv.length) (List.replicate t.lv.length 0)) (ne : ¬ g0 = g1 ∧ ¬ g0 = bo ∧ ¬ g1 = bo ∧ w.heap.size + 2 ≤ bo) : FM w wx bo g0 d0 g1 v0 v1 t :=
  ⟨bo', o0, o1, ne, HBX.below hb, HBR.below hb, HB.trans (hb.mono HB.size)⟩
theorem ownP_alloc {w : World} {B : Nat} {v : Value} {ps : List (Int × Int)} (h : OwnP w B v ps) (o : Obj) : OwnP (w.alloc o) B v ps := World.ownsRow.alloc h o
theorem own_alloc' {w : World} {B : Nat} {v : Value} {ps : List Int} (h : Li.Own w B v ps) (o : Obj) : Li.Own (w.alloc o) B v ps := World.ownsRow.alloc h o
theorem ownZ_at (W : World) (B N H : Nat) (hB : B ≤ W.heap.size) (hN : N ≤ 16) (hH : W.heap.size = H) : Li.Own (W.alloc (.cells (Array.replicate N (.int .i64 0)) 3)) B (.slice (some ⟨H, 0, none⟩) N N) (List.replicate N 0) := by subst hH; exact ownZ_new W B N hB hN
theorem box2_at (W : World) (v0 v1 : Value) (T : TypeId) (H : Nat) (hH : W.heap.size = H) : Box2 (W.alloc (.cells #[v0, v1] T)) H v0 v1 := by subst hH; exact box2_new W v0 v1 T
section
variable {w w1 w3 : World} {g0 d0 : Nat} {v0 v1 : Value} {t : T}
theorem fmA (HB : Below w.heap.size w w1) (HBX : Box2 w1 w.heap.size v0 v1) (HBR : Box2 w1 (w.heap.size + 1) (.slice none 0 0) (.slice none 0 0)) (hB1 : Below w1.heap.size w1 w3) (o0 : OwnP w3 (w.heap.size + 2) (.slice (some ⟨g0, 0, none⟩) t.sp.length d0) t.sp) (h16 : t.lv.length ≤ 16) (hg : g0 < w3.heap.size) (h2 : w.heap.size + 2 ≤ w1.heap.size) :
    FM w ((w3.alloc (.cells (Array.replicate t.lv.length (.int .i64 0)) 3)).alloc (.cells #[.slice (some ⟨g0, 0, none⟩) t.sp.length d0, .slice (some ⟨w3.heap.size, 0, none⟩) t.lv.length t.lv.length] 27)) (w3.heap.size + 1) g0 d0 w3.heap.size v0 v1 t := by
  have hs := hB1.size
  refine fm_mk HB HBX HBR ((hB1.alloc hs _).alloc (by simp; omega) _) (box2_at _ _ _ _ _ (by simp)) (ownP_alloc (ownP_alloc o0 _) _) (own_alloc' (ownZ_new _ _ _ (by omega) h16) _) (by omega)
theorem fmB (HB : Below w.heap.size w w1) (HBX : Box2 w1 w.heap.size v0 v1) (HBR : Box2 w1 (w.heap.size + 1) (.slice none 0 0) (.slice none 0 0)) (hB1 : Below w1.heap.size w1 w3) (o0 : OwnP w3 (w.heap.size + 2) (.slice (some ⟨g0, 0, none⟩) t.sp.length d0) t.sp) (h16 : t.lv.length ≤ 16) (hg : g0 < w3.heap.size) (h2 : w.heap.size + 2 ≤ w1.heap.size) :
    FM w ((w3.alloc (.cells #[.slice (some ⟨g0, 0, none⟩) t.sp.length d0, .slice (some ⟨w3.heap.size + 1, 0, none⟩) t.lv.length t.lv.length] 27)).alloc (.cells (Array.replicate t.lv.length (.int .i64 0)) 3)) w3.heap.size g0 d0 (w3.heap.size + 1) v0 v1 t := by
  have hs := hB1.size
  refine fm_mk HB HBX HBR ((hB1.alloc hs _).alloc (by simp; omega) _) ((box2_new _ _ _ _).alloc _) (ownP_alloc (ownP_alloc o0 _) _) (ownZ_at _ _ _ _ (by simp; omega) h16 (by simp)) (by omega)
theorem fmC (HB : Below w.heap.size w w1) (HBX : Box2 w1 w.heap.size v0 v1) (HBR : Box2 w1 (w.heap.size + 1) (.slice none 0 0) (.slice none 0 0)) (hB1 : Below w1.heap.size w1 w3) (o0 : OwnP w3 (w.heap.size + 2) (.slice (some ⟨g0, 0, none⟩) t.sp.length d0) t.sp) (oM : Li.Own w3 w1.heap.size (.slice (some ⟨w1.heap.size, 0, none⟩) t.lv.length t.lv.length) (List.replicate t.lv.length 0)) (hg : w1.heap.size + 1 ≤ g0 ∧ g0 < w3.heap.size) (h2 : w.heap.size + 2 ≤ w1.heap.size) :
    FM w (w3.alloc (.cells #[.slice (some ⟨g0, 0, none⟩) t.sp.length d0, .slice (some ⟨w1.heap.size, 0, none⟩) t.lv.length t.lv.length] 27)) w3.heap.size g0 d0 w1.heap.size v0 v1 t := by
  have hs := hB1.size
  refine fm_mk HB HBX HBR (hB1.alloc hs _) (box2_new _ _ _ _) (ownP_alloc o0 _) (own_alloc' (oM.mono h2) _) (by omega)
theorem ownP_set {w : World} {B b o : Nat} {g n c : Nat} {ps : List (Int × Int)} {x : Value} (h : OwnP w B (.slice (some ⟨g, 0, none⟩) n c) ps) (hne : ¬ g = b) : OwnP (w.setCell ⟨b, o, none⟩ x) B (.slice (some ⟨g, 0, none⟩) n c) ps := h.kept (Li.grown_set w b o x) (.inr (by simp [Value.ownBlock]; exact hne))
theorem own_set' {w : World} {B b o : Nat} {g n c : Nat} {ps : List Int} {x : Value} (h : Li.Own w B (.slice (some ⟨g, 0, none⟩) n c) ps) (hne : ¬ g = b) : Li.Own (w.setCell ⟨b, o, none⟩ x) B (.slice (some ⟨g, 0, none⟩) n c) ps := h.kept (Li.grown_set w b o x) (.inr (by simp [Value.ownBlock]; exact hne))
theorem fmD (HB : Below w.heap.size w w1) (HBX : Box2 w1 w.heap.size v0 v1) (HBR : Box2 w1 (w.heap.size + 1) (.slice none 0 0) (.slice none 0 0)) (hB1 : Below w1.heap.size w1 w3) (o0 : OwnP w3 (w.heap.size + 2) (.slice (some ⟨g0, 0, none⟩) t.sp.length d0) t.sp) (oM : Li.Own w3 w1.heap.size (.slice (some ⟨w1.heap.size, 0, none⟩) t.lv.length t.lv.length) (List.replicate t.lv.length 0)) {z0 z1 : Value} (bz : Box2 w3 (w1.heap.size + 1) z0 z1) (hg : w1.heap.size + 1 + 1 ≤ g0 ∧ g0 < w3.heap.size) (h2 : w.heap.size + 2 ≤ w1.heap.size) :
    FM w ((w3.setCell ⟨w1.heap.size + 1, 0, none⟩ (.slice (some ⟨g0, 0, none⟩) t.sp.length d0)).setCell ⟨w1.heap.size + 1, 1, none⟩ (.slice (some ⟨w1.heap.size, 0, none⟩) t.lv.length t.lv.length)) (w1.heap.size + 1) g0 d0 w1.heap.size v0 v1 t := by
  have hs := hB1.size
  refine fm_mk HB HBX HBR ((hB1.setCell (p := ⟨w1.heap.size + 1, 0, none⟩) (by show _ ≤ w1.heap.size + 1; omega) _).setCell (p := ⟨w1.heap.size + 1, 1, none⟩) (by show _ ≤ w1.heap.size + 1; omega) _) ((bz.set0 _).set1 _) (ownP_set (ownP_set o0 (by omega)) (by omega)) (own_set' (own_set' (oM.mono h2) (by omega)) (by omega)) (by omega)
theorem fmE (HB : Below w.heap.size w w1) (HBX : Box2 w1 w.heap.size v0 v1) (HBR : Box2 w1 (w.heap.size + 1) (.slice none 0 0) (.slice none 0 0)) (hB1 : Below w1.heap.size w1 w3) (o0 : OwnP w3 (w.heap.size + 2) (.slice (some ⟨g0, 0, none⟩) t.sp.length d0) t.sp) (oM : Li.Own w3 (w1.heap.size + 1) (.slice (some ⟨w1.heap.size + 1, 0, none⟩) t.lv.length t.lv.length) (List.replicate t.lv.length 0)) {z0 z1 : Value} (bz : Box2 w3 w1.heap.size z0 z1) (hg : w1.heap.size + 1 + 1 ≤ g0 ∧ g0 < w3.heap.size) (h2 : w.heap.size + 2 ≤ w1.heap.size) :
    FM w ((w3.setCell ⟨w1.heap.size, 0, none⟩ (.slice (some ⟨g0, 0, none⟩) t.sp.length d0)).setCell ⟨w1.heap.size, 1, none⟩ (.slice (some ⟨w1.heap.size + 1, 0, none⟩) t.lv.length t.lv.length)) w1.heap.size g0 d0 (w1.heap.size + 1) v0 v1 t := by
  have hs := hB1.size
  refine fm_mk HB HBX HBR ((hB1.setCell (p := ⟨w1.heap.size, 0, none⟩) (Nat.le_refl _) _).setCell (p := ⟨w1.heap.size, 1, none⟩) (Nat.le_refl _) _) ((bz.set0 _).set1 _) (ownP_set (ownP_set o0 (by omega)) (by omega)) (own_set' (own_set' (oM.mono (by omega)) (by omega)) (by omega)) (by omega)
theorem fmF (HB : Below w.heap.size w w1) (HBX : Box2 w1 w.heap.size v0 v1) (HBR : Box2 w1 (w.heap.size + 1) (.slice none 0 0) (.slice none 0 0)) (hB1 : Below w1.heap.size w1 w3) (o0 : OwnP w3 (w.heap.size + 2) (.slice (some ⟨g0, 0, none⟩) t.sp.length d0) t.sp) {z0 z1 : Value} (bz : Box2 w3 w1.heap.size z0 z1) (h16 : t.lv.length ≤ 16) (hg : w1.heap.size + 1 ≤ g0 ∧ g0 < w3.heap.size) (h2 : w.heap.size + 2 ≤ w1.heap.size) :
    FM w (((w3.setCell ⟨w1.heap.size, 0, none⟩ (.slice (some ⟨g0, 0, none⟩) t.sp.length d0)).setCell ⟨w1.heap.size, 1, none⟩ (.slice (some ⟨w3.heap.size, 0, none⟩) t.lv.length t.lv.length)).alloc (.cells (Array.replicate t.lv.length (.int .i64 0)) 3)) w1.heap.size g0 d0 w3.heap.size v0 v1 t := by
  have hs := hB1.size
  have hb := bz.1
  refine fm_mk HB HBX HBR (((hB1.setCell (p := ⟨w1.heap.size, 0, none⟩) (Nat.le_refl _) _).setCell (p := ⟨w1.heap.size, 1, none⟩) (Nat.le_refl _) _).alloc (by simp [World.setCell]; omega) _) (((bz.set0 _).set1 _).alloc _) (ownP_alloc (ownP_set (ownP_set o0 (by omega)) (by omega)) _) (ownZ_at _ _ _ _ (by simp [World.setCell]; omega) h16 (by simp [World.setCell])) (by omega)
end
theorem grown4 (w : World) (g o o' : Nat) (x y z u : Value) : w.grownBy ((((w.setCell ⟨g, o, none⟩ x).setCell ⟨g, o + 1, none⟩ y).setCell ⟨g, o', none⟩ z).setCell ⟨g, o' + 1, none⟩ u).drew (some g) := grown_drew' (Li.grown_trans (Li.grown_trans (Li.grown_trans (Li.grown_set _ _ _ _) (Li.grown_set _ _ _ _)) (Li.grown_set _ _ _ _)) (Li.grown_set _ _ _ _))
theorem six {wr W5 : World} {bo g1 m B c1 : Nat} {u0 u1 : Value} {z : Int} {lv l : List Int} {q : Nat} (w6 : World) (hw : w6 = wr.drew.drewN q ∨ w6 = wr.drewN q) (co0 : wr.cell? ⟨bo, 0, none⟩ = some u0) (co1 : wr.cell? ⟨bo, 1, none⟩ = some u1) (hcl : wr.cell? ⟨g1, m, none⟩ = some (.int .i64 z)) (hcf : wr.frozen? ⟨g1, m, none⟩ = false) (h : Lq W5 wr g1 B c1 lv l) :
    w6.cell? ⟨bo, 0, none⟩ = some u0 ∧ w6.cell? ⟨bo, 1, none⟩ = some u1 ∧ w6.cell? ⟨g1, m, none⟩ = some (.int .i64 z) ∧ w6.frozen? ⟨g1, m, none⟩ = false ∧ wr.heap.size ≤ w6.heap.size ∧ Lq W5 w6 g1 B c1 lv l := by
  rcases hw with rfl | rfl
  · exact ⟨co0, co1, hcl, hcf, Nat.le_refl _, h.own', h.len, Li.grown_trans h.grown ⟨rfl, rfl, rfl, Nat.le_refl _, fun _ _ _ => rfl⟩⟩
  · exact ⟨co0, co1, hcl, hcf, Nat.le_refl _, h.own', h.len, Li.grown_trans h.grown ⟨rfl, rfl, rfl, Nat.le_refl _, fun _ _ _ => rfl⟩⟩
set_option maxRecDepth 100000 in
set_option maxHeartbeats 8000000 in
theorem iflip (w : World) (a a' : Option Addr) (c c' : Nat) (t : T) (i : Int) (hp : IsP w a t.sp) (hx : Li.IsL w a' t.lv) (hl : t.sp.length + t.lv.length ≤ 1048576) :
    Calls Try.prog 8 #[.agg #[.slice a t.sp.length c, .slice a' t.lv.length c'], .int .i64 i] w fun e w' => ∃ v0 v1, e = .returned (.agg #[v0, v1]) ∧ OwnP w' w.heap.size v0 (flipped t i).sp ∧ Li.Own w' w.heap.size v1 (flipped t i).lv ∧ Apt v0 v1 ∧ Below w.heap.size w w' := by
  obtain ⟨R, hR⟩ : ∃ R, flipped t i = R := ⟨_, rfl⟩
  rw [hR]
  have HR : Hid (flipped t i = R) := hR
  clear hR
  go_enter Try.func8, Try.ntmps8
  go_wp2_with fail
  obtain ⟨W, hW, hsz, hB, bx, br⟩ := boxes2 w (.slice a t.sp.length c) (.slice a' t.lv.length c') (.slice none 0 0) (.slice none 0 0) 27 27
  rw [hW]
  clear hW
  have HP0 : Hid (IsP w a t.sp) := hp
  have HX0 : Hid (Li.IsL w a' t.lv) := hx
  have hp := hp.below hB
  have hx := hx.below hB
  refine (Tw.itok _ _ _ _ _ t hp hx hl).mono ?_
  rintro e w1 ⟨rfl, hB1⟩
  have hlt1 : w.heap.size + 1 < w1.heap.size := by have := hB1.size; omega
  have bx := bx.below hB1
  have br := br.below hB1
  have hp := hp.below hB1
  have hx := hx.below hB1
  have hB := hB.trans (hB1.mono hB.size)
  clear hB1 hsz
  obtain ⟨_, ⟨cx0, cx1⟩, _⟩ := id bx
  obtain ⟨_, ⟨cr0, cr1⟩, fr0, fr1⟩ := id br
  by_cases hcan : canFlip t i = true
  rotate_left
  · have hcf : canFlip t i = false := by simpa using hcan
    obtain rfl : R = ⟨[], []⟩ := by rw [← HR.out]; exact flipped_no hcf
    have hbt : tok t = true → i < 0 ∨ (¬ i < 0 ∧ (t.sp.length : Int) - 2 < i) := fun h => by
      unfold canFlip at hcf
      rw [h] at hcf
      simp at hcf
      omega
    cases ht : tok t with
    | false =>
      clear hcan hcf hbt HR
      go_wp2
      refine bodyPost_ret (v := .agg #[.slice none 0 0, .slice none 0 0]) (by rw [results_cell rfl]; go_simp) rfl ⟨_, _, rfl, ownP_nil _ _, Li.Own.nil _ _, apt_of (fun k e => by simp [Value.ownBlock] at e), ?_⟩
      exact (hB.setCell (by simp) _).setCell (by simp) _
    | true =>
      have hb2 := hbt ht
      clear hcan hcf hbt HR
      rcases hb2 with hb2 | ⟨hb2, hb3⟩
      all_goals
        go_wp2
        refine bodyPost_ret (v := .agg #[.slice none 0 0, .slice none 0 0]) (by rw [results_cell rfl]; go_simp) rfl ⟨_, _, rfl, ownP_nil _ _, Li.Own.nil _ _, apt_of (fun k e => by simp [Value.ownBlock] at e), ?_⟩
        exact (hB.setCell (by simp) _).setCell (by simp) _
  obtain ⟨ht, hi0, hi1⟩ := canFlip_iff.1 hcan
  have HRY : Hid (R = ⟨swp t.sp i.toNat, flipL i.toNat t.lv⟩) := HR.out.symm.trans (flipped_yes hcan)
  obtain ⟨n, rfl⟩ : ∃ n : Nat, i = (n : Int) := ⟨i.toNat, by omega⟩
  have hn2 : n + 2 ≤ t.sp.length := by omega
  have hszs := sizes ht (by omega)
  have H4 : Hid (t.sp.length ≤ 4 ∧ t.lv.length = 2 ^ t.sp.length) := (tok_iff.1 ht).1
  have h0 : 0 < t.sp.length := by omega
  have h1 : 0 < t.lv.length := by omega
  have hmk := mkI t.lv.length (by omega)
  rw [Int.toNat_natCast] at HRY
  have HS : Hid ((t.sp.length = 2 ∧ t.lv.length = 4) ∨ (t.sp.length = 3 ∧ t.lv.length = 8) ∨ (t.sp.length = 4 ∧ t.lv.length = 16)) := hszs
  have h16 : t.lv.length ≤ 16 := by omega
  have hni : ¬ (n : Int) < 0 := by omega
  have hnl : ¬ (t.sp.length : Int) - 2 < (n : Int) := by omega
  clear hcan hszs HR
  rw [ht]
  clear ht
  obtain ⟨pb, po, rfl, hpb, hpc⟩ : ∃ b off, a = some ⟨b, off, none⟩ ∧ b < w.heap.size ∧ ∀ j (hj : j < t.sp.length), w.cell? ⟨b, off + j * 2, none⟩ = some (.int .i64 t.sp[j].1) ∧ w.cell? ⟨b, off + j * 2 + 1, none⟩ = some (.int .i64 t.sp[j].2) := by
    rcases HP0.out with h | h
    · rw [h] at h0; simp at h0
    · exact h
  obtain ⟨xb, xo, rfl, hxb, hxc⟩ := isl_pos' HX0.out h1
  have HPC : Hid (∀ j (hj : j < t.sp.length), w.cell? ⟨pb, po + j * 2, none⟩ = some (.int .i64 t.sp[j].1) ∧ w.cell? ⟨pb, po + j * 2 + 1, none⟩ = some (.int .i64 t.sp[j].2)) := hpc
  have HXC : Hid (∀ j (hj : j < t.lv.length), w.cell? ⟨xb, xo + j, none⟩ = some (.int .i64 t.lv[j])) := hxc
  have HBX : Hid (type_of% bx) := bx
  have HBR : Hid (type_of% br) := br
  have HB : Hid (Below w.heap.size w w1) := hB
  have HP1 : Hid (type_of% hp) := hp
  clear hpc hxc HP0 HX0 hx cr0 cr1 fr0 fr1
  go_wp2
  go_cut [5] from 8 (fun s5 wx => ∃ bo g0 d0 g1, s5 = .pointer (some ⟨bo, 0, none⟩) ∧ FM w wx bo g0 d0 g1 (.slice (some ⟨pb, po, none⟩) t.sp.length c) (.slice (some ⟨xb, xo, none⟩) t.lv.length c') t)
  case first =>
    clear hp bx br hB
    go_region_with (go_at_call 22; refine (iclone _ _ _ t.sp (by first | exact HP1.out.below (below_drew w1) | exact HP1.out.below (bA1 w1 _) | exact HP1.out.below (bA2 w1 _ _)) h0 (by omega)).mono ?_; rintro e w3 ⟨g0, d0, rfl, o0, hB3⟩; have hB1 : Below w1.heap.size w1 w3 := (by first | exact (below_drew w1).trans (hB3.mono (below_drew w1).size) | exact (bA1 w1 _).trans (hB3.mono (bA1 w1 _).size) | exact (bA2 w1 _ _).trans (hB3.mono (bA2 w1 _ _).size)); have hg0 := o0.ge g0 rfl; have hO0 : OwnP w3 (w.heap.size + 2) (.slice (some ⟨g0, 0, none⟩) t.sp.length d0) t.sp := o0.mono (by first | omega | (simp; omega)); (try simp at hg0); (first | (have oM := pre4M w1 w3 t.lv.length _ _ (by omega) hB3; have bz := pre4B w1 w3 t.lv.length _ _ hB3; obtain ⟨hbz, ⟨cz0, cz1⟩, fz0, fz1⟩ := id bz) | (have oM := pre5M w1 w3 t.lv.length _ _ (by omega) hB3; have bz := pre5B w1 w3 t.lv.length _ _ hB3; obtain ⟨hbz, ⟨cz0, cz1⟩, fz0, fz1⟩ := id bz) | (have oM := pre2M w1 w3 t.lv.length (by omega) hB3) | (have bz := pre3B w1 w3 _ _ _ hB3; obtain ⟨hbz, ⟨cz0, cz1⟩, fz0, fz1⟩ := id bz) | skip); obtain ⟨_, ⟨cy0, cy1⟩, _⟩ := HBX.out.below hB1; have hs3 := hB1.size; clear o0 hB3)
    all_goals
      go_wp2_with fail
      go_meet
      case rel =>
        first
          | exact ⟨_, _, _, _, rfl, fmA HB.out HBX.out HBR.out hB1 hO0 h16 hg0.2 hlt1⟩
          | exact ⟨_, _, _, _, rfl, fmB HB.out HBX.out HBR.out hB1 hO0 h16 hg0.2 hlt1⟩
          | exact ⟨_, _, _, _, rfl, fmC HB.out HBX.out HBR.out hB1 hO0 oM hg0 hlt1⟩
          | exact ⟨_, _, _, _, rfl, fmD HB.out HBX.out HBR.out hB1 hO0 oM bz hg0 hlt1⟩
          | exact ⟨_, _, _, _, rfl, fmE HB.out HBX.out HBR.out hB1 hO0 oM bz hg0 hlt1⟩
          | exact ⟨_, _, _, _, rfl, fmF HB.out HBX.out HBR.out hB1 hO0 bz h16 hg0 hlt1⟩
  case rest =>
    obtain ⟨bo, g0, d0, g1, rfl, hm⟩ := hcut
    obtain ⟨bo0, o0, o1, ⟨ne1, ne2, ne3, ne4⟩, bxx, brr, hBx⟩ := hm
    clear hp bx br hB HBX HBR HB HP1 cx0 cx1 hmk hni hnl
    have hg0 := o0.ge g0 rfl
    have hg1 := o1.ge g1 rfl
    have hpb1 : pb < wc.heap.size := Nat.lt_of_lt_of_le hpb hBx.size
    have px := HPC.out n (by omega)
    have py := HPC.out (n + 1) (by omega)
    have px0 : wc.cell? ⟨pb, po + n * 2, none⟩ = some (.int .i64 t.sp[n].1) := (hBx.cell (p := ⟨pb, po + n * 2, none⟩) hpb).trans px.1
    have px1 : wc.cell? ⟨pb, po + n * 2 + 1, none⟩ = some (.int .i64 t.sp[n].2) := (hBx.cell (p := ⟨pb, po + n * 2 + 1, none⟩) hpb).trans px.2
    have py0 : wc.cell? ⟨pb, po + (n + 1) * 2, none⟩ = some (.int .i64 t.sp[n + 1].1) := (hBx.cell (p := ⟨pb, po + (n + 1) * 2, none⟩) hpb).trans py.1
    have py1 : wc.cell? ⟨pb, po + (n + 1) * 2 + 1, none⟩ = some (.int .i64 t.sp[n + 1].2) := (hBx.cell (p := ⟨pb, po + (n + 1) * 2 + 1, none⟩) hpb).trans py.2
    clear px py
    obtain ⟨_, ⟨cx0, cx1⟩, _⟩ := id bxx
    obtain ⟨_, ⟨co0, co1⟩, _⟩ := id bo0
    obtain ⟨e0, e1⟩ := o0.cell rfl n (by omega)
    obtain ⟨e2, e3⟩ := o0.cell rfl (n + 1) (by omega)
    have f0 := o0.frozen rfl (n * 2)
    have f1 := o0.frozen rfl (n * 2 + 1)
    have f2 := o0.frozen rfl ((n + 1) * 2)
    have f3 := o0.frozen rfl ((n + 1) * 2 + 1)
    have HO0 : Hid (type_of% o0) := o0
    go_wp2
    go_region
    obtain ⟨W5, hW5, hg5, o5⟩ : ∃ W5, ((((wc.setCell ⟨g0, n * 2, none⟩ (.int .i64 t.sp[n + 1].1)).setCell ⟨g0, n * 2 + 1, none⟩ (.int .i64 t.sp[n + 1].2)).setCell ⟨g0, (n + 1) * 2, none⟩ (.int .i64 t.sp[n].1)).setCell ⟨g0, (n + 1) * 2 + 1, none⟩ (.int .i64 t.sp[n].2)).drew = W5 ∧ wc.grownBy W5 (some g0) ∧ OwnP W5 (w.heap.size + 2) (.slice (some ⟨g0, 0, none⟩) t.sp.length d0) (swp t.sp n) :=
      ⟨_, rfl, grown4 wc g0 (n * 2) ((n + 1) * 2) (.int .i64 t.sp[n + 1].1) (.int .i64 t.sp[n + 1].2) (.int .i64 t.sp[n].1) (.int .i64 t.sp[n].2), by
        have h := (HO0.out.set rfl n t.sp[n + 1].1 t.sp[n + 1].2).set (by simp) (n + 1) t.sp[n].1 t.sp[n].2
        have e : swp t.sp n = (t.sp.set n (t.sp[n + 1].1, t.sp[n + 1].2)).set (n + 1) (t.sp[n].1, t.sp[n].2) := by
          unfold swp
          simp [List.getD_eq_getElem?_getD, List.getElem?_eq_getElem (show n + 1 < t.sp.length by omega), List.getElem?_eq_getElem (show n < t.sp.length by omega)]
        rw [e]; exact ownP_drew h⟩
    rw [hW5]
    have bx5 := bxx.keptAt hg5.size (hg5.block _ bxx.1 (by simp; omega))
    have bo5 := bo0.keptAt hg5.size (hg5.block _ bo0.1 (by simp; omega))
    have br5 := brr.keptAt hg5.size (hg5.block _ brr.1 (by simp; omega))
    have o15 : Li.Own W5 (w.heap.size + 2) (.slice (some ⟨g1, 0, none⟩) t.lv.length t.lv.length) (List.replicate t.lv.length 0) := o1.kept hg5 (.inr (by simp [Value.ownBlock]; omega))
    have hB5 : Below w.heap.size w W5 := hBx.trans (below_grown hg5 (by omega) hBx.size)
    have hxb5 : xb < W5.heap.size := Nat.lt_of_lt_of_le hxb hB5.size
    clear hW5 hg5 cx0 cx1 co0 co1 e0 e1 e2 e3 f0 f1 f2 f3 HO0 px0 px1 py0 py1 bxx bo0 brr o1 o0 hBx HPC hpb1
    obtain ⟨_, ⟨cx0, cx1⟩, _⟩ := id bx5
    go_wp2
    go_loopw [55] (fun i wr => ∃ k : Nat, k ≤ t.lv.length ∧ i = .int .i64 k ∧ ∃ l, Lp W5 wr g1 (w.heap.size + 2) t.lv.length n t.sp.length k t.lv l) (fun i _ => t.lv.length - (intOf i).toNat)
    case atStart => exact ⟨0, Nat.zero_le _, rfl, _, put_zero _ _ _ _ (by simp), o15, Li.grown_refl _ _⟩
    case round =>
      obtain ⟨k, hk, rfl, l, hput, hown, hgr⟩ := hrel
      have bxr := bx5.keptAt hgr.size (hgr.block _ bx5.1 (by simp; omega))
      have bor := bo5.keptAt hgr.size (hgr.block _ bo5.1 (by simp; omega))
      have brr := br5.keptAt hgr.size (hgr.block _ br5.1 (by simp; omega))
      obtain ⟨_, ⟨cx0, cx1⟩, _⟩ := id bxr
      obtain ⟨hbol, ⟨co0, co1⟩, _⟩ := id bor
      have hs5 := hgr.size
      by_cases hlt : k < t.lv.length
      · have hcx : wr.cell? ⟨xb, xo + k, none⟩ = some (.int .i64 t.lv[k]) := (hgr.cell_far ⟨xb, xo + k, none⟩ hxb5 (by simp; omega)).trans ((hB5.cell (p := ⟨xb, xo + k, none⟩) hxb).trans (HXC.out k hlt))
        have hmv := mv_all t.sp.length H4.out.1 n hn2 k (by rw [← H4.out.2]; exact hlt)
        rw [← H4.out.2] at hmv
        have HPut : Hid (Put n t.lv (l.set (mv n k) t.lv[k]) t.sp.length (k + 1)) := put_step H4.out.1 hn2 H4.out.2 hlt hput
        have hk16 : k < 16 := by omega
        have hn22 : n ≤ 2 := by have := H4.out.1; omega
        have HCB := fun W => ibits W k n hk16 hn22
        obtain ⟨m, hm⟩ : ∃ m, mv n k = m := ⟨_, rfl⟩
        rw [hm] at hmv HPut
        have HM : Hid (mv n k = m) := hm
        have hml : m < t.lv.length := hmv.1
        obtain ⟨z, hcl⟩ : ∃ z : Int, wr.cell? ⟨g1, m, none⟩ = some (.int .i64 z) := ⟨_, hown.cell hput.1 m (by rw [hput.1]; exact hml)⟩
        have hcf := hown.frozen hput.1 m
        have HLQ : Hid (Lq W5 wr g1 (w.heap.size + 2) t.lv.length t.lv l) := ⟨hown, hput.1, hgr⟩
        have hxr : xb < wr.heap.size := by omega
        have hg1r := (hown.ge g1 rfl).2
        have h0r : w.heap.size < wr.heap.size := by omega
        obtain ⟨x, hxv⟩ : ∃ x, t.lv[k] = x := ⟨_, rfl⟩
        rw [hxv] at hcx HPut
        clear hmv hm hput hown hgr hxv HCB
        go_wp2
        go_region_with (go_at_call 23; refine (ibits _ k n hk16 hn22).mono ?_; rintro e w6 ⟨rfl, q, hw6⟩; rw [HM.out]; obtain ⟨c60, c61, cm6, fm6, hs6, lq6⟩ := six w6 (by first | exact .inl hw6 | exact .inr hw6) co0 co1 hcl hcf HLQ.out; have HL6 : Hid _ := lq6; clear hw6 lq6)
        all_goals
          go_wp2
          go_roundw
          case rel => first | exact ⟨k + 1, by omega, by go_num, _, HPut.out, HL6.out.own'.set HL6.out.len m x, Li.grown_trans HL6.out.grown (Li.grown_set w6 g1 m (.int .i64 x))⟩ | exact ⟨k + 1, by omega, by go_num, _, HPut.out, own_drew (HL6.out.own'.set HL6.out.len m x), Li.grown_trans HL6.out.grown (grown1 w6 g1 m (.int .i64 x))⟩
          case measure => simp [intOf]; omega
      · obtain rfl : k = t.lv.length := by omega
        have HL : Hid (l = flipL n t.lv) := put_all H4.out.1 hn2 H4.out.2 hput
        obtain ⟨_, ⟨cr0, cr1⟩, fr0, fr1⟩ := id brr
        have hBr : Below w.heap.size w wr := hB5.trans (below_grown hgr (by omega) hB5.size)
        have o0r : OwnP wr (w.heap.size + 2) (.slice (some ⟨g0, 0, none⟩) t.sp.length d0) (swp t.sp n) := o5.kept hgr (.inr (by simp [Value.ownBlock]; omega))
        have hr1 : w.heap.size + 1 < w.heap.size + 2 := by omega
        go_wp2
        refine bodyPost_ret (v := .agg #[.slice (some ⟨g0, 0, none⟩) t.sp.length d0, .slice (some ⟨g1, 0, none⟩) t.lv.length t.lv.length]) (by rw [results_cell rfl]; go_simp) rfl ⟨_, _, rfl, ?_, ?_, apt_of (fun k e e' => by simp [Value.ownBlock] at e e'; omega), ?_⟩
        · rw [HRY.out]
          exact (ownP_off (ownP_off o0r (Li.grown_set _ _ _ _) hr1) (Li.grown_set _ _ _ _) hr1).mono (by omega)
        · rw [HRY.out]
          show Li.Own _ _ _ (flipL n t.lv)
          rw [← HL.out]
          exact (own_off (own_off hown (Li.grown_set _ _ _ _) hr1) (Li.grown_set _ _ _ _) hr1).mono (by omega)
        · exact (hBr.setCell (by simp) _).setCell (by simp) _
end Go.Proofs.Ytomembbdbmjgmaa.Fw
