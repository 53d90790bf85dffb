/-
  The program's TableRead.
-/
import Derived.Test.YtajfldjhbgilmaaGreatDoorAsE
import Derived.Laws.ResultCell
namespace Go.Proofs.YtajfldjhbgilmaaGreatDoor.Rd
set_option maxRecDepth 100000
open Go.RowKit
open Go.Proofs.YtajfldjhbgilmaaGreatDoor.Tb
open Go.Proofs.YtajfldjhbgilmaaGreatDoor.Tk
open Go.Proofs.YtajfldjhbgilmaaGreatDoor.Li (ret_bool grown_refl grown_trans grown_set below_none)

/-- The table's answer. -/
def Ans (w w' : World) (n c : Int) (T : Int × Int × List Row) (e : Ending) : Prop :=
  (T.2.1 = 0 ∧ ∃ v, e = .returned (.tuple #[.agg #[.int .i64 n, .int .i64 c, v], .int .i64 0, .int .i64 0]) ∧ OwnT w' w.heap.size w'.heap.size v T.2.2) ∨
  (¬ T.2.1 = 0 ∧ e = .returned (.tuple #[.agg #[.int .i64 0, .int .i64 0, .slice none 0 0], .int .i64 T.1, .int .i64 T.2.1]))
set_option maxHeartbeats 2000000 in
theorem iread (w : World) (n c : Int) (text : ByteArray) (hs : text.size ≤ 1048576) (hV : Re.Vars w) (hE : w.cell? ⟨0, 0, none⟩ = some (.iface 97 (.agg #[.pointer (some ⟨9, 44, none⟩)]))) :
    Calls Tryz.prog 6 #[.agg #[.int .i64 n, .int .i64 c], .string text] w fun e w' => Ans w w' n c (Pc.tread n c text.data.toList) e ∧ Below w.heap.size w w' := by
  obtain ⟨T, hT⟩ : ∃ T, Pc.tread n c text.data.toList = T := ⟨_, rfl⟩
  have HT : Hid (Pc.tread n c text.data.toList = T) := hT
  rw [hT]
  clear hT
  have hE0 : 0 < w.heap.size := World.block_lt_of_cell? w _ hE
  go_enter Tryz.func6, Tryz.ntmps6
  go_wp2_with fail
  have hBa : Below w.heap.size w ((w.alloc (.cells #[.int .i64 n, .int .i64 c] 25)).alloc (.cells #[.int .i64 0, .int .i64 0, .slice none 0 0] 30)) := ((Below.refl _ _).alloc (Nat.le_refl _) _).alloc (by simp) _
  refine (rows _ n c text hs (hV.below hBa)).mono ?_
  rintro e w1 ⟨he, hB1⟩
  rw [HT.out] at he
  have hs1 := hB1.size
  have k0 := hB1.block w.heap.size (by simp; omega)
  have k1 := hB1.block (w.heap.size + 1) (by simp)
  simp at hs1
  have e0 : w1.cell? ⟨w.heap.size, 0, none⟩ = some (.int .i64 n) := by rw [World.cell?_of_block (a := ⟨w.heap.size, 0, none⟩) k0]; simp
  have e1 : w1.cell? ⟨w.heap.size, 1, none⟩ = some (.int .i64 c) := by rw [World.cell?_of_block (a := ⟨w.heap.size, 1, none⟩) k0]; simp
  have r0 : w1.cell? ⟨w.heap.size + 1, 0, none⟩ = some (.int .i64 0) := by rw [World.cell?_of_block (a := ⟨w.heap.size + 1, 0, none⟩) k1, World.cell?_alloc_at _ _ _ _ (by simp)]; rfl
  have r1 : w1.cell? ⟨w.heap.size + 1, 1, none⟩ = some (.int .i64 0) := by rw [World.cell?_of_block (a := ⟨w.heap.size + 1, 1, none⟩) k1, World.cell?_alloc_at _ _ _ _ (by simp)]; rfl
  have r2 : w1.cell? ⟨w.heap.size + 1, 2, none⟩ = some (.slice none 0 0) := by rw [World.cell?_of_block (a := ⟨w.heap.size + 1, 2, none⟩) k1, World.cell?_alloc_at _ _ _ _ (by simp)]; rfl
  have hE1 : w1.cell? ⟨0, 0, none⟩ = some (.iface 97 (.agg #[.pointer (some ⟨9, 44, none⟩)])) := by
    rw [(hBa.trans (hB1.mono hBa.size)).cell (p := ⟨0, 0, none⟩) hE0]; exact hE
  have hB := hBa.trans (hB1.mono hBa.size)
  have q0 : w1.frozen? ⟨w.heap.size + 1, 0, none⟩ = false := by rw [World.frozen?_of_block (a := ⟨w.heap.size + 1, 0, none⟩) k1]; simp
  have q1 : w1.frozen? ⟨w.heap.size + 1, 1, none⟩ = false := by rw [World.frozen?_of_block (a := ⟨w.heap.size + 1, 1, none⟩) k1]; simp
  have q2 : w1.frozen? ⟨w.heap.size + 1, 2, none⟩ = false := by rw [World.frozen?_of_block (a := ⟨w.heap.size + 1, 2, none⟩) k1]; simp
  have hlt0 : w.heap.size < w1.heap.size := by omega
  have hlt1 : w.heap.size + 1 < w1.heap.size := by omega
  clear k0 k1
  rcases he with ⟨h0, v, rfl, ho⟩ | ⟨h0, rfl⟩
  · obtain ⟨a, cap, rfl, _⟩ := ho.isr
    go_wp2_with fail
    refine (Ae.none_ _ _).mono ?_
    rintro e w2 ⟨rfl, hw2⟩
    subst w2
    have hbx : Box3 w1 (w.heap.size + 1) (.int .i64 0) (.int .i64 0) (.slice none 0 0) := ⟨hlt1, ⟨r0, r1, r2⟩, q0, q1, q2⟩
    have hW0 : w.heap.size + 1 < ((w.alloc (.cells #[.int .i64 n, .int .i64 c] 25)).alloc (.cells #[.int .i64 0, .int .i64 0, .slice none 0 0] 30)).heap.size := by simp
    have HO : Hid (OwnT ((((w1.setCell ⟨w.heap.size + 1, 0, none⟩ (.int .i64 n)).setCell ⟨w.heap.size + 1, 1, none⟩ (.int .i64 c)).setCell ⟨w.heap.size + 1, 2, none⟩ (.slice a T.2.2.length cap)).alloc (.cells #[.int .i64 0, .int .i64 0] 48)) _ _ _ _) := (((ho.off (grown_set _ _ _ _) (.inl hW0)).off (grown_set _ _ _ _) (.inl hW0)).off (grown_set _ _ _ _) (.inl hW0)).below ((Below.refl _ _).alloc (Nat.le_refl _) _)
    have HB : Hid (Below w.heap.size w ((((w1.setCell ⟨w.heap.size + 1, 0, none⟩ (.int .i64 n)).setCell ⟨w.heap.size + 1, 1, none⟩ (.int .i64 c)).setCell ⟨w.heap.size + 1, 2, none⟩ (.slice a T.2.2.length cap)).alloc (.cells #[.int .i64 0, .int .i64 0] 48))) := (((hB.setCell (p := ⟨w.heap.size + 1, 0, none⟩) (by show _ ≤ w.heap.size + 1; omega) _).setCell (p := ⟨w.heap.size + 1, 1, none⟩) (by show _ ≤ w.heap.size + 1; omega) _).setCell (p := ⟨w.heap.size + 1, 2, none⟩) (by show _ ≤ w.heap.size + 1; omega) _).alloc (by simp [World.setCell]; omega) _
    have HX : Hid (Box3 ((((w1.setCell ⟨w.heap.size + 1, 0, none⟩ (.int .i64 n)).setCell ⟨w.heap.size + 1, 1, none⟩ (.int .i64 c)).setCell ⟨w.heap.size + 1, 2, none⟩ (.slice a T.2.2.length cap)).alloc (.cells #[.int .i64 0, .int .i64 0] 48)) _ _ _ _) := (setAll hbx (.int .i64 n) (.int .i64 c) (.slice a T.2.2.length cap)).alloc _
    have H0 : Hid (T.2.1 = 0) := h0
    clear hbx ho h0
    go_wp2
    have hX := HX.out
    have hO := HO.out
    have hBB := HB.out
    have hsz : w1.heap.size ≤ ((((w1.setCell ⟨w.heap.size + 1, 0, none⟩ (.int .i64 n)).setCell ⟨w.heap.size + 1, 1, none⟩ (.int .i64 c)).setCell ⟨w.heap.size + 1, 2, none⟩ (.slice a T.2.2.length cap)).alloc (.cells #[.int .i64 0, .int .i64 0] 48)).heap.size := by simp [World.setCell]
    obtain ⟨V, hV⟩ : ∃ V, (((w1.setCell ⟨w.heap.size + 1, 0, none⟩ (.int .i64 n)).setCell ⟨w.heap.size + 1, 1, none⟩ (.int .i64 c)).setCell ⟨w.heap.size + 1, 2, none⟩ (.slice a T.2.2.length cap)).alloc (.cells #[.int .i64 0, .int .i64 0] 48) = V := ⟨_, rfl⟩
    rw [hV] at hX hO hBB hsz ⊢
    obtain ⟨_, ⟨y0, y1, y2⟩, _⟩ := hX
    refine bodyPost_ret (v := .tuple #[.agg #[.int .i64 n, .int .i64 c, .slice a T.2.2.length cap], .int .i64 0, .int .i64 0]) (by simp [results, Tryz.results6, go_sem, y0, y1, y2]) rfl ⟨.inl ⟨H0.out, _, rfl, hO.mono (by simp; omega) hsz⟩, hBB⟩
  · unfold faulty
    obtain ⟨tl, tc, tr⟩ := T
    have H0 : Hid (¬ tc = 0) := h0
    clear h0 HT
    have hBf : Below w1.heap.size w1 (w1.alloc (.cells #[.int .i64 0, .int .i64 0] 48)) := (Below.refl _ _).alloc (Nat.le_refl _) _
    have hE2 := (hBf.cell (p := ⟨0, 0, none⟩) (by show 0 < _; omega)).trans hE1
    go_wp2_with fail
    refine (Ae.hit tl tc w1.heap.size (.int .i64 0) (.int .i64 0) _ hE2 (by simp) (by simp) (by simp) (by simp)).mono ?_
    rintro e w2 ⟨rfl, hw2⟩
    have hB12 : Below w1.heap.size w1 w2 := by
      rw [hw2]
      exact (((((hBf.alloc (by simp) _).alloc (by simp; omega) _).alloc (by simp; omega) _).alloc (by simp; omega) _).setCell (p := ⟨w1.heap.size, 0, none⟩) (Nat.le_refl _) _).setCell (p := ⟨w1.heap.size, 1, none⟩) (Nat.le_refl _) _
    have far : ∀ (x : Addr) (R A B D : Obj), x.block < (w1.alloc (.cells #[.int .i64 0, .int .i64 0] 48)).heap.size → (((((w1.alloc (.cells #[.int .i64 0, .int .i64 0] 48)).alloc R).alloc A).alloc B).alloc D).cell? x = (w1.alloc (.cells #[.int .i64 0, .int .i64 0] 48)).cell? x := fun x R A B D hx => by
      simp at hx
      rw [World.cell?_alloc_lt _ _ x (by simp; omega), World.cell?_alloc_lt _ _ x (by simp; omega), World.cell?_alloc_lt _ _ x (by simp; omega), World.cell?_alloc_lt _ _ x (by simp; omega)]
    have c1 : w2.cell? ⟨w1.heap.size, 1, none⟩ = some (.int .i64 tc) := by
      rw [hw2]
      refine World.cell?_setCell_same _ _ _ (u := .int .i64 0) ?_
      rw [World.cell?_setCell_other _ _ _ _ (by simp), far _ _ _ _ _ (by simp)]; simp
    have c0 : w2.cell? ⟨w1.heap.size, 0, none⟩ = some (.int .i64 tl) := by
      rw [hw2, World.cell?_setCell_other _ _ _ _ (by simp)]
      refine World.cell?_setCell_same _ _ _ (u := .int .i64 0) ?_
      rw [far _ _ _ _ _ (by simp)]; simp
    clear hw2 far hE2 hBf
    have hbx : Box3 w2 (w.heap.size + 1) (.int .i64 0) (.int .i64 0) (.slice none 0 0) := Box3.below ⟨hlt1, ⟨r0, r1, r2⟩, q0, q1, q2⟩ hB12
    obtain ⟨hl2, ⟨p0, p1, p2⟩, g0, g1, g2⟩ := id hbx
    have hBw := hB.trans (hB12.mono hB.size)
    have hne : ¬ w1.heap.size = w.heap.size + 1 := by omega
    clear r0 r1 r2 q0 q1 q2 e0 e1 hE1 hB12 hB1 hBa hB
    have HX : Hid (Box3 (((w2.setCell ⟨w.heap.size + 1, 0, none⟩ (.int .i64 0)).setCell ⟨w.heap.size + 1, 1, none⟩ (.int .i64 0)).setCell ⟨w.heap.size + 1, 2, none⟩ (.slice none 0 0)).drew _ _ _ _) := (setAll hbx (.int .i64 0) (.int .i64 0) (.slice none 0 0))
    have HB : Hid (Below w.heap.size w (((w2.setCell ⟨w.heap.size + 1, 0, none⟩ (.int .i64 0)).setCell ⟨w.heap.size + 1, 1, none⟩ (.int .i64 0)).setCell ⟨w.heap.size + 1, 2, none⟩ (.slice none 0 0)).drew) := (((hBw.setCell (p := ⟨w.heap.size + 1, 0, none⟩) (by show _ ≤ w.heap.size + 1; omega) _).setCell (p := ⟨w.heap.size + 1, 1, none⟩) (by show _ ≤ w.heap.size + 1; omega) _).setCell (p := ⟨w.heap.size + 1, 2, none⟩) (by show _ ≤ w.heap.size + 1; omega) _).drew
    clear hbx hBw
    go_wp2
    go_region
    go_wp2
    have hX := HX.out
    have hBB := HB.out
    obtain ⟨V, hV⟩ : ∃ V, (((w2.setCell ⟨w.heap.size + 1, 0, none⟩ (.int .i64 0)).setCell ⟨w.heap.size + 1, 1, none⟩ (.int .i64 0)).setCell ⟨w.heap.size + 1, 2, none⟩ (.slice none 0 0)).drew = V := ⟨_, rfl⟩
    rw [hV] at hX hBB ⊢
    obtain ⟨_, ⟨y0, y1, y2⟩, _⟩ := hX
    refine bodyPost_ret (v := .tuple #[.agg #[.int .i64 0, .int .i64 0, .slice none 0 0], .int .i64 tl, .int .i64 tc]) (by simp [results, Tryz.results6, go_sem, y0, y1, y2]) rfl ⟨.inr ⟨H0.out, rfl⟩, hBB⟩
end Go.Proofs.YtajfldjhbgilmaaGreatDoor.Rd
