/-
  What the laws of texts draw: a table that may be spoilt.
-/
import Derived.Test.YtdippfdobieefaaGreatDoorDrawY
namespace Go.Proofs.YtdippfdobieefaaGreatDoor.Db
set_option maxRecDepth 100000
open Go.RowKit
open Go.Proofs.YtdippfdobieefaaGreatDoor.Tb Go.Proofs.YtdippfdobieefaaGreatDoor.Tk

set_option maxHeartbeats 1000000 in
theorem drawTableText (w : World) (a : Option Addr) (len cap : Nat) (hB : Cu.Bytes w w.heap.size a len) (hl : (len : Int) ≤ 1048576) :
    Calls Tryz.prog 7 #[.slice a len cap] w fun e w' => ∃ (n c : Int) (ar : Option Addr) (cp : Nat) (rs : List Row), e = .returned (.agg #[.int .i64 n, .int .i64 c, .slice ar rs.length cp]) ∧ (rs.length ≤ 41 ∧ ∀ r ∈ rs, Row.sz r ≤ 60 ∧ Row.fits r) ∧ IsR w' ar rs ∧ Below w.heap.size w w' := by
  have br := box3_new w (.int .i64 0) (.int .i64 0) (.slice none 0 0) 28
  have hBa : Cu.Bytes (w.alloc (.cells #[.int .i64 0, .int .i64 0, .slice none 0 0] 28)) (w.alloc (.cells #[.int .i64 0, .int .i64 0, .slice none 0 0] 28)).heap.size a len :=
    hB.keptB (by simp) (fun k hk => Below.heap_alloc _ _ _ hk)
  have e0 := size_alloc w (.cells #[.int .i64 0, .int .i64 0, .slice none 0 0] 28)
  go_enter Tryz.func7, Tryz.ntmps7
  go_wp2_with fail
  obtain ⟨W, hW⟩ : ∃ W, w.alloc (.cells #[.int .i64 0, .int .i64 0, .slice none 0 0] 28) = W := ⟨_, rfl⟩
  rw [hW] at br hBa e0 ⊢
  have hBW : Below w.heap.size w W := by rw [← hW]; exact (Below.refl _ _).alloc (Nat.le_refl _) _
  have HS : Hid (W.heap.size = w.heap.size + 1) := e0
  clear hW e0
  refine (Cu.open_any _ _ _ _ hBa hl).mono ?_
  rintro e w1 ⟨rfl, hg1, hc1⟩
  have br1 := box3_cur br hg1 (by have := HS.out; omega)
  go_wp2_with fail
  refine (anyTable_any _ _ _ hc1 (by omega)).mono ?_
  rintro e w2 ⟨n, c, ar, cp, rs, rfl, hb, hR, hg2, hc2⟩
  have br2 := box3_cur br1 hg2 (by have := HS.out; omega)
  have hs1 : W.heap.size ≤ w1.heap.size := hg1.size
  have hgg := Cu.grown_trans hg1 hg2
  have HBB : Hid (Below w.heap.size w w2) := hBW.trans (Cu.grown_below hgg (by have := HS.out; omega) (by have := HS.out; omega))
  have HI : Hid (∀ v0 v1 v2, IsR (((w2.setCell ⟨w.heap.size, 0, none⟩ v0).setCell ⟨w.heap.size, 1, none⟩ v1).setCell ⟨w.heap.size, 2, none⟩ v2) ar rs) := fun v0 v1 v2 => by
    refine hR _ (by simp [World.setCell]) (fun k hk hk' => ?_)
    have hne : ¬ k = w.heap.size := by have := HS.out; omega
    have e0 := (grown_set' w2 w.heap.size 0 v0).block k (by omega) (by simp; omega)
    have e1 := (grown_set' (w2.setCell ⟨w.heap.size, 0, none⟩ v0) w.heap.size 1 v1).block k (by simp [World.setCell]; omega) (by simp; omega)
    have e2 := (grown_set' ((w2.setCell ⟨w.heap.size, 0, none⟩ v0).setCell ⟨w.heap.size, 1, none⟩ v1) w.heap.size 2 v2).block k (by simp [World.setCell]; omega) (by simp; omega)
    rw [e2, e1, e0]
  obtain ⟨hrl, ⟨r0, r1, r2⟩, rf0, rf1, rf2⟩ := id br2
  clear hg1 hg2 hgg hR hc1 hc2 hBa hB br br1 hBW
  go_wp2
  refine bodyPost_ret (v := .agg #[.int .i64 n, .int .i64 c, .slice ar rs.length cp]) (by rw [results_cell rfl]; go_simp) rfl ⟨n, c, ar, cp, rs, rfl, hb, HI.out _ _ _, ?_⟩
  exact ((HBB.out.setCell (p := ⟨w.heap.size, 0, none⟩) (Nat.le_refl _) _).setCell (p := ⟨w.heap.size, 1, none⟩) (Nat.le_refl _) _).setCell (p := ⟨w.heap.size, 2, none⟩) (Nat.le_refl _) _
end Go.Proofs.YtdippfdobieefaaGreatDoor.Db
