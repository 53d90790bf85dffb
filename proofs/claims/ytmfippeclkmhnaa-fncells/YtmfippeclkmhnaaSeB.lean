/-
  The cells of the asked rows, and what a split gains (the program's).
-/
import Derived.Test.YtmfippeclkmhnaaSeA
namespace Go.Proofs.Ytmfippeclkmhnaa.Sw7
set_option maxRecDepth 100000
open Go.RowKit
open Go.Proofs.Ytmfippeclkmhnaa.Li (ret_bool ret_int below_none IsL btw)
open Go.Proofs.Ytmfippeclkmhnaa.Tm (IsP pv pv_length)
open Go.Proofs.Ytmfippeclkmhnaa.Se Go.Proofs.Ytmfippeclkmhnaa.Sv
set_option linter.unusedVariables false

theorem wr_range {w : World} {b o : Nat} {vs : List Value} (h : Wr w b o vs) : w.rangeAt b o vs := fun j v hv => by
  obtain ⟨hj, e⟩ := List.getElem?_eq_some_iff.1 hv
  rw [(h.2 j hj).1, e]
theorem wr_there {w : World} {b o : Nat} {vs : List Value} (h : Wr w b o vs) : w.there b o vs.length := fun j hj => ⟨by rw [(h.2 j hj).1]; rfl, (h.2 j hj).2⟩
theorem grown_setCells (b : Nat) : ∀ (vs : List Value) (o : Nat) (w : World), w.grownBy (w.setCells b o vs) (some b)
  | [], _, w => Li.grown_refl _ _
  | v :: r, o, w => Li.grown_trans (Li.grown_set w b o v) (grown_setCells b r (o + 1) _)
theorem info_tab : (Try.prog.info? 56).map (·.size) = some 32 := by kernel_rfl
set_option maxHeartbeats 4000000 in
theorem icasked (w : World) (a0 a1 a2 : Option Addr) (c0 c1 c2 : Nat) (r : R) (f b : Int) (h : Rd w a0 a1 a2 r) (hc : can r f = true) :
    Calls Try.prog 30 #[.agg #[.slice a0 r.x.length c0, .slice a1 r.g.length c1, .slice a2 r.ids.length c2, .int .i64 r.lv, .int .i64 r.l2], .agg #[.int .i64 f, .int .i64 b]] w fun e w' => e = .returned (.agg (pv (tally (idsA r f b) r.g (none0 16) r.g.length)).toArray) ∧ Below w.heap.size w w' := by
  have HC : Hid (can r f = true) := hc
  have HK : Hid (ROk r) := (can_iff.1 hc).1
  have HS2 : Hid (r.g.length = r.x.length) := HK.out.1.2.1
  have HS3 : Hid (r.ids.length = r.x.length) := HK.out.1.2.2.1
  have hle : r.g.length ≤ 40 := by rw [HS2.out]; exact HK.out.1.1
  have h16 : 2 * r.lv ≤ 16 := by have := (can_iff.1 hc).2.1; omega
  clear hc
  go_enter Try.func30, Try.ntmps30
  go_wp2
  obtain ⟨W0, hW0, hsz0, hB0, bx0, bs0⟩ := new2 w [.slice a0 r.x.length c0, .slice a1 r.g.length c1, .slice a2 r.ids.length c2, .int .i64 r.lv, .int .i64 r.l2] [.int .i64 f, .int .i64 b] 27 29
  rw [hW0]
  obtain ⟨W, hW, hsz, hB1, br, bt⟩ := new2 W0 (pv (none0 16)) (pv (none0 16)) 56 56
  rw [show (W0.alloc (.cells #[.int .i64 0, .int .i64 0, .int .i64 0, .int .i64 0, .int .i64 0, .int .i64 0, .int .i64 0, .int .i64 0, .int .i64 0, .int .i64 0, .int .i64 0, .int .i64 0, .int .i64 0, .int .i64 0, .int .i64 0, .int .i64 0, .int .i64 0, .int .i64 0, .int .i64 0, .int .i64 0, .int .i64 0, .int .i64 0, .int .i64 0, .int .i64 0, .int .i64 0, .int .i64 0, .int .i64 0, .int .i64 0, .int .i64 0, .int .i64 0, .int .i64 0, .int .i64 0] 56)).alloc (.cells #[.int .i64 0, .int .i64 0, .int .i64 0, .int .i64 0, .int .i64 0, .int .i64 0, .int .i64 0, .int .i64 0, .int .i64 0, .int .i64 0, .int .i64 0, .int .i64 0, .int .i64 0, .int .i64 0, .int .i64 0, .int .i64 0, .int .i64 0, .int .i64 0, .int .i64 0, .int .i64 0, .int .i64 0, .int .i64 0, .int .i64 0, .int .i64 0, .int .i64 0, .int .i64 0, .int .i64 0, .int .i64 0, .int .i64 0, .int .i64 0, .int .i64 0, .int .i64 0] 56) = W from hW]
  have bx := bx0.below hB1
  have bs := bs0.below hB1
  have hB := hB0.trans (hB1.mono hB0.size)
  rw [hsz0] at br bt
  have hS : W.heap.size = w.heap.size + 4 := by omega
  have HS : Hid (W.heap.size = w.heap.size + 4) := hS
  have HB : Hid (Below w.heap.size w W) := hB
  clear hW0 hW bx0 bs0 hB0 hB1 hsz0 hsz hS hB
  have bt : Wr W (w.heap.size + 1 + 1 + 1) 0 (pv (none0 16)) := bt
  have br : Wr W (w.heap.size + 1 + 1) 0 (pv (none0 16)) := br
  go_loopw [11] (fun i wr => ∃ k : Nat, k ≤ r.g.length ∧ i = .int .i64 k ∧ Wr wr (w.heap.size + 1 + 1 + 1) 0 (pv (tally (idsA r f b) r.g (none0 16) k)) ∧ Fr (fun q => q = w.heap.size + 1 + 1 + 1) W wr) (fun i _ => r.g.length - (intOf i).toNat)
  case atStart => exact ⟨0, Nat.zero_le _, rfl, bt, Fr.refl _ _⟩
  case round =>
    obtain ⟨k, hk, rfl, ht, hF⟩ := hrel
    have HT : Hid (Wr wr (w.heap.size + 1 + 1 + 1) 0 (pv (tally (idsA r f b) r.g (none0 16) k))) := ht
    have HF : Hid (Fr (fun q => q = w.heap.size + 1 + 1 + 1) W wr) := hF
    have bxr := bx.fr hF (by omega)
    have bsr := bs.fr hF (by omega)
    have brr := br.fr hF (by omega)
    have hbw : Below w.heap.size w wr := HB.out.trans (hF.bel (fun q e => by omega) (by have := HS.out; omega))
    clear ht hF
    by_cases hlt : k < r.g.length
    · have hkx : k < r.x.length := by rw [← HS2.out]; exact hlt
      obtain ⟨xb, xo, gb, go, ib, io, a', c', rfl, rfl, rfl, ⟨hl0, hl1, hl2⟩, _, _, hg, _⟩ := rd_row (h.below hbw) HS2.out HS3.out k hkx
      have HRD : Hid (Rd wr (some ⟨xb, xo, none⟩) (some ⟨gb, go, none⟩) (some ⟨ib, io, none⟩) r) := h.below hbw
      have hgr := (HK.out.2 k hkx).2.1
      have hir := idA_range b HC.out k hkx
      obtain ⟨j, hj⟩ : ∃ j : Nat, idA r f b k = (j : Int) := ⟨(idA r f b k).toNat, by omega⟩
      have HJ : Hid (idA r f b k = (j : Int)) := hj
      have HST : Hid (tally (idsA r f b) r.g (none0 16) (k + 1) = bump (tally (idsA r f b) r.g (none0 16) k) (j : Int) (r.g.getD k 0)) := by
        show tally _ _ _ (k + 1) = _
        rw [← hj, ← idsA_get r f b k hkx]; rfl
      have HCK : Hid (cok ((tally (idsA r f b) r.g (none0 16) k).getD j (0, 0))) := tally_getD _ _ _ _ _ (by omega) (by omega) (fun i hi' => (HK.out.2 i (by omega)).2.1)
      have hj16 : j < 16 := by omega
      obtain ⟨G, hG⟩ : ∃ G, r.g.getD k 0 = G := ⟨_, rfl⟩
      rw [hG] at hg hgr HST
      obtain ⟨_, ⟨x0, x1, x2, x3, x4⟩, _⟩ := wr5 bxr
      obtain ⟨_, ⟨y0, y1⟩, _⟩ := wr2 bsr
      clear hj hG hir hkx bxr bsr brr
      go_wp2_with fail
      clear x0 x1 x2 x3 x4 y0 y1 hg
      refine (iid _ _ _ _ _ _ _ r f b k HRD.out HC.out (by rw [← HS2.out]; exact hlt)).mono ?_
      rintro e w2 ⟨rfl, hb2⟩
      rw [HJ.out]
      have HT2 : Hid (Wr w2 (w.heap.size + 1 + 1 + 1) 0 (pv (tally (idsA r f b) r.g (none0 16) k))) := HT.out.below hb2
      have HF2 : Hid (Fr (fun q => q = w.heap.size + 1 + 1 + 1) W w2) := HF.out.trans (fr_below hb2)
      clear hb2
      go_wp2_with fail
      refine (iadd _ _ j _ _ HT2.out (by rw [tally_length, none0_length]) hj16 hgr HCK.out).mono ?_
      rintro e w3 ⟨⟨v, rfl⟩, ht3, hg3, hz3⟩
      have HT3 : Hid (Wr w3 (w.heap.size + 1 + 1 + 1) 0 (pv (tally (idsA r f b) r.g (none0 16) (k + 1)))) := by show Wr _ _ _ _; rw [HST.out]; exact ht3
      have HF3 : Hid (Fr (fun q => q = w.heap.size + 1 + 1 + 1) W w3) := HF2.out.trans (fr_grown hg3 rfl)
      clear ht3 hg3 hz3
      go_wp2
      go_roundw
      case rel => exact ⟨k + 1, by omega, by go_num, HT3.out, HF3.out⟩
      case measure => simp [intOf]; omega
    · obtain rfl : k = r.g.length := by omega
      obtain ⟨cs, hcs⟩ : ∃ cs, tally (idsA r f b) r.g (none0 16) r.g.length = cs := ⟨_, rfl⟩
      have hcl : cs.length = 16 := by rw [← hcs, tally_length, none0_length]
      have hpl : (pv cs).length = 32 := by rw [pv_length, hcl]
      have hps : (pv cs).toArray.size = 32 := by simp [hpl]
      rw [hcs] at HT
      have HCS : Hid (tally (idsA r f b) r.g (none0 16) r.g.length = cs) := hcs
      have HBW : Hid (Below w.heap.size w wr) := hbw
      have HTH : Hid (wr.there (w.heap.size + 1 + 1) 0 (pv cs).toArray.size) := by
        have := wr_there brr
        rw [pv_length, none0_length] at this
        show wr.there _ _ _
        rw [hps]
        exact this
      clear hcs bxr bsr hbw hlt
      go_wp2_with (first
        | (refine wpList_load_mid rfl 56 (.tmp 5) rfl (w.heap.size + 1 + 1 + 1) 0 rfl (pv cs) (.array 16 36) (wr_range HT.out) Try.underlying56 rfl (by rw [hpl]; exact info_tab) ?_)
        | (refine wpList_store_mid rfl 56 (.tmp 4) (.tmp 23) rfl (w.heap.size + 1 + 1) 0 (pv cs).toArray rfl rfl HTH.out (by rw [hps]; exact info_tab) (all_oneCell_toArray (pv_one _)) ?_))
      have hr2 : (wr.setCells (w.heap.size + 1 + 1) 0 (pv cs)).rangeAt (w.heap.size + 1 + 1) 0 (pv cs) := World.rangeAt_setCells_same _ _ _ _ (by have := HTH.out; rw [hps] at this; rw [hpl]; exact this)
      refine bodyPost_ret (v := .agg (pv cs).toArray) (by
        rw [Tm.results_cell rfl]
        have := run_loadVar_mid (P := Try.prog) (wr.setCells (w.heap.size + 1 + 1) 0 (pv cs)) (w.heap.size + 1 + 1) 0 56 (pv cs) (.array 16 36) hr2 Try.underlying56 rfl (by rw [hpl]; exact info_tab)
        simpa [go_sem] using this) rfl ⟨by rw [HCS.out], ?_⟩
      have hgs := grown_setCells (w.heap.size + 1 + 1) (pv cs) 0 wr
      exact HBW.out.trans ⟨hgs.os, hgs.tape, hgs.output, hgs.size, fun q hq => hgs.block q (by have := HBW.out.size; omega) (fun e => by cases e; omega)⟩
end Go.Proofs.Ytmfippeclkmhnaa.Sw7
