/-
  CellsOf of the model.
-/
import Derived.Test.YtbiphcolddcinaaSeE
namespace Go.Proofs.Ytbiphcolddcinaa.Sw7
open Go.RowKit
open Go.Proofs.Ytbiphcolddcinaa.Li (ret_bool ret_int below_none IsL btw)
open Go.Proofs.Ytbiphcolddcinaa.Tm (IsP pv pv_length)
open Go.Proofs.Ytbiphcolddcinaa.Se Go.Proofs.Ytbiphcolddcinaa.Sv
set_option linter.unusedVariables false

theorem bump_set (cs : List (Int × Int)) (j : Nat) (g : Int) (hj : j < cs.length) : bump cs (j : Int) g = cs.set j (cs[j].1 + 1, cs[j].2 + g) := by
  unfold bump
  rw [Int.toNat_natCast]
  simp [List.getD_eq_getElem?_getD, hj]
set_option maxHeartbeats 4000000 in
theorem scellsof (w : World) (a0 a1 a2 : Option Addr) (c0 c1 c2 : Nat) (r : R) (h : Rd w a0 a1 a2 r) :
    Calls Try.prog 20 #[.agg #[.slice a0 r.x.length c0, .slice a1 r.g.length c1, .slice a2 r.ids.length c2, .int .i64 r.lv, .int .i64 r.l2]] w fun e w' => ∃ v, e = .returned v ∧ OwC w' (fun k => w.heap.size ≤ k ∧ k < w'.heap.size) v (cells r) ∧ Below w.heap.size w w' := by
  obtain ⟨i0, hi, hz0, hz1, hz2⟩ := info_parts info_cell
  go_enter Try.func20, Try.ntmps20
  go_wp2_with fail
  obtain ⟨W, hW, hsz, hB, bx⟩ := new1 w [.slice a0 r.x.length c0, .slice a1 r.g.length c1, .slice a2 r.ids.length c2, .int .i64 r.lv, .int .i64 r.l2] 27
  rw [hW]
  clear hW hsz
  refine (srows _ _ _ _ _ _ _ r (h.below hB)).mono ?_
  rintro e w1 ⟨rfl, hb⟩
  have bx := bx.below hb
  have hB := hB.trans (hb.mono hB.size)
  clear hb
  have h := h.below hB
  cases hv : rok r with
  | false =>
    have HR : Hid (cells r = []) := cells_no hv
    go_wp2
    go_ret
    refine ⟨_, rfl, ?_, hB.alloc hB.size _⟩
    rw [HR.out]
    exact ⟨_, _, rfl, .inl rfl⟩
  | true =>
    have HK : Hid (ROk r) := rok_iff.1 hv
    have HV : Hid (rok r = true) := hv
    obtain ⟨⟨s1, s2, s3, s4, s5⟩, hrow⟩ := rok_iff.1 hv
    clear hv hrow
    obtain ⟨q, hq⟩ : ∃ q : Nat, r.lv = (q : Int) := ⟨r.lv.toNat, by omega⟩
    have HQ : Hid (r.lv.toNat = q) := by show _ = _; omega
    rw [hq] at bx s4 ⊢
    have hq16 : q ≤ 16 := by omega
    have hq0 : 0 < q := by omega
    have HQE : Hid (r.lv = (q : Int)) := hq
    clear hq
    obtain ⟨_, ⟨x0, x1, x2, x3, x4⟩, _⟩ := wr5 bx
    have hws := hB.size
    go_wp2_with (at_make; refine wpList_make_full _ rfl _ _ 32 rfl w1.heap.size 36 i0 (.agg #[.int .i64 0, .int .i64 0]) 2 Try.underlying32 hi hz0 hz1 _ _ _ _ q rfl rfl (by omega) (by omega) (by rw [hz2]; omega) (by unfold maxLen; omega) (Nat.le_refl _) ?_; intro w2 hown hgrow)
    rw [pv_made] at hown
    have bt := wr_row hown
    have hb2 := below_none hgrow
    clear hown hgrow x0 x1 x2 x3 x4
    go_loopw [4] (fun i wr => ∃ k : Nat, k ≤ r.ids.length ∧ i = .int .i64 k ∧ Wr wr w1.heap.size 0 (pv (tally r.ids r.g (none0 q) k)) ∧ Below w1.heap.size w1 wr) (fun i _ => r.ids.length - (intOf i).toNat)
    case atStart => exact ⟨0, Nat.zero_le _, rfl, bt, hb2⟩
    case round =>
      obtain ⟨k, hk, rfl, ht, hb⟩ := hrel
      have hBr := hB.trans (hb.mono hB.size)
      have HT : Hid (Wr wr w1.heap.size 0 (pv (tally r.ids r.g (none0 q) k))) := ht
      obtain ⟨hbx, ⟨x0, x1, x2, x3, x4⟩, _⟩ := wr5 (bx.below hb)
      by_cases hlt : k < r.ids.length
      · obtain ⟨xb, xo, gb, go, ib, io, a', c', rfl, rfl, rfl, ⟨hl0, hl1, hl2⟩, _, _, hg, hi⟩ := rd_row (h.below hb) s2 s3 k (by omega)
        have hrw := HK.out.2 k (by omega)
        obtain ⟨_, hgr, hid⟩ := hrw
        rw [HQE.out] at hid
        obtain ⟨j, hj⟩ : ∃ j : Nat, r.ids.getD k 0 = (j : Int) := ⟨(r.ids.getD k 0).toNat, by omega⟩
        rw [hj] at hi hid
        have hjl : j < (tally r.ids r.g (none0 q) k).length := by rw [tally_length, none0_length]; omega
        have HS : Hid (tally r.ids r.g (none0 q) (k + 1) = (tally r.ids r.g (none0 q) k).set j ((tally r.ids r.g (none0 q) k)[j].1 + 1, (tally r.ids r.g (none0 q) k)[j].2 + r.g.getD k 0)) := by
          show tally _ _ _ (k + 1) = _
          rw [← bump_set _ _ _ hjl, ← hj]; rfl
        have hck := tally_cok r.ids r.g q k (by omega) (fun i hi' => (HK.out.2 i (by omega)).2.1) j hjl
        obtain ⟨⟨t0, t1⟩, f0, f1⟩ := ht.at2 j hjl
        obtain ⟨T, hTT⟩ : ∃ T, tally r.ids r.g (none0 q) k = T := ⟨_, rfl⟩
        have hlt' : k < r.g.length := by omega
        obtain ⟨G, hG⟩ : ∃ G, r.g.getD k 0 = G := ⟨_, rfl⟩
        have HN2 : Hid (∀ N M : Int, Wr ((wr.setCell ⟨w1.heap.size, j * 2, none⟩ (.int .i64 N)).setCell ⟨w1.heap.size, j * 2 + 1, none⟩ (.int .i64 M)) w1.heap.size 0 (pv ((tally r.ids r.g (none0 q) k).set j (N, M)))) := fun N M => by have := ht.set2 j hjl N M; rw [Nat.zero_add] at this; exact this
        obtain ⟨N, hN⟩ : ∃ N, (tally r.ids r.g (none0 q) k)[j].1 = N := ⟨_, rfl⟩
        obtain ⟨M, hM⟩ : ∃ N, (tally r.ids r.g (none0 q) k)[j].2 = N := ⟨_, rfl⟩
        rw [hG] at hg hgr HS
        rw [hN, hM] at HS
        simp only [cok] at hck
        rw [hN, hM] at hck
        rw [hN] at t0
        rw [hM] at t1
        rw [Nat.zero_add] at t0 t1 f0 f1
        obtain ⟨⟨n0, n1⟩, g0, g1⟩ := hck
        have hltb : w1.heap.size < wr.heap.size := ht.1
        have ne0 : ¬ w.heap.size = w1.heap.size := by have := bx.1; omega
        have hjq : (j : Int) < q := by omega
        have hne1 : ¬ ib = w1.heap.size := by
          intro e
          rcases h.2.2 with h0 | ⟨b', o', e', hb', _⟩
          · rw [h0] at hlt; simp at hlt
          · cases e'; omega
        have hne2 : ¬ gb = w1.heap.size := by
          intro e
          rcases h.2.1 with h0 | ⟨b', o', e', hb', _⟩
          · rw [h0] at hlt'; simp at hlt'
          · cases e'; omega
        have hlti : (k : Int) < (r.ids.length : Int) := by omega
        have hltg : (k : Int) < (r.g.length : Int) := by omega
        clear hj hG hTT hN hM hjl ht
        go_wp2
        go_region
        go_wp2
        go_roundw
        case rel =>
          refine ⟨k + 1, by omega, by go_num, ?_, ?_⟩
          · rw [HS.out]; exact HN2.out _ _
          · exact ((hb.setCell (p := ⟨w1.heap.size, j * 2, none⟩) (Nat.le_refl _) _).setCell (p := ⟨w1.heap.size, j * 2 + 1, none⟩) (Nat.le_refl _) _).drew
        case measure => simp [intOf]; omega
      · obtain rfl : k = r.ids.length := by omega
        have HO : Hid (OwC wr (fun k => w.heap.size ≤ k ∧ k < wr.heap.size) (.slice (some ⟨w1.heap.size, 0, none⟩) q q) (cells r)) := by
          refine ⟨some ⟨w1.heap.size, 0, none⟩, q, ?_, .inr ⟨w1.heap.size, 0, rfl, ⟨by omega, HT.out.1⟩, ?_⟩⟩
          · rw [cells_ok HV.out, tally_length, none0_length, HQ.out]
          · rw [cells_ok HV.out, HQ.out]; exact HT.out
        clear ht HT
        go_wp2
        go_ret
        exact ⟨_, rfl, HO.out, hBr⟩
end Go.Proofs.Ytbiphcolddcinaa.Sw7
