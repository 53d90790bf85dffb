/-
  Gain of the program.
-/
import Derived.Test.YtmfippeclkmhnaaSeB
namespace Go.Proofs.Ytmfippeclkmhnaa.Sw7
set_option maxRecDepth 100000
open Go.RowKit
open Go.Proofs.Ytmfippeclkmhnaa.Li (ret_bool ret_int below_none IsL btw)
open Go.Proofs.Ytmfippeclkmhnaa.Tm (IsP pv pv_length)
open Go.Proofs.Ytmfippeclkmhnaa.Se Go.Proofs.Ytmfippeclkmhnaa.Sv
set_option linter.unusedVariables false

theorem gain_ok {r : R} {f : Int} (b : Int) (h : can r f = true) : gain r f b = score (tally (idsA r f b) r.g (none0 16) r.g.length) r.l2 := by
  have h1 := score_wide (asked_rok b h)
  unfold gain
  rw [← h1, asked_ok b h]
  simp only [idsA_length]
  rw [(can_iff.1 h).1.1.2.1]
set_option maxHeartbeats 2000000 in
theorem igain (w : World) (a0 a1 a2 : Option Addr) (c0 c1 c2 : Nat) (r : R) (f b : Int) (h : Rd w a0 a1 a2 r) :
    Calls Try.prog 11 #[.agg #[.slice a0 r.x.length c0, .slice a1 r.g.length c1, .slice a2 r.ids.length c2, .int .i64 r.lv, .int .i64 r.l2], .agg #[.int .i64 f, .int .i64 b]] w fun e w' => e = .returned (.int .i64 (gain r f b)) ∧ Below w.heap.size w w' := by
  go_enter Try.func11, Try.ntmps11
  go_wp2_with fail
  obtain ⟨W, hW, hsz, hB, bx, bs⟩ := new2 w [.slice a0 r.x.length c0, .slice a1 r.g.length c1, .slice a2 r.ids.length c2, .int .i64 r.lv, .int .i64 r.l2] [.int .i64 f, .int .i64 b] 27 29
  rw [hW]
  clear hW hsz
  refine (ican _ _ _ _ _ _ _ r f b (h.below hB)).mono ?_
  rintro e w1 ⟨rfl, hb⟩
  have bx := bx.below hb
  have bs := bs.below hb
  have hB := hB.trans (hb.mono hB.size)
  clear hb
  cases hc : can r f with
  | false =>
    have HR : Hid (gain r f b = 0) := gain_no b hc
    go_wp2
    go_ret
    exact ⟨ret_int HR.out.symm, hB⟩
  | true =>
    have HC : Hid (can r f = true) := hc
    have HR : Hid (gain r f b = score (tally (idsA r f b) r.g (none0 16) r.g.length) r.l2) := gain_ok b hc
    obtain ⟨_, ⟨x0, x1, x2, x3, x4⟩, _⟩ := wr5 bx
    obtain ⟨_, ⟨y0, y1⟩, _⟩ := wr2 bs
    have HX : Hid (type_of% bx) := bx
    have HS : Hid (type_of% bs) := bs
    have HB : Hid (type_of% hB) := hB
    have HRD : Hid (Rd w1 a0 a1 a2 r) := h.below hB
    clear hc bx bs hB h
    go_wp2
    go_region_held3 (fun w' => (w'.cell? ⟨w.heap.size, 0, none⟩ = some (.slice a0 r.x.length c0) ∧ w'.cell? ⟨w.heap.size, 1, none⟩ = some (.slice a1 r.g.length c1) ∧ w'.cell? ⟨w.heap.size, 2, none⟩ = some (.slice a2 r.ids.length c2) ∧ w'.cell? ⟨w.heap.size, 3, none⟩ = some (.int .i64 r.lv) ∧ w'.cell? ⟨w.heap.size, 4, none⟩ = some (.int .i64 r.l2)) ∧ w'.cell? ⟨w.heap.size + 1, 0, none⟩ = some (.int .i64 f) ∧ w'.cell? ⟨w.heap.size + 1, 1, none⟩ = some (.int .i64 b)) (go_keep) (first
      | (go_at_call 30; refine (icasked w1.drew _ _ _ _ _ _ r f b HRD.out.drew HC.out).mono ?_; rintro e w2 ⟨rfl, hb⟩; have HY : Hid (Below w1.heap.size w1 w2) := (Tm.below_drew _).trans hb; obtain ⟨_, ⟨z0, z1, z2, z3, z4⟩, _⟩ := wr5 (HX.out.below HY.out); obtain ⟨_, ⟨u0, u1⟩, _⟩ := wr2 (HS.out.below HY.out); clear hb)
      | (go_at_call 31; refine (iscoreT _ _ _ (by rw [tally_length, none0_length])).mono ?_; rintro e w3 ⟨rfl, hb⟩; have HZ : Hid (Below w2.heap.size w2 w3) := hb; obtain ⟨_, ⟨t0, t1, t2, t3, t4⟩, _⟩ := wr5 ((HX.out.below HY.out).below hb); obtain ⟨_, ⟨v0, v1⟩, _⟩ := wr2 ((HS.out.below HY.out).below hb); clear hb))
    all_goals
      have hBB := (HB.out.trans (HY.out.mono HB.out.size))
      have hB2 := hBB.trans (HZ.out.mono hBB.size)
      go_wp2
      go_ret
      exact ⟨ret_int HR.out.symm, hB2⟩
end Go.Proofs.Ytmfippeclkmhnaa.Sw7
