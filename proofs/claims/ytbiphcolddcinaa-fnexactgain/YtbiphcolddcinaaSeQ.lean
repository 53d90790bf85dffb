/-
  Gain of the model.
-/
import Derived.Test.YtbiphcolddcinaaSeG
import Derived.Test.YtbiphcolddcinaaSeZ
namespace Go.Proofs.Ytbiphcolddcinaa.Sw7
open Go.RowKit
open Go.Proofs.Ytbiphcolddcinaa.Li (ret_bool ret_int below_none IsL btw)
open Go.Proofs.Ytbiphcolddcinaa.Tm (IsP pv pv_length)
open Go.Proofs.Ytbiphcolddcinaa.Se Go.Proofs.Ytbiphcolddcinaa.Sv
set_option linter.unusedVariables false

set_option maxHeartbeats 4000000 in
theorem sgain (w : World) (a0 a1 a2 : Option Addr) (c0 c1 c2 : Nat) (r : R) (f b : Int) (h : Rd w a0 a1 a2 r) :
    Calls Try.prog 31 #[.agg #[.slice a0 r.x.length c0, .slice a1 r.g.length c1, .slice a2 r.ids.length c2, .int .i64 r.lv, .int .i64 r.l2], .agg #[.int .i64 f, .int .i64 b]] w fun e w' => e = .returned (.int .i64 (gain r f b)) ∧ Below w.heap.size w w' := by
  go_enter Try.func31, Try.ntmps31
  go_wp2_with fail
  obtain ⟨W, hW, hsz, hB, bx, bs⟩ := new2 w [.slice a0 r.x.length c0, .slice a1 r.g.length c1, .slice a2 r.ids.length c2, .int .i64 r.lv, .int .i64 r.l2] [.int .i64 f, .int .i64 b] 27 29
  rw [hW]
  clear hW hsz bx bs
  refine (sasked _ _ _ _ _ _ _ r f b (h.below hB)).mono ?_
  rintro e w1 ⟨v0, v1, v2, rfl, ho, hb⟩
  have hB := hB.trans (hb.mono hB.size)
  obtain ⟨q, hq⟩ : ∃ q, asked r f b = q := ⟨_, rfl⟩
  have HG : Hid (gain r f b = score (cells q) q.l2) := by show _ = _; rw [← hq]; rfl
  rw [hq] at ho ⊢
  obtain ⟨d0, k0, d1, k1, d2, k2, rfl, rfl, rfl, hr⟩ := ho.rd
  clear hb ho hq h
  go_wp2
  obtain ⟨W2, hW2, hsz2, hb2, bq⟩ := new1 w1 [.slice d0 q.x.length k0, .slice d1 q.g.length k1, .slice d2 q.ids.length k2, .int .i64 q.lv, .int .i64 q.l2] 27
  rw [hW2]
  have hB := hB.trans (hb2.mono hB.size)
  have HR : Hid (Rd W2 d0 d1 d2 q) := hr.below hb2
  obtain ⟨_, ⟨x0, x1, x2, x3, x4⟩, _⟩ := wr5 bq
  have HQ : Hid (type_of% bq) := bq
  have HB : Hid (type_of% hB) := hB
  clear hW2 hsz2 hb2 bq hB hr
  go_region_held3 (fun w' => w'.cell? ⟨w1.heap.size, 0, none⟩ = some (.slice d0 q.x.length k0) ∧ w'.cell? ⟨w1.heap.size, 1, none⟩ = some (.slice d1 q.g.length k1) ∧ w'.cell? ⟨w1.heap.size, 2, none⟩ = some (.slice d2 q.ids.length k2) ∧ w'.cell? ⟨w1.heap.size, 3, none⟩ = some (.int .i64 q.lv) ∧ w'.cell? ⟨w1.heap.size, 4, none⟩ = some (.int .i64 q.l2)) (go_keep) (first
    | (go_at_call 20; refine (scellsof W2.drew _ _ _ _ _ _ q HR.out.drew).mono ?_; rintro e w2 ⟨v, rfl, oc, hb⟩; have HY : Hid (Below W2.heap.size W2 w2) := (Tm.below_drew _).trans hb; obtain ⟨ac, cc, rfl, hp⟩ := oc.isp; have HP : Hid (IsP w2 ac (cells q)) := hp; have hcl := cells_le q; obtain ⟨_, ⟨z0, z1, z2, z3, z4⟩, _⟩ := wr5 (HQ.out.below HY.out); clear hb oc hp)
    | (go_at_call 16; refine (sscore _ _ _ (cells q) q.l2 HP.out (by omega)).mono ?_; rintro e w3 ⟨rfl, hb⟩; have HZ : Hid (Below w2.heap.size w2 w3) := hb; obtain ⟨_, ⟨t0, t1, t2, t3, t4⟩, _⟩ := wr5 ((HQ.out.below HY.out).below hb); clear hb))
  all_goals
    have hBB := (HB.out.trans (HY.out.mono HB.out.size))
    have hB2 := hBB.trans (HZ.out.mono hBB.size)
    go_wp2
    go_ret
    exact ⟨ret_int HG.out.symm, hB2⟩
end Go.Proofs.Ytbiphcolddcinaa.Sw7
