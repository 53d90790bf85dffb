/-
  Features and Predict of the program.
-/
import Derived.Test.YtkiddmbenepfjaaFea
namespace Go.Proofs.Ytkiddmbenepfjaa.Md
set_option maxRecDepth 20000
open Go.RowKit
open Go.Proofs.Ytkiddmbenepfjaa.Li (ret_bool ret_int btw below_none)
open Go.Proofs.Ytkiddmbenepfjaa.Tb (lets Row RowIs)
open Go.Proofs.Ytkiddmbenepfjaa.Tm (IsT szT)
open Go.Proofs.Ytkiddmbenepfjaa.Kt (Kv IsK ksz)
open Go.Proofs.Ytkiddmbenepfjaa.Sv (new1 new2 Wr wr2)
open Go.Proofs.Ytkiddmbenepfjaa.Sw (sm)
set_option linter.unusedVariables false
def pred (m : M) (r : Row) : Int := if fits m r = true then sm m.ts (pad (fl m r)) m.base else 0
theorem pred_no {m : M} {r : Row} (h : fits m r = false) : pred m r = 0 := by unfold pred; rw [if_neg (by rw [h]; simp)]
theorem pred_yes {m : M} {r : Row} (h : fits m r = true) : pred m r = sm m.ts (pad (fl m r)) m.base := by unfold pred; rw [if_pos h]
theorem sz_ts {m : M} (h : m.sz ≤ 1048576) : m.ts.length + szT m.ts ≤ 1048576 := by unfold M.sz at h; omega
set_option maxHeartbeats 2000000 in
theorem itell (w : World) (ak ax : Option Addr) (ck ct : Nat) (m : M) (h : Rm w ak ax m) (hl : m.sz ≤ 1048576) (v0 v1 v2 : Value) (r : Row) (hr : RowC w v0 v1 v2 r) (hz : r.sz ≤ 1048576) :
    Calls Try.prog 54 #[.agg #[.int .i64 m.n, .int .i64 m.c, .int .i64 m.prior, .int .i64 m.base, .slice ak m.ks.length ck, .slice ax m.ts.length ct], .agg #[v0, v1, v2]] w fun e w' => e = .returned (.bool (fits m r)) ∧ Below w.heap.size w w' := by
  obtain ⟨a0, c0, a1, c1, rfl, rfl, rfl, j0, j1, hcap⟩ := hr
  unfold Row.sz at hz
  go_enter Try.func54, Try.ntmps54
  go_wp2_with fail
  obtain ⟨W, hW, hsz, hB, bm, bs⟩ := new2 w [.int .i64 m.n, .int .i64 m.c, .int .i64 m.prior, .int .i64 m.base, .slice ak m.ks.length ck, .slice ax m.ts.length ct] [.slice a0 r.nums.length c0, .slice a1 r.cats.length c1, .int .i64 r.label] 34 45
  rw [hW]
  clear hW hsz
  refine (imok _ _ _ _ _ m (h.below hB) hl).mono ?_
  rintro e w1 ⟨rfl, hb⟩
  have bm := bm.below hb
  have bs := bs.below hb
  have hB := hB.trans (hb.mono hB.size)
  clear hb
  obtain ⟨_, ⟨x0, x1, x2, x3, x4, x5⟩, _⟩ := wr6 bm
  obtain ⟨_, ⟨y0, y1, y2⟩, _⟩ := wr3 bs
  cases h1 : mok m with
  | false =>
    have HR : Hid (fits m r = false) := by show _ = _; simp [fits, h1]
    go_wp2
    go_ret
    exact ⟨ret_bool HR.out.symm, hB⟩
  | true =>
  by_cases h2 : (r.nums.length : Int) = m.n
  rotate_left
  · have HR : Hid (fits m r = false) := by show _ = _; simp [fits, h2]
    have h2' : ((r.nums.length : Int) == m.n) = false := by simp [h2]
    go_wp2
    go_ret
    exact ⟨ret_bool HR.out.symm, hB⟩
  have h2' : ((r.nums.length : Int) == m.n) = true := by simp [h2]
  have H2 : Hid ((r.nums.length : Int) = m.n) := h2
  have HR : Hid (fits m r = ((r.cats.length : Int) == m.c)) := by
    show _ = _
    rw [Bool.eq_iff_iff]
    simp [fits, h1, h2]
  clear h2 h1
  obtain ⟨q, hq⟩ : ∃ q : Bool, ((r.cats.length : Int) == m.c) = q := ⟨_, rfl⟩
  rw [hq] at HR
  go_wp2
  go_ret
  exact ⟨ret_bool HR.out.symm, hB⟩
set_option maxHeartbeats 2000000 in
theorem ifs (w : World) (ak ax : Option Addr) (ck ct : Nat) (m : M) (h : Rm w ak ax m) (hl : m.sz ≤ 1048576) (v0 v1 v2 : Value) (r : Row) (hr : RowC w v0 v1 v2 r) (hz : r.sz ≤ 1048576) :
    Calls Try.prog 16 #[.agg #[.int .i64 m.n, .int .i64 m.c, .int .i64 m.prior, .int .i64 m.base, .slice ak m.ks.length ck, .slice ax m.ts.length ct], .agg #[v0, v1, v2]] w fun e w' => ∃ v, e = .returned (.tuple #[v, .bool (fits m r)]) ∧ Li.Own w' w.heap.size v (feats m r) ∧ Below w.heap.size w w' := by
  have hr' := hr
  obtain ⟨a0, c0, a1, c1, rfl, rfl, rfl, _⟩ := hr'
  go_enter Try.func16, Try.ntmps16
  go_wp2_with fail
  obtain ⟨W, hW, hsz, hB, bm, bs⟩ := new2 w [.int .i64 m.n, .int .i64 m.c, .int .i64 m.prior, .int .i64 m.base, .slice ak m.ks.length ck, .slice ax m.ts.length ct] [.slice a0 r.nums.length c0, .slice a1 r.cats.length c1, .int .i64 r.label] 34 45
  rw [hW]
  clear hW hsz
  refine (itell _ _ _ _ _ m (h.below hB) hl _ _ _ r (hr.below hB) hz).mono ?_
  rintro e w1 ⟨rfl, hb⟩
  have bm := bm.below hb
  have bs := bs.below hb
  have hB := hB.trans (hb.mono hB.size)
  clear hb
  obtain ⟨_, ⟨x0, x1, x2, x3, x4, x5⟩, _⟩ := wr6 bm
  obtain ⟨_, ⟨y0, y1, y2⟩, _⟩ := wr3 bs
  cases h1 : fits m r with
  | false =>
    have HR : Hid (feats m r = []) := feats_no h1
    have HV : Hid (fits m r = false) := h1
    go_wp2
    refine bodyPost_ret (v := .tuple #[.slice none 0 0, .bool false]) (by simp [results, Try.results16, go_sem]) rfl ?_
    exact ⟨_, by rw [HV.out], by rw [HR.out]; exact Li.Own.nil _ _, hB⟩
  | true =>
  have HR : Hid (feats m r = pad (fl m r)) := feats_yes h1
  have HV : Hid (fits m r = true) := h1
  have HF : Hid (Fit m r) := fits_fit h1
  clear h1
  have hm := h.below hB
  have hrr := hr.below hB
  go_wp2_with fail
  refine (ifeat _ _ _ _ _ m hm _ _ _ r hrr hz HF.out).mono ?_
  rintro e w2 ⟨v, rfl, ov, hb⟩
  obtain ⟨av, cv, ev, _⟩ := ov.isl
  subst ev
  have HO : Hid (Li.Own w2 w.heap.size (.slice av (pad (fl m r)).length cv) (feats m r)) := by rw [HR.out]; exact ov.mono hB.size
  have hB := hB.trans (hb.mono hB.size)
  clear hb ov x0 x1 x2 x3 x4 x5 y0 y1 y2
  obtain ⟨L, hL⟩ : ∃ L, (pad (fl m r)).length = L := ⟨_, rfl⟩
  rw [hL] at HO ⊢
  clear hL
  go_wp2
  refine bodyPost_ret (v := .tuple #[.slice av L cv, .bool true]) (by simp [results, Try.results16, go_sem]) rfl ?_
  exact ⟨_, by rw [HV.out], HO.out, hB⟩
set_option maxHeartbeats 2000000 in
theorem ipred (w : World) (ak ax : Option Addr) (ck ct : Nat) (m : M) (h : Rm w ak ax m) (hl : m.sz ≤ 1048576) (v0 v1 v2 : Value) (r : Row) (hr : RowC w v0 v1 v2 r) (hz : r.sz ≤ 1048576) :
    Calls Try.prog 24 #[.agg #[.int .i64 m.n, .int .i64 m.c, .int .i64 m.prior, .int .i64 m.base, .slice ak m.ks.length ck, .slice ax m.ts.length ct], .agg #[v0, v1, v2]] w fun e w' => e = .returned (.tuple #[.int .i64 (pred m r), .bool (fits m r)]) ∧ Below w.heap.size w w' := by
  have hr' := hr
  obtain ⟨a0, c0, a1, c1, rfl, rfl, rfl, _⟩ := hr'
  go_enter Try.func24, Try.ntmps24
  go_wp2_with fail
  obtain ⟨W, hW, hsz, hB, bm, bs⟩ := new2 w [.int .i64 m.n, .int .i64 m.c, .int .i64 m.prior, .int .i64 m.base, .slice ak m.ks.length ck, .slice ax m.ts.length ct] [.slice a0 r.nums.length c0, .slice a1 r.cats.length c1, .int .i64 r.label] 34 45
  rw [hW]
  clear hW hsz
  refine (itell _ _ _ _ _ m (h.below hB) hl _ _ _ r (hr.below hB) hz).mono ?_
  rintro e w1 ⟨rfl, hb⟩
  have bm := bm.below hb
  have bs := bs.below hb
  have hB := hB.trans (hb.mono hB.size)
  clear hb
  obtain ⟨_, ⟨x0, x1, x2, x3, x4, x5⟩, _⟩ := wr6 bm
  obtain ⟨_, ⟨y0, y1, y2⟩, _⟩ := wr3 bs
  cases h1 : fits m r with
  | false =>
    have HR : Hid (pred m r = 0) := pred_no h1
    have HV : Hid (fits m r = false) := h1
    go_wp2
    refine bodyPost_ret (v := .tuple #[.int .i64 0, .bool false]) (by simp [results, Try.results24, go_sem]) rfl ?_
    exact ⟨by rw [HR.out, HV.out], hB⟩
  | true =>
  have HR : Hid (pred m r = sm m.ts (pad (fl m r)) m.base) := pred_yes h1
  have HV : Hid (fits m r = true) := h1
  have HF : Hid (Fit m r) := fits_fit h1
  have HPL : Hid ((pad (fl m r)).length = 6) := pad_length (fits_fit h1).le
  clear h1
  have HM : Hid (Rm w1 ak ax m) := h.below hB
  have HRR : Hid (RowC w1 (.slice a0 r.nums.length c0) (.slice a1 r.cats.length c1) (.int .i64 r.label) r) := hr.below hB
  have HBM : Hid (type_of% bm) := bm
  have HBS : Hid (type_of% bs) := bs
  have HB : Hid (type_of% hB) := hB
  have HBD : Hid (Below w1.heap.size w1 w1.drew) := (Below.refl w1.heap.size w1).drew
  clear bm bs hB hr h
  go_wp2_with fail
  go_region_held3 (fun w' => (w'.cell? ⟨w.heap.size, 0, none⟩ = some (.int .i64 m.n) ∧ w'.cell? ⟨w.heap.size, 1, none⟩ = some (.int .i64 m.c) ∧ w'.cell? ⟨w.heap.size, 2, none⟩ = some (.int .i64 m.prior) ∧ w'.cell? ⟨w.heap.size, 3, none⟩ = some (.int .i64 m.base) ∧ w'.cell? ⟨w.heap.size, 4, none⟩ = some (.slice ak m.ks.length ck) ∧ w'.cell? ⟨w.heap.size, 5, none⟩ = some (.slice ax m.ts.length ct)) ∧ w'.cell? ⟨w.heap.size + 1, 0, none⟩ = some (.slice a0 r.nums.length c0) ∧ w'.cell? ⟨w.heap.size + 1, 1, none⟩ = some (.slice a1 r.cats.length c1) ∧ w'.cell? ⟨w.heap.size + 1, 2, none⟩ = some (.int .i64 r.label)) (go_keep) (first
    | (go_at_call 55
       refine (ifeat w1.drew _ _ _ _ m (HM.out.below HBD.out) _ _ _ r (HRR.out.below HBD.out) hz HF.out).mono ?_
       rintro e w2 ⟨v, rfl, ov, hb⟩
       have HY : Hid (Below w1.heap.size w1 w2) := HBD.out.trans hb
       obtain ⟨av, cv, ev, iv'⟩ := ov.isl
       subst ev
       have HIV : Hid (Li.IsL w2 av (pad (fl m r))) := iv'
       obtain ⟨_, ⟨z0, z1, z2, z3, z4, z5⟩, _⟩ := wr6 (HBM.out.below HY.out)
       obtain ⟨_, ⟨u0, u1, u2⟩, _⟩ := wr3 (HBS.out.below HY.out)
       clear hb ov iv')
    | (go_at_call 61
       refine (Sw.isum _ _ _ _ _ m.ts (pad (fl m r)) m.base (HM.out.t.below HY.out) HIV.out (sz_ts hl) (by have := HPL.out; omega)).mono ?_
       rintro e w3 ⟨rfl, hb⟩
       have HY2 : Hid (Below w1.heap.size w1 w3) := HY.out.trans (hb.mono HY.out.size)
       obtain ⟨_, ⟨s0, s1, s2, s3, s4, s5⟩, _⟩ := wr6 (HBM.out.below HY2.out)
       obtain ⟨_, ⟨q0, q1, q2⟩, _⟩ := wr3 (HBS.out.below HY2.out)
       clear hb))
  have hB := HB.out.trans (HY2.out.mono HB.out.size)
  rw [← HR.out]
  clear x0 x1 x2 x3 x4 x5 y0 y1 y2 z0 z1 z2 z3 z4 z5 u0 u1 u2 s0 s1 s2 s3 s4 s5 q0 q1 q2
  go_wp2
  refine bodyPost_ret (v := .tuple #[.int .i64 (pred m r), .bool true]) (by simp [results, Try.results24, go_sem]) rfl ?_
  exact ⟨by rw [HV.out], hB⟩
end Go.Proofs.Ytkiddmbenepfjaa.Md
