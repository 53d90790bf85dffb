/-
  Predict of the model.
-/
import Derived.Test.YtkiddmbenepfjaaFes
namespace Go.Proofs.Ytkiddmbenepfjaa.Md
set_option maxRecDepth 20000
open Go.RowKit
open Go.Proofs.Ytkiddmbenepfjaa.Tb (lets Row RowIs)
open Go.Proofs.Ytkiddmbenepfjaa.Sv (new1 new2 Wr wr2)
open Go.Proofs.Ytkiddmbenepfjaa.Sw (sm)
set_option linter.unusedVariables false
set_option maxHeartbeats 2000000 in
theorem spred (w : World) (ak ax : Option Addr) (ck ct : Nat) (m : M) (h : Rm w ak ax m) (hl : m.sz ≤ 1048576) (v0 v1 v2 : Value) (r : Row) (hr : RowIs w v0 v1 v2 r) (hz : r.sz ≤ 1048576) :
    Calls Try.prog 23 #[.agg #[.int .i64 m.n, .int .i64 m.c, .int .i64 m.prior, .int .i64 m.base, .slice ak m.ks.length ck, .slice ax m.ts.length ct], .agg #[v0, v1, v2]] w fun e w' => e = .returned (.tuple #[.int .i64 (pred m r), .bool (fits m r)]) ∧ Below w.heap.size w w' := by
  have hr' := hr
  obtain ⟨a0, c0, a1, c1, rfl, rfl, rfl, _⟩ := hr'
  have hfl := feats_len m r
  go_enter Try.func23, Try.ntmps23
  go_wp2_with fail
  obtain ⟨W, hW, hsz, hB, bm, bs⟩ := new2 w [.int .i64 m.n, .int .i64 m.c, .int .i64 m.prior, .int .i64 m.base, .slice ak m.ks.length ck, .slice ax m.ts.length ct] [.slice a0 r.nums.length c0, .slice a1 r.cats.length c1, .int .i64 r.label] 34 45
  rw [hW]
  clear hW hsz
  refine (sfs _ _ _ _ _ m (h.below hB) hl _ _ _ r (hr.below hB) hz).mono ?_
  rintro e w1 ⟨v, rfl, ov, hb⟩
  have bm := bm.below hb
  have hB := hB.trans (hb.mono hB.size)
  obtain ⟨av, cv, ev, iv'⟩ := ov.isl
  subst ev
  clear hb bs ov
  obtain ⟨_, ⟨x0, x1, x2, x3, x4, x5⟩, _⟩ := wr6 bm
  cases h1 : fits m r with
  | false =>
    have HR : Hid (pred m r = 0) := pred_no h1
    have HV : Hid (fits m r = false) := h1
    clear iv'
    obtain ⟨L, hL⟩ : ∃ L, (feats m r).length = L := ⟨_, rfl⟩
    rw [hL]
    clear hL
    go_wp2
    refine bodyPost_ret (v := .tuple #[.int .i64 0, .bool false]) (by simp [results, Try.results23, go_sem]) rfl ?_
    exact ⟨by rw [HR.out, HV.out], hB⟩
  | true =>
  have HR : Hid (pred m r = sm m.ts (feats m r) m.base) := by show _ = _; rw [pred_yes h1, feats_yes h1]
  have HV : Hid (fits m r = true) := h1
  clear h1
  have ht := h.t.below hB
  go_wp2_with fail
  refine (Sw.ssum _ _ _ _ _ m.ts (feats m r) m.base ht iv' (sz_ts hl) (by omega)).mono ?_
  rintro e w2 ⟨rfl, hb⟩
  have hB := hB.trans (hb.mono hB.size)
  rw [← HR.out]
  clear hb iv' ht x0 x1 x2 x3 x4 x5 bm
  go_wp2
  refine bodyPost_ret (v := .tuple #[.int .i64 (pred m r), .bool true]) (by simp [results, Try.results23, go_sem]) rfl ?_
  exact ⟨by rw [HV.out], hB⟩
end Go.Proofs.Ytkiddmbenepfjaa.Md
