/-
  Tables of words and their numbers, further: whether two are the same, whether marks are held.
-/
import Derived.Test.YtkiddmbenepfjaaKtb
namespace Go.Proofs.Ytkiddmbenepfjaa.Kt
set_option maxRecDepth 20000
open Go.RowKit
open Go.Proofs.Ytkiddmbenepfjaa.Sv (Fr fr_below new2 wr2)
open Go.Proofs.Ytkiddmbenepfjaa.Mk (mtexts mtexts_length)
open Go.Proofs.Ytkiddmbenepfjaa.Li (marks marks_length)
set_option linter.unusedVariables false
set_option maxHeartbeats 1000000 in
theorem eqTab (w : World) (a0 a1 b0 b1 : Option Addr) (c0 c1 d0 d1 : Nat) (t : Kv) (h0 : Ls.IsS w a0 t.ws) (h1 : Li.IsL w a1 t.vs) (g0 : Ls.IsS w b0 t.ws) (g1 : Li.IsL w b1 t.vs) (hl : t.ws.length + t.vs.length ≤ 1048576) :
    Calls Try.prog 71 #[.agg #[.slice a0 t.ws.length c0, .slice a1 t.vs.length c1], .agg #[.slice b0 t.ws.length d0, .slice b1 t.vs.length d1]] w fun e w' => e = .returned (.bool true) ∧ Below w.heap.size w w' := by
  go_enter Try.func71, Try.ntmps71
  go_wp2_with fail
  obtain ⟨W, hW, hsz, hB, bx, bY⟩ := new2 w [.slice a0 t.ws.length c0, .slice a1 t.vs.length c1] [.slice b0 t.ws.length d0, .slice b1 t.vs.length d1] 67 67
  rw [hW]
  clear hW
  refine (Ls.eq_bel _ _ _ _ _ t.ws t.ws (h0.below hB) (g0.below hB) (by omega) (by omega)).mono ?_
  rintro e w1 ⟨rfl, hb⟩
  rw [Ls.eqs_self]
  obtain ⟨_, ⟨_, x1⟩, _⟩ := wr2 (bx.below hb)
  obtain ⟨_, ⟨_, y1⟩, _⟩ := wr2 (bY.below hb)
  have hB := hB.trans (hb.mono hB.size)
  clear hb bx bY hsz
  go_wp2_with fail
  refine (Li.eq_bel _ _ _ _ _ t.vs t.vs (h1.below hB) (g1.below hB) (by omega) (by omega)).mono ?_
  rintro e w2 ⟨rfl, hb⟩
  rw [Li.eqs_self]
  have hB := hB.trans (hb.mono hB.size)
  clear hb x1 y1
  go_wp2
  go_ret
  exact ⟨rfl, hB⟩
set_option maxHeartbeats 2000000 in
theorem eqTabs (w : World) (a b : Option Addr) (ca cb : Nat) (ts : List Kv) (hx : IsK w a ts) (hy : IsK w b ts) (hl : ts.length + ktot ts ≤ 1048576) :
    Calls Try.prog 46 #[.slice a ts.length ca, .slice b ts.length cb] w fun e w' => e = .returned (.bool true) ∧ Below w.heap.size w w' := by
  have hne : ((ts.length : Int) != (ts.length : Int)) = false := by simp
  go_enter Try.func46, Try.ntmps46
  go_wp2
  go_loopw [5] (fun i wr => ∃ j : Nat, j ≤ ts.length ∧ i = .int .i64 j ∧ Below w.heap.size w wr) (fun i _ => ts.length - (intOf i).toNat)
  case atStart => exact ⟨0, Nat.zero_le _, rfl, Below.refl _ _⟩
  case round =>
    obtain ⟨j, hj, rfl, hB⟩ := hrel
    by_cases hlt : j < ts.length
    · rcases hx.below hB with h0 | ⟨xb, xo, rfl, hxb, hxc⟩
      · rw [h0] at hlt; simp at hlt
      rcases hy.below hB with h0 | ⟨yb, yo, rfl, hyb, hyc⟩
      · rw [h0] at hlt; simp at hlt
      obtain ⟨a0, c0, a1, c1, ⟨x0, x1⟩, i0, i1⟩ := hxc j hlt
      obtain ⟨b0, d0, b1, d1, ⟨y0, y1⟩, k0, k1⟩ := hyc j hlt
      have hta := ktot_at ts j hlt
      obtain ⟨t, ht⟩ : ∃ t, ts[j] = t := ⟨_, rfl⟩
      rw [ht] at x0 x1 i0 i1 y0 y1 k0 k1 hta
      have HI0 : Hid (Ls.IsS wr a0 t.ws) := i0
      have HI1 : Hid (Li.IsL wr a1 t.vs) := i1
      have HK0 : Hid (Ls.IsS wr b0 t.ws) := k0
      have HK1 : Hid (Li.IsL wr b1 t.vs) := k1
      have HB : Hid (Below w.heap.size w wr) := hB
      have HBD : Hid (Below wr.heap.size wr wr.drew) := (Below.refl wr.heap.size wr).drew
      clear hxc hyc ht i0 i1 k0 k1 hB
      go_wp2_with fail
      go_region_held3 (fun w' => w'.cell? ⟨xb, xo + j * 2, none⟩ = some (.slice a0 t.ws.length c0) ∧ w'.cell? ⟨xb, xo + j * 2 + 1, none⟩ = some (.slice a1 t.vs.length c1) ∧ w'.cell? ⟨yb, yo + j * 2, none⟩ = some (.slice b0 t.ws.length d0) ∧ w'.cell? ⟨yb, yo + j * 2 + 1, none⟩ = some (.slice b1 t.vs.length d1)) (go_keep) (first
        | (go_at_call 71
           refine (eqTab wr.drew _ _ _ _ _ _ _ _ t (HI0.out.below HBD.out) (HI1.out.below HBD.out) (HK0.out.below HBD.out) (HK1.out.below HBD.out) (by omega)).mono ?_
           rintro e w1 ⟨rfl, hb⟩
           have HY0 : Hid (Below wr.heap.size wr w1) := HBD.out.trans hb
           have z0 := (HY0.out.cell (p := ⟨xb, xo + j * 2, none⟩) hxb).trans x0
           have z1 := (HY0.out.cell (p := ⟨xb, xo + j * 2 + 1, none⟩) hxb).trans x1
           have z2 := (HY0.out.cell (p := ⟨yb, yo + j * 2, none⟩) hyb).trans y0
           have z3 := (HY0.out.cell (p := ⟨yb, yo + j * 2 + 1, none⟩) hyb).trans y1
           clear hb))
      have hB1 := HB.out.trans (HY0.out.mono HB.out.size)
      clear HY0 HB HI0 HI1 HK0 HK1 HBD
      go_wp2
      go_roundw
      case rel => exact ⟨j + 1, by omega, by go_num, hB1⟩
      case measure => simp [intOf]; omega
    · go_wp2
      go_ret
      exact ⟨rfl, hB⟩
end Go.Proofs.Ytkiddmbenepfjaa.Kt
