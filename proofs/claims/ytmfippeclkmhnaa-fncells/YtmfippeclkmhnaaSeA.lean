/-
  What can be asked, and where a row goes that is asked (the program's).
-/
import Derived.Test.YtmfippeclkmhnaaSeF
namespace Go.Proofs.Ytmfippeclkmhnaa.Sw7
set_option maxRecDepth 100000
open Go.RowKit
open Go.Proofs.Ytmfippeclkmhnaa.Li (ret_bool ret_int below_none IsL btw)
open Go.Proofs.Ytmfippeclkmhnaa.Tm (IsP pv pv_length)
open Go.Proofs.Ytmfippeclkmhnaa.Se Go.Proofs.Ytmfippeclkmhnaa.Sv
set_option linter.unusedVariables false

theorem isl_pos {w : World} {a : Option Addr} {xs : List Int} (h : IsL w a xs) {k : Nat} (hk : k < xs.length) : ∃ b off, a = some ⟨b, off, none⟩ ∧ b < w.heap.size ∧ ∀ j (hj : j < xs.length), w.cell? ⟨b, off + j, none⟩ = some (.int .i64 xs[j]) := by
  rcases h with h | ⟨b, off, e, hb, hc⟩
  · rw [h] at hk; simp at hk
  · exact ⟨b, off, e, hb, hc⟩
set_option maxHeartbeats 400000 in
theorem ifeat (x : Int) (w : World) : Calls Try.prog 47 #[.int .i64 x] w fun e w' => e = .returned (.bool (btw x 0 5)) ∧ w' = w := by
  go_enter Try.func47, Try.ntmps47
  go_wp2
  all_goals go_ret
  all_goals refine ⟨ret_bool ?_, rfl⟩
  all_goals unfold btw
  all_goals simp
  all_goals first | omega | (rw [Bool.eq_iff_iff]; simp; omega)
set_option maxHeartbeats 1000000 in
theorem ipart (w : World) (a0 a1 a2 : Option Addr) (c0 c1 c2 : Nat) (r : R) (h : Rd w a0 a1 a2 r) :
    Calls Try.prog 46 #[.agg #[.slice a0 r.x.length c0, .slice a1 r.g.length c1, .slice a2 r.ids.length c2, .int .i64 r.lv, .int .i64 r.l2]] w fun e w' => e = .returned (.bool (rok r && decide (r.lv ≤ 8))) ∧ Below w.heap.size w w' := by
  go_enter Try.func46, Try.ntmps46
  go_wp2_with fail
  obtain ⟨W, hW, hsz, hB, bx⟩ := new1 w [.slice a0 r.x.length c0, .slice a1 r.g.length c1, .slice a2 r.ids.length c2, .int .i64 r.lv, .int .i64 r.l2] 27
  rw [hW]
  clear hW hsz
  refine (irows _ _ _ _ _ _ _ r (h.below hB)).mono ?_
  rintro e w1 ⟨rfl, hb⟩
  obtain ⟨_, ⟨x0, x1, x2, x3, x4⟩, _⟩ := wr5 (bx.below hb)
  have hB := hB.trans (hb.mono hB.size)
  clear hb
  cases hv : rok r with
  | false =>
    have HV : Hid (rok r = false) := hv
    go_wp2
    go_ret
    exact ⟨by rw [HV.out]; rfl, hB⟩
  | true =>
    have HV : Hid (rok r = true) := hv
    go_wp2
    go_ret
    exact ⟨ret_bool (by rw [HV.out]; simp), hB⟩
set_option maxHeartbeats 1000000 in
theorem ican (w : World) (a0 a1 a2 : Option Addr) (c0 c1 c2 : Nat) (r : R) (f b : Int) (h : Rd w a0 a1 a2 r) :
    Calls Try.prog 25 #[.agg #[.slice a0 r.x.length c0, .slice a1 r.g.length c1, .slice a2 r.ids.length c2, .int .i64 r.lv, .int .i64 r.l2], .agg #[.int .i64 f, .int .i64 b]] w fun e w' => e = .returned (.bool (can r f)) ∧ Below w.heap.size w w' := by
  go_enter Try.func25, Try.ntmps25
  go_wp2_with fail
  obtain ⟨W, hW, hsz, hB, bx, bs⟩ := new2 w [.slice a0 r.x.length c0, .slice a1 r.g.length c1, .slice a2 r.ids.length c2, .int .i64 r.lv, .int .i64 r.l2] [.int .i64 f, .int .i64 b] 27 29
  rw [hW]
  clear hW hsz
  refine (ipart _ _ _ _ _ _ _ r (h.below hB)).mono ?_
  rintro e w1 ⟨rfl, hb⟩
  obtain ⟨_, ⟨y0, y1⟩, _⟩ := wr2 (bs.below hb)
  have hB := hB.trans (hb.mono hB.size)
  clear hb
  have HC : Hid (can r f = (rok r && decide (r.lv ≤ 8) && btw f 0 5)) := rfl
  cases hv : (rok r && decide (r.lv ≤ 8)) with
  | false =>
    have HR : Hid (can r f = false) := by show _ = _; rw [HC.out, hv]; rfl
    go_wp2_with fail
    go_ret
    exact ⟨ret_bool HR.out.symm, hB⟩
  | true =>
    have HR : Hid (can r f = btw f 0 5) := by show _ = _; rw [HC.out, hv]; rfl
    go_wp2_with (go_at_call 47; refine (ifeat _ _).mono ?_; rintro e w' ⟨rfl, hw⟩; subst w')
    go_ret
    exact ⟨ret_bool HR.out.symm, hB⟩
set_option maxHeartbeats 400000 in
theorem isays (w : World) (f g v : Int) (ax : Option Addr) (n cx : Nat) (x : List Int) (hn : x.length = n) (hy : IsL w ax x) (h0 : 0 ≤ f) (h1 : f.toNat < x.length) (hl : x.length ≤ 1048576) (hv : x.getD f.toNat 0 = v) :
    Calls Try.prog 41 #[.agg #[.int .i64 f, .int .i64 g], .slice ax n cx] w fun e w' => e = .returned (.bool (decide (g < v))) ∧ Below w.heap.size w w' := by
  subst hn
  obtain ⟨b, off, rfl, hb, hc⟩ := isl_pos hy h1
  have hcz := hc _ h1
  have hv' : x[f.toNat] = v := by rw [← hv]; simp [List.getD_eq_getElem?_getD, h1]
  rw [hv'] at hcz
  have h1' : f < (x.length : Int) := by omega
  clear hc hv hv' h1
  go_enter Try.func41, Try.ntmps41
  go_wp2
  go_quiet (fail)
  go_wp2
  go_ret
  exact ⟨rfl, below_box⟩
set_option maxHeartbeats 2000000 in
theorem iid (w : World) (a0 a1 a2 : Option Addr) (c0 c1 c2 : Nat) (r : R) (f b : Int) (k : Nat) (h : Rd w a0 a1 a2 r) (hc : can r f = true) (hk : k < r.x.length) :
    Calls Try.prog 27 #[.agg #[.slice a0 r.x.length c0, .slice a1 r.g.length c1, .slice a2 r.ids.length c2, .int .i64 r.lv, .int .i64 r.l2], .agg #[.int .i64 f, .int .i64 b], .int .i64 k] w fun e w' => e = .returned (.int .i64 (idA r f b k)) ∧ Below w.heap.size w w' := by
  obtain ⟨⟨⟨s1, s2, s3, s4, s5⟩, hrow⟩, h8, f0, f5⟩ := can_iff.1 hc
  obtain ⟨hx6, _, hid⟩ := hrow k hk
  obtain ⟨xb, xo, gb, go, ib, io, a', c', rfl, rfl, rfl, ⟨hl0, hl1, hl2⟩, hx, hxl, hg, hi⟩ := rd_row h s2 s3 k hk
  have HID : Hid (idA r f b k = if b < (r.x.getD k []).getD f.toNat 0 then r.ids.getD k 0 + r.lv else r.ids.getD k 0) := rfl
  have HSAY : Hid (∀ (W : World), IsL W a' (r.x.getD k []) → Calls Try.prog 41 #[.agg #[.int .i64 f, .int .i64 b], .slice a' 6 c'] W fun e w' => e = .returned (.bool (decide (b < (r.x.getD k []).getD f.toNat 0))) ∧ Below W.heap.size W w') :=
    fun W hW => isays W f b _ a' 6 c' (r.x.getD k []) hx6 hW f0 (by rw [hx6]; omega) (by rw [hx6]; omega) rfl
  have HXL : Hid (IsL w a' (r.x.getD k [])) := hxl
  rw [hx6] at hx
  have hkx : (k : Int) < (r.x.length : Int) := by omega
  have hki : (k : Int) < (r.ids.length : Int) := by omega
  obtain ⟨I, hI⟩ : ∃ I, r.ids.getD k 0 = I := ⟨_, rfl⟩
  rw [hI] at hi hid HID
  obtain ⟨V, hV⟩ : ∃ V, (r.x.getD k []).getD f.toNat 0 = V := ⟨_, rfl⟩
  rw [hV] at HSAY HID
  clear hI hV hxl hx6 hrow hc h s2 s3 hg
  go_enter Try.func27, Try.ntmps27
  go_wp2
  obtain ⟨W, hW, hsz, hB, bx, bs⟩ := new2 w [.slice (some ⟨xb, xo, none⟩) r.x.length c0, .slice (some ⟨gb, go, none⟩) r.g.length c1, .slice (some ⟨ib, io, none⟩) r.ids.length c2, .int .i64 r.lv, .int .i64 r.l2] [.int .i64 f, .int .i64 b] 27 29
  rw [hW]
  have hx := (hB.cell (p := ⟨xb, xo + k, none⟩) (by exact hl0)).trans hx
  have hi := (hB.cell (p := ⟨ib, io + k, none⟩) (by exact hl2)).trans hi
  have HIB : Hid (ib < W.heap.size) := by show _ < _; omega
  have HXL2 : Hid (IsL W a' (r.x.getD k [])) := HXL.out.below hB
  have HBW : Hid (Below w.heap.size w W) := hB
  have HBX : Hid (Wr W w.heap.size 0 [.slice (some ⟨xb, xo, none⟩) r.x.length c0, .slice (some ⟨gb, go, none⟩) r.g.length c1, .slice (some ⟨ib, io, none⟩) r.ids.length c2, .int .i64 r.lv, .int .i64 r.l2]) := bx
  have HI : Hid (W.cell? ⟨ib, io + k, none⟩ = some (.int .i64 I)) := hi
  have HX : Hid (W.cell? ⟨xb, xo + k, none⟩ = some (.slice a' 6 c')) := hx
  have HXB : Hid (xb < W.heap.size) := by show _ < _; omega
  have HBS : Hid (Wr W (w.heap.size + 1) 0 [.int .i64 f, .int .i64 b]) := bs
  obtain ⟨_, ⟨x0, x1, x2, x3, x4⟩, _⟩ := wr5 bx
  obtain ⟨_, ⟨y0, y1⟩, _⟩ := wr2 bs
  clear hW hsz hB bx bs hi x1 x2 x3 x4
  go_region_held3 (fun w' => w'.cell? ⟨w.heap.size, 0, none⟩ = some (.slice (some ⟨xb, xo, none⟩) r.x.length c0) ∧ (w'.cell? ⟨w.heap.size + 1, 0, none⟩ = some (.int .i64 f) ∧ w'.cell? ⟨w.heap.size + 1, 1, none⟩ = some (.int .i64 b)) ∧ w'.cell? ⟨xb, xo + k, none⟩ = some (.slice a' 6 c')) (go_keep) (first
    | (go_at_call 41; refine (HSAY.out W.drew HXL2.out).mono ?_; rintro e w2 ⟨rfl, hb⟩; have HY : Hid (Below W.heap.size W w2) := (Tm.below_drew W).trans hb; obtain ⟨_, ⟨z0, z1, z2, z3, z4⟩, _⟩ := wr5 (HBX.out.below HY.out); obtain ⟨_, ⟨u0, u1⟩, _⟩ := wr2 (HBS.out.below HY.out); have hx2 := (HY.out.cell (p := ⟨xb, xo + k, none⟩) (by exact HXB.out)).trans HX.out; clear hb))
  all_goals
    have hi := (HY.out.cell (p := ⟨ib, io + k, none⟩) (by exact HIB.out)).trans HI.out
    have hBB := HBW.out.trans (HY.out.mono HBW.out.size)
    by_cases hbv : b < V
    · have HR : Hid (idA r f b k = I + r.lv) := by show _ = _; rw [HID.out, if_pos hbv]
      have hd : decide (b < V) = true := by simp [hbv]
      rw [hd]
      clear HSAY HID hd
      go_wp2
      go_quiet (fail)
      go_wp2
      go_ret
      exact ⟨ret_int HR.out.symm, hBB.trans ((Tm.below_drewN' _ _).mono hBB.size)⟩
    · have HR : Hid (idA r f b k = I) := by show _ = _; rw [HID.out, if_neg hbv]
      have hd : decide (b < V) = false := by simp [hbv]
      rw [hd]
      clear HSAY HID hd
      go_wp2
      go_ret
      exact ⟨ret_int HR.out.symm, hBB⟩
end Go.Proofs.Ytmfippeclkmhnaa.Sw7
