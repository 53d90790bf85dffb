/-
  Contracts that the proof leans on, put together in the order in which they build.
-/
import Derived.Test.YtcadgeepknhmfaaGreatPart24
import Derived.Test.YtcadgeepknhmfaaGreatPart2
import Derived.Deep.Cut
/-
  Features and Predict of the model.
-/
namespace Go.Proofs.YtcadgeepknhmfaaGreat.Md
set_option maxRecDepth 20000
open Go.RowKit
open Go.Proofs.YtcadgeepknhmfaaGreat.Li (ret_bool ret_int btw below_none)
open Go.Proofs.YtcadgeepknhmfaaGreat.Wd (idOf idOf_lo idOf_hi paired pr)
open Go.Proofs.YtcadgeepknhmfaaGreat.Tb (lets Row RowIs)
open Go.Proofs.YtcadgeepknhmfaaGreat.Tm (IsT szT)
open Go.Proofs.YtcadgeepknhmfaaGreat.Kt (Kv IsK ksz)
open Go.Proofs.YtcadgeepknhmfaaGreat.Sv (new1 new2 Wr wr2)
open Go.Proofs.YtcadgeepknhmfaaGreat.Sw (sm)
open Go.Proofs.YtcadgeepknhmfaaGreat.Ad (clip)
set_option linter.unusedVariables false
theorem wds_two {ws : List ByteArray} (h : ws.length = 2) : wds ws = ws ++ [pr (ws[0]'(by omega)) (ws[1]'(by omega))] := by
  unfold wds
  rw [if_pos h]
  obtain ⟨a, b, rfl⟩ : ∃ a b, ws = [a, b] := by
    match ws, h with
    | [a, b], _ => exact ⟨a, b, rfl⟩
  rfl
set_option maxHeartbeats 8000000 in
theorem sfs (w : World) (ak ax : Option Addr) (ck ct : Nat) (m : M) (h : Rm w ak ax m) (hl : m.sz ≤ 1048576) (v0 v1 v2 : Value) (r : Row) (hr : RowIs w v0 v1 v2 r) (hz : r.sz ≤ 1048576) :
    Calls Tryz.prog 14 #[.agg #[.int .i64 m.n, .int .i64 m.c, .int .i64 m.prior, .int .i64 m.base, .slice ak m.ks.length ck, .slice ax m.ts.length ct], .agg #[v0, v1, v2]] w fun e w' => ∃ v, e = .returned (.tuple #[v, .bool (fits m r)]) ∧ Li.Own w' w.heap.size v (feats m r) ∧ Below w.heap.size w w' := by
  obtain ⟨i0, hi, hz0, hz1, hz2⟩ := info_parts Li.info_int
  obtain ⟨k0, hki, hkz0, hkz1, hkz2⟩ := info_parts Ls.info_str
  obtain ⟨a0, c0, a1, c1, rfl, rfl, rfl, j0, j1⟩ := hr
  have hzs : ∀ j (hj : j < r.cats.length), r.cats[j].size ≤ 1048576 := fun j hj => by have := Tb.lets_at r.cats j hj; unfold Row.sz at hz; omega
  have hnl : r.nums.length ≤ 1048576 := by unfold Row.sz at hz; omega
  have hcl : r.cats.length ≤ 1048576 := by unfold Row.sz at hz; omega
  go_enter Tryz.func14, Tryz.ntmps14
  go_wp2_with fail
  obtain ⟨W, hW, hsz, hB, bm, bs⟩ := new2 w [.int .i64 m.n, .int .i64 m.c, .int .i64 m.prior, .int .i64 m.base, .slice ak m.ks.length ck, .slice ax m.ts.length ct] [.slice a0 r.nums.length c0, .slice a1 r.cats.length c1, .int .i64 r.label] 29 33
  rw [hW]
  have HW2 : Hid (w.heap.size + 2 = W.heap.size) := hsz.symm
  clear hW hsz
  refine (smok _ _ _ _ _ m (h.below hB) hl).mono ?_
  rintro e w1 ⟨rfl, hb⟩
  have bm := bm.below hb
  have bs := bs.below hb
  have hB := hB.trans (hb.mono hB.size)
  have HW1 : Hid (w.heap.size + 2 ≤ w1.heap.size) := by show _ ≤ _; have := hb.size; have := HW2.out; omega
  clear hb HW2
  obtain ⟨_, ⟨x0, x1, x2, x3, x4, x5⟩, _⟩ := wr6 bm
  obtain ⟨_, ⟨y0, y1, y2⟩, _⟩ := wr3 bs
  have HNO : Hid (fits m r = false → Li.Own (w1.alloc (.cells #[] 3)) w.heap.size (.slice (some ⟨w1.heap.size, 0, none⟩) 0 0) (feats m r) ∧ Below w.heap.size w (w1.alloc (.cells #[] 3))) := fun e => by
    rw [feats_no e]
    exact ⟨Ai.own_empty w1 _ hB.size, hB.alloc hB.size _⟩
  cases h1 : mok m with
  | false =>
    have HV : Hid (fits m r = false) := by show _ = _; simp [fits, h1]
    go_wp2
    refine bodyPost_ret (v := .tuple #[.slice (some ⟨w1.heap.size, 0, none⟩) 0 0, .bool false]) (by simp [results, Tryz.results14, go_sem]) rfl ?_
    exact ⟨_, by rw [HV.out], (HNO.out HV.out).1, (HNO.out HV.out).2⟩
  | true =>
  by_cases h2 : (r.nums.length : Int) = m.n
  rotate_left
  · have HV : Hid (fits m r = false) := by show _ = _; simp [fits, h2]
    have h2' : ((r.nums.length : Int) != m.n) = true := by simp [h2]
    go_wp2
    refine bodyPost_ret (v := .tuple #[.slice (some ⟨w1.heap.size, 0, none⟩) 0 0, .bool false]) (by simp [results, Tryz.results14, go_sem]) rfl ?_
    exact ⟨_, by rw [HV.out], (HNO.out HV.out).1, (HNO.out HV.out).2⟩
  have h2' : ((r.nums.length : Int) != m.n) = false := by simp [h2]
  by_cases h3 : (r.cats.length : Int) = m.c
  rotate_left
  · have HV : Hid (fits m r = false) := by show _ = _; simp [fits, h3]
    have h3' : ((r.cats.length : Int) != m.c) = true := by simp [h3]
    clear h2
    go_wp2
    refine bodyPost_ret (v := .tuple #[.slice (some ⟨w1.heap.size, 0, none⟩) 0 0, .bool false]) (by simp [results, Tryz.results14, go_sem]) rfl ?_
    exact ⟨_, by rw [HV.out], (HNO.out HV.out).1, (HNO.out HV.out).2⟩
  have h3' : ((r.cats.length : Int) != m.c) = false := by simp [h3]
  have hv : fits m r = true := by simp [fits, h1, h2, h3]
  have HV : Hid (fits m r = true) := hv
  have HF : Hid (Fit m r) := fits_fit hv
  have HFE : Hid (feats m r = pad (fl m r)) := feats_yes hv
  have hn3 := (fits_fit hv).n3
  have hc2 := (fits_fit hv).c2
  have hw3 := (fits_fit hv).w3
  clear hv h1 h2 h3 HNO hnl hcl
  go_wp2_with (at_make; refine wpList_make_full _ rfl _ _ 30 rfl w1.heap.size 3 i0 (.int .i64 0) 1 Tryz.underlying30 hi hz0 hz1 _ _ _ _ 6 rfl rfl (by omega) (by omega) (by rw [hz2]; omega) (by unfold maxLen; omega) (Nat.le_refl _) ?_; intro w2 hown hgrow; have hb1 := below_none hgrow)
  have ol := Li.own_made hown
  have bm := bm.below hb1
  have bs := bs.below hb1
  have hB := hB.trans (hb1.mono hB.size)
  obtain ⟨G, hG⟩ : ∃ G, w1.heap.size = G := ⟨_, rfl⟩
  rw [hG] at ol HW1 ⊢
  rw [← pad_nil, ← List.take_zero (l := fl m r)] at ol
  clear hown hgrow hb1 hG x0 x1 x2 x3 x4 x5 y0 y1 y2 h2' h3'
  go_wp2
  go_loopw [7] (fun i wr => ∃ k : Nat, k ≤ r.nums.length ∧ i = .int .i64 k ∧ Li.Own wr G (.slice (some ⟨G, 0, none⟩) 6 6) (pad ((fl m r).take k)) ∧ Wr wr w.heap.size 0 [.int .i64 m.n, .int .i64 m.c, .int .i64 m.prior, .int .i64 m.base, .slice ak m.ks.length ck, .slice ax m.ts.length ct] ∧ Wr wr (w.heap.size + 1) 0 [.slice a0 r.nums.length c0, .slice a1 r.cats.length c1, .int .i64 r.label] ∧ Below w.heap.size w wr) (fun i _ => r.nums.length - (intOf i).toNat)
  case atStart => exact ⟨0, Nat.zero_le _, rfl, ol, bm, bs, hB⟩
  case round =>
    clear ol bm bs hB
    obtain ⟨k, hk, rfl, ol, bm, bs, hB⟩ := hrel
    have HPL : Hid ((pad ((fl m r).take k)).length = 6) := pad_length (by have := HF.out.le; simp; omega)
    obtain ⟨hbs, ⟨y0, y1, y2⟩, _⟩ := wr3 bs
    by_cases hlt : k < r.nums.length
    · rcases j0.below hB with e0 | ⟨nb, no, rfl, hnb, hnc⟩
      · rw [e0] at hlt; simp at hlt
      have d := hnc k hlt
      have hkf : k < (fl m r).length := by rw [HF.out.len]; omega
      have HST : Hid ((pad ((fl m r).take k)).set k (clip r.nums[k]) = pad ((fl m r).take (k + 1))) := by
        show _ = _
        rw [← HF.out.num k hlt hkf]; exact pad_step _ _ hkf HF.out.le
      obtain ⟨x, hx⟩ : ∃ x, r.nums[k] = x := ⟨_, rfl⟩
      rw [hx] at d HST
      have hcell := ol.cell HPL.out k (by have := HPL.out; omega)
      obtain ⟨cv, hcv⟩ : ∃ cv, wr.cell? ⟨G, k, none⟩ = some cv := ⟨_, hcell⟩
      have hcf := ol.frozen HPL.out k
      have hk6 : (k : Int) < 6 := by omega
      have HO : Hid (Li.Own (wr.setCell ⟨G, k, none⟩ (.int .i64 (clip x))) G (.slice (some ⟨G, 0, none⟩) 6 6) (pad ((fl m r).take (k + 1)))) := by
        have := ol.set HPL.out k (clip x)
        rw [HST.out] at this
        exact this
      have HBM : Hid (∀ v, Wr (wr.setCell ⟨G, k, none⟩ v) w.heap.size 0 [.int .i64 m.n, .int .i64 m.c, .int .i64 m.prior, .int .i64 m.base, .slice ak m.ks.length ck, .slice ax m.ts.length ct]) := fun v => bm.setOther (by have := HW1.out; omega)
      have HBS : Hid (∀ v, Wr (wr.setCell ⟨G, k, none⟩ v) (w.heap.size + 1) 0 [.slice (some ⟨nb, no, none⟩) r.nums.length c0, .slice a1 r.cats.length c1, .int .i64 r.label]) := fun v => bs.setOther (by have := HW1.out; omega)
      have HBB : Hid (∀ v, Below w.heap.size w (wr.setCell ⟨G, k, none⟩ v)) := fun v => hB.setCell (p := ⟨G, k, none⟩) (by show w.heap.size ≤ G; have := HW1.out; omega) _
      clear hnc hx hcell ol bm bs hB
      go_wp2_with (go_at_call 26; refine (Ad.clip_any _ _).mono ?_; rintro e w' ⟨rfl, hw⟩; subst w')
      go_roundw
      case rel => exact ⟨k + 1, by omega, by go_num, HO.out, HBM.out _, HBS.out _, HBB.out _⟩
      case measure => simp [intOf]; omega
    · obtain rfl : k = r.nums.length := by omega
      clear HPL
      have HGB : Hid (G < wr.heap.size) := (ol.ge G rfl).2
      have HA1 : Hid (Below wr.heap.size wr (wr.alloc (.cells #[] 9))) := (Below.refl _ _).alloc (Nat.le_refl _) _
      have jr := (j1.below hB).below HA1.out
      have HOL : Hid (type_of% ol) := ol
      have HBM : Hid (type_of% bm) := bm
      have HB : Hid (type_of% hB) := hB
      clear ol bm hB
      go_upto_if 57 with (at_builtin; refine As.wpl_appS rfl _ _ rfl wr.heap.size wr.heap.size a1 r.cats.length c1 r.cats rfl rfl (Ap.sown_empty wr wr.heap.size (Nat.le_refl _)) rfl jr (by omega) (by simp) ?_; intro g cap w3 how hgrow hloc hgl)
      have HY : Hid (Below wr.heap.size wr w3) := HA1.out.trans ⟨hgrow.os, hgrow.tape, hgrow.output, hgrow.size, fun q hq => hgrow.block q (by simp; omega) (fun e => by injection e with e; omega)⟩
      have HO3 : Hid (Li.Own w3 G (.slice (some ⟨G, 0, none⟩) 6 6) (pad ((fl m r).take (r.nums.length + 0)))) := HOL.out.below HY.out
      have HM3 : Hid (type_of% (HBM.out.below HY.out)) := HBM.out.below HY.out
      have HB3 : Hid (Below w.heap.size w w3) := HB.out.trans (HY.out.mono HB.out.size)
      have HS3 : Hid (wr.heap.size ≤ w3.heap.size) := HY.out.size
      obtain ⟨B0, hB0⟩ : ∃ B0, wr.heap.size = B0 := ⟨_, rfl⟩
      rw [hB0] at how HGB HS3
      clear hgrow hloc HY HOL HBM HB HA1 jr y0 y1 y2 bs hbs hB0
      go_cut [8] from 55 (fun s8 wx => ∃ gw cw, s8 = .slice (some ⟨gw, 0, none⟩) (wds r.cats).length cw ∧ Ls.Own wx B0 (.slice (some ⟨gw, 0, none⟩) (wds r.cats).length cw) (wds r.cats) ∧ Li.Own wx G (.slice (some ⟨G, 0, none⟩) 6 6) (pad ((fl m r).take (r.nums.length + 0))) ∧ Wr wx w.heap.size 0 [.int .i64 m.n, .int .i64 m.c, .int .i64 m.prior, .int .i64 m.base, .slice ak m.ks.length ck, .slice ax m.ts.length ct] ∧ Below w.heap.size w wx)
      case first =>
        by_cases e2 : r.cats.length = 2
        rotate_left
        · have HWD : Hid (wds r.cats = r.cats) := if_neg e2
          have hb : ((r.cats.length : Int) == 2) = false := by simp; omega
          have HOW : Hid (type_of% how) := how
          clear how
          go_wp2
          go_meet
          case rel => exact ⟨g, cap, by rw [HWD.out], by rw [HWD.out]; exact HOW.out, HO3.out, HM3.out, HB3.out⟩
        · have HWD : Hid (wds r.cats = r.cats ++ [pr (r.cats[0]'(by omega)) (r.cats[1]'(by omega))]) := wds_two e2
          have z1 := hzs 0 (by omega)
          have z2 := hzs 1 (by omega)
          have c0' := how.cell rfl 0 (by omega)
          have c1' := how.cell rfl 1 (by omega)
          obtain ⟨x, ex⟩ : ∃ x, r.cats[0]'(by omega) = x := ⟨_, rfl⟩
          obtain ⟨y, ey⟩ : ∃ y, r.cats[1]'(by omega) = y := ⟨_, rfl⟩
          rw [ex] at c0' z1 HWD
          rw [ey] at c1' z2 HWD
          have HLW : Hid ((wds r.cats).length = 3) := by show _ = _; rw [HWD.out, List.length_append, e2]; rfl
          have how2 : w3.ownsRow B0 9 1 (.slice (some ⟨g, 0, none⟩) r.cats.length cap) r.cats.length (Ls.sv r.cats) := how
          have HE : Hid (r.cats.length = 2) := e2
          have hb : ((r.cats.length : Int) == 2) = true := by simp; omega
          have hx0 : (0 : Int) < r.cats.length := by omega
          have hx0n : 0 < r.cats.length := by omega
          have hx1n : 1 < r.cats.length := by omega
          have hxe : ¬ r.cats = [] := fun e => by rw [e] at hx0n; simp at hx0n
          have hx1 : (1 : Int) < r.cats.length := by omega
          clear ex ey e2 how
          have k1 : ¬ 9223372036854775807 < x.size + 1 := by omega
          have k2 : ¬ 9223372036854775807 < x.size + 1 + y.size := by omega
          go_wp2_with fail
          go_region_law (refine step_append_lies _ rfl _ _ 31 rfl B0 9 k0 (.string ⟨#[]⟩) 1 16 Tryz.underlying31 hki hkz0 hkz1 hkz2 rfl (by decide) (.slice (some ⟨g, 0, none⟩) r.cats.length cap) r.cats.length (Ls.sv r.cats) rfl (World.ownsRow.alloc (w := World.drew _) how2 _) _ 1 1 [.string (pr x y)] rfl rfl (Ap.one_at rfl (by simp)) (Ap.one_one _ rfl) (by decide) (by have := HE.out; unfold maxLen; omega) (by have := HE.out; omega) (by have := HS3.out; simp; omega) _ rfl ?_
                         intro gw cw w5 hown5 hgrow hpos hglt)
          all_goals
            have HLE : Hid ((wds r.cats).length = r.cats.length + 1) := by show _ = _; rw [HLW.out, HE.out]
            have HO5 : Hid (Ls.Own w5 B0 (.slice (some ⟨gw, 0, none⟩) (r.cats.length + 1) cw) (wds r.cats)) := by
              show w5.ownsRow _ _ _ _ _ _
              rw [HWD.out, List.length_append, ← Ls.sv_append]
              exact hown5
            have HG5 : Hid (w3.grownBy w5 (some g)) := Ap.grown_undrew (w := w3) (by exact ⟨hgrow.os, hgrow.tape, hgrow.output, by have := hgrow.size; simp at this; show w3.heap.size ≤ w5.heap.size; omega, fun q hq hr => (hgrow.block q (by simp; exact Nat.lt_succ_of_lt hq) hr).trans (((Below.refl w3.heap.size w3).drew.alloc (Nat.le_refl _) _).block q hq)⟩)
            have HR5 : Hid (Li.Own w5 G (.slice (some ⟨G, 0, none⟩) 6 6) (pad ((fl m r).take (r.nums.length + 0)))) := HO3.out.kept HG5.out (.inr (by have := (how2.lt g rfl).1; have := HGB.out; simp [Value.ownBlock]; omega))
            have HM5 : Hid (Wr w5 w.heap.size 0 [.int .i64 m.n, .int .i64 m.c, .int .i64 m.prior, .int .i64 m.base, .slice ak m.ks.length ck, .slice ax m.ts.length ct]) := HM3.out.keptAt HG5.out.size (HG5.out.block _ HM3.out.1 (by have := (how2.lt g rfl).1; have := HGB.out; have := HW1.out; simp; omega))
            have HB5 : Hid (Below w.heap.size w w5) := HB3.out.trans ⟨HG5.out.os, HG5.out.tape, HG5.out.output, HG5.out.size, fun q hq => HG5.out.block q (by have := HB3.out.size; omega) (by have := (how2.lt g rfl).1; have := HGB.out; have := HW1.out; simp; omega)⟩
            clear hown5 hgrow hpos hglt how2 c0' c1'
            go_wp2_with fail
            go_meet
            case rel => exact ⟨gw, cw, by rw [HLE.out], by rw [HLE.out]; exact HO5.out, HR5.out, HM5.out, HB5.out⟩
      case rest =>
        clear how hzs
        obtain ⟨gw, cw, rfl, iw, ol, bm, hB⟩ := hcut
        clear HO3 HM3 HB3 HS3
        obtain ⟨L, hL⟩ : ∃ L, (wds r.cats).length = L := ⟨_, rfl⟩
        have HL : Hid ((wds r.cats).length = L) := hL
        rw [hL] at hw3 iw ⊢
        clear hL
        have HOL : Hid (type_of% ol) := ol
        have HBM : Hid (type_of% bm) := bm
        have HIW : Hid (type_of% iw) := iw
        have HB : Hid (type_of% hB) := hB
        clear ol bm iw hB
        go_wp2
        go_loopw [9] (fun i wr => ∃ k : Nat, k ≤ L ∧ i = .int .i64 k ∧ Li.Own wr G (.slice (some ⟨G, 0, none⟩) 6 6) (pad ((fl m r).take (r.nums.length + k))) ∧ Wr wr w.heap.size 0 [.int .i64 m.n, .int .i64 m.c, .int .i64 m.prior, .int .i64 m.base, .slice ak m.ks.length ck, .slice ax m.ts.length ct] ∧ Ls.Own wr B0 (.slice (some ⟨gw, 0, none⟩) L cw) (wds r.cats) ∧ Below w.heap.size w wr) (fun i _ => L - (intOf i).toNat)
        case atStart => exact ⟨0, Nat.zero_le _, rfl, HOL.out, HBM.out, HIW.out, HB.out⟩
        case round =>
          clear HOL HBM HIW HB
          obtain ⟨k, hk, rfl, ol, bm, iw, hB⟩ := hrel
          by_cases hlk : k < L
          · have hkw : k < (wds r.cats).length := by rw [HL.out]; exact hlk
            have hkk : k < m.ks.length := by rw [HF.out.kl]; exact hkw
            have hkf : r.nums.length + k < (fl m r).length := by rw [HF.out.len]; omega
            have HPL : Hid ((pad ((fl m r).take (r.nums.length + k))).length = 6) := pad_length (by have := HF.out.le; simp; omega)
            have HST : Hid ((pad ((fl m r).take (r.nums.length + k))).set (r.nums.length + k) (wnum m.ks[k] (wds r.cats)[k] m.prior) = pad ((fl m r).take (r.nums.length + (k + 1)))) := by
              show _ = _
              rw [← HF.out.word k hkw hkf]; exact pad_step _ _ hkf HF.out.le
            have d := iw.cell HL.out k hkw
            have hgw := (iw.ge gw rfl)
            rcases h.k.below hB with e0 | ⟨kb, ko, rfl, hkb, hkc⟩
            · rw [e0] at hkk; simp at hkk
            obtain ⟨ta, tc, va, vc, ⟨t0, t1⟩, it, iv'⟩ := hkc k hkk
            obtain ⟨ko1, ko2, _⟩ := kok_parts (HF.out.kok k hkk)
            obtain ⟨t, ht⟩ : ∃ t, m.ks[k] = t := ⟨_, rfl⟩
            obtain ⟨s, hs⟩ : ∃ s, (wds r.cats)[k] = s := ⟨_, rfl⟩
            rw [ht] at t0 t1 it iv' ko1 ko2 HST
            rw [hs] at d HST
            have hkm : (k : Int) < m.ks.length := by omega
            obtain ⟨hbl, ⟨x0, x1, x2, x3, x4, x5⟩, _⟩ := wr6 bm
            have HIT : Hid (Ls.IsS wr ta t.ws) := it
            have HIV : Hid (Li.IsL wr va t.vs) := iv'
            have HK12 : Hid (t.ws.length ≤ 40 ∧ t.vs.length = t.ws.length) := ⟨ko1, ko2⟩
            have HOL : Hid (type_of% ol) := ol
            have HBM : Hid (type_of% bm) := bm
            have HIW : Hid (type_of% iw) := iw
            have HB : Hid (type_of% hB) := hB
            have HBD : Hid (Below wr.heap.size wr wr.drew) := (Below.refl wr.heap.size wr).drew
            have HGW : Hid (B0 ≤ gw ∧ gw < wr.heap.size) := hgw
            have hgl := hgw.2
            have HW : Hid (wnum t s m.prior = if idOf t.ws s < 0 then m.prior else t.vs.getD (idOf t.ws s).toNat 0) := rfl
            clear hkc ht hs it iv' ko2 ol bm iw hB hgw
            go_wp2_with fail
            go_region_held3 (fun w' => w'.cell? ⟨w.heap.size, 4, none⟩ = some (.slice (some ⟨kb, ko, none⟩) m.ks.length ck) ∧ w'.cell? ⟨kb, ko + k * 2, none⟩ = some (.slice ta t.ws.length tc) ∧ w'.cell? ⟨gw, k, none⟩ = some (.string s)) (go_keep) (first
              | (go_at_call 27
                 refine (Di.sid wr.drew _ _ t.ws s (HIT.out.below HBD.out) (by have := HK12.out.1; omega)).mono ?_
                 rintro e w5 ⟨rfl, hb⟩
                 have HY : Hid (Below wr.heap.size wr w5) := HBD.out.trans hb
                 obtain ⟨_, ⟨z0, z1, z2, z3, z4, z5⟩, _⟩ := wr6 (HBM.out.below HY.out)
                 have z6 := (HY.out.cell (p := ⟨kb, ko + k * 2, none⟩) hkb).trans t0
                 have z7 := (HY.out.cell (p := ⟨kb, ko + k * 2 + 1, none⟩) hkb).trans t1
                 have z8 := (HY.out.cell (p := ⟨gw, k, none⟩) hgl).trans d
                 clear hb))
            have hlo := idOf_lo t.ws s
            have hhi := idOf_hi t.ws s
            obtain ⟨i, hi'⟩ : ∃ i, idOf t.ws s = i := ⟨_, rfl⟩
            rw [hi'] at hlo hhi HW ⊢
            have HO5 : Hid (type_of% (HOL.out.below HY.out)) := HOL.out.below HY.out
            have hc5 := HO5.out.cell HPL.out (r.nums.length + k) (by have := HPL.out; have := HF.out.le; omega)
            obtain ⟨cv5, hcv5⟩ : ∃ cv, w5.cell? ⟨G, r.nums.length + k, none⟩ = some cv := ⟨_, hc5⟩
            have hf5 := HO5.out.frozen HPL.out (r.nums.length + k)
            rw [← HF.out.n] at z0
            have hix0 : (0 : Int) ≤ (r.nums.length : Int) + (k : Int) := by omega
            have hix1 : (r.nums.length : Int) + (k : Int) < 6 := by have := HF.out.le; omega
            have htn : ((r.nums.length : Int) + (k : Int)).toNat = r.nums.length + k := by omega
            have HFIN : Hid (∀ x, wnum t s m.prior = x → (Li.Own (w5.setCell ⟨G, r.nums.length + k, none⟩ (.int .i64 x)) G (.slice (some ⟨G, 0, none⟩) 6 6) (pad ((fl m r).take (r.nums.length + (k + 1)))) ∧ Wr (w5.setCell ⟨G, r.nums.length + k, none⟩ (.int .i64 x)) w.heap.size 0 [.int .i64 m.n, .int .i64 m.c, .int .i64 m.prior, .int .i64 m.base, .slice (some ⟨kb, ko, none⟩) m.ks.length ck, .slice ax m.ts.length ct] ∧ Ls.Own (w5.setCell ⟨G, r.nums.length + k, none⟩ (.int .i64 x)) B0 (.slice (some ⟨gw, 0, none⟩) L cw) (wds r.cats) ∧ Below w.heap.size w (w5.setCell ⟨G, r.nums.length + k, none⟩ (.int .i64 x)))) := fun x hx => by
              refine ⟨?_, (HBM.out.below HY.out).setOther (by have := HW1.out; omega), (HIW.out.below HY.out).kept (Li.grown_set _ _ _ _) (.inr (by have := HGW.out; have := HGB.out; simp [Value.ownBlock]; omega)), (HB.out.trans (HY.out.mono HB.out.size)).setCell (p := ⟨G, r.nums.length + k, none⟩) (by show w.heap.size ≤ G; have := HW1.out; omega) _⟩
              have := HO5.out.set HPL.out (r.nums.length + k) x
              rw [hx] at HST
              rw [HST.out] at this
              exact this
            clear hi' hc5 x0 x1 x2 x3 x4 x5 t0 t1 d z1 z3 z5 z6 z8
            by_cases hn : i < 0
            · have HR : Hid (wnum t s m.prior = m.prior) := by show _ = _; rw [HW.out, if_pos hn]
              have hn' : ¬ 0 ≤ i := by omega
              go_wp2
              go_roundw
              case rel =>
                obtain ⟨q0, q1, q2, q3⟩ := HFIN.out _ HR.out
                exact ⟨k + 1, by omega, by go_num, q0, q1, q2, q3⟩
              case measure => simp [intOf]; omega
            · obtain ⟨p, rfl⟩ : ∃ p : Nat, i = (p : Int) := ⟨i.toNat, by omega⟩
              have hpv : p < t.vs.length := by have := HK12.out.2; omega
              have HR : Hid (wnum t s m.prior = t.vs[p]) := by
                show _ = _
                rw [HW.out, if_neg hn]
                simp [List.getD_eq_getElem?_getD, hpv]
              rcases HIV.out.below HY.out with e0 | ⟨vb, vo, rfl, hvb, hvc⟩
              · rw [e0] at hpv; simp at hpv
              have dv := hvc p hpv
              obtain ⟨x, hx⟩ : ∃ x, t.vs[p] = x := ⟨_, rfl⟩
              rw [hx] at dv HR
              clear hvc hx
              have hpi : (p : Int) < t.vs.length := by omega
              have hn' : (0 : Int) ≤ (p : Int) := by omega
              go_wp2
              go_roundw
              case rel =>
                obtain ⟨q0, q1, q2, q3⟩ := HFIN.out _ HR.out
                exact ⟨k + 1, by omega, by go_num, q0, q1, q2, q3⟩
              case measure => simp [intOf]; omega
          · obtain rfl : k = L := by omega
            have HA : Hid (Li.Own wr w.heap.size (.slice (some ⟨G, 0, none⟩) 6 6) (feats m r)) := by
              have := ol.mono (base' := w.heap.size) (by have := HW1.out; omega)
              rw [← HL.out, HF.out.all] at this
              rw [HFE.out]
              exact this
            clear ol iw bm
            go_wp2
            refine bodyPost_ret (v := .tuple #[.slice (some ⟨G, 0, none⟩) 6 6, .bool true]) (by simp [results, Tryz.results14, go_sem]) rfl ?_
            exact ⟨_, by rw [HV.out], HA.out, hB⟩
end Go.Proofs.YtcadgeepknhmfaaGreat.Md
/-
  A word that was never seen is told as the prior; all else of the row as it is.
-/
namespace Go.Proofs.YtcadgeepknhmfaaGreat.Md
set_option maxRecDepth 20000
open Go.Proofs.YtcadgeepknhmfaaGreat.Wd (idOf idOf_neg paired pr)
open Go.Proofs.YtcadgeepknhmfaaGreat.Pa (pr_size)
open Go.Proofs.YtcadgeepknhmfaaGreat.Kt (Kv)
open Go.Proofs.YtcadgeepknhmfaaGreat.Tb (Row lets)
open Go.Proofs.YtcadgeepknhmfaaGreat.Ad (clip)
def other (r : Row) (s : ByteArray) : Row := ⟨r.nums, r.cats.set 0 s, r.label⟩
theorem fits_parts {m : M} {r : Row} (h : fits m r = true) : mok m = true ∧ (r.nums.length : Int) = m.n ∧ (r.cats.length : Int) = m.c := by simpa [fits] using h
theorem fits_other {m : M} {r : Row} (h : fits m r = true) (s : ByteArray) : fits m (other r s) = true := by
  obtain ⟨h1, h2, h3⟩ := fits_parts h
  simp [fits, other, h1, h2, h3]
theorem dims {m : M} (h : mok m = true) : 0 ≤ m.n ∧ m.n ≤ 3 ∧ 0 ≤ m.c ∧ m.c ≤ 2 := by
  have := Tk.sok_iff.1 (mok_parts h).1
  omega
theorem pad_num {m : M} {r : Row} {k : Nat} (h : k < r.nums.length) : (pad (fl m r)).getD k 0 = clip r.nums[k] := by
  unfold pad fl
  rw [List.getD_eq_getElem?_getD, List.append_assoc, List.getElem?_append_left (by simpa using h)]
  simp [h]
theorem pad_word {m : M} {r : Row} {j : Nat} (hj : j < m.ks.length) (hw : j < (wds r.cats).length) : (pad (fl m r)).getD (r.nums.length + j) 0 = wnum m.ks[j] (wds r.cats)[j] m.prior := by
  unfold pad fl
  rw [List.getD_eq_getElem?_getD, List.append_assoc, List.getElem?_append_right (by simp)]
  rw [List.getElem?_append_left (by simp; omega), List.getElem?_eq_getElem (by simp; omega)]
  simp
theorem word_small {m : M} (h : mok m = true) {j : Nat} (hj : j < m.ks.length) {s : ByteArray} (hs : 25 < s.size) : wnum m.ks[j] s m.prior = m.prior := by
  have h1 := (mok_parts h).2.2.2.2.2.2
  rw [List.all_eq_true] at h1
  have h2 := (kok_parts (h1 _ (List.getElem_mem hj))).2.2.2.1
  rw [List.all_eq_true] at h2
  unfold wnum
  rw [if_pos]
  rw [idOf_neg]
  intro hm
  have := h2 s hm
  unfold cwok at this
  simp at this
  omega
theorem feats_le (m : M) (r : Row) : (feats m r).length ≤ 6 := by
  cases h : fits m r with
  | false => rw [feats_no h]; simp
  | true =>
    obtain ⟨h1, h2, h3⟩ := fits_parts h
    have hd := dims h1
    have hk := (mok_parts h1).2.2.2.2.1
    have hnc : ncol m.c ≤ 3 := by unfold ncol; split <;> omega
    rw [feats_yes h]
    simp [pad, fl]
    omega
theorem unk {m : M} {r : Row} (h : fits m r = true) (hc : 0 < r.cats.length) {s : ByteArray} (hs : 25 < s.size) :
    (feats m r).length = 6 ∧ (feats m (other r s)).length = 6 ∧ (feats m (other r s)).getD m.n.toNat 0 = m.prior ∧ (∀ k, k < m.n.toNat → (feats m (other r s)).getD k 0 = (feats m r).getD k 0) ∧
    (m.c = 2 → (feats m (other r s)).getD (m.n.toNat + 1) 0 = (feats m r).getD (m.n.toNat + 1) 0 ∧ (feats m (other r s)).getD (m.n.toNat + 2) 0 = m.prior) := by
  obtain ⟨h1, h2, h3⟩ := fits_parts h
  have hd := dims h1
  have hk := (mok_parts h1).2.2.2.2.1
  have hn : m.n.toNat = r.nums.length := by omega
  have hcl : r.cats.length ≤ 2 := by omega
  have hw1 := wds_len r.cats hcl
  have hw2 := wds_len (other r s).cats (by simpa [other] using hcl)
  have hol : (other r s).cats.length = r.cats.length := by simp [other]
  rw [hol] at hw2
  have hcc : (r.cats.length : Int) = m.c := h3
  rw [hcc] at hw1 hw2
  have hnc : ncol m.c ≤ 3 ∧ m.c ≤ ncol m.c := by unfold ncol; split <;> omega
  have l1 : (fl m r).length ≤ 6 := by simp [fl]; omega
  have l2 : (fl m (other r s)).length ≤ 6 := by simp [fl, other] at hw2 ⊢; omega
  have p6 : ∀ l : List Int, l.length ≤ 6 → (pad l).length = 6 := fun l hl => by simp [pad]; omega
  have hon : (other r s).nums = r.nums := rfl
  rw [feats_yes h, feats_yes (fits_other h s)]
  refine ⟨p6 _ l1, p6 _ l2, ?_, fun k hkn => ?_, fun h2c => ⟨?_, ?_⟩⟩
  · have := pad_word (m := m) (r := other r s) (j := 0) (by omega) (by omega)
    rw [hon, Nat.add_zero] at this
    rw [hn, this]
    refine word_small h1 (by omega) ?_
    have e : (wds (other r s).cats)[0]'(by omega) = s := by
      by_cases h2l : (other r s).cats.length = 2
      · rw [List.getElem_of_eq (wds_two h2l), List.getElem_append_left (by omega)]
        simp [other]
      · have e2 : wds (other r s).cats = (other r s).cats := by unfold wds; rw [if_neg h2l]
        rw [List.getElem_of_eq e2]
        simp [other]
    rw [e]; exact hs
  · rw [pad_num (by rw [hon]; omega), pad_num (by omega)]
    simp [hon]
  · have h2l : r.cats.length = 2 := by omega
    have h2o : (other r s).cats.length = 2 := by omega
    have a1 := pad_word (m := m) (r := other r s) (j := 1) (by unfold ncol at hk; split at hk <;> omega) (by unfold ncol at hw2; split at hw2 <;> omega)
    have a2 := pad_word (m := m) (r := r) (j := 1) (by unfold ncol at hk; split at hk <;> omega) (by unfold ncol at hw1; split at hw1 <;> omega)
    rw [hon] at a1
    rw [hn, a1, a2]
    congr 1
    rw [List.getElem_of_eq (wds_two h2o), List.getElem_of_eq (wds_two h2l), List.getElem_append_left (by omega), List.getElem_append_left (by omega)]
    simp [other]
  · have h2o : (other r s).cats.length = 2 := by omega
    have a1 := pad_word (m := m) (r := other r s) (j := 2) (by unfold ncol at hk; split at hk <;> omega) (by unfold ncol at hw2; split at hw2 <;> omega)
    rw [hon] at a1
    rw [hn, a1]
    refine word_small h1 (by unfold ncol at hk; split at hk <;> omega) ?_
    rw [List.getElem_of_eq (wds_two h2o), List.getElem_append_right (by omega)]
    simp only [h2o, Nat.sub_self, List.getElem_cons_zero]
    rw [pr_size]
    have : ((other r s).cats[0]'(by omega)) = s := by simp [other]
    rw [this]; omega
end Go.Proofs.YtcadgeepknhmfaaGreat.Md
