/-
  Contracts that the proof leans on, put together in the order in which they build.
-/
import Derived.Test.YtglllflleabmbaaGreatPart24
import Derived.Test.YtglllflleabmbaaGreatPart25
import Derived.Test.YtglllflleabmbaaGreatPart2
import Derived.Deep.Cut
import Derived.Laws.StructEq
/-
  Features and Predict of the model.
-/
namespace Go.Proofs.YtglllflleabmbaaGreat.Md
set_option maxRecDepth 20000
open Go.RowKit
open Go.Proofs.YtglllflleabmbaaGreat.Li (ret_bool ret_int btw below_none)
open Go.Proofs.YtglllflleabmbaaGreat.Wd (idOf idOf_lo idOf_hi paired pr)
open Go.Proofs.YtglllflleabmbaaGreat.Tb (lets Row RowIs)
open Go.Proofs.YtglllflleabmbaaGreat.Tm (IsT szT)
open Go.Proofs.YtglllflleabmbaaGreat.Kt (Kv IsK ksz)
open Go.Proofs.YtglllflleabmbaaGreat.Sv (new1 new2 Wr wr2)
open Go.Proofs.YtglllflleabmbaaGreat.Sw (sm)
open Go.Proofs.YtglllflleabmbaaGreat.Ad (clip)
set_option linter.unusedVariables false
theorem wds_two {ws : List ByteArray} (h : ws.length = 2) : wds ws = ws ++ [pr (ws[0]'(by omega)) (ws[1]'(by omega))] := by
 unfold wds
 rw [if_pos h]
 obtain ⟨a, b, rfl⟩ : ∃ a b, ws = [a, b] := by
  match ws, h with
  | [a, b], _ => exact ⟨a, b, rfl⟩
 rfl
set_option maxHeartbeats 8000000 in
theorem sfs (w : World) (ak ax : Option Addr) (ck ct : Nat) (m : M) (h : Rm w ak ax m) (hl : m.sz ≤ 1048576) (v0 v1 v2 : Value) (r : Row) (hr : RowIs w v0 v1 v2 r) (hz : r.sz ≤ 1048576) :
    Calls Tryz.prog 101 #[.agg #[.int .i64 m.n, .int .i64 m.c, .int .i64 m.prior, .int .i64 m.base, .slice ak m.ks.length ck, .slice ax m.ts.length ct], .agg #[v0, v1, v2]] w fun e w' => ∃ v, e = .returned (.tuple #[v, .bool (fits m r)]) ∧ Li.Own w' w.heap.size v (feats m r) ∧ Below w.heap.size w w' := by
  obtain ⟨i0, hi, hz0, hz1, hz2⟩ := info_parts Li.info_int
  obtain ⟨k0, hki, hkz0, hkz1, hkz2⟩ := info_parts Ls.info_str
  obtain ⟨a0, c0, a1, c1, rfl, rfl, rfl, j0, j1⟩ := hr
  have hzs : ∀ j (hj : j < r.cats.length), r.cats[j].size ≤ 1048576 := fun j hj => by have := Tb.lets_at r.cats j hj; unfold Row.sz at hz; omega
  have hnl : r.nums.length ≤ 1048576 := by unfold Row.sz at hz; omega
  have hcl : r.cats.length ≤ 1048576 := by unfold Row.sz at hz; omega
  go_enter Tryz.func101, Tryz.ntmps101
  go_wp2_with fail
  obtain ⟨W, hW, hsz, hB, bm, bs⟩ := new2 w [.int .i64 m.n, .int .i64 m.c, .int .i64 m.prior, .int .i64 m.base, .slice ak m.ks.length ck, .slice ax m.ts.length ct] [.slice a0 r.nums.length c0, .slice a1 r.cats.length c1, .int .i64 r.label] 29 50
  rw [hW]
  have HW2 : Hid (w.heap.size + 2 = W.heap.size) := hsz.symm
  clear hW hsz
  refine (smok _ _ _ _ _ m (h.below hB) hl).mono ?_
  rintro e w1 ⟨rfl, hb⟩
  have bm := bm.below hb
  have bs := bs.below hb
  have hB := hB.trans (hb.mono hB.size)
  have HW1 : Hid (w.heap.size + 2 ≤ w1.heap.size) := by show _ ≤ _; have := hb.size; have := HW2.out; omega
  clear hb HW2
  obtain ⟨_, ⟨x0, x1, x2, x3, x4, x5⟩, _⟩ := wr6 bm
  obtain ⟨_, ⟨y0, y1, y2⟩, _⟩ := wr3 bs
  have HNO : Hid (fits m r = false → Li.Own (w1.alloc (.cells #[] 3)) w.heap.size (.slice (some ⟨w1.heap.size, 0, none⟩) 0 0) (feats m r) ∧ Below w.heap.size w (w1.alloc (.cells #[] 3))) := fun e => by
    rw [feats_no e]
    exact ⟨Ai.own_empty w1 _ hB.size, hB.alloc hB.size _⟩
  cases h1 : mok m with
  | false =>
    have HV : Hid (fits m r = false) := by show _ = _; simp [fits, h1]
    go_wp2
    refine bodyPost_ret (v := .tuple #[.slice (some ⟨w1.heap.size, 0, none⟩) 0 0, .bool false]) (by simp [results, Tryz.results101, go_sem]) rfl ?_
    exact ⟨_, by rw [HV.out], (HNO.out HV.out).1, (HNO.out HV.out).2⟩
  | true =>
  by_cases h2 : (r.nums.length : Int) = m.n
  rotate_left
  · have HV : Hid (fits m r = false) := by show _ = _; simp [fits, h2]
    have h2' : ((r.nums.length : Int) != m.n) = true := by simp [h2]
    go_wp2
    refine bodyPost_ret (v := .tuple #[.slice (some ⟨w1.heap.size, 0, none⟩) 0 0, .bool false]) (by simp [results, Tryz.results101, go_sem]) rfl ?_
    exact ⟨_, by rw [HV.out], (HNO.out HV.out).1, (HNO.out HV.out).2⟩
  have h2' : ((r.nums.length : Int) != m.n) = false := by simp [h2]
  by_cases h3 : (r.cats.length : Int) = m.c
  rotate_left
  · have HV : Hid (fits m r = false) := by show _ = _; simp [fits, h3]
    have h3' : ((r.cats.length : Int) != m.c) = true := by simp [h3]
    clear h2
    go_wp2
    refine bodyPost_ret (v := .tuple #[.slice (some ⟨w1.heap.size, 0, none⟩) 0 0, .bool false]) (by simp [results, Tryz.results101, go_sem]) rfl ?_
    exact ⟨_, by rw [HV.out], (HNO.out HV.out).1, (HNO.out HV.out).2⟩
  have h3' : ((r.cats.length : Int) != m.c) = false := by simp [h3]
  have hv : fits m r = true := by simp [fits, h1, h2, h3]
  have HV : Hid (fits m r = true) := hv
  have HF : Hid (Fit m r) := fits_fit hv
  have HFE : Hid (feats m r = pad (fl m r)) := feats_yes hv
  have hn3 := (fits_fit hv).n3
  have hc2 := (fits_fit hv).c2
  have hw3 := (fits_fit hv).w3
  clear hv h1 h2 h3 HNO hnl hcl
  go_wp2_with (at_make; refine wpList_make_full _ rfl _ _ 37 rfl w1.heap.size 3 i0 (.int .i64 0) 1 Tryz.underlying37 hi hz0 hz1 _ _ _ _ 6 rfl rfl (by omega) (by omega) (by rw [hz2]; omega) (by unfold maxLen; omega) (Nat.le_refl _) ?_; intro w2 hown hgrow; have hb1 := below_none hgrow)
  have ol := Li.own_made hown
  have bm := bm.below hb1
  have bs := bs.below hb1
  have hB := hB.trans (hb1.mono hB.size)
  obtain ⟨G, hG⟩ : ∃ G, w1.heap.size = G := ⟨_, rfl⟩
  rw [hG] at ol HW1 ⊢
  rw [← pad_nil, ← List.take_zero (l := fl m r)] at ol
  clear hown hgrow hb1 hG x0 x1 x2 x3 x4 x5 y0 y1 y2 h2' h3'
  go_wp2
  go_loopw [7] (fun i wr => ∃ k : Nat, k ≤ r.nums.length ∧ i = .int .i64 k ∧ Li.Own wr G (.slice (some ⟨G, 0, none⟩) 6 6) (pad ((fl m r).take k)) ∧ Wr wr w.heap.size 0 [.int .i64 m.n, .int .i64 m.c, .int .i64 m.prior, .int .i64 m.base, .slice ak m.ks.length ck, .slice ax m.ts.length ct] ∧ Wr wr (w.heap.size + 1) 0 [.slice a0 r.nums.length c0, .slice a1 r.cats.length c1, .int .i64 r.label] ∧ Below w.heap.size w wr) (fun i _ => r.nums.length - (intOf i).toNat)
  case atStart => exact ⟨0, Nat.zero_le _, rfl, ol, bm, bs, hB⟩
  case round =>
    clear ol bm bs hB
    obtain ⟨k, hk, rfl, ol, bm, bs, hB⟩ := hrel
    have HPL : Hid ((pad ((fl m r).take k)).length = 6) := pad_length (by have := HF.out.le; simp; omega)
    obtain ⟨hbs, ⟨y0, y1, y2⟩, _⟩ := wr3 bs
    by_cases hlt : k < r.nums.length
    · rcases j0.below hB with e0 | ⟨nb, no, rfl, hnb, hnc⟩
      · rw [e0] at hlt; simp at hlt
      have d := hnc k hlt
      have hkf : k < (fl m r).length := by rw [HF.out.len]; omega
      have HST : Hid ((pad ((fl m r).take k)).set k (clip r.nums[k]) = pad ((fl m r).take (k + 1))) := by
        show _ = _
        rw [← HF.out.num k hlt hkf]; exact pad_step _ _ hkf HF.out.le
      obtain ⟨x, hx⟩ : ∃ x, r.nums[k] = x := ⟨_, rfl⟩
      rw [hx] at d HST
      have hcell := ol.cell HPL.out k (by have := HPL.out; omega)
      obtain ⟨cv, hcv⟩ : ∃ cv, wr.cell? ⟨G, k, none⟩ = some cv := ⟨_, hcell⟩
      have hcf := ol.frozen HPL.out k
      have hk6 : (k : Int) < 6 := by omega
      have HO : Hid (Li.Own (wr.setCell ⟨G, k, none⟩ (.int .i64 (clip x))) G (.slice (some ⟨G, 0, none⟩) 6 6) (pad ((fl m r).take (k + 1)))) := by
        have := ol.set HPL.out k (clip x)
        rw [HST.out] at this
        exact this
      have HBM : Hid (∀ v, Wr (wr.setCell ⟨G, k, none⟩ v) w.heap.size 0 [.int .i64 m.n, .int .i64 m.c, .int .i64 m.prior, .int .i64 m.base, .slice ak m.ks.length ck, .slice ax m.ts.length ct]) := fun v => bm.setOther (by have := HW1.out; omega)
      have HBS : Hid (∀ v, Wr (wr.setCell ⟨G, k, none⟩ v) (w.heap.size + 1) 0 [.slice (some ⟨nb, no, none⟩) r.nums.length c0, .slice a1 r.cats.length c1, .int .i64 r.label]) := fun v => bs.setOther (by have := HW1.out; omega)
      have HBB : Hid (∀ v, Below w.heap.size w (wr.setCell ⟨G, k, none⟩ v)) := fun v => hB.setCell (p := ⟨G, k, none⟩) (by show w.heap.size ≤ G; have := HW1.out; omega) _
      clear hnc hx hcell ol bm bs hB
      go_wp2_with (go_at_call 66; refine (Ad.clip_any _ _).mono ?_; rintro e w' ⟨rfl, hw⟩; subst w')
      go_roundw
      case rel => exact ⟨k + 1, by omega, by go_num, HO.out, HBM.out _, HBS.out _, HBB.out _⟩
      case measure => simp [intOf]; omega
    · obtain rfl : k = r.nums.length := by omega
      clear HPL
      have HGB : Hid (G < wr.heap.size) := (ol.ge G rfl).2
      have HA1 : Hid (Below wr.heap.size wr (wr.alloc (.cells #[] 9))) := (Below.refl _ _).alloc (Nat.le_refl _) _
      have jr := (j1.below hB).below HA1.out
      have HOL : Hid (type_of% ol) := ol
      have HBM : Hid (type_of% bm) := bm
      have HB : Hid (type_of% hB) := hB
      clear ol bm hB
      go_upto_if 57 with (at_builtin; refine As.wpl_appS rfl _ _ rfl wr.heap.size wr.heap.size a1 r.cats.length c1 r.cats rfl rfl (Ap.sown_empty wr wr.heap.size (Nat.le_refl _)) rfl jr (by omega) (by simp) ?_; intro g cap w3 how hgrow hloc hgl)
      have HY : Hid (Below wr.heap.size wr w3) := HA1.out.trans ⟨hgrow.os, hgrow.tape, hgrow.output, hgrow.size, fun q hq => hgrow.block q (by simp; omega) (fun e => by injection e with e; omega)⟩
      have HO3 : Hid (Li.Own w3 G (.slice (some ⟨G, 0, none⟩) 6 6) (pad ((fl m r).take (r.nums.length + 0)))) := HOL.out.below HY.out
      have HM3 : Hid (type_of% (HBM.out.below HY.out)) := HBM.out.below HY.out
      have HB3 : Hid (Below w.heap.size w w3) := HB.out.trans (HY.out.mono HB.out.size)
      have HS3 : Hid (wr.heap.size ≤ w3.heap.size) := HY.out.size
      obtain ⟨B0, hB0⟩ : ∃ B0, wr.heap.size = B0 := ⟨_, rfl⟩
      rw [hB0] at how HGB HS3
      clear hgrow hloc HY HOL HBM HB HA1 jr y0 y1 y2 bs hbs hB0
      go_cut [8] from 55 (fun s8 wx => ∃ gw cw, s8 = .slice (some ⟨gw, 0, none⟩) (wds r.cats).length cw ∧ Ls.Own wx B0 (.slice (some ⟨gw, 0, none⟩) (wds r.cats).length cw) (wds r.cats) ∧ Li.Own wx G (.slice (some ⟨G, 0, none⟩) 6 6) (pad ((fl m r).take (r.nums.length + 0))) ∧ Wr wx w.heap.size 0 [.int .i64 m.n, .int .i64 m.c, .int .i64 m.prior, .int .i64 m.base, .slice ak m.ks.length ck, .slice ax m.ts.length ct] ∧ Below w.heap.size w wx)
      case first =>
        by_cases e2 : r.cats.length = 2
        rotate_left
        · have HWD : Hid (wds r.cats = r.cats) := if_neg e2
          have hb : ((r.cats.length : Int) == 2) = false := by simp; omega
          have HOW : Hid (type_of% how) := how
          clear how
          go_wp2
          go_meet
          case rel => exact ⟨g, cap, by rw [HWD.out], by rw [HWD.out]; exact HOW.out, HO3.out, HM3.out, HB3.out⟩
        · have HWD : Hid (wds r.cats = r.cats ++ [pr (r.cats[0]'(by omega)) (r.cats[1]'(by omega))]) := wds_two e2
          have z1 := hzs 0 (by omega)
          have z2 := hzs 1 (by omega)
          have c0' := how.cell rfl 0 (by omega)
          have c1' := how.cell rfl 1 (by omega)
          obtain ⟨x, ex⟩ : ∃ x, r.cats[0]'(by omega) = x := ⟨_, rfl⟩
          obtain ⟨y, ey⟩ : ∃ y, r.cats[1]'(by omega) = y := ⟨_, rfl⟩
          rw [ex] at c0' z1 HWD
          rw [ey] at c1' z2 HWD
          have HLW : Hid ((wds r.cats).length = 3) := by show _ = _; rw [HWD.out, List.length_append, e2]; rfl
          have how2 : w3.ownsRow B0 9 1 (.slice (some ⟨g, 0, none⟩) r.cats.length cap) r.cats.length (Ls.sv r.cats) := how
          have HE : Hid (r.cats.length = 2) := e2
          have hb : ((r.cats.length : Int) == 2) = true := by simp; omega
          have hx0 : (0 : Int) < r.cats.length := by omega
          have hx0n : 0 < r.cats.length := by omega
          have hx1n : 1 < r.cats.length := by omega
          have hxe : ¬ r.cats = [] := fun e => by rw [e] at hx0n; simp at hx0n
          have hx1 : (1 : Int) < r.cats.length := by omega
          clear ex ey e2 how
          have k1 : ¬ 9223372036854775807 < x.size + 1 := by omega
          have k2 : ¬ 9223372036854775807 < x.size + 1 + y.size := by omega
          go_wp2_with fail
          go_region_law (refine step_append_lies _ rfl _ _ 48 rfl B0 9 k0 (.string ⟨#[]⟩) 1 16 Tryz.underlying48 hki hkz0 hkz1 hkz2 rfl (by decide) (.slice (some ⟨g, 0, none⟩) r.cats.length cap) r.cats.length (Ls.sv r.cats) rfl (World.ownsRow.alloc (w := World.drew _) how2 _) _ 1 1 [.string (pr x y)] rfl rfl (Ap.one_at rfl (by simp)) (Ap.one_one _ rfl) (by decide) (by have := HE.out; unfold maxLen; omega) (by have := HE.out; omega) (by have := HS3.out; simp; omega) _ rfl ?_
                         intro gw cw w5 hown5 hgrow hpos hglt)
          all_goals
            have HLE : Hid ((wds r.cats).length = r.cats.length + 1) := by show _ = _; rw [HLW.out, HE.out]
            have HO5 : Hid (Ls.Own w5 B0 (.slice (some ⟨gw, 0, none⟩) (r.cats.length + 1) cw) (wds r.cats)) := by
              show w5.ownsRow _ _ _ _ _ _
              rw [HWD.out, List.length_append, ← Ls.sv_append]
              exact hown5
            have HG5 : Hid (w3.grownBy w5 (some g)) := Ap.grown_undrew (w := w3) (by exact ⟨hgrow.os, hgrow.tape, hgrow.output, by have := hgrow.size; simp at this; show w3.heap.size ≤ w5.heap.size; omega, fun q hq hr => (hgrow.block q (by simp; exact Nat.lt_succ_of_lt hq) hr).trans (((Below.refl w3.heap.size w3).drew.alloc (Nat.le_refl _) _).block q hq)⟩)
            have HR5 : Hid (Li.Own w5 G (.slice (some ⟨G, 0, none⟩) 6 6) (pad ((fl m r).take (r.nums.length + 0)))) := HO3.out.kept HG5.out (.inr (by have := (how2.lt g rfl).1; have := HGB.out; simp [Value.ownBlock]; omega))
            have HM5 : Hid (Wr w5 w.heap.size 0 [.int .i64 m.n, .int .i64 m.c, .int .i64 m.prior, .int .i64 m.base, .slice ak m.ks.length ck, .slice ax m.ts.length ct]) := HM3.out.keptAt HG5.out.size (HG5.out.block _ HM3.out.1 (by have := (how2.lt g rfl).1; have := HGB.out; have := HW1.out; simp; omega))
            have HB5 : Hid (Below w.heap.size w w5) := HB3.out.trans ⟨HG5.out.os, HG5.out.tape, HG5.out.output, HG5.out.size, fun q hq => HG5.out.block q (by have := HB3.out.size; omega) (by have := (how2.lt g rfl).1; have := HGB.out; have := HW1.out; simp; omega)⟩
            clear hown5 hgrow hpos hglt how2 c0' c1'
            go_wp2_with fail
            go_meet
            case rel => exact ⟨gw, cw, by rw [HLE.out], by rw [HLE.out]; exact HO5.out, HR5.out, HM5.out, HB5.out⟩
      case rest =>
        clear how hzs
        obtain ⟨gw, cw, rfl, iw, ol, bm, hB⟩ := hcut
        clear HO3 HM3 HB3 HS3
        obtain ⟨L, hL⟩ : ∃ L, (wds r.cats).length = L := ⟨_, rfl⟩
        have HL : Hid ((wds r.cats).length = L) := hL
        rw [hL] at hw3 iw ⊢
        clear hL
        have HOL : Hid (type_of% ol) := ol
        have HBM : Hid (type_of% bm) := bm
        have HIW : Hid (type_of% iw) := iw
        have HB : Hid (type_of% hB) := hB
        clear ol bm iw hB
        go_wp2
        go_loopw [9] (fun i wr => ∃ k : Nat, k ≤ L ∧ i = .int .i64 k ∧ Li.Own wr G (.slice (some ⟨G, 0, none⟩) 6 6) (pad ((fl m r).take (r.nums.length + k))) ∧ Wr wr w.heap.size 0 [.int .i64 m.n, .int .i64 m.c, .int .i64 m.prior, .int .i64 m.base, .slice ak m.ks.length ck, .slice ax m.ts.length ct] ∧ Ls.Own wr B0 (.slice (some ⟨gw, 0, none⟩) L cw) (wds r.cats) ∧ Below w.heap.size w wr) (fun i _ => L - (intOf i).toNat)
        case atStart => exact ⟨0, Nat.zero_le _, rfl, HOL.out, HBM.out, HIW.out, HB.out⟩
        case round =>
          clear HOL HBM HIW HB
          obtain ⟨k, hk, rfl, ol, bm, iw, hB⟩ := hrel
          by_cases hlk : k < L
          · have hkw : k < (wds r.cats).length := by rw [HL.out]; exact hlk
            have hkk : k < m.ks.length := by rw [HF.out.kl]; exact hkw
            have hkf : r.nums.length + k < (fl m r).length := by rw [HF.out.len]; omega
            have HPL : Hid ((pad ((fl m r).take (r.nums.length + k))).length = 6) := pad_length (by have := HF.out.le; simp; omega)
            have HST : Hid ((pad ((fl m r).take (r.nums.length + k))).set (r.nums.length + k) (wnum m.ks[k] (wds r.cats)[k] m.prior) = pad ((fl m r).take (r.nums.length + (k + 1)))) := by
              show _ = _
              rw [← HF.out.word k hkw hkf]; exact pad_step _ _ hkf HF.out.le
            have d := iw.cell HL.out k hkw
            have hgw := (iw.ge gw rfl)
            rcases h.k.below hB with e0 | ⟨kb, ko, rfl, hkb, hkc⟩
            · rw [e0] at hkk; simp at hkk
            obtain ⟨ta, tc, va, vc, ⟨t0, t1⟩, it, iv'⟩ := hkc k hkk
            obtain ⟨ko1, ko2, _⟩ := kok_parts (HF.out.kok k hkk)
            obtain ⟨t, ht⟩ : ∃ t, m.ks[k] = t := ⟨_, rfl⟩
            obtain ⟨s, hs⟩ : ∃ s, (wds r.cats)[k] = s := ⟨_, rfl⟩
            rw [ht] at t0 t1 it iv' ko1 ko2 HST
            rw [hs] at d HST
            have hkm : (k : Int) < m.ks.length := by omega
            obtain ⟨hbl, ⟨x0, x1, x2, x3, x4, x5⟩, _⟩ := wr6 bm
            have HIT : Hid (Ls.IsS wr ta t.ws) := it
            have HIV : Hid (Li.IsL wr va t.vs) := iv'
            have HK12 : Hid (t.ws.length ≤ 40 ∧ t.vs.length = t.ws.length) := ⟨ko1, ko2⟩
            have HOL : Hid (type_of% ol) := ol
            have HBM : Hid (type_of% bm) := bm
            have HIW : Hid (type_of% iw) := iw
            have HB : Hid (type_of% hB) := hB
            have HBD : Hid (Below wr.heap.size wr wr.drew) := (Below.refl wr.heap.size wr).drew
            have HGW : Hid (B0 ≤ gw ∧ gw < wr.heap.size) := hgw
            have hgl := hgw.2
            have HW : Hid (wnum t s m.prior = if idOf t.ws s < 0 then m.prior else t.vs.getD (idOf t.ws s).toNat 0) := rfl
            clear hkc ht hs it iv' ko2 ol bm iw hB hgw
            go_wp2_with fail
            go_region_held3 (fun w' => w'.cell? ⟨w.heap.size, 4, none⟩ = some (.slice (some ⟨kb, ko, none⟩) m.ks.length ck) ∧ w'.cell? ⟨kb, ko + k * 2, none⟩ = some (.slice ta t.ws.length tc) ∧ w'.cell? ⟨gw, k, none⟩ = some (.string s)) (go_keep) (first
              | (go_at_call 103
                 refine (Di.sid wr.drew _ _ t.ws s (HIT.out.below HBD.out) (by have := HK12.out.1; omega)).mono ?_
                 rintro e w5 ⟨rfl, hb⟩
                 have HY : Hid (Below wr.heap.size wr w5) := HBD.out.trans hb
                 obtain ⟨_, ⟨z0, z1, z2, z3, z4, z5⟩, _⟩ := wr6 (HBM.out.below HY.out)
                 have z6 := (HY.out.cell (p := ⟨kb, ko + k * 2, none⟩) hkb).trans t0
                 have z7 := (HY.out.cell (p := ⟨kb, ko + k * 2 + 1, none⟩) hkb).trans t1
                 have z8 := (HY.out.cell (p := ⟨gw, k, none⟩) hgl).trans d
                 clear hb))
            have hlo := idOf_lo t.ws s
            have hhi := idOf_hi t.ws s
            obtain ⟨i, hi'⟩ : ∃ i, idOf t.ws s = i := ⟨_, rfl⟩
            rw [hi'] at hlo hhi HW ⊢
            have HO5 : Hid (type_of% (HOL.out.below HY.out)) := HOL.out.below HY.out
            have hc5 := HO5.out.cell HPL.out (r.nums.length + k) (by have := HPL.out; have := HF.out.le; omega)
            obtain ⟨cv5, hcv5⟩ : ∃ cv, w5.cell? ⟨G, r.nums.length + k, none⟩ = some cv := ⟨_, hc5⟩
            have hf5 := HO5.out.frozen HPL.out (r.nums.length + k)
            rw [← HF.out.n] at z0
            have hix0 : (0 : Int) ≤ (r.nums.length : Int) + (k : Int) := by omega
            have hix1 : (r.nums.length : Int) + (k : Int) < 6 := by have := HF.out.le; omega
            have htn : ((r.nums.length : Int) + (k : Int)).toNat = r.nums.length + k := by omega
            have HFIN : Hid (∀ x, wnum t s m.prior = x → (Li.Own (w5.setCell ⟨G, r.nums.length + k, none⟩ (.int .i64 x)) G (.slice (some ⟨G, 0, none⟩) 6 6) (pad ((fl m r).take (r.nums.length + (k + 1)))) ∧ Wr (w5.setCell ⟨G, r.nums.length + k, none⟩ (.int .i64 x)) w.heap.size 0 [.int .i64 m.n, .int .i64 m.c, .int .i64 m.prior, .int .i64 m.base, .slice (some ⟨kb, ko, none⟩) m.ks.length ck, .slice ax m.ts.length ct] ∧ Ls.Own (w5.setCell ⟨G, r.nums.length + k, none⟩ (.int .i64 x)) B0 (.slice (some ⟨gw, 0, none⟩) L cw) (wds r.cats) ∧ Below w.heap.size w (w5.setCell ⟨G, r.nums.length + k, none⟩ (.int .i64 x)))) := fun x hx => by
              refine ⟨?_, (HBM.out.below HY.out).setOther (by have := HW1.out; omega), (HIW.out.below HY.out).kept (Li.grown_set _ _ _ _) (.inr (by have := HGW.out; have := HGB.out; simp [Value.ownBlock]; omega)), (HB.out.trans (HY.out.mono HB.out.size)).setCell (p := ⟨G, r.nums.length + k, none⟩) (by show w.heap.size ≤ G; have := HW1.out; omega) _⟩
              have := HO5.out.set HPL.out (r.nums.length + k) x
              rw [hx] at HST
              rw [HST.out] at this
              exact this
            clear hi' hc5 x0 x1 x2 x3 x4 x5 t0 t1 d z1 z3 z5 z6 z8
            by_cases hn : i < 0
            · have HR : Hid (wnum t s m.prior = m.prior) := by show _ = _; rw [HW.out, if_pos hn]
              have hn' : ¬ 0 ≤ i := by omega
              go_wp2
              go_roundw
              case rel =>
                obtain ⟨q0, q1, q2, q3⟩ := HFIN.out _ HR.out
                exact ⟨k + 1, by omega, by go_num, q0, q1, q2, q3⟩
              case measure => simp [intOf]; omega
            · obtain ⟨p, rfl⟩ : ∃ p : Nat, i = (p : Int) := ⟨i.toNat, by omega⟩
              have hpv : p < t.vs.length := by have := HK12.out.2; omega
              have HR : Hid (wnum t s m.prior = t.vs[p]) := by
                show _ = _
                rw [HW.out, if_neg hn]
                simp [List.getD_eq_getElem?_getD, hpv]
              rcases HIV.out.below HY.out with e0 | ⟨vb, vo, rfl, hvb, hvc⟩
              · rw [e0] at hpv; simp at hpv
              have dv := hvc p hpv
              obtain ⟨x, hx⟩ : ∃ x, t.vs[p] = x := ⟨_, rfl⟩
              rw [hx] at dv HR
              clear hvc hx
              have hpi : (p : Int) < t.vs.length := by omega
              have hn' : (0 : Int) ≤ (p : Int) := by omega
              go_wp2
              go_roundw
              case rel =>
                obtain ⟨q0, q1, q2, q3⟩ := HFIN.out _ HR.out
                exact ⟨k + 1, by omega, by go_num, q0, q1, q2, q3⟩
              case measure => simp [intOf]; omega
          · obtain rfl : k = L := by omega
            have HA : Hid (Li.Own wr w.heap.size (.slice (some ⟨G, 0, none⟩) 6 6) (feats m r)) := by
              have := ol.mono (base' := w.heap.size) (by have := HW1.out; omega)
              rw [← HL.out, HF.out.all] at this
              rw [HFE.out]
              exact this
            clear ol iw bm
            go_wp2
            refine bodyPost_ret (v := .tuple #[.slice (some ⟨G, 0, none⟩) 6 6, .bool true]) (by simp [results, Tryz.results101, go_sem]) rfl ?_
            exact ⟨_, by rw [HV.out], HA.out, hB⟩
end Go.Proofs.YtglllflleabmbaaGreat.Md
/-
  Predict of the model.
-/
namespace Go.Proofs.YtglllflleabmbaaGreat.Md
set_option maxRecDepth 20000
open Go.RowKit
open Go.Proofs.YtglllflleabmbaaGreat.Tb (lets Row RowIs)
open Go.Proofs.YtglllflleabmbaaGreat.Sv (new1 new2 Wr wr2)
open Go.Proofs.YtglllflleabmbaaGreat.Sw (sm)
set_option linter.unusedVariables false
set_option maxHeartbeats 2000000 in
theorem spred (w : World) (ak ax : Option Addr) (ck ct : Nat) (m : M) (h : Rm w ak ax m) (hl : m.sz ≤ 1048576) (v0 v1 v2 : Value) (r : Row) (hr : RowIs w v0 v1 v2 r) (hz : r.sz ≤ 1048576) :
  Calls Tryz.prog 65 #[.agg #[.int .i64 m.n, .int .i64 m.c, .int .i64 m.prior, .int .i64 m.base, .slice ak m.ks.length ck, .slice ax m.ts.length ct], .agg #[v0, v1, v2]] w fun e w' => e = .returned (.tuple #[.int .i64 (pred m r), .bool (fits m r)]) ∧ Below w.heap.size w w' := by
 have hr' := hr
 obtain ⟨a0, c0, a1, c1, rfl, rfl, rfl, _⟩ := hr'
 have hfl := feats_len m r
 go_enter Tryz.func65, Tryz.ntmps65
 go_wp2_with fail
 obtain ⟨W, hW, hsz, hB, bm, bs⟩ := new2 w [.int .i64 m.n, .int .i64 m.c, .int .i64 m.prior, .int .i64 m.base, .slice ak m.ks.length ck, .slice ax m.ts.length ct] [.slice a0 r.nums.length c0, .slice a1 r.cats.length c1, .int .i64 r.label] 29 50
 rw [hW]
 clear hW hsz
 refine (sfs _ _ _ _ _ m (h.below hB) hl _ _ _ r (hr.below hB) hz).mono ?_
 rintro e w1 ⟨v, rfl, ov, hb⟩
 have bm := bm.below hb
 have hB := hB.trans (hb.mono hB.size)
 obtain ⟨av, cv, ev, iv'⟩ := ov.isl
 subst ev
 clear hb bs ov
 obtain ⟨_, ⟨x0, x1, x2, x3, x4, x5⟩, _⟩ := wr6 bm
 cases h1 : fits m r with
 | false =>
  have HR : Hid (pred m r = 0) := pred_no h1
  have HV : Hid (fits m r = false) := h1
  clear iv'
  obtain ⟨L, hL⟩ : ∃ L, (feats m r).length = L := ⟨_, rfl⟩
  rw [hL]
  clear hL
  go_wp2
  refine bodyPost_ret (v := .tuple #[.int .i64 0, .bool false]) (by simp [results, Tryz.results65, go_sem]) rfl ?_
  exact ⟨by rw [HR.out, HV.out], hB⟩
 | true =>
 have HR : Hid (pred m r = sm m.ts (feats m r) m.base) := by show _ = _; rw [pred_yes h1, feats_yes h1]
 have HV : Hid (fits m r = true) := h1
 clear h1
 have ht := h.t.below hB
 go_wp2_with fail
 refine (Sw.ssum _ _ _ _ _ m.ts (feats m r) m.base ht iv' (sz_ts hl) (by omega)).mono ?_
 rintro e w2 ⟨rfl, hb⟩
 have hB := hB.trans (hb.mono hB.size)
 rw [← HR.out]
 clear hb iv' ht x0 x1 x2 x3 x4 x5 bm
 go_wp2
 refine bodyPost_ret (v := .tuple #[.int .i64 (pred m r), .bool true]) (by simp [results, Tryz.results65, go_sem]) rfl ?_
 exact ⟨by rw [HV.out], hB⟩
end Go.Proofs.YtglllflleabmbaaGreat.Md
/-
  PredictAll of both.
-/
namespace Go.Proofs.YtglllflleabmbaaGreat.Md
set_option maxRecDepth 100000
open Go.RowKit
open Go.Proofs.YtglllflleabmbaaGreat.Li (ret_bool ret_int btw below_none)
open Go.Proofs.YtglllflleabmbaaGreat.Tk (sok tok rok)
open Go.Proofs.YtglllflleabmbaaGreat.Tb (lets Row RowIs IsR szR OwnT)
open Go.Proofs.YtglllflleabmbaaGreat.Tm (IsT szT)
open Go.Proofs.YtglllflleabmbaaGreat.Kt (Kv IsK ksz)
open Go.Proofs.YtglllflleabmbaaGreat.Sv (new1 new2 Wr wr2)
open Go.Proofs.YtglllflleabmbaaGreat.Sw (sm)
set_option linter.unusedVariables false
def pok (m : M) (n c : Int) (rs : List Row) : Bool := mok m && (tok n c rs && (decide (n = m.n) && decide (c = m.c)))
def pall (m : M) (n c : Int) (rs : List Row) : List Int := if pok m n c rs = true then rs.map (pred m) else []
theorem pall_no {m : M} {n c : Int} {rs : List Row} (h : pok m n c rs = false) : pall m n c rs = [] := by unfold pall; rw [if_neg (by rw [h]; simp)]
theorem pall_yes {m : M} {n c : Int} {rs : List Row} (h : pok m n c rs = true) : pall m n c rs = rs.map (pred m) := by unfold pall; rw [if_pos h]
theorem pok_fits {m : M} {n c : Int} {rs : List Row} (h : pok m n c rs = true) (k : Nat) (hk : k < rs.length) : fits m rs[k] = true := by
 simp only [pok, Bool.and_eq_true, decide_eq_true_eq] at h
 obtain ⟨h0, h1, rfl, rfl⟩ := h
 obtain ⟨h3, h4⟩ := Co.tok_nums h1 k hk
 simp only [fits, Bool.and_eq_true, decide_eq_true_eq]
 exact ⟨h0, h3, h4⟩
theorem neqSch (x y x' y' : Int) (W : World) : Sem.run Tryz.prog (binOp .neq 25 (.agg #[.int .i64 x, .int .i64 y]) (.agg #[.int .i64 x', .int .i64 y'])) W = .ok (.bool (!(decide (x = x') && decide (y = y')))) W := by
 have hu := Tryz.underlying25
 have hi := Tryz.underlying3
 have hp : Tryz.prog.stoodInHeld 25 = false := by kernel_rfl
 have hf : Tryz.prog.underlying 25 = some (.struct (Tryz.prog.fieldsOf 25)) := by kernel_rfl
 rw [run_neq_struct, run_equalIn_agg _ _ _ _ _ hf hp]
 by_cases h1 : x = x' <;> by_cases h2 : y = y' <;> simp [Program.fieldsOf, hu, Op.eqFields, go_sem, hi, h1, h2]
theorem guardSch (W : World) (x y : Operand) (a b a' b' : Int) : (eqGuard .neq 25 x y (.agg #[.int .i64 a, .int .i64 b]) (.agg #[.int .i64 a', .int .i64 b'])).run Tryz.prog W = .ok () W := run_eqGuard_agg W _ _ _ _ _ _ (by kernel_rfl)
def IsRC (w : World) (a : Option Addr) (rs : List Row) : Prop :=
 rs = [] ∨ ∃ b off, a = some ⟨b, off, none⟩ ∧ b < w.heap.size ∧ ∀ j (hj : j < rs.length), ∃ v0 v1 v2, (w.cell? ⟨b, off + j * 3, none⟩ = some v0 ∧ w.cell? ⟨b, off + j * 3 + 1, none⟩ = some v1 ∧ w.cell? ⟨b, off + j * 3 + 2, none⟩ = some v2) ∧ RowC w v0 v1 v2 rs[j]
theorem IsRC.below {w w1 : World} {a : Option Addr} {rs : List Row} (h : IsRC w a rs) (hB : Below w.heap.size w w1) : IsRC w1 a rs := by
 rcases h with h | ⟨b, off, rfl, hb, hc⟩
 ·
  exact .inl h
 ·
  refine .inr ⟨b, off, rfl, Nat.lt_of_lt_of_le hb hB.size, fun j hj => ?_⟩
  obtain ⟨v0, v1, v2, ⟨h0, h1, h2⟩, hr⟩ := hc j hj
  exact ⟨v0, v1, v2, ⟨(hB.cell (by exact hb)).trans h0, (hB.cell (by exact hb)).trans h1, (hB.cell (by exact hb)).trans h2⟩, hr.below hB⟩
theorem IsRC.isr {w : World} {a : Option Addr} {rs : List Row} (h : IsRC w a rs) : IsR w a rs := by
 rcases h with h | ⟨b, off, rfl, hb, hc⟩
 ·
  exact .inl h
 ·
  refine .inr ⟨b, off, rfl, hb, fun j hj => ?_⟩
  obtain ⟨v0, v1, v2, hx, hr⟩ := hc j hj
  exact ⟨v0, v1, v2, hx, hr.row⟩
set_option maxHeartbeats 8000000 in
theorem ipall (w : World) (ak ax : Option Addr) (ck ct : Nat) (m : M) (h : Rm w ak ax m) (hl : m.sz ≤ 1048576) (n c : Int) (a : Option Addr) (cap : Nat) (rs : List Row) (hx : IsRC w a rs) (hr : rs.length + szR rs ≤ 1048576) :
    Calls Tryz.prog 14 #[.agg #[.int .i64 m.n, .int .i64 m.c, .int .i64 m.prior, .int .i64 m.base, .slice ak m.ks.length ck, .slice ax m.ts.length ct], .agg #[.int .i64 n, .int .i64 c, .slice a rs.length cap]] w fun e w' => ∃ v, e = .returned (.tuple #[v, .bool (pok m n c rs)]) ∧ Li.Own w' w.heap.size v (pall m n c rs) ∧ Below w.heap.size w w' := by
  obtain ⟨i0, hi, hz0, hz1, hz2⟩ := info_parts Li.info_int
  go_enter Tryz.func14, Tryz.ntmps14
  go_wp2_with fail
  obtain ⟨W, hW, hsz, hB, bm, bt⟩ := new2 w [.int .i64 m.n, .int .i64 m.c, .int .i64 m.prior, .int .i64 m.base, .slice ak m.ks.length ck, .slice ax m.ts.length ct] [.int .i64 n, .int .i64 c, .slice a rs.length cap] 29 32
  rw [hW]
  have HW2 : Hid (w.heap.size + 2 = W.heap.size) := hsz.symm
  clear hW hsz
  refine (imok _ _ _ _ _ m (h.below hB) hl).mono ?_
  rintro e w1 ⟨rfl, hb⟩
  have bm := bm.below hb
  have bt := bt.below hb
  have hB := hB.trans (hb.mono hB.size)
  have HW1 : Hid (w.heap.size + 2 ≤ w1.heap.size) := by show _ ≤ _; have := hb.size; have := HW2.out; omega
  clear hb HW2
  cases h1 : mok m with
  | false =>
    have HV : Hid (pok m n c rs = false) := by show _ = _; simp [pok, h1]
    have HR : Hid (pall m n c rs = []) := pall_no HV.out
    go_wp2
    refine bodyPost_ret (v := .tuple #[.slice none 0 0, .bool false]) (by simp [results, Tryz.results14, go_sem]) rfl ?_
    exact ⟨_, by rw [HV.out], by rw [HR.out]; exact Li.Own.nil _ _, hB⟩
  | true =>
  have H1 : Hid (mok m = true) := h1
  clear h1
  obtain ⟨_, ⟨y0, y1, y2⟩, _⟩ := wr3 bt
  have hxx := hx.isr.below hB
  go_wp2_with fail
  refine (Tk.itab _ _ _ _ _ rs hxx hr).mono ?_
  rintro e w2 ⟨rfl, hb⟩
  have bm := bm.below hb
  have bt := bt.below hb
  have hB := hB.trans (hb.mono hB.size)
  have HW2 : Hid (w.heap.size + 2 ≤ w2.heap.size) := by show _ ≤ _; have := hb.size; have := HW1.out; omega
  clear hb HW1 y0 y1 y2 hxx
  obtain ⟨_, ⟨x0, x1, x2, x3, x4, x5⟩, _⟩ := wr6 bm
  obtain ⟨_, ⟨y0, y1, y2⟩, _⟩ := wr3 bt
  cases h2 : Tk.tok n c rs with
  | false =>
    have HV : Hid (pok m n c rs = false) := by show _ = _; simp [pok, h2]
    have HR : Hid (pall m n c rs = []) := pall_no HV.out
    go_wp2
    refine bodyPost_ret (v := .tuple #[.slice none 0 0, .bool false]) (by simp [results, Tryz.results14, go_sem]) rfl ?_
    exact ⟨_, by rw [HV.out], by rw [HR.out]; exact Li.Own.nil _ _, hB⟩
  | true =>
  have H2 : Hid (Tk.tok n c rs = true) := h2
  have hrl : rs.length ≤ 40 := (Tk.tok_iff.1 h2).2.1
  clear h2
  have hnq := neqSch n c m.n m.c
  have hgd : ∀ (W : World) (x y : Operand), (eqGuard .neq 25 x y (.agg #[.int .i64 n, .int .i64 c]) (.agg #[.int .i64 m.n, .int .i64 m.c])).run Tryz.prog W = .ok () W := fun W x y => guardSch W x y _ _ _ _
  cases h3 : (decide (n = m.n) && decide (c = m.c)) with
  | false =>
    have HV : Hid (pok m n c rs = false) := by show _ = _; unfold pok; rw [h3]; simp
    have HR : Hid (pall m n c rs = []) := pall_no HV.out
    rw [h3] at hnq
    clear h3
    go_wp2
    refine bodyPost_ret (v := .tuple #[.slice none 0 0, .bool false]) (by simp [results, Tryz.results14, go_sem]) rfl ?_
    exact ⟨_, by rw [HV.out], by rw [HR.out]; exact Li.Own.nil _ _, hB⟩
  | true =>
  have hv : pok m n c rs = true := by unfold pok; rw [H1.out, H2.out, h3]; rfl
  have HV : Hid (pok m n c rs = true) := hv
  have HR : Hid (pall m n c rs = rs.map (pred m)) := pall_yes hv
  rw [h3] at hnq
  clear h3 hv
  go_wp2_with (at_make; refine wpList_make_full _ rfl _ _ 37 rfl w2.heap.size 3 i0 (.int .i64 0) 1 Tryz.underlying37 hi hz0 hz1 _ _ _ _ rs.length rfl rfl (by omega) (by omega) (by rw [hz2]; omega) (by unfold maxLen; omega) (Nat.le_refl _) ?_; intro w3 hown hgrow; have hb1 := below_none hgrow; obtain ⟨_, ⟨u0, u1, u2⟩, _⟩ := wr3 (bt.below hb1))
  have ol := Li.own_made hown
  have bm := bm.below hb1
  have hB := hB.trans (hb1.mono hB.size)
  obtain ⟨G, hG⟩ : ∃ G, w2.heap.size = G := ⟨_, rfl⟩
  rw [hG] at ol HW2 ⊢
  have HOL : Hid (type_of% ol) := ol
  clear hown hgrow hb1 hG x0 x1 x2 x3 x4 x5 y0 y1 y2 u0 u1 u2 bt hnq hgd ol
  obtain ⟨zs, hzs⟩ : ∃ zs, rs.map (pred m) = zs := ⟨_, rfl⟩
  have HZL : Hid (zs.length = rs.length) := by rw [← hzs]; show _ = _; simp
  have HZ : Hid (∀ j (hj : j < rs.length) (hj' : j < zs.length), zs[j] = sm m.ts (pad (fl m rs[j])) m.base) := fun j hj hj' => by
    subst hzs
    simp only [List.getElem_map]
    exact pred_yes (pok_fits HV.out j hj)
  rw [hzs] at HR
  clear hzs
  go_wp2
  go_loopw [31] (fun i wr => ∃ k : Nat, k ≤ rs.length ∧ i = .int .i64 k ∧ ∃ l : List Int, l.length = rs.length ∧ Li.Like l zs k ∧ Li.Own wr G (.slice (some ⟨G, 0, none⟩) rs.length rs.length) l ∧ Wr wr w.heap.size 0 [.int .i64 m.n, .int .i64 m.c, .int .i64 m.prior, .int .i64 m.base, .slice ak m.ks.length ck, .slice ax m.ts.length ct] ∧ Below w.heap.size w wr) (fun i _ => rs.length - (intOf i).toNat)
  case atStart => exact ⟨0, Nat.zero_le _, rfl, _, by simp, fun j hj => by omega, HOL.out, bm, hB⟩
  case round =>
    clear HOL hB bm
    obtain ⟨k, hk, rfl, l, hll, hlike, ol, bm, hB⟩ := hrel
    by_cases hlt : k < rs.length
    · rcases hx.below hB with e0 | ⟨b, off, rfl, hb, hc⟩
      · rw [e0] at hlt; simp at hlt
      obtain ⟨v0, v1, v2, ⟨d0, d1, d2⟩, hrow⟩ := hc k hlt
      have hfit := pok_fits HV.out k hlt
      have HF : Hid (Fit m rs[k]) := fits_fit hfit
      have HPL : Hid ((pad (fl m rs[k])).length = 6) := pad_length (fits_fit hfit).le
      have hrz : rs[k].sz ≤ 1048576 := by have := Tb.szR_at rs k hlt; omega
      have hkz : k < zs.length := by rw [HZL.out]; exact hlt
      have hnx : Li.Like (l.set k zs[k]) zs (k + 1) := Li.like_set hlike hkz (by rw [HZL.out]; exact hll)
      rw [HZ.out k hlt hkz] at hnx
      obtain ⟨r, hr'⟩ : ∃ r, rs[k] = r := ⟨_, rfl⟩
      rw [hr'] at hrow hrz
      simp only [hr'] at HF HPL hnx
      obtain ⟨a0, c0, a1, c1, rfl, rfl, rfl, j0, j1, hcap⟩ := hrow
      have HNX : Hid (type_of% hnx) := hnx
      have HLL : Hid (l.length = rs.length) := hll
      obtain ⟨W4, hW4, hsz4, hb4, bs⟩ := new1 wr [.slice a0 r.nums.length c0, .slice a1 r.cats.length c1, .int .i64 r.label] 50
      have HW4 : Hid (type_of% hW4) := hW4
      have HRC : Hid (RowC W4 (.slice a0 r.nums.length c0) (.slice a1 r.cats.length c1) (.int .i64 r.label) r) := (show RowC wr _ _ _ r from ⟨a0, c0, a1, c1, rfl, rfl, rfl, j0, j1, hcap⟩).below hb4
      have HM : Hid (Rm W4 ak ax m) := (h.below hB).below hb4
      have HBM : Hid (Wr W4 w.heap.size 0 [.int .i64 m.n, .int .i64 m.c, .int .i64 m.prior, .int .i64 m.base, .slice ak m.ks.length ck, .slice ax m.ts.length ct]) := bm.below hb4
      have HBS : Hid (Wr W4 wr.heap.size 0 [.slice a0 r.nums.length c0, .slice a1 r.cats.length c1, .int .i64 r.label]) := bs
      have HOL : Hid (Li.Own W4 G (.slice (some ⟨G, 0, none⟩) rs.length rs.length) l) := ol.below hb4
      have HB : Hid (Below w.heap.size w W4) := hB.trans (hb4.mono hB.size)
      have HBD : Hid (Below W4.heap.size W4 W4.drew) := (Below.refl W4.heap.size W4).drew
      have HGR : Hid (G < wr.heap.size) := (ol.ge G rfl).2
      obtain ⟨bl, ⟨x0, x1, x2, x3, x4, x5⟩, _⟩ := wr6 HBM.out
      obtain ⟨_, ⟨y0, y1, y2⟩, _⟩ := wr3 HBS.out
      have hne0 : ¬ w.heap.size = G := by have := HW2.out; omega
      have hne0' : ¬ G = w.heap.size := by omega
      have hne1 : ¬ wr.heap.size = G := by have := HGR.out; omega
      have hne1' : ¬ G = wr.heap.size := by omega
      have hGl := (HOL.out.ge G rfl).2
      have hkr : (k : Int) < rs.length := by omega
      clear hc hr' hnx hll hlike ol bm hB hW4 hsz4 hb4 bs hfit j0 j1
      go_wp2_with fail
      rw [HW4.out]
      clear d0 d1 d2 HW4
      obtain ⟨Bx, hBx⟩ : ∃ Bx, wr.heap.size = Bx := ⟨_, rfl⟩
      rw [hBx] at y0 y1 y2 hne1 hne1' HBS ⊢
      clear hBx
      go_region_held3 (fun w' => (w'.cell? ⟨w.heap.size, 0, none⟩ = some (.int .i64 m.n) ∧ w'.cell? ⟨w.heap.size, 1, none⟩ = some (.int .i64 m.c) ∧ w'.cell? ⟨w.heap.size, 2, none⟩ = some (.int .i64 m.prior) ∧ w'.cell? ⟨w.heap.size, 3, none⟩ = some (.int .i64 m.base) ∧ w'.cell? ⟨w.heap.size, 4, none⟩ = some (.slice ak m.ks.length ck) ∧ w'.cell? ⟨w.heap.size, 5, none⟩ = some (.slice ax m.ts.length ct)) ∧ w'.cell? ⟨Bx, 0, none⟩ = some (.slice a0 r.nums.length c0) ∧ w'.cell? ⟨Bx, 1, none⟩ = some (.slice a1 r.cats.length c1) ∧ w'.cell? ⟨Bx, 2, none⟩ = some (.int .i64 r.label)) (go_keep) (first
        | (go_at_call 30
           refine (ifeat W4.drew _ _ _ _ m (HM.out.below HBD.out) _ _ _ r (HRC.out.below HBD.out) hrz HF.out).mono ?_
           rintro e w5 ⟨v, rfl, ov, hb⟩
           have HY : Hid (Below W4.heap.size W4 w5) := HBD.out.trans hb
           obtain ⟨av, cv, ev, iv'⟩ := ov.isl
           subst ev
           have HIV : Hid (Li.IsL w5 av (pad (fl m r))) := iv'
           obtain ⟨_, ⟨z0, z1, z2, z3, z4, z5⟩, _⟩ := wr6 (HBM.out.below HY.out)
           obtain ⟨_, ⟨u0, u1, u2⟩, _⟩ := wr3 (HBS.out.below HY.out)
           clear hb ov iv')
        | (go_at_call 29
           refine (Sw.isum _ _ _ _ _ m.ts (pad (fl m r)) m.base (HM.out.t.below HY.out) HIV.out (sz_ts hl) (by have := HPL.out; omega)).mono ?_
           rintro e w6 ⟨rfl, hb⟩
           have HY2 : Hid (Below W4.heap.size W4 w6) := HY.out.trans (hb.mono HY.out.size)
           obtain ⟨_, ⟨s0, s1, s2, s3, s4, s5⟩, _⟩ := wr6 (HBM.out.below HY2.out)
           obtain ⟨_, ⟨q0, q1, q2⟩, _⟩ := wr3 (HBS.out.below HY2.out)
           have HO6 : Hid (type_of% (HOL.out.below HY2.out)) := HOL.out.below HY2.out
           have hc6 := HO6.out.cell HLL.out k (by have := HLL.out; omega)
           obtain ⟨cv6, hcv6⟩ : ∃ cv, w6.cell? ⟨G, k, none⟩ = some cv := ⟨_, hc6⟩
           have hf6 := HO6.out.frozen HLL.out k
           clear hb hc6))
      obtain ⟨x, hx'⟩ : ∃ x, sm m.ts (pad (fl m r)) m.base = x := ⟨_, rfl⟩
      rw [hx'] at HNX ⊢
      have HO : Hid (Li.Own (w6.setCell ⟨G, k, none⟩ (.int .i64 x)) G (.slice (some ⟨G, 0, none⟩) rs.length rs.length) (l.set k x)) := HO6.out.set HLL.out k x
      have HM2 : Hid (Wr (w6.setCell ⟨G, k, none⟩ (.int .i64 x)) w.heap.size 0 [.int .i64 m.n, .int .i64 m.c, .int .i64 m.prior, .int .i64 m.base, .slice ak m.ks.length ck, .slice ax m.ts.length ct]) := (HBM.out.below HY2.out).setOther hne0
      have HB2 : Hid (Below w.heap.size w (w6.setCell ⟨G, k, none⟩ (.int .i64 x))) := (HB.out.trans (HY2.out.mono HB.out.size)).setCell (p := ⟨G, k, none⟩) (by show w.heap.size ≤ G; have := HW2.out; omega) _
      clear x0 x1 x2 x3 x4 x5 y0 y1 y2 z0 z1 z2 z3 z4 z5 u0 u1 u2 s0 s1 s2 s3 s4 s5 q0 q1 q2 hcv6 hf6 hx'
      go_wp2
      go_roundw
      case rel => exact ⟨k + 1, by omega, by go_num, _, by simpa using HLL.out, HNX.out, HO.out, HM2.out, HB2.out⟩
      case measure => simp [intOf]; omega
    · obtain rfl : k = rs.length := by omega
      obtain rfl := Li.like_all (xs := zs) (by rw [HZL.out]; exact hlike) (by rw [HZL.out]; exact hll)
      have HA : Hid (Li.Own wr w.heap.size (.slice (some ⟨G, 0, none⟩) rs.length rs.length) (pall m n c rs)) := by rw [HR.out]; exact ol.mono (by have := HW2.out; omega)
      clear ol hlike hll
      go_wp2
      refine bodyPost_ret (v := .tuple #[.slice (some ⟨G, 0, none⟩) rs.length rs.length, .bool true]) (by simp [results, Tryz.results14, go_sem]) rfl ?_
      exact ⟨_, by rw [HV.out], HA.out, hB⟩
set_option maxHeartbeats 8000000 in
theorem spall (w : World) (ak ax : Option Addr) (ck ct : Nat) (m : M) (h : Rm w ak ax m) (hl : m.sz ≤ 1048576) (n c : Int) (a : Option Addr) (cap : Nat) (rs : List Row) (hx : IsR w a rs) (hr : rs.length + szR rs ≤ 1048576) :
    Calls Tryz.prog 40 #[.agg #[.int .i64 m.n, .int .i64 m.c, .int .i64 m.prior, .int .i64 m.base, .slice ak m.ks.length ck, .slice ax m.ts.length ct], .agg #[.int .i64 n, .int .i64 c, .slice a rs.length cap]] w fun e w' => ∃ v, e = .returned (.tuple #[v, .bool (pok m n c rs)]) ∧ Li.Own w' w.heap.size v (pall m n c rs) ∧ Below w.heap.size w w' := by
  obtain ⟨i0, hi, hz0, hz1, hz2⟩ := info_parts Li.info_int
  go_enter Tryz.func40, Tryz.ntmps40
  go_wp2_with fail
  obtain ⟨W0, hW0, hsz0, hB0, bm0, bt0⟩ := new2 w [.int .i64 m.n, .int .i64 m.c, .int .i64 m.prior, .int .i64 m.base, .slice ak m.ks.length ck, .slice ax m.ts.length ct] [.int .i64 n, .int .i64 c, .slice a rs.length cap] 29 32
  rw [hW0]
  obtain ⟨W, hW⟩ : ∃ W, W0.alloc (.cells #[] 3) = W := ⟨_, rfl⟩
  have hb0 : Below W0.heap.size W0 W := by rw [← hW]; exact (Below.refl _ _).alloc (Nat.le_refl _) _
  have hE0 : W0.heap.size = w.heap.size + 1 + 1 := by omega
  have oe : Li.Own W w.heap.size (.slice (some ⟨w.heap.size + 1 + 1, 0, none⟩) 0 0) [] := by rw [← hW, ← hE0]; exact Ai.own_empty W0 _ hB0.size
  have oe2 : Li.Own W (w.heap.size + 1 + 1) (.slice (some ⟨w.heap.size + 1 + 1, 0, none⟩) 0 0) [] := by rw [← hW, ← hE0]; exact Ai.own_empty W0 _ (Nat.le_refl _)
  rw [hW]
  have bm := bm0.below hb0
  have bt := bt0.below hb0
  have hB := hB0.trans (hb0.mono hB0.size)
  obtain ⟨E, hE⟩ : ∃ E, w.heap.size + 1 + 1 = E := ⟨_, rfl⟩
  have HW2 : Hid (w.heap.size + 2 ≤ E) := by show _ ≤ _; omega
  rw [hE] at oe oe2 ⊢
  clear hE0
  clear hW0 hsz0 hB0 bm0 bt0 hb0 hW hE
  refine (smok _ _ _ _ _ m (h.below hB) hl).mono ?_
  rintro e w1 ⟨rfl, hb⟩
  have bm := bm.below hb
  have bt := bt.below hb
  have oe := oe.below hb
  have oe2 := oe2.below hb
  have hB := hB.trans (hb.mono hB.size)
  clear hb
  have HOE : Hid (type_of% oe) := oe
  have HO2 : Hid (type_of% oe2) := oe2
  clear oe oe2
  cases h1 : mok m with
  | false =>
    have HV : Hid (pok m n c rs = false) := by show _ = _; simp [pok, h1]
    have HR : Hid (pall m n c rs = []) := pall_no HV.out
    go_wp2
    refine bodyPost_ret (v := .tuple #[.slice (some ⟨E, 0, none⟩) 0 0, .bool false]) (by simp [results, Tryz.results40, go_sem]) rfl ?_
    exact ⟨_, by rw [HV.out], by rw [HR.out]; exact HOE.out, hB⟩
  | true =>
  have H1 : Hid (mok m = true) := h1
  clear h1
  obtain ⟨_, ⟨y0, y1, y2⟩, _⟩ := wr3 bt
  have hxx := hx.below hB
  go_wp2_with fail
  refine (Tk.stab _ _ _ _ _ rs hxx hr).mono ?_
  rintro e w2 ⟨rfl, hb⟩
  have bm := bm.below hb
  have bt := bt.below hb
  have HO2 : Hid (type_of% (HO2.out.below hb)) := HO2.out.below hb
  have HOE : Hid (type_of% (HOE.out.below hb)) := HOE.out.below hb
  have hB := hB.trans (hb.mono hB.size)
  clear hb y0 y1 y2 hxx
  obtain ⟨_, ⟨x0, x1, x2, x3, x4, x5⟩, _⟩ := wr6 bm
  obtain ⟨_, ⟨y0, y1, y2⟩, _⟩ := wr3 bt
  cases h2 : Tk.tok n c rs with
  | false =>
    have HV : Hid (pok m n c rs = false) := by show _ = _; simp [pok, h2]
    have HR : Hid (pall m n c rs = []) := pall_no HV.out
    go_wp2
    refine bodyPost_ret (v := .tuple #[.slice (some ⟨E, 0, none⟩) 0 0, .bool false]) (by simp [results, Tryz.results40, go_sem]) rfl ?_
    exact ⟨_, by rw [HV.out], by rw [HR.out]; exact HOE.out, hB⟩
  | true =>
  have H2 : Hid (Tk.tok n c rs = true) := h2
  have hrl : rs.length ≤ 40 := (Tk.tok_iff.1 h2).2.1
  clear h2
  have hnq := neqSch n c m.n m.c
  have hgd : ∀ (W : World) (x y : Operand), (eqGuard .neq 25 x y (.agg #[.int .i64 n, .int .i64 c]) (.agg #[.int .i64 m.n, .int .i64 m.c])).run Tryz.prog W = .ok () W := fun W x y => guardSch W x y _ _ _ _
  cases h3 : (decide (n = m.n) && decide (c = m.c)) with
  | false =>
    have HV : Hid (pok m n c rs = false) := by show _ = _; unfold pok; rw [h3]; simp
    have HR : Hid (pall m n c rs = []) := pall_no HV.out
    rw [h3] at hnq
    clear h3
    go_wp2
    refine bodyPost_ret (v := .tuple #[.slice (some ⟨E, 0, none⟩) 0 0, .bool false]) (by simp [results, Tryz.results40, go_sem]) rfl ?_
    exact ⟨_, by rw [HV.out], by rw [HR.out]; exact HOE.out, hB⟩
  | true =>
  have hv : pok m n c rs = true := by unfold pok; rw [H1.out, H2.out, h3]; rfl
  have HV : Hid (pok m n c rs = true) := hv
  have HR : Hid (pall m n c rs = rs.map (pred m)) := pall_yes hv
  rw [h3] at hnq
  clear h3 hv HOE
  go_wp2
  go_loopw [6, 7] (fun v i wr => ∃ k : Nat, k ≤ rs.length ∧ i = .int .i64 k ∧ Li.Own wr E v ((rs.map (pred m)).take k) ∧ Wr wr w.heap.size 0 [.int .i64 m.n, .int .i64 m.c, .int .i64 m.prior, .int .i64 m.base, .slice ak m.ks.length ck, .slice ax m.ts.length ct] ∧ Wr wr (w.heap.size + 1) 0 [.int .i64 n, .int .i64 c, .slice a rs.length cap] ∧ E ≤ wr.heap.size ∧ Below w.heap.size w wr) (fun _ i _ => rs.length - (intOf i).toNat)
  case atStart => exact ⟨0, Nat.zero_le _, rfl, HO2.out, bm, bt, Nat.le_of_lt (HO2.out.ge E rfl).2, hB⟩
  case round =>
    clear HO2 hB bm bt x0 x1 x2 x3 x4 x5 y0 y1 y2 hnq hgd
    obtain ⟨k, hk, rfl, ol, bm, bt, her, hB⟩ := hrel
    have HER : Hid (E ≤ wr.heap.size) := her
    clear her
    obtain ⟨bl, ⟨x0, x1, x2, x3, x4, x5⟩, _⟩ := wr6 bm
    obtain ⟨bl2, ⟨y0, y1, y2⟩, _⟩ := wr3 bt
    by_cases hlt : k < rs.length
    · rcases hx.below hB with e0 | ⟨b, off, rfl, hb, hc⟩
      · rw [e0] at hlt; simp at hlt
      have hb_ := hb
      obtain ⟨v0, v1, v2, ⟨d0, d1, d2⟩, hrow⟩ := hc k hlt
      have hrz : rs[k].sz ≤ 1048576 := by have := Tb.szR_at rs k hlt; omega
      have HSN : Hid ((rs.map (pred m)).take (k + 1) = (rs.map (pred m)).take k ++ [pred m rs[k]]) := by
        show _ = _
        rw [List.take_succ_eq_append_getElem (by simpa using hlt)]; simp
      have hcl : ((rs.map (pred m)).take k).length = k := by simp; omega
      obtain ⟨cur, hcur⟩ : ∃ cur, (rs.map (pred m)).take k = cur := ⟨_, rfl⟩
      rw [hcur] at ol HSN hcl
      obtain ⟨r, hr'⟩ : ∃ r, rs[k] = r := ⟨_, rfl⟩
      rw [hr'] at hrow hrz HSN
      have HROW : Hid (RowIs wr v0 v1 v2 r) := hrow
      obtain ⟨a0, c0, a1, c1, rfl, rfl, rfl, _, _⟩ := hrow
      have HM : Hid (Rm wr ak ax m) := h.below hB
      have HBM : Hid (type_of% bm) := bm
      have HBT : Hid (type_of% bt) := bt
      have HOL : Hid (type_of% ol) := ol
      have HB : Hid (type_of% hB) := hB
      have HBD : Hid (Below wr.heap.size wr wr.drew) := (Below.refl wr.heap.size wr).drew
      have HCL : Hid (cur.length = k) := hcl
      have hkr : (k : Int) < rs.length := by omega
      clear hc hcur hr' ol bm bt hB hcl
      go_wp2_with fail
      go_region_held3 (fun w' => (w'.cell? ⟨w.heap.size, 0, none⟩ = some (.int .i64 m.n) ∧ w'.cell? ⟨w.heap.size, 1, none⟩ = some (.int .i64 m.c) ∧ w'.cell? ⟨w.heap.size, 2, none⟩ = some (.int .i64 m.prior) ∧ w'.cell? ⟨w.heap.size, 3, none⟩ = some (.int .i64 m.base) ∧ w'.cell? ⟨w.heap.size, 4, none⟩ = some (.slice ak m.ks.length ck) ∧ w'.cell? ⟨w.heap.size, 5, none⟩ = some (.slice ax m.ts.length ct)) ∧ w'.cell? ⟨w.heap.size + 1, 2, none⟩ = some (.slice (some ⟨b, off, none⟩) rs.length cap) ∧ w'.cell? ⟨b, off + k * 3, none⟩ = some (.slice a0 r.nums.length c0) ∧ w'.cell? ⟨b, off + k * 3 + 1, none⟩ = some (.slice a1 r.cats.length c1) ∧ w'.cell? ⟨b, off + k * 3 + 2, none⟩ = some (.int .i64 r.label)) (go_keep) (first
        | (go_at_call 65
           refine (spred wr.drew _ _ _ _ m (HM.out.below HBD.out) hl _ _ _ r (HROW.out.below HBD.out) hrz).mono ?_
           rintro e w5 ⟨rfl, hb⟩
           have HY : Hid (Below wr.heap.size wr w5) := HBD.out.trans hb
           obtain ⟨_, ⟨z0, z1, z2, z3, z4, z5⟩, _⟩ := wr6 (HBM.out.below HY.out)
           obtain ⟨_, ⟨u0, u1, u2⟩, _⟩ := wr3 (HBT.out.below HY.out)
           have s0 := (HY.out.cell (p := ⟨b, off + k * 3, none⟩) hb_).trans d0
           have s1 := (HY.out.cell (p := ⟨b, off + k * 3 + 1, none⟩) hb_).trans d1
           have s2 := (HY.out.cell (p := ⟨b, off + k * 3 + 2, none⟩) hb_).trans d2
           clear hb))
      obtain ⟨x, hx'⟩ : ∃ x, pred m r = x := ⟨_, rfl⟩
      rw [hx'] at HSN ⊢
      obtain ⟨fv, hfv⟩ : ∃ fv, fits m r = fv := ⟨_, rfl⟩
      rw [hfv]
      have ho5 : w5.ownsRow E 3 1 u6 cur.length (Li.iv cur) := HOL.out.below HY.out
      have HGE : Hid (∀ q, u6.ownBlock = some q → E ≤ q) := fun q e => (HOL.out.ge q e).1
      have HE5 : Hid (E ≤ w5.heap.size ∧ wr.heap.size ≤ w5.heap.size) := ⟨by have := HY.out.size; have := HER.out; omega, HY.out.size⟩
      clear hx' hfv x0 x1 x2 x3 x4 x5 y0 y1 y2 z0 z1 z2 z3 z4 z5 u0 u1 u2 s0 s1 s2 d0 d1 d2
      go_wp2_with (at_builtin; refine wpList_append_own_at _ rfl _ _ 37 rfl E 3 i0 (.int .i64 0) 1 8 Tryz.underlying37 hi hz0 hz1 hz2 rfl (by decide) _ _ _ rfl (World.ownsRow.alloc ho5 _) ⟨w5.heap.size, 0, none⟩ 1 1 [.int .i64 x] rfl rfl (Ai.one_cell _ _ _) (Ai.one_one _) (by have := HCL.out; unfold maxLen; omega) (by have := HCL.out; omega) (by have := HE5.out.1; simp; omega) ?_; intro v3 w6 hown3 hgrow3 hnn3 hloc3)
      have HO6 : Hid (Li.Own w6 E v3 ((rs.map (pred m)).take (k + 1))) := by rw [HSN.out]; exact Ai.own_snoc rfl hown3
      have HG6 : Hid (Sv.Fr (fun q => u6.ownBlock = some q) w5 w6) := (Sv.fr_below ((Below.refl w5.heap.size w5).alloc (Nat.le_refl _) (.cells #[.int .i64 x] 3))).trans (fr_own hgrow3 (fun q e => e))
      have HM6 : Hid (type_of% ((HBM.out.below HY.out).keptAt HG6.out.size (HG6.out.block _ (HBM.out.below HY.out).1 (fun e => by have := HGE.out _ e; have := HW2.out; omega)))) := (HBM.out.below HY.out).keptAt HG6.out.size (HG6.out.block _ (HBM.out.below HY.out).1 (fun e => by have := HGE.out _ e; have := HW2.out; omega))
      have HT6 : Hid (type_of% ((HBT.out.below HY.out).keptAt HG6.out.size (HG6.out.block _ (HBT.out.below HY.out).1 (fun e => by have := HGE.out _ e; have := HW2.out; omega)))) := (HBT.out.below HY.out).keptAt HG6.out.size (HG6.out.block _ (HBT.out.below HY.out).1 (fun e => by have := HGE.out _ e; have := HW2.out; omega))
      have HB6 : Hid (Below w.heap.size w w6) := (HB.out.trans (HY.out.mono HB.out.size)).trans (HG6.out.bel (fun q e => by have := HGE.out _ e; have := HW2.out; omega) (by have := HB.out.size; have := HE5.out.2; omega))
      clear hown3 hgrow3 hnn3 hloc3 ho5
      go_wp2
      go_roundw
      case rel => exact ⟨k + 1, by omega, by go_num, HO6.out, HM6.out, HT6.out, by have := HG6.out.size; have := HE5.out.1; omega, HB6.out⟩
      case measure => simp [intOf]; omega
    · obtain rfl : k = rs.length := by omega
      have HA : Hid (Li.Own wr w.heap.size u6 (pall m n c rs)) := by
        rw [HR.out]
        have := ol.mono (base' := w.heap.size) (by have := HW2.out; omega)
        rw [List.take_of_length_le (by simp)] at this
        exact this
      obtain ⟨av, cv, ev, _⟩ := ol.isl
      clear ol
      go_wp2
      refine bodyPost_ret (v := .tuple #[u6, .bool true]) (by simp [results, Tryz.results40, go_sem]) rfl ?_
      exact ⟨_, by rw [HV.out], HA.out, hB⟩
end Go.Proofs.YtglllflleabmbaaGreat.Md
