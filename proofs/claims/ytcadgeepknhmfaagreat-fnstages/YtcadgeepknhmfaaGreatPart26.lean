/-
  Contracts that the proof leans on, put together in the order in which they build.
-/
import Derived.Test.YtcadgeepknhmfaaGreatPart10
import Derived.Deep.AppendLies
import Derived.Deep.Upon
import Derived.Deep.RegionHeld3
import Derived.Test.YtcadgeepknhmfaaGreatPart25
import Derived.Test.YtcadgeepknhmfaaGreatPart2
import Derived.Deep.Cut
import Derived.Test.YtcadgeepknhmfaaGreatPart17
import Derived.Test.YtcadgeepknhmfaaGreatPart5
import Derived.Test.YtcadgeepknhmfaaGreatPart21
/-
  append of texts onto a list that has just been made empty, at every length.
-/
namespace Go.Proofs.YtcadgeepknhmfaaGreat.As
open Go.RowKit
theorem run_appS (w : World) (ty : TypeId) (base g : Nat) (ad : Option Addr) (n c : Nat) (xs : List ByteArray) (hown : Ls.Own w base (.slice (some ⟨g, 0, none⟩) 0 0) []) (hn : xs.length = n) (hi : Ls.IsS w ad xs) (hl : n ≤ 1048576) (hbase : base ≤ w.heap.size) :
    ∃ k cap w', (Builtin.append_ #[31, 31] ty #[.slice (some ⟨g, 0, none⟩) 0 0, .slice ad n c]).run Tryz.prog w = .ok (.slice (some ⟨k, 0, none⟩) n cap) w' ∧ Ls.Own w' base (.slice (some ⟨k, 0, none⟩) n cap) xs ∧ w.grownBy w' (some g) ∧ (k = g ∨ k = w.heap.size) ∧ k < w'.heap.size := by
  obtain ⟨i0, hii, hz0, hz1, hz2⟩ := info_parts Ls.info_str
  have hgl := (World.ownsRow.lt hown g rfl).2
  cases ad with
  | none =>
    have h0 : xs = [] := by
      rcases hi with h | ⟨b, off, e, _⟩
      · exact h
      · cases e
    subst h0
    obtain rfl : n = 0 := by simpa using hn.symm
    refine ⟨g, 0, w, ?_, hown, World.grownBy.refl _ _, .inl rfl, hgl⟩
    refine run_append_nothing w _ _ _ _ i0 Tryz.underlying31 hii _ 0 0 (Nat.le_refl _) _ ⟨.inl ⟨_, Tryz.underlying31⟩, fun w' => ?_, ?_, ?_, by simp, fun u hu => by simp at hu⟩
    · simp [Builtin.lenOf]
    · simp [Builtin.firstCells]
    · simp [Builtin.firstCells]
  | some x =>
    obtain ⟨v', w', hr, h2, h3, hnil, h5⟩ := run_append_own_at (P := Tryz.prog) w base 31 ty 9 i0 (.string ⟨#[]⟩) 1 16 Tryz.underlying31 hii hz0 hz1 hz2 rfl (by decide) (.slice (some ⟨g, 0, none⟩) 0 0) 0 [] hown x n c (Ls.sv xs) (by rw [Ls.sv_length]; omega) (Ap.news_s hi) (Ls.sv_one _) (by unfold maxLen; omega) (by omega) hbase
    rw [Nat.zero_add, List.nil_append] at h2
    have hne : ¬ v' = .slice none 0 0 := fun e => by have := (hnil.1 e).1; simp at this
    have hbk : v'.ownBlock = some g ∨ v'.ownBlock = some w.heap.size := h5
    rcases h2.2 with ⟨e, _⟩ | ⟨k, cap, cur, e, hb, hh, r⟩
    · exact absurd e hne
    · subst e
      have h2' : Ls.Own w' base (.slice (some ⟨k, 0, none⟩) n cap) xs := by unfold Ls.Own; rw [hn]; exact h2
      refine ⟨k, cap, w', hr, h2', h3, ?_, (World.ownsRow.lt h2 k rfl).2⟩
      simpa [Value.ownBlock] using hbk
theorem wpl_appS {ops : Array Oper} {rest : List Oper} {o : Oper} {a : Act} {w : World} {Q : Exit → Act → World → Prop} (hgd : o.guard = none) (s x : Operand)
    (ho : o.op = .call { callee := .builtin .append, args := #[s, x], argTypes := #[31, 31] }) (base g : Nat) (ad : Option Addr) (n c : Nat) (xs : List ByteArray) (hs : a.eval s = .slice (some ⟨g, 0, none⟩) 0 0) (hx : a.eval x = .slice ad n c)
    (hown : Ls.Own w base (.slice (some ⟨g, 0, none⟩) 0 0) []) (hn : xs.length = n) (hi : Ls.IsS w ad xs) (hl : n ≤ 1048576) (hbase : base ≤ w.heap.size)
    (h : ∀ k cap w', Ls.Own w' base (.slice (some ⟨k, 0, none⟩) n cap) xs → w.grownBy w' (some g) → (k = g ∨ k = w.heap.size) → k < w'.heap.size → wpList Tryz.prog ops Q rest (a.put o.dst (.slice (some ⟨k, 0, none⟩) n cap)) w') :
    wpList Tryz.prog ops Q (o :: rest) a w := by
  obtain ⟨k, cap, w', hr, h2, h3, h4, h5⟩ := run_appS w o.type base g ad n c xs hown hn hi hl hbase
  refine wpList_plain hgd fun K hK => ?_
  unfold Oper.wp execOp
  simp only [ho, resolve, invoke, builtin, Sem.run_bind, Sem.run_pure, Result.andThen_ok, List.map_toArray, List.map_cons, List.map_nil, hs, hx, hr]
  exact hK _ _ (h k cap w' h2 h3 h4 h5)
end Go.Proofs.YtcadgeepknhmfaaGreat.As
/-
  Features and Predict of the model.
-/
namespace Go.Proofs.YtcadgeepknhmfaaGreat.Md
set_option maxRecDepth 20000
open Go.RowKit
open Go.Proofs.YtcadgeepknhmfaaGreat.Li (ret_bool ret_int btw below_none)
open Go.Proofs.YtcadgeepknhmfaaGreat.Wd (idOf idOf_lo idOf_hi paired pr)
open Go.Proofs.YtcadgeepknhmfaaGreat.Tb (lets Row RowIs)
open Go.Proofs.YtcadgeepknhmfaaGreat.Tm (IsT szT)
open Go.Proofs.YtcadgeepknhmfaaGreat.Kt (Kv IsK ksz)
open Go.Proofs.YtcadgeepknhmfaaGreat.Sv (new1 new2 Wr wr2)
open Go.Proofs.YtcadgeepknhmfaaGreat.Sw (sm)
open Go.Proofs.YtcadgeepknhmfaaGreat.Ad (clip)
set_option linter.unusedVariables false
theorem wds_two {ws : List ByteArray} (h : ws.length = 2) : wds ws = ws ++ [pr (ws[0]'(by omega)) (ws[1]'(by omega))] := by
  unfold wds
  rw [if_pos h]
  obtain ⟨a, b, rfl⟩ : ∃ a b, ws = [a, b] := by
    match ws, h with
    | [a, b], _ => exact ⟨a, b, rfl⟩
  rfl
set_option maxHeartbeats 8000000 in
theorem sfs (w : World) (ak ax : Option Addr) (ck ct : Nat) (m : M) (h : Rm w ak ax m) (hl : m.sz ≤ 1048576) (v0 v1 v2 : Value) (r : Row) (hr : RowIs w v0 v1 v2 r) (hz : r.sz ≤ 1048576) :
    Calls Tryz.prog 14 #[.agg #[.int .i64 m.n, .int .i64 m.c, .int .i64 m.prior, .int .i64 m.base, .slice ak m.ks.length ck, .slice ax m.ts.length ct], .agg #[v0, v1, v2]] w fun e w' => ∃ v, e = .returned (.tuple #[v, .bool (fits m r)]) ∧ Li.Own w' w.heap.size v (feats m r) ∧ Below w.heap.size w w' := by
  obtain ⟨i0, hi, hz0, hz1, hz2⟩ := info_parts Li.info_int
  obtain ⟨k0, hki, hkz0, hkz1, hkz2⟩ := info_parts Ls.info_str
  obtain ⟨a0, c0, a1, c1, rfl, rfl, rfl, j0, j1⟩ := hr
  have hzs : ∀ j (hj : j < r.cats.length), r.cats[j].size ≤ 1048576 := fun j hj => by have := Tb.lets_at r.cats j hj; unfold Row.sz at hz; omega
  have hnl : r.nums.length ≤ 1048576 := by unfold Row.sz at hz; omega
  have hcl : r.cats.length ≤ 1048576 := by unfold Row.sz at hz; omega
  go_enter Tryz.func14, Tryz.ntmps14
  go_wp2_with fail
  obtain ⟨W, hW, hsz, hB, bm, bs⟩ := new2 w [.int .i64 m.n, .int .i64 m.c, .int .i64 m.prior, .int .i64 m.base, .slice ak m.ks.length ck, .slice ax m.ts.length ct] [.slice a0 r.nums.length c0, .slice a1 r.cats.length c1, .int .i64 r.label] 29 33
  rw [hW]
  have HW2 : Hid (w.heap.size + 2 = W.heap.size) := hsz.symm
  clear hW hsz
  refine (smok _ _ _ _ _ m (h.below hB) hl).mono ?_
  rintro e w1 ⟨rfl, hb⟩
  have bm := bm.below hb
  have bs := bs.below hb
  have hB := hB.trans (hb.mono hB.size)
  have HW1 : Hid (w.heap.size + 2 ≤ w1.heap.size) := by show _ ≤ _; have := hb.size; have := HW2.out; omega
  clear hb HW2
  obtain ⟨_, ⟨x0, x1, x2, x3, x4, x5⟩, _⟩ := wr6 bm
  obtain ⟨_, ⟨y0, y1, y2⟩, _⟩ := wr3 bs
  have HNO : Hid (fits m r = false → Li.Own (w1.alloc (.cells #[] 3)) w.heap.size (.slice (some ⟨w1.heap.size, 0, none⟩) 0 0) (feats m r) ∧ Below w.heap.size w (w1.alloc (.cells #[] 3))) := fun e => by
    rw [feats_no e]
    exact ⟨Ai.own_empty w1 _ hB.size, hB.alloc hB.size _⟩
  cases h1 : mok m with
  | false =>
    have HV : Hid (fits m r = false) := by show _ = _; simp [fits, h1]
    go_wp2
    refine bodyPost_ret (v := .tuple #[.slice (some ⟨w1.heap.size, 0, none⟩) 0 0, .bool false]) (by simp [results, Tryz.results14, go_sem]) rfl ?_
    exact ⟨_, by rw [HV.out], (HNO.out HV.out).1, (HNO.out HV.out).2⟩
  | true =>
  by_cases h2 : (r.nums.length : Int) = m.n
  rotate_left
  · have HV : Hid (fits m r = false) := by show _ = _; simp [fits, h2]
    have h2' : ((r.nums.length : Int) != m.n) = true := by simp [h2]
    go_wp2
    refine bodyPost_ret (v := .tuple #[.slice (some ⟨w1.heap.size, 0, none⟩) 0 0, .bool false]) (by simp [results, Tryz.results14, go_sem]) rfl ?_
    exact ⟨_, by rw [HV.out], (HNO.out HV.out).1, (HNO.out HV.out).2⟩
  have h2' : ((r.nums.length : Int) != m.n) = false := by simp [h2]
  by_cases h3 : (r.cats.length : Int) = m.c
  rotate_left
  · have HV : Hid (fits m r = false) := by show _ = _; simp [fits, h3]
    have h3' : ((r.cats.length : Int) != m.c) = true := by simp [h3]
    clear h2
    go_wp2
    refine bodyPost_ret (v := .tuple #[.slice (some ⟨w1.heap.size, 0, none⟩) 0 0, .bool false]) (by simp [results, Tryz.results14, go_sem]) rfl ?_
    exact ⟨_, by rw [HV.out], (HNO.out HV.out).1, (HNO.out HV.out).2⟩
  have h3' : ((r.cats.length : Int) != m.c) = false := by simp [h3]
  have hv : fits m r = true := by simp [fits, h1, h2, h3]
  have HV : Hid (fits m r = true) := hv
  have HF : Hid (Fit m r) := fits_fit hv
  have HFE : Hid (feats m r = pad (fl m r)) := feats_yes hv
  have hn3 := (fits_fit hv).n3
  have hc2 := (fits_fit hv).c2
  have hw3 := (fits_fit hv).w3
  clear hv h1 h2 h3 HNO hnl hcl
  go_wp2_with (at_make; refine wpList_make_full _ rfl _ _ 30 rfl w1.heap.size 3 i0 (.int .i64 0) 1 Tryz.underlying30 hi hz0 hz1 _ _ _ _ 6 rfl rfl (by omega) (by omega) (by rw [hz2]; omega) (by unfold maxLen; omega) (Nat.le_refl _) ?_; intro w2 hown hgrow; have hb1 := below_none hgrow)
  have ol := Li.own_made hown
  have bm := bm.below hb1
  have bs := bs.below hb1
  have hB := hB.trans (hb1.mono hB.size)
  obtain ⟨G, hG⟩ : ∃ G, w1.heap.size = G := ⟨_, rfl⟩
  rw [hG] at ol HW1 ⊢
  rw [← pad_nil, ← List.take_zero (l := fl m r)] at ol
  clear hown hgrow hb1 hG x0 x1 x2 x3 x4 x5 y0 y1 y2 h2' h3'
  go_wp2
  go_loopw [7] (fun i wr => ∃ k : Nat, k ≤ r.nums.length ∧ i = .int .i64 k ∧ Li.Own wr G (.slice (some ⟨G, 0, none⟩) 6 6) (pad ((fl m r).take k)) ∧ Wr wr w.heap.size 0 [.int .i64 m.n, .int .i64 m.c, .int .i64 m.prior, .int .i64 m.base, .slice ak m.ks.length ck, .slice ax m.ts.length ct] ∧ Wr wr (w.heap.size + 1) 0 [.slice a0 r.nums.length c0, .slice a1 r.cats.length c1, .int .i64 r.label] ∧ Below w.heap.size w wr) (fun i _ => r.nums.length - (intOf i).toNat)
  case atStart => exact ⟨0, Nat.zero_le _, rfl, ol, bm, bs, hB⟩
  case round =>
    clear ol bm bs hB
    obtain ⟨k, hk, rfl, ol, bm, bs, hB⟩ := hrel
    have HPL : Hid ((pad ((fl m r).take k)).length = 6) := pad_length (by have := HF.out.le; simp; omega)
    obtain ⟨hbs, ⟨y0, y1, y2⟩, _⟩ := wr3 bs
    by_cases hlt : k < r.nums.length
    · rcases j0.below hB with e0 | ⟨nb, no, rfl, hnb, hnc⟩
      · rw [e0] at hlt; simp at hlt
      have d := hnc k hlt
      have hkf : k < (fl m r).length := by rw [HF.out.len]; omega
      have HST : Hid ((pad ((fl m r).take k)).set k (clip r.nums[k]) = pad ((fl m r).take (k + 1))) := by
        show _ = _
        rw [← HF.out.num k hlt hkf]; exact pad_step _ _ hkf HF.out.le
      obtain ⟨x, hx⟩ : ∃ x, r.nums[k] = x := ⟨_, rfl⟩
      rw [hx] at d HST
      have hcell := ol.cell HPL.out k (by have := HPL.out; omega)
      obtain ⟨cv, hcv⟩ : ∃ cv, wr.cell? ⟨G, k, none⟩ = some cv := ⟨_, hcell⟩
      have hcf := ol.frozen HPL.out k
      have hk6 : (k : Int) < 6 := by omega
      have HO : Hid (Li.Own (wr.setCell ⟨G, k, none⟩ (.int .i64 (clip x))) G (.slice (some ⟨G, 0, none⟩) 6 6) (pad ((fl m r).take (k + 1)))) := by
        have := ol.set HPL.out k (clip x)
        rw [HST.out] at this
        exact this
      have HBM : Hid (∀ v, Wr (wr.setCell ⟨G, k, none⟩ v) w.heap.size 0 [.int .i64 m.n, .int .i64 m.c, .int .i64 m.prior, .int .i64 m.base, .slice ak m.ks.length ck, .slice ax m.ts.length ct]) := fun v => bm.setOther (by have := HW1.out; omega)
      have HBS : Hid (∀ v, Wr (wr.setCell ⟨G, k, none⟩ v) (w.heap.size + 1) 0 [.slice (some ⟨nb, no, none⟩) r.nums.length c0, .slice a1 r.cats.length c1, .int .i64 r.label]) := fun v => bs.setOther (by have := HW1.out; omega)
      have HBB : Hid (∀ v, Below w.heap.size w (wr.setCell ⟨G, k, none⟩ v)) := fun v => hB.setCell (p := ⟨G, k, none⟩) (by show w.heap.size ≤ G; have := HW1.out; omega) _
      clear hnc hx hcell ol bm bs hB
      go_wp2_with (go_at_call 26; refine (Ad.clip_any _ _).mono ?_; rintro e w' ⟨rfl, hw⟩; subst w')
      go_roundw
      case rel => exact ⟨k + 1, by omega, by go_num, HO.out, HBM.out _, HBS.out _, HBB.out _⟩
      case measure => simp [intOf]; omega
    · obtain rfl : k = r.nums.length := by omega
      clear HPL
      have HGB : Hid (G < wr.heap.size) := (ol.ge G rfl).2
      have HA1 : Hid (Below wr.heap.size wr (wr.alloc (.cells #[] 9))) := (Below.refl _ _).alloc (Nat.le_refl _) _
      have jr := (j1.below hB).below HA1.out
      have HOL : Hid (type_of% ol) := ol
      have HBM : Hid (type_of% bm) := bm
      have HB : Hid (type_of% hB) := hB
      clear ol bm hB
      go_upto_if 57 with (at_builtin; refine As.wpl_appS rfl _ _ rfl wr.heap.size wr.heap.size a1 r.cats.length c1 r.cats rfl rfl (Ap.sown_empty wr wr.heap.size (Nat.le_refl _)) rfl jr (by omega) (by simp) ?_; intro g cap w3 how hgrow hloc hgl)
      have HY : Hid (Below wr.heap.size wr w3) := HA1.out.trans ⟨hgrow.os, hgrow.tape, hgrow.output, hgrow.size, fun q hq => hgrow.block q (by simp; omega) (fun e => by injection e with e; omega)⟩
      have HO3 : Hid (Li.Own w3 G (.slice (some ⟨G, 0, none⟩) 6 6) (pad ((fl m r).take (r.nums.length + 0)))) := HOL.out.below HY.out
      have HM3 : Hid (type_of% (HBM.out.below HY.out)) := HBM.out.below HY.out
      have HB3 : Hid (Below w.heap.size w w3) := HB.out.trans (HY.out.mono HB.out.size)
      have HS3 : Hid (wr.heap.size ≤ w3.heap.size) := HY.out.size
      obtain ⟨B0, hB0⟩ : ∃ B0, wr.heap.size = B0 := ⟨_, rfl⟩
      rw [hB0] at how HGB HS3
      clear hgrow hloc HY HOL HBM HB HA1 jr y0 y1 y2 bs hbs hB0
      go_cut [8] from 55 (fun s8 wx => ∃ gw cw, s8 = .slice (some ⟨gw, 0, none⟩) (wds r.cats).length cw ∧ Ls.Own wx B0 (.slice (some ⟨gw, 0, none⟩) (wds r.cats).length cw) (wds r.cats) ∧ Li.Own wx G (.slice (some ⟨G, 0, none⟩) 6 6) (pad ((fl m r).take (r.nums.length + 0))) ∧ Wr wx w.heap.size 0 [.int .i64 m.n, .int .i64 m.c, .int .i64 m.prior, .int .i64 m.base, .slice ak m.ks.length ck, .slice ax m.ts.length ct] ∧ Below w.heap.size w wx)
      case first =>
        by_cases e2 : r.cats.length = 2
        rotate_left
        · have HWD : Hid (wds r.cats = r.cats) := if_neg e2
          have hb : ((r.cats.length : Int) == 2) = false := by simp; omega
          have HOW : Hid (type_of% how) := how
          clear how
          go_wp2
          go_meet
          case rel => exact ⟨g, cap, by rw [HWD.out], by rw [HWD.out]; exact HOW.out, HO3.out, HM3.out, HB3.out⟩
        · have HWD : Hid (wds r.cats = r.cats ++ [pr (r.cats[0]'(by omega)) (r.cats[1]'(by omega))]) := wds_two e2
          have z1 := hzs 0 (by omega)
          have z2 := hzs 1 (by omega)
          have c0' := how.cell rfl 0 (by omega)
          have c1' := how.cell rfl 1 (by omega)
          obtain ⟨x, ex⟩ : ∃ x, r.cats[0]'(by omega) = x := ⟨_, rfl⟩
          obtain ⟨y, ey⟩ : ∃ y, r.cats[1]'(by omega) = y := ⟨_, rfl⟩
          rw [ex] at c0' z1 HWD
          rw [ey] at c1' z2 HWD
          have HLW : Hid ((wds r.cats).length = 3) := by show _ = _; rw [HWD.out, List.length_append, e2]; rfl
          have how2 : w3.ownsRow B0 9 1 (.slice (some ⟨g, 0, none⟩) r.cats.length cap) r.cats.length (Ls.sv r.cats) := how
          have HE : Hid (r.cats.length = 2) := e2
          have hb : ((r.cats.length : Int) == 2) = true := by simp; omega
          have hx0 : (0 : Int) < r.cats.length := by omega
          have hx0n : 0 < r.cats.length := by omega
          have hx1n : 1 < r.cats.length := by omega
          have hxe : ¬ r.cats = [] := fun e => by rw [e] at hx0n; simp at hx0n
          have hx1 : (1 : Int) < r.cats.length := by omega
          clear ex ey e2 how
          have k1 : ¬ 9223372036854775807 < x.size + 1 := by omega
          have k2 : ¬ 9223372036854775807 < x.size + 1 + y.size := by omega
          go_wp2_with fail
          go_region_law (refine step_append_lies _ rfl _ _ 31 rfl B0 9 k0 (.string ⟨#[]⟩) 1 16 Tryz.underlying31 hki hkz0 hkz1 hkz2 rfl (by decide) (.slice (some ⟨g, 0, none⟩) r.cats.length cap) r.cats.length (Ls.sv r.cats) rfl (World.ownsRow.alloc (w := World.drew _) how2 _) _ 1 1 [.string (pr x y)] rfl rfl (Ap.one_at rfl (by simp)) (Ap.one_one _ rfl) (by decide) (by have := HE.out; unfold maxLen; omega) (by have := HE.out; omega) (by have := HS3.out; simp; omega) _ rfl ?_
                         intro gw cw w5 hown5 hgrow hpos hglt)
          all_goals
            have HLE : Hid ((wds r.cats).length = r.cats.length + 1) := by show _ = _; rw [HLW.out, HE.out]
            have HO5 : Hid (Ls.Own w5 B0 (.slice (some ⟨gw, 0, none⟩) (r.cats.length + 1) cw) (wds r.cats)) := by
              show w5.ownsRow _ _ _ _ _ _
              rw [HWD.out, List.length_append, ← Ls.sv_append]
              exact hown5
            have HG5 : Hid (w3.grownBy w5 (some g)) := Ap.grown_undrew (w := w3) (by exact ⟨hgrow.os, hgrow.tape, hgrow.output, by have := hgrow.size; simp at this; show w3.heap.size ≤ w5.heap.size; omega, fun q hq hr => (hgrow.block q (by simp; exact Nat.lt_succ_of_lt hq) hr).trans (((Below.refl w3.heap.size w3).drew.alloc (Nat.le_refl _) _).block q hq)⟩)
            have HR5 : Hid (Li.Own w5 G (.slice (some ⟨G, 0, none⟩) 6 6) (pad ((fl m r).take (r.nums.length + 0)))) := HO3.out.kept HG5.out (.inr (by have := (how2.lt g rfl).1; have := HGB.out; simp [Value.ownBlock]; omega))
            have HM5 : Hid (Wr w5 w.heap.size 0 [.int .i64 m.n, .int .i64 m.c, .int .i64 m.prior, .int .i64 m.base, .slice ak m.ks.length ck, .slice ax m.ts.length ct]) := HM3.out.keptAt HG5.out.size (HG5.out.block _ HM3.out.1 (by have := (how2.lt g rfl).1; have := HGB.out; have := HW1.out; simp; omega))
            have HB5 : Hid (Below w.heap.size w w5) := HB3.out.trans ⟨HG5.out.os, HG5.out.tape, HG5.out.output, HG5.out.size, fun q hq => HG5.out.block q (by have := HB3.out.size; omega) (by have := (how2.lt g rfl).1; have := HGB.out; have := HW1.out; simp; omega)⟩
            clear hown5 hgrow hpos hglt how2 c0' c1'
            go_wp2_with fail
            go_meet
            case rel => exact ⟨gw, cw, by rw [HLE.out], by rw [HLE.out]; exact HO5.out, HR5.out, HM5.out, HB5.out⟩
      case rest =>
        clear how hzs
        obtain ⟨gw, cw, rfl, iw, ol, bm, hB⟩ := hcut
        clear HO3 HM3 HB3 HS3
        obtain ⟨L, hL⟩ : ∃ L, (wds r.cats).length = L := ⟨_, rfl⟩
        have HL : Hid ((wds r.cats).length = L) := hL
        rw [hL] at hw3 iw ⊢
        clear hL
        have HOL : Hid (type_of% ol) := ol
        have HBM : Hid (type_of% bm) := bm
        have HIW : Hid (type_of% iw) := iw
        have HB : Hid (type_of% hB) := hB
        clear ol bm iw hB
        go_wp2
        go_loopw [9] (fun i wr => ∃ k : Nat, k ≤ L ∧ i = .int .i64 k ∧ Li.Own wr G (.slice (some ⟨G, 0, none⟩) 6 6) (pad ((fl m r).take (r.nums.length + k))) ∧ Wr wr w.heap.size 0 [.int .i64 m.n, .int .i64 m.c, .int .i64 m.prior, .int .i64 m.base, .slice ak m.ks.length ck, .slice ax m.ts.length ct] ∧ Ls.Own wr B0 (.slice (some ⟨gw, 0, none⟩) L cw) (wds r.cats) ∧ Below w.heap.size w wr) (fun i _ => L - (intOf i).toNat)
        case atStart => exact ⟨0, Nat.zero_le _, rfl, HOL.out, HBM.out, HIW.out, HB.out⟩
        case round =>
          clear HOL HBM HIW HB
          obtain ⟨k, hk, rfl, ol, bm, iw, hB⟩ := hrel
          by_cases hlk : k < L
          · have hkw : k < (wds r.cats).length := by rw [HL.out]; exact hlk
            have hkk : k < m.ks.length := by rw [HF.out.kl]; exact hkw
            have hkf : r.nums.length + k < (fl m r).length := by rw [HF.out.len]; omega
            have HPL : Hid ((pad ((fl m r).take (r.nums.length + k))).length = 6) := pad_length (by have := HF.out.le; simp; omega)
            have HST : Hid ((pad ((fl m r).take (r.nums.length + k))).set (r.nums.length + k) (wnum m.ks[k] (wds r.cats)[k] m.prior) = pad ((fl m r).take (r.nums.length + (k + 1)))) := by
              show _ = _
              rw [← HF.out.word k hkw hkf]; exact pad_step _ _ hkf HF.out.le
            have d := iw.cell HL.out k hkw
            have hgw := (iw.ge gw rfl)
            rcases h.k.below hB with e0 | ⟨kb, ko, rfl, hkb, hkc⟩
            · rw [e0] at hkk; simp at hkk
            obtain ⟨ta, tc, va, vc, ⟨t0, t1⟩, it, iv'⟩ := hkc k hkk
            obtain ⟨ko1, ko2, _⟩ := kok_parts (HF.out.kok k hkk)
            obtain ⟨t, ht⟩ : ∃ t, m.ks[k] = t := ⟨_, rfl⟩
            obtain ⟨s, hs⟩ : ∃ s, (wds r.cats)[k] = s := ⟨_, rfl⟩
            rw [ht] at t0 t1 it iv' ko1 ko2 HST
            rw [hs] at d HST
            have hkm : (k : Int) < m.ks.length := by omega
            obtain ⟨hbl, ⟨x0, x1, x2, x3, x4, x5⟩, _⟩ := wr6 bm
            have HIT : Hid (Ls.IsS wr ta t.ws) := it
            have HIV : Hid (Li.IsL wr va t.vs) := iv'
            have HK12 : Hid (t.ws.length ≤ 40 ∧ t.vs.length = t.ws.length) := ⟨ko1, ko2⟩
            have HOL : Hid (type_of% ol) := ol
            have HBM : Hid (type_of% bm) := bm
            have HIW : Hid (type_of% iw) := iw
            have HB : Hid (type_of% hB) := hB
            have HBD : Hid (Below wr.heap.size wr wr.drew) := (Below.refl wr.heap.size wr).drew
            have HGW : Hid (B0 ≤ gw ∧ gw < wr.heap.size) := hgw
            have hgl := hgw.2
            have HW : Hid (wnum t s m.prior = if idOf t.ws s < 0 then m.prior else t.vs.getD (idOf t.ws s).toNat 0) := rfl
            clear hkc ht hs it iv' ko2 ol bm iw hB hgw
            go_wp2_with fail
            go_region_held3 (fun w' => w'.cell? ⟨w.heap.size, 4, none⟩ = some (.slice (some ⟨kb, ko, none⟩) m.ks.length ck) ∧ w'.cell? ⟨kb, ko + k * 2, none⟩ = some (.slice ta t.ws.length tc) ∧ w'.cell? ⟨gw, k, none⟩ = some (.string s)) (go_keep) (first
              | (go_at_call 27
                 refine (Di.sid wr.drew _ _ t.ws s (HIT.out.below HBD.out) (by have := HK12.out.1; omega)).mono ?_
                 rintro e w5 ⟨rfl, hb⟩
                 have HY : Hid (Below wr.heap.size wr w5) := HBD.out.trans hb
                 obtain ⟨_, ⟨z0, z1, z2, z3, z4, z5⟩, _⟩ := wr6 (HBM.out.below HY.out)
                 have z6 := (HY.out.cell (p := ⟨kb, ko + k * 2, none⟩) hkb).trans t0
                 have z7 := (HY.out.cell (p := ⟨kb, ko + k * 2 + 1, none⟩) hkb).trans t1
                 have z8 := (HY.out.cell (p := ⟨gw, k, none⟩) hgl).trans d
                 clear hb))
            have hlo := idOf_lo t.ws s
            have hhi := idOf_hi t.ws s
            obtain ⟨i, hi'⟩ : ∃ i, idOf t.ws s = i := ⟨_, rfl⟩
            rw [hi'] at hlo hhi HW ⊢
            have HO5 : Hid (type_of% (HOL.out.below HY.out)) := HOL.out.below HY.out
            have hc5 := HO5.out.cell HPL.out (r.nums.length + k) (by have := HPL.out; have := HF.out.le; omega)
            obtain ⟨cv5, hcv5⟩ : ∃ cv, w5.cell? ⟨G, r.nums.length + k, none⟩ = some cv := ⟨_, hc5⟩
            have hf5 := HO5.out.frozen HPL.out (r.nums.length + k)
            rw [← HF.out.n] at z0
            have hix0 : (0 : Int) ≤ (r.nums.length : Int) + (k : Int) := by omega
            have hix1 : (r.nums.length : Int) + (k : Int) < 6 := by have := HF.out.le; omega
            have htn : ((r.nums.length : Int) + (k : Int)).toNat = r.nums.length + k := by omega
            have HFIN : Hid (∀ x, wnum t s m.prior = x → (Li.Own (w5.setCell ⟨G, r.nums.length + k, none⟩ (.int .i64 x)) G (.slice (some ⟨G, 0, none⟩) 6 6) (pad ((fl m r).take (r.nums.length + (k + 1)))) ∧ Wr (w5.setCell ⟨G, r.nums.length + k, none⟩ (.int .i64 x)) w.heap.size 0 [.int .i64 m.n, .int .i64 m.c, .int .i64 m.prior, .int .i64 m.base, .slice (some ⟨kb, ko, none⟩) m.ks.length ck, .slice ax m.ts.length ct] ∧ Ls.Own (w5.setCell ⟨G, r.nums.length + k, none⟩ (.int .i64 x)) B0 (.slice (some ⟨gw, 0, none⟩) L cw) (wds r.cats) ∧ Below w.heap.size w (w5.setCell ⟨G, r.nums.length + k, none⟩ (.int .i64 x)))) := fun x hx => by
              refine ⟨?_, (HBM.out.below HY.out).setOther (by have := HW1.out; omega), (HIW.out.below HY.out).kept (Li.grown_set _ _ _ _) (.inr (by have := HGW.out; have := HGB.out; simp [Value.ownBlock]; omega)), (HB.out.trans (HY.out.mono HB.out.size)).setCell (p := ⟨G, r.nums.length + k, none⟩) (by show w.heap.size ≤ G; have := HW1.out; omega) _⟩
              have := HO5.out.set HPL.out (r.nums.length + k) x
              rw [hx] at HST
              rw [HST.out] at this
              exact this
            clear hi' hc5 x0 x1 x2 x3 x4 x5 t0 t1 d z1 z3 z5 z6 z8
            by_cases hn : i < 0
            · have HR : Hid (wnum t s m.prior = m.prior) := by show _ = _; rw [HW.out, if_pos hn]
              have hn' : ¬ 0 ≤ i := by omega
              go_wp2
              go_roundw
              case rel =>
                obtain ⟨q0, q1, q2, q3⟩ := HFIN.out _ HR.out
                exact ⟨k + 1, by omega, by go_num, q0, q1, q2, q3⟩
              case measure => simp [intOf]; omega
            · obtain ⟨p, rfl⟩ : ∃ p : Nat, i = (p : Int) := ⟨i.toNat, by omega⟩
              have hpv : p < t.vs.length := by have := HK12.out.2; omega
              have HR : Hid (wnum t s m.prior = t.vs[p]) := by
                show _ = _
                rw [HW.out, if_neg hn]
                simp [List.getD_eq_getElem?_getD, hpv]
              rcases HIV.out.below HY.out with e0 | ⟨vb, vo, rfl, hvb, hvc⟩
              · rw [e0] at hpv; simp at hpv
              have dv := hvc p hpv
              obtain ⟨x, hx⟩ : ∃ x, t.vs[p] = x := ⟨_, rfl⟩
              rw [hx] at dv HR
              clear hvc hx
              have hpi : (p : Int) < t.vs.length := by omega
              have hn' : (0 : Int) ≤ (p : Int) := by omega
              go_wp2
              go_roundw
              case rel =>
                obtain ⟨q0, q1, q2, q3⟩ := HFIN.out _ HR.out
                exact ⟨k + 1, by omega, by go_num, q0, q1, q2, q3⟩
              case measure => simp [intOf]; omega
          · obtain rfl : k = L := by omega
            have HA : Hid (Li.Own wr w.heap.size (.slice (some ⟨G, 0, none⟩) 6 6) (feats m r)) := by
              have := ol.mono (base' := w.heap.size) (by have := HW1.out; omega)
              rw [← HL.out, HF.out.all] at this
              rw [HFE.out]
              exact this
            clear ol iw bm
            go_wp2
            refine bodyPost_ret (v := .tuple #[.slice (some ⟨G, 0, none⟩) 6 6, .bool true]) (by simp [results, Tryz.results14, go_sem]) rfl ?_
            exact ⟨_, by rw [HV.out], HA.out, hB⟩
end Go.Proofs.YtcadgeepknhmfaaGreat.Md
/-
  Predict of the model.
-/
namespace Go.Proofs.YtcadgeepknhmfaaGreat.Md
set_option maxRecDepth 20000
open Go.RowKit
open Go.Proofs.YtcadgeepknhmfaaGreat.Tb (lets Row RowIs)
open Go.Proofs.YtcadgeepknhmfaaGreat.Sv (new1 new2 Wr wr2)
open Go.Proofs.YtcadgeepknhmfaaGreat.Sw (sm)
set_option linter.unusedVariables false
end Go.Proofs.YtcadgeepknhmfaaGreat.Md
/-
  What is told stage by stage; Staged of the model.
-/
namespace Go.Proofs.YtcadgeepknhmfaaGreat.Md
set_option maxRecDepth 100000
open Go.RowKit
open Go.Proofs.YtcadgeepknhmfaaGreat.Li (ret_bool ret_int btw below_none iv)
open Go.Proofs.YtcadgeepknhmfaaGreat.Tb (lets Row RowIs)
open Go.Proofs.YtcadgeepknhmfaaGreat.Tm (IsT szT)
open Go.Proofs.YtcadgeepknhmfaaGreat.Kt (Kv IsK ksz)
open Go.Proofs.YtcadgeepknhmfaaGreat.To (OwT)
open Go.Proofs.YtcadgeepknhmfaaGreat.Sv (new1 new2 Wr wr2)
open Go.Proofs.YtcadgeepknhmfaaGreat.Sw (sm)
set_option linter.unusedVariables false
def stgN (ts : List Tr.T) (f : List Int) (base : Int) (q : Nat) : List Int := (List.range q).map fun k => sm (ts.take k) f base
def stg (m : M) (r : Row) : List Int := if fits m r = true then stgN m.ts (pad (fl m r)) m.base (m.ts.length + 1) else []
theorem stgN_length (ts : List Tr.T) (f : List Int) (base : Int) (q : Nat) : (stgN ts f base q).length = q := by simp [stgN]
theorem stgN_snoc (ts : List Tr.T) (f : List Int) (base : Int) (q : Nat) : stgN ts f base (q + 1) = stgN ts f base q ++ [sm (ts.take q) f base] := by simp [stgN, List.range_succ]
theorem stg_no {m : M} {r : Row} (h : fits m r = false) : stg m r = [] := by unfold stg; rw [if_neg (by rw [h]; simp)]
theorem stg_yes {m : M} {r : Row} (h : fits m r = true) : stg m r = stgN m.ts (pad (fl m r)) m.base (m.ts.length + 1) := by unfold stg; rw [if_pos h]
structure Rmc (w : World) (ak ax : Option Addr) (ct : Nat) (m : M) : Prop where
  rm : Rm w ak ax m
  cap : m.ts.length ≤ ct
theorem Rmc.below {w w1 : World} {ak ax : Option Addr} {ct : Nat} {m : M} (h : Rmc w ak ax ct m) (hb : Below w.heap.size w w1) : Rmc w1 ak ax ct m := ⟨h.rm.below hb, h.cap⟩
theorem OwM.rmc {w : World} {B : Nat → Prop} {vk vt : Value} {m : M} (h : OwM w B vk vt m) : ∃ ak ck ax ct, vk = .slice ak m.ks.length ck ∧ vt = .slice ax m.ts.length ct ∧ Rmc w ak ax ct m := by
  obtain ⟨ak, ck, ax, ct, e0, e1, rm⟩ := h.rm
  refine ⟨ak, ck, ax, ct, e0, e1, rm, ?_⟩
  obtain ⟨P, _, h1⟩ := h
  obtain ⟨vs, ho, _⟩ := h1
  subst e1
  rcases ho.2 with ⟨e, h0⟩ | ⟨g, cap, cur, e, _, _, hc, _⟩
  · omega
  · injection e with _ _ e; omega
theorem ist_take {w : World} {a : Option Addr} {ts : List Tr.T} (h : IsT w a ts) (q : Nat) : IsT w a (ts.take q) := by
  rcases h with rfl | ⟨b, off, rfl, hb, hc⟩
  · exact .inl (by simp)
  · refine .inr ⟨b, off, rfl, hb, fun j hj => ?_⟩
    have hj' : j < ts.length := by simp at hj; omega
    obtain ⟨v0, v1, hx, hr⟩ := hc j hj'
    refine ⟨v0, v1, hx, ?_⟩
    simpa using hr
theorem szT_pre (ts : List Tr.T) (q : Nat) : (ts.take q).length + szT (ts.take q) ≤ ts.length + szT ts := by
  have h1 := Tm.szT_le ts q
  have h2 : (ts.take q).length ≤ ts.length := by simp; omega
  omega
set_option maxHeartbeats 8000000 in
theorem sstg (w : World) (ak ax : Option Addr) (ck ct : Nat) (m : M) (h0 : Rmc w ak ax ct m) (hl : m.sz ≤ 1048576) (v0 v1 v2 : Value) (r : Row) (hr : RowIs w v0 v1 v2 r) (hz : r.sz ≤ 1048576) :
    Calls Tryz.prog 8 #[.agg #[.int .i64 m.n, .int .i64 m.c, .int .i64 m.prior, .int .i64 m.base, .slice ak m.ks.length ck, .slice ax m.ts.length ct], .agg #[v0, v1, v2]] w fun e w' => ∃ v, e = .returned (.tuple #[v, .bool (fits m r)]) ∧ Li.Own w' w.heap.size v (stg m r) ∧ Below w.heap.size w w' := by
  obtain ⟨i0, hi, hz0, hz1, hz2⟩ := info_parts Li.info_int
  obtain ⟨h, hcap⟩ := h0
  have hr' := hr
  obtain ⟨a0, c0, a1, c1, rfl, rfl, rfl, _⟩ := hr'
  have hfl := feats_len m r
  go_enter Tryz.func8, Tryz.ntmps8
  go_wp2_with fail
  obtain ⟨W0, hW0, hsz0, hB0, bm0, bs0⟩ := new2 w [.int .i64 m.n, .int .i64 m.c, .int .i64 m.prior, .int .i64 m.base, .slice ak m.ks.length ck, .slice ax m.ts.length ct] [.slice a0 r.nums.length c0, .slice a1 r.cats.length c1, .int .i64 r.label] 29 33
  rw [hW0]
  obtain ⟨W, hW⟩ : ∃ W, W0.alloc (.cells #[] 3) = W := ⟨_, rfl⟩
  have hb0 : Below W0.heap.size W0 W := by rw [← hW]; exact (Below.refl _ _).alloc (Nat.le_refl _) _
  have hE0 : W0.heap.size = w.heap.size + 1 + 1 := by omega
  have oe2 : Li.Own W (w.heap.size + 1 + 1) (.slice (some ⟨w.heap.size + 1 + 1, 0, none⟩) 0 0) [] := by rw [← hW, ← hE0]; exact Ai.own_empty W0 _ (Nat.le_refl _)
  rw [hW]
  have bm := bm0.below hb0
  have hB := hB0.trans (hb0.mono hB0.size)
  obtain ⟨E, hE⟩ : ∃ E, w.heap.size + 1 + 1 = E := ⟨_, rfl⟩
  have HW2 : Hid (w.heap.size + 2 ≤ E) := by show _ ≤ _; omega
  rw [hE] at oe2 ⊢
  have HEW0 : Hid (E < W.heap.size) := (oe2.ge E rfl).2
  clear hE0 hW0 hsz0 hB0 bm0 bs0 hb0 hW hE
  refine (sfs _ _ _ _ _ m (h.below hB) hl _ _ _ r (hr.below hB) hz).mono ?_
  rintro e w1 ⟨vf, rfl, of, hb⟩
  have bm := bm.below hb
  have oe2 := oe2.below hb
  have hB := hB.trans (hb.mono hB.size)
  obtain ⟨af, cf, ef, ifv⟩ := of.isl
  subst ef
  have HEW : Hid (E < W.heap.size) := by show _ < _; have := oe2; exact HEW0.out
  have HOF : Hid (Li.Own w1 W.heap.size (.slice af (feats m r).length cf) (feats m r)) := of
  have HOE : Hid (type_of% oe2) := oe2
  have HS1 : Hid (W.heap.size ≤ w1.heap.size) := hb.size
  clear hb of ifv oe2 HEW0
  obtain ⟨L, hL⟩ : ∃ L, (feats m r).length = L := ⟨_, rfl⟩
  have HL : Hid ((feats m r).length = L) := hL
  rw [hL] at HOF ⊢
  have hL6 : L ≤ 6 := by omega
  clear hL hfl
  cases h1 : fits m r with
  | false =>
    have HR : Hid (stg m r = []) := stg_no h1
    have HV : Hid (fits m r = false) := h1
    have HOE2 : Hid (Li.Own w1 w.heap.size (.slice (some ⟨E, 0, none⟩) 0 0) []) := HOE.out.mono (by have := HW2.out; omega)
    have hmt : (m.ts.length : Int) ≤ 1048576 := by unfold M.sz at hl; omega
    obtain ⟨_, ⟨x0, x1, x2, x3, x4, x5⟩, _⟩ := wr6 bm
    have h0t : (0 : Int) ≤ (m.ts.length : Int) := by omega
    clear h1 HOE HOF
    go_wp2
    go_loopw [6, 9] (fun v i wr => v = .slice (some ⟨E, 0, none⟩) 0 0 ∧ i = .int .i64 0 ∧ wr = w1) (fun _ _ _ => 0)
    case atStart => exact ⟨rfl, rfl, rfl⟩
    case round =>
      obtain ⟨rfl, rfl, hwr⟩ := hrel
      subst hwr
      go_wp2
      refine bodyPost_ret (v := .tuple #[.slice (some ⟨E, 0, none⟩) 0 0, .bool false]) (by simp [results, Tryz.results8, go_sem]) rfl ?_
      exact ⟨_, by rw [HV.out], by rw [HR.out]; exact HOE2.out, hB⟩
  | true =>
  have HR : Hid (stg m r = stgN m.ts (feats m r) m.base (m.ts.length + 1)) := by show _ = _; rw [stg_yes h1, feats_yes h1]
  have HV : Hid (fits m r = true) := h1
  have ht12 : m.ts.length ≤ 12 := (mok_parts (fits_fit h1).ok).2.2.2.1
  clear h1
  go_wp2
  go_loopw [6, 9] (fun v i wr => ∃ k : Nat, k ≤ m.ts.length + 1 ∧ i = .int .i64 k ∧ Li.Own wr E v (stgN m.ts (feats m r) m.base k) ∧ (∀ q, v.ownBlock = some q → q = E ∨ w1.heap.size ≤ q) ∧ Li.Own wr W.heap.size (.slice af L cf) (feats m r) ∧ Wr wr w.heap.size 0 [.int .i64 m.n, .int .i64 m.c, .int .i64 m.prior, .int .i64 m.base, .slice ak m.ks.length ck, .slice ax m.ts.length ct] ∧ w1.heap.size ≤ wr.heap.size ∧ Below w.heap.size w wr) (fun _ i _ => m.ts.length + 1 - (intOf i).toNat)
  case atStart => exact ⟨0, Nat.zero_le _, rfl, HOE.out, fun q e => by simp [Value.ownBlock] at e; omega, HOF.out, bm, Nat.le_refl _, hB⟩
  case round =>
    have HFW : Hid (∀ q, (Value.slice af L cf).ownBlock = some q → W.heap.size ≤ q ∧ q < w1.heap.size) := fun q e => HOF.out.ge q e
    clear HOE HOF bm hB
    obtain ⟨k, hk, rfl, ol, hob, of, bm, hs, hB⟩ := hrel
    obtain ⟨_, ⟨x0, x1, x2, x3, x4, x5⟩, _⟩ := wr6 bm
    by_cases hlt : k ≤ m.ts.length
    · have hkl : (k : Int) ≤ (m.ts.length : Int) := by omega
      have hkc : (k : Int) ≤ (ct : Int) := by omega
      have HSN : Hid (stgN m.ts (feats m r) m.base (k + 1) = stgN m.ts (feats m r) m.base k ++ [sm (m.ts.take k) (feats m r) m.base]) := stgN_snoc _ _ _ _
      have hcl := stgN_length m.ts (feats m r) m.base k
      obtain ⟨cur, hcur⟩ : ∃ cur, stgN m.ts (feats m r) m.base k = cur := ⟨_, rfl⟩
      rw [hcur] at ol HSN hcl
      have HCL : Hid (cur.length = k) := hcl
      have htl : (m.ts.take k).length = k := by simp; omega
      have HTL : Hid ((m.ts.take k).length = k) := htl
      have HIT : Hid (IsT wr ax (m.ts.take k)) := ist_take (h.t.below hB) k
      have HSZ : Hid ((m.ts.take k).length + szT (m.ts.take k) ≤ 1048576) := by show _ ≤ _; have := szT_pre m.ts k; have := sz_ts hl; omega
      have HOL : Hid (type_of% ol) := ol
      have HOB : Hid (type_of% hob) := hob
      have HOF : Hid (type_of% of) := of
      have HBM : Hid (type_of% bm) := bm
      have HB : Hid (type_of% hB) := hB
      have HS : Hid (type_of% hs) := hs
      have HBD : Hid (Below wr.heap.size wr wr.drew) := (Below.refl wr.heap.size wr).drew
      obtain ⟨x, hx'⟩ : ∃ x, sm (m.ts.take k) (feats m r) m.base = x := ⟨_, rfl⟩
      have HX : Hid (sm (m.ts.take k) (feats m r) m.base = x) := hx'
      rw [hx'] at HSN
      clear hcur hcl ol hob of bm hB hs htl hx'
      go_wp2_with fail
      go_region_held3 (fun w' => w'.cell? ⟨w.heap.size, 3, none⟩ = some (.int .i64 m.base) ∧ w'.cell? ⟨w.heap.size, 5, none⟩ = some (.slice ax m.ts.length ct)) (go_keep) (first
        | (go_at_call 20
           have hcall := Sw.ssum wr.drew ax af ct cf (m.ts.take k) (feats m r) m.base (HIT.out.below HBD.out) (by obtain ⟨_, _, e, i⟩ := (HOF.out.below HBD.out).isl; rw [HL.out] at e; cases e; exact i) HSZ.out (by have := HL.out; omega)
           rw [HTL.out, HL.out, HX.out] at hcall
           refine hcall.mono ?_
           rintro e w5 ⟨rfl, hb⟩
           have HY : Hid (Below wr.heap.size wr w5) := HBD.out.trans hb
           obtain ⟨_, ⟨z0, z1, z2, z3, z4, z5⟩, _⟩ := wr6 (HBM.out.below HY.out)
           have ho5 : w5.ownsRow E 3 1 u6 cur.length (Li.iv cur) := HOL.out.below HY.out
           have HE5 : Hid (E ≤ w5.heap.size) := by show _ ≤ _; have := HY.out.size; have := HS.out; have := HS1.out; have := HEW.out; omega
           have HAL : Hid (Below w5.heap.size w5 (w5.alloc (.cells #[.int .i64 x] 3))) := (Below.refl _ _).alloc (Nat.le_refl _) _
           obtain ⟨_, ⟨y0, y1, y2, y3, y4, y5⟩, _⟩ := wr6 ((HBM.out.below HY.out).below HAL.out)
           clear hb hcall)
        | (refine step_append_lies _ rfl _ _ 30 rfl E 3 i0 (.int .i64 0) 1 8 Tryz.underlying30 hi hz0 hz1 hz2 rfl (by decide) u6 cur.length (Li.iv cur) rfl (World.ownsRow.alloc ho5 _) ⟨w5.heap.size, 0, none⟩ 1 1 [.int .i64 x] rfl rfl (Ai.one_cell _ _ _) (Ai.one_one _) (by decide) (by have := HCL.out; unfold maxLen; omega) (by have := HCL.out; omega) (by have := HE5.out; simp; omega) _ rfl ?_
           intro g cap' w6 hown6 hgrow6 hloc6 hgl6
           have HG6 : Hid (Sv.Fr (fun q => u6.ownBlock = some q) w5 w6) := (Sv.fr_below HAL.out).trans (fr_own hgrow6 (fun q e => e))
           have HO6 : Hid (Li.Own w6 E (.slice (some ⟨g, 0, none⟩) (cur.length + 1) cap') (stgN m.ts (feats m r) m.base (k + 1))) := by rw [HSN.out]; exact Ai.own_snoc rfl hown6
           have HM6 : Hid (Wr w6 w.heap.size 0 [.int .i64 m.n, .int .i64 m.c, .int .i64 m.prior, .int .i64 m.base, .slice ak m.ks.length ck, .slice ax m.ts.length ct]) := (HBM.out.below HY.out).keptAt HG6.out.size (HG6.out.block _ (HBM.out.below HY.out).1 (fun e => by have := HOB.out _ e; have := HW2.out; have := HS1.out; have := HEW.out; omega))
           have HF6 : Hid (Li.Own w6 W.heap.size (.slice af L cf) (feats m r)) := own_fr (HOF.out.below HY.out) HG6.out (fun q e e2 => by have := HFW.out q e; have := HOB.out _ e2; have := HEW.out; omega)
           have HN6 : Hid (∀ q, (Value.slice (some ⟨g, 0, none⟩) (cur.length + 1) cap').ownBlock = some q → q = E ∨ w1.heap.size ≤ q) := fun q e => by
             simp [Value.ownBlock] at e
             subst e
             rcases hloc6 with h6 | h6
             · exact HOB.out _ h6
             · right; have := HY.out.size; have := HS.out; simp at h6; omega
           have HS6 : Hid (w1.heap.size ≤ w6.heap.size) := by show _ ≤ _; have := HG6.out.size; have := HY.out.size; have := HS.out; omega
           have HB6 : Hid (Below w.heap.size w w6) := (HB.out.trans (HY.out.mono HB.out.size)).trans (HG6.out.bel (fun q e => by have := HOB.out _ e; have := HW2.out; have := HS1.out; have := HEW.out; omega) (by have := HB.out.size; have := HY.out.size; omega))
           obtain ⟨_, ⟨s0, s1, s2, s3, s4, s5⟩, _⟩ := wr6 HM6.out
           clear hown6 hgrow6 hloc6 hgl6))
      clear x0 x1 x2 x3 x4 x5 y0 y1 y2 y3 y4 y5 z0 z1 z2 z3 z4 z5 s0 s1 s2 s3 s4 s5 ho5
      go_wp2
      go_roundw
      case rel => exact ⟨k + 1, by omega, by go_num, HO6.out, HN6.out, HF6.out, HM6.out, HS6.out, HB6.out⟩
      case measure => simp [intOf]; omega
    · obtain rfl : k = m.ts.length + 1 := by omega
      have hkl : ¬ ((m.ts.length + 1 : Nat) : Int) ≤ (m.ts.length : Int) := by omega
      have hkl2 : ¬ (m.ts.length : Int) + 1 ≤ (m.ts.length : Int) := by omega
      have HA : Hid (Li.Own wr w.heap.size u6 (stg m r)) := by rw [HR.out]; exact ol.mono (by have := HW2.out; omega)
      clear ol hob of bm
      go_wp2
      refine bodyPost_ret (v := .tuple #[u6, .bool true]) (by simp [results, Tryz.results8, go_sem]) rfl ?_
      exact ⟨_, by rw [HV.out], HA.out, hB⟩
end Go.Proofs.YtcadgeepknhmfaaGreat.Md
/-
  Two lists of the call's own and a variable, made in any order; one more pair of lists put behind a list of pairs.
-/
namespace Go.Proofs.YtcadgeepknhmfaaGreat.Ct
set_option maxRecDepth 20000
open Go.RowKit
open Go.Proofs.YtcadgeepknhmfaaGreat.Tb (ownsRow_at)
open Go.Proofs.YtcadgeepknhmfaaGreat.Sv (Fr fr_below fr_grown Wr)
open Go.Proofs.YtcadgeepknhmfaaGreat.Kt (Kv OwK)
open Go.Proofs.YtcadgeepknhmfaaGreat.To (OwT)
set_option linter.unusedVariables false
structure Rw where
  T : TypeId
  sz : Nat
  n : Nat
  xs : List Value
def Ow (w : World) (base : Nat) (v : Value) (r : Rw) : Prop := w.ownsRow base r.T r.sz v r.n r.xs
theorem Ow.lt {w : World} {base : Nat} {v : Value} {r : Rw} (h : Ow w base v r) : ∀ k, v.ownBlock = some k → base ≤ k ∧ k < w.heap.size := World.ownsRow.lt h
theorem Ow.below {w w1 : World} {base : Nat} {v : Value} {r : Rw} (h : Ow w base v r) (hb : Below w.heap.size w w1) : Ow w1 base v r := ownsRow_at h (fun k e => hb.block k (h.lt k e).2)
theorem Ow.mono {w : World} {base b1 : Nat} {v : Value} {r : Rw} (h : Ow w base v r) (hb : b1 ≤ base) : Ow w b1 v r := by
  refine ⟨h.1, ?_⟩
  rcases h.2 with e | ⟨g, cap, cur, e, hg, rest⟩
  · exact .inl e
  · exact .inr ⟨g, cap, cur, e, Nat.le_trans hb hg, rest⟩
def pair0 : List Value := [.slice none 0 0, .slice none 0 0]
structure Tp (W wx : World) (M C : Option (Value × Rw)) (A : Option Nat) : Prop where
  bel : Below W.heap.size W wx
  oM : ∀ v r, M = some (v, r) → Ow wx W.heap.size v r
  oC : ∀ v r, C = some (v, r) → Ow wx W.heap.size v r
  oA : ∀ g, A = some g → Wr wx g 0 pair0 ∧ W.heap.size ≤ g
  mc : ∀ v r u s, M = some (v, r) → C = some (u, s) → ∀ y, v.ownBlock = some y → u.ownBlock ≠ some y
  ma : ∀ v r g, M = some (v, r) → A = some g → v.ownBlock ≠ some g
  ca : ∀ u s g, C = some (u, s) → A = some g → u.ownBlock ≠ some g
section
variable {W wx w1 : World} {M C : Option (Value × Rw)} {A : Option Nat}
theorem Tp.init (W : World) : Tp W W.drew none none none :=
  ⟨(Below.refl _ _).drew, fun v r e => (by cases e), fun v r e => (by cases e), fun g e => (by cases e), fun v r u s e => (by cases e), fun v r g e => (by cases e), fun u s g e => (by cases e)⟩
theorem Tp.below (h : Tp W wx M C A) (hb : Below wx.heap.size wx w1) : Tp W w1 M C A :=
  ⟨h.bel.trans (hb.mono h.bel.size), fun v r e => (h.oM v r e).below hb, fun v r e => (h.oC v r e).below hb, fun g e => ⟨(h.oA g e).1.below hb, (h.oA g e).2⟩, h.mc, h.ma, h.ca⟩
theorem Tp.addM (h : Tp W wx none C A) (hb : Below wx.heap.size wx w1) {v : Value} {r : Rw} (ho : Ow w1 wx.heap.size v r) : Tp W w1 (some (v, r)) C A := by
  have h' := h.below hb
  refine ⟨h'.bel, fun v' r' e => ?_, h'.oC, h'.oA, fun v' r' u s e e' y k1 k2 => ?_, fun v' r' g e e' k1 => ?_, h'.ca⟩
  · cases e; exact ho.mono h.bel.size
  · cases e; have := (ho.lt y k1).1; have := ((h.oC u s e').lt y k2).2; omega
  · cases e; have := (ho.lt g k1).1; have := (h.oA g e').1.1; omega
theorem Tp.addC (h : Tp W wx M none A) (hb : Below wx.heap.size wx w1) {v : Value} {r : Rw} (ho : Ow w1 wx.heap.size v r) : Tp W w1 M (some (v, r)) A := by
  have h' := h.below hb
  refine ⟨h'.bel, h'.oM, fun v' r' e => ?_, h'.oA, fun v' r' u s e e' y k1 k2 => ?_, h'.ma, fun v' r' g e e' k1 => ?_⟩
  · cases e; exact ho.mono h.bel.size
  · cases e'; have := (ho.lt y k2).1; have := ((h.oM v' r' e).lt y k1).2; omega
  · cases e; have := (ho.lt g k1).1; have := (h.oA g e').1.1; omega
theorem Tp.newA (h : Tp W wx M C none) (T : TypeId) : ∃ wy g, wx.alloc (.cells #[.slice none 0 0, .slice none 0 0] T) = wy ∧ wx.heap.size = g ∧ Tp W wy M C (some g) := by
  have hb : Below wx.heap.size wx (wx.alloc (.cells #[.slice none 0 0, .slice none 0 0] T)) := (Below.refl _ _).alloc (Nat.le_refl _) _
  have h' := h.below hb
  refine ⟨_, _, rfl, rfl, ⟨h'.bel, h'.oM, h'.oC, fun g e => ?_, h'.mc, fun v r g e e' k1 => ?_, fun v r g e e' k1 => ?_⟩⟩
  · cases e; exact ⟨Sv.wr_new wx pair0 T, h.bel.size⟩
  · cases e'; have := ((h.oM v r e).lt _ k1).2; omega
  · cases e'; have := ((h.oC v r e).lt _ k1).2; omega
theorem ow_new (wx : World) (T : TypeId) (sz : Nat) : Ow (wx.alloc (.cells #[] T)) wx.heap.size (.slice (some ⟨wx.heap.size, 0, none⟩) 0 0) ⟨T, sz, 0, []⟩ :=
  World.ownsRow_made wx #[] 0 (Nat.le_refl _) (by unfold maxLen; omega) (by simp)
end
end Go.Proofs.YtcadgeepknhmfaaGreat.Ct
/-
  Copies of lists: slices.Clone at every list; append onto a list that has just been made empty.
-/
namespace Go.Proofs.YtcadgeepknhmfaaGreat.Ct
set_option maxRecDepth 20000
open Go.RowKit
open Go.Proofs.YtcadgeepknhmfaaGreat.Tm (IsP OwnP pv pv_length)
open Go.Proofs.YtcadgeepknhmfaaGreat.Li (IsL iv)
set_option linter.unusedVariables false
def ri (xs : List Int) : Rw := ⟨3, 1, xs.length, iv xs⟩
def rs (xs : List ByteArray) : Rw := ⟨9, 1, xs.length, Ls.sv xs⟩
def rp (xs : List (Int × Int)) : Rw := ⟨81, 2, xs.length, pv xs⟩
theorem eql_nil0 {P : Program} (w : World) (t e : TypeId) (l c : Nat) (h : P.underlying t = some (.slice e)) : (binOp .eql t (.slice none l c) (.slice none 0 0)).run P w = .ok (.bool true) w := by
  simp only [binOp]
  simp [run_equal_slice_nil w t e none l c h]
set_option maxHeartbeats 1000000 in
theorem cloneI (w : World) (a : Option Addr) (c : Nat) (xs : List Int) (hx : IsL w a xs) (hl : xs.length ≤ 1048576) :
    Calls Tryz.prog 47 #[.slice a xs.length c] w fun e w' => ∃ b d, e = .returned (.slice b xs.length d) ∧ Ow w' w.heap.size (.slice b xs.length d) (ri xs) ∧ Below w.heap.size w w' := by
  obtain ⟨i0, hi, hz0, hz1, hz2⟩ := info_parts Li.info_int
  cases a with
  | none =>
    have h0 : xs = [] := by
      rcases hx with h | ⟨b, off, e, _⟩
      · exact h
      · cases e
    subst h0
    have hnil : ∀ w0 : World, Sem.run Tryz.prog (binOp .eql 30 (.slice none 0 c) (.slice none 0 0)) w0 = .ok (.bool true) w0 := fun w0 => eql_nil0 w0 _ _ _ _ Tryz.underlying30
    go_enter Tryz.func47, Tryz.ntmps47
    go_wp2
    go_ret
    exact ⟨none, 0, rfl, World.ownsRow_nil _ _ _ _, Below.refl _ _⟩
  | some x =>
    have hnil : ∀ w0 : World, Sem.run Tryz.prog (binOp .eql 30 (.slice (some x) xs.length c) (.slice none 0 0)) w0 = .ok (.bool false) w0 := fun w0 => Fw.eql_nil w0 _ _ _ _ _ Tryz.underlying30
    have hB0 : Below w.heap.size w (w.alloc (.cells #[] 3)) := (Below.refl _ _).alloc (Nat.le_refl _) _
    by_cases h0 : xs.length = 0
    · obtain rfl : xs = [] := List.length_eq_zero_iff.1 h0
      clear h0 hnil
      have hnil : ∀ w0 : World, Sem.run Tryz.prog (binOp .eql 30 (.slice (some x) 0 c) (.slice none 0 0)) w0 = .ok (.bool false) w0 := fun w0 => Fw.eql_nil w0 _ _ _ _ _ Tryz.underlying30
      have ho := ow_new w 3 1
      go_enter Tryz.func47, Tryz.ntmps47
      go_wp2
      go_ret
      exact ⟨_, _, rfl, ho, hB0⟩
    · have h0 : 0 < xs.length := by omega
      go_enter Tryz.func47, Tryz.ntmps47
      go_wp2_with (at_builtin; refine wpList_append_lies _ rfl _ _ 30 rfl w.heap.size 3 i0 (.int .i64 0) 1 8 Tryz.underlying30 hi hz0 hz1 hz2 rfl (by decide) (.slice (some ⟨w.heap.size, 0, none⟩) 0 0) 0 [] rfl (Ai.own_empty w _ (Nat.le_refl _)) x xs.length c (iv xs) rfl (by rw [Li.iv_length]; omega) (Ai.news_i (hx.below hB0)) (Li.iv_one _) h0 (by unfold maxLen; omega) (by omega) (by simp) _ rfl ?_)
      intro g cap w1 hown hgrow _ _
      have ho : Ow w1 w.heap.size (.slice (some ⟨g, 0, none⟩) xs.length cap) (ri xs) := by
        first | exact hown | (rw [Nat.zero_add, List.nil_append] at hown; exact hown)
      have hB1 : Below w.heap.size w w1 := Ai.below_app hB0 (by simp) hgrow (fun k hk => by simp [Value.ownBlock] at hk; omega)
      clear hown hgrow
      go_wp2
      go_ret
      exact ⟨some ⟨g, 0, none⟩, cap, by simp, ho, hB1⟩
set_option maxHeartbeats 1000000 in
theorem cloneP (w : World) (a : Option Addr) (c : Nat) (ps : List (Int × Int)) (hx : IsP w a ps) (hl : ps.length ≤ 1048576) :
    Calls Tryz.prog 49 #[.slice a ps.length c] w fun e w' => ∃ b d, e = .returned (.slice b ps.length d) ∧ Ow w' w.heap.size (.slice b ps.length d) (rp ps) ∧ Below w.heap.size w w' := by
  cases a with
  | none =>
    have h0 : ps = [] := by
      rcases hx with h | ⟨b, off, e, _⟩
      · exact h
      · cases e
    subst h0
    have hnil : ∀ w0 : World, Sem.run Tryz.prog (binOp .eql 55 (.slice none 0 c) (.slice none 0 0)) w0 = .ok (.bool true) w0 := fun w0 => eql_nil0 w0 _ _ _ _ Tryz.underlying55
    go_enter Tryz.func49, Tryz.ntmps49
    go_wp2
    go_ret
    exact ⟨none, 0, rfl, World.ownsRow_nil _ _ _ _, Below.refl _ _⟩
  | some x =>
    by_cases h0 : ps.length = 0
    · obtain rfl : ps = [] := List.length_eq_zero_iff.1 h0
      clear h0
      have hnil : ∀ w0 : World, Sem.run Tryz.prog (binOp .eql 55 (.slice (some x) 0 c) (.slice none 0 0)) w0 = .ok (.bool false) w0 := fun w0 => Fw.eql_nil w0 _ _ _ _ _ Tryz.underlying55
      have ho := ow_new w 81 2
      have hB0 : Below w.heap.size w (w.alloc (.cells #[] 81)) := (Below.refl _ _).alloc (Nat.le_refl _) _
      go_enter Tryz.func49, Tryz.ntmps49
      go_wp2
      go_ret
      exact ⟨_, _, rfl, ho, hB0⟩
    · refine (Fw.iclone w (some x) c ps hx (by omega) hl).mono ?_
      rintro e w' ⟨g, cap, rfl, ho, hB⟩
      exact ⟨some ⟨g, 0, none⟩, cap, rfl, ho, hB⟩
theorem wp_makeS {o : Oper} {a : Act} {w : World} {K : Act → World → Prop} {Q : Exit → Act → World → Prop} (l c : Operand) (hop : o.op = Op.makeSlice 31 l c) (dt : Option Tmp) (hd : o.dst = dt) (n : Nat) (hl : a.eval l = .int .i64 (n : Int)) (hc : a.eval c = .int .i64 (n : Int)) (hn : n ≤ 1048576)
    (h : ∀ g w', w.heap.size ≤ g → Ow w' w.heap.size (.slice (some ⟨g, 0, none⟩) n n) (rs (List.replicate n ⟨#[]⟩)) → Below w.heap.size w w' → K (a.put dt (.slice (some ⟨g, 0, none⟩) n n)) w') : o.wp Tryz.prog a w K Q := by
  subst hd
  obtain ⟨i0, hi, hz0, hz1, hz2⟩ := info_parts Ls.info_str
  obtain ⟨w', hrun, r1, r2⟩ := run_make_full (P := Tryz.prog) w w.heap.size 31 9 i0 (.string ⟨#[]⟩) 1 Tryz.underlying31 hi hz0 hz1 .i64 .i64 n (by rw [hz2]; omega) (by unfold maxLen; omega) (Nat.le_refl _)
  unfold Oper.wp
  simp [execOp, hop, hl, hc, hrun, Result.andThen]
  exact h _ _ (Nat.le_refl _) (Ls.own_made r1) (Li.below_none r2)
end Go.Proofs.YtcadgeepknhmfaaGreat.Ct
