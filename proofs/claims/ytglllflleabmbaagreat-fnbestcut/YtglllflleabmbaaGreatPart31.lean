/-
  Contracts that the proof leans on, put together in the order in which they build.
-/
import Derived.Test.YtglllflleabmbaaGreatPart27
import Derived.Test.YtglllflleabmbaaGreatPart29
import Derived.Test.YtglllflleabmbaaGreatPart30
import Derived.Deep.RegionHeld3
import Derived.Deep.RegionHeldLaw
import Derived.Deep.QuietTactic
import Derived.BigQuiet
/-
  OffStages, BestCut of both: with each number of trees how far off; the first number of trees that is least.
-/
namespace Go.Proofs.YtglllflleabmbaaGreat.Md
set_option maxRecDepth 100000
open Go.RowKit
open Go.Proofs.YtglllflleabmbaaGreat.Li (ret_bool ret_int btw below_none)
open Go.Proofs.YtglllflleabmbaaGreat.Tb (Row RowIs IsR szR OwnT)
open Go.Proofs.YtglllflleabmbaaGreat.Sv (new1 new2 Wr wr2)
open Go.Proofs.YtglllflleabmbaaGreat.Ct (mcut mcut_sz icut scut)
open Go.Proofs.YtglllflleabmbaaGreat.Ai (one_cell one_one own_snoc own_empty below_app)
set_option linter.unusedVariables false
def ofsN (m : M) (n c : Int) (rs : List Row) (q : Nat) : List Int := (List.range q).map fun (k : Nat) => ofo (mcut m (k : Int)) n c rs
theorem ofsN_length (m : M) (n c : Int) (rs : List Row) (q : Nat) : (ofsN m n c rs q).length = q := by simp [ofsN]
theorem ofsN_get (m : M) (n c : Int) (rs : List Row) (q k : Nat) (h : k < (ofsN m n c rs q).length) : (ofsN m n c rs q)[k] = ofo (mcut m (k : Int)) n c rs := by simp [ofsN]
theorem ofsN_snoc (m : M) (n c : Int) (rs : List Row) (q : Nat) : ofsN m n c rs (q + 1) = ofsN m n c rs q ++ [ofo (mcut m (q : Int)) n c rs] := by simp [ofsN, List.range_succ]
def ofs (m : M) (n c : Int) (rs : List Row) : List Int := if pok m n c rs = true then ofsN m n c rs (m.ts.length + 1) else []
theorem ofs_no {m : M} {n c : Int} {rs : List Row} (h : pok m n c rs = false) : ofs m n c rs = [] := by unfold ofs; rw [if_neg (by rw [h]; simp)]
theorem ofs_yes {m : M} {n c : Int} {rs : List Row} (h : pok m n c rs = true) : ofs m n c rs = ofsN m n c rs (m.ts.length + 1) := by unfold ofs; rw [if_pos h]
theorem pok_ts {m : M} {n c : Int} {rs : List Row} (h : pok m n c rs = true) : m.ts.length ≤ 12 := by
 simp only [pok, Bool.and_eq_true] at h
 exact (mok_parts h.1).2.2.2.1
theorem ofs_len (m : M) (n c : Int) (rs : List Row) : (ofs m n c rs).length ≤ 13 := by
 cases h : pok m n c rs
 ·
  rw [ofs_no h]; simp
 ·
  rw [ofs_yes h, ofsN_length]; have := pok_ts h; omega
theorem getD_at {xs : List Int} {k : Nat} (h : k < xs.length) : xs.getD k 0 = xs[k] := by simp [List.getD, h]
def fstl (xs : List Int) : Nat → Nat
 | 0 => 0
 | k + 1 => if xs.getD k 0 < xs.getD (fstl xs k) 0 then k else fstl xs k
theorem fstl_le (xs : List Int) : ∀ k, fstl xs k ≤ k
 | 0 => Nat.le_refl _
 | k + 1 => by unfold fstl; split; omega; exact Nat.le_succ_of_le (fstl_le xs k)
theorem fstl_lt (xs : List Int) : ∀ k, k < xs.length → fstl xs k < xs.length := fun k h => by have := fstl_le xs k; omega
set_option maxHeartbeats 1000000 in
theorem ifl (w : World) (a : Option Addr) (cc : Nat) (ls : List Int) (hl : Li.IsL w a ls) (hll : ls.length ≤ 1048576) :
  Calls Tryz.prog 11 #[.slice a ls.length cc] w fun e w' => e = .returned (.int .i64 (fstl ls ls.length : Int)) ∧ w' = w := by
 go_enter Tryz.func11, Tryz.ntmps11
 go_wp2
 go_loop [3, 8] (fun s i => ∃ k : Nat, k ≤ ls.length ∧ i = .int .i64 k ∧ s = .int .i64 (fstl ls k : Int)) (fun _ i => ls.length - (intOf i).toNat)
 case atStart => exact ⟨0, Nat.zero_le _, rfl, rfl⟩
 case round =>
  obtain ⟨k, hk, rfl, rfl⟩ := hrel
  by_cases hlt : k < ls.length
  ·
   rcases hl with rfl | ⟨b, off, rfl, hb, hc⟩
   ·
    simp at hlt
   have hf := fstl_lt ls k hlt
   have hcx := hc k hlt
   have hcy := hc _ hf
   have HS : Hid (fstl ls (k + 1) = if ls[k] < ls[fstl ls k] then k else fstl ls k) := by
    show fstl ls (k + 1) = _
    rw [fstl, getD_at hlt, getD_at hf]
   obtain ⟨x, ex⟩ : ∃ x, ls[k] = x := ⟨_, rfl⟩
   obtain ⟨y, ey⟩ : ∃ y, ls[fstl ls k] = y := ⟨_, rfl⟩
   rw [ex] at hcx HS
   rw [ey] at hcy HS
   obtain ⟨f, ef⟩ : ∃ f, fstl ls k = f := ⟨_, rfl⟩
   rw [ef] at hcy HS hf ⊢
   clear ex ey ef hc
   by_cases hxy : x < y
   ·
    rw [if_pos hxy] at HS
    go_wp2
    go_round
    case rel => exact ⟨k + 1, by omega, by go_num, by rw [HS.out]⟩
    case measure => simp [intOf]; omega
   ·
    rw [if_neg hxy] at HS
    go_wp2
    go_round
    case rel => exact ⟨k + 1, by omega, by go_num, by rw [HS.out]⟩
    case measure => simp [intOf]; omega
  ·
   obtain rfl : k = ls.length := by omega
   go_wp2
   go_ret
   exact ⟨rfl, rfl⟩
set_option maxHeartbeats 8000000 in
theorem iofs (w : World) (ak ax : Option Addr) (ck ct : Nat) (m : M) (h0 : Rmc w ak ax ct m) (hl : m.sz ≤ 1048576) (n c : Int) (a : Option Addr) (cap : Nat) (rs : List Row) (hx : IsRC w a rs) (hr : rs.length + szR rs ≤ 1048576) :
    Calls Tryz.prog 8 #[.agg #[.int .i64 m.n, .int .i64 m.c, .int .i64 m.prior, .int .i64 m.base, .slice ak m.ks.length ck, .slice ax m.ts.length ct], .agg #[.int .i64 n, .int .i64 c, .slice a rs.length cap]] w fun e w' => ∃ v, e = .returned (.tuple #[v, .bool (pok m n c rs)]) ∧ Li.Own w' w.heap.size v (ofs m n c rs) ∧ Below w.heap.size w w' := by
  have h := h0.rm
  have hcap := h0.cap
  clear h0
  obtain ⟨i0, hi, hz0, hz1, hz2⟩ := info_parts Li.info_int
  go_enter Tryz.func8, Tryz.ntmps8
  go_wp2_with fail
  obtain ⟨W, hW, hsz, hB, bm, bt⟩ := new2 w [.int .i64 m.n, .int .i64 m.c, .int .i64 m.prior, .int .i64 m.base, .slice ak m.ks.length ck, .slice ax m.ts.length ct] [.int .i64 n, .int .i64 c, .slice a rs.length cap] 29 32
  rw [hW]
  have HW0 : Hid (w.heap.size + 2 ≤ W.heap.size) := by show _ ≤ _; omega
  clear hW hsz
  refine (iofo _ _ _ _ _ m (h.below hB) hl n c _ _ rs (hx.below hB) hr).mono ?_
  rintro e w1 ⟨rfl, hb⟩
  have bm := bm.below hb
  have bt := bt.below hb
  have hB := hB.trans (hb.mono hB.size)
  have HW1 : Hid (w.heap.size + 2 ≤ w1.heap.size) := by show _ ≤ _; have := hb.size; have := HW0.out; omega
  clear hb HW0
  cases hv : pok m n c rs
  · have HP : Hid (pok m n c rs = false) := hv
    have HR : Hid (ofs m n c rs = []) := ofs_no hv
    clear hv
    go_wp2
    refine bodyPost_ret (v := .tuple #[.slice none 0 0, .bool false]) (by simp [results, Tryz.results8, go_sem]) rfl ?_
    exact ⟨_, by rw [HP.out], by rw [HR.out]; exact Li.Own.nil _ _, hB⟩
  have HP : Hid (pok m n c rs = true) := hv
  have HR : Hid (ofs m n c rs = ofsN m n c rs (m.ts.length + 1)) := ofs_yes hv
  have htl := pok_ts hv
  clear hv
  obtain ⟨q, hq⟩ : ∃ q, m.ts.length + 1 = q := ⟨_, rfl⟩
  have HQ : Hid (m.ts.length + 1 = q) := hq
  have hq13 : q ≤ 13 := by omega
  have wq : IntKind.i64.wrap ((m.ts.length : Int) + 1) = (q : Int) := by rw [IntKind.wrap_i64]; omega
  rw [hq] at HR
  clear hq
  obtain ⟨zs, hzs⟩ : ∃ zs, ofsN m n c rs q = zs := ⟨_, rfl⟩
  have HZL : Hid (zs.length = q) := by rw [← hzs]; exact ofsN_length _ _ _ _ _
  have HZ : Hid (∀ k (hk : k < zs.length), zs[k] = ofo (mcut m (k : Int)) n c rs) := fun k hk => by subst hzs; exact ofsN_get _ _ _ _ _ k hk
  rw [hzs] at HR
  clear hzs
  obtain ⟨_, ⟨x0, x1, x2, x3, x4, x5⟩, _⟩ := wr6 bm
  go_wp2_with (at_make; refine wpList_make_full _ rfl _ _ 37 rfl w1.heap.size 3 i0 (.int .i64 0) 1 Tryz.underlying37 hi hz0 hz1 _ _ _ _ q rfl rfl (by omega) (by omega) (by rw [hz2]; omega) (by unfold maxLen; omega) (Nat.le_refl _) ?_; intro w3 hown hgrow)
  have ol := Li.own_made hown
  have hb1 := below_none hgrow
  have bm := bm.below hb1
  have bt := bt.below hb1
  have hB := hB.trans (hb1.mono hB.size)
  obtain ⟨G, hG⟩ : ∃ G, w1.heap.size = G := ⟨_, rfl⟩
  rw [hG] at ol HW1 ⊢
  have HOL : Hid (type_of% ol) := ol
  have HBM : Hid (type_of% bm) := bm
  have HBT : Hid (type_of% bt) := bt
  have HHB : Hid (type_of% hB) := hB
  clear hown hgrow hb1 hG x0 x1 x2 x3 x4 x5 ol bm bt hB wq
  go_wp2
  go_loopw [25] (fun i wr => ∃ k : Nat, k ≤ q ∧ i = .int .i64 k ∧ ∃ l : List Int, l.length = q ∧ Li.Like l zs k ∧ Li.Own wr G (.slice (some ⟨G, 0, none⟩) q q) l ∧ Wr wr w.heap.size 0 [.int .i64 m.n, .int .i64 m.c, .int .i64 m.prior, .int .i64 m.base, .slice ak m.ks.length ck, .slice ax m.ts.length ct] ∧ Wr wr (w.heap.size + 1) 0 [.int .i64 n, .int .i64 c, .slice a rs.length cap] ∧ Below w.heap.size w wr) (fun i _ => q - (intOf i).toNat)
  case atStart => exact ⟨0, Nat.zero_le _, rfl, _, by simp, fun j hj => by omega, HOL.out, HBM.out, HBT.out, HHB.out⟩
  case round =>
    clear HOL HBM HBT HHB
    obtain ⟨k, hk, rfl, l, hll, hlike, ol, bm, bt, hB⟩ := hrel
    by_cases hlt : k < q
    · have hkz : k < zs.length := by rw [HZL.out]; exact hlt
      have hnx : Li.Like (l.set k zs[k]) zs (k + 1) := Li.like_set hlike hkz (by rw [HZL.out]; exact hll)
      rw [HZ.out k hkz] at hnx
      have HNX : Hid (type_of% hnx) := hnx
      have HLL : Hid (l.length = q) := hll
      have HM : Hid (Rm wr ak ax m) := h.below hB
      have HXR : Hid (IsRC wr a rs) := hx.below hB
      have HBM : Hid (type_of% bm) := bm
      have HBT : Hid (type_of% bt) := bt
      have HOL : Hid (type_of% ol) := ol
      have HB : Hid (type_of% hB) := hB
      have HBD : Hid (Below wr.heap.size wr wr.drew) := (Below.refl wr.heap.size wr).drew
      have HSZ : Hid ((mcut m (k : Int)).sz ≤ 1048576) := Nat.le_trans (mcut_sz m _) hl
      obtain ⟨_, ⟨x0, x1, x2, x3, x4, x5⟩, _⟩ := wr6 HBM.out
      obtain ⟨_, ⟨y0, y1, y2⟩, _⟩ := wr3 HBT.out
      have hne0 : ¬ w.heap.size = G := by have := HW1.out; omega
      have hne0' : ¬ G = w.heap.size := by omega
      have hne1 : ¬ w.heap.size + 1 = G := by have := HW1.out; omega
      have hne1' : ¬ G = w.heap.size + 1 := by omega
      have hGl := (HOL.out.ge G rfl).2
      have hkr : (k : Int) < (q : Int) := by omega
      have hkr0 : (0 : Int) ≤ (k : Int) := by omega
      clear hnx hll hlike ol bm bt hB hkz
      go_wp2_with fail
      go_region_held3 (fun w' => (w'.cell? ⟨w.heap.size, 0, none⟩ = some (.int .i64 m.n) ∧ w'.cell? ⟨w.heap.size, 1, none⟩ = some (.int .i64 m.c) ∧ w'.cell? ⟨w.heap.size, 2, none⟩ = some (.int .i64 m.prior) ∧ w'.cell? ⟨w.heap.size, 3, none⟩ = some (.int .i64 m.base) ∧ w'.cell? ⟨w.heap.size, 4, none⟩ = some (.slice ak m.ks.length ck) ∧ w'.cell? ⟨w.heap.size, 5, none⟩ = some (.slice ax m.ts.length ct)) ∧ w'.cell? ⟨w.heap.size + 1, 0, none⟩ = some (.int .i64 n) ∧ w'.cell? ⟨w.heap.size + 1, 1, none⟩ = some (.int .i64 c) ∧ w'.cell? ⟨w.heap.size + 1, 2, none⟩ = some (.slice a rs.length cap)) (go_keep) (first
        | (go_at_call 13
           refine (icut wr.drew _ _ _ _ m _ (HM.out.below HBD.out) hl hcap).mono ?_
           rintro e w5 ⟨vk, vt, rfl, om, hb⟩
           have HY : Hid (Below wr.heap.size wr w5) := HBD.out.trans hb
           obtain ⟨ak5, ck5, ax5, ct5, ek, et, rm5⟩ := om.rm
           subst ek et
           have HR5 : Hid (Rm w5 ak5 ax5 (mcut m (k : Int))) := rm5
           obtain ⟨_, ⟨z0, z1, z2, z3, z4, z5⟩, _⟩ := wr6 (HBM.out.below HY.out)
           obtain ⟨_, ⟨u0, u1, u2⟩, _⟩ := wr3 (HBT.out.below HY.out)
           clear hb om rm5)
        | (go_at_call 9
           refine (iofo _ _ _ _ _ _ HR5.out HSZ.out n c _ _ rs (HXR.out.below HY.out) hr).mono ?_
           rintro e w6 ⟨rfl, hb⟩
           have HY2 : Hid (Below wr.heap.size wr w6) := HY.out.trans (hb.mono HY.out.size)
           obtain ⟨_, ⟨s0, s1, s2, s3, s4, s5⟩, _⟩ := wr6 (HBM.out.below HY2.out)
           obtain ⟨_, ⟨q0, q1, q2⟩, _⟩ := wr3 (HBT.out.below HY2.out)
           have HO6 : Hid (type_of% (HOL.out.below HY2.out)) := HOL.out.below HY2.out
           have hc6 := HO6.out.cell HLL.out k (by have := HLL.out; omega)
           obtain ⟨cv6, hcv6⟩ : ∃ cv, w6.cell? ⟨G, k, none⟩ = some cv := ⟨_, hc6⟩
           have hf6 := HO6.out.frozen HLL.out k
           clear hb hc6))
      obtain ⟨x, hx'⟩ : ∃ x, ofo (mcut m (k : Int)) n c rs = x := ⟨_, rfl⟩
      rw [hx'] at HNX ⊢
      have HO : Hid (Li.Own (w6.setCell ⟨G, k, none⟩ (.int .i64 x)) G (.slice (some ⟨G, 0, none⟩) q q) (l.set k x)) := HO6.out.set HLL.out k x
      have HM2 : Hid (Wr (w6.setCell ⟨G, k, none⟩ (.int .i64 x)) w.heap.size 0 [.int .i64 m.n, .int .i64 m.c, .int .i64 m.prior, .int .i64 m.base, .slice ak m.ks.length ck, .slice ax m.ts.length ct]) := (HBM.out.below HY2.out).setOther hne0
      have HT2 : Hid (Wr (w6.setCell ⟨G, k, none⟩ (.int .i64 x)) (w.heap.size + 1) 0 [.int .i64 n, .int .i64 c, .slice a rs.length cap]) := (HBT.out.below HY2.out).setOther hne1
      have HB2 : Hid (Below w.heap.size w (w6.setCell ⟨G, k, none⟩ (.int .i64 x))) := (HB.out.trans (HY2.out.mono HB.out.size)).setCell (p := ⟨G, k, none⟩) (by show w.heap.size ≤ G; have := HW1.out; omega) _
      clear x0 x1 x2 x3 x4 x5 y0 y1 y2 z0 z1 z2 z3 z4 z5 u0 u1 u2 s0 s1 s2 s3 s4 s5 q0 q1 q2 hcv6 hf6 hx'
      go_wp2
      go_roundw
      case rel => exact ⟨k + 1, by omega, by go_num, _, by simpa using HLL.out, HNX.out, HO.out, HM2.out, HT2.out, HB2.out⟩
      case measure => simp [intOf]; omega
    · obtain rfl : k = q := by omega
      obtain rfl := Li.like_all (xs := zs) (by rw [HZL.out]; exact hlike) (by rw [HZL.out]; exact hll)
      have HA : Hid (Li.Own wr w.heap.size (.slice (some ⟨G, 0, none⟩) k k) (ofs m n c rs)) := by rw [HR.out]; exact ol.mono (by have := HW1.out; omega)
      clear ol hlike hll
      go_wp2
      refine bodyPost_ret (v := .tuple #[.slice (some ⟨G, 0, none⟩) k k, .bool true]) (by simp [results, Tryz.results8, go_sem]) rfl ?_
      exact ⟨_, by rw [HP.out], HA.out, hB⟩
set_option maxHeartbeats 8000000 in
theorem ibc (w : World) (ak ax : Option Addr) (ck ct : Nat) (m : M) (h : Rmc w ak ax ct m) (hl : m.sz ≤ 1048576) (n c : Int) (a : Option Addr) (cap : Nat) (rs : List Row) (hx : IsRC w a rs) (hr : rs.length + szR rs ≤ 1048576) :
  Calls Tryz.prog 6 #[.agg #[.int .i64 m.n, .int .i64 m.c, .int .i64 m.prior, .int .i64 m.base, .slice ak m.ks.length ck, .slice ax m.ts.length ct], .agg #[.int .i64 n, .int .i64 c, .slice a rs.length cap]] w fun e w' => e = .returned (.tuple #[.int .i64 (fstl (ofs m n c rs) (ofs m n c rs).length : Int), .bool (pok m n c rs)]) ∧ Below w.heap.size w w' := by
 have hol := ofs_len m n c rs
 go_enter Tryz.func6, Tryz.ntmps6
 go_wp2_with fail
 obtain ⟨W, hW, hsz, hB, bm, bt⟩ := new2 w [.int .i64 m.n, .int .i64 m.c, .int .i64 m.prior, .int .i64 m.base, .slice ak m.ks.length ck, .slice ax m.ts.length ct] [.int .i64 n, .int .i64 c, .slice a rs.length cap] 29 32
 rw [hW]
 clear hW hsz
 refine (iofs _ _ _ _ _ m (h.below hB) hl n c _ _ rs (hx.below hB) hr).mono ?_
 rintro e w1 ⟨v, rfl, ov, hb⟩
 have hB := hB.trans (hb.mono hB.size)
 clear hb bm bt
 have HS : Hid (type_of% (rfl : ofs m n c rs = ofs m n c rs)) := rfl
 clear HS
 obtain ⟨ys, hys⟩ : ∃ ys, ofs m n c rs = ys := ⟨_, rfl⟩
 have HYS : Hid (ofs m n c rs = ys) := hys
 rw [hys] at ov hol
 clear hys
 obtain ⟨bv, hbv⟩ : ∃ bv, pok m n c rs = bv := ⟨_, rfl⟩
 have HBV : Hid (pok m n c rs = bv) := hbv
 rw [hbv]
 clear hbv
 obtain ⟨av, cv, ev, iv'⟩ := ov.isl
 subst ev
 clear ov
 go_wp2_with (go_at_call 11; refine (ifl _ _ _ ys iv' (by omega)).mono ?_; rintro e w5 ⟨rfl, hw5⟩; subst w5)
 refine bodyPost_ret (v := .tuple #[.int .i64 (fstl ys ys.length : Int), .bool bv]) (by simp [results, Tryz.results6, go_sem]) rfl ?_
 exact ⟨by rw [HYS.out, HBV.out], hB⟩
end Go.Proofs.YtglllflleabmbaaGreat.Md
/-
  The first number of trees that is least wrong: none is less wrong, no lesser one as little; at last all trees.
-/
namespace Go.Proofs.YtglllflleabmbaaGreat.Md
set_option maxRecDepth 20000
open Go.Proofs.YtglllflleabmbaaGreat.Tb (Row)
open Go.Proofs.YtglllflleabmbaaGreat.Ct (mcut mcut_yes cutn)
theorem fstl_min (xs : List Int) : ∀ k i, i < k → xs.getD (fstl xs k) 0 ≤ xs.getD i 0 ∧ (i < fstl xs k → xs.getD (fstl xs k) 0 < xs.getD i 0)
 | 0, i, h => by omega
 | k + 1, i, h => by
  have hle := fstl_le xs k
  unfold fstl
  by_cases hc : xs.getD k 0 < xs.getD (fstl xs k) 0
  ·
   rw [if_pos hc]
   by_cases hi : i = k
   ·
    subst hi; exact ⟨Int.le_refl _, fun e => by omega⟩
   ·
    have h1 := (fstl_min xs k i (by omega)).1
    exact ⟨by omega, fun _ => by omega⟩
  ·
   rw [if_neg hc]
   by_cases hi : i = k
   ·
    subst hi; exact ⟨by omega, fun e => by omega⟩
   ·
    exact fstl_min xs k i (by omega)
theorem fstl_lt2 (xs : List Int) : ∀ k, 0 < k → fstl xs k < k
 | 0, h => by omega
 | k + 1, _ => by
  have hle := fstl_le xs k
  unfold fstl
  split
  ·
   omega
  ·
   by_cases h0 : k = 0
   ·
    subst h0; simp [fstl]
   ·
    have := fstl_lt2 xs k (by omega); omega
theorem pok_mok {m : M} {n c : Int} {rs : List Row} (h : pok m n c rs = true) : mok m = true := by
 simp only [pok, Bool.and_eq_true] at h
 exact h.1
theorem ofsl {m : M} {n c : Int} {rs : List Row} (h : pok m n c rs = true) : (ofs m n c rs).length = m.ts.length + 1 := by rw [ofs_yes h, ofsN_length]
theorem mcut_all {m : M} (h : mok m = true) : mcut m (m.ts.length : Int) = m := by
 rw [mcut_yes h]
 have e : cutn m (m.ts.length : Int) = m.ts.length := by unfold cutn; omega
 rw [e, List.take_length]
theorem ofs_last {m : M} {n c : Int} {rs : List Row} (h : pok m n c rs = true) : (ofs m n c rs).getD m.ts.length 0 = ofo m n c rs := by
 have hl := ofsl h
 rw [List.getD_eq_getElem?_getD, List.getElem?_eq_getElem (by omega)]
 simp only [Option.getD_some]
 rw [List.getElem_of_eq (ofs_yes h), ofsN_get, mcut_all (pok_mok h)]
theorem szR_le {b : Nat} : ∀ {rs : List Row}, (∀ r ∈ rs, Tb.Row.sz r ≤ b) → Tb.szR rs ≤ b * rs.length
 | [], _ => by simp [Tb.szR]
 | r :: rs, h => by
  have h1 := h r (by simp)
  have h2 := szR_le (rs := rs) (fun t ht => h t (by simp [ht]))
  simp only [Tb.szR, List.length_cons, Nat.mul_succ]; omega
end Go.Proofs.YtglllflleabmbaaGreat.Md
/-
  OffStages, BestCut of the model.
-/
namespace Go.Proofs.YtglllflleabmbaaGreat.Md
set_option maxRecDepth 100000
open Go.RowKit
open Go.Proofs.YtglllflleabmbaaGreat.Li (ret_bool ret_int btw below_none iv)
open Go.Proofs.YtglllflleabmbaaGreat.Tb (Row RowIs IsR szR OwnT)
open Go.Proofs.YtglllflleabmbaaGreat.Sv (new1 new2 Wr wr2)
open Go.Proofs.YtglllflleabmbaaGreat.Ct (mcut mcut_sz icut scut)
open Go.Proofs.YtglllflleabmbaaGreat.Ai (one_cell one_one own_snoc own_empty below_app)
set_option linter.unusedVariables false
set_option maxHeartbeats 8000000 in
theorem sofs (w : World) (ak ax : Option Addr) (ck ct : Nat) (m : M) (h : Rm w ak ax m) (hl : m.sz ≤ 1048576) (n c : Int) (a : Option Addr) (cap : Nat) (rs : List Row) (hx : IsRC w a rs) (hr : rs.length + szR rs ≤ 1048576) :
    Calls Tryz.prog 12 #[.agg #[.int .i64 m.n, .int .i64 m.c, .int .i64 m.prior, .int .i64 m.base, .slice ak m.ks.length ck, .slice ax m.ts.length ct], .agg #[.int .i64 n, .int .i64 c, .slice a rs.length cap]] w fun e w' => ∃ v, e = .returned (.tuple #[v, .bool (pok m n c rs)]) ∧ Li.Own w' w.heap.size v (ofs m n c rs) ∧ Below w.heap.size w w' := by
  obtain ⟨i0, hi, hz0, hz1, hz2⟩ := info_parts Li.info_int
  go_enter Tryz.func12, Tryz.ntmps12
  go_wp2_with fail
  obtain ⟨W0, hW0, hsz0, hB0, bm0, bt0⟩ := new2 w [.int .i64 m.n, .int .i64 m.c, .int .i64 m.prior, .int .i64 m.base, .slice ak m.ks.length ck, .slice ax m.ts.length ct] [.int .i64 n, .int .i64 c, .slice a rs.length cap] 29 32
  rw [hW0]
  obtain ⟨W, hW⟩ : ∃ W, W0.alloc (.cells #[] 3) = W := ⟨_, rfl⟩
  have hb0 : Below W0.heap.size W0 W := by rw [← hW]; exact (Below.refl _ _).alloc (Nat.le_refl _) _
  have hE0 : W0.heap.size = w.heap.size + 1 + 1 := by omega
  have oe : Li.Own W (w.heap.size + 1 + 1) (.slice (some ⟨w.heap.size + 1 + 1, 0, none⟩) 0 0) [] := by rw [← hW, ← hE0]; exact own_empty W0 _ (Nat.le_refl _)
  rw [hW]
  have bm := bm0.below hb0
  have bt := bt0.below hb0
  have hB := hB0.trans (hb0.mono hB0.size)
  obtain ⟨E, hE⟩ : ∃ E, w.heap.size + 1 + 1 = E := ⟨_, rfl⟩
  have HW2 : Hid (w.heap.size + 2 ≤ E) := by show _ ≤ _; omega
  have HEW : Hid (E < W.heap.size) := by show _ < _; rw [← hW, ← hE, ← hE0]; simp
  rw [hE] at oe ⊢
  clear hE0
  clear hW0 hsz0 hB0 bm0 bt0 hb0 hW hE
  refine (sofo _ _ _ _ _ m (h.below hB) hl n c _ _ rs (hx.below hB) hr).mono ?_
  rintro e w1 ⟨rfl, hb⟩
  have bm := bm.below hb
  have bt := bt.below hb
  have oe := oe.below hb
  have hB := hB.trans (hb.mono hB.size)
  clear hb HEW
  have HOE : Hid (type_of% oe) := oe
  have HBM : Hid (type_of% bm) := bm
  have HBT : Hid (type_of% bt) := bt
  have HHB : Hid (type_of% hB) := hB
  clear oe bm bt hB
  cases hv : pok m n c rs
  · have HP : Hid (pok m n c rs = false) := hv
    have HR : Hid (ofs m n c rs = []) := ofs_no hv
    clear hv
    go_wp2
    go_loopw [6, 9] (fun v i wr => v = .slice (some ⟨E, 0, none⟩) 0 0 ∧ i = .int .i64 0 ∧ wr = w1) (fun _ _ _ => 0)
    case atStart => exact ⟨rfl, rfl, rfl⟩
    case round =>
      obtain ⟨rfl, rfl, rfl⟩ := hrel
      obtain ⟨_, ⟨x0, x1, x2, x3, x4, x5⟩, _⟩ := wr6 HBM.out
      have hd0 : decide ((0 : Int) ≤ (m.ts.length : Int)) = true := decide_eq_true (by omega)
      go_wp2
      all_goals refine bodyPost_ret (v := .tuple #[.slice (some ⟨E, 0, none⟩) 0 0, .bool false]) (by simp [results, Tryz.results12, go_sem]) rfl ?_
      all_goals exact ⟨_, by rw [HP.out], by rw [HR.out]; exact HOE.out.mono (by have := HW2.out; omega), HHB.out⟩
  have HP : Hid (pok m n c rs = true) := hv
  have HR : Hid (ofs m n c rs = ofsN m n c rs (m.ts.length + 1)) := ofs_yes hv
  have htl := pok_ts hv
  clear hv
  go_wp2
  go_loopw [6, 9] (fun v i wr => ∃ k : Nat, k ≤ m.ts.length + 1 ∧ i = .int .i64 k ∧ ∃ l : List Int, l = ofsN m n c rs k ∧ Li.Own wr E v l ∧ Wr wr w.heap.size 0 [.int .i64 m.n, .int .i64 m.c, .int .i64 m.prior, .int .i64 m.base, .slice ak m.ks.length ck, .slice ax m.ts.length ct] ∧ Wr wr (w.heap.size + 1) 0 [.int .i64 n, .int .i64 c, .slice a rs.length cap] ∧ Below w.heap.size w wr ∧ E < wr.heap.size) (fun _ i _ => m.ts.length + 1 - (intOf i).toNat)
  case atStart => exact ⟨0, Nat.zero_le _, rfl, [], by simp [ofsN], HOE.out, HBM.out, HBT.out, HHB.out, (HOE.out.ge E rfl).2⟩
  case round =>
    clear HOE HBM HBT HHB
    obtain ⟨k, hk, rfl, l, hl', ol, bm, bt, hB, hEr⟩ := hrel
    have HLL : Hid (l = ofsN m n c rs k) := hl'
    have hll : l.length = k := by rw [hl']; exact ofsN_length _ _ _ _ _
    have HLK : Hid (l.length = k) := hll
    have hl13 : l.length ≤ 13 := by omega
    clear hl' hll
    obtain ⟨_, ⟨x0, x1, x2, x3, x4, x5⟩, _⟩ := wr6 bm
    obtain ⟨_, ⟨y0, y1, y2⟩, _⟩ := wr3 bt
    by_cases hlt : k ≤ m.ts.length
    · have hd0 : decide ((k : Int) ≤ (m.ts.length : Int)) = true := decide_eq_true (by omega)
      have HM : Hid (Rm wr ak ax m) := h.below hB
      have HXR : Hid (IsRC wr a rs) := hx.below hB
      have HBM : Hid (type_of% bm) := bm
      have HBT : Hid (type_of% bt) := bt
      have HOL : Hid (type_of% ol) := ol
      have HB : Hid (type_of% hB) := hB
      have HBD : Hid (Below wr.heap.size wr wr.drew) := (Below.refl wr.heap.size wr).drew
      have HSZ : Hid ((mcut m (k : Int)).sz ≤ 1048576) := Nat.le_trans (mcut_sz m _) hl
      clear ol bm bt hB
      go_wp2_with fail
      go_region_held3 (fun w' => (w'.cell? ⟨w.heap.size, 0, none⟩ = some (.int .i64 m.n) ∧ w'.cell? ⟨w.heap.size, 1, none⟩ = some (.int .i64 m.c) ∧ w'.cell? ⟨w.heap.size, 2, none⟩ = some (.int .i64 m.prior) ∧ w'.cell? ⟨w.heap.size, 3, none⟩ = some (.int .i64 m.base) ∧ w'.cell? ⟨w.heap.size, 4, none⟩ = some (.slice ak m.ks.length ck) ∧ w'.cell? ⟨w.heap.size, 5, none⟩ = some (.slice ax m.ts.length ct)) ∧ w'.cell? ⟨w.heap.size + 1, 0, none⟩ = some (.int .i64 n) ∧ w'.cell? ⟨w.heap.size + 1, 1, none⟩ = some (.int .i64 c) ∧ w'.cell? ⟨w.heap.size + 1, 2, none⟩ = some (.slice a rs.length cap)) (go_keep) (first
        | (go_at_call 24
           refine (scut wr.drew _ _ _ _ m _ (HM.out.below HBD.out) hl).mono ?_
           rintro e w5 ⟨vk, vt, rfl, om, hb⟩
           have HY : Hid (Below wr.heap.size wr w5) := HBD.out.trans hb
           obtain ⟨ak5, ck5, ax5, ct5, ek, et, rm5⟩ := om.rm
           subst ek et
           have HR5 : Hid (Rm w5 ak5 ax5 (mcut m (k : Int))) := rm5
           obtain ⟨_, ⟨z0, z1, z2, z3, z4, z5⟩, _⟩ := wr6 (HBM.out.below HY.out)
           obtain ⟨_, ⟨u0, u1, u2⟩, _⟩ := wr3 (HBT.out.below HY.out)
           clear hb om rm5)
        | (go_at_call 23
           refine (sofo _ _ _ _ _ _ HR5.out HSZ.out n c _ _ rs (HXR.out.below HY.out) hr).mono ?_
           rintro e w6 ⟨rfl, hb⟩
           have HY2 : Hid (Below wr.heap.size wr w6) := HY.out.trans (hb.mono HY.out.size)
           obtain ⟨_, ⟨s0, s1, s2, s3, s4, s5⟩, _⟩ := wr6 (HBM.out.below HY2.out)
           obtain ⟨_, ⟨q0, q1, q2⟩, _⟩ := wr3 (HBT.out.below HY2.out)
           clear hb))
      have HSN : Hid (ofsN m n c rs (k + 1) = ofsN m n c rs k ++ [ofo (mcut m (k : Int)) n c rs]) := ofsN_snoc _ _ _ _ _
      obtain ⟨x, hx'⟩ : ∃ x, ofo (mcut m (k : Int)) n c rs = x := ⟨_, rfl⟩
      rw [hx'] at HSN ⊢
      have ol := HOL.out.below HY2.out
      have bm := HBM.out.below HY2.out
      have bt := HBT.out.below HY2.out
      have hB := HB.out.trans (HY2.out.mono HB.out.size)
      have hs6 := HY2.out.size
      clear x0 x1 x2 x3 x4 x5 y0 y1 y2 z0 z1 z2 z3 z4 z5 u0 u1 u2 s0 s1 s2 s3 s4 s5 q0 q1 q2 hx' HOL HBM HBT HB HY HY2 HM HXR HBD HR5 HSZ
      go_wp2_with (at_builtin; refine wpList_append_own _ rfl _ _ 37 rfl E 3 i0 (.int .i64 0) 1 8 Tryz.underlying37 hi hz0 hz1 hz2 rfl (by decide) _ l.length (iv l) rfl (World.ownsRow.alloc ol _) ⟨w6.heap.size, 0, none⟩ 1 1 [.int .i64 x] rfl rfl (one_cell _ _ _) (one_one _) (by unfold maxLen; omega) (by omega) (by simp; omega) ?_)
      intro v' w7 hown' hgrow hnn
      clear hnn
      have ho6 := own_snoc rfl hown'
      have hge := ol.ge
      have bm7 := ((bm.alloc (.cells #[.int .i64 x] 3)).keptAt hgrow.size (hgrow.block _ (bm.alloc (.cells #[.int .i64 x] 3)).1 (fun e => by have := (hge _ e.symm).1; have := HW2.out; omega)))
      have bt7 := ((bt.alloc (.cells #[.int .i64 x] 3)).keptAt hgrow.size (hgrow.block _ (bt.alloc (.cells #[.int .i64 x] 3)).1 (fun e => by have := (hge _ e.symm).1; have := HW2.out; omega)))
      have hB7 : Below w.heap.size w w7 := below_app (hB.alloc hB.size _) (by have := hB.size; simp; omega) hgrow (fun k hk => by have := (hge k hk).1; have := HW2.out; omega)
      have hE7 : E < w7.heap.size := by have := hgrow.size; simp at this; omega
      clear hown' hgrow ol bm bt hB hge
      go_wp2
      go_roundw
      case rel => exact ⟨k + 1, by omega, by go_num, _, by rw [HSN.out, HLL.out], ho6, bm7, bt7, hB7, hE7⟩
      case measure => simp [intOf]; omega
    · obtain rfl : k = m.ts.length + 1 := by omega
      have hd0 : decide (((m.ts.length + 1 : Nat) : Int) ≤ (m.ts.length : Int)) = false := decide_eq_false (by omega)
      have HA : Hid (Li.Own wr w.heap.size u6 (ofs m n c rs)) := by rw [HR.out, ← HLL.out]; exact ol.mono (by have := HW2.out; omega)
      clear ol
      go_wp2
      refine bodyPost_ret (v := .tuple #[u6, .bool true]) (by simp [results, Tryz.results12, go_sem]) rfl ?_
      exact ⟨_, by rw [HP.out], HA.out, hB⟩
set_option maxHeartbeats 8000000 in
theorem sbc (w : World) (ak ax : Option Addr) (ck ct : Nat) (m : M) (h : Rm w ak ax m) (hl : m.sz ≤ 1048576) (n c : Int) (a : Option Addr) (cap : Nat) (rs : List Row) (hx : IsRC w a rs) (hr : rs.length + szR rs ≤ 1048576) :
  Calls Tryz.prog 7 #[.agg #[.int .i64 m.n, .int .i64 m.c, .int .i64 m.prior, .int .i64 m.base, .slice ak m.ks.length ck, .slice ax m.ts.length ct], .agg #[.int .i64 n, .int .i64 c, .slice a rs.length cap]] w fun e w' => e = .returned (.tuple #[.int .i64 (fstl (ofs m n c rs) (ofs m n c rs).length : Int), .bool (pok m n c rs)]) ∧ Below w.heap.size w w' := by
 have hol := ofs_len m n c rs
 go_enter Tryz.func7, Tryz.ntmps7
 go_wp2_with fail
 obtain ⟨W, hW, hsz, hB, bm, bt⟩ := new2 w [.int .i64 m.n, .int .i64 m.c, .int .i64 m.prior, .int .i64 m.base, .slice ak m.ks.length ck, .slice ax m.ts.length ct] [.int .i64 n, .int .i64 c, .slice a rs.length cap] 29 32
 rw [hW]
 clear hW hsz
 refine (sofs _ _ _ _ _ m (h.below hB) hl n c _ _ rs (hx.below hB) hr).mono ?_
 rintro e w1 ⟨v, rfl, ov, hb⟩
 have hB := hB.trans (hb.mono hB.size)
 clear hb bm bt
 obtain ⟨ls, hys⟩ : ∃ ls, ofs m n c rs = ls := ⟨_, rfl⟩
 have HYS : Hid (ofs m n c rs = ls) := hys
 rw [hys] at ov hol
 clear hys
 obtain ⟨bv, hbv⟩ : ∃ bv, pok m n c rs = bv := ⟨_, rfl⟩
 have HBV : Hid (pok m n c rs = bv) := hbv
 rw [hbv]
 clear hbv
 obtain ⟨av, cv, ev, iv'⟩ := ov.isl
 subst ev
 clear ov
 go_wp2
 go_loopw [8, 9] (fun s i wr => ∃ k : Nat, k ≤ ls.length ∧ i = .int .i64 k ∧ s = .int .i64 (fstl ls k : Int) ∧ ∃ d, wr = w1.drewN d) (fun _ i _ => ls.length - (intOf i).toNat)
 case atStart => exact ⟨0, Nat.zero_le _, rfl, rfl, 0, rfl⟩
 case round =>
  obtain ⟨k, hk, rfl, rfl, d, rfl⟩ := hrel
  by_cases hlt : k < ls.length
  ·
   rcases iv' with h0 | ⟨b, off, rfl, hb, hc⟩
   ·
    rw [h0] at hlt; simp at hlt
   have hf := fstl_lt ls k hlt
   have hcx := hc k hlt
   have hcy := hc _ hf
   have HS : Hid (fstl ls (k + 1) = if ls[k] < ls[fstl ls k] then k else fstl ls k) := by
    show fstl ls (k + 1) = _
    rw [fstl, getD_at hlt, getD_at hf]
   obtain ⟨x, ex⟩ : ∃ x, ls[k] = x := ⟨_, rfl⟩
   obtain ⟨y, ey⟩ : ∃ y, ls[fstl ls k] = y := ⟨_, rfl⟩
   rw [ex] at hcx HS
   rw [ey] at hcy HS
   obtain ⟨f, ef⟩ : ∃ f, fstl ls k = f := ⟨_, rfl⟩
   rw [ef] at hcy HS hf ⊢
   have i1 : (k : Int) < (ls.length : Int) := by omega
   have i2 : (f : Int) < (ls.length : Int) := by omega
   have i3 : (0 : Int) ≤ (k : Int) := by omega
   have i4 : (0 : Int) ≤ (f : Int) := by omega
   clear ex ey ef hc
   by_cases hxy : x < y
   ·
    rw [if_pos hxy] at HS
    go_wp2
    go_quiet (fail)
    go_wp2
    go_roundw
    case rel => exact ⟨k + 1, by omega, by go_num, by rw [HS.out], d + nq, by first | rfl | rw [World.drewN_drewN]⟩
    case measure => simp [intOf]; omega
   ·
    rw [if_neg hxy] at HS
    have hxd : decide (x < y) = false := decide_eq_false hxy
    go_wp2
    go_quiet (fail)
    go_wp2
    go_roundw
    case rel => exact ⟨k + 1, by omega, by go_num, by rw [HS.out], d + nq, by first | rfl | rw [World.drewN_drewN]⟩
    case measure => simp [intOf]; omega
  ·
   obtain rfl : k = ls.length := by omega
   go_wp2
   refine bodyPost_ret (v := .tuple #[.int .i64 (fstl ls ls.length : Int), .bool bv]) (by simp [results, Tryz.results7, go_sem]) rfl ?_
   exact ⟨by rw [HYS.out, HBV.out], Of.below_drewN hB _⟩
end Go.Proofs.YtglllflleabmbaaGreat.Md
