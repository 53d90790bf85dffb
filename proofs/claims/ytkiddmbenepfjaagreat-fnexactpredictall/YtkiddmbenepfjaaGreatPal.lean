/-
  PredictAll of both.
-/
import Derived.Test.YtkiddmbenepfjaaGreatFep
import Derived.Laws.StructEq
namespace Go.Proofs.YtkiddmbenepfjaaGreat.Md
set_option maxRecDepth 100000
open Go.RowKit
open Go.Proofs.YtkiddmbenepfjaaGreat.Li (ret_bool ret_int btw below_none)
open Go.Proofs.YtkiddmbenepfjaaGreat.Tk (sok tok rok)
open Go.Proofs.YtkiddmbenepfjaaGreat.Tb (lets Row RowIs IsR szR OwnT)
open Go.Proofs.YtkiddmbenepfjaaGreat.Tm (IsT szT)
open Go.Proofs.YtkiddmbenepfjaaGreat.Kt (Kv IsK ksz)
open Go.Proofs.YtkiddmbenepfjaaGreat.Sv (new1 new2 Wr wr2)
open Go.Proofs.YtkiddmbenepfjaaGreat.Sw (sm)
set_option linter.unusedVariables false
def pok (m : M) (n c : Int) (rs : List Row) : Bool := mok m && (tok n c rs && (decide (n = m.n) && decide (c = m.c)))
def pall (m : M) (n c : Int) (rs : List Row) : List Int := if pok m n c rs = true then rs.map (pred m) else []
theorem pall_no {m : M} {n c : Int} {rs : List Row} (h : pok m n c rs = false) : pall m n c rs = [] := by unfold pall; rw [if_neg (by rw [h]; simp)]
theorem pall_yes {m : M} {n c : Int} {rs : List Row} (h : pok m n c rs = true) : pall m n c rs = rs.map (pred m) := by unfold pall; rw [if_pos h]
theorem pall_len (m : M) (n c : Int) (rs : List Row) : (pall m n c rs).length ≤ rs.length := by unfold pall; split <;> simp
theorem pok_fits {m : M} {n c : Int} {rs : List Row} (h : pok m n c rs = true) (k : Nat) (hk : k < rs.length) : fits m rs[k] = true := by
  simp only [pok, Bool.and_eq_true, decide_eq_true_eq] at h
  obtain ⟨h0, h1, rfl, rfl⟩ := h
  obtain ⟨h3, h4⟩ := Co.tok_nums h1 k hk
  simp only [fits, Bool.and_eq_true, decide_eq_true_eq]
  exact ⟨h0, h3, h4⟩
theorem neqSch (x y x' y' : Int) (W : World) : Sem.run Tryz.prog (binOp .neq 36 (.agg #[.int .i64 x, .int .i64 y]) (.agg #[.int .i64 x', .int .i64 y'])) W = .ok (.bool (!(decide (x = x') && decide (y = y')))) W := by
  have hu := Tryz.underlying36
  have hi := Tryz.underlying3
  have hp : Tryz.prog.stoodInHeld 36 = false := by kernel_rfl
  have hf : Tryz.prog.underlying 36 = some (.struct (Tryz.prog.fieldsOf 36)) := by kernel_rfl
  rw [run_neq_struct, run_equalIn_agg _ _ _ _ _ hf hp]
  by_cases h1 : x = x' <;> by_cases h2 : y = y' <;> simp [Program.fieldsOf, hu, Op.eqFields, go_sem, hi, h1, h2]
theorem guardSch (W : World) (x y : Operand) (a b a' b' : Int) : (eqGuard .neq 36 x y (.agg #[.int .i64 a, .int .i64 b]) (.agg #[.int .i64 a', .int .i64 b'])).run Tryz.prog W = .ok () W := run_eqGuard_agg W _ _ _ _ _ _ (by kernel_rfl)
/-- Rows that were read, each within its caps. -/
def IsRC (w : World) (a : Option Addr) (rs : List Row) : Prop :=
  rs = [] ∨ ∃ b off, a = some ⟨b, off, none⟩ ∧ b < w.heap.size ∧ ∀ j (hj : j < rs.length), ∃ v0 v1 v2, (w.cell? ⟨b, off + j * 3, none⟩ = some v0 ∧ w.cell? ⟨b, off + j * 3 + 1, none⟩ = some v1 ∧ w.cell? ⟨b, off + j * 3 + 2, none⟩ = some v2) ∧ RowC w v0 v1 v2 rs[j]
theorem IsRC.below {w w1 : World} {a : Option Addr} {rs : List Row} (h : IsRC w a rs) (hB : Below w.heap.size w w1) : IsRC w1 a rs := by
  rcases h with h | ⟨b, off, rfl, hb, hc⟩
  · exact .inl h
  · refine .inr ⟨b, off, rfl, Nat.lt_of_lt_of_le hb hB.size, fun j hj => ?_⟩
    obtain ⟨v0, v1, v2, ⟨h0, h1, h2⟩, hr⟩ := hc j hj
    exact ⟨v0, v1, v2, ⟨(hB.cell (by exact hb)).trans h0, (hB.cell (by exact hb)).trans h1, (hB.cell (by exact hb)).trans h2⟩, hr.below hB⟩
theorem IsRC.isr {w : World} {a : Option Addr} {rs : List Row} (h : IsRC w a rs) : IsR w a rs := by
  rcases h with h | ⟨b, off, rfl, hb, hc⟩
  · exact .inl h
  · refine .inr ⟨b, off, rfl, hb, fun j hj => ?_⟩
    obtain ⟨v0, v1, v2, hx, hr⟩ := hc j hj
    exact ⟨v0, v1, v2, hx, hr.row⟩
theorem ownT_isrc {w : World} {lo hi : Nat} {v : Value} {rs : List Row} (h : OwnT w lo hi v rs) : ∃ a cap, v = .slice a rs.length cap ∧ IsRC w a rs := by
  obtain ⟨g, xs, V0, V1, hg, hown, ⟨hn, _⟩, _⟩ := h
  have hown' := hown
  rcases hown.2 with ⟨rfl, h0⟩ | ⟨g', cap, cur, rfl, hb, hh, _⟩
  · exact ⟨none, 0, by rw [h0], .inl (List.length_eq_zero_iff.1 h0)⟩
  · refine ⟨_, cap, rfl, .inr ⟨g', 0, rfl, (Array.getElem?_eq_some_iff.1 hh).1, fun j hj => ?_⟩⟩
    obtain ⟨⟨c0, c1, c2⟩, o0, o1⟩ := hn j hj hj
    obtain ⟨a0, q0, e0, i0⟩ := o0.isl
    obtain ⟨a1, q1, e1, hc, i1⟩ := own_cap o1
    have hl := hown'.1
    refine ⟨V0 j, V1 j, .int .i64 rs[j].label, ⟨?_, ?_, ?_⟩, a0, q0, a1, q1, e0, e1, rfl, i0, i1, hc⟩
    · rw [Nat.zero_add, World.ownsRow.cellAt hown' (j * 3) (by omega), c0]
    · rw [Nat.zero_add, World.ownsRow.cellAt hown' (j * 3 + 1) (by omega), c1]
    · rw [Nat.zero_add, World.ownsRow.cellAt hown' (j * 3 + 2) (by omega), c2]
set_option maxHeartbeats 8000000 in
theorem ipall (w : World) (ak ax : Option Addr) (ck ct : Nat) (m : M) (h : Rm w ak ax m) (hl : m.sz ≤ 1048576) (n c : Int) (a : Option Addr) (cap : Nat) (rs : List Row) (hx : IsRC w a rs) (hr : rs.length + szR rs ≤ 1048576) :
    Calls Tryz.prog 9 #[.agg #[.int .i64 m.n, .int .i64 m.c, .int .i64 m.prior, .int .i64 m.base, .slice ak m.ks.length ck, .slice ax m.ts.length ct], .agg #[.int .i64 n, .int .i64 c, .slice a rs.length cap]] w fun e w' => ∃ v, e = .returned (.tuple #[v, .bool (pok m n c rs)]) ∧ Li.Own w' w.heap.size v (pall m n c rs) ∧ Below w.heap.size w w' := by
  obtain ⟨i0, hi, hz0, hz1, hz2⟩ := info_parts Li.info_int
  go_enter Tryz.func9, Tryz.ntmps9
  go_wp2_with fail
  obtain ⟨W, hW, hsz, hB, bm, bt⟩ := new2 w [.int .i64 m.n, .int .i64 m.c, .int .i64 m.prior, .int .i64 m.base, .slice ak m.ks.length ck, .slice ax m.ts.length ct] [.int .i64 n, .int .i64 c, .slice a rs.length cap] 40 44
  rw [hW]
  have HW2 : Hid (w.heap.size + 2 = W.heap.size) := hsz.symm
  clear hW hsz
  refine (imok _ _ _ _ _ m (h.below hB) hl).mono ?_
  rintro e w1 ⟨rfl, hb⟩
  have bm := bm.below hb
  have bt := bt.below hb
  have hB := hB.trans (hb.mono hB.size)
  have HW1 : Hid (w.heap.size + 2 ≤ w1.heap.size) := by show _ ≤ _; have := hb.size; have := HW2.out; omega
  clear hb HW2
  cases h1 : mok m with
  | false =>
    have HV : Hid (pok m n c rs = false) := by show _ = _; simp [pok, h1]
    have HR : Hid (pall m n c rs = []) := pall_no HV.out
    go_wp2
    refine bodyPost_ret (v := .tuple #[.slice none 0 0, .bool false]) (by simp [results, Tryz.results9, go_sem]) rfl ?_
    exact ⟨_, by rw [HV.out], by rw [HR.out]; exact Li.Own.nil _ _, hB⟩
  | true =>
  have H1 : Hid (mok m = true) := h1
  clear h1
  obtain ⟨_, ⟨y0, y1, y2⟩, _⟩ := wr3 bt
  have hxx := hx.isr.below hB
  go_wp2_with fail
  refine (Tk.itab _ _ _ _ _ rs hxx hr).mono ?_
  rintro e w2 ⟨rfl, hb⟩
  have bm := bm.below hb
  have bt := bt.below hb
  have hB := hB.trans (hb.mono hB.size)
  have HW2 : Hid (w.heap.size + 2 ≤ w2.heap.size) := by show _ ≤ _; have := hb.size; have := HW1.out; omega
  clear hb HW1 y0 y1 y2 hxx
  obtain ⟨_, ⟨x0, x1, x2, x3, x4, x5⟩, _⟩ := wr6 bm
  obtain ⟨_, ⟨y0, y1, y2⟩, _⟩ := wr3 bt
  cases h2 : Tk.tok n c rs with
  | false =>
    have HV : Hid (pok m n c rs = false) := by show _ = _; simp [pok, h2]
    have HR : Hid (pall m n c rs = []) := pall_no HV.out
    go_wp2
    refine bodyPost_ret (v := .tuple #[.slice none 0 0, .bool false]) (by simp [results, Tryz.results9, go_sem]) rfl ?_
    exact ⟨_, by rw [HV.out], by rw [HR.out]; exact Li.Own.nil _ _, hB⟩
  | true =>
  have H2 : Hid (Tk.tok n c rs = true) := h2
  have hrl : rs.length ≤ 40 := (Tk.tok_iff.1 h2).2.1
  clear h2
  have hnq := neqSch n c m.n m.c
  have hgd : ∀ (W : World) (x y : Operand), (eqGuard .neq 36 x y (.agg #[.int .i64 n, .int .i64 c]) (.agg #[.int .i64 m.n, .int .i64 m.c])).run Tryz.prog W = .ok () W := fun W x y => guardSch W x y _ _ _ _
  cases h3 : (decide (n = m.n) && decide (c = m.c)) with
  | false =>
    have HV : Hid (pok m n c rs = false) := by show _ = _; unfold pok; rw [h3]; simp
    have HR : Hid (pall m n c rs = []) := pall_no HV.out
    rw [h3] at hnq
    clear h3
    go_wp2
    refine bodyPost_ret (v := .tuple #[.slice none 0 0, .bool false]) (by simp [results, Tryz.results9, go_sem]) rfl ?_
    exact ⟨_, by rw [HV.out], by rw [HR.out]; exact Li.Own.nil _ _, hB⟩
  | true =>
  have hv : pok m n c rs = true := by unfold pok; rw [H1.out, H2.out, h3]; rfl
  have HV : Hid (pok m n c rs = true) := hv
  have HR : Hid (pall m n c rs = rs.map (pred m)) := pall_yes hv
  rw [h3] at hnq
  clear h3 hv
  go_wp2_with (at_make; refine wpList_make_full _ rfl _ _ 33 rfl w2.heap.size 3 i0 (.int .i64 0) 1 Tryz.underlying33 hi hz0 hz1 _ _ _ _ rs.length rfl rfl (by omega) (by omega) (by rw [hz2]; omega) (by unfold maxLen; omega) (Nat.le_refl _) ?_; intro w3 hown hgrow; have hb1 := below_none hgrow; obtain ⟨_, ⟨u0, u1, u2⟩, _⟩ := wr3 (bt.below hb1))
  have ol := Li.own_made hown
  have bm := bm.below hb1
  have hB := hB.trans (hb1.mono hB.size)
  obtain ⟨G, hG⟩ : ∃ G, w2.heap.size = G := ⟨_, rfl⟩
  rw [hG] at ol HW2 ⊢
  have HOL : Hid (type_of% ol) := ol
  clear hown hgrow hb1 hG x0 x1 x2 x3 x4 x5 y0 y1 y2 u0 u1 u2 bt hnq hgd ol
  obtain ⟨zs, hzs⟩ : ∃ zs, rs.map (pred m) = zs := ⟨_, rfl⟩
  have HZL : Hid (zs.length = rs.length) := by rw [← hzs]; show _ = _; simp
  have HZ : Hid (∀ j (hj : j < rs.length) (hj' : j < zs.length), zs[j] = sm m.ts (pad (fl m rs[j])) m.base) := fun j hj hj' => by
    subst hzs
    simp only [List.getElem_map]
    exact pred_yes (pok_fits HV.out j hj)
  rw [hzs] at HR
  clear hzs
  go_wp2
  go_loopw [31] (fun i wr => ∃ k : Nat, k ≤ rs.length ∧ i = .int .i64 k ∧ ∃ l : List Int, l.length = rs.length ∧ Li.Like l zs k ∧ Li.Own wr G (.slice (some ⟨G, 0, none⟩) rs.length rs.length) l ∧ Wr wr w.heap.size 0 [.int .i64 m.n, .int .i64 m.c, .int .i64 m.prior, .int .i64 m.base, .slice ak m.ks.length ck, .slice ax m.ts.length ct] ∧ Below w.heap.size w wr) (fun i _ => rs.length - (intOf i).toNat)
  case atStart => exact ⟨0, Nat.zero_le _, rfl, _, by simp, fun j hj => by omega, HOL.out, bm, hB⟩
  case round =>
    clear HOL hB bm
    obtain ⟨k, hk, rfl, l, hll, hlike, ol, bm, hB⟩ := hrel
    by_cases hlt : k < rs.length
    · rcases hx.below hB with e0 | ⟨b, off, rfl, hb, hc⟩
      · rw [e0] at hlt; simp at hlt
      obtain ⟨v0, v1, v2, ⟨d0, d1, d2⟩, hrow⟩ := hc k hlt
      have hfit := pok_fits HV.out k hlt
      have HF : Hid (Fit m rs[k]) := fits_fit hfit
      have HPL : Hid ((pad (fl m rs[k])).length = 6) := pad_length (fits_fit hfit).le
      have hrz : rs[k].sz ≤ 1048576 := by have := Tb.szR_at rs k hlt; omega
      have hkz : k < zs.length := by rw [HZL.out]; exact hlt
      have hnx : Li.Like (l.set k zs[k]) zs (k + 1) := Li.like_set hlike hkz (by rw [HZL.out]; exact hll)
      rw [HZ.out k hlt hkz] at hnx
      obtain ⟨r, hr'⟩ : ∃ r, rs[k] = r := ⟨_, rfl⟩
      rw [hr'] at hrow hrz
      simp only [hr'] at HF HPL hnx
      obtain ⟨a0, c0, a1, c1, rfl, rfl, rfl, j0, j1, hcap⟩ := hrow
      have HNX : Hid (type_of% hnx) := hnx
      have HLL : Hid (l.length = rs.length) := hll
      obtain ⟨W4, hW4, hsz4, hb4, bs⟩ := new1 wr [.slice a0 r.nums.length c0, .slice a1 r.cats.length c1, .int .i64 r.label] 62
      have HW4 : Hid (type_of% hW4) := hW4
      have HRC : Hid (RowC W4 (.slice a0 r.nums.length c0) (.slice a1 r.cats.length c1) (.int .i64 r.label) r) := (show RowC wr _ _ _ r from ⟨a0, c0, a1, c1, rfl, rfl, rfl, j0, j1, hcap⟩).below hb4
      have HM : Hid (Rm W4 ak ax m) := (h.below hB).below hb4
      have HBM : Hid (Wr W4 w.heap.size 0 [.int .i64 m.n, .int .i64 m.c, .int .i64 m.prior, .int .i64 m.base, .slice ak m.ks.length ck, .slice ax m.ts.length ct]) := bm.below hb4
      have HBS : Hid (Wr W4 wr.heap.size 0 [.slice a0 r.nums.length c0, .slice a1 r.cats.length c1, .int .i64 r.label]) := bs
      have HOL : Hid (Li.Own W4 G (.slice (some ⟨G, 0, none⟩) rs.length rs.length) l) := ol.below hb4
      have HB : Hid (Below w.heap.size w W4) := hB.trans (hb4.mono hB.size)
      have HBD : Hid (Below W4.heap.size W4 W4.drew) := (Below.refl W4.heap.size W4).drew
      have HGR : Hid (G < wr.heap.size) := (ol.ge G rfl).2
      obtain ⟨bl, ⟨x0, x1, x2, x3, x4, x5⟩, _⟩ := wr6 HBM.out
      obtain ⟨_, ⟨y0, y1, y2⟩, _⟩ := wr3 HBS.out
      have hne0 : ¬ w.heap.size = G := by have := HW2.out; omega
      have hne0' : ¬ G = w.heap.size := by omega
      have hne1 : ¬ wr.heap.size = G := by have := HGR.out; omega
      have hne1' : ¬ G = wr.heap.size := by omega
      have hGl := (HOL.out.ge G rfl).2
      have hkr : (k : Int) < rs.length := by omega
      clear hc hr' hnx hll hlike ol bm hB hW4 hsz4 hb4 bs hfit j0 j1
      go_wp2_with fail
      rw [HW4.out]
      clear d0 d1 d2 HW4
      obtain ⟨Bx, hBx⟩ : ∃ Bx, wr.heap.size = Bx := ⟨_, rfl⟩
      rw [hBx] at y0 y1 y2 hne1 hne1' HBS ⊢
      clear hBx
      go_region_held3 (fun w' => (w'.cell? ⟨w.heap.size, 0, none⟩ = some (.int .i64 m.n) ∧ w'.cell? ⟨w.heap.size, 1, none⟩ = some (.int .i64 m.c) ∧ w'.cell? ⟨w.heap.size, 2, none⟩ = some (.int .i64 m.prior) ∧ w'.cell? ⟨w.heap.size, 3, none⟩ = some (.int .i64 m.base) ∧ w'.cell? ⟨w.heap.size, 4, none⟩ = some (.slice ak m.ks.length ck) ∧ w'.cell? ⟨w.heap.size, 5, none⟩ = some (.slice ax m.ts.length ct)) ∧ w'.cell? ⟨Bx, 0, none⟩ = some (.slice a0 r.nums.length c0) ∧ w'.cell? ⟨Bx, 1, none⟩ = some (.slice a1 r.cats.length c1) ∧ w'.cell? ⟨Bx, 2, none⟩ = some (.int .i64 r.label)) (go_keep) (first
        | (go_at_call 30
           refine (ifeat W4.drew _ _ _ _ m (HM.out.below HBD.out) _ _ _ r (HRC.out.below HBD.out) hrz HF.out).mono ?_
           rintro e w5 ⟨v, rfl, ov, hb⟩
           have HY : Hid (Below W4.heap.size W4 w5) := HBD.out.trans hb
           obtain ⟨av, cv, ev, iv'⟩ := ov.isl
           subst ev
           have HIV : Hid (Li.IsL w5 av (pad (fl m r))) := iv'
           obtain ⟨_, ⟨z0, z1, z2, z3, z4, z5⟩, _⟩ := wr6 (HBM.out.below HY.out)
           obtain ⟨_, ⟨u0, u1, u2⟩, _⟩ := wr3 (HBS.out.below HY.out)
           clear hb ov iv')
        | (go_at_call 29
           refine (Sw.isum _ _ _ _ _ m.ts (pad (fl m r)) m.base (HM.out.t.below HY.out) HIV.out (sz_ts hl) (by have := HPL.out; omega)).mono ?_
           rintro e w6 ⟨rfl, hb⟩
           have HY2 : Hid (Below W4.heap.size W4 w6) := HY.out.trans (hb.mono HY.out.size)
           obtain ⟨_, ⟨s0, s1, s2, s3, s4, s5⟩, _⟩ := wr6 (HBM.out.below HY2.out)
           obtain ⟨_, ⟨q0, q1, q2⟩, _⟩ := wr3 (HBS.out.below HY2.out)
           have HO6 : Hid (type_of% (HOL.out.below HY2.out)) := HOL.out.below HY2.out
           have hc6 := HO6.out.cell HLL.out k (by have := HLL.out; omega)
           obtain ⟨cv6, hcv6⟩ : ∃ cv, w6.cell? ⟨G, k, none⟩ = some cv := ⟨_, hc6⟩
           have hf6 := HO6.out.frozen HLL.out k
           clear hb hc6))
      obtain ⟨x, hx'⟩ : ∃ x, sm m.ts (pad (fl m r)) m.base = x := ⟨_, rfl⟩
      rw [hx'] at HNX ⊢
      have HO : Hid (Li.Own (w6.setCell ⟨G, k, none⟩ (.int .i64 x)) G (.slice (some ⟨G, 0, none⟩) rs.length rs.length) (l.set k x)) := HO6.out.set HLL.out k x
      have HM2 : Hid (Wr (w6.setCell ⟨G, k, none⟩ (.int .i64 x)) w.heap.size 0 [.int .i64 m.n, .int .i64 m.c, .int .i64 m.prior, .int .i64 m.base, .slice ak m.ks.length ck, .slice ax m.ts.length ct]) := (HBM.out.below HY2.out).setOther hne0
      have HB2 : Hid (Below w.heap.size w (w6.setCell ⟨G, k, none⟩ (.int .i64 x))) := (HB.out.trans (HY2.out.mono HB.out.size)).setCell (p := ⟨G, k, none⟩) (by show w.heap.size ≤ G; have := HW2.out; omega) _
      clear x0 x1 x2 x3 x4 x5 y0 y1 y2 z0 z1 z2 z3 z4 z5 u0 u1 u2 s0 s1 s2 s3 s4 s5 q0 q1 q2 hcv6 hf6 hx'
      go_wp2
      go_roundw
      case rel => exact ⟨k + 1, by omega, by go_num, _, by simpa using HLL.out, HNX.out, HO.out, HM2.out, HB2.out⟩
      case measure => simp [intOf]; omega
    · obtain rfl : k = rs.length := by omega
      obtain rfl := Li.like_all (xs := zs) (by rw [HZL.out]; exact hlike) (by rw [HZL.out]; exact hll)
      have HA : Hid (Li.Own wr w.heap.size (.slice (some ⟨G, 0, none⟩) rs.length rs.length) (pall m n c rs)) := by rw [HR.out]; exact ol.mono (by have := HW2.out; omega)
      clear ol hlike hll
      go_wp2
      refine bodyPost_ret (v := .tuple #[.slice (some ⟨G, 0, none⟩) rs.length rs.length, .bool true]) (by simp [results, Tryz.results9, go_sem]) rfl ?_
      exact ⟨_, by rw [HV.out], HA.out, hB⟩
set_option maxHeartbeats 8000000 in
theorem spall (w : World) (ak ax : Option Addr) (ck ct : Nat) (m : M) (h : Rm w ak ax m) (hl : m.sz ≤ 1048576) (n c : Int) (a : Option Addr) (cap : Nat) (rs : List Row) (hx : IsR w a rs) (hr : rs.length + szR rs ≤ 1048576) :
    Calls Tryz.prog 6 #[.agg #[.int .i64 m.n, .int .i64 m.c, .int .i64 m.prior, .int .i64 m.base, .slice ak m.ks.length ck, .slice ax m.ts.length ct], .agg #[.int .i64 n, .int .i64 c, .slice a rs.length cap]] w fun e w' => ∃ v, e = .returned (.tuple #[v, .bool (pok m n c rs)]) ∧ Li.Own w' w.heap.size v (pall m n c rs) ∧ Below w.heap.size w w' := by
  obtain ⟨i0, hi, hz0, hz1, hz2⟩ := info_parts Li.info_int
  go_enter Tryz.func6, Tryz.ntmps6
  go_wp2_with fail
  obtain ⟨W0, hW0, hsz0, hB0, bm0, bt0⟩ := new2 w [.int .i64 m.n, .int .i64 m.c, .int .i64 m.prior, .int .i64 m.base, .slice ak m.ks.length ck, .slice ax m.ts.length ct] [.int .i64 n, .int .i64 c, .slice a rs.length cap] 40 44
  rw [hW0]
  obtain ⟨W, hW⟩ : ∃ W, W0.alloc (.cells #[] 3) = W := ⟨_, rfl⟩
  have hb0 : Below W0.heap.size W0 W := by rw [← hW]; exact (Below.refl _ _).alloc (Nat.le_refl _) _
  have hE0 : W0.heap.size = w.heap.size + 1 + 1 := by omega
  have oe : Li.Own W w.heap.size (.slice (some ⟨w.heap.size + 1 + 1, 0, none⟩) 0 0) [] := by rw [← hW, ← hE0]; exact Ai.own_empty W0 _ hB0.size
  have oe2 : Li.Own W (w.heap.size + 1 + 1) (.slice (some ⟨w.heap.size + 1 + 1, 0, none⟩) 0 0) [] := by rw [← hW, ← hE0]; exact Ai.own_empty W0 _ (Nat.le_refl _)
  rw [hW]
  have bm := bm0.below hb0
  have bt := bt0.below hb0
  have hB := hB0.trans (hb0.mono hB0.size)
  obtain ⟨E, hE⟩ : ∃ E, w.heap.size + 1 + 1 = E := ⟨_, rfl⟩
  have HW2 : Hid (w.heap.size + 2 ≤ E) := by show _ ≤ _; omega
  rw [hE] at oe oe2 ⊢
  clear hE0
  clear hW0 hsz0 hB0 bm0 bt0 hb0 hW hE
  refine (smok _ _ _ _ _ m (h.below hB) hl).mono ?_
  rintro e w1 ⟨rfl, hb⟩
  have bm := bm.below hb
  have bt := bt.below hb
  have oe := oe.below hb
  have oe2 := oe2.below hb
  have hB := hB.trans (hb.mono hB.size)
  clear hb
  have HOE : Hid (type_of% oe) := oe
  have HO2 : Hid (type_of% oe2) := oe2
  clear oe oe2
  cases h1 : mok m with
  | false =>
    have HV : Hid (pok m n c rs = false) := by show _ = _; simp [pok, h1]
    have HR : Hid (pall m n c rs = []) := pall_no HV.out
    go_wp2
    refine bodyPost_ret (v := .tuple #[.slice (some ⟨E, 0, none⟩) 0 0, .bool false]) (by simp [results, Tryz.results6, go_sem]) rfl ?_
    exact ⟨_, by rw [HV.out], by rw [HR.out]; exact HOE.out, hB⟩
  | true =>
  have H1 : Hid (mok m = true) := h1
  clear h1
  obtain ⟨_, ⟨y0, y1, y2⟩, _⟩ := wr3 bt
  have hxx := hx.below hB
  go_wp2_with fail
  refine (Tk.stab _ _ _ _ _ rs hxx hr).mono ?_
  rintro e w2 ⟨rfl, hb⟩
  have bm := bm.below hb
  have bt := bt.below hb
  have HO2 : Hid (type_of% (HO2.out.below hb)) := HO2.out.below hb
  have HOE : Hid (type_of% (HOE.out.below hb)) := HOE.out.below hb
  have hB := hB.trans (hb.mono hB.size)
  clear hb y0 y1 y2 hxx
  obtain ⟨_, ⟨x0, x1, x2, x3, x4, x5⟩, _⟩ := wr6 bm
  obtain ⟨_, ⟨y0, y1, y2⟩, _⟩ := wr3 bt
  cases h2 : Tk.tok n c rs with
  | false =>
    have HV : Hid (pok m n c rs = false) := by show _ = _; simp [pok, h2]
    have HR : Hid (pall m n c rs = []) := pall_no HV.out
    go_wp2
    refine bodyPost_ret (v := .tuple #[.slice (some ⟨E, 0, none⟩) 0 0, .bool false]) (by simp [results, Tryz.results6, go_sem]) rfl ?_
    exact ⟨_, by rw [HV.out], by rw [HR.out]; exact HOE.out, hB⟩
  | true =>
  have H2 : Hid (Tk.tok n c rs = true) := h2
  have hrl : rs.length ≤ 40 := (Tk.tok_iff.1 h2).2.1
  clear h2
  have hnq := neqSch n c m.n m.c
  have hgd : ∀ (W : World) (x y : Operand), (eqGuard .neq 36 x y (.agg #[.int .i64 n, .int .i64 c]) (.agg #[.int .i64 m.n, .int .i64 m.c])).run Tryz.prog W = .ok () W := fun W x y => guardSch W x y _ _ _ _
  cases h3 : (decide (n = m.n) && decide (c = m.c)) with
  | false =>
    have HV : Hid (pok m n c rs = false) := by show _ = _; unfold pok; rw [h3]; simp
    have HR : Hid (pall m n c rs = []) := pall_no HV.out
    rw [h3] at hnq
    clear h3
    go_wp2
    refine bodyPost_ret (v := .tuple #[.slice (some ⟨E, 0, none⟩) 0 0, .bool false]) (by simp [results, Tryz.results6, go_sem]) rfl ?_
    exact ⟨_, by rw [HV.out], by rw [HR.out]; exact HOE.out, hB⟩
  | true =>
  have hv : pok m n c rs = true := by unfold pok; rw [H1.out, H2.out, h3]; rfl
  have HV : Hid (pok m n c rs = true) := hv
  have HR : Hid (pall m n c rs = rs.map (pred m)) := pall_yes hv
  rw [h3] at hnq
  clear h3 hv HOE
  go_wp2
  go_loopw [6, 7] (fun v i wr => ∃ k : Nat, k ≤ rs.length ∧ i = .int .i64 k ∧ Li.Own wr E v ((rs.map (pred m)).take k) ∧ Wr wr w.heap.size 0 [.int .i64 m.n, .int .i64 m.c, .int .i64 m.prior, .int .i64 m.base, .slice ak m.ks.length ck, .slice ax m.ts.length ct] ∧ Wr wr (w.heap.size + 1) 0 [.int .i64 n, .int .i64 c, .slice a rs.length cap] ∧ E ≤ wr.heap.size ∧ Below w.heap.size w wr) (fun _ i _ => rs.length - (intOf i).toNat)
  case atStart => exact ⟨0, Nat.zero_le _, rfl, HO2.out, bm, bt, Nat.le_of_lt (HO2.out.ge E rfl).2, hB⟩
  case round =>
    clear HO2 hB bm bt x0 x1 x2 x3 x4 x5 y0 y1 y2 hnq hgd
    obtain ⟨k, hk, rfl, ol, bm, bt, her, hB⟩ := hrel
    have HER : Hid (E ≤ wr.heap.size) := her
    clear her
    obtain ⟨bl, ⟨x0, x1, x2, x3, x4, x5⟩, _⟩ := wr6 bm
    obtain ⟨bl2, ⟨y0, y1, y2⟩, _⟩ := wr3 bt
    by_cases hlt : k < rs.length
    · rcases hx.below hB with e0 | ⟨b, off, rfl, hb, hc⟩
      · rw [e0] at hlt; simp at hlt
      have hb_ := hb
      obtain ⟨v0, v1, v2, ⟨d0, d1, d2⟩, hrow⟩ := hc k hlt
      have hrz : rs[k].sz ≤ 1048576 := by have := Tb.szR_at rs k hlt; omega
      have HSN : Hid ((rs.map (pred m)).take (k + 1) = (rs.map (pred m)).take k ++ [pred m rs[k]]) := by
        show _ = _
        rw [List.take_succ_eq_append_getElem (by simpa using hlt)]; simp
      have hcl : ((rs.map (pred m)).take k).length = k := by simp; omega
      obtain ⟨cur, hcur⟩ : ∃ cur, (rs.map (pred m)).take k = cur := ⟨_, rfl⟩
      rw [hcur] at ol HSN hcl
      obtain ⟨r, hr'⟩ : ∃ r, rs[k] = r := ⟨_, rfl⟩
      rw [hr'] at hrow hrz HSN
      have HROW : Hid (RowIs wr v0 v1 v2 r) := hrow
      obtain ⟨a0, c0, a1, c1, rfl, rfl, rfl, _, _⟩ := hrow
      have HM : Hid (Rm wr ak ax m) := h.below hB
      have HBM : Hid (type_of% bm) := bm
      have HBT : Hid (type_of% bt) := bt
      have HOL : Hid (type_of% ol) := ol
      have HB : Hid (type_of% hB) := hB
      have HBD : Hid (Below wr.heap.size wr wr.drew) := (Below.refl wr.heap.size wr).drew
      have HCL : Hid (cur.length = k) := hcl
      have hkr : (k : Int) < rs.length := by omega
      clear hc hcur hr' ol bm bt hB hcl
      go_wp2_with fail
      go_region_held3 (fun w' => (w'.cell? ⟨w.heap.size, 0, none⟩ = some (.int .i64 m.n) ∧ w'.cell? ⟨w.heap.size, 1, none⟩ = some (.int .i64 m.c) ∧ w'.cell? ⟨w.heap.size, 2, none⟩ = some (.int .i64 m.prior) ∧ w'.cell? ⟨w.heap.size, 3, none⟩ = some (.int .i64 m.base) ∧ w'.cell? ⟨w.heap.size, 4, none⟩ = some (.slice ak m.ks.length ck) ∧ w'.cell? ⟨w.heap.size, 5, none⟩ = some (.slice ax m.ts.length ct)) ∧ w'.cell? ⟨w.heap.size + 1, 2, none⟩ = some (.slice (some ⟨b, off, none⟩) rs.length cap) ∧ w'.cell? ⟨b, off + k * 3, none⟩ = some (.slice a0 r.nums.length c0) ∧ w'.cell? ⟨b, off + k * 3 + 1, none⟩ = some (.slice a1 r.cats.length c1) ∧ w'.cell? ⟨b, off + k * 3 + 2, none⟩ = some (.int .i64 r.label)) (go_keep) (first
        | (go_at_call 22
           refine (spred wr.drew _ _ _ _ m (HM.out.below HBD.out) hl _ _ _ r (HROW.out.below HBD.out) hrz).mono ?_
           rintro e w5 ⟨rfl, hb⟩
           have HY : Hid (Below wr.heap.size wr w5) := HBD.out.trans hb
           obtain ⟨_, ⟨z0, z1, z2, z3, z4, z5⟩, _⟩ := wr6 (HBM.out.below HY.out)
           obtain ⟨_, ⟨u0, u1, u2⟩, _⟩ := wr3 (HBT.out.below HY.out)
           have s0 := (HY.out.cell (p := ⟨b, off + k * 3, none⟩) hb_).trans d0
           have s1 := (HY.out.cell (p := ⟨b, off + k * 3 + 1, none⟩) hb_).trans d1
           have s2 := (HY.out.cell (p := ⟨b, off + k * 3 + 2, none⟩) hb_).trans d2
           clear hb))
      obtain ⟨x, hx'⟩ : ∃ x, pred m r = x := ⟨_, rfl⟩
      rw [hx'] at HSN ⊢
      obtain ⟨fv, hfv⟩ : ∃ fv, fits m r = fv := ⟨_, rfl⟩
      rw [hfv]
      have ho5 : w5.ownsRow E 3 1 u6 cur.length (Li.iv cur) := HOL.out.below HY.out
      have HGE : Hid (∀ q, u6.ownBlock = some q → E ≤ q) := fun q e => (HOL.out.ge q e).1
      have HE5 : Hid (E ≤ w5.heap.size ∧ wr.heap.size ≤ w5.heap.size) := ⟨by have := HY.out.size; have := HER.out; omega, HY.out.size⟩
      clear hx' hfv x0 x1 x2 x3 x4 x5 y0 y1 y2 z0 z1 z2 z3 z4 z5 u0 u1 u2 s0 s1 s2 d0 d1 d2
      go_wp2_with (at_builtin; refine wpList_append_own_at _ rfl _ _ 33 rfl E 3 i0 (.int .i64 0) 1 8 Tryz.underlying33 hi hz0 hz1 hz2 rfl (by decide) _ _ _ rfl (World.ownsRow.alloc ho5 _) ⟨w5.heap.size, 0, none⟩ 1 1 [.int .i64 x] rfl rfl (Ai.one_cell _ _ _) (Ai.one_one _) (by have := HCL.out; unfold maxLen; omega) (by have := HCL.out; omega) (by have := HE5.out.1; simp; omega) ?_; intro v3 w6 hown3 hgrow3 hnn3 hloc3)
      have HO6 : Hid (Li.Own w6 E v3 ((rs.map (pred m)).take (k + 1))) := by rw [HSN.out]; exact Ai.own_snoc rfl hown3
      have HG6 : Hid (Sv.Fr (fun q => u6.ownBlock = some q) w5 w6) := (Sv.fr_below ((Below.refl w5.heap.size w5).alloc (Nat.le_refl _) (.cells #[.int .i64 x] 3))).trans (fr_own hgrow3 (fun q e => e))
      have HM6 : Hid (type_of% ((HBM.out.below HY.out).keptAt HG6.out.size (HG6.out.block _ (HBM.out.below HY.out).1 (fun e => by have := HGE.out _ e; have := HW2.out; omega)))) := (HBM.out.below HY.out).keptAt HG6.out.size (HG6.out.block _ (HBM.out.below HY.out).1 (fun e => by have := HGE.out _ e; have := HW2.out; omega))
      have HT6 : Hid (type_of% ((HBT.out.below HY.out).keptAt HG6.out.size (HG6.out.block _ (HBT.out.below HY.out).1 (fun e => by have := HGE.out _ e; have := HW2.out; omega)))) := (HBT.out.below HY.out).keptAt HG6.out.size (HG6.out.block _ (HBT.out.below HY.out).1 (fun e => by have := HGE.out _ e; have := HW2.out; omega))
      have HB6 : Hid (Below w.heap.size w w6) := (HB.out.trans (HY.out.mono HB.out.size)).trans (HG6.out.bel (fun q e => by have := HGE.out _ e; have := HW2.out; omega) (by have := HB.out.size; have := HE5.out.2; omega))
      clear hown3 hgrow3 hnn3 hloc3 ho5
      go_wp2
      go_roundw
      case rel => exact ⟨k + 1, by omega, by go_num, HO6.out, HM6.out, HT6.out, by have := HG6.out.size; have := HE5.out.1; omega, HB6.out⟩
      case measure => simp [intOf]; omega
    · obtain rfl : k = rs.length := by omega
      have HA : Hid (Li.Own wr w.heap.size u6 (pall m n c rs)) := by
        rw [HR.out]
        have := ol.mono (base' := w.heap.size) (by have := HW2.out; omega)
        rw [List.take_of_length_le (by simp)] at this
        exact this
      obtain ⟨av, cv, ev, _⟩ := ol.isl
      clear ol
      go_wp2
      refine bodyPost_ret (v := .tuple #[u6, .bool true]) (by simp [results, Tryz.results6, go_sem]) rfl ?_
      exact ⟨_, by rw [HV.out], HA.out, hB⟩
end Go.Proofs.YtkiddmbenepfjaaGreat.Md
