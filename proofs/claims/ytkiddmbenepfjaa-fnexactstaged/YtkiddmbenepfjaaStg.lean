/-
  What is told stage by stage; Staged of the model.
-/
import Derived.Test.YtkiddmbenepfjaaFep
namespace Go.Proofs.Ytkiddmbenepfjaa.Md
set_option maxRecDepth 100000
open Go.RowKit
open Go.Proofs.Ytkiddmbenepfjaa.Li (ret_bool ret_int btw below_none iv)
open Go.Proofs.Ytkiddmbenepfjaa.Tb (lets Row RowIs)
open Go.Proofs.Ytkiddmbenepfjaa.Tm (IsT szT)
open Go.Proofs.Ytkiddmbenepfjaa.Kt (Kv IsK ksz)
open Go.Proofs.Ytkiddmbenepfjaa.To (OwT)
open Go.Proofs.Ytkiddmbenepfjaa.Sv (new1 new2 Wr wr2)
open Go.Proofs.Ytkiddmbenepfjaa.Sw (sm)
set_option linter.unusedVariables false
def stgN (ts : List Tr.T) (f : List Int) (base : Int) (q : Nat) : List Int := (List.range q).map fun k => sm (ts.take k) f base
def stg (m : M) (r : Row) : List Int := if fits m r = true then stgN m.ts (pad (fl m r)) m.base (m.ts.length + 1) else []
theorem stgN_length (ts : List Tr.T) (f : List Int) (base : Int) (q : Nat) : (stgN ts f base q).length = q := by simp [stgN]
theorem stgN_snoc (ts : List Tr.T) (f : List Int) (base : Int) (q : Nat) : stgN ts f base (q + 1) = stgN ts f base q ++ [sm (ts.take q) f base] := by simp [stgN, List.range_succ]
theorem stg_no {m : M} {r : Row} (h : fits m r = false) : stg m r = [] := by unfold stg; rw [if_neg (by rw [h]; simp)]
theorem stg_yes {m : M} {r : Row} (h : fits m r = true) : stg m r = stgN m.ts (pad (fl m r)) m.base (m.ts.length + 1) := by unfold stg; rw [if_pos h]
theorem stg_len (m : M) (r : Row) (hl : m.sz ≤ 1048576) : (stg m r).length ≤ 1048576 := by
  by_cases h : fits m r = true
  · rw [stg_yes h, stgN_length]
    have := (mok_parts (fits_fit h).ok).2.2.2.1
    omega
  · rw [stg_no (by simpa using h)]; simp
/-- A model that was read, its list of trees within its cap. -/
structure Rmc (w : World) (ak ax : Option Addr) (ct : Nat) (m : M) : Prop where
  rm : Rm w ak ax m
  cap : m.ts.length ≤ ct
theorem Rmc.below {w w1 : World} {ak ax : Option Addr} {ct : Nat} {m : M} (h : Rmc w ak ax ct m) (hb : Below w.heap.size w w1) : Rmc w1 ak ax ct m := ⟨h.rm.below hb, h.cap⟩
theorem OwM.rmc {w : World} {B : Nat → Prop} {vk vt : Value} {m : M} (h : OwM w B vk vt m) : ∃ ak ck ax ct, vk = .slice ak m.ks.length ck ∧ vt = .slice ax m.ts.length ct ∧ Rmc w ak ax ct m := by
  obtain ⟨ak, ck, ax, ct, e0, e1, rm⟩ := h.rm
  refine ⟨ak, ck, ax, ct, e0, e1, rm, ?_⟩
  obtain ⟨P, _, h1⟩ := h
  obtain ⟨vs, ho, _⟩ := h1
  subst e1
  rcases ho.2 with ⟨e, h0⟩ | ⟨g, cap, cur, e, _, _, hc, _⟩
  · omega
  · injection e with _ _ e; omega
theorem ist_take {w : World} {a : Option Addr} {ts : List Tr.T} (h : IsT w a ts) (q : Nat) : IsT w a (ts.take q) := by
  rcases h with rfl | ⟨b, off, rfl, hb, hc⟩
  · exact .inl (by simp)
  · refine .inr ⟨b, off, rfl, hb, fun j hj => ?_⟩
    have hj' : j < ts.length := by simp at hj; omega
    obtain ⟨v0, v1, hx, hr⟩ := hc j hj'
    refine ⟨v0, v1, hx, ?_⟩
    simpa using hr
theorem szT_pre (ts : List Tr.T) (q : Nat) : (ts.take q).length + szT (ts.take q) ≤ ts.length + szT ts := by
  have h1 := Tm.szT_le ts q
  have h2 : (ts.take q).length ≤ ts.length := by simp; omega
  omega
set_option maxHeartbeats 8000000 in
theorem sstg (w : World) (ak ax : Option Addr) (ck ct : Nat) (m : M) (h0 : Rmc w ak ax ct m) (hl : m.sz ≤ 1048576) (v0 v1 v2 : Value) (r : Row) (hr : RowIs w v0 v1 v2 r) (hz : r.sz ≤ 1048576) :
    Calls Try.prog 25 #[.agg #[.int .i64 m.n, .int .i64 m.c, .int .i64 m.prior, .int .i64 m.base, .slice ak m.ks.length ck, .slice ax m.ts.length ct], .agg #[v0, v1, v2]] w fun e w' => ∃ v, e = .returned (.tuple #[v, .bool (fits m r)]) ∧ Li.Own w' w.heap.size v (stg m r) ∧ Below w.heap.size w w' := by
  obtain ⟨i0, hi, hz0, hz1, hz2⟩ := info_parts Li.info_int
  obtain ⟨h, hcap⟩ := h0
  have hr' := hr
  obtain ⟨a0, c0, a1, c1, rfl, rfl, rfl, _⟩ := hr'
  have hfl := feats_len m r
  go_enter Try.func25, Try.ntmps25
  go_wp2_with fail
  obtain ⟨W0, hW0, hsz0, hB0, bm0, bs0⟩ := new2 w [.int .i64 m.n, .int .i64 m.c, .int .i64 m.prior, .int .i64 m.base, .slice ak m.ks.length ck, .slice ax m.ts.length ct] [.slice a0 r.nums.length c0, .slice a1 r.cats.length c1, .int .i64 r.label] 34 45
  rw [hW0]
  obtain ⟨W, hW⟩ : ∃ W, W0.alloc (.cells #[] 3) = W := ⟨_, rfl⟩
  have hb0 : Below W0.heap.size W0 W := by rw [← hW]; exact (Below.refl _ _).alloc (Nat.le_refl _) _
  have hE0 : W0.heap.size = w.heap.size + 1 + 1 := by omega
  have oe2 : Li.Own W (w.heap.size + 1 + 1) (.slice (some ⟨w.heap.size + 1 + 1, 0, none⟩) 0 0) [] := by rw [← hW, ← hE0]; exact Ai.own_empty W0 _ (Nat.le_refl _)
  rw [hW]
  have bm := bm0.below hb0
  have hB := hB0.trans (hb0.mono hB0.size)
  obtain ⟨E, hE⟩ : ∃ E, w.heap.size + 1 + 1 = E := ⟨_, rfl⟩
  have HW2 : Hid (w.heap.size + 2 ≤ E) := by show _ ≤ _; omega
  rw [hE] at oe2 ⊢
  have HEW0 : Hid (E < W.heap.size) := (oe2.ge E rfl).2
  clear hE0 hW0 hsz0 hB0 bm0 bs0 hb0 hW hE
  refine (sfs _ _ _ _ _ m (h.below hB) hl _ _ _ r (hr.below hB) hz).mono ?_
  rintro e w1 ⟨vf, rfl, of, hb⟩
  have bm := bm.below hb
  have oe2 := oe2.below hb
  have hB := hB.trans (hb.mono hB.size)
  obtain ⟨af, cf, ef, ifv⟩ := of.isl
  subst ef
  have HEW : Hid (E < W.heap.size) := by show _ < _; have := oe2; exact HEW0.out
  have HOF : Hid (Li.Own w1 W.heap.size (.slice af (feats m r).length cf) (feats m r)) := of
  have HOE : Hid (type_of% oe2) := oe2
  have HS1 : Hid (W.heap.size ≤ w1.heap.size) := hb.size
  clear hb of ifv oe2 HEW0
  obtain ⟨L, hL⟩ : ∃ L, (feats m r).length = L := ⟨_, rfl⟩
  have HL : Hid ((feats m r).length = L) := hL
  rw [hL] at HOF ⊢
  have hL6 : L ≤ 6 := by omega
  clear hL hfl
  cases h1 : fits m r with
  | false =>
    have HR : Hid (stg m r = []) := stg_no h1
    have HV : Hid (fits m r = false) := h1
    have HOE2 : Hid (Li.Own w1 w.heap.size (.slice (some ⟨E, 0, none⟩) 0 0) []) := HOE.out.mono (by have := HW2.out; omega)
    have hmt : (m.ts.length : Int) ≤ 1048576 := by unfold M.sz at hl; omega
    obtain ⟨_, ⟨x0, x1, x2, x3, x4, x5⟩, _⟩ := wr6 bm
    have h0t : (0 : Int) ≤ (m.ts.length : Int) := by omega
    clear h1 HOE HOF
    go_wp2
    go_loopw [6, 9] (fun v i wr => v = .slice (some ⟨E, 0, none⟩) 0 0 ∧ i = .int .i64 0 ∧ wr = w1) (fun _ _ _ => 0)
    case atStart => exact ⟨rfl, rfl, rfl⟩
    case round =>
      obtain ⟨rfl, rfl, hwr⟩ := hrel
      subst hwr
      go_wp2
      refine bodyPost_ret (v := .tuple #[.slice (some ⟨E, 0, none⟩) 0 0, .bool false]) (by simp [results, Try.results25, go_sem]) rfl ?_
      exact ⟨_, by rw [HV.out], by rw [HR.out]; exact HOE2.out, hB⟩
  | true =>
  have HR : Hid (stg m r = stgN m.ts (feats m r) m.base (m.ts.length + 1)) := by show _ = _; rw [stg_yes h1, feats_yes h1]
  have HV : Hid (fits m r = true) := h1
  have ht12 : m.ts.length ≤ 12 := (mok_parts (fits_fit h1).ok).2.2.2.1
  clear h1
  go_wp2
  go_loopw [6, 9] (fun v i wr => ∃ k : Nat, k ≤ m.ts.length + 1 ∧ i = .int .i64 k ∧ Li.Own wr E v (stgN m.ts (feats m r) m.base k) ∧ (∀ q, v.ownBlock = some q → q = E ∨ w1.heap.size ≤ q) ∧ Li.Own wr W.heap.size (.slice af L cf) (feats m r) ∧ Wr wr w.heap.size 0 [.int .i64 m.n, .int .i64 m.c, .int .i64 m.prior, .int .i64 m.base, .slice ak m.ks.length ck, .slice ax m.ts.length ct] ∧ w1.heap.size ≤ wr.heap.size ∧ Below w.heap.size w wr) (fun _ i _ => m.ts.length + 1 - (intOf i).toNat)
  case atStart => exact ⟨0, Nat.zero_le _, rfl, HOE.out, fun q e => by simp [Value.ownBlock] at e; omega, HOF.out, bm, Nat.le_refl _, hB⟩
  case round =>
    have HFW : Hid (∀ q, (Value.slice af L cf).ownBlock = some q → W.heap.size ≤ q ∧ q < w1.heap.size) := fun q e => HOF.out.ge q e
    clear HOE HOF bm hB
    obtain ⟨k, hk, rfl, ol, hob, of, bm, hs, hB⟩ := hrel
    obtain ⟨_, ⟨x0, x1, x2, x3, x4, x5⟩, _⟩ := wr6 bm
    by_cases hlt : k ≤ m.ts.length
    · have hkl : (k : Int) ≤ (m.ts.length : Int) := by omega
      have hkc : (k : Int) ≤ (ct : Int) := by omega
      have HSN : Hid (stgN m.ts (feats m r) m.base (k + 1) = stgN m.ts (feats m r) m.base k ++ [sm (m.ts.take k) (feats m r) m.base]) := stgN_snoc _ _ _ _
      have hcl := stgN_length m.ts (feats m r) m.base k
      obtain ⟨cur, hcur⟩ : ∃ cur, stgN m.ts (feats m r) m.base k = cur := ⟨_, rfl⟩
      rw [hcur] at ol HSN hcl
      have HCL : Hid (cur.length = k) := hcl
      have htl : (m.ts.take k).length = k := by simp; omega
      have HTL : Hid ((m.ts.take k).length = k) := htl
      have HIT : Hid (IsT wr ax (m.ts.take k)) := ist_take (h.t.below hB) k
      have HSZ : Hid ((m.ts.take k).length + szT (m.ts.take k) ≤ 1048576) := by show _ ≤ _; have := szT_pre m.ts k; have := sz_ts hl; omega
      have HOL : Hid (type_of% ol) := ol
      have HOB : Hid (type_of% hob) := hob
      have HOF : Hid (type_of% of) := of
      have HBM : Hid (type_of% bm) := bm
      have HB : Hid (type_of% hB) := hB
      have HS : Hid (type_of% hs) := hs
      have HBD : Hid (Below wr.heap.size wr wr.drew) := (Below.refl wr.heap.size wr).drew
      obtain ⟨x, hx'⟩ : ∃ x, sm (m.ts.take k) (feats m r) m.base = x := ⟨_, rfl⟩
      have HX : Hid (sm (m.ts.take k) (feats m r) m.base = x) := hx'
      rw [hx'] at HSN
      clear hcur hcl ol hob of bm hB hs htl hx'
      go_wp2_with fail
      go_region_held3 (fun w' => w'.cell? ⟨w.heap.size, 3, none⟩ = some (.int .i64 m.base) ∧ w'.cell? ⟨w.heap.size, 5, none⟩ = some (.slice ax m.ts.length ct)) (go_keep) (first
        | (go_at_call 60
           have hcall := Sw.ssum wr.drew ax af ct cf (m.ts.take k) (feats m r) m.base (HIT.out.below HBD.out) (by obtain ⟨_, _, e, i⟩ := (HOF.out.below HBD.out).isl; rw [HL.out] at e; cases e; exact i) HSZ.out (by have := HL.out; omega)
           rw [HTL.out, HL.out, HX.out] at hcall
           refine hcall.mono ?_
           rintro e w5 ⟨rfl, hb⟩
           have HY : Hid (Below wr.heap.size wr w5) := HBD.out.trans hb
           obtain ⟨_, ⟨z0, z1, z2, z3, z4, z5⟩, _⟩ := wr6 (HBM.out.below HY.out)
           have ho5 : w5.ownsRow E 3 1 u6 cur.length (Li.iv cur) := HOL.out.below HY.out
           have HE5 : Hid (E ≤ w5.heap.size) := by show _ ≤ _; have := HY.out.size; have := HS.out; have := HS1.out; have := HEW.out; omega
           have HAL : Hid (Below w5.heap.size w5 (w5.alloc (.cells #[.int .i64 x] 3))) := (Below.refl _ _).alloc (Nat.le_refl _) _
           obtain ⟨_, ⟨y0, y1, y2, y3, y4, y5⟩, _⟩ := wr6 ((HBM.out.below HY.out).below HAL.out)
           clear hb hcall)
        | (refine step_append_lies _ rfl _ _ 38 rfl E 3 i0 (.int .i64 0) 1 8 Try.underlying38 hi hz0 hz1 hz2 rfl (by decide) u6 cur.length (Li.iv cur) rfl (World.ownsRow.alloc ho5 _) ⟨w5.heap.size, 0, none⟩ 1 1 [.int .i64 x] rfl rfl (Ai.one_cell _ _ _) (Ai.one_one _) (by decide) (by have := HCL.out; unfold maxLen; omega) (by have := HCL.out; omega) (by have := HE5.out; simp; omega) _ rfl ?_
           intro g cap' w6 hown6 hgrow6 hloc6 hgl6
           have HG6 : Hid (Sv.Fr (fun q => u6.ownBlock = some q) w5 w6) := (Sv.fr_below HAL.out).trans (fr_own hgrow6 (fun q e => e))
           have HO6 : Hid (Li.Own w6 E (.slice (some ⟨g, 0, none⟩) (cur.length + 1) cap') (stgN m.ts (feats m r) m.base (k + 1))) := by rw [HSN.out]; exact Ai.own_snoc rfl hown6
           have HM6 : Hid (Wr w6 w.heap.size 0 [.int .i64 m.n, .int .i64 m.c, .int .i64 m.prior, .int .i64 m.base, .slice ak m.ks.length ck, .slice ax m.ts.length ct]) := (HBM.out.below HY.out).keptAt HG6.out.size (HG6.out.block _ (HBM.out.below HY.out).1 (fun e => by have := HOB.out _ e; have := HW2.out; have := HS1.out; have := HEW.out; omega))
           have HF6 : Hid (Li.Own w6 W.heap.size (.slice af L cf) (feats m r)) := own_fr (HOF.out.below HY.out) HG6.out (fun q e e2 => by have := HFW.out q e; have := HOB.out _ e2; have := HEW.out; omega)
           have HN6 : Hid (∀ q, (Value.slice (some ⟨g, 0, none⟩) (cur.length + 1) cap').ownBlock = some q → q = E ∨ w1.heap.size ≤ q) := fun q e => by
             simp [Value.ownBlock] at e
             subst e
             rcases hloc6 with h6 | h6
             · exact HOB.out _ h6
             · right; have := HY.out.size; have := HS.out; simp at h6; omega
           have HS6 : Hid (w1.heap.size ≤ w6.heap.size) := by show _ ≤ _; have := HG6.out.size; have := HY.out.size; have := HS.out; omega
           have HB6 : Hid (Below w.heap.size w w6) := (HB.out.trans (HY.out.mono HB.out.size)).trans (HG6.out.bel (fun q e => by have := HOB.out _ e; have := HW2.out; have := HS1.out; have := HEW.out; omega) (by have := HB.out.size; have := HY.out.size; omega))
           obtain ⟨_, ⟨s0, s1, s2, s3, s4, s5⟩, _⟩ := wr6 HM6.out
           clear hown6 hgrow6 hloc6 hgl6))
      clear x0 x1 x2 x3 x4 x5 y0 y1 y2 y3 y4 y5 z0 z1 z2 z3 z4 z5 s0 s1 s2 s3 s4 s5 ho5
      go_wp2
      go_roundw
      case rel => exact ⟨k + 1, by omega, by go_num, HO6.out, HN6.out, HF6.out, HM6.out, HS6.out, HB6.out⟩
      case measure => simp [intOf]; omega
    · obtain rfl : k = m.ts.length + 1 := by omega
      have hkl : ¬ ((m.ts.length + 1 : Nat) : Int) ≤ (m.ts.length : Int) := by omega
      have hkl2 : ¬ (m.ts.length : Int) + 1 ≤ (m.ts.length : Int) := by omega
      have HA : Hid (Li.Own wr w.heap.size u6 (stg m r)) := by rw [HR.out]; exact ol.mono (by have := HW2.out; omega)
      clear ol hob of bm
      go_wp2
      refine bodyPost_ret (v := .tuple #[u6, .bool true]) (by simp [results, Try.results25, go_sem]) rfl ?_
      exact ⟨_, by rw [HV.out], HA.out, hB⟩
end Go.Proofs.Ytkiddmbenepfjaa.Md
