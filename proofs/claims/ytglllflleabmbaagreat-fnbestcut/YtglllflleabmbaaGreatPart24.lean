/-
  Contracts that the proof leans on, put together in the order in which they build.
-/
import Derived.Test.YtglllflleabmbaaGreatPart23
import Derived.Test.YtglllflleabmbaaGreatPart15
import Derived.Test.YtglllflleabmbaaGreatPart11
/-
  What the features of a row are, and the program's: rowWords, wordNumber, featuresOf, tellable, Features.
-/
namespace Go.Proofs.YtglllflleabmbaaGreat.Md
set_option maxRecDepth 20000
open Go.RowKit
open Go.Proofs.YtglllflleabmbaaGreat.Li (ret_bool ret_int btw below_none iv)
open Go.Proofs.YtglllflleabmbaaGreat.Tk (sok)
open Go.Proofs.YtglllflleabmbaaGreat.Bo (fok aok)
open Go.Proofs.YtglllflleabmbaaGreat.Wd (idOf idOf_lo idOf_hi paired pr)
open Go.Proofs.YtglllflleabmbaaGreat.Tb (lets Row RowIs)
open Go.Proofs.YtglllflleabmbaaGreat.Tm (IsT szT)
open Go.Proofs.YtglllflleabmbaaGreat.Kt (Kv IsK ksz)
open Go.Proofs.YtglllflleabmbaaGreat.Sv (new1 new2 Wr wr2)
open Go.Proofs.YtglllflleabmbaaGreat.Ad (clip)
set_option linter.unusedVariables false
def wds (cats : List ByteArray) : List ByteArray := if cats.length = 2 then cats ++ paired (cats.take 1) (cats.drop 1) else cats
def wnum (t : Kv) (s : ByteArray) (p : Int) : Int := if idOf t.ws s < 0 then p else t.vs.getD (idOf t.ws s).toNat 0
def fl (m : M) (r : Row) : List Int := r.nums.map clip ++ List.zipWith (fun t s => wnum t s m.prior) m.ks (wds r.cats)
def pad (l : List Int) : List Int := l ++ List.replicate (6 - l.length) 0
def fits (m : M) (r : Row) : Bool := mok m && (decide ((r.nums.length : Int) = m.n) && decide ((r.cats.length : Int) = m.c))
def feats (m : M) (r : Row) : List Int := if fits m r = true then pad (fl m r) else []
theorem feats_no {m : M} {r : Row} (h : fits m r = false) : feats m r = [] := by unfold feats; rw [if_neg (by rw [h]; simp)]
theorem feats_yes {m : M} {r : Row} (h : fits m r = true) : feats m r = pad (fl m r) := by unfold feats; rw [if_pos h]
theorem wds_len (cats : List ByteArray) (h : cats.length ≤ 2) : ((wds cats).length : Int) = ncol cats.length := by
 unfold wds ncol
 by_cases e : cats.length = 2
 ·
  rw [if_pos e, if_pos (by omega), List.length_append, Pa.paired_len (by simp; omega)]
  simp
  omega
 ·
  rw [if_neg e, if_neg (by omega)]
theorem pad_length {l : List Int} (h : l.length ≤ 6) : (pad l).length = 6 := by simp [pad]; omega
theorem pad_nil : pad [] = List.replicate 6 0 := rfl
theorem pad_set (l : List Int) (x : Int) (h : l.length < 6) : (pad l).set l.length x = pad (l ++ [x]) := by
 unfold pad
 rw [List.set_append_right _ _ (Nat.le_refl _)]
 obtain ⟨n, hn⟩ : ∃ n, 6 - l.length = n + 1 := ⟨5 - l.length, by omega⟩
 rw [hn, Nat.sub_self, List.replicate_succ, List.set_cons_zero]
 simp
 omega
theorem pad_step (F : List Int) (j : Nat) (h : j < F.length) (h6 : F.length ≤ 6) : (pad (F.take j)).set j F[j] = pad (F.take (j + 1)) := by
 have e : (F.take j).length = j := by simp; omega
 have := pad_set (F.take j) F[j] (by omega)
 rw [e] at this
 rw [this, List.take_succ_eq_append_getElem h]
structure Fit (m : M) (r : Row) : Prop where
 ok : mok m = true
 n : (r.nums.length : Int) = m.n
 c : (r.cats.length : Int) = m.c
 n3 : r.nums.length ≤ 3
 c2 : r.cats.length ≤ 2
 kl : m.ks.length = (wds r.cats).length
 w3 : (wds r.cats).length ≤ 3
theorem fits_fit {m : M} {r : Row} (h : fits m r = true) : Fit m r := by
 simp only [fits, Bool.and_eq_true, decide_eq_true_eq] at h
 obtain ⟨h0, h1, h2⟩ := h
 obtain ⟨s, _, _, _, hk, _⟩ := mok_parts h0
 obtain ⟨⟨n0, n3⟩, c0, c2⟩ := Tk.sok_iff.1 s
 have hc2 : r.cats.length ≤ 2 := by omega
 have hw := wds_len r.cats hc2
 have h3 : (wds r.cats).length ≤ 3 := by unfold ncol at hw; split at hw <;> omega
 exact ⟨h0, h1, h2, by omega, hc2, by rw [h2] at hw; omega, h3⟩
theorem Fit.len {m : M} {r : Row} (h : Fit m r) : (fl m r).length = r.nums.length + (wds r.cats).length := by
 simp [fl, h.kl]
theorem Fit.le {m : M} {r : Row} (h : Fit m r) : (fl m r).length ≤ 6 := by rw [h.len]; have := h.n3; have := h.w3; omega
theorem Fit.num {m : M} {r : Row} (h : Fit m r) (k : Nat) (hk : k < r.nums.length) (hk' : k < (fl m r).length) : (fl m r)[k] = clip r.nums[k] := by
 simp [fl, hk]
theorem Fit.word {m : M} {r : Row} (h : Fit m r) (k : Nat) (hk : k < (wds r.cats).length) (hk' : r.nums.length + k < (fl m r).length) : (fl m r)[r.nums.length + k] = wnum (m.ks[k]'(by rw [h.kl]; exact hk)) (wds r.cats)[k] m.prior := by
 simp [fl]
theorem Fit.all {m : M} {r : Row} (h : Fit m r) : (fl m r).take (r.nums.length + (wds r.cats).length) = fl m r := by rw [← h.len]; exact List.take_length
theorem feats_len (m : M) (r : Row) : (feats m r).length ≤ 6 := by
 by_cases h : fits m r = true
 ·
  rw [feats_yes h, pad_length (fits_fit h).le]; omega
 ·
  rw [feats_no (by simpa using h)]; simp
theorem Fit.kok {m : M} {r : Row} (h : Fit m r) (k : Nat) (hk : k < m.ks.length) : kok m.ks[k] = true := by
 have := (mok_parts h.ok).2.2.2.2.2.2
 rw [List.all_eq_true] at this
 exact this _ (List.getElem_mem hk)
set_option maxHeartbeats 1000000 in
theorem iwnum (w : World) (a0 a1 : Option Addr) (c0 c1 : Nat) (t : Kv) (s : ByteArray) (p : Int) (h0 : Ls.IsS w a0 t.ws) (h1 : Li.IsL w a1 t.vs) (hl : t.ws.length ≤ 40) (hv : t.vs.length = t.ws.length) :
  Calls Tryz.prog 59 #[.agg #[.slice a0 t.ws.length c0, .slice a1 t.vs.length c1], .string s, .int .i64 p] w fun e w' => e = .returned (.int .i64 (wnum t s p)) ∧ Below w.heap.size w w' := by
 have HV : Hid (t.vs.length = t.ws.length) := hv
 rw [hv]
 clear hv
 go_enter Tryz.func59, Tryz.ntmps59
 go_wp2_with fail
 obtain ⟨W, hW, hsz, hB, bx⟩ := new1 w [.slice a0 t.ws.length c0, .slice a1 t.ws.length c1] 56
 rw [hW]
 clear hW hsz
 refine (Di.iid _ _ _ t.ws s (h0.below hB) (by omega)).mono ?_
 rintro e w1 ⟨rfl, hb⟩
 have bx := bx.below hb
 have hB := hB.trans (hb.mono hB.size)
 have hlo := idOf_lo t.ws s
 have hhi := idOf_hi t.ws s
 have HW : Hid (wnum t s p = if idOf t.ws s < 0 then p else t.vs.getD (idOf t.ws s).toNat 0) := rfl
 obtain ⟨i, hi⟩ : ∃ i, idOf t.ws s = i := ⟨_, rfl⟩
 rw [hi] at hlo hhi HW ⊢
 clear hb hi
 obtain ⟨_, ⟨x0, x1⟩, _⟩ := wr2 bx
 by_cases hn : i < 0
 ·
  have HR : Hid (wnum t s p = p) := by show _ = _; rw [HW.out, if_pos hn]
  go_wp2
  go_ret
  exact ⟨ret_int HR.out.symm, hB⟩
 ·
  obtain ⟨k, rfl⟩ : ∃ k : Nat, i = (k : Int) := ⟨i.toNat, by omega⟩
  have hk : k < t.vs.length := by have := HV.out; omega
  have HR : Hid (wnum t s p = t.vs[k]) := by
   show _ = _
   rw [HW.out, if_neg hn]
   simp [List.getD_eq_getElem?_getD, hk]
  rcases h1.below hB with e0 | ⟨vb, vo, rfl, hvb, hvc⟩
  ·
   rw [e0] at hk; simp at hk
  have d := hvc k hk
  obtain ⟨x, hx⟩ : ∃ x, t.vs[k] = x := ⟨_, rfl⟩
  rw [hx] at d HR
  clear hvc hx
  have hk' : (k : Int) < t.ws.length := by omega
  go_wp2
  go_ret
  exact ⟨ret_int HR.out.symm, hB⟩
theorem cloneS (w : World) (a : Option Addr) (c : Nat) (ws : List ByteArray) (h : Ls.IsS w a ws) (hl : ws.length ≤ 1048576) :
  Calls Tryz.prog 85 #[.slice a ws.length c] w fun e w' => ∃ v, e = .returned v ∧ Ls.Own w' w.heap.size v ws ∧ Below w.heap.size w w' := by
 cases a with
 | none =>
  have h0 : ws = [] := by
   rcases h with h | ⟨b, off, e, _⟩
   ·
    exact h
   ·
    cases e
  subst h0
  refine (Tryz.slices_Clone_string_nil _ _ _).mono ?_
  rintro e w' ⟨rfl, rfl⟩
  exact ⟨_, rfl, Ls.Own.nil _ _, Below.refl _ _⟩
 | some x =>
  rcases h with rfl | ⟨b, off, e, hb, hc⟩
  ·
   refine (Tryz.slices_Clone_string_zero x c w).mono ?_
   rintro e w' ⟨v, rfl, ho, _, hB⟩
   exact ⟨v, rfl, ho, hB⟩
  ·
   cases e
   refine (Tryz.slices_Clone_string b off ws.length c ws w (Nat.le_refl _) (by omega) (fun j hj => by rw [hc j hj]; simp [List.getD_eq_getElem?_getD, hj])).mono ?_
   rintro e w' ⟨v, rfl, ho, _, hB⟩
   refine ⟨v, rfl, ?_, hB⟩
   rw [List.take_length] at ho
   exact ho
theorem iss_take {w : World} {a : Option Addr} {ws : List ByteArray} (h : Ls.IsS w a ws) (n : Nat) : Ls.IsS w a (ws.take n) := by
 rcases h with rfl | ⟨b, off, rfl, hb, hc⟩
 ·
  exact .inl (by simp)
 ·
  refine .inr ⟨b, off, rfl, hb, fun j hj => ?_⟩
  rw [hc j (by simp at hj; omega)]
  simp
theorem iss_drop {w : World} {b off : Nat} {ws : List ByteArray} (h : Ls.IsS w (some ⟨b, off, none⟩) ws) (n : Nat) : Ls.IsS w (some ⟨b, off + n, none⟩) (ws.drop n) := by
 rcases h with rfl | ⟨b', off', e, hb, hc⟩
 ·
  exact .inl (by simp)
 ·
  cases e
  refine .inr ⟨b, off + n, rfl, hb, fun j hj => ?_⟩
  rw [Nat.add_assoc, hc (n + j) (by simp at hj; omega)]
  simp
set_option maxHeartbeats 2000000 in
theorem irw (w : World) (a : Option Addr) (c : Nat) (ws : List ByteArray) (h : Ls.IsS w a ws) (hl : ws.length ≤ 2) (hlc : ws.length ≤ c) (hz : ∀ j (hj : j < ws.length), ws[j].size ≤ 1048576) :
    Calls Tryz.prog 58 #[.slice a ws.length c] w fun e w' => ∃ a' c', e = .returned (.slice a' (wds ws).length c') ∧ Ls.Own w' w.heap.size (.slice a' (wds ws).length c') (wds ws) ∧ Below w.heap.size w w' := by
  obtain ⟨i0, hi, hz0, hz1, hz2⟩ := info_parts Ls.info_str
  by_cases e2 : ws.length = 2
  rotate_left
  · have HW : Hid (wds ws = ws) := if_neg e2
    have hb : ((ws.length : Int) == 2) = false := by simp; omega
    go_enter Tryz.func58, Tryz.ntmps58
    go_wp2_with fail
    refine (cloneS _ _ _ ws h (by omega)).mono ?_
    rintro e w1 ⟨v, rfl, ov, hB⟩
    obtain ⟨a', c', rfl, i'⟩ := ov.iss
    have HI : Hid (Ls.Own w1 w.heap.size (.slice a' ws.length c') ws) := ov
    clear ov i'
    go_wp2
    go_ret
    refine ⟨a', c', ?_, ?_, hB⟩
    · rw [HW.out]; rfl
    · rw [HW.out]; exact HI.out
  · have HW : Hid (wds ws = ws ++ paired (ws.take 1) (ws.drop 1)) := if_pos e2
    have hp : (paired (ws.take 1) (ws.drop 1)).length = 1 := by rw [Pa.paired_len (by simp; omega)]; simp; omega
    obtain ⟨ps, hps⟩ : ∃ ps, paired (ws.take 1) (ws.drop 1) = ps := ⟨_, rfl⟩
    have HPS : Hid (paired (ws.take 1) (ws.drop 1) = ps) := hps
    have HPL : Hid (ps.length = 1) := by rw [← hps]; exact hp
    rw [hps] at HW
    have HE : Hid (ws.length = 2) := e2
    have HT : Hid ((ws.take 1).length = 1 ∧ (ws.drop 1).length = 1) := ⟨by simp; omega, by simp; omega⟩
    have HZT : Hid (∀ j (hj : j < (ws.take 1).length), (ws.take 1)[j].size ≤ 1048576) := fun j hj => by simp only [List.getElem_take]; exact hz _ _
    have HZD : Hid (∀ j (hj : j < (ws.drop 1).length), (ws.drop 1)[j].size ≤ 1048576) := fun j hj => by simp only [List.getElem_drop]; exact hz _ _
    have hcl := cloneS w a c ws h (by omega)
    rw [e2] at hcl
    rcases h with h0 | ⟨b, off, rfl, hb, hc⟩
    · rw [h0] at e2; simp at e2
    have HS : Hid (Ls.IsS w (some ⟨b, off, none⟩) ws) := .inr ⟨b, off, rfl, hb, hc⟩
    rw [e2] at hlc
    rw [e2]
    have hc1 : (1 : Int) ≤ c := by omega
    have hc2 : ¬ c = 1 := by omega
    have hc3 : ¬ c ≤ 1 := by omega
    clear hps hp e2 hc hz hl hb
    go_enter Tryz.func58, Tryz.ntmps58
    go_wp2_with fail
    refine hcl.mono ?_
    rintro e w1 ⟨v, rfl, ov, hB⟩
    have HV : Hid (Ls.Own w1 w.heap.size v ws) := ov
    have HB : Hid (Below w.heap.size w w1) := hB
    obtain ⟨a', c', ev, _⟩ := ov.iss
    rw [HE.out] at ev
    subst ev
    clear hcl ov hB
    go_wp2_with fail
    go_region_held3 (fun _ => True) (trivial) (first
      | (go_at_call 86
         have hcall := Pa.ipair w1.drew (some ⟨b, off, none⟩) (some ⟨b, off + 1, none⟩) c (c - 1) (ws.take 1) (ws.drop 1) (iss_take (HS.out.below (HB.out.drew)) 1) (iss_drop (HS.out.below (HB.out.drew)) 1) (by have := HT.out.1; omega) (by have := HT.out.2; omega) HZT.out HZD.out
         rw [HT.out.1, HT.out.2, HPS.out] at hcall
         refine hcall.mono ?_
         rintro e w2 ⟨vp, rfl, op, hb⟩
         obtain ⟨ap, cp, ep, ip⟩ := op.iss
         rw [HPL.out] at ep
         subst ep
         have HY : Hid (Below w1.heap.size w1 w2) := ((Below.refl w1.heap.size w1).drew).trans hb
         have HIP : Hid (Ls.IsS w2 ap ps) := ip
         have HV2 : Hid (Ls.Own w2 w.heap.size (.slice a' 2 c') ws) := HV.out.below HY.out
         have HSZ : Hid (w.heap.size ≤ w2.heap.size) := Nat.le_trans HB.out.size HY.out.size
         obtain ⟨pb, po, hap⟩ : ∃ pb po, ap = some ⟨pb, po, none⟩ := by
           rcases HIP.out with h0 | ⟨pb, po, e, _⟩
           · have := HPL.out; rw [h0] at this; simp at this
           · exact ⟨pb, po, e⟩
         subst hap
         have HNW : Hid (∀ j u, (Ls.sv ps)[j]? = some u → w2.cell? ((⟨pb, po, none⟩ : Addr).add j) = some u) := fun j u hj => by
           rcases HIP.out with h0 | ⟨_, _, e, _, hc⟩
           · rw [h0] at hj; simp [Ls.sv] at hj
           · cases e
             have hjl : j < ps.length := by
               apply Classical.byContradiction
               intro hn
               rw [List.getElem?_eq_none (by rw [Ls.sv_length]; omega)] at hj
               cases hj
             rw [Ls.sv_get ps j hjl] at hj
             rw [Go.WideShapes.add_plain, hc j hjl, hj]
         clear hb hcall op ip)
      | (refine step_append_lies _ rfl _ _ 48 rfl w.heap.size 9 i0 (.string ⟨#[]⟩) 1 16 Tryz.underlying48 hi hz0 hz1 hz2 rfl (by decide) (.slice a' 2 c') 2 (Ls.sv ws) rfl (by have := HV2.out; unfold Ls.Own at this; rw [HE.out] at this; exact this) ⟨pb, po, none⟩ 1 cp (Ls.sv ps) rfl (by rw [Ls.sv_length, HPL.out]) HNW.out (Ls.sv_one _) (by decide) (by unfold maxLen; omega) (by omega) HSZ.out _ rfl ?_
         intro g cap w3 hown hgrow hloc hgl
         have HOW : Hid (Ls.Own w3 w.heap.size (.slice (some ⟨g, 0, none⟩) (2 + 1) cap) (wds ws)) := by
           show w3.ownsRow _ _ _ _ _ _
           rw [HW.out, List.length_append, HE.out, HPL.out, ← Ls.sv_append]
           exact hown
         have HB3 : Hid (Below w.heap.size w w3) := (HB.out.trans (HY.out.mono HB.out.size)).trans ⟨hgrow.os, hgrow.tape, hgrow.output, hgrow.size, fun k hk => hgrow.block k (by have := HSZ.out; omega) (fun e => by have := (HV2.out.ge k e.symm).1; omega)⟩
         clear hown hgrow hloc hgl))
    have HWL : Hid ((wds ws).length = 3) := by show _ = _; rw [HW.out, List.length_append, HE.out, HPL.out]
    go_wp2
    go_ret
    refine ⟨some ⟨g, 0, none⟩, cap, ?_, ?_, HB3.out⟩
    · rw [HWL.out]; rfl
    · rw [HWL.out]; exact HOW.out
def RowC (w : World) (v0 v1 v2 : Value) (r : Row) : Prop := ∃ a0 c0 a1 c1, v0 = .slice a0 r.nums.length c0 ∧ v1 = .slice a1 r.cats.length c1 ∧ v2 = .int .i64 r.label ∧ Li.IsL w a0 r.nums ∧ Ls.IsS w a1 r.cats ∧ r.cats.length ≤ c1
theorem RowC.below {w w1 : World} {v0 v1 v2 : Value} {r : Row} (h : RowC w v0 v1 v2 r) (hb : Below w.heap.size w w1) : RowC w1 v0 v1 v2 r := by
 obtain ⟨a0, c0, a1, c1, e0, e1, e2, i0, i1, hc⟩ := h
 exact ⟨a0, c0, a1, c1, e0, e1, e2, i0.below hb, i1.below hb, hc⟩
theorem RowC.row {w : World} {v0 v1 v2 : Value} {r : Row} (h : RowC w v0 v1 v2 r) : RowIs w v0 v1 v2 r := by
 obtain ⟨a0, c0, a1, c1, e0, e1, e2, i0, i1, hc⟩ := h
 exact ⟨a0, c0, a1, c1, e0, e1, e2, i0, i1⟩
set_option maxHeartbeats 4000000 in
theorem ifeat (w : World) (ak ax : Option Addr) (ck ct : Nat) (m : M) (h : Rm w ak ax m) (v0 v1 v2 : Value) (r : Row) (hr : RowC w v0 v1 v2 r) (hz : r.sz ≤ 1048576) (hf : Fit m r) :
    Calls Tryz.prog 30 #[.agg #[.int .i64 m.n, .int .i64 m.c, .int .i64 m.prior, .int .i64 m.base, .slice ak m.ks.length ck, .slice ax m.ts.length ct], .agg #[v0, v1, v2]] w fun e w' => ∃ v, e = .returned v ∧ Li.Own w' w.heap.size v (pad (fl m r)) ∧ Below w.heap.size w w' := by
  obtain ⟨i0, hi, hz0, hz1, hz2⟩ := info_parts Li.info_int
  obtain ⟨a0, c0, a1, c1, rfl, rfl, rfl, j0, j1, hcap⟩ := hr
  have hzs : ∀ j (hj : j < r.cats.length), r.cats[j].size ≤ 1048576 := fun j hj => by have := Tb.lets_at r.cats j hj; unfold Row.sz at hz; omega
  have HF : Hid (Fit m r) := hf
  have hn3 := hf.n3
  have hc2 := hf.c2
  have hw3 := hf.w3
  obtain ⟨W, hW, hsz, hB, bm, bs⟩ := new2 w [.int .i64 m.n, .int .i64 m.c, .int .i64 m.prior, .int .i64 m.base, .slice ak m.ks.length ck, .slice ax m.ts.length ct] [.slice a0 r.nums.length c0, .slice a1 r.cats.length c1, .int .i64 r.label] 29 50
  have HW : Hid (type_of% hW) := hW
  have HSZ : Hid (W.heap.size = w.heap.size + 2) := hsz
  clear hW hf hz hsz
  go_enter Tryz.func30, Tryz.ntmps30
  go_wp2_with (at_make; rw [HW.out]; refine wpList_make_full _ rfl _ _ 37 rfl W.heap.size 3 i0 (.int .i64 0) 1 Tryz.underlying37 hi hz0 hz1 _ _ _ _ 6 rfl rfl (by omega) (by omega) (by rw [hz2]; omega) (by unfold maxLen; omega) (Nat.le_refl _) ?_; intro w1 hown hgrow; have hb1 := below_none hgrow; obtain ⟨_, ⟨y0, y1, y2⟩, _⟩ := wr3 (bs.below hb1))
  have ol := Li.own_made hown
  have bm := bm.below hb1
  have bs := bs.below hb1
  have hB := hB.trans (hb1.mono hB.size)
  have HWG : Hid (w.heap.size + 2 = W.heap.size) := HSZ.out.symm
  obtain ⟨G, hG⟩ : ∃ G, W.heap.size = G := ⟨_, rfl⟩
  rw [hG] at ol HWG ⊢
  rw [← pad_nil, ← List.take_zero (l := fl m r)] at ol
  clear hown hgrow hb1 hG HSZ HW
  go_loopw [14] (fun i wr => ∃ k : Nat, k ≤ r.nums.length ∧ i = .int .i64 k ∧ Li.Own wr G (.slice (some ⟨G, 0, none⟩) 6 6) (pad ((fl m r).take k)) ∧ Wr wr w.heap.size 0 [.int .i64 m.n, .int .i64 m.c, .int .i64 m.prior, .int .i64 m.base, .slice ak m.ks.length ck, .slice ax m.ts.length ct] ∧ Wr wr (w.heap.size + 1) 0 [.slice a0 r.nums.length c0, .slice a1 r.cats.length c1, .int .i64 r.label] ∧ Below w.heap.size w wr) (fun i _ => r.nums.length - (intOf i).toNat)
  case atStart => exact ⟨0, Nat.zero_le _, rfl, ol, bm, bs, hB⟩
  case round =>
    clear ol bm bs hB y0 y1 y2
    obtain ⟨k, hk, rfl, ol, bm, bs, hB⟩ := hrel
    have hpl : (pad ((fl m r).take k)).length = 6 := pad_length (by have := HF.out.le; simp; omega)
    have HPL : Hid ((pad ((fl m r).take k)).length = 6) := hpl
    clear hpl
    by_cases hlt : k < r.nums.length
    · rcases j0.below hB with e0 | ⟨nb, no, rfl, hnb, hnc⟩
      · rw [e0] at hlt; simp at hlt
      have d := hnc k hlt
      have hkf : k < (fl m r).length := by rw [HF.out.len]; omega
      have HST : Hid ((pad ((fl m r).take k)).set k (clip r.nums[k]) = pad ((fl m r).take (k + 1))) := by
        show _ = _
        rw [← HF.out.num k hlt hkf]; exact pad_step _ _ hkf HF.out.le
      obtain ⟨x, hx⟩ : ∃ x, r.nums[k] = x := ⟨_, rfl⟩
      rw [hx] at d HST
      have hcell := ol.cell HPL.out k (by have := HPL.out; omega)
      obtain ⟨cv, hcv⟩ : ∃ cv, wr.cell? ⟨G, k, none⟩ = some cv := ⟨_, hcell⟩
      have hcf := ol.frozen HPL.out k
      have hk6 : (k : Int) < 6 := by omega
      have HO : Hid (Li.Own (wr.setCell ⟨G, k, none⟩ (.int .i64 (clip x))) G (.slice (some ⟨G, 0, none⟩) 6 6) (pad ((fl m r).take (k + 1)))) := by
        have := ol.set HPL.out k (clip x)
        rw [HST.out] at this
        exact this
      have HBM : Hid (∀ v, Wr (wr.setCell ⟨G, k, none⟩ v) w.heap.size 0 [.int .i64 m.n, .int .i64 m.c, .int .i64 m.prior, .int .i64 m.base, .slice ak m.ks.length ck, .slice ax m.ts.length ct]) := fun v => bm.setOther (by have := HWG.out; omega)
      have HBS : Hid (∀ v, Wr (wr.setCell ⟨G, k, none⟩ v) (w.heap.size + 1) 0 [.slice (some ⟨nb, no, none⟩) r.nums.length c0, .slice a1 r.cats.length c1, .int .i64 r.label]) := fun v => bs.setOther (by have := HWG.out; omega)
      have HBB : Hid (∀ v, Below w.heap.size w (wr.setCell ⟨G, k, none⟩ v)) := fun v => hB.setCell (p := ⟨G, k, none⟩) (by show w.heap.size ≤ G; have := HWG.out; omega) _
      clear hnc hx hcell ol bm bs hB
      go_wp2_with (go_at_call 57; refine (Ad.bounded_any _ _).mono ?_; rintro e w' ⟨rfl, hw⟩; subst w')
      go_roundw
      case rel => exact ⟨k + 1, by omega, by go_num, HO.out, HBM.out _, HBS.out _, HBB.out _⟩
      case measure => simp [intOf]; omega
    · obtain rfl : k = r.nums.length := by omega
      clear HPL
      obtain ⟨_, ⟨y0, y1, y2⟩, _⟩ := wr3 bs
      have jr := j1.below hB
      go_wp2_with fail
      refine (irw _ _ _ r.cats jr hc2 hcap hzs).mono ?_
      rintro e w2 ⟨aw, cw, rfl, iw, hb⟩
      have HGB : Hid (G < wr.heap.size) := (ol.ge G rfl).2
      obtain ⟨B0, hB0⟩ : ∃ B0, wr.heap.size = B0 := ⟨_, rfl⟩
      have bm := bm.below hb
      have ol := ol.below hb
      have hB := hB.trans (hb.mono hB.size)
      rw [hB0] at iw HGB
      clear hb y0 y1 y2 bs jr hB0
      obtain ⟨L, hL⟩ : ∃ L, (wds r.cats).length = L := ⟨_, rfl⟩
      have HL : Hid ((wds r.cats).length = L) := hL
      rw [hL] at hw3 iw ⊢
      clear hL
      have HOL : Hid (Li.Own w2 G (.slice (some ⟨G, 0, none⟩) 6 6) (pad ((fl m r).take (r.nums.length + 0)))) := ol
      have HBM : Hid (Wr w2 w.heap.size 0 [.int .i64 m.n, .int .i64 m.c, .int .i64 m.prior, .int .i64 m.base, .slice ak m.ks.length ck, .slice ax m.ts.length ct]) := bm
      have HIW : Hid (Ls.Own w2 B0 (.slice aw L cw) (wds r.cats)) := iw
      have HB : Hid (Below w.heap.size w w2) := hB
      clear ol bm iw hB
      go_wp2
      go_loopw [29] (fun i wr => ∃ k : Nat, k ≤ L ∧ i = .int .i64 k ∧ Li.Own wr G (.slice (some ⟨G, 0, none⟩) 6 6) (pad ((fl m r).take (r.nums.length + k))) ∧ Wr wr w.heap.size 0 [.int .i64 m.n, .int .i64 m.c, .int .i64 m.prior, .int .i64 m.base, .slice ak m.ks.length ck, .slice ax m.ts.length ct] ∧ Ls.Own wr B0 (.slice aw L cw) (wds r.cats) ∧ Below w.heap.size w wr) (fun i _ => L - (intOf i).toNat)
      case atStart => exact ⟨0, Nat.zero_le _, rfl, HOL.out, HBM.out, HIW.out, HB.out⟩
      case round =>
        clear HOL HBM HIW HB
        obtain ⟨k, hk, rfl, ol, bm, iw, hB⟩ := hrel
        by_cases hlk : k < L
        · have hkw : k < (wds r.cats).length := by rw [HL.out]; exact hlk
          have hkk : k < m.ks.length := by rw [HF.out.kl]; exact hkw
          have hkf : r.nums.length + k < (fl m r).length := by rw [HF.out.len]; omega
          have hpl : (pad ((fl m r).take (r.nums.length + k))).length = 6 := pad_length (by have := HF.out.le; simp; omega)
          have HPL : Hid ((pad ((fl m r).take (r.nums.length + k))).length = 6) := hpl
          have HST : Hid ((pad ((fl m r).take (r.nums.length + k))).set (r.nums.length + k) (wnum m.ks[k] (wds r.cats)[k] m.prior) = pad ((fl m r).take (r.nums.length + (k + 1)))) := by
            show _ = _
            rw [← HF.out.word k hkw hkf]; exact pad_step _ _ hkf HF.out.le
          obtain ⟨_, _, ew, is⟩ := iw.iss
          rw [HL.out] at ew
          cases ew
          rcases is with e0 | ⟨sb, so, rfl, hsb, hsc⟩
          · rw [e0] at hkw; simp at hkw
          have d := hsc k hkw
          rcases h.k.below hB with e0 | ⟨kb, ko, rfl, hkb, hkc⟩
          · rw [e0] at hkk; simp at hkk
          obtain ⟨ta, tc, va, vc, ⟨t0, t1⟩, it, iv'⟩ := hkc k hkk
          obtain ⟨ko1, ko2, _⟩ := kok_parts (HF.out.kok k hkk)
          have HKN : Hid (kb < w.heap.size) := by
            rcases h.k with e0 | ⟨kb', ko', e, hkb', _⟩
            · rw [e0] at hkk; simp at hkk
            · cases e; exact hkb'
          obtain ⟨t, ht⟩ : ∃ t, m.ks[k] = t := ⟨_, rfl⟩
          obtain ⟨s, hs⟩ : ∃ s, (wds r.cats)[k] = s := ⟨_, rfl⟩
          rw [ht] at t0 t1 it iv' ko1 ko2 HST
          rw [hs] at d HST
          obtain ⟨_, ⟨x0, x1, x2, x3, x4, x5⟩, _⟩ := wr6 bm
          rw [← HF.out.n] at x0
          have hwr : IntKind.i64.wrap ((r.nums.length : Int) + (k : Int)) = ((r.nums.length + k : Nat) : Int) := by simp [IntKind.wrap, IntKind.bits, IntKind.signed]; omega
          have hix : ((r.nums.length + k : Nat) : Int) < 6 := by have := HF.out.le; omega
          have hix0 : (0 : Int) ≤ (r.nums.length : Int) + (k : Int) := by omega
          have hix1 : (r.nums.length : Int) + (k : Int) < 6 := by omega
          have htn : ((r.nums.length : Int) + (k : Int)).toNat = r.nums.length + k := by omega
          have hcell := ol.cell HPL.out (r.nums.length + k) (by have := HPL.out; have := HF.out.le; omega)
          have hgl := (ol.ge G rfl).2
          have hkm : (k : Int) < m.ks.length := by omega
          have HIT : Hid (Ls.IsS wr ta t.ws) := it
          have HIV : Hid (Li.IsL wr va t.vs) := iv'
          have HK12 : Hid (t.ws.length ≤ 40 ∧ t.vs.length = t.ws.length) := ⟨ko1, ko2⟩
          have HOL : Hid (type_of% ol) := ol
          have HBM : Hid (type_of% bm) := bm
          have HIW : Hid (type_of% iw) := iw
          have HB : Hid (type_of% hB) := hB
          have HBD : Hid (Below wr.heap.size wr wr.drew) := (Below.refl wr.heap.size wr).drew
          have hne0 : ¬ w.heap.size = G := by have := HWG.out; omega
          have hne1 : ¬ kb = G := by have := HWG.out; have := HKN.out; omega
          have hne0' : ¬ G = w.heap.size := by omega
          have hne1' : ¬ G = kb := by omega
          clear hsc hkc ht hs it iv' ko1 ko2 ol bm iw hB hpl hcell
          go_wp2_with fail
          go_region_held3 (fun w' => w'.cell? ⟨w.heap.size, 0, none⟩ = some (.int .i64 (r.nums.length : Int)) ∧ w'.cell? ⟨w.heap.size, 2, none⟩ = some (.int .i64 m.prior) ∧ w'.cell? ⟨w.heap.size, 4, none⟩ = some (.slice (some ⟨kb, ko, none⟩) m.ks.length ck) ∧ w'.cell? ⟨kb, ko + k * 2, none⟩ = some (.slice ta t.ws.length tc) ∧ w'.cell? ⟨kb, ko + k * 2 + 1, none⟩ = some (.slice va t.vs.length vc)) (go_keep) (first
            | (go_at_call 59
               refine (iwnum wr.drew _ _ _ _ t s m.prior (HIT.out.below HBD.out) (HIV.out.below HBD.out) HK12.out.1 HK12.out.2).mono ?_
               rintro e w5 ⟨rfl, hb⟩
               have HY : Hid (Below wr.heap.size wr w5) := HBD.out.trans hb
               obtain ⟨_, ⟨z0, z1, z2, z3, z4, z5⟩, _⟩ := wr6 (HBM.out.below HY.out)
               rw [← HF.out.n] at z0
               have z6 := (HY.out.cell (p := ⟨kb, ko + k * 2, none⟩) hkb).trans t0
               have z7 := (HY.out.cell (p := ⟨kb, ko + k * 2 + 1, none⟩) hkb).trans t1
               have HO5 : Hid (type_of% (HOL.out.below HY.out)) := HOL.out.below HY.out
               have hc5 := HO5.out.cell HPL.out (r.nums.length + k) (by have := HPL.out; have := HF.out.le; omega)
               obtain ⟨cv5, hcv5⟩ : ∃ cv, w5.cell? ⟨G, r.nums.length + k, none⟩ = some cv := ⟨_, hc5⟩
               have hf5 := HO5.out.frozen HPL.out (r.nums.length + k)
               clear hb hc5 z1 z3 z5))
          obtain ⟨x, hx⟩ : ∃ x, wnum t s m.prior = x := ⟨_, rfl⟩
          rw [hx] at HST ⊢
          have HO : Hid (Li.Own (w5.setCell ⟨G, r.nums.length + k, none⟩ (.int .i64 x)) G (.slice (some ⟨G, 0, none⟩) 6 6) (pad ((fl m r).take (r.nums.length + (k + 1))))) := by
            have := HO5.out.set HPL.out (r.nums.length + k) x
            rw [HST.out] at this
            exact this
          have HM : Hid (type_of% ((HBM.out.below HY.out).setOther (b := G) (o := r.nums.length + k) (v := .int .i64 x) hne0)) := (HBM.out.below HY.out).setOther hne0
          have HI : Hid (Ls.Own (w5.setCell ⟨G, r.nums.length + k, none⟩ (.int .i64 x)) B0 (.slice (some ⟨sb, so, none⟩) L cw) (wds r.cats)) := (HIW.out.below HY.out).kept (Li.grown_set _ _ _ _) (.inr (fun e => by have := (HIW.out.ge G e).1; have := HGB.out; omega))
          have HBB : Hid (Below w.heap.size w (w5.setCell ⟨G, r.nums.length + k, none⟩ (.int .i64 x))) := (HB.out.trans (HY.out.mono HB.out.size)).setCell (p := ⟨G, r.nums.length + k, none⟩) (by show w.heap.size ≤ G; have := HWG.out; omega) _
          clear z0 z2 z4 z6 z7 hcv5 hf5 x0 x1 x2 x3 x4 x5 t0 t1 d hx
          go_wp2
          go_roundw
          case rel => exact ⟨k + 1, by omega, by go_num, HO.out, HM.out, HI.out, HBB.out⟩
          case measure => simp [intOf]; omega
        · obtain rfl : k = L := by omega
          have HA : Hid (Li.Own wr w.heap.size (.slice (some ⟨G, 0, none⟩) 6 6) (pad (fl m r))) := by
            have := ol.mono (base' := w.heap.size) (by have := HWG.out; omega)
            rw [← HL.out, HF.out.all] at this
            exact this
          clear ol iw bm
          go_wp2
          go_ret
          exact ⟨_, rfl, HA.out, hB⟩
end Go.Proofs.YtglllflleabmbaaGreat.Md
/-
  Features and Predict of the program.
-/
namespace Go.Proofs.YtglllflleabmbaaGreat.Md
set_option maxRecDepth 20000
open Go.RowKit
open Go.Proofs.YtglllflleabmbaaGreat.Li (ret_bool ret_int btw below_none)
open Go.Proofs.YtglllflleabmbaaGreat.Tb (lets Row RowIs)
open Go.Proofs.YtglllflleabmbaaGreat.Tm (IsT szT)
open Go.Proofs.YtglllflleabmbaaGreat.Kt (Kv IsK ksz)
open Go.Proofs.YtglllflleabmbaaGreat.Sv (new1 new2 Wr wr2)
open Go.Proofs.YtglllflleabmbaaGreat.Sw (sm)
set_option linter.unusedVariables false
def pred (m : M) (r : Row) : Int := if fits m r = true then sm m.ts (pad (fl m r)) m.base else 0
theorem pred_no {m : M} {r : Row} (h : fits m r = false) : pred m r = 0 := by unfold pred; rw [if_neg (by rw [h]; simp)]
theorem pred_yes {m : M} {r : Row} (h : fits m r = true) : pred m r = sm m.ts (pad (fl m r)) m.base := by unfold pred; rw [if_pos h]
theorem sz_ts {m : M} (h : m.sz ≤ 1048576) : m.ts.length + szT m.ts ≤ 1048576 := by unfold M.sz at h; omega
end Go.Proofs.YtglllflleabmbaaGreat.Md
