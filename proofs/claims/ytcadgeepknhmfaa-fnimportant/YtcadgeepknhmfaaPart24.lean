/-
  Contracts that the proof leans on, put together in the order in which they build.
-/
import Derived.Test.YtcadgeepknhmfaaPart23
import Derived.Test.YtcadgeepknhmfaaPart2
import Derived.Test.YtcadgeepknhmfaaPart16
import Derived.Test.YtcadgeepknhmfaaPart5
import Derived.Deep.AppendLies
import Derived.Test.YtcadgeepknhmfaaPart19
import Derived.Test.YtcadgeepknhmfaaPart10
import Derived.Deep.Upon
import Derived.Test.YtcadgeepknhmfaaPart12
import Derived.Deep.Cut
/-
  Importance of both.
-/
namespace Go.Proofs.Ytcadgeepknhmfaa.Md
set_option maxRecDepth 20000
open Go.RowKit
open Go.Proofs.Ytcadgeepknhmfaa.Li (ret_bool ret_int btw below_none)
open Go.Proofs.Ytcadgeepknhmfaa.Tm (IsT szT)
open Go.Proofs.Ytcadgeepknhmfaa.Sv (new1 new2 Wr wr2)
set_option linter.unusedVariables false
def bump (l : List Int) (p : Int × Int) : List Int := l.set p.1.toNat (l.getD p.1.toNat 0 + 1)
def impT (l : List Int) (t : Tr.T) : List Int := t.sp.foldl bump l
def impL (ts : List Tr.T) : List Int := ts.foldl impT (List.replicate 6 0)
def imps (m : M) : List Int := if mok m = true then impL m.ts else []
def tsp : List Tr.T → Nat
  | [] => 0
  | t :: ts => t.sp.length + tsp ts
def BB (l : List Int) (N : Nat) : Prop := l.length = 6 ∧ ∀ x ∈ l, 0 ≤ x ∧ x ≤ (N : Int)
theorem BB.bump {l : List Int} {N : Nat} (h : BB l N) (p : Int × Int) : BB (Md.bump l p) (N + 1) := by
  refine ⟨by simpa [Md.bump] using h.1, fun x hx => ?_⟩
  rcases List.mem_or_eq_of_mem_set hx with h1 | h1
  · have := h.2 x h1; omega
  · have hg : 0 ≤ l.getD p.1.toNat 0 ∧ l.getD p.1.toNat 0 ≤ (N : Int) := by
      rw [List.getD_eq_getElem?_getD]
      cases hq : l[p.1.toNat]? with
      | none => simp
      | some y => exact h.2 y (List.mem_of_getElem? hq)
    omega
theorem BB.fold {l : List Int} {N : Nat} (h : BB l N) (ps : List (Int × Int)) : BB (ps.foldl Md.bump l) (N + ps.length) := by
  induction ps generalizing l N with
  | nil => exact h
  | cons p ps ih =>
    have := ih (h.bump p)
    rw [List.foldl_cons, List.length_cons, show N + (ps.length + 1) = N + 1 + ps.length by omega]
    exact this
theorem impT_bb {l : List Int} {N : Nat} (h : BB l N) (t : Tr.T) : BB (impT l t) (N + t.sp.length) := h.fold t.sp
theorem imp_fold {l : List Int} {N : Nat} (h : BB l N) (ts : List Tr.T) : BB (ts.foldl impT l) (N + tsp ts) := by
  induction ts generalizing l N with
  | nil => exact h
  | cons t ts ih =>
    have := ih (impT_bb h t)
    rw [List.foldl_cons]
    simp only [tsp]
    rw [show N + (t.sp.length + tsp ts) = N + t.sp.length + tsp ts by omega]
    exact this
theorem imp_bb (ts : List Tr.T) : BB (impL ts) (tsp ts) := by
  have := imp_fold (l := List.replicate 6 0) (N := 0) ⟨by simp, fun x hx => by simp at hx; omega⟩ ts
  rw [Nat.zero_add] at this
  exact this
theorem tsp_sz (ts : List Tr.T) : tsp ts ≤ szT ts := by
  induction ts with
  | nil => simp [tsp, szT]
  | cons t ts ih => simp only [tsp, szT, Tm.szt]; omega
theorem tsp_take (ts : List Tr.T) (k : Nat) : tsp (ts.take k) ≤ tsp ts := by
  induction ts generalizing k with
  | nil => simp
  | cons t ts ih =>
    cases k with
    | zero => simp [tsp]
    | succ k => simp only [List.take_succ_cons, tsp]; have := ih k; omega
theorem impL_snoc (ts : List Tr.T) (k : Nat) (h : k < ts.length) : impL (ts.take (k + 1)) = impT (impL (ts.take k)) ts[k] := by
  unfold impL
  rw [List.take_succ_eq_append_getElem h, List.foldl_append]; rfl
theorem bump_snoc (l : List Int) (ps : List (Int × Int)) (j : Nat) (h : j < ps.length) : (ps.take (j + 1)).foldl bump l = bump ((ps.take j).foldl bump l) ps[j] := by
  rw [List.take_succ_eq_append_getElem h, List.foldl_append]; rfl
theorem imps_len (m : M) : (imps m).length ≤ 6 := by
  unfold imps
  split
  · rw [(imp_bb m.ts).1]; omega
  · simp
theorem imps_no {m : M} (h : mok m = false) : imps m = [] := by unfold imps; rw [if_neg (by rw [h]; simp)]
theorem imps_yes {m : M} (h : mok m = true) : imps m = impL m.ts := by unfold imps; rw [if_pos h]
theorem sp_at {m : M} (h : mok m = true) (k : Nat) (hk : k < m.ts.length) : m.ts[k].sp.length ≤ 4 ∧ ∀ j (hj : j < m.ts[k].sp.length), 0 ≤ m.ts[k].sp[j].1 ∧ m.ts[k].sp[j].1 ≤ 5 := by
  have h1 := (mok_parts h).2.2.2.2.2.1
  have h2 : Tr.tok m.ts[k] = true := by
    unfold Sw.allok at h1
    rw [List.all_eq_true] at h1
    exact h1 _ (List.getElem_mem hk)
  unfold Tr.tok at h2
  simp only [Bool.and_eq_true, decide_eq_true_eq] at h2
  refine ⟨h2.1.1, fun j hj => ?_⟩
  have h3 := h2.2.1
  rw [List.all_eq_true] at h3
  have h4 := h3 _ (List.getElem_mem hj)
  have h5 := Tw.btw5 m.ts[k].sp[j].1 m.ts[k].sp[j].2
  rw [show (m.ts[k].sp[j].1, m.ts[k].sp[j].2) = m.ts[k].sp[j] from rfl, h4] at h5
  have h6 := h5.symm
  simp only [Bool.and_eq_true] at h6
  have := h6.1
  simpa [btw] using this
theorem own_cellAt {w : World} {B G : Nat} {l : List Int} (h : Li.Own w B (.slice (some ⟨G, 0, none⟩) 6 6) l) (hl : l.length = 6) (f : Int) (h0 : 0 ≤ f) (h5 : f ≤ 5) : w.cell? ⟨G, f.toNat, none⟩ = some (.int .i64 (l.getD f.toNat 0)) := by
  have hf : f.toNat < l.length := by omega
  rw [h.cell hl f.toNat hf]
  simp [List.getD_eq_getElem?_getD, hf]
theorem getD_bd {l : List Int} {N : Nat} (h : BB l N) (j : Nat) : 0 ≤ l.getD j 0 ∧ l.getD j 0 ≤ (N : Int) := by
  rw [List.getD_eq_getElem?_getD]
  cases hq : l[j]? with
  | none => simp
  | some y => exact h.2 y (List.mem_of_getElem? hq)
set_option maxHeartbeats 4000000 in
theorem iimp (w : World) (ak ax : Option Addr) (ck ct : Nat) (m : M) (h : Rm w ak ax m) (hl : m.sz ≤ 1048576) :
    Calls Try.prog 6 #[.agg #[.int .i64 m.n, .int .i64 m.c, .int .i64 m.prior, .int .i64 m.base, .slice ak m.ks.length ck, .slice ax m.ts.length ct]] w fun e w' => ∃ v, e = .returned v ∧ Li.Own w' w.heap.size v (imps m) ∧ Below w.heap.size w w' := by
  obtain ⟨i0, hi, hz0, hz1, hz2⟩ := info_parts Li.info_int
  go_enter Try.func6, Try.ntmps6
  go_wp2_with fail
  obtain ⟨W, hW, hsz, hB, bm⟩ := new1 w [.int .i64 m.n, .int .i64 m.c, .int .i64 m.prior, .int .i64 m.base, .slice ak m.ks.length ck, .slice ax m.ts.length ct] 29
  rw [hW]
  clear hW hsz
  refine (imok _ _ _ _ _ m (h.below hB) hl).mono ?_
  rintro e w1 ⟨rfl, hb⟩
  have bm := bm.below hb
  have hB := hB.trans (hb.mono hB.size)
  have HW1 : Hid (w.heap.size < w1.heap.size) := bm.1
  clear hb
  cases h1 : mok m with
  | false =>
    have HR : Hid (imps m = []) := imps_no h1
    go_wp2
    go_ret
    exact ⟨_, rfl, by rw [HR.out]; exact Li.Own.nil _ _, hB⟩
  | true =>
  have HR : Hid (imps m = impL m.ts) := imps_yes h1
  have HOK : Hid (mok m = true) := h1
  have hszt : tsp m.ts ≤ 1048576 := by have := tsp_sz m.ts; unfold M.sz at hl; omega
  have htl : m.ts.length ≤ 12 := (mok_parts h1).2.2.2.1
  clear h1
  go_wp2_with (at_make; refine wpList_make_full _ rfl _ _ 32 rfl w1.heap.size 3 i0 (.int .i64 0) 1 Try.underlying32 hi hz0 hz1 _ _ _ _ 6 rfl rfl (by omega) (by omega) (by rw [hz2]; omega) (by unfold maxLen; omega) (Nat.le_refl _) ?_; intro w2 hown hgrow; have hb1 := below_none hgrow; obtain ⟨_, ⟨x0, x1, x2, x3, x4, x5⟩, _⟩ := wr6 (bm.below hb1))
  have ol := Li.own_made hown
  have hB := hB.trans (hb1.mono hB.size)
  obtain ⟨G, hG⟩ : ∃ G, w1.heap.size = G := ⟨_, rfl⟩
  rw [hG] at ol HW1 ⊢
  have HOL : Hid (Li.Own w2 G (.slice (some ⟨G, 0, none⟩) 6 6) (impL (m.ts.take 0))) := ol
  clear hown hgrow hb1 hG x0 x1 x2 x3 x4 x5 ol bm
  go_wp2
  go_loopw [15] (fun i wr => ∃ k : Nat, k ≤ m.ts.length ∧ i = .int .i64 k ∧ Li.Own wr G (.slice (some ⟨G, 0, none⟩) 6 6) (impL (m.ts.take k)) ∧ Below w.heap.size w wr) (fun i _ => m.ts.length - (intOf i).toNat)
  case atStart => exact ⟨0, Nat.zero_le _, rfl, HOL.out, hB⟩
  case round =>
    clear HOL hB
    obtain ⟨k, hk, rfl, ol, hB⟩ := hrel
    by_cases hlt : k < m.ts.length
    · rcases h.t with e0 | ⟨b, off, rfl, hb, hc⟩
      · rw [e0] at hlt; simp at hlt
      obtain ⟨_, _, ⟨y0, y1⟩, a0, c0, a1, c1, rfl, rfl, i0', i1'⟩ := hc k hlt
      have y0 := (hB.cell (p := ⟨b, off + k * 2, none⟩) hb).trans y0
      have y1 := (hB.cell (p := ⟨b, off + k * 2 + 1, none⟩) hb).trans y1
      obtain ⟨hs4, hsp⟩ := sp_at HOK.out k hlt
      have HSN : Hid (impL (m.ts.take (k + 1)) = impT (impL (m.ts.take k)) m.ts[k]) := impL_snoc m.ts k hlt
      have HBB : Hid (BB (impL (m.ts.take k)) (tsp m.ts)) := by
        have h1 := imp_bb (m.ts.take k)
        have h2 := tsp_take m.ts k
        exact ⟨h1.1, fun x hx => by have := h1.2 x hx; omega⟩
      obtain ⟨l, hll⟩ : ∃ l, impL (m.ts.take k) = l := ⟨_, rfl⟩
      obtain ⟨t, ht⟩ : ∃ t, m.ts[k] = t := ⟨_, rfl⟩
      rw [hll] at ol HSN HBB
      rw [ht] at y0 y1 i0' HSN
      simp only [ht] at hs4 hsp
      obtain ⟨q, hq⟩ : ∃ q, t.sp.length = q := ⟨_, rfl⟩
      have HQ : Hid (t.sp.length = q) := hq
      have HSP : Hid (∀ j (hj : j < t.sp.length), 0 ≤ t.sp[j].1 ∧ t.sp[j].1 ≤ 5) := hsp
      rw [hq] at y0 hs4
      have HI0 : Hid (Tm.IsP w a0 t.sp) := i0'
      have HOL : Hid (Li.Own wr G (.slice (some ⟨G, 0, none⟩) 6 6) ((t.sp.take 0).foldl bump l)) := ol
      have HB : Hid (type_of% hB) := hB
      clear hc hll ht hq i1' hsp i0' ol hB
      go_wp2
      go_loopw [22] (fun i wr => ∃ j : Nat, j ≤ q ∧ i = .int .i64 j ∧ Li.Own wr G (.slice (some ⟨G, 0, none⟩) 6 6) ((t.sp.take j).foldl bump l) ∧ Below w.heap.size w wr) (fun i _ => q - (intOf i).toNat)
      case atStart =>
        refine ⟨0, Nat.zero_le _, rfl, HOL.out.below ?_, HB.out.trans (Below.mono ?_ HB.out.size)⟩
        · exact (Below.refl _ _).alloc (Nat.le_refl _) _
        · exact (Below.refl _ _).alloc (Nat.le_refl _) _
      case round =>
        clear HOL HB y0 y1
        obtain ⟨j, hj, rfl, ol, hB⟩ := hrel
        have hbj : BB ((t.sp.take j).foldl bump l) (tsp m.ts + 4) := by
          have h1 := HBB.out.fold (t.sp.take j)
          exact ⟨h1.1, fun x hx => by have := h1.2 x hx; simp only [List.length_take] at this; omega⟩
        by_cases hlj : j < q
        · have hjs : j < t.sp.length := by rw [HQ.out]; exact hlj
          obtain ⟨f0, f5⟩ := HSP.out j hjs
          have HBS : Hid ((t.sp.take (j + 1)).foldl bump l = bump ((t.sp.take j).foldl bump l) t.sp[j]) := bump_snoc l t.sp j hjs
          rcases HI0.out.below hB with e0 | ⟨pb, po, rfl, hpb, hpc⟩
          · rw [e0] at hjs; simp at hjs
          obtain ⟨d0, d1⟩ := hpc j hjs
          obtain ⟨f, hf⟩ : ∃ f, t.sp[j].1 = f := ⟨_, rfl⟩
          obtain ⟨z, hz⟩ : ∃ z, t.sp[j].2 = z := ⟨_, rfl⟩
          have hfz : t.sp[j] = (f, z) := by rw [← hf, ← hz]
          rw [hfz] at HBS
          rw [hf] at d0 f0 f5
          rw [hz] at d1
          obtain ⟨cur, hcur⟩ : ∃ cur, (t.sp.take j).foldl bump l = cur := ⟨_, rfl⟩
          rw [hcur] at ol hbj HBS
          have hcl := hbj.1
          obtain ⟨g0, g1⟩ := getD_bd hbj f.toNat
          have hcell := own_cellAt ol hcl f f0 f5
          have hfr := ol.frozen hcl f.toNat
          obtain ⟨x, hx⟩ : ∃ x, cur.getD f.toNat 0 = x := ⟨_, rfl⟩
          rw [hx] at g0 g1 hcell
          have hxx : x ≤ 2000000 := by omega
          have HS : Hid (Li.Own (wr.setCell ⟨G, f.toNat, none⟩ (.int .i64 (x + 1))) G (.slice (some ⟨G, 0, none⟩) 6 6) ((t.sp.take (j + 1)).foldl bump l)) := by
            have := ol.set hcl f.toNat (x + 1)
            rw [HBS.out]
            unfold bump
            simp only
            rw [hx]
            exact this
          have hGl := (ol.ge G rfl).2
          have HOL : Hid (type_of% ol) := ol
          have HB : Hid (type_of% hB) := hB
          have HS2 : Hid (Li.Own ((wr.setCell ⟨G, f.toNat, none⟩ (.int .i64 (x + 1))).alloc (.cells #[.int .i64 f, .int .i64 z] 46)) G (.slice (some ⟨G, 0, none⟩) 6 6) ((t.sp.take (j + 1)).foldl bump l)) := HS.out.below ((Below.refl _ _).alloc (Nat.le_refl _) _)
          have HB2 : Hid (Below w.heap.size w ((wr.setCell ⟨G, f.toNat, none⟩ (.int .i64 (x + 1))).alloc (.cells #[.int .i64 f, .int .i64 z] 46))) := (hB.setCell (p := ⟨G, f.toNat, none⟩) (by show w.heap.size ≤ G; have := HW1.out; omega) _).alloc (by have := hB.size; simpa [World.setCell] using this) _
          have hf6 : f < 6 := by omega
          clear hpc hf hz hfz hcur hcl hx ol hB hbj HS
          go_wp2
          go_roundw
          case rel => exact ⟨j + 1, by omega, by go_num, HS2.out, HB2.out⟩
          case measure => simp [intOf]; omega
        · obtain rfl : j = q := by omega
          have HN : Hid (Li.Own wr G (.slice (some ⟨G, 0, none⟩) 6 6) (impL (m.ts.take (k + 1)))) := by
            rw [HSN.out]
            unfold impT
            have := ol
            rw [← HQ.out, List.take_length] at this
            exact this
          clear ol hbj
          go_wp2
          go_roundw
          case rel => exact ⟨k + 1, by omega, by go_num, HN.out, hB⟩
          case measure => simp [intOf]; omega
    · obtain rfl : k = m.ts.length := by omega
      have HA : Hid (Li.Own wr w.heap.size (.slice (some ⟨G, 0, none⟩) 6 6) (imps m)) := by
        have := ol.mono (base' := w.heap.size) (by have := HW1.out; omega)
        rw [List.take_length] at this
        rw [HR.out]
        exact this
      clear ol
      go_wp2
      go_ret
      exact ⟨_, rfl, HA.out, hB⟩
set_option maxHeartbeats 4000000 in
theorem simpo (w : World) (ak ax : Option Addr) (ck ct : Nat) (m : M) (h : Rm w ak ax m) (hl : m.sz ≤ 1048576) :
    Calls Try.prog 8 #[.agg #[.int .i64 m.n, .int .i64 m.c, .int .i64 m.prior, .int .i64 m.base, .slice ak m.ks.length ck, .slice ax m.ts.length ct]] w fun e w' => ∃ v, e = .returned v ∧ Li.Own w' w.heap.size v (imps m) ∧ Below w.heap.size w w' := by
  obtain ⟨i0, hi, hz0, hz1, hz2⟩ := info_parts Li.info_int
  go_enter Try.func8, Try.ntmps8
  go_wp2_with fail
  obtain ⟨W, hW, hsz, hB, bm⟩ := new1 w [.int .i64 m.n, .int .i64 m.c, .int .i64 m.prior, .int .i64 m.base, .slice ak m.ks.length ck, .slice ax m.ts.length ct] 29
  rw [hW]
  clear hW hsz
  refine (smok _ _ _ _ _ m (h.below hB) hl).mono ?_
  rintro e w1 ⟨rfl, hb⟩
  have bm := bm.below hb
  have hB := hB.trans (hb.mono hB.size)
  have HW1 : Hid (w.heap.size < w1.heap.size) := bm.1
  clear hb
  cases h1 : mok m with
  | false =>
    have HR : Hid (imps m = []) := imps_no h1
    have HNO : Hid (Li.Own (w1.alloc (.cells #[] 3)) w.heap.size (.slice (some ⟨w1.heap.size, 0, none⟩) 0 0) [] ∧ Below w.heap.size w (w1.alloc (.cells #[] 3))) := ⟨Ai.own_empty w1 _ hB.size, hB.alloc hB.size _⟩
    go_wp2
    go_ret
    exact ⟨_, rfl, by rw [HR.out]; exact HNO.out.1, HNO.out.2⟩
  | true =>
  have HR : Hid (imps m = impL m.ts) := imps_yes h1
  have HOK : Hid (mok m = true) := h1
  have hszt : tsp m.ts ≤ 1048576 := by have := tsp_sz m.ts; unfold M.sz at hl; omega
  have htl : m.ts.length ≤ 12 := (mok_parts h1).2.2.2.1
  clear h1
  go_wp2_with (at_make; refine wpList_make_full _ rfl _ _ 32 rfl w1.heap.size 3 i0 (.int .i64 0) 1 Try.underlying32 hi hz0 hz1 _ _ _ _ 6 rfl rfl (by omega) (by omega) (by rw [hz2]; omega) (by unfold maxLen; omega) (Nat.le_refl _) ?_; intro w2 hown hgrow; have hb1 := below_none hgrow)
  have ol := Li.own_made hown
  have bm := bm.below hb1
  have hB := hB.trans (hb1.mono hB.size)
  obtain ⟨G, hG⟩ : ∃ G, w1.heap.size = G := ⟨_, rfl⟩
  rw [hG] at ol HW1 ⊢
  have HOL : Hid (Li.Own w2 G (.slice (some ⟨G, 0, none⟩) 6 6) (impL (m.ts.take 0))) := ol
  clear hown hgrow hb1 hG ol
  go_wp2
  go_loopw [4] (fun i wr => ∃ k : Nat, k ≤ m.ts.length ∧ i = .int .i64 k ∧ Li.Own wr G (.slice (some ⟨G, 0, none⟩) 6 6) (impL (m.ts.take k)) ∧ Wr wr w.heap.size 0 [.int .i64 m.n, .int .i64 m.c, .int .i64 m.prior, .int .i64 m.base, .slice ak m.ks.length ck, .slice ax m.ts.length ct] ∧ Below w.heap.size w wr) (fun i _ => m.ts.length - (intOf i).toNat)
  case atStart => exact ⟨0, Nat.zero_le _, rfl, HOL.out, bm, hB⟩
  case round =>
    clear HOL hB bm
    obtain ⟨k, hk, rfl, ol, bm, hB⟩ := hrel
    obtain ⟨_, ⟨x0, x1, x2, x3, x4, x5⟩, _⟩ := wr6 bm
    by_cases hlt : k < m.ts.length
    · rcases h.t with e0 | ⟨b, off, rfl, hb, hc⟩
      · rw [e0] at hlt; simp at hlt
      obtain ⟨_, _, ⟨y0, y1⟩, a0, c0, a1, c1, rfl, rfl, i0', i1'⟩ := hc k hlt
      obtain ⟨hs4, hsp⟩ := sp_at HOK.out k hlt
      have HSN : Hid (impL (m.ts.take (k + 1)) = impT (impL (m.ts.take k)) m.ts[k]) := impL_snoc m.ts k hlt
      have HBB : Hid (BB (impL (m.ts.take k)) (tsp m.ts)) := by
        have h1 := imp_bb (m.ts.take k)
        have h2 := tsp_take m.ts k
        exact ⟨h1.1, fun x hx => by have := h1.2 x hx; omega⟩
      obtain ⟨l, hll⟩ : ∃ l, impL (m.ts.take k) = l := ⟨_, rfl⟩
      obtain ⟨t, ht⟩ : ∃ t, m.ts[k] = t := ⟨_, rfl⟩
      rw [hll] at ol HSN HBB
      rw [ht] at y0 y1 i0' HSN
      simp only [ht] at hs4 hsp
      obtain ⟨q, hq⟩ : ∃ q, t.sp.length = q := ⟨_, rfl⟩
      have HQ : Hid (t.sp.length = q) := hq
      have HSP : Hid (∀ j (hj : j < t.sp.length), 0 ≤ t.sp[j].1 ∧ t.sp[j].1 ≤ 5) := hsp
      rw [hq] at y0 hs4
      have HI0 : Hid (Tm.IsP w a0 t.sp) := i0'
      have HY0 : Hid (w.cell? ⟨b, off + k * 2, none⟩ = some (.slice a0 q c0)) := y0
      have HOL : Hid (Li.Own wr G (.slice (some ⟨G, 0, none⟩) 6 6) ((t.sp.take 0).foldl bump l)) := ol
      have HB : Hid (type_of% hB) := hB
      have HBM : Hid (type_of% bm) := bm
      have hkt : (k : Int) < m.ts.length := by omega
      clear hc hll ht hq i1' hsp i0' ol hB bm y0 y1
      go_wp2
      go_loopw [5] (fun i wr => ∃ j : Nat, j ≤ q ∧ i = .int .i64 j ∧ Li.Own wr G (.slice (some ⟨G, 0, none⟩) 6 6) ((t.sp.take j).foldl bump l) ∧ Wr wr w.heap.size 0 [.int .i64 m.n, .int .i64 m.c, .int .i64 m.prior, .int .i64 m.base, .slice ak m.ks.length ck, .slice (some ⟨b, off, none⟩) m.ts.length ct] ∧ Below w.heap.size w wr) (fun i _ => q - (intOf i).toNat)
      case atStart => exact ⟨0, Nat.zero_le _, rfl, HOL.out, HBM.out, HB.out⟩
      case round =>
        clear HOL HB HBM x0 x1 x2 x3 x4 x5
        obtain ⟨j, hj, rfl, ol, bm, hB⟩ := hrel
        obtain ⟨_, ⟨x0, x1, x2, x3, x4, x5⟩, _⟩ := wr6 bm
        have y0 := (hB.cell (p := ⟨b, off + k * 2, none⟩) hb).trans HY0.out
        have hbj : BB ((t.sp.take j).foldl bump l) (tsp m.ts + 4) := by
          have h1 := HBB.out.fold (t.sp.take j)
          exact ⟨h1.1, fun x hx => by have := h1.2 x hx; simp only [List.length_take] at this; omega⟩
        by_cases hlj : j < q
        · have hjs : j < t.sp.length := by rw [HQ.out]; exact hlj
          obtain ⟨f0, f5⟩ := HSP.out j hjs
          have HBS : Hid ((t.sp.take (j + 1)).foldl bump l = bump ((t.sp.take j).foldl bump l) t.sp[j]) := bump_snoc l t.sp j hjs
          rcases HI0.out.below hB with e0 | ⟨pb, po, rfl, hpb, hpc⟩
          · rw [e0] at hjs; simp at hjs
          obtain ⟨d0, d1⟩ := hpc j hjs
          obtain ⟨f, hf⟩ : ∃ f, t.sp[j].1 = f := ⟨_, rfl⟩
          obtain ⟨z, hz⟩ : ∃ z, t.sp[j].2 = z := ⟨_, rfl⟩
          have hfz : t.sp[j] = (f, z) := by rw [← hf, ← hz]
          rw [hfz] at HBS
          rw [hf] at d0 f0 f5
          rw [hz] at d1
          obtain ⟨cur, hcur⟩ : ∃ cur, (t.sp.take j).foldl bump l = cur := ⟨_, rfl⟩
          rw [hcur] at ol hbj HBS
          have hcl := hbj.1
          obtain ⟨g0, g1⟩ := getD_bd hbj f.toNat
          have hcell := own_cellAt ol hcl f f0 f5
          have hfr := ol.frozen hcl f.toNat
          obtain ⟨x, hx⟩ : ∃ x, cur.getD f.toNat 0 = x := ⟨_, rfl⟩
          rw [hx] at g0 g1 hcell
          have hxx : x ≤ 2000000 := by omega
          have HS : Hid (Li.Own (wr.setCell ⟨G, f.toNat, none⟩ (.int .i64 (x + 1))) G (.slice (some ⟨G, 0, none⟩) 6 6) ((t.sp.take (j + 1)).foldl bump l)) := by
            have := ol.set hcl f.toNat (x + 1)
            rw [HBS.out]
            unfold bump
            simp only
            rw [hx]
            exact this
          have HM : Hid (type_of% (bm.setOther (b := G) (o := f.toNat) (v := .int .i64 (x + 1)) (by have := HW1.out; omega))) := bm.setOther (by have := HW1.out; omega)
          have HB2 : Hid (Below w.heap.size w (wr.setCell ⟨G, f.toNat, none⟩ (.int .i64 (x + 1)))) := hB.setCell (p := ⟨G, f.toNat, none⟩) (by show w.heap.size ≤ G; have := HW1.out; omega) _
          have hf6 : f < 6 := by omega
          clear hpc hf hz hfz hcur hcl hx ol hB hbj bm
          go_wp2
          go_roundw
          case rel => exact ⟨j + 1, by omega, by go_num, HS.out, HM.out, HB2.out⟩
          case measure => simp [intOf]; omega
        · obtain rfl : j = q := by omega
          have HN : Hid (Li.Own wr G (.slice (some ⟨G, 0, none⟩) 6 6) (impL (m.ts.take (k + 1)))) := by
            rw [HSN.out]
            unfold impT
            have := ol
            rw [← HQ.out, List.take_length] at this
            exact this
          clear ol hbj
          go_wp2
          go_roundw
          case rel => exact ⟨k + 1, by omega, by go_num, HN.out, bm, hB⟩
          case measure => simp [intOf]; omega
    · obtain rfl : k = m.ts.length := by omega
      have HA : Hid (Li.Own wr w.heap.size (.slice (some ⟨G, 0, none⟩) 6 6) (imps m)) := by
        have := ol.mono (base' := w.heap.size) (by have := HW1.out; omega)
        rw [List.take_length] at this
        rw [HR.out]
        exact this
      clear ol
      go_wp2
      go_ret
      exact ⟨_, rfl, HA.out, hB⟩
end Go.Proofs.Ytcadgeepknhmfaa.Md
/-
  Two lists of the call's own and a variable, made in any order; one more pair of lists put behind a list of pairs.
-/
namespace Go.Proofs.Ytcadgeepknhmfaa.Ct
set_option maxRecDepth 20000
open Go.RowKit
open Go.Proofs.Ytcadgeepknhmfaa.Tb (ownsRow_at)
open Go.Proofs.Ytcadgeepknhmfaa.Sv (Fr fr_below fr_grown Wr)
open Go.Proofs.Ytcadgeepknhmfaa.Kt (Kv OwK)
open Go.Proofs.Ytcadgeepknhmfaa.To (OwT)
set_option linter.unusedVariables false
structure Rw where
  T : TypeId
  sz : Nat
  n : Nat
  xs : List Value
def Ow (w : World) (base : Nat) (v : Value) (r : Rw) : Prop := w.ownsRow base r.T r.sz v r.n r.xs
theorem Ow.lt {w : World} {base : Nat} {v : Value} {r : Rw} (h : Ow w base v r) : ∀ k, v.ownBlock = some k → base ≤ k ∧ k < w.heap.size := World.ownsRow.lt h
theorem Ow.below {w w1 : World} {base : Nat} {v : Value} {r : Rw} (h : Ow w base v r) (hb : Below w.heap.size w w1) : Ow w1 base v r := ownsRow_at h (fun k e => hb.block k (h.lt k e).2)
theorem Ow.mono {w : World} {base b1 : Nat} {v : Value} {r : Rw} (h : Ow w base v r) (hb : b1 ≤ base) : Ow w b1 v r := by
  refine ⟨h.1, ?_⟩
  rcases h.2 with e | ⟨g, cap, cur, e, hg, rest⟩
  · exact .inl e
  · exact .inr ⟨g, cap, cur, e, Nat.le_trans hb hg, rest⟩
def pair0 : List Value := [.slice none 0 0, .slice none 0 0]
structure Tp (W wx : World) (M C : Option (Value × Rw)) (A : Option Nat) : Prop where
  bel : Below W.heap.size W wx
  oM : ∀ v r, M = some (v, r) → Ow wx W.heap.size v r
  oC : ∀ v r, C = some (v, r) → Ow wx W.heap.size v r
  oA : ∀ g, A = some g → Wr wx g 0 pair0 ∧ W.heap.size ≤ g
  mc : ∀ v r u s, M = some (v, r) → C = some (u, s) → ∀ y, v.ownBlock = some y → u.ownBlock ≠ some y
  ma : ∀ v r g, M = some (v, r) → A = some g → v.ownBlock ≠ some g
  ca : ∀ u s g, C = some (u, s) → A = some g → u.ownBlock ≠ some g
section
variable {W wx w1 : World} {M C : Option (Value × Rw)} {A : Option Nat}
theorem Tp.init (W : World) : Tp W W.drew none none none :=
  ⟨(Below.refl _ _).drew, fun v r e => (by cases e), fun v r e => (by cases e), fun g e => (by cases e), fun v r u s e => (by cases e), fun v r g e => (by cases e), fun u s g e => (by cases e)⟩
theorem Tp.below (h : Tp W wx M C A) (hb : Below wx.heap.size wx w1) : Tp W w1 M C A :=
  ⟨h.bel.trans (hb.mono h.bel.size), fun v r e => (h.oM v r e).below hb, fun v r e => (h.oC v r e).below hb, fun g e => ⟨(h.oA g e).1.below hb, (h.oA g e).2⟩, h.mc, h.ma, h.ca⟩
theorem Tp.addM (h : Tp W wx none C A) (hb : Below wx.heap.size wx w1) {v : Value} {r : Rw} (ho : Ow w1 wx.heap.size v r) : Tp W w1 (some (v, r)) C A := by
  have h' := h.below hb
  refine ⟨h'.bel, fun v' r' e => ?_, h'.oC, h'.oA, fun v' r' u s e e' y k1 k2 => ?_, fun v' r' g e e' k1 => ?_, h'.ca⟩
  · cases e; exact ho.mono h.bel.size
  · cases e; have := (ho.lt y k1).1; have := ((h.oC u s e').lt y k2).2; omega
  · cases e; have := (ho.lt g k1).1; have := (h.oA g e').1.1; omega
theorem Tp.addC (h : Tp W wx M none A) (hb : Below wx.heap.size wx w1) {v : Value} {r : Rw} (ho : Ow w1 wx.heap.size v r) : Tp W w1 M (some (v, r)) A := by
  have h' := h.below hb
  refine ⟨h'.bel, h'.oM, fun v' r' e => ?_, h'.oA, fun v' r' u s e e' y k1 k2 => ?_, h'.ma, fun v' r' g e e' k1 => ?_⟩
  · cases e; exact ho.mono h.bel.size
  · cases e'; have := (ho.lt y k2).1; have := ((h.oM v' r' e).lt y k1).2; omega
  · cases e; have := (ho.lt g k1).1; have := (h.oA g e').1.1; omega
theorem Tp.newA (h : Tp W wx M C none) (T : TypeId) : ∃ wy g, wx.alloc (.cells #[.slice none 0 0, .slice none 0 0] T) = wy ∧ wx.heap.size = g ∧ Tp W wy M C (some g) := by
  have hb : Below wx.heap.size wx (wx.alloc (.cells #[.slice none 0 0, .slice none 0 0] T)) := (Below.refl _ _).alloc (Nat.le_refl _) _
  have h' := h.below hb
  refine ⟨_, _, rfl, rfl, ⟨h'.bel, h'.oM, h'.oC, fun g e => ?_, h'.mc, fun v r g e e' k1 => ?_, fun v r g e e' k1 => ?_⟩⟩
  · cases e; exact ⟨Sv.wr_new wx pair0 T, h.bel.size⟩
  · cases e'; have := ((h.oM v r e).lt _ k1).2; omega
  · cases e'; have := ((h.oC v r e).lt _ k1).2; omega
theorem ow_new (wx : World) (T : TypeId) (sz : Nat) : Ow (wx.alloc (.cells #[] T)) wx.heap.size (.slice (some ⟨wx.heap.size, 0, none⟩) 0 0) ⟨T, sz, 0, []⟩ :=
  World.ownsRow_made wx #[] 0 (Nat.le_refl _) (by unfold maxLen; omega) (by simp)
end
end Go.Proofs.Ytcadgeepknhmfaa.Ct
/-
  Copies of lists: slices.Clone at every list; append onto a list that has just been made empty.
-/
namespace Go.Proofs.Ytcadgeepknhmfaa.Ct
set_option maxRecDepth 20000
open Go.RowKit
open Go.Proofs.Ytcadgeepknhmfaa.Tm (IsP OwnP pv pv_length)
open Go.Proofs.Ytcadgeepknhmfaa.Li (IsL iv)
set_option linter.unusedVariables false
def ri (xs : List Int) : Rw := ⟨3, 1, xs.length, iv xs⟩
def rs (xs : List ByteArray) : Rw := ⟨9, 1, xs.length, Ls.sv xs⟩
def rp (xs : List (Int × Int)) : Rw := ⟨46, 2, xs.length, pv xs⟩
theorem eql_nil0 {P : Program} (w : World) (t e : TypeId) (l c : Nat) (h : P.underlying t = some (.slice e)) : (binOp .eql t (.slice none l c) (.slice none 0 0)).run P w = .ok (.bool true) w := by
  simp only [binOp]
  simp [run_equal_slice_nil w t e none l c h]
set_option maxHeartbeats 1000000 in
theorem cloneI (w : World) (a : Option Addr) (c : Nat) (xs : List Int) (hx : IsL w a xs) (hl : xs.length ≤ 1048576) :
    Calls Try.prog 35 #[.slice a xs.length c] w fun e w' => ∃ b d, e = .returned (.slice b xs.length d) ∧ Ow w' w.heap.size (.slice b xs.length d) (ri xs) ∧ Below w.heap.size w w' := by
  obtain ⟨i0, hi, hz0, hz1, hz2⟩ := info_parts Li.info_int
  cases a with
  | none =>
    have h0 : xs = [] := by
      rcases hx with h | ⟨b, off, e, _⟩
      · exact h
      · cases e
    subst h0
    have hnil : ∀ w0 : World, Sem.run Try.prog (binOp .eql 32 (.slice none 0 c) (.slice none 0 0)) w0 = .ok (.bool true) w0 := fun w0 => eql_nil0 w0 _ _ _ _ Try.underlying32
    go_enter Try.func35, Try.ntmps35
    go_wp2
    go_ret
    exact ⟨none, 0, rfl, World.ownsRow_nil _ _ _ _, Below.refl _ _⟩
  | some x =>
    have hnil : ∀ w0 : World, Sem.run Try.prog (binOp .eql 32 (.slice (some x) xs.length c) (.slice none 0 0)) w0 = .ok (.bool false) w0 := fun w0 => Fw.eql_nil w0 _ _ _ _ _ Try.underlying32
    have hB0 : Below w.heap.size w (w.alloc (.cells #[] 3)) := (Below.refl _ _).alloc (Nat.le_refl _) _
    by_cases h0 : xs.length = 0
    · obtain rfl : xs = [] := List.length_eq_zero_iff.1 h0
      clear h0 hnil
      have hnil : ∀ w0 : World, Sem.run Try.prog (binOp .eql 32 (.slice (some x) 0 c) (.slice none 0 0)) w0 = .ok (.bool false) w0 := fun w0 => Fw.eql_nil w0 _ _ _ _ _ Try.underlying32
      have ho := ow_new w 3 1
      go_enter Try.func35, Try.ntmps35
      go_wp2
      go_ret
      exact ⟨_, _, rfl, ho, hB0⟩
    · have h0 : 0 < xs.length := by omega
      go_enter Try.func35, Try.ntmps35
      go_wp2_with (at_builtin; refine wpList_append_lies _ rfl _ _ 32 rfl w.heap.size 3 i0 (.int .i64 0) 1 8 Try.underlying32 hi hz0 hz1 hz2 rfl (by decide) (.slice (some ⟨w.heap.size, 0, none⟩) 0 0) 0 [] rfl (Ai.own_empty w _ (Nat.le_refl _)) x xs.length c (iv xs) rfl (by rw [Li.iv_length]; omega) (Ai.news_i (hx.below hB0)) (Li.iv_one _) h0 (by unfold maxLen; omega) (by omega) (by simp) _ rfl ?_)
      intro g cap w1 hown hgrow _ _
      have ho : Ow w1 w.heap.size (.slice (some ⟨g, 0, none⟩) xs.length cap) (ri xs) := by
        first | exact hown | (rw [Nat.zero_add, List.nil_append] at hown; exact hown)
      have hB1 : Below w.heap.size w w1 := Ai.below_app hB0 (by simp) hgrow (fun k hk => by simp [Value.ownBlock] at hk; omega)
      clear hown hgrow
      go_wp2
      go_ret
      exact ⟨some ⟨g, 0, none⟩, cap, by simp, ho, hB1⟩
set_option maxHeartbeats 1000000 in
theorem cloneP (w : World) (a : Option Addr) (c : Nat) (ps : List (Int × Int)) (hx : IsP w a ps) (hl : ps.length ≤ 1048576) :
    Calls Try.prog 37 #[.slice a ps.length c] w fun e w' => ∃ b d, e = .returned (.slice b ps.length d) ∧ Ow w' w.heap.size (.slice b ps.length d) (rp ps) ∧ Below w.heap.size w w' := by
  cases a with
  | none =>
    have h0 : ps = [] := by
      rcases hx with h | ⟨b, off, e, _⟩
      · exact h
      · cases e
    subst h0
    have hnil : ∀ w0 : World, Sem.run Try.prog (binOp .eql 36 (.slice none 0 c) (.slice none 0 0)) w0 = .ok (.bool true) w0 := fun w0 => eql_nil0 w0 _ _ _ _ Try.underlying36
    go_enter Try.func37, Try.ntmps37
    go_wp2
    go_ret
    exact ⟨none, 0, rfl, World.ownsRow_nil _ _ _ _, Below.refl _ _⟩
  | some x =>
    by_cases h0 : ps.length = 0
    · obtain rfl : ps = [] := List.length_eq_zero_iff.1 h0
      clear h0
      have hnil : ∀ w0 : World, Sem.run Try.prog (binOp .eql 36 (.slice (some x) 0 c) (.slice none 0 0)) w0 = .ok (.bool false) w0 := fun w0 => Fw.eql_nil w0 _ _ _ _ _ Try.underlying36
      have ho := ow_new w 46 2
      have hB0 : Below w.heap.size w (w.alloc (.cells #[] 46)) := (Below.refl _ _).alloc (Nat.le_refl _) _
      go_enter Try.func37, Try.ntmps37
      go_wp2
      go_ret
      exact ⟨_, _, rfl, ho, hB0⟩
    · refine (Fw.iclone w (some x) c ps hx (by omega) hl).mono ?_
      rintro e w' ⟨g, cap, rfl, ho, hB⟩
      exact ⟨some ⟨g, 0, none⟩, cap, rfl, ho, hB⟩
theorem wp_makeS {o : Oper} {a : Act} {w : World} {K : Act → World → Prop} {Q : Exit → Act → World → Prop} (l c : Operand) (hop : o.op = Op.makeSlice 52 l c) (dt : Option Tmp) (hd : o.dst = dt) (n : Nat) (hl : a.eval l = .int .i64 (n : Int)) (hc : a.eval c = .int .i64 (n : Int)) (hn : n ≤ 1048576)
    (h : ∀ g w', w.heap.size ≤ g → Ow w' w.heap.size (.slice (some ⟨g, 0, none⟩) n n) (rs (List.replicate n ⟨#[]⟩)) → Below w.heap.size w w' → K (a.put dt (.slice (some ⟨g, 0, none⟩) n n)) w') : o.wp Try.prog a w K Q := by
  subst hd
  obtain ⟨i0, hi, hz0, hz1, hz2⟩ := info_parts Ls.info_str
  obtain ⟨w', hrun, r1, r2⟩ := run_make_full (P := Try.prog) w w.heap.size 52 9 i0 (.string ⟨#[]⟩) 1 Try.underlying52 hi hz0 hz1 .i64 .i64 n (by rw [hz2]; omega) (by unfold maxLen; omega) (Nat.le_refl _)
  unfold Oper.wp
  simp [execOp, hop, hl, hc, hrun, Result.andThen]
  exact h _ _ (Nat.le_refl _) (Ls.own_made r1) (Li.below_none r2)
end Go.Proofs.Ytcadgeepknhmfaa.Ct
/-
  Copies of a tree and of a table of words, of both.
-/
namespace Go.Proofs.Ytcadgeepknhmfaa.Ct
set_option maxRecDepth 20000
open Go.RowKit
open Go.Proofs.Ytcadgeepknhmfaa.Tm (IsP OwnP pv)
open Go.Proofs.Ytcadgeepknhmfaa.Li (IsL iv below_none)
open Go.Proofs.Ytcadgeepknhmfaa.Sv (Wr wr2 new1 new2 Fr fr_grown)
open Go.Proofs.Ytcadgeepknhmfaa.Kt (Kv)
open Go.Proofs.Ytcadgeepknhmfaa.Tb (results_cell)
set_option linter.unusedVariables false
theorem Tp.fin {W wx : World} {u v : Value} {r s : Rw} {A : Option Nat} (h : Tp W wx (some (u, r)) (some (v, s)) A) : Ow wx W.heap.size u r ∧ Ow wx W.heap.size v s ∧ (∀ k, u.ownBlock = some k → v.ownBlock ≠ some k) := ⟨h.oM _ _ rfl, h.oC _ _ rfl, h.mc _ _ _ _ rfl rfl⟩
theorem ow_set {w : World} {base b o : Nat} {v x : Value} {r : Rw} (h : Ow w base v r) (hb : b < base) : Ow (w.setCell ⟨b, o, none⟩ x) base v r := Tb.ownsRow_at h (fun k e => (Li.grown_set w b o x).block k (h.lt k e).2 (fun e2 => by cases e2; have := (h.lt b e).1; omega))
theorem ow_put {w : World} {base b o : Nat} {v x : Value} {r : Rw} (h : Ow w base v r) (hb : v.ownBlock ≠ some b) : Ow (w.setCell ⟨b, o, none⟩ x) base v r := Tb.ownsRow_at h (fun k e => (Li.grown_set w b o x).block k (h.lt k e).2 (fun e2 => by cases e2; exact hb e))

set_option maxHeartbeats 4000000 in
theorem icopyT (w : World) (a0 a1 : Option Addr) (c0 c1 : Nat) (t : Tr.T) (h0 : IsP w a0 t.sp) (h1 : IsL w a1 t.lv) (hl : t.sp.length + t.lv.length ≤ 1048576) :
    Calls Try.prog 23 #[.agg #[.slice a0 t.sp.length c0, .slice a1 t.lv.length c1]] w fun e w' => ∃ b0 d0 b1 d1, e = .returned (.agg #[.slice b0 t.sp.length d0, .slice b1 t.lv.length d1]) ∧ OwnP w' w.heap.size (.slice b0 t.sp.length d0) t.sp ∧ Li.Own w' w.heap.size (.slice b1 t.lv.length d1) t.lv ∧ (∀ k, (Value.slice b0 t.sp.length d0).ownBlock = some k → (Value.slice b1 t.lv.length d1).ownBlock ≠ some k) ∧ Below w.heap.size w w' := by
  have hl0 : t.sp.length ≤ 1048576 := by omega
  have hl1 : t.lv.length ≤ 1048576 := by omega
  clear hl
  go_enter Try.func23, Try.ntmps23
  go_wp2_with fail
  obtain ⟨W, hW, hsz, hB, bx, br⟩ := new2 w [.slice a0 t.sp.length c0, .slice a1 t.lv.length c1] [.slice none 0 0, .slice none 0 0] 38 38
  rw [hW]
  clear hW
  have i0 := h0.below hB
  have i1 := h1.below hB
  have HSX : Hid (∀ X : World, Below W.heap.size W X → X.cell? ⟨w.heap.size, 0, none⟩ = some (.slice a0 t.sp.length c0) ∧ X.cell? ⟨w.heap.size, 1, none⟩ = some (.slice a1 t.lv.length c1)) := fun X hX => (wr2 (bx.below hX)).2.1
  have HBR : Hid (Wr W (w.heap.size + 1) 0 [.slice none 0 0, .slice none 0 0]) := br
  have HB : Hid (Below w.heap.size w W) := hB
  have HSZ : Hid (W.heap.size = w.heap.size + 2) := hsz
  have st := Tp.init W
  have hS := HSX.out _ st.bel
  clear bx br hB hsz h0 h1
  refine Hd.start (fun X => X.cell? ⟨w.heap.size, 0, none⟩ = some (.slice a0 t.sp.length c0) ∧ X.cell? ⟨w.heap.size, 1, none⟩ = some (.slice a1 t.lv.length c1)) 7 (by kernel_rfl) ?_
  generalize W.drew = w0 at st hS ⊢
  refine Hd.After.pureD (i := 0) (some 3) (.pointer (some ⟨w.heap.size, 0, none⟩)) rfl rfl (by kernel_rfl) (by decide) (by kernel_rfl) (by kernel_rfl) (fun _ _ _ h => h) (hS) (Or.inl ⟨by rfl, ?_⟩) ?_
  · intro X; go_simp; try with_reducible rfl
  (first | simp only [Act.put, List.setIfInBounds_toArray, List.set_cons_zero, List.set_cons_succ] | skip)
  refine Hd.After.takeD (i := 1) (some 4) (.slice a0 t.sp.length c0) rfl rfl (by kernel_rfl) (by kernel_rfl) (by kernel_rfl) (by kernel_rfl) (by kernel_rfl) (fun _ _ _ h => h) (hS) (Or.inl ⟨by rfl, ?_⟩) ?_
  · rintro X ⟨s0, s1⟩; go_simp; try with_reducible rfl
  (first | simp only [Act.put, List.setIfInBounds_toArray, List.set_cons_zero, List.set_cons_succ] | skip)
  refine Hd.After.pureD (i := 3) (some 6) (.pointer (some ⟨w.heap.size, 1, none⟩)) rfl rfl (by kernel_rfl) (by decide) (by kernel_rfl) (by kernel_rfl) (fun _ _ _ h => h) (hS) (Or.inl ⟨by rfl, ?_⟩) ?_
  · intro X; go_simp; try with_reducible rfl
  (first | simp only [Act.put, List.setIfInBounds_toArray, List.set_cons_zero, List.set_cons_succ] | skip)
  refine Hd.After.takeD (i := 4) (some 7) (.slice a1 t.lv.length c1) rfl rfl (by kernel_rfl) (by kernel_rfl) (by kernel_rfl) (by kernel_rfl) (by kernel_rfl) (fun _ _ _ h => h) (hS) (Or.inl ⟨by rfl, ?_⟩) ?_
  · rintro X ⟨s0, s1⟩; go_simp; try with_reducible rfl
  (first | simp only [Act.put, List.setIfInBounds_toArray, List.set_cons_zero, List.set_cons_succ] | skip)
  refine Hd.After.one (i := 2) (by kernel_rfl) rfl rfl ?_
  intro K hK
  go_simp
  go_wp2_with (go_at_call 37; refine (cloneP _ _ _ t.sp (i0.below st.bel) hl0).mono ?_; rintro e w1 ⟨b0, d0, rfl, o0, hb⟩)
  have st1 := st.addM hb o0
  clear hb
  refine hK _ _ (fun _ => HSX.out _ st1.bel) ?_
  clear hK K
  (first | simp only [Act.put, List.setIfInBounds_toArray, List.set_cons_zero, List.set_cons_succ] | skip)
  refine Hd.After.one (i := 5) (by kernel_rfl) rfl rfl ?_
  intro K hK
  go_simp
  go_wp2_with (go_at_call 35; refine (cloneI _ _ _ t.lv (i1.below st1.bel) hl1).mono ?_; rintro e w2 ⟨b1, d1, rfl, o1, hb⟩)
  have st2 := st1.addC hb o1
  clear hb
  refine hK _ _ (fun _ => HSX.out _ st2.bel) ?_
  clear hK K
  (first | simp only [Act.put, List.setIfInBounds_toArray, List.set_cons_zero, List.set_cons_succ] | skip)
  refine Hd.After.pureD (i := 6) (some 9) (.agg #[.slice b0 t.sp.length d0, .slice b1 t.lv.length d1]) rfl rfl (by kernel_rfl) (by decide) (by kernel_rfl) (by kernel_rfl) (fun _ _ _ h => h) (HSX.out _ st2.bel) (Or.inl ⟨by rfl, ?_⟩) ?_
  · intro X; go_simp; try with_reducible rfl
  (first | simp only [Act.put, List.setIfInBounds_toArray, List.set_cons_zero, List.set_cons_succ] | skip)
  have hN : w.heap.size + 1 < w2.heap.size := by have := st2.bel.size; have := HSZ.out; omega
  obtain ⟨_, ⟨q0, q1⟩, f0, f1⟩ := wr2 (HBR.out.below st2.bel)
  refine Hd.After.one (i := 7) (by kernel_rfl) rfl rfl ?_
  intro K hK
  go_simp
  refine hK _ _ (fun h => by cases h) ?_
  clear hK K
  refine Hd.After.done (by kernel_rfl) ?_ _
  obtain ⟨p0, p1, p2⟩ := st2.fin
  have hBe := HB.out.trans (st2.bel.mono HB.out.size)
  have hz := HSZ.out
  clear st st1 st2 o0 o1 HSX HBR HSZ hS i0 i1
  go_wp2
  refine bodyPost_ret (v := .agg #[.slice b0 t.sp.length d0, .slice b1 t.lv.length d1]) (by rw [results_cell rfl]; go_simp) rfl ⟨_, _, _, _, rfl, ?_, ?_, p2, ?_⟩
  · exact (ow_set (ow_set p0 (by omega)) (by omega)).mono (by omega)
  · exact (ow_set (ow_set p1 (by omega)) (by omega)).mono (by omega)
  · exact (hBe.setCell (by simp) _).setCell (by simp) _
structure Cb (W wx : World) (bo g n : Nat) (b1 : Option Addr) (m d1 : Nat) (l : List ByteArray) (vs : List Int) : Prop where
  bx : Wr wx bo 0 [.slice (some ⟨g, 0, none⟩) n n, .slice b1 m d1]
  ow : Ls.Own wx W.heap.size (.slice (some ⟨g, 0, none⟩) n n) l
  oi : Li.Own wx W.heap.size (.slice b1 m d1) vs
  n1 : ¬ bo = g
  n2 : (Value.slice b1 m d1).ownBlock ≠ some bo
  n3 : (Value.slice b1 m d1).ownBlock ≠ some g
  bel : Below W.heap.size W wx
  ge : W.heap.size ≤ bo
theorem Tp.toCb {W wx : World} {g n bo m d1 : Nat} {b1 : Option Addr} {vs : List Int} (h : Tp W wx (some (.slice (some ⟨g, 0, none⟩) n n, rs (List.replicate n ⟨#[]⟩))) (some (.slice b1 m d1, ri vs)) (some bo)) :
    Cb W ((wx.setCell ⟨bo, 0, none⟩ (.slice (some ⟨g, 0, none⟩) n n)).setCell ⟨bo, 1, none⟩ (.slice b1 m d1)) bo g n b1 m d1 (List.replicate n ⟨#[]⟩) vs := by
  obtain ⟨oA, geA⟩ := h.oA bo rfl
  have ha := h.ma _ _ _ rfl rfl
  have hc := h.ca _ _ _ rfl rfl
  have hm := h.mc _ _ _ _ rfl rfl g rfl
  refine ⟨?_, ow_put (ow_put (h.oM _ _ rfl) ha) ha, ow_put (ow_put (h.oC _ _ rfl) hc) hc, fun e => ha (by rw [e]; rfl), hc, hm, (h.bel.setCell (by exact geA) _).setCell (by exact geA) _, geA⟩
  have h1 := (oA.set 0 (by simp [pair0]) (.slice (some ⟨g, 0, none⟩) n n)).set 1 (by simp [pair0]) (.slice b1 m d1)
  exact h1
theorem Cb.below {W wx w1 : World} {bo g n m d1 : Nat} {b1 : Option Addr} {l : List ByteArray} {vs : List Int} (h : Cb W wx bo g n b1 m d1 l vs) (hb : Below wx.heap.size wx w1) : Cb W w1 bo g n b1 m d1 l vs :=
  ⟨h.bx.below hb, h.ow.below hb, h.oi.below hb, h.n1, h.n2, h.n3, h.bel.trans (hb.mono h.bel.size), h.ge⟩
theorem Cb.set {W wx : World} {bo g n m d1 : Nat} {b1 : Option Addr} {l : List ByteArray} {vs : List Int} (h : Cb W wx bo g n b1 m d1 l vs) (hn : l.length = n) (j : Nat) (x : ByteArray) : Cb W (wx.setCell ⟨g, j, none⟩ (.string x)) bo g n b1 m d1 (l.set j x) vs := by
  have hg := (h.ow.ge g rfl).1
  exact ⟨h.bx.setOther h.n1, h.ow.set hn j x, ow_put (r := ri vs) h.oi h.n3, h.n1, h.n2, h.n3, h.bel.setCell (by exact hg) _, h.ge⟩

set_option maxHeartbeats 4000000 in
theorem icopyK (w : World) (a0 a1 : Option Addr) (c0 c1 : Nat) (t : Kv) (h0 : Ls.IsS w a0 t.ws) (h1 : IsL w a1 t.vs) (hl : t.ws.length + t.vs.length ≤ 1048576) (hz : ∀ s ∈ t.ws, s.size ≤ 1048576) :
    Calls Try.prog 22 #[.agg #[.slice a0 t.ws.length c0, .slice a1 t.vs.length c1]] w fun e w' => ∃ b0 d0 b1 d1, e = .returned (.agg #[.slice b0 t.ws.length d0, .slice b1 t.vs.length d1]) ∧ Ls.Own w' w.heap.size (.slice b0 t.ws.length d0) t.ws ∧ Li.Own w' w.heap.size (.slice b1 t.vs.length d1) t.vs ∧ (∀ k, (Value.slice b0 t.ws.length d0).ownBlock = some k → (Value.slice b1 t.vs.length d1).ownBlock ≠ some k) ∧ Below w.heap.size w w' := by
  have hl0 : t.ws.length ≤ 1048576 := by omega
  have hl1 : t.vs.length ≤ 1048576 := by omega
  clear hl
  obtain ⟨n, hn⟩ : ∃ n, t.ws.length = n := ⟨_, rfl⟩
  obtain ⟨m, hm⟩ : ∃ n, t.vs.length = n := ⟨_, rfl⟩
  have HN : Hid (t.ws.length = n) := hn
  have HM : Hid (t.vs.length = m) := hm
  rw [hn] at hl0 ⊢
  rw [hm] at hl1 ⊢
  clear hn hm
  go_enter Try.func22, Try.ntmps22
  go_upto_region 1 with fail
  obtain ⟨W, hW, hsz, hB, bx, br⟩ := new2 w [.slice a0 n c0, .slice a1 m c1] [.slice none 0 0, .slice none 0 0] 54 54
  rw [hW]
  clear hW
  have i0 := h0.below hB
  have i1 := h1.below hB
  have HSX : Hid (∀ X : World, Below W.heap.size W X → X.cell? ⟨w.heap.size, 0, none⟩ = some (.slice a0 n c0) ∧ X.cell? ⟨w.heap.size, 1, none⟩ = some (.slice a1 m c1)) := fun X hX => (wr2 (bx.below hX)).2.1
  have HBR : Hid (Wr W (w.heap.size + 1) 0 [.slice none 0 0, .slice none 0 0]) := br
  have HB : Hid (Below w.heap.size w W) := hB
  have HSZ : Hid (W.heap.size = w.heap.size + 2) := hsz
  clear bx br hB hsz h0 h1
  go_cut [3] from 6 (fun p wx => ∃ bo g b1 d1, p = .pointer (some ⟨bo, 0, none⟩) ∧ Cb W wx bo g n b1 m d1 (List.replicate n ⟨#[]⟩) t.vs)
  case first =>
    have st := Tp.init W
    have hS := HSX.out _ st.bel
    refine Hd.start (fun X => X.cell? ⟨w.heap.size, 0, none⟩ = some (.slice a0 n c0) ∧ X.cell? ⟨w.heap.size, 1, none⟩ = some (.slice a1 m c1)) 9 (by kernel_rfl) ?_
    generalize W.drew = w0 at st hS ⊢
    refine Hd.After.pureD (i := 0) (some 6) (.pointer (some ⟨w.heap.size, 0, none⟩)) rfl rfl (by kernel_rfl) (by decide) (by kernel_rfl) (by kernel_rfl) (fun _ _ _ h => h) (hS) (Or.inl ⟨by rfl, ?_⟩) ?_
    · intro X; go_simp; try with_reducible rfl
    (first | simp only [Act.put, List.setIfInBounds_toArray, List.set_cons_zero, List.set_cons_succ] | skip)
    refine Hd.After.takeD (i := 1) (some 7) (.slice a0 n c0) rfl rfl (by kernel_rfl) (by kernel_rfl) (by kernel_rfl) (by kernel_rfl) (by kernel_rfl) (fun _ _ _ h => h) (hS) (Or.inl ⟨by rfl, ?_⟩) ?_
    · rintro X ⟨s0, s1⟩; go_simp; try with_reducible rfl
    (first | simp only [Act.put, List.setIfInBounds_toArray, List.set_cons_zero, List.set_cons_succ] | skip)
    refine Hd.After.pureD (i := 2) (some 8) (.int .i64 (n : Int)) rfl rfl (by kernel_rfl) (by decide) (by kernel_rfl) (by kernel_rfl) (fun _ _ _ h => h) (hS) (Or.inl ⟨by rfl, ?_⟩) ?_
    · intro X; go_simp; try with_reducible rfl
    (first | simp only [Act.put, List.setIfInBounds_toArray, List.set_cons_zero, List.set_cons_succ] | skip)
    refine Hd.After.pureD (i := 4) (some 10) (.pointer (some ⟨w.heap.size, 1, none⟩)) rfl rfl (by kernel_rfl) (by decide) (by kernel_rfl) (by kernel_rfl) (fun _ _ _ h => h) (hS) (Or.inl ⟨by rfl, ?_⟩) ?_
    · intro X; go_simp; try with_reducible rfl
    (first | simp only [Act.put, List.setIfInBounds_toArray, List.set_cons_zero, List.set_cons_succ] | skip)
    refine Hd.After.takeD (i := 5) (some 11) (.slice a1 m c1) rfl rfl (by kernel_rfl) (by kernel_rfl) (by kernel_rfl) (by kernel_rfl) (by kernel_rfl) (fun _ _ _ h => h) (hS) (Or.inl ⟨by rfl, ?_⟩) ?_
    · rintro X ⟨s0, s1⟩; go_simp; try with_reducible rfl
    (first | simp only [Act.put, List.setIfInBounds_toArray, List.set_cons_zero, List.set_cons_succ] | skip)
    refine Hd.After.three (i := 3) (j := 6) (k := 8) (by kernel_rfl) rfl rfl rfl rfl rfl rfl ?_ ?_ ?_
    · intro K hK
      refine wp_makeS _ _ rfl (some 9) rfl n rfl rfl hl0 ?_
      intro g w1 hg o0 hb
      have st1 := st.addM hb o0
      clear hb hg
      refine hK _ _ (fun _ => HSX.out _ st1.bel) ?_
      clear hK K
      (first | simp only [Act.put, List.setIfInBounds_toArray, List.set_cons_zero, List.set_cons_succ] | skip)
      refine Hd.After.two (i := 6) (j := 8) (by kernel_rfl) rfl rfl rfl rfl ?_ ?_
      · intro K hK
        go_simp
        rw [← HM.out]
        go_wp2_with (go_at_call 35; refine (cloneI _ _ _ t.vs (i1.below st1.bel) (by rw [HM.out]; exact hl1)).mono ?_; rintro e w2 ⟨b1, d1, rfl, o1, hb⟩; rw [HM.out] at o1 ⊢)
        have st2 := st1.addC hb o1
        clear hb
        refine hK _ _ (fun _ => HSX.out _ st2.bel) ?_
        clear hK K
        (first | simp only [Act.put, List.setIfInBounds_toArray, List.set_cons_zero, List.set_cons_succ] | skip)
        refine Hd.After.pureD (i := 7) (some 13) (.agg #[.slice (some ⟨g, 0, none⟩) n n, .slice b1 m d1]) rfl rfl (by kernel_rfl) (by decide) (by kernel_rfl) (by kernel_rfl) (fun _ _ _ h => h) (HSX.out _ st2.bel) (Or.inl ⟨by rfl, ?_⟩) ?_
        · intro X; go_simp; try with_reducible rfl
        (first | simp only [Act.put, List.setIfInBounds_toArray, List.set_cons_zero, List.set_cons_succ] | skip)
        refine Hd.After.one (i := 8) (by kernel_rfl) rfl rfl ?_
        intro K hK
        go_simp
        obtain ⟨w3, bo, hw, hg, st3⟩ := st2.newA 54
        rw [hw, hg]
        clear hw hg
        refine hK _ _ (fun _ => HSX.out _ st3.bel) ?_
        clear hK K
        (first | simp only [Act.put, List.setIfInBounds_toArray, List.set_cons_zero, List.set_cons_succ] | skip)
        have HCB : Hid (type_of% st3.toCb) := st3.toCb
        obtain ⟨hbl, ⟨q0, q1⟩, f0, f1⟩ := wr2 (st3.oA bo rfl).1
        refine Hd.After.one (i := 9) (by kernel_rfl) rfl rfl ?_
        intro K hK
        go_simp
        refine hK _ _ (fun h => by cases h) ?_
        clear hK K
        refine Hd.After.done (by kernel_rfl) ?_ _
        clear st st1 st2 st3 o0 o1 q0 q1 f0 f1 hbl hS
        go_wp2_with fail
        go_meet
        exact ⟨bo, g, b1, d1, rfl, HCB.out⟩
      · intro K hK
        go_simp
        obtain ⟨w2, bo, hw, hg, st2⟩ := st1.newA 54
        rw [hw, hg]
        clear hw hg
        refine hK _ _ (fun _ => HSX.out _ st2.bel) ?_
        clear hK K
        (first | simp only [Act.put, List.setIfInBounds_toArray, List.set_cons_zero, List.set_cons_succ] | skip)
        refine Hd.After.one (i := 6) (by kernel_rfl) rfl rfl ?_
        intro K hK
        go_simp
        rw [← HM.out]
        go_wp2_with (go_at_call 35; refine (cloneI _ _ _ t.vs (i1.below st2.bel) (by rw [HM.out]; exact hl1)).mono ?_; rintro e w3 ⟨b1, d1, rfl, o1, hb⟩; rw [HM.out] at o1 ⊢)
        have st3 := st2.addC hb o1
        clear hb
        refine hK _ _ (fun _ => HSX.out _ st3.bel) ?_
        clear hK K
        (first | simp only [Act.put, List.setIfInBounds_toArray, List.set_cons_zero, List.set_cons_succ] | skip)
        refine Hd.After.pureD (i := 7) (some 13) (.agg #[.slice (some ⟨g, 0, none⟩) n n, .slice b1 m d1]) rfl rfl (by kernel_rfl) (by decide) (by kernel_rfl) (by kernel_rfl) (fun _ _ _ h => h) (HSX.out _ st3.bel) (Or.inl ⟨by rfl, ?_⟩) ?_
        · intro X; go_simp; try with_reducible rfl
        (first | simp only [Act.put, List.setIfInBounds_toArray, List.set_cons_zero, List.set_cons_succ] | skip)
        have HCB : Hid (type_of% st3.toCb) := st3.toCb
        obtain ⟨hbl, ⟨q0, q1⟩, f0, f1⟩ := wr2 (st3.oA bo rfl).1
        refine Hd.After.one (i := 9) (by kernel_rfl) rfl rfl ?_
        intro K hK
        go_simp
        refine hK _ _ (fun h => by cases h) ?_
        clear hK K
        refine Hd.After.done (by kernel_rfl) ?_ _
        clear st st1 st2 st3 o0 o1 q0 q1 f0 f1 hbl hS
        go_wp2_with fail
        go_meet
        exact ⟨bo, g, b1, d1, rfl, HCB.out⟩
    · intro K hK
      go_simp
      rw [← HM.out]
      go_wp2_with (go_at_call 35; refine (cloneI _ _ _ t.vs (i1.below st.bel) (by rw [HM.out]; exact hl1)).mono ?_; rintro e w1 ⟨b1, d1, rfl, o1, hb⟩; rw [HM.out] at o1 ⊢)
      have st1 := st.addC hb o1
      clear hb
      refine hK _ _ (fun _ => HSX.out _ st1.bel) ?_
      clear hK K
      (first | simp only [Act.put, List.setIfInBounds_toArray, List.set_cons_zero, List.set_cons_succ] | skip)
      refine Hd.After.two (i := 3) (j := 8) (by kernel_rfl) rfl rfl rfl rfl ?_ ?_
      · intro K hK
        refine wp_makeS _ _ rfl (some 9) rfl n rfl rfl hl0 ?_
        intro g w2 hg o0 hb
        have st2 := st1.addM hb o0
        clear hb hg
        refine hK _ _ (fun _ => HSX.out _ st2.bel) ?_
        clear hK K
        (first | simp only [Act.put, List.setIfInBounds_toArray, List.set_cons_zero, List.set_cons_succ] | skip)
        refine Hd.After.pureD (i := 7) (some 13) (.agg #[.slice (some ⟨g, 0, none⟩) n n, .slice b1 m d1]) rfl rfl (by kernel_rfl) (by decide) (by kernel_rfl) (by kernel_rfl) (fun _ _ _ h => h) (HSX.out _ st2.bel) (Or.inl ⟨by rfl, ?_⟩) ?_
        · intro X; go_simp; try with_reducible rfl
        (first | simp only [Act.put, List.setIfInBounds_toArray, List.set_cons_zero, List.set_cons_succ] | skip)
        refine Hd.After.one (i := 8) (by kernel_rfl) rfl rfl ?_
        intro K hK
        go_simp
        obtain ⟨w3, bo, hw, hg, st3⟩ := st2.newA 54
        rw [hw, hg]
        clear hw hg
        refine hK _ _ (fun _ => HSX.out _ st3.bel) ?_
        clear hK K
        (first | simp only [Act.put, List.setIfInBounds_toArray, List.set_cons_zero, List.set_cons_succ] | skip)
        have HCB : Hid (type_of% st3.toCb) := st3.toCb
        obtain ⟨hbl, ⟨q0, q1⟩, f0, f1⟩ := wr2 (st3.oA bo rfl).1
        refine Hd.After.one (i := 9) (by kernel_rfl) rfl rfl ?_
        intro K hK
        go_simp
        refine hK _ _ (fun h => by cases h) ?_
        clear hK K
        refine Hd.After.done (by kernel_rfl) ?_ _
        clear st st1 st2 st3 o0 o1 q0 q1 f0 f1 hbl hS
        go_wp2_with fail
        go_meet
        exact ⟨bo, g, b1, d1, rfl, HCB.out⟩
      · intro K hK
        go_simp
        obtain ⟨w2, bo, hw, hg, st2⟩ := st1.newA 54
        rw [hw, hg]
        clear hw hg
        refine hK _ _ (fun _ => HSX.out _ st2.bel) ?_
        clear hK K
        (first | simp only [Act.put, List.setIfInBounds_toArray, List.set_cons_zero, List.set_cons_succ] | skip)
        refine Hd.After.one (i := 3) (by kernel_rfl) rfl rfl ?_
        intro K hK
        refine wp_makeS _ _ rfl (some 9) rfl n rfl rfl hl0 ?_
        intro g w3 hg o0 hb
        have st3 := st2.addM hb o0
        clear hb hg
        refine hK _ _ (fun _ => HSX.out _ st3.bel) ?_
        clear hK K
        (first | simp only [Act.put, List.setIfInBounds_toArray, List.set_cons_zero, List.set_cons_succ] | skip)
        refine Hd.After.pureD (i := 7) (some 13) (.agg #[.slice (some ⟨g, 0, none⟩) n n, .slice b1 m d1]) rfl rfl (by kernel_rfl) (by decide) (by kernel_rfl) (by kernel_rfl) (fun _ _ _ h => h) (HSX.out _ st3.bel) (Or.inl ⟨by rfl, ?_⟩) ?_
        · intro X; go_simp; try with_reducible rfl
        (first | simp only [Act.put, List.setIfInBounds_toArray, List.set_cons_zero, List.set_cons_succ] | skip)
        have HCB : Hid (type_of% st3.toCb) := st3.toCb
        obtain ⟨hbl, ⟨q0, q1⟩, f0, f1⟩ := wr2 (st3.oA bo rfl).1
        refine Hd.After.one (i := 9) (by kernel_rfl) rfl rfl ?_
        intro K hK
        go_simp
        refine hK _ _ (fun h => by cases h) ?_
        clear hK K
        refine Hd.After.done (by kernel_rfl) ?_ _
        clear st st1 st2 st3 o0 o1 q0 q1 f0 f1 hbl hS
        go_wp2_with fail
        go_meet
        exact ⟨bo, g, b1, d1, rfl, HCB.out⟩
    · intro K hK
      go_simp
      obtain ⟨w1, bo, hw, hg, st1⟩ := st.newA 54
      rw [hw, hg]
      clear hw hg
      refine hK _ _ (fun _ => HSX.out _ st1.bel) ?_
      clear hK K
      (first | simp only [Act.put, List.setIfInBounds_toArray, List.set_cons_zero, List.set_cons_succ] | skip)
      refine Hd.After.two (i := 3) (j := 6) (by kernel_rfl) rfl rfl rfl rfl ?_ ?_
      · intro K hK
        refine wp_makeS _ _ rfl (some 9) rfl n rfl rfl hl0 ?_
        intro g w2 hg o0 hb
        have st2 := st1.addM hb o0
        clear hb hg
        refine hK _ _ (fun _ => HSX.out _ st2.bel) ?_
        clear hK K
        (first | simp only [Act.put, List.setIfInBounds_toArray, List.set_cons_zero, List.set_cons_succ] | skip)
        refine Hd.After.one (i := 6) (by kernel_rfl) rfl rfl ?_
        intro K hK
        go_simp
        rw [← HM.out]
        go_wp2_with (go_at_call 35; refine (cloneI _ _ _ t.vs (i1.below st2.bel) (by rw [HM.out]; exact hl1)).mono ?_; rintro e w3 ⟨b1, d1, rfl, o1, hb⟩; rw [HM.out] at o1 ⊢)
        have st3 := st2.addC hb o1
        clear hb
        refine hK _ _ (fun _ => HSX.out _ st3.bel) ?_
        clear hK K
        (first | simp only [Act.put, List.setIfInBounds_toArray, List.set_cons_zero, List.set_cons_succ] | skip)
        refine Hd.After.pureD (i := 7) (some 13) (.agg #[.slice (some ⟨g, 0, none⟩) n n, .slice b1 m d1]) rfl rfl (by kernel_rfl) (by decide) (by kernel_rfl) (by kernel_rfl) (fun _ _ _ h => h) (HSX.out _ st3.bel) (Or.inl ⟨by rfl, ?_⟩) ?_
        · intro X; go_simp; try with_reducible rfl
        (first | simp only [Act.put, List.setIfInBounds_toArray, List.set_cons_zero, List.set_cons_succ] | skip)
        have HCB : Hid (type_of% st3.toCb) := st3.toCb
        obtain ⟨hbl, ⟨q0, q1⟩, f0, f1⟩ := wr2 (st3.oA bo rfl).1
        refine Hd.After.one (i := 9) (by kernel_rfl) rfl rfl ?_
        intro K hK
        go_simp
        refine hK _ _ (fun h => by cases h) ?_
        clear hK K
        refine Hd.After.done (by kernel_rfl) ?_ _
        clear st st1 st2 st3 o0 o1 q0 q1 f0 f1 hbl hS
        go_wp2_with fail
        go_meet
        exact ⟨bo, g, b1, d1, rfl, HCB.out⟩
      · intro K hK
        go_simp
        rw [← HM.out]
        go_wp2_with (go_at_call 35; refine (cloneI _ _ _ t.vs (i1.below st1.bel) (by rw [HM.out]; exact hl1)).mono ?_; rintro e w2 ⟨b1, d1, rfl, o1, hb⟩; rw [HM.out] at o1 ⊢)
        have st2 := st1.addC hb o1
        clear hb
        refine hK _ _ (fun _ => HSX.out _ st2.bel) ?_
        clear hK K
        (first | simp only [Act.put, List.setIfInBounds_toArray, List.set_cons_zero, List.set_cons_succ] | skip)
        refine Hd.After.one (i := 3) (by kernel_rfl) rfl rfl ?_
        intro K hK
        refine wp_makeS _ _ rfl (some 9) rfl n rfl rfl hl0 ?_
        intro g w3 hg o0 hb
        have st3 := st2.addM hb o0
        clear hb hg
        refine hK _ _ (fun _ => HSX.out _ st3.bel) ?_
        clear hK K
        (first | simp only [Act.put, List.setIfInBounds_toArray, List.set_cons_zero, List.set_cons_succ] | skip)
        refine Hd.After.pureD (i := 7) (some 13) (.agg #[.slice (some ⟨g, 0, none⟩) n n, .slice b1 m d1]) rfl rfl (by kernel_rfl) (by decide) (by kernel_rfl) (by kernel_rfl) (fun _ _ _ h => h) (HSX.out _ st3.bel) (Or.inl ⟨by rfl, ?_⟩) ?_
        · intro X; go_simp; try with_reducible rfl
        (first | simp only [Act.put, List.setIfInBounds_toArray, List.set_cons_zero, List.set_cons_succ] | skip)
        have HCB : Hid (type_of% st3.toCb) := st3.toCb
        obtain ⟨hbl, ⟨q0, q1⟩, f0, f1⟩ := wr2 (st3.oA bo rfl).1
        refine Hd.After.one (i := 9) (by kernel_rfl) rfl rfl ?_
        intro K hK
        go_simp
        refine hK _ _ (fun h => by cases h) ?_
        clear hK K
        refine Hd.After.done (by kernel_rfl) ?_ _
        clear st st1 st2 st3 o0 o1 q0 q1 f0 f1 hbl hS
        go_wp2_with fail
        go_meet
        exact ⟨bo, g, b1, d1, rfl, HCB.out⟩
  case rest =>
    obtain ⟨bo, g, b1, d1, rfl, cb⟩ := hcut
    obtain ⟨x0, x1⟩ := HSX.out _ cb.bel
    go_wp2
    go_loopw [17] (fun i wr => ∃ (k : Nat) (l : List ByteArray), k ≤ n ∧ i = .int .i64 k ∧ l.length = n ∧ Ls.Like l t.ws k ∧ Cb W wr bo g n b1 m d1 l t.vs) (fun i _ => n - (intOf i).toNat)
    case atStart => exact ⟨0, List.replicate n ⟨#[]⟩, Nat.zero_le _, rfl, by simp, fun j hj => by omega, cb⟩
    case round =>
      clear cb x0 x1
      obtain ⟨k, l, hk, rfl, hll, hlike, cb⟩ := hrel
      have HLL : Hid (l.length = n) := hll
      have HLK : Hid (Ls.Like l t.ws k) := hlike
      clear hll hlike
      have nb := cb.n1
      have nb' : ¬ g = bo := fun e => nb e.symm
      by_cases hlt : k < n
      · have hlw : k < t.ws.length := by rw [HN.out]; exact hlt
        rcases i0.below cb.bel with e0 | ⟨xb, xo, rfl, hxb, hxc⟩
        · rw [e0] at hlw; simp at hlw
        have d := hxc k hlw
        have hzs := hz t.ws[k] (List.getElem_mem hlw)
        have HL : Hid (Ls.Like (l.set k t.ws[k]) t.ws (k + 1)) := Ls.like_set HLK.out hlw (by rw [HLL.out, HN.out])
        generalize t.ws[k] = s at d hzs HL
        obtain ⟨hbl, ⟨y0, y1⟩, _⟩ := wr2 cb.bx
        have HCB : Hid (type_of% cb) := cb
        have HBD : Hid (Below wr.heap.size wr wr.drew) := (Below.refl wr.heap.size wr).drew
        clear hxc hlw cb
        go_wp2_with fail
        go_region_held3 (fun w' => w'.cell? ⟨bo, 0, none⟩ = some (.slice (some ⟨g, 0, none⟩) n n)) (go_keep) (first
          | (go_at_call 36
             refine (Co.clone _ s (by omega)).mono ?_
             rintro e w5 ⟨rfl, hb⟩
             have HC5 : Hid (Cb W w5 bo g n b1 m d1 l t.vs) := HCB.out.below (HBD.out.trans hb)
             obtain ⟨_, ⟨z0, z1⟩, _⟩ := wr2 HC5.out.bx
             have hcl := HC5.out.ow.cell HLL.out k (by rw [HLL.out]; exact hlt)
             have hcf := HC5.out.ow.frozen HLL.out k
             have hgl := (HC5.out.ow.ge g rfl).2
             clear hb))
        have HC6 : Hid (Cb W (w5.setCell ⟨g, k, none⟩ (.string s)) bo g n b1 m d1 (l.set k s) t.vs) := HC5.out.set HLL.out k s
        have HL6 : Hid ((l.set k s).length = n) := by show _ = _; rw [List.length_set]; exact HLL.out
        clear y0 y1 z0 z1 hcl hcf hgl d
        go_wp2
        go_roundw
        case rel => exact ⟨k + 1, l.set k s, by omega, by go_num, HL6.out, HL.out, HC6.out⟩
        case measure => simp [intOf]; omega
      · have e := Ls.like_all (xs := t.ws) (ys := l) (by rw [HN.out, show n = k by omega]; exact HLK.out) (by rw [HN.out]; exact HLL.out)
        subst e
        obtain ⟨hbl, ⟨y0, y1⟩, _⟩ := wr2 cb.bx
        obtain ⟨hbr, ⟨q0, q1⟩, f0, f1⟩ := wr2 (HBR.out.below cb.bel)
        have HCB : Hid (type_of% cb) := cb
        have hz2 := HSZ.out
        clear cb
        go_wp2
        have cb := HCB.out
        have hge := cb.ge
        refine bodyPost_ret (v := .agg #[.slice (some ⟨g, 0, none⟩) n n, .slice b1 m d1]) (by rw [results_cell rfl]; go_simp) rfl ⟨_, _, _, _, rfl, ?_, ?_, ?_, ?_⟩
        · exact (ow_set (r := rs t.ws) (ow_set cb.ow (by omega)) (by omega)).mono (by omega)
        · exact (ow_set (r := ri t.vs) (ow_set cb.oi (by omega)) (by omega)).mono (by omega)
        · intro y ey; simp [Value.ownBlock] at ey; subst ey; exact cb.n3
        · exact ((HB.out.trans (cb.bel.mono HB.out.size)).setCell (by simp) _).setCell (by simp) _
end Go.Proofs.Ytcadgeepknhmfaa.Ct
