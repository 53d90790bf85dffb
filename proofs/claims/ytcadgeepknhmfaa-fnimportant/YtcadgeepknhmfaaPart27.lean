/-
  Contracts that the proof leans on, put together in the order in which they build.
-/
import Derived.Test.YtcadgeepknhmfaaPart26
import Derived.Test.YtcadgeepknhmfaaPart4
import Derived.Test.YtcadgeepknhmfaaPart18
import Derived.Test.YtcadgeepknhmfaaPart6
import Derived.Deep.AppendLies
import Derived.Test.YtcadgeepknhmfaaPart22
import Derived.Test.YtcadgeepknhmfaaPart12
import Derived.Deep.Upon
/-
  Importance of both.
-/
namespace Go.Proofs.Ytcadgeepknhmfaa.Md
set_option maxRecDepth 20000
open Go.RowKit
open Go.Proofs.Ytcadgeepknhmfaa.Li (ret_bool ret_int btw below_none)
open Go.Proofs.Ytcadgeepknhmfaa.Tm (IsT szT)
open Go.Proofs.Ytcadgeepknhmfaa.Sv (new1 new2 Wr wr2)
set_option linter.unusedVariables false
def bump (l : List Int) (p : Int × Int) : List Int := l.set p.1.toNat (l.getD p.1.toNat 0 + 1)
def impT (l : List Int) (t : Tr.T) : List Int := t.sp.foldl bump l
def impL (ts : List Tr.T) : List Int := ts.foldl impT (List.replicate 6 0)
def imps (m : M) : List Int := if mok m = true then impL m.ts else []
def tsp : List Tr.T → Nat
  | [] => 0
  | t :: ts => t.sp.length + tsp ts
/-- Six numbers of at most N. -/
def BB (l : List Int) (N : Nat) : Prop := l.length = 6 ∧ ∀ x ∈ l, 0 ≤ x ∧ x ≤ (N : Int)
theorem BB.bump {l : List Int} {N : Nat} (h : BB l N) (p : Int × Int) : BB (Md.bump l p) (N + 1) := by
  refine ⟨by simpa [Md.bump] using h.1, fun x hx => ?_⟩
  rcases List.mem_or_eq_of_mem_set hx with h1 | h1
  · have := h.2 x h1; omega
  · have hg : 0 ≤ l.getD p.1.toNat 0 ∧ l.getD p.1.toNat 0 ≤ (N : Int) := by
      rw [List.getD_eq_getElem?_getD]
      cases hq : l[p.1.toNat]? with
      | none => simp
      | some y => exact h.2 y (List.mem_of_getElem? hq)
    omega
theorem BB.fold {l : List Int} {N : Nat} (h : BB l N) (ps : List (Int × Int)) : BB (ps.foldl Md.bump l) (N + ps.length) := by
  induction ps generalizing l N with
  | nil => exact h
  | cons p ps ih =>
    have := ih (h.bump p)
    rw [List.foldl_cons, List.length_cons, show N + (ps.length + 1) = N + 1 + ps.length by omega]
    exact this
theorem impT_bb {l : List Int} {N : Nat} (h : BB l N) (t : Tr.T) : BB (impT l t) (N + t.sp.length) := h.fold t.sp
theorem imp_fold {l : List Int} {N : Nat} (h : BB l N) (ts : List Tr.T) : BB (ts.foldl impT l) (N + tsp ts) := by
  induction ts generalizing l N with
  | nil => exact h
  | cons t ts ih =>
    have := ih (impT_bb h t)
    rw [List.foldl_cons]
    simp only [tsp]
    rw [show N + (t.sp.length + tsp ts) = N + t.sp.length + tsp ts by omega]
    exact this
theorem imp_bb (ts : List Tr.T) : BB (impL ts) (tsp ts) := by
  have := imp_fold (l := List.replicate 6 0) (N := 0) ⟨by simp, fun x hx => by simp at hx; omega⟩ ts
  rw [Nat.zero_add] at this
  exact this
theorem tsp_sz (ts : List Tr.T) : tsp ts ≤ szT ts := by
  induction ts with
  | nil => simp [tsp, szT]
  | cons t ts ih => simp only [tsp, szT, Tm.szt]; omega
theorem tsp_take (ts : List Tr.T) (k : Nat) : tsp (ts.take k) ≤ tsp ts := by
  induction ts generalizing k with
  | nil => simp
  | cons t ts ih =>
    cases k with
    | zero => simp [tsp]
    | succ k => simp only [List.take_succ_cons, tsp]; have := ih k; omega
theorem impL_snoc (ts : List Tr.T) (k : Nat) (h : k < ts.length) : impL (ts.take (k + 1)) = impT (impL (ts.take k)) ts[k] := by
  unfold impL
  rw [List.take_succ_eq_append_getElem h, List.foldl_append]; rfl
theorem bump_snoc (l : List Int) (ps : List (Int × Int)) (j : Nat) (h : j < ps.length) : (ps.take (j + 1)).foldl bump l = bump ((ps.take j).foldl bump l) ps[j] := by
  rw [List.take_succ_eq_append_getElem h, List.foldl_append]; rfl
theorem imps_len (m : M) : (imps m).length ≤ 6 := by
  unfold imps
  split
  · rw [(imp_bb m.ts).1]; omega
  · simp
theorem imps_no {m : M} (h : mok m = false) : imps m = [] := by unfold imps; rw [if_neg (by rw [h]; simp)]
theorem imps_yes {m : M} (h : mok m = true) : imps m = impL m.ts := by unfold imps; rw [if_pos h]
theorem sp_at {m : M} (h : mok m = true) (k : Nat) (hk : k < m.ts.length) : m.ts[k].sp.length ≤ 4 ∧ ∀ j (hj : j < m.ts[k].sp.length), 0 ≤ m.ts[k].sp[j].1 ∧ m.ts[k].sp[j].1 ≤ 5 := by
  have h1 := (mok_parts h).2.2.2.2.2.1
  have h2 : Tr.tok m.ts[k] = true := by
    unfold Sw.allok at h1
    rw [List.all_eq_true] at h1
    exact h1 _ (List.getElem_mem hk)
  unfold Tr.tok at h2
  simp only [Bool.and_eq_true, decide_eq_true_eq] at h2
  refine ⟨h2.1.1, fun j hj => ?_⟩
  have h3 := h2.2.1
  rw [List.all_eq_true] at h3
  have h4 := h3 _ (List.getElem_mem hj)
  have h5 := Tw.btw5 m.ts[k].sp[j].1 m.ts[k].sp[j].2
  rw [show (m.ts[k].sp[j].1, m.ts[k].sp[j].2) = m.ts[k].sp[j] from rfl, h4] at h5
  have h6 := h5.symm
  simp only [Bool.and_eq_true] at h6
  have := h6.1
  simpa [btw] using this
theorem own_cellAt {w : World} {B G : Nat} {l : List Int} (h : Li.Own w B (.slice (some ⟨G, 0, none⟩) 6 6) l) (hl : l.length = 6) (f : Int) (h0 : 0 ≤ f) (h5 : f ≤ 5) : w.cell? ⟨G, f.toNat, none⟩ = some (.int .i64 (l.getD f.toNat 0)) := by
  have hf : f.toNat < l.length := by omega
  rw [h.cell hl f.toNat hf]
  simp [List.getD_eq_getElem?_getD, hf]
theorem getD_bd {l : List Int} {N : Nat} (h : BB l N) (j : Nat) : 0 ≤ l.getD j 0 ∧ l.getD j 0 ≤ (N : Int) := by
  rw [List.getD_eq_getElem?_getD]
  cases hq : l[j]? with
  | none => simp
  | some y => exact h.2 y (List.mem_of_getElem? hq)
set_option maxHeartbeats 4000000 in
theorem iimp (w : World) (ak ax : Option Addr) (ck ct : Nat) (m : M) (h : Rm w ak ax m) (hl : m.sz ≤ 1048576) :
    Calls Try.prog 6 #[.agg #[.int .i64 m.n, .int .i64 m.c, .int .i64 m.prior, .int .i64 m.base, .slice ak m.ks.length ck, .slice ax m.ts.length ct]] w fun e w' => ∃ v, e = .returned v ∧ Li.Own w' w.heap.size v (imps m) ∧ Below w.heap.size w w' := by
  obtain ⟨i0, hi, hz0, hz1, hz2⟩ := info_parts Li.info_int
  go_enter Try.func6, Try.ntmps6
  go_wp2_with fail
  obtain ⟨W, hW, hsz, hB, bm⟩ := new1 w [.int .i64 m.n, .int .i64 m.c, .int .i64 m.prior, .int .i64 m.base, .slice ak m.ks.length ck, .slice ax m.ts.length ct] 29
  rw [hW]
  clear hW hsz
  refine (imok _ _ _ _ _ m (h.below hB) hl).mono ?_
  rintro e w1 ⟨rfl, hb⟩
  have bm := bm.below hb
  have hB := hB.trans (hb.mono hB.size)
  have HW1 : Hid (w.heap.size < w1.heap.size) := bm.1
  clear hb
  cases h1 : mok m with
  | false =>
    have HR : Hid (imps m = []) := imps_no h1
    go_wp2
    go_ret
    exact ⟨_, rfl, by rw [HR.out]; exact Li.Own.nil _ _, hB⟩
  | true =>
  have HR : Hid (imps m = impL m.ts) := imps_yes h1
  have HOK : Hid (mok m = true) := h1
  have hszt : tsp m.ts ≤ 1048576 := by have := tsp_sz m.ts; unfold M.sz at hl; omega
  have htl : m.ts.length ≤ 12 := (mok_parts h1).2.2.2.1
  clear h1
  go_wp2_with (at_make; refine wpList_make_full _ rfl _ _ 32 rfl w1.heap.size 3 i0 (.int .i64 0) 1 Try.underlying32 hi hz0 hz1 _ _ _ _ 6 rfl rfl (by omega) (by omega) (by rw [hz2]; omega) (by unfold maxLen; omega) (Nat.le_refl _) ?_; intro w2 hown hgrow; have hb1 := below_none hgrow; obtain ⟨_, ⟨x0, x1, x2, x3, x4, x5⟩, _⟩ := wr6 (bm.below hb1))
  have ol := Li.own_made hown
  have hB := hB.trans (hb1.mono hB.size)
  obtain ⟨G, hG⟩ : ∃ G, w1.heap.size = G := ⟨_, rfl⟩
  rw [hG] at ol HW1 ⊢
  have HOL : Hid (Li.Own w2 G (.slice (some ⟨G, 0, none⟩) 6 6) (impL (m.ts.take 0))) := ol
  clear hown hgrow hb1 hG x0 x1 x2 x3 x4 x5 ol bm
  go_wp2
  go_loopw [15] (fun i wr => ∃ k : Nat, k ≤ m.ts.length ∧ i = .int .i64 k ∧ Li.Own wr G (.slice (some ⟨G, 0, none⟩) 6 6) (impL (m.ts.take k)) ∧ Below w.heap.size w wr) (fun i _ => m.ts.length - (intOf i).toNat)
  case atStart => exact ⟨0, Nat.zero_le _, rfl, HOL.out, hB⟩
  case round =>
    clear HOL hB
    obtain ⟨k, hk, rfl, ol, hB⟩ := hrel
    by_cases hlt : k < m.ts.length
    · rcases h.t with e0 | ⟨b, off, rfl, hb, hc⟩
      · rw [e0] at hlt; simp at hlt
      obtain ⟨_, _, ⟨y0, y1⟩, a0, c0, a1, c1, rfl, rfl, i0', i1'⟩ := hc k hlt
      have y0 := (hB.cell (p := ⟨b, off + k * 2, none⟩) hb).trans y0
      have y1 := (hB.cell (p := ⟨b, off + k * 2 + 1, none⟩) hb).trans y1
      obtain ⟨hs4, hsp⟩ := sp_at HOK.out k hlt
      have HSN : Hid (impL (m.ts.take (k + 1)) = impT (impL (m.ts.take k)) m.ts[k]) := impL_snoc m.ts k hlt
      have HBB : Hid (BB (impL (m.ts.take k)) (tsp m.ts)) := by
        have h1 := imp_bb (m.ts.take k)
        have h2 := tsp_take m.ts k
        exact ⟨h1.1, fun x hx => by have := h1.2 x hx; omega⟩
      obtain ⟨l, hll⟩ : ∃ l, impL (m.ts.take k) = l := ⟨_, rfl⟩
      obtain ⟨t, ht⟩ : ∃ t, m.ts[k] = t := ⟨_, rfl⟩
      rw [hll] at ol HSN HBB
      rw [ht] at y0 y1 i0' HSN
      simp only [ht] at hs4 hsp
      obtain ⟨q, hq⟩ : ∃ q, t.sp.length = q := ⟨_, rfl⟩
      have HQ : Hid (t.sp.length = q) := hq
      have HSP : Hid (∀ j (hj : j < t.sp.length), 0 ≤ t.sp[j].1 ∧ t.sp[j].1 ≤ 5) := hsp
      rw [hq] at y0 hs4
      have HI0 : Hid (Tm.IsP w a0 t.sp) := i0'
      have HOL : Hid (Li.Own wr G (.slice (some ⟨G, 0, none⟩) 6 6) ((t.sp.take 0).foldl bump l)) := ol
      have HB : Hid (type_of% hB) := hB
      clear hc hll ht hq i1' hsp i0' ol hB
      go_wp2
      go_loopw [22] (fun i wr => ∃ j : Nat, j ≤ q ∧ i = .int .i64 j ∧ Li.Own wr G (.slice (some ⟨G, 0, none⟩) 6 6) ((t.sp.take j).foldl bump l) ∧ Below w.heap.size w wr) (fun i _ => q - (intOf i).toNat)
      case atStart =>
        refine ⟨0, Nat.zero_le _, rfl, HOL.out.below ?_, HB.out.trans (Below.mono ?_ HB.out.size)⟩
        · exact (Below.refl _ _).alloc (Nat.le_refl _) _
        · exact (Below.refl _ _).alloc (Nat.le_refl _) _
      case round =>
        clear HOL HB y0 y1
        obtain ⟨j, hj, rfl, ol, hB⟩ := hrel
        have hbj : BB ((t.sp.take j).foldl bump l) (tsp m.ts + 4) := by
          have h1 := HBB.out.fold (t.sp.take j)
          exact ⟨h1.1, fun x hx => by have := h1.2 x hx; simp only [List.length_take] at this; omega⟩
        by_cases hlj : j < q
        · have hjs : j < t.sp.length := by rw [HQ.out]; exact hlj
          obtain ⟨f0, f5⟩ := HSP.out j hjs
          have HBS : Hid ((t.sp.take (j + 1)).foldl bump l = bump ((t.sp.take j).foldl bump l) t.sp[j]) := bump_snoc l t.sp j hjs
          rcases HI0.out.below hB with e0 | ⟨pb, po, rfl, hpb, hpc⟩
          · rw [e0] at hjs; simp at hjs
          obtain ⟨d0, d1⟩ := hpc j hjs
          obtain ⟨f, hf⟩ : ∃ f, t.sp[j].1 = f := ⟨_, rfl⟩
          obtain ⟨z, hz⟩ : ∃ z, t.sp[j].2 = z := ⟨_, rfl⟩
          have hfz : t.sp[j] = (f, z) := by rw [← hf, ← hz]
          rw [hfz] at HBS
          rw [hf] at d0 f0 f5
          rw [hz] at d1
          obtain ⟨cur, hcur⟩ : ∃ cur, (t.sp.take j).foldl bump l = cur := ⟨_, rfl⟩
          rw [hcur] at ol hbj HBS
          have hcl := hbj.1
          obtain ⟨g0, g1⟩ := getD_bd hbj f.toNat
          have hcell := own_cellAt ol hcl f f0 f5
          have hfr := ol.frozen hcl f.toNat
          obtain ⟨x, hx⟩ : ∃ x, cur.getD f.toNat 0 = x := ⟨_, rfl⟩
          rw [hx] at g0 g1 hcell
          have hxx : x ≤ 2000000 := by omega
          have HS : Hid (Li.Own (wr.setCell ⟨G, f.toNat, none⟩ (.int .i64 (x + 1))) G (.slice (some ⟨G, 0, none⟩) 6 6) ((t.sp.take (j + 1)).foldl bump l)) := by
            have := ol.set hcl f.toNat (x + 1)
            rw [HBS.out]
            unfold bump
            simp only
            rw [hx]
            exact this
          have hGl := (ol.ge G rfl).2
          have HOL : Hid (type_of% ol) := ol
          have HB : Hid (type_of% hB) := hB
          have HS2 : Hid (Li.Own ((wr.setCell ⟨G, f.toNat, none⟩ (.int .i64 (x + 1))).alloc (.cells #[.int .i64 f, .int .i64 z] 46)) G (.slice (some ⟨G, 0, none⟩) 6 6) ((t.sp.take (j + 1)).foldl bump l)) := HS.out.below ((Below.refl _ _).alloc (Nat.le_refl _) _)
          have HB2 : Hid (Below w.heap.size w ((wr.setCell ⟨G, f.toNat, none⟩ (.int .i64 (x + 1))).alloc (.cells #[.int .i64 f, .int .i64 z] 46))) := (hB.setCell (p := ⟨G, f.toNat, none⟩) (by show w.heap.size ≤ G; have := HW1.out; omega) _).alloc (by have := hB.size; simpa [World.setCell] using this) _
          have hf6 : f < 6 := by omega
          clear hpc hf hz hfz hcur hcl hx ol hB hbj HS
          go_wp2
          go_roundw
          case rel => exact ⟨j + 1, by omega, by go_num, HS2.out, HB2.out⟩
          case measure => simp [intOf]; omega
        · obtain rfl : j = q := by omega
          have HN : Hid (Li.Own wr G (.slice (some ⟨G, 0, none⟩) 6 6) (impL (m.ts.take (k + 1)))) := by
            rw [HSN.out]
            unfold impT
            have := ol
            rw [← HQ.out, List.take_length] at this
            exact this
          clear ol hbj
          go_wp2
          go_roundw
          case rel => exact ⟨k + 1, by omega, by go_num, HN.out, hB⟩
          case measure => simp [intOf]; omega
    · obtain rfl : k = m.ts.length := by omega
      have HA : Hid (Li.Own wr w.heap.size (.slice (some ⟨G, 0, none⟩) 6 6) (imps m)) := by
        have := ol.mono (base' := w.heap.size) (by have := HW1.out; omega)
        rw [List.take_length] at this
        rw [HR.out]
        exact this
      clear ol
      go_wp2
      go_ret
      exact ⟨_, rfl, HA.out, hB⟩
set_option maxHeartbeats 4000000 in
theorem simpo (w : World) (ak ax : Option Addr) (ck ct : Nat) (m : M) (h : Rm w ak ax m) (hl : m.sz ≤ 1048576) :
    Calls Try.prog 8 #[.agg #[.int .i64 m.n, .int .i64 m.c, .int .i64 m.prior, .int .i64 m.base, .slice ak m.ks.length ck, .slice ax m.ts.length ct]] w fun e w' => ∃ v, e = .returned v ∧ Li.Own w' w.heap.size v (imps m) ∧ Below w.heap.size w w' := by
  obtain ⟨i0, hi, hz0, hz1, hz2⟩ := info_parts Li.info_int
  go_enter Try.func8, Try.ntmps8
  go_wp2_with fail
  obtain ⟨W, hW, hsz, hB, bm⟩ := new1 w [.int .i64 m.n, .int .i64 m.c, .int .i64 m.prior, .int .i64 m.base, .slice ak m.ks.length ck, .slice ax m.ts.length ct] 29
  rw [hW]
  clear hW hsz
  refine (smok _ _ _ _ _ m (h.below hB) hl).mono ?_
  rintro e w1 ⟨rfl, hb⟩
  have bm := bm.below hb
  have hB := hB.trans (hb.mono hB.size)
  have HW1 : Hid (w.heap.size < w1.heap.size) := bm.1
  clear hb
  cases h1 : mok m with
  | false =>
    have HR : Hid (imps m = []) := imps_no h1
    have HNO : Hid (Li.Own (w1.alloc (.cells #[] 3)) w.heap.size (.slice (some ⟨w1.heap.size, 0, none⟩) 0 0) [] ∧ Below w.heap.size w (w1.alloc (.cells #[] 3))) := ⟨Ai.own_empty w1 _ hB.size, hB.alloc hB.size _⟩
    go_wp2
    go_ret
    exact ⟨_, rfl, by rw [HR.out]; exact HNO.out.1, HNO.out.2⟩
  | true =>
  have HR : Hid (imps m = impL m.ts) := imps_yes h1
  have HOK : Hid (mok m = true) := h1
  have hszt : tsp m.ts ≤ 1048576 := by have := tsp_sz m.ts; unfold M.sz at hl; omega
  have htl : m.ts.length ≤ 12 := (mok_parts h1).2.2.2.1
  clear h1
  go_wp2_with (at_make; refine wpList_make_full _ rfl _ _ 32 rfl w1.heap.size 3 i0 (.int .i64 0) 1 Try.underlying32 hi hz0 hz1 _ _ _ _ 6 rfl rfl (by omega) (by omega) (by rw [hz2]; omega) (by unfold maxLen; omega) (Nat.le_refl _) ?_; intro w2 hown hgrow; have hb1 := below_none hgrow)
  have ol := Li.own_made hown
  have bm := bm.below hb1
  have hB := hB.trans (hb1.mono hB.size)
  obtain ⟨G, hG⟩ : ∃ G, w1.heap.size = G := ⟨_, rfl⟩
  rw [hG] at ol HW1 ⊢
  have HOL : Hid (Li.Own w2 G (.slice (some ⟨G, 0, none⟩) 6 6) (impL (m.ts.take 0))) := ol
  clear hown hgrow hb1 hG ol
  go_wp2
  go_loopw [4] (fun i wr => ∃ k : Nat, k ≤ m.ts.length ∧ i = .int .i64 k ∧ Li.Own wr G (.slice (some ⟨G, 0, none⟩) 6 6) (impL (m.ts.take k)) ∧ Wr wr w.heap.size 0 [.int .i64 m.n, .int .i64 m.c, .int .i64 m.prior, .int .i64 m.base, .slice ak m.ks.length ck, .slice ax m.ts.length ct] ∧ Below w.heap.size w wr) (fun i _ => m.ts.length - (intOf i).toNat)
  case atStart => exact ⟨0, Nat.zero_le _, rfl, HOL.out, bm, hB⟩
  case round =>
    clear HOL hB bm
    obtain ⟨k, hk, rfl, ol, bm, hB⟩ := hrel
    obtain ⟨_, ⟨x0, x1, x2, x3, x4, x5⟩, _⟩ := wr6 bm
    by_cases hlt : k < m.ts.length
    · rcases h.t with e0 | ⟨b, off, rfl, hb, hc⟩
      · rw [e0] at hlt; simp at hlt
      obtain ⟨_, _, ⟨y0, y1⟩, a0, c0, a1, c1, rfl, rfl, i0', i1'⟩ := hc k hlt
      obtain ⟨hs4, hsp⟩ := sp_at HOK.out k hlt
      have HSN : Hid (impL (m.ts.take (k + 1)) = impT (impL (m.ts.take k)) m.ts[k]) := impL_snoc m.ts k hlt
      have HBB : Hid (BB (impL (m.ts.take k)) (tsp m.ts)) := by
        have h1 := imp_bb (m.ts.take k)
        have h2 := tsp_take m.ts k
        exact ⟨h1.1, fun x hx => by have := h1.2 x hx; omega⟩
      obtain ⟨l, hll⟩ : ∃ l, impL (m.ts.take k) = l := ⟨_, rfl⟩
      obtain ⟨t, ht⟩ : ∃ t, m.ts[k] = t := ⟨_, rfl⟩
      rw [hll] at ol HSN HBB
      rw [ht] at y0 y1 i0' HSN
      simp only [ht] at hs4 hsp
      obtain ⟨q, hq⟩ : ∃ q, t.sp.length = q := ⟨_, rfl⟩
      have HQ : Hid (t.sp.length = q) := hq
      have HSP : Hid (∀ j (hj : j < t.sp.length), 0 ≤ t.sp[j].1 ∧ t.sp[j].1 ≤ 5) := hsp
      rw [hq] at y0 hs4
      have HI0 : Hid (Tm.IsP w a0 t.sp) := i0'
      have HY0 : Hid (w.cell? ⟨b, off + k * 2, none⟩ = some (.slice a0 q c0)) := y0
      have HOL : Hid (Li.Own wr G (.slice (some ⟨G, 0, none⟩) 6 6) ((t.sp.take 0).foldl bump l)) := ol
      have HB : Hid (type_of% hB) := hB
      have HBM : Hid (type_of% bm) := bm
      have hkt : (k : Int) < m.ts.length := by omega
      clear hc hll ht hq i1' hsp i0' ol hB bm y0 y1
      go_wp2
      go_loopw [5] (fun i wr => ∃ j : Nat, j ≤ q ∧ i = .int .i64 j ∧ Li.Own wr G (.slice (some ⟨G, 0, none⟩) 6 6) ((t.sp.take j).foldl bump l) ∧ Wr wr w.heap.size 0 [.int .i64 m.n, .int .i64 m.c, .int .i64 m.prior, .int .i64 m.base, .slice ak m.ks.length ck, .slice (some ⟨b, off, none⟩) m.ts.length ct] ∧ Below w.heap.size w wr) (fun i _ => q - (intOf i).toNat)
      case atStart => exact ⟨0, Nat.zero_le _, rfl, HOL.out, HBM.out, HB.out⟩
      case round =>
        clear HOL HB HBM x0 x1 x2 x3 x4 x5
        obtain ⟨j, hj, rfl, ol, bm, hB⟩ := hrel
        obtain ⟨_, ⟨x0, x1, x2, x3, x4, x5⟩, _⟩ := wr6 bm
        have y0 := (hB.cell (p := ⟨b, off + k * 2, none⟩) hb).trans HY0.out
        have hbj : BB ((t.sp.take j).foldl bump l) (tsp m.ts + 4) := by
          have h1 := HBB.out.fold (t.sp.take j)
          exact ⟨h1.1, fun x hx => by have := h1.2 x hx; simp only [List.length_take] at this; omega⟩
        by_cases hlj : j < q
        · have hjs : j < t.sp.length := by rw [HQ.out]; exact hlj
          obtain ⟨f0, f5⟩ := HSP.out j hjs
          have HBS : Hid ((t.sp.take (j + 1)).foldl bump l = bump ((t.sp.take j).foldl bump l) t.sp[j]) := bump_snoc l t.sp j hjs
          rcases HI0.out.below hB with e0 | ⟨pb, po, rfl, hpb, hpc⟩
          · rw [e0] at hjs; simp at hjs
          obtain ⟨d0, d1⟩ := hpc j hjs
          obtain ⟨f, hf⟩ : ∃ f, t.sp[j].1 = f := ⟨_, rfl⟩
          obtain ⟨z, hz⟩ : ∃ z, t.sp[j].2 = z := ⟨_, rfl⟩
          have hfz : t.sp[j] = (f, z) := by rw [← hf, ← hz]
          rw [hfz] at HBS
          rw [hf] at d0 f0 f5
          rw [hz] at d1
          obtain ⟨cur, hcur⟩ : ∃ cur, (t.sp.take j).foldl bump l = cur := ⟨_, rfl⟩
          rw [hcur] at ol hbj HBS
          have hcl := hbj.1
          obtain ⟨g0, g1⟩ := getD_bd hbj f.toNat
          have hcell := own_cellAt ol hcl f f0 f5
          have hfr := ol.frozen hcl f.toNat
          obtain ⟨x, hx⟩ : ∃ x, cur.getD f.toNat 0 = x := ⟨_, rfl⟩
          rw [hx] at g0 g1 hcell
          have hxx : x ≤ 2000000 := by omega
          have HS : Hid (Li.Own (wr.setCell ⟨G, f.toNat, none⟩ (.int .i64 (x + 1))) G (.slice (some ⟨G, 0, none⟩) 6 6) ((t.sp.take (j + 1)).foldl bump l)) := by
            have := ol.set hcl f.toNat (x + 1)
            rw [HBS.out]
            unfold bump
            simp only
            rw [hx]
            exact this
          have HM : Hid (type_of% (bm.setOther (b := G) (o := f.toNat) (v := .int .i64 (x + 1)) (by have := HW1.out; omega))) := bm.setOther (by have := HW1.out; omega)
          have HB2 : Hid (Below w.heap.size w (wr.setCell ⟨G, f.toNat, none⟩ (.int .i64 (x + 1)))) := hB.setCell (p := ⟨G, f.toNat, none⟩) (by show w.heap.size ≤ G; have := HW1.out; omega) _
          have hf6 : f < 6 := by omega
          clear hpc hf hz hfz hcur hcl hx ol hB hbj bm
          go_wp2
          go_roundw
          case rel => exact ⟨j + 1, by omega, by go_num, HS.out, HM.out, HB2.out⟩
          case measure => simp [intOf]; omega
        · obtain rfl : j = q := by omega
          have HN : Hid (Li.Own wr G (.slice (some ⟨G, 0, none⟩) 6 6) (impL (m.ts.take (k + 1)))) := by
            rw [HSN.out]
            unfold impT
            have := ol
            rw [← HQ.out, List.take_length] at this
            exact this
          clear ol hbj
          go_wp2
          go_roundw
          case rel => exact ⟨k + 1, by omega, by go_num, HN.out, bm, hB⟩
          case measure => simp [intOf]; omega
    · obtain rfl : k = m.ts.length := by omega
      have HA : Hid (Li.Own wr w.heap.size (.slice (some ⟨G, 0, none⟩) 6 6) (imps m)) := by
        have := ol.mono (base' := w.heap.size) (by have := HW1.out; omega)
        rw [List.take_length] at this
        rw [HR.out]
        exact this
      clear ol
      go_wp2
      go_ret
      exact ⟨_, rfl, HA.out, hB⟩
end Go.Proofs.Ytcadgeepknhmfaa.Md
/-
  Two lists of the call's own and a variable, made in any order; one more pair of lists put behind a list of pairs.
-/
namespace Go.Proofs.Ytcadgeepknhmfaa.Ct
set_option maxRecDepth 20000
open Go.RowKit
open Go.Proofs.Ytcadgeepknhmfaa.Tb (ownsRow_at)
open Go.Proofs.Ytcadgeepknhmfaa.Sv (Fr fr_below fr_grown Wr)
open Go.Proofs.Ytcadgeepknhmfaa.Kt (Kv OwK)
open Go.Proofs.Ytcadgeepknhmfaa.To (OwT)
set_option linter.unusedVariables false
structure Rw where
  T : TypeId
  sz : Nat
  n : Nat
  xs : List Value
def Ow (w : World) (base : Nat) (v : Value) (r : Rw) : Prop := w.ownsRow base r.T r.sz v r.n r.xs
theorem Ow.lt {w : World} {base : Nat} {v : Value} {r : Rw} (h : Ow w base v r) : ∀ k, v.ownBlock = some k → base ≤ k ∧ k < w.heap.size := World.ownsRow.lt h
theorem Ow.below {w w1 : World} {base : Nat} {v : Value} {r : Rw} (h : Ow w base v r) (hb : Below w.heap.size w w1) : Ow w1 base v r := ownsRow_at h (fun k e => hb.block k (h.lt k e).2)
theorem Ow.mono {w : World} {base b1 : Nat} {v : Value} {r : Rw} (h : Ow w base v r) (hb : b1 ≤ base) : Ow w b1 v r := by
  refine ⟨h.1, ?_⟩
  rcases h.2 with e | ⟨g, cap, cur, e, hg, rest⟩
  · exact .inl e
  · exact .inr ⟨g, cap, cur, e, Nat.le_trans hb hg, rest⟩
def pair0 : List Value := [.slice none 0 0, .slice none 0 0]
/-- How far it has come: two lists, a variable of two cells, each made or not. -/
structure Tp (W wx : World) (M C : Option (Value × Rw)) (A : Option Nat) : Prop where
  bel : Below W.heap.size W wx
  oM : ∀ v r, M = some (v, r) → Ow wx W.heap.size v r
  oC : ∀ v r, C = some (v, r) → Ow wx W.heap.size v r
  oA : ∀ g, A = some g → Wr wx g 0 pair0 ∧ W.heap.size ≤ g
  mc : ∀ v r u s, M = some (v, r) → C = some (u, s) → ∀ y, v.ownBlock = some y → u.ownBlock ≠ some y
  ma : ∀ v r g, M = some (v, r) → A = some g → v.ownBlock ≠ some g
  ca : ∀ u s g, C = some (u, s) → A = some g → u.ownBlock ≠ some g
section
variable {W wx w1 : World} {M C : Option (Value × Rw)} {A : Option Nat}
theorem Tp.init (W : World) : Tp W W.drew none none none :=
  ⟨(Below.refl _ _).drew, fun v r e => (by cases e), fun v r e => (by cases e), fun g e => (by cases e), fun v r u s e => (by cases e), fun v r g e => (by cases e), fun u s g e => (by cases e)⟩
theorem Tp.below (h : Tp W wx M C A) (hb : Below wx.heap.size wx w1) : Tp W w1 M C A :=
  ⟨h.bel.trans (hb.mono h.bel.size), fun v r e => (h.oM v r e).below hb, fun v r e => (h.oC v r e).below hb, fun g e => ⟨(h.oA g e).1.below hb, (h.oA g e).2⟩, h.mc, h.ma, h.ca⟩
theorem Tp.addM (h : Tp W wx none C A) (hb : Below wx.heap.size wx w1) {v : Value} {r : Rw} (ho : Ow w1 wx.heap.size v r) : Tp W w1 (some (v, r)) C A := by
  have h' := h.below hb
  refine ⟨h'.bel, fun v' r' e => ?_, h'.oC, h'.oA, fun v' r' u s e e' y k1 k2 => ?_, fun v' r' g e e' k1 => ?_, h'.ca⟩
  · cases e; exact ho.mono h.bel.size
  · cases e; have := (ho.lt y k1).1; have := ((h.oC u s e').lt y k2).2; omega
  · cases e; have := (ho.lt g k1).1; have := (h.oA g e').1.1; omega
theorem Tp.addC (h : Tp W wx M none A) (hb : Below wx.heap.size wx w1) {v : Value} {r : Rw} (ho : Ow w1 wx.heap.size v r) : Tp W w1 M (some (v, r)) A := by
  have h' := h.below hb
  refine ⟨h'.bel, h'.oM, fun v' r' e => ?_, h'.oA, fun v' r' u s e e' y k1 k2 => ?_, h'.ma, fun v' r' g e e' k1 => ?_⟩
  · cases e; exact ho.mono h.bel.size
  · cases e'; have := (ho.lt y k2).1; have := ((h.oM v' r' e).lt y k1).2; omega
  · cases e; have := (ho.lt g k1).1; have := (h.oA g e').1.1; omega
theorem Tp.newA (h : Tp W wx M C none) (T : TypeId) : ∃ wy g, wx.alloc (.cells #[.slice none 0 0, .slice none 0 0] T) = wy ∧ wx.heap.size = g ∧ Tp W wy M C (some g) := by
  have hb : Below wx.heap.size wx (wx.alloc (.cells #[.slice none 0 0, .slice none 0 0] T)) := (Below.refl _ _).alloc (Nat.le_refl _) _
  have h' := h.below hb
  refine ⟨_, _, rfl, rfl, ⟨h'.bel, h'.oM, h'.oC, fun g e => ?_, h'.mc, fun v r g e e' k1 => ?_, fun v r g e e' k1 => ?_⟩⟩
  · cases e; exact ⟨Sv.wr_new wx pair0 T, h.bel.size⟩
  · cases e'; have := ((h.oM v r e).lt _ k1).2; omega
  · cases e'; have := ((h.oC v r e).lt _ k1).2; omega
theorem ow_new (wx : World) (T : TypeId) (sz : Nat) : Ow (wx.alloc (.cells #[] T)) wx.heap.size (.slice (some ⟨wx.heap.size, 0, none⟩) 0 0) ⟨T, sz, 0, []⟩ :=
  World.ownsRow_made wx #[] 0 (Nat.le_refl _) (by unfold maxLen; omega) (by simp)
theorem Tp.newM (h : Tp W wx none C A) (T : TypeId) (sz : Nat) : ∃ wy g, wx.alloc (.cells #[] T) = wy ∧ wx.heap.size = g ∧ Tp W wy (some (.slice (some ⟨g, 0, none⟩) 0 0, ⟨T, sz, 0, []⟩)) C A :=
  ⟨_, _, rfl, rfl, h.addM ((Below.refl _ _).alloc (Nat.le_refl _) _) (ow_new wx T sz)⟩
theorem Tp.newC (h : Tp W wx M none A) (T : TypeId) (sz : Nat) : ∃ wy g, wx.alloc (.cells #[] T) = wy ∧ wx.heap.size = g ∧ Tp W wy M (some (.slice (some ⟨g, 0, none⟩) 0 0, ⟨T, sz, 0, []⟩)) A :=
  ⟨_, _, rfl, rfl, h.addC ((Below.refl _ _).alloc (Nat.le_refl _) _) (ow_new wx T sz)⟩
theorem oblock (g n c : Nat) : (Value.slice (some ⟨g, 0, none⟩) n c).ownBlock = some g := rfl
theorem bel_grown {w wx w1 : World} {n g : Nat} (h : Below n w wx) (hs : n ≤ wx.heap.size) (hg : wx.grownBy w1 (some g)) (hn : n ≤ g) : Below n w w1 := h.grown hg hs (fun k e => by cases e; exact hn)
theorem Tp.fillM {g k n m c cap : Nat} {r r' : Rw} (h : Tp W wx (some (.slice (some ⟨g, 0, none⟩) n c, r)) C A) (ho : Ow w1 W.heap.size (.slice (some ⟨k, 0, none⟩) m cap) r') (hg : wx.grownBy w1 (some g)) (hk : k = g ∨ k = wx.heap.size) : Tp W w1 (some (.slice (some ⟨k, 0, none⟩) m cap, r')) C A := by
  have hgm := (h.oM _ _ rfl).lt g rfl
  refine ⟨bel_grown h.bel h.bel.size hg hgm.1, fun v r e => ?_, fun v s e => ?_, fun a e => ?_, fun v s u t e e' y k1 k2 => ?_, fun v s a e e' k1 => ?_, h.ca⟩
  · cases e; exact ho
  · have hc := h.oC v s e
    exact ownsRow_at hc (fun y ey => hg.block y (hc.lt y ey).2 (fun e2 => by cases e2; exact h.mc _ _ _ _ rfl e _ (oblock _ _ _) ey))
  · obtain ⟨a1, a2⟩ := h.oA a e
    exact ⟨a1.keptAt hg.size (hg.block a a1.1 (fun e2 => by cases e2; exact h.ma _ _ _ rfl e (oblock _ _ _))), a2⟩
  · cases e
    have ek : y = k := by simpa [Value.ownBlock] using k1.symm
    have hc := (h.oC u t e').lt y k2
    rcases hk with rfl | rfl
    · exact h.mc _ _ _ _ rfl e' y (by rw [ek]; rfl) k2
    · omega
  · cases e
    have ek : a = k := by simpa [Value.ownBlock] using k1.symm
    have ha := (h.oA a e').1.1
    rcases hk with rfl | rfl
    · exact h.ma _ _ _ rfl e' (by rw [ek]; rfl)
    · omega
theorem Tp.fillC {g k n m c cap : Nat} {r r' : Rw} (h : Tp W wx M (some (.slice (some ⟨g, 0, none⟩) n c, r)) A) (ho : Ow w1 W.heap.size (.slice (some ⟨k, 0, none⟩) m cap) r') (hg : wx.grownBy w1 (some g)) (hk : k = g ∨ k = wx.heap.size) : Tp W w1 M (some (.slice (some ⟨k, 0, none⟩) m cap, r')) A := by
  have hgm := (h.oC _ _ rfl).lt g rfl
  refine ⟨bel_grown h.bel h.bel.size hg hgm.1, fun v s e => ?_, fun v r e => ?_, fun a e => ?_, fun v s u t e e' y k1 k2 => ?_, h.ma, fun v s a e e' k1 => ?_⟩
  · have hc := h.oM v s e
    exact ownsRow_at hc (fun y ey => hg.block y (hc.lt y ey).2 (fun e2 => by cases e2; exact h.mc _ _ _ _ e rfl _ ey (oblock _ _ _)))
  · cases e; exact ho
  · obtain ⟨a1, a2⟩ := h.oA a e
    exact ⟨a1.keptAt hg.size (hg.block a a1.1 (fun e2 => by cases e2; exact h.ca _ _ _ rfl e (oblock _ _ _))), a2⟩
  · cases e'
    have ek : y = k := by simpa [Value.ownBlock] using k2.symm
    have hc := (h.oM v s e).lt y k1
    rcases hk with rfl | rfl
    · exact h.mc _ _ _ _ e rfl y k1 (by rw [ek]; rfl)
    · omega
  · cases e
    have ek : a = k := by simpa [Value.ownBlock] using k1.symm
    have ha := (h.oA a e').1.1
    rcases hk with rfl | rfl
    · exact h.ca _ _ _ rfl e' (by rw [ek]; rfl)
    · omega
end
end Go.Proofs.Ytcadgeepknhmfaa.Ct
/-
  Copies of lists: slices.Clone at every list; append onto a list that has just been made empty.
-/
namespace Go.Proofs.Ytcadgeepknhmfaa.Ct
set_option maxRecDepth 20000
open Go.RowKit
open Go.Proofs.Ytcadgeepknhmfaa.Tm (IsP OwnP pv pv_length)
open Go.Proofs.Ytcadgeepknhmfaa.Li (IsL iv)
set_option linter.unusedVariables false
def ri (xs : List Int) : Rw := ⟨3, 1, xs.length, iv xs⟩
def rs (xs : List ByteArray) : Rw := ⟨9, 1, xs.length, Ls.sv xs⟩
def rp (xs : List (Int × Int)) : Rw := ⟨46, 2, xs.length, pv xs⟩
theorem eql_nil0 {P : Program} (w : World) (t e : TypeId) (l c : Nat) (h : P.underlying t = some (.slice e)) : (binOp .eql t (.slice none l c) (.slice none 0 0)).run P w = .ok (.bool true) w := by
  simp only [binOp]
  simp [run_equal_slice_nil w t e none l c h]
set_option maxHeartbeats 1000000 in
theorem cloneI (w : World) (a : Option Addr) (c : Nat) (xs : List Int) (hx : IsL w a xs) (hl : xs.length ≤ 1048576) :
    Calls Try.prog 35 #[.slice a xs.length c] w fun e w' => ∃ b d, e = .returned (.slice b xs.length d) ∧ Ow w' w.heap.size (.slice b xs.length d) (ri xs) ∧ Below w.heap.size w w' := by
  obtain ⟨i0, hi, hz0, hz1, hz2⟩ := info_parts Li.info_int
  cases a with
  | none =>
    have h0 : xs = [] := by
      rcases hx with h | ⟨b, off, e, _⟩
      · exact h
      · cases e
    subst h0
    have hnil : ∀ w0 : World, Sem.run Try.prog (binOp .eql 32 (.slice none 0 c) (.slice none 0 0)) w0 = .ok (.bool true) w0 := fun w0 => eql_nil0 w0 _ _ _ _ Try.underlying32
    go_enter Try.func35, Try.ntmps35
    go_wp2
    go_ret
    exact ⟨none, 0, rfl, World.ownsRow_nil _ _ _ _, Below.refl _ _⟩
  | some x =>
    have hnil : ∀ w0 : World, Sem.run Try.prog (binOp .eql 32 (.slice (some x) xs.length c) (.slice none 0 0)) w0 = .ok (.bool false) w0 := fun w0 => Fw.eql_nil w0 _ _ _ _ _ Try.underlying32
    have hB0 : Below w.heap.size w (w.alloc (.cells #[] 3)) := (Below.refl _ _).alloc (Nat.le_refl _) _
    by_cases h0 : xs.length = 0
    · obtain rfl : xs = [] := List.length_eq_zero_iff.1 h0
      clear h0 hnil
      have hnil : ∀ w0 : World, Sem.run Try.prog (binOp .eql 32 (.slice (some x) 0 c) (.slice none 0 0)) w0 = .ok (.bool false) w0 := fun w0 => Fw.eql_nil w0 _ _ _ _ _ Try.underlying32
      have ho := ow_new w 3 1
      go_enter Try.func35, Try.ntmps35
      go_wp2
      go_ret
      exact ⟨_, _, rfl, ho, hB0⟩
    · have h0 : 0 < xs.length := by omega
      go_enter Try.func35, Try.ntmps35
      go_wp2_with (at_builtin; refine wpList_append_lies _ rfl _ _ 32 rfl w.heap.size 3 i0 (.int .i64 0) 1 8 Try.underlying32 hi hz0 hz1 hz2 rfl (by decide) (.slice (some ⟨w.heap.size, 0, none⟩) 0 0) 0 [] rfl (Ai.own_empty w _ (Nat.le_refl _)) x xs.length c (iv xs) rfl (by rw [Li.iv_length]; omega) (Ai.news_i (hx.below hB0)) (Li.iv_one _) h0 (by unfold maxLen; omega) (by omega) (by simp) _ rfl ?_)
      intro g cap w1 hown hgrow _ _
      have ho : Ow w1 w.heap.size (.slice (some ⟨g, 0, none⟩) xs.length cap) (ri xs) := by
        first | exact hown | (rw [Nat.zero_add, List.nil_append] at hown; exact hown)
      have hB1 : Below w.heap.size w w1 := Ai.below_app hB0 (by simp) hgrow (fun k hk => by simp [Value.ownBlock] at hk; omega)
      clear hown hgrow
      go_wp2
      go_ret
      exact ⟨some ⟨g, 0, none⟩, cap, by simp, ho, hB1⟩
set_option maxHeartbeats 1000000 in
theorem cloneP (w : World) (a : Option Addr) (c : Nat) (ps : List (Int × Int)) (hx : IsP w a ps) (hl : ps.length ≤ 1048576) :
    Calls Try.prog 37 #[.slice a ps.length c] w fun e w' => ∃ b d, e = .returned (.slice b ps.length d) ∧ Ow w' w.heap.size (.slice b ps.length d) (rp ps) ∧ Below w.heap.size w w' := by
  cases a with
  | none =>
    have h0 : ps = [] := by
      rcases hx with h | ⟨b, off, e, _⟩
      · exact h
      · cases e
    subst h0
    have hnil : ∀ w0 : World, Sem.run Try.prog (binOp .eql 36 (.slice none 0 c) (.slice none 0 0)) w0 = .ok (.bool true) w0 := fun w0 => eql_nil0 w0 _ _ _ _ Try.underlying36
    go_enter Try.func37, Try.ntmps37
    go_wp2
    go_ret
    exact ⟨none, 0, rfl, World.ownsRow_nil _ _ _ _, Below.refl _ _⟩
  | some x =>
    by_cases h0 : ps.length = 0
    · obtain rfl : ps = [] := List.length_eq_zero_iff.1 h0
      clear h0
      have hnil : ∀ w0 : World, Sem.run Try.prog (binOp .eql 36 (.slice (some x) 0 c) (.slice none 0 0)) w0 = .ok (.bool false) w0 := fun w0 => Fw.eql_nil w0 _ _ _ _ _ Try.underlying36
      have ho := ow_new w 46 2
      have hB0 : Below w.heap.size w (w.alloc (.cells #[] 46)) := (Below.refl _ _).alloc (Nat.le_refl _) _
      go_enter Try.func37, Try.ntmps37
      go_wp2
      go_ret
      exact ⟨_, _, rfl, ho, hB0⟩
    · refine (Fw.iclone w (some x) c ps hx (by omega) hl).mono ?_
      rintro e w' ⟨g, cap, rfl, ho, hB⟩
      exact ⟨some ⟨g, 0, none⟩, cap, rfl, ho, hB⟩
/-- A list of cells that is read from an address, or none at all. -/
def Src (w : World) (ad : Option Addr) (n sz : Nat) (xs : List Value) : Prop := xs.length = n * sz ∧ (∀ u ∈ xs, u.oneCell' = true) ∧ (ad = none → n = 0) ∧ ∀ x, ad = some x → ∀ j u, xs[j]? = some u → w.cell? (x.add j) = some u
theorem src_s {w : World} {ad : Option Addr} {xs : List ByteArray} (h : Ls.IsS w ad xs) : Src w ad xs.length 1 (Ls.sv xs) := by
  refine ⟨by rw [Ls.sv_length]; omega, Ls.sv_one _, fun e => ?_, fun x e => ?_⟩
  · subst e
    rcases h with h | ⟨b, off, e, _⟩
    · rw [h]; rfl
    · cases e
  · subst e; exact Ap.news_s h
theorem src_i {w : World} {ad : Option Addr} {xs : List Int} (h : IsL w ad xs) : Src w ad xs.length 1 (iv xs) := by
  refine ⟨by rw [Li.iv_length]; omega, Li.iv_one _, fun e => ?_, fun x e => ?_⟩
  · subst e
    rcases h with h | ⟨b, off, e, _⟩
    · rw [h]; rfl
    · cases e
  · subst e; exact Ai.news_i h
theorem src_p {w : World} {ad : Option Addr} {xs : List (Int × Int)} (h : IsP w ad xs) : Src w ad xs.length 2 (pv xs) := by
  refine ⟨pv_length _, Fw.pv_one _, fun e => ?_, fun x e => ?_⟩
  · subst e
    rcases h with h | ⟨b, off, e, _⟩
    · rw [h]; rfl
    · cases e
  · subst e
    rcases h with h | ⟨b, off, e, _, hc⟩
    · subst h; intro j u hj; simp [pv] at hj
    · cases e; exact Fw.news_p hc
theorem run_app0 (w : World) (t ty e : TypeId) (i : TypeInfo) (z : Value) (sz bytes : Nat) (ht : Try.prog.underlying t = some (.slice e)) (hi : Try.prog.info? e = some i) (hz : i.zero = some z) (hsize : i.size = sz) (hby : i.bytes = bytes) (hzs : z.cells.size = sz) (hsz : 0 < sz) (hb1 : bytes ≤ 1000)
    (base g : Nat) (ad : Option Addr) (n c : Nat) (xs : List Value) (hown : Ow w base (.slice (some ⟨g, 0, none⟩) 0 0) ⟨e, sz, 0, []⟩) (hx : Src w ad n sz xs) (hl : n ≤ 1048576) (hbase : base ≤ w.heap.size) :
    ∃ k cap w', (Builtin.append_ #[t, t] ty #[.slice (some ⟨g, 0, none⟩) 0 0, .slice ad n c]).run Try.prog w = .ok (.slice (some ⟨k, 0, none⟩) n cap) w' ∧ Ow w' base (.slice (some ⟨k, 0, none⟩) n cap) ⟨e, sz, n, xs⟩ ∧ w.grownBy w' (some g) ∧ (k = g ∨ k = w.heap.size) := by
  obtain ⟨x1, x2, x3, x4⟩ := hx
  cases ad with
  | none =>
    obtain rfl := x3 rfl
    have h0 : xs = [] := List.length_eq_zero_iff.1 (by omega)
    subst h0
    refine ⟨g, 0, w, ?_, hown, World.grownBy.refl _ _, .inl rfl⟩
    refine run_append_nothing w _ _ _ _ i ht hi _ 0 0 (Nat.le_refl _) _ ⟨.inl ⟨_, ht⟩, fun w' => ?_, ?_, ?_, by simp, fun u hu => by simp at hu⟩
    · simp [Builtin.lenOf]
    · simp [Builtin.firstCells]
    · simp [Builtin.firstCells]
  | some x =>
    have hbn : (0 + n) * bytes ≤ 140737488355328 := by
      have : (0 + n) * bytes ≤ 1048576 * 1000 := Nat.mul_le_mul (by omega) hb1
      omega
    obtain ⟨v', w', hr, h2, h3, hnil, h5⟩ := run_append_own_at (P := Try.prog) w base t ty e i z sz bytes ht hi hz hsize hby hzs hsz (.slice (some ⟨g, 0, none⟩) 0 0) 0 [] hown x n c xs x1 (x4 x rfl) x2 (by unfold maxLen; omega) hbn hbase
    rw [Nat.zero_add, List.nil_append] at h2
    have hne : ¬ v' = .slice none 0 0 := fun e => by have := (hnil.1 e).1; simp at this
    have hbk : v'.ownBlock = some g ∨ v'.ownBlock = some w.heap.size := h5
    rcases h2.2 with ⟨e, _⟩ | ⟨k, cap, cur, e, hb, hh, r⟩
    · exact absurd e hne
    · subst e
      refine ⟨k, cap, w', hr, h2, h3, ?_⟩
      simpa [Value.ownBlock] using hbk
theorem wp_app0 {o : Oper} {a : Act} {w : World} {K : Act → World → Prop} {Q : Exit → Act → World → Prop} (s x : Operand) (t : TypeId) (ho : o.op = .call { callee := .builtin .append, args := #[s, x], argTypes := #[t, t] }) (e : TypeId) (i : TypeInfo) (z : Value) (sz bytes : Nat) (ht : Try.prog.underlying t = some (.slice e)) (hi : Try.prog.info? e = some i) (hz : i.zero = some z) (hsize : i.size = sz) (hby : i.bytes = bytes) (hzs : z.cells.size = sz) (hsz : 0 < sz) (hb1 : bytes ≤ 1000)
    (dt : Option Tmp) (hd : o.dst = dt) (base g : Nat) (ad : Option Addr) (n c : Nat) (xs : List Value) (hs : a.eval s = .slice (some ⟨g, 0, none⟩) 0 0) (hx : a.eval x = .slice ad n c) (hown : Ow w base (.slice (some ⟨g, 0, none⟩) 0 0) ⟨e, sz, 0, []⟩) (hsr : Src w ad n sz xs) (hl : n ≤ 1048576) (hbase : base ≤ w.heap.size)
    (h : ∀ k cap w', Ow w' base (.slice (some ⟨k, 0, none⟩) n cap) ⟨e, sz, n, xs⟩ → w.grownBy w' (some g) → (k = g ∨ k = w.heap.size) → K (a.put dt (.slice (some ⟨k, 0, none⟩) n cap)) w') : o.wp Try.prog a w K Q := by
  subst hd
  obtain ⟨k, cap, w', hr, h2, h3, h4⟩ := run_app0 w t o.type e i z sz bytes ht hi hz hsize hby hzs hsz hb1 base g ad n c xs hown hsr hl hbase
  unfold Oper.wp execOp
  simp only [ho, resolve, invoke, builtin, Sem.run_bind, Sem.run_pure, Result.andThen_ok, List.map_toArray, List.map_cons, List.map_nil, hs, hx, hr]
  exact h k cap w' h2 h3 h4
theorem wp_appS0 {o : Oper} {a : Act} {w : World} {K : Act → World → Prop} {Q : Exit → Act → World → Prop} (s x : Operand) (ho : o.op = .call { callee := .builtin .append, args := #[s, x], argTypes := #[52, 52] }) (dt : Option Tmp) (hd : o.dst = dt) (base g : Nat) (ad : Option Addr) (n c : Nat) (xs : List ByteArray) (hn : xs.length = n) (hs : a.eval s = .slice (some ⟨g, 0, none⟩) 0 0) (hx : a.eval x = .slice ad n c)
    (hown : Ow w base (.slice (some ⟨g, 0, none⟩) 0 0) ⟨9, 1, 0, []⟩) (hi : Ls.IsS w ad xs) (hl : n ≤ 1048576) (hbase : base ≤ w.heap.size)
    (h : ∀ k cap w', Ow w' base (.slice (some ⟨k, 0, none⟩) n cap) (rs xs) → w.grownBy w' (some g) → (k = g ∨ k = w.heap.size) → K (a.put dt (.slice (some ⟨k, 0, none⟩) n cap)) w') : o.wp Try.prog a w K Q := by
  subst hn
  obtain ⟨i0, hii, hz0, hz1, hz2⟩ := info_parts Ls.info_str
  exact wp_app0 s x _ ho 9 i0 (.string ⟨#[]⟩) 1 16 Try.underlying52 hii hz0 hz1 hz2 rfl (by decide) (by decide) dt hd base g ad _ c _ hs hx hown (src_s hi) hl hbase h
theorem wp_appI0 {o : Oper} {a : Act} {w : World} {K : Act → World → Prop} {Q : Exit → Act → World → Prop} (s x : Operand) (ho : o.op = .call { callee := .builtin .append, args := #[s, x], argTypes := #[32, 32] }) (dt : Option Tmp) (hd : o.dst = dt) (base g : Nat) (ad : Option Addr) (n c : Nat) (xs : List Int) (hn : xs.length = n) (hs : a.eval s = .slice (some ⟨g, 0, none⟩) 0 0) (hx : a.eval x = .slice ad n c)
    (hown : Ow w base (.slice (some ⟨g, 0, none⟩) 0 0) ⟨3, 1, 0, []⟩) (hi : IsL w ad xs) (hl : n ≤ 1048576) (hbase : base ≤ w.heap.size)
    (h : ∀ k cap w', Ow w' base (.slice (some ⟨k, 0, none⟩) n cap) (ri xs) → w.grownBy w' (some g) → (k = g ∨ k = w.heap.size) → K (a.put dt (.slice (some ⟨k, 0, none⟩) n cap)) w') : o.wp Try.prog a w K Q := by
  subst hn
  obtain ⟨i0, hii, hz0, hz1, hz2⟩ := info_parts Li.info_int
  exact wp_app0 s x _ ho 3 i0 (.int .i64 0) 1 8 Try.underlying32 hii hz0 hz1 hz2 rfl (by decide) (by decide) dt hd base g ad _ c _ hs hx hown (src_i hi) hl hbase h
theorem wp_appP0 {o : Oper} {a : Act} {w : World} {K : Act → World → Prop} {Q : Exit → Act → World → Prop} (s x : Operand) (ho : o.op = .call { callee := .builtin .append, args := #[s, x], argTypes := #[36, 36] }) (dt : Option Tmp) (hd : o.dst = dt) (base g : Nat) (ad : Option Addr) (n c : Nat) (xs : List (Int × Int)) (hn : xs.length = n) (hs : a.eval s = .slice (some ⟨g, 0, none⟩) 0 0) (hx : a.eval x = .slice ad n c)
    (hown : Ow w base (.slice (some ⟨g, 0, none⟩) 0 0) ⟨46, 2, 0, []⟩) (hi : IsP w ad xs) (hl : n ≤ 1048576) (hbase : base ≤ w.heap.size)
    (h : ∀ k cap w', Ow w' base (.slice (some ⟨k, 0, none⟩) n cap) (rp xs) → w.grownBy w' (some g) → (k = g ∨ k = w.heap.size) → K (a.put dt (.slice (some ⟨k, 0, none⟩) n cap)) w') : o.wp Try.prog a w K Q := by
  subst hn
  obtain ⟨i0, hii, hz0, hz1, hz2⟩ := info_parts Tm.info_spl
  exact wp_app0 s x _ ho 46 i0 (.agg #[.int .i64 0, .int .i64 0]) 2 16 Try.underlying36 hii hz0 hz1 hz2 rfl (by decide) (by decide) dt hd base g ad _ c _ hs hx hown (src_p hi) hl hbase h
theorem wp_makeS {o : Oper} {a : Act} {w : World} {K : Act → World → Prop} {Q : Exit → Act → World → Prop} (l c : Operand) (hop : o.op = Op.makeSlice 52 l c) (dt : Option Tmp) (hd : o.dst = dt) (n : Nat) (hl : a.eval l = .int .i64 (n : Int)) (hc : a.eval c = .int .i64 (n : Int)) (hn : n ≤ 1048576)
    (h : ∀ g w', w.heap.size ≤ g → Ow w' w.heap.size (.slice (some ⟨g, 0, none⟩) n n) (rs (List.replicate n ⟨#[]⟩)) → Below w.heap.size w w' → K (a.put dt (.slice (some ⟨g, 0, none⟩) n n)) w') : o.wp Try.prog a w K Q := by
  subst hd
  obtain ⟨i0, hi, hz0, hz1, hz2⟩ := info_parts Ls.info_str
  obtain ⟨w', hrun, r1, r2⟩ := run_make_full (P := Try.prog) w w.heap.size 52 9 i0 (.string ⟨#[]⟩) 1 Try.underlying52 hi hz0 hz1 .i64 .i64 n (by rw [hz2]; omega) (by unfold maxLen; omega) (Nat.le_refl _)
  unfold Oper.wp
  simp [execOp, hop, hl, hc, hrun, Result.andThen]
  exact h _ _ (Nat.le_refl _) (Ls.own_made r1) (Li.below_none r2)
end Go.Proofs.Ytcadgeepknhmfaa.Ct
