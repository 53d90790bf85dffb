/-
  Importance of both.
-/
import Derived.Test.YtkiddmbenepfjaaMos
import Derived.Test.YtkiddmbenepfjaaApI
import Derived.Test.YtkiddmbenepfjaaMds
namespace Go.Proofs.Ytkiddmbenepfjaa.Md
set_option maxRecDepth 20000
open Go.RowKit
open Go.Proofs.Ytkiddmbenepfjaa.Li (ret_bool ret_int btw below_none)
open Go.Proofs.Ytkiddmbenepfjaa.Tm (IsT szT)
open Go.Proofs.Ytkiddmbenepfjaa.Sv (new1 new2 Wr wr2)
set_option linter.unusedVariables false
def bump (l : List Int) (p : Int × Int) : List Int := l.set p.1.toNat (l.getD p.1.toNat 0 + 1)
def impT (l : List Int) (t : Tr.T) : List Int := t.sp.foldl bump l
def impL (ts : List Tr.T) : List Int := ts.foldl impT (List.replicate 6 0)
def imps (m : M) : List Int := if mok m = true then impL m.ts else []
def tsp : List Tr.T → Nat
  | [] => 0
  | t :: ts => t.sp.length + tsp ts
/-- Six numbers of at most N. -/
def BB (l : List Int) (N : Nat) : Prop := l.length = 6 ∧ ∀ x ∈ l, 0 ≤ x ∧ x ≤ (N : Int)
theorem BB.bump {l : List Int} {N : Nat} (h : BB l N) (p : Int × Int) : BB (Md.bump l p) (N + 1) := by
  refine ⟨by simpa [Md.bump] using h.1, fun x hx => ?_⟩
  rcases List.mem_or_eq_of_mem_set hx with h1 | h1
  · have := h.2 x h1; omega
  · have hg : 0 ≤ l.getD p.1.toNat 0 ∧ l.getD p.1.toNat 0 ≤ (N : Int) := by
      rw [List.getD_eq_getElem?_getD]
      cases hq : l[p.1.toNat]? with
      | none => simp
      | some y => exact h.2 y (List.mem_of_getElem? hq)
    omega
theorem BB.fold {l : List Int} {N : Nat} (h : BB l N) (ps : List (Int × Int)) : BB (ps.foldl Md.bump l) (N + ps.length) := by
  induction ps generalizing l N with
  | nil => exact h
  | cons p ps ih =>
    have := ih (h.bump p)
    rw [List.foldl_cons, List.length_cons, show N + (ps.length + 1) = N + 1 + ps.length by omega]
    exact this
theorem impT_bb {l : List Int} {N : Nat} (h : BB l N) (t : Tr.T) : BB (impT l t) (N + t.sp.length) := h.fold t.sp
theorem imp_fold {l : List Int} {N : Nat} (h : BB l N) (ts : List Tr.T) : BB (ts.foldl impT l) (N + tsp ts) := by
  induction ts generalizing l N with
  | nil => exact h
  | cons t ts ih =>
    have := ih (impT_bb h t)
    rw [List.foldl_cons]
    simp only [tsp]
    rw [show N + (t.sp.length + tsp ts) = N + t.sp.length + tsp ts by omega]
    exact this
theorem imp_bb (ts : List Tr.T) : BB (impL ts) (tsp ts) := by
  have := imp_fold (l := List.replicate 6 0) (N := 0) ⟨by simp, fun x hx => by simp at hx; omega⟩ ts
  rw [Nat.zero_add] at this
  exact this
theorem tsp_sz (ts : List Tr.T) : tsp ts ≤ szT ts := by
  induction ts with
  | nil => simp [tsp, szT]
  | cons t ts ih => simp only [tsp, szT, Tm.szt]; omega
theorem tsp_take (ts : List Tr.T) (k : Nat) : tsp (ts.take k) ≤ tsp ts := by
  induction ts generalizing k with
  | nil => simp
  | cons t ts ih =>
    cases k with
    | zero => simp [tsp]
    | succ k => simp only [List.take_succ_cons, tsp]; have := ih k; omega
theorem impL_snoc (ts : List Tr.T) (k : Nat) (h : k < ts.length) : impL (ts.take (k + 1)) = impT (impL (ts.take k)) ts[k] := by
  unfold impL
  rw [List.take_succ_eq_append_getElem h, List.foldl_append]; rfl
theorem bump_snoc (l : List Int) (ps : List (Int × Int)) (j : Nat) (h : j < ps.length) : (ps.take (j + 1)).foldl bump l = bump ((ps.take j).foldl bump l) ps[j] := by
  rw [List.take_succ_eq_append_getElem h, List.foldl_append]; rfl
theorem imps_len (m : M) : (imps m).length ≤ 6 := by
  unfold imps
  split
  · rw [(imp_bb m.ts).1]; omega
  · simp
theorem imps_no {m : M} (h : mok m = false) : imps m = [] := by unfold imps; rw [if_neg (by rw [h]; simp)]
theorem imps_yes {m : M} (h : mok m = true) : imps m = impL m.ts := by unfold imps; rw [if_pos h]
theorem sp_at {m : M} (h : mok m = true) (k : Nat) (hk : k < m.ts.length) : m.ts[k].sp.length ≤ 4 ∧ ∀ j (hj : j < m.ts[k].sp.length), 0 ≤ m.ts[k].sp[j].1 ∧ m.ts[k].sp[j].1 ≤ 5 := by
  have h1 := (mok_parts h).2.2.2.2.2.1
  have h2 : Tr.tok m.ts[k] = true := by
    unfold Sw.allok at h1
    rw [List.all_eq_true] at h1
    exact h1 _ (List.getElem_mem hk)
  unfold Tr.tok at h2
  simp only [Bool.and_eq_true, decide_eq_true_eq] at h2
  refine ⟨h2.1.1, fun j hj => ?_⟩
  have h3 := h2.2.1
  rw [List.all_eq_true] at h3
  have h4 := h3 _ (List.getElem_mem hj)
  have h5 := Tw.btw5 m.ts[k].sp[j].1 m.ts[k].sp[j].2
  rw [show (m.ts[k].sp[j].1, m.ts[k].sp[j].2) = m.ts[k].sp[j] from rfl, h4] at h5
  have h6 := h5.symm
  simp only [Bool.and_eq_true] at h6
  have := h6.1
  simpa [btw] using this
theorem own_cellAt {w : World} {B G : Nat} {l : List Int} (h : Li.Own w B (.slice (some ⟨G, 0, none⟩) 6 6) l) (hl : l.length = 6) (f : Int) (h0 : 0 ≤ f) (h5 : f ≤ 5) : w.cell? ⟨G, f.toNat, none⟩ = some (.int .i64 (l.getD f.toNat 0)) := by
  have hf : f.toNat < l.length := by omega
  rw [h.cell hl f.toNat hf]
  simp [List.getD_eq_getElem?_getD, hf]
theorem getD_bd {l : List Int} {N : Nat} (h : BB l N) (j : Nat) : 0 ≤ l.getD j 0 ∧ l.getD j 0 ≤ (N : Int) := by
  rw [List.getD_eq_getElem?_getD]
  cases hq : l[j]? with
  | none => simp
  | some y => exact h.2 y (List.mem_of_getElem? hq)
set_option maxHeartbeats 4000000 in
theorem iimp (w : World) (ak ax : Option Addr) (ck ct : Nat) (m : M) (h : Rm w ak ax m) (hl : m.sz ≤ 1048576) :
    Calls Try.prog 28 #[.agg #[.int .i64 m.n, .int .i64 m.c, .int .i64 m.prior, .int .i64 m.base, .slice ak m.ks.length ck, .slice ax m.ts.length ct]] w fun e w' => ∃ v, e = .returned v ∧ Li.Own w' w.heap.size v (imps m) ∧ Below w.heap.size w w' := by
  obtain ⟨i0, hi, hz0, hz1, hz2⟩ := info_parts Li.info_int
  go_enter Try.func28, Try.ntmps28
  go_wp2_with fail
  obtain ⟨W, hW, hsz, hB, bm⟩ := new1 w [.int .i64 m.n, .int .i64 m.c, .int .i64 m.prior, .int .i64 m.base, .slice ak m.ks.length ck, .slice ax m.ts.length ct] 34
  rw [hW]
  clear hW hsz
  refine (imok _ _ _ _ _ m (h.below hB) hl).mono ?_
  rintro e w1 ⟨rfl, hb⟩
  have bm := bm.below hb
  have hB := hB.trans (hb.mono hB.size)
  have HW1 : Hid (w.heap.size < w1.heap.size) := bm.1
  clear hb
  cases h1 : mok m with
  | false =>
    have HR : Hid (imps m = []) := imps_no h1
    go_wp2
    go_ret
    exact ⟨_, rfl, by rw [HR.out]; exact Li.Own.nil _ _, hB⟩
  | true =>
  have HR : Hid (imps m = impL m.ts) := imps_yes h1
  have HOK : Hid (mok m = true) := h1
  have hszt : tsp m.ts ≤ 1048576 := by have := tsp_sz m.ts; unfold M.sz at hl; omega
  have htl : m.ts.length ≤ 12 := (mok_parts h1).2.2.2.1
  clear h1
  go_wp2_with (at_make; refine wpList_make_full _ rfl _ _ 38 rfl w1.heap.size 3 i0 (.int .i64 0) 1 Try.underlying38 hi hz0 hz1 _ _ _ _ 6 rfl rfl (by omega) (by omega) (by rw [hz2]; omega) (by unfold maxLen; omega) (Nat.le_refl _) ?_; intro w2 hown hgrow; have hb1 := below_none hgrow; obtain ⟨_, ⟨x0, x1, x2, x3, x4, x5⟩, _⟩ := wr6 (bm.below hb1))
  have ol := Li.own_made hown
  have hB := hB.trans (hb1.mono hB.size)
  obtain ⟨G, hG⟩ : ∃ G, w1.heap.size = G := ⟨_, rfl⟩
  rw [hG] at ol HW1 ⊢
  have HOL : Hid (Li.Own w2 G (.slice (some ⟨G, 0, none⟩) 6 6) (impL (m.ts.take 0))) := ol
  clear hown hgrow hb1 hG x0 x1 x2 x3 x4 x5 ol bm
  go_wp2
  go_loopw [15] (fun i wr => ∃ k : Nat, k ≤ m.ts.length ∧ i = .int .i64 k ∧ Li.Own wr G (.slice (some ⟨G, 0, none⟩) 6 6) (impL (m.ts.take k)) ∧ Below w.heap.size w wr) (fun i _ => m.ts.length - (intOf i).toNat)
  case atStart => exact ⟨0, Nat.zero_le _, rfl, HOL.out, hB⟩
  case round =>
    clear HOL hB
    obtain ⟨k, hk, rfl, ol, hB⟩ := hrel
    by_cases hlt : k < m.ts.length
    · rcases h.t with e0 | ⟨b, off, rfl, hb, hc⟩
      · rw [e0] at hlt; simp at hlt
      obtain ⟨_, _, ⟨y0, y1⟩, a0, c0, a1, c1, rfl, rfl, i0', i1'⟩ := hc k hlt
      have y0 := (hB.cell (p := ⟨b, off + k * 2, none⟩) hb).trans y0
      have y1 := (hB.cell (p := ⟨b, off + k * 2 + 1, none⟩) hb).trans y1
      obtain ⟨hs4, hsp⟩ := sp_at HOK.out k hlt
      have HSN : Hid (impL (m.ts.take (k + 1)) = impT (impL (m.ts.take k)) m.ts[k]) := impL_snoc m.ts k hlt
      have HBB : Hid (BB (impL (m.ts.take k)) (tsp m.ts)) := by
        have h1 := imp_bb (m.ts.take k)
        have h2 := tsp_take m.ts k
        exact ⟨h1.1, fun x hx => by have := h1.2 x hx; omega⟩
      obtain ⟨l, hll⟩ : ∃ l, impL (m.ts.take k) = l := ⟨_, rfl⟩
      obtain ⟨t, ht⟩ : ∃ t, m.ts[k] = t := ⟨_, rfl⟩
      rw [hll] at ol HSN HBB
      rw [ht] at y0 y1 i0' HSN
      simp only [ht] at hs4 hsp
      obtain ⟨q, hq⟩ : ∃ q, t.sp.length = q := ⟨_, rfl⟩
      have HQ : Hid (t.sp.length = q) := hq
      have HSP : Hid (∀ j (hj : j < t.sp.length), 0 ≤ t.sp[j].1 ∧ t.sp[j].1 ≤ 5) := hsp
      rw [hq] at y0 hs4
      have HI0 : Hid (Tm.IsP w a0 t.sp) := i0'
      have HOL : Hid (Li.Own wr G (.slice (some ⟨G, 0, none⟩) 6 6) ((t.sp.take 0).foldl bump l)) := ol
      have HB : Hid (type_of% hB) := hB
      clear hc hll ht hq i1' hsp i0' ol hB
      go_wp2
      go_loopw [22] (fun i wr => ∃ j : Nat, j ≤ q ∧ i = .int .i64 j ∧ Li.Own wr G (.slice (some ⟨G, 0, none⟩) 6 6) ((t.sp.take j).foldl bump l) ∧ Below w.heap.size w wr) (fun i _ => q - (intOf i).toNat)
      case atStart =>
        refine ⟨0, Nat.zero_le _, rfl, HOL.out.below ?_, HB.out.trans (Below.mono ?_ HB.out.size)⟩
        · exact (Below.refl _ _).alloc (Nat.le_refl _) _
        · exact (Below.refl _ _).alloc (Nat.le_refl _) _
      case round =>
        clear HOL HB y0 y1
        obtain ⟨j, hj, rfl, ol, hB⟩ := hrel
        have hbj : BB ((t.sp.take j).foldl bump l) (tsp m.ts + 4) := by
          have h1 := HBB.out.fold (t.sp.take j)
          exact ⟨h1.1, fun x hx => by have := h1.2 x hx; simp only [List.length_take] at this; omega⟩
        by_cases hlj : j < q
        · have hjs : j < t.sp.length := by rw [HQ.out]; exact hlj
          obtain ⟨f0, f5⟩ := HSP.out j hjs
          have HBS : Hid ((t.sp.take (j + 1)).foldl bump l = bump ((t.sp.take j).foldl bump l) t.sp[j]) := bump_snoc l t.sp j hjs
          rcases HI0.out.below hB with e0 | ⟨pb, po, rfl, hpb, hpc⟩
          · rw [e0] at hjs; simp at hjs
          obtain ⟨d0, d1⟩ := hpc j hjs
          obtain ⟨f, hf⟩ : ∃ f, t.sp[j].1 = f := ⟨_, rfl⟩
          obtain ⟨z, hz⟩ : ∃ z, t.sp[j].2 = z := ⟨_, rfl⟩
          have hfz : t.sp[j] = (f, z) := by rw [← hf, ← hz]
          rw [hfz] at HBS
          rw [hf] at d0 f0 f5
          rw [hz] at d1
          obtain ⟨cur, hcur⟩ : ∃ cur, (t.sp.take j).foldl bump l = cur := ⟨_, rfl⟩
          rw [hcur] at ol hbj HBS
          have hcl := hbj.1
          obtain ⟨g0, g1⟩ := getD_bd hbj f.toNat
          have hcell := own_cellAt ol hcl f f0 f5
          have hfr := ol.frozen hcl f.toNat
          obtain ⟨x, hx⟩ : ∃ x, cur.getD f.toNat 0 = x := ⟨_, rfl⟩
          rw [hx] at g0 g1 hcell
          have hxx : x ≤ 2000000 := by omega
          have HS : Hid (Li.Own (wr.setCell ⟨G, f.toNat, none⟩ (.int .i64 (x + 1))) G (.slice (some ⟨G, 0, none⟩) 6 6) ((t.sp.take (j + 1)).foldl bump l)) := by
            have := ol.set hcl f.toNat (x + 1)
            rw [HBS.out]
            unfold bump
            simp only
            rw [hx]
            exact this
          have hGl := (ol.ge G rfl).2
          have HOL : Hid (type_of% ol) := ol
          have HB : Hid (type_of% hB) := hB
          have HS2 : Hid (Li.Own ((wr.setCell ⟨G, f.toNat, none⟩ (.int .i64 (x + 1))).alloc (.cells #[.int .i64 f, .int .i64 z] 91)) G (.slice (some ⟨G, 0, none⟩) 6 6) ((t.sp.take (j + 1)).foldl bump l)) := HS.out.below ((Below.refl _ _).alloc (Nat.le_refl _) _)
          have HB2 : Hid (Below w.heap.size w ((wr.setCell ⟨G, f.toNat, none⟩ (.int .i64 (x + 1))).alloc (.cells #[.int .i64 f, .int .i64 z] 91))) := (hB.setCell (p := ⟨G, f.toNat, none⟩) (by show w.heap.size ≤ G; have := HW1.out; omega) _).alloc (by have := hB.size; simpa [World.setCell] using this) _
          have hf6 : f < 6 := by omega
          clear hpc hf hz hfz hcur hcl hx ol hB hbj HS
          go_wp2
          go_roundw
          case rel => exact ⟨j + 1, by omega, by go_num, HS2.out, HB2.out⟩
          case measure => simp [intOf]; omega
        · obtain rfl : j = q := by omega
          have HN : Hid (Li.Own wr G (.slice (some ⟨G, 0, none⟩) 6 6) (impL (m.ts.take (k + 1)))) := by
            rw [HSN.out]
            unfold impT
            have := ol
            rw [← HQ.out, List.take_length] at this
            exact this
          clear ol hbj
          go_wp2
          go_roundw
          case rel => exact ⟨k + 1, by omega, by go_num, HN.out, hB⟩
          case measure => simp [intOf]; omega
    · obtain rfl : k = m.ts.length := by omega
      have HA : Hid (Li.Own wr w.heap.size (.slice (some ⟨G, 0, none⟩) 6 6) (imps m)) := by
        have := ol.mono (base' := w.heap.size) (by have := HW1.out; omega)
        rw [List.take_length] at this
        rw [HR.out]
        exact this
      clear ol
      go_wp2
      go_ret
      exact ⟨_, rfl, HA.out, hB⟩
set_option maxHeartbeats 4000000 in
theorem simpo (w : World) (ak ax : Option Addr) (ck ct : Nat) (m : M) (h : Rm w ak ax m) (hl : m.sz ≤ 1048576) :
    Calls Try.prog 27 #[.agg #[.int .i64 m.n, .int .i64 m.c, .int .i64 m.prior, .int .i64 m.base, .slice ak m.ks.length ck, .slice ax m.ts.length ct]] w fun e w' => ∃ v, e = .returned v ∧ Li.Own w' w.heap.size v (imps m) ∧ Below w.heap.size w w' := by
  obtain ⟨i0, hi, hz0, hz1, hz2⟩ := info_parts Li.info_int
  go_enter Try.func27, Try.ntmps27
  go_wp2_with fail
  obtain ⟨W, hW, hsz, hB, bm⟩ := new1 w [.int .i64 m.n, .int .i64 m.c, .int .i64 m.prior, .int .i64 m.base, .slice ak m.ks.length ck, .slice ax m.ts.length ct] 34
  rw [hW]
  clear hW hsz
  refine (smok _ _ _ _ _ m (h.below hB) hl).mono ?_
  rintro e w1 ⟨rfl, hb⟩
  have bm := bm.below hb
  have hB := hB.trans (hb.mono hB.size)
  have HW1 : Hid (w.heap.size < w1.heap.size) := bm.1
  clear hb
  cases h1 : mok m with
  | false =>
    have HR : Hid (imps m = []) := imps_no h1
    have HNO : Hid (Li.Own (w1.alloc (.cells #[] 3)) w.heap.size (.slice (some ⟨w1.heap.size, 0, none⟩) 0 0) [] ∧ Below w.heap.size w (w1.alloc (.cells #[] 3))) := ⟨Ai.own_empty w1 _ hB.size, hB.alloc hB.size _⟩
    go_wp2
    go_ret
    exact ⟨_, rfl, by rw [HR.out]; exact HNO.out.1, HNO.out.2⟩
  | true =>
  have HR : Hid (imps m = impL m.ts) := imps_yes h1
  have HOK : Hid (mok m = true) := h1
  have hszt : tsp m.ts ≤ 1048576 := by have := tsp_sz m.ts; unfold M.sz at hl; omega
  have htl : m.ts.length ≤ 12 := (mok_parts h1).2.2.2.1
  clear h1
  go_wp2_with (at_make; refine wpList_make_full _ rfl _ _ 38 rfl w1.heap.size 3 i0 (.int .i64 0) 1 Try.underlying38 hi hz0 hz1 _ _ _ _ 6 rfl rfl (by omega) (by omega) (by rw [hz2]; omega) (by unfold maxLen; omega) (Nat.le_refl _) ?_; intro w2 hown hgrow; have hb1 := below_none hgrow)
  have ol := Li.own_made hown
  have bm := bm.below hb1
  have hB := hB.trans (hb1.mono hB.size)
  obtain ⟨G, hG⟩ : ∃ G, w1.heap.size = G := ⟨_, rfl⟩
  rw [hG] at ol HW1 ⊢
  have HOL : Hid (Li.Own w2 G (.slice (some ⟨G, 0, none⟩) 6 6) (impL (m.ts.take 0))) := ol
  clear hown hgrow hb1 hG ol
  go_wp2
  go_loopw [4] (fun i wr => ∃ k : Nat, k ≤ m.ts.length ∧ i = .int .i64 k ∧ Li.Own wr G (.slice (some ⟨G, 0, none⟩) 6 6) (impL (m.ts.take k)) ∧ Wr wr w.heap.size 0 [.int .i64 m.n, .int .i64 m.c, .int .i64 m.prior, .int .i64 m.base, .slice ak m.ks.length ck, .slice ax m.ts.length ct] ∧ Below w.heap.size w wr) (fun i _ => m.ts.length - (intOf i).toNat)
  case atStart => exact ⟨0, Nat.zero_le _, rfl, HOL.out, bm, hB⟩
  case round =>
    clear HOL hB bm
    obtain ⟨k, hk, rfl, ol, bm, hB⟩ := hrel
    obtain ⟨_, ⟨x0, x1, x2, x3, x4, x5⟩, _⟩ := wr6 bm
    by_cases hlt : k < m.ts.length
    · rcases h.t with e0 | ⟨b, off, rfl, hb, hc⟩
      · rw [e0] at hlt; simp at hlt
      obtain ⟨_, _, ⟨y0, y1⟩, a0, c0, a1, c1, rfl, rfl, i0', i1'⟩ := hc k hlt
      obtain ⟨hs4, hsp⟩ := sp_at HOK.out k hlt
      have HSN : Hid (impL (m.ts.take (k + 1)) = impT (impL (m.ts.take k)) m.ts[k]) := impL_snoc m.ts k hlt
      have HBB : Hid (BB (impL (m.ts.take k)) (tsp m.ts)) := by
        have h1 := imp_bb (m.ts.take k)
        have h2 := tsp_take m.ts k
        exact ⟨h1.1, fun x hx => by have := h1.2 x hx; omega⟩
      obtain ⟨l, hll⟩ : ∃ l, impL (m.ts.take k) = l := ⟨_, rfl⟩
      obtain ⟨t, ht⟩ : ∃ t, m.ts[k] = t := ⟨_, rfl⟩
      rw [hll] at ol HSN HBB
      rw [ht] at y0 y1 i0' HSN
      simp only [ht] at hs4 hsp
      obtain ⟨q, hq⟩ : ∃ q, t.sp.length = q := ⟨_, rfl⟩
      have HQ : Hid (t.sp.length = q) := hq
      have HSP : Hid (∀ j (hj : j < t.sp.length), 0 ≤ t.sp[j].1 ∧ t.sp[j].1 ≤ 5) := hsp
      rw [hq] at y0 hs4
      have HI0 : Hid (Tm.IsP w a0 t.sp) := i0'
      have HY0 : Hid (w.cell? ⟨b, off + k * 2, none⟩ = some (.slice a0 q c0)) := y0
      have HOL : Hid (Li.Own wr G (.slice (some ⟨G, 0, none⟩) 6 6) ((t.sp.take 0).foldl bump l)) := ol
      have HB : Hid (type_of% hB) := hB
      have HBM : Hid (type_of% bm) := bm
      have hkt : (k : Int) < m.ts.length := by omega
      clear hc hll ht hq i1' hsp i0' ol hB bm y0 y1
      go_wp2
      go_loopw [5] (fun i wr => ∃ j : Nat, j ≤ q ∧ i = .int .i64 j ∧ Li.Own wr G (.slice (some ⟨G, 0, none⟩) 6 6) ((t.sp.take j).foldl bump l) ∧ Wr wr w.heap.size 0 [.int .i64 m.n, .int .i64 m.c, .int .i64 m.prior, .int .i64 m.base, .slice ak m.ks.length ck, .slice (some ⟨b, off, none⟩) m.ts.length ct] ∧ Below w.heap.size w wr) (fun i _ => q - (intOf i).toNat)
      case atStart => exact ⟨0, Nat.zero_le _, rfl, HOL.out, HBM.out, HB.out⟩
      case round =>
        clear HOL HB HBM x0 x1 x2 x3 x4 x5
        obtain ⟨j, hj, rfl, ol, bm, hB⟩ := hrel
        obtain ⟨_, ⟨x0, x1, x2, x3, x4, x5⟩, _⟩ := wr6 bm
        have y0 := (hB.cell (p := ⟨b, off + k * 2, none⟩) hb).trans HY0.out
        have hbj : BB ((t.sp.take j).foldl bump l) (tsp m.ts + 4) := by
          have h1 := HBB.out.fold (t.sp.take j)
          exact ⟨h1.1, fun x hx => by have := h1.2 x hx; simp only [List.length_take] at this; omega⟩
        by_cases hlj : j < q
        · have hjs : j < t.sp.length := by rw [HQ.out]; exact hlj
          obtain ⟨f0, f5⟩ := HSP.out j hjs
          have HBS : Hid ((t.sp.take (j + 1)).foldl bump l = bump ((t.sp.take j).foldl bump l) t.sp[j]) := bump_snoc l t.sp j hjs
          rcases HI0.out.below hB with e0 | ⟨pb, po, rfl, hpb, hpc⟩
          · rw [e0] at hjs; simp at hjs
          obtain ⟨d0, d1⟩ := hpc j hjs
          obtain ⟨f, hf⟩ : ∃ f, t.sp[j].1 = f := ⟨_, rfl⟩
          obtain ⟨z, hz⟩ : ∃ z, t.sp[j].2 = z := ⟨_, rfl⟩
          have hfz : t.sp[j] = (f, z) := by rw [← hf, ← hz]
          rw [hfz] at HBS
          rw [hf] at d0 f0 f5
          rw [hz] at d1
          obtain ⟨cur, hcur⟩ : ∃ cur, (t.sp.take j).foldl bump l = cur := ⟨_, rfl⟩
          rw [hcur] at ol hbj HBS
          have hcl := hbj.1
          obtain ⟨g0, g1⟩ := getD_bd hbj f.toNat
          have hcell := own_cellAt ol hcl f f0 f5
          have hfr := ol.frozen hcl f.toNat
          obtain ⟨x, hx⟩ : ∃ x, cur.getD f.toNat 0 = x := ⟨_, rfl⟩
          rw [hx] at g0 g1 hcell
          have hxx : x ≤ 2000000 := by omega
          have HS : Hid (Li.Own (wr.setCell ⟨G, f.toNat, none⟩ (.int .i64 (x + 1))) G (.slice (some ⟨G, 0, none⟩) 6 6) ((t.sp.take (j + 1)).foldl bump l)) := by
            have := ol.set hcl f.toNat (x + 1)
            rw [HBS.out]
            unfold bump
            simp only
            rw [hx]
            exact this
          have HM : Hid (type_of% (bm.setOther (b := G) (o := f.toNat) (v := .int .i64 (x + 1)) (by have := HW1.out; omega))) := bm.setOther (by have := HW1.out; omega)
          have HB2 : Hid (Below w.heap.size w (wr.setCell ⟨G, f.toNat, none⟩ (.int .i64 (x + 1)))) := hB.setCell (p := ⟨G, f.toNat, none⟩) (by show w.heap.size ≤ G; have := HW1.out; omega) _
          have hf6 : f < 6 := by omega
          clear hpc hf hz hfz hcur hcl hx ol hB hbj bm
          go_wp2
          go_roundw
          case rel => exact ⟨j + 1, by omega, by go_num, HS.out, HM.out, HB2.out⟩
          case measure => simp [intOf]; omega
        · obtain rfl : j = q := by omega
          have HN : Hid (Li.Own wr G (.slice (some ⟨G, 0, none⟩) 6 6) (impL (m.ts.take (k + 1)))) := by
            rw [HSN.out]
            unfold impT
            have := ol
            rw [← HQ.out, List.take_length] at this
            exact this
          clear ol hbj
          go_wp2
          go_roundw
          case rel => exact ⟨k + 1, by omega, by go_num, HN.out, bm, hB⟩
          case measure => simp [intOf]; omega
    · obtain rfl : k = m.ts.length := by omega
      have HA : Hid (Li.Own wr w.heap.size (.slice (some ⟨G, 0, none⟩) 6 6) (imps m)) := by
        have := ol.mono (base' := w.heap.size) (by have := HW1.out; omega)
        rw [List.take_length] at this
        rw [HR.out]
        exact this
      clear ol
      go_wp2
      go_ret
      exact ⟨_, rfl, HA.out, hB⟩
end Go.Proofs.Ytkiddmbenepfjaa.Md
