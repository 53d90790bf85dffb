/-
  Rows marked, and whether the marks are held; cells as the laws hold them.
-/
import Derived.Test.YtbnjbmajfadmaaaSeR
namespace Go.Proofs.Ytbnjbmajfadmaaa.Sv
open Go.RowKit
open Go.Proofs.Ytbnjbmajfadmaaa.Li (iv ret_bool ret_int below_none IsL marks marks_length marks_get)
open Go.Proofs.Ytbnjbmajfadmaaa.Tb (sub sub_yes sub_no)
open Go.Proofs.Ytbnjbmajfadmaaa.Se (R)
open Go.Proofs.Ytbnjbmajfadmaaa.Tm (pv pv_length pv_get pv_set IsP LikeP likeP_set likeP_all pmarks pmarks_length pmarks_get)
set_option linter.unusedVariables false

theorem Wr.fr {w w1 : World} {B : Nat → Prop} {g off : Nat} {vs : List Value} (h : Wr w g off vs) (hf : Fr B w w1) (hn : ¬ B g) : Wr w1 g off vs := h.keptAt hf.size (hf.block g h.1 hn)
set_option maxHeartbeats 1000000 in
theorem markRows (w : World) (B : Nat → Prop) (v0 v1 v2 : Value) (k lv l2 : Int) (r : R) (h : OwR w B v0 v1 v2 r) (hlt : ∀ q, B q → q < w.heap.size) (hl : szr r ≤ 1048576) (k0 : 0 ≤ k) (k1 : k ≤ 10000000000) :
    Calls Try.prog 28 #[.agg #[v0, v1, v2, .int .i64 lv, .int .i64 l2], .int .i64 k] w fun e w' => e = .returned (.int .i64 (k + tot r.x + r.g.length + r.ids.length)) ∧ OwR w' B v0 v1 v2 (rmarks k r) ∧ Fr B w w' := by
  have hls : r.x.length + tot r.x + r.g.length + r.ids.length ≤ 1048576 := hl
  obtain ⟨B0, B1, B2, o0, o1, o2, d0, d1, d2⟩ := h
  obtain ⟨a0, c0, rfl, _⟩ := o0.isv
  obtain ⟨a1, c1, rfl, _⟩ := o1.isl
  obtain ⟨a2, c2, rfl, _⟩ := o2.isl
  go_enter Try.func28, Try.ntmps28
  go_wp2_with fail
  obtain ⟨W, hW, hsz, hB, bx⟩ := new1 w [.slice a0 r.x.length c0, .slice a1 r.g.length c1, .slice a2 r.ids.length c2, .int .i64 lv, .int .i64 l2] 27
  rw [hW]
  have hF : Fr B w W := fr_below hB
  have o0 := o0.below hB
  have o1 := o1.below hB
  have o2 := o2.below hB
  clear hW hsz hB
  refine (markVecs _ _ _ _ _ o0 (by omega) k0 (by omega)).mono ?_
  rintro e w1 ⟨rfl, o0, hf⟩
  have bx := bx.fr hf (fun e => by have := hlt _ (d0 _ e).1; omega)
  have o1 := o1.fr hf (fun q hq e => (d0 q e).2.1 hq)
  have o2 := o2.fr hf (fun q hq e => (d0 q e).2.2 hq)
  have hF := hF.trans (hf.mono (fun q hq => (d0 q hq).1))
  clear hf
  obtain ⟨_, ⟨x0, x1, x2, x3, x4⟩, _⟩ := wr5 bx
  obtain ⟨T, hT⟩ : ∃ T, tot r.x = T := ⟨_, rfl⟩
  have HT : Hid (tot r.x = T) := hT
  rw [hT] at hls ⊢
  clear hT
  go_wp2_with fail
  clear x0 x1 x2 x3 x4
  refine (markI _ _ _ _ _ o1 (by omega) (by omega) (by omega)).mono ?_
  rintro e w2 ⟨rfl, o1, hf⟩
  have bx := bx.fr hf (fun e => by have := hlt _ (d1 _ e).1; omega)
  have o0 := o0.fr hf (fun q hq e => (d0 q hq).2.1 e)
  have o2 := o2.fr hf (fun q hq e => (d1 q e).2 hq)
  have hF := hF.trans (hf.mono (fun q hq => (d1 q hq).1))
  clear hf
  obtain ⟨_, ⟨x0, x1, x2, x3, x4⟩, _⟩ := wr5 bx
  go_wp2_with fail
  clear x0 x1 x2 x3 x4
  refine (markI _ _ _ _ _ o2 (by omega) (by omega) (by omega)).mono ?_
  rintro e w3 ⟨rfl, o2, hf⟩
  have o0 := o0.fr hf (fun q hq e => (d0 q hq).2.2 e)
  have o1 := o1.fr hf (fun q hq e => (d1 q hq).2 e)
  have hF := hF.trans (hf.mono (fun q hq => d2 q hq))
  clear hf bx
  go_wp2
  go_ret
  refine ⟨by rw [HT.out]; rfl, ⟨B0, B1, B2, o0, ?_, ?_, d0, d1, d2⟩, hF⟩
  · show OwI w3 B1 _ (marks (k + tot r.x) r.g.length); rw [HT.out]; exact o1
  · show OwI w3 B2 _ (marks (k + tot r.x + r.g.length) r.ids.length); rw [HT.out]; exact o2
set_option maxHeartbeats 1000000 in
theorem heldRows (w : World) (B : Nat → Prop) (v0 v1 v2 : Value) (k lv l2 : Int) (r : R) (h : OwR w B v0 v1 v2 (rmarks k r)) (hl : szr r ≤ 1048576) (k0 : 0 ≤ k) (k1 : k ≤ 10000000000) :
    Calls Try.prog 29 #[.agg #[v0, v1, v2, .int .i64 lv, .int .i64 l2], .int .i64 k] w fun e w' => e = .returned (.int .i64 (k + tot r.x + r.g.length + r.ids.length)) ∧ Below w.heap.size w w' := by
  have hls : r.x.length + tot r.x + r.g.length + r.ids.length ≤ 1048576 := hl
  obtain ⟨a0, c0, a1, c1, a2, c2, rfl, rfl, rfl, i0, i1, i2⟩ := h.rd
  clear h
  have e0 : (rmarks k r).x.length = r.x.length := vmarks_length _ _
  have e1 : (rmarks k r).g.length = r.g.length := marks_length _ _
  have e2 : (rmarks k r).ids.length = r.ids.length := marks_length _ _
  rw [e0, e1, e2]
  clear e0 e1 e2
  have i0 : IsV w a0 (vmarks k r.x) := i0
  have i1 : IsL w a1 (marks (k + tot r.x) r.g.length) := i1
  have i2 : IsL w a2 (marks (k + tot r.x + r.g.length) r.ids.length) := i2
  go_enter Try.func29, Try.ntmps29
  go_wp2_with fail
  obtain ⟨W, hW, hsz, hB, bx⟩ := new1 w [.slice a0 r.x.length c0, .slice a1 r.g.length c1, .slice a2 r.ids.length c2, .int .i64 lv, .int .i64 l2] 27
  rw [hW]
  clear hW hsz
  refine (heldVecs _ _ _ _ _ r.x rfl (i0.below hB) (by omega) k0 (by omega)).mono ?_
  rintro e w' ⟨rfl, hw⟩
  subst w'
  obtain ⟨_, ⟨x0, x1, x2, x3, x4⟩, _⟩ := wr5 bx
  have i1 := i1.below hB
  have i2 := i2.below hB
  clear i0
  obtain ⟨T, hT⟩ : ∃ T, tot r.x = T := ⟨_, rfl⟩
  rw [hT] at hls i1 i2 ⊢
  obtain ⟨n1, hn1⟩ : ∃ n, r.g.length = n := ⟨_, rfl⟩
  obtain ⟨n2, hn2⟩ : ∃ n, r.ids.length = n := ⟨_, rfl⟩
  rw [hn1] at hls i1 i2 x1 ⊢
  rw [hn2] at hls i2 x2 ⊢
  have HT : Hid (tot r.x = T ∧ r.g.length = n1 ∧ r.ids.length = n2) := ⟨hT, hn1, hn2⟩
  clear hT hn1 hn2 bx
  go_wp2_with fail
  refine (Li.held_walk _ _ _ _ _ i1 (by omega) (by omega) (by omega)).mono ?_
  rintro e w' ⟨rfl, hw⟩
  subst w'
  go_wp2_with fail
  refine (Li.held_walk _ _ _ _ _ i2 (by omega) (by omega) (by omega)).mono ?_
  rintro e w' ⟨rfl, hw⟩
  subst w'
  go_wp2
  go_ret
  exact ⟨by rw [HT.out.1, HT.out.2.1, HT.out.2.2]; rfl, hB⟩
/-- Cells that may be written, in a block of B. -/
def OwC (w : World) (B : Nat → Prop) (v : Value) (ps : List (Int × Int)) : Prop := ∃ a cap, v = .slice a ps.length cap ∧ (ps = [] ∨ ∃ g off, a = some ⟨g, off, none⟩ ∧ B g ∧ Wr w g off (pv ps))
theorem wr_isp {w : World} {g off : Nat} {ps : List (Int × Int)} (h : Wr w g off (pv ps)) : IsP w (some ⟨g, off, none⟩) ps := by
  refine .inr ⟨g, off, rfl, h.1, fun j hj => ?_⟩
  have hp := pv_get ps j hj
  have hl := pv_length ps
  have h1 := (h.2 (j * 2) (by omega)).1
  have h2 := (h.2 (j * 2 + 1) (by omega)).1
  rw [List.getElem?_eq_getElem (by omega)] at hp
  rw [List.getElem?_eq_getElem (by omega)] at hp
  refine ⟨by rw [h1]; exact hp.1, ?_⟩
  rw [show off + j * 2 + 1 = off + (j * 2 + 1) by omega, h2]; exact hp.2
theorem OwC.isp {w : World} {B : Nat → Prop} {v : Value} {ps : List (Int × Int)} (h : OwC w B v ps) : ∃ a cap, v = .slice a ps.length cap ∧ IsP w a ps := by
  obtain ⟨a, cap, e, h⟩ := h
  refine ⟨a, cap, e, ?_⟩
  rcases h with h | ⟨g, off, rfl, _, hw⟩
  · exact .inl h
  · exact wr_isp hw
theorem OwC.fr {w w1 : World} {B B' : Nat → Prop} {v : Value} {xs : List (Int × Int)} (h : OwC w B v xs) (hf : Fr B' w w1) (hd : ∀ k, B k → ¬ B' k) : OwC w1 B v xs := by
  obtain ⟨a, cap, e, h⟩ := h
  refine ⟨a, cap, e, ?_⟩
  rcases h with h | ⟨g, off, ha, hb, hw⟩
  · exact .inl h
  · exact .inr ⟨g, off, ha, hb, hw.fr hf (hd g hb)⟩
theorem OwC.below {w w1 : World} {B : Nat → Prop} {v : Value} {xs : List (Int × Int)} (h : OwC w B v xs) (hb : Below w.heap.size w w1) : OwC w1 B v xs := h.fr (fr_below (B := fun _ => False) hb) (fun _ _ e => e)
theorem OwC.mono {w : World} {B B' : Nat → Prop} {v : Value} {xs : List (Int × Int)} (h : OwC w B v xs) (hb : ∀ k, B k → B' k) : OwC w B' v xs := by
  obtain ⟨a, cap, e, h⟩ := h
  refine ⟨a, cap, e, ?_⟩
  rcases h with h | ⟨g, off, ha, hg, hw⟩
  · exact .inl h
  · exact .inr ⟨g, off, ha, hb g hg, hw⟩
theorem wr_row {w : World} {base g n s cap : Nat} {t : TypeId} {vs : List Value} (h : w.ownsRow base t s (.slice (some ⟨g, 0, none⟩) n cap) n vs) : Wr w g 0 vs := by
  refine ⟨(World.ownsRow.lt h g rfl).2, fun j hj => ?_⟩
  rw [Nat.zero_add]
  exact ⟨by rw [World.ownsRow.cellAt h j (by have := h.1; omega), List.getElem?_eq_getElem hj], World.ownsRow.frozenAt h j⟩
theorem owc_row {w : World} {base : Nat} {t : TypeId} {v : Value} {ps : List (Int × Int)} (h : w.ownsRow base t 2 v ps.length (pv ps)) : OwC w (fun k => base ≤ k ∧ k < w.heap.size) v ps := by
  have h' := h
  rcases h.2 with ⟨rfl, h0⟩ | ⟨g, cap, cur, rfl, hb, hh, _⟩
  · obtain rfl := List.length_eq_zero_iff.1 h0
    exact ⟨none, 0, rfl, .inl rfl⟩
  · exact ⟨_, cap, rfl, .inr ⟨g, 0, rfl, ⟨hb, (World.ownsRow.lt h' g rfl).2⟩, wr_row h'⟩⟩
theorem info_cell : (Try.prog.info? 36).map (fun i => (i.zero, i.size, i.bytes)) = some (some (.agg #[.int .i64 0, .int .i64 0]), 2, 16) := by kernel_rfl
theorem pv_made (n : Nat) : (madeCells (Value.agg #[.int .i64 0, .int .i64 0]).cells (n * 2)).toList = pv (Se.none0 n) := by
  apply List.ext_getElem?
  intro p
  by_cases hp : p < n * 2
  · have hz : (madeCells (Value.agg #[.int .i64 0, .int .i64 0]).cells (n * 2)).toList[p]? = some (.int .i64 0) := by
      have h2 : p % 2 < 2 := Nat.mod_lt _ (by decide)
      simp [madeCells, hp, Value.cells]
      rcases Nat.mod_two_eq_zero_or_one p with e | e <;> simp [e]
    rw [hz]
    have hg := pv_get (Se.none0 n) (p / 2) (by rw [Se.none0_length]; omega)
    rcases Nat.mod_two_eq_zero_or_one p with e | e
    · have := hg.1; rw [show p / 2 * 2 = p by omega] at this; rw [this]; simp [Se.none0]
    · have := hg.2; rw [show p / 2 * 2 + 1 = p by omega] at this; rw [this]; simp [Se.none0]
  · rw [List.getElem?_eq_none (by simp [madeCells]; omega), List.getElem?_eq_none (by rw [pv_length, Se.none0_length]; omega)]
set_option maxHeartbeats 1000000 in
theorem toCell (w : World) (x y : Int) :
    Calls Try.prog 79 #[.agg #[.int .i64 x, .int .i64 y]] w fun e w' => e = .returned (.agg #[.int .i64 x, .int .i64 y]) ∧ Below w.heap.size w w' := by
  go_enter Try.func79, Try.ntmps79
  go_wp2
  refine bodyPost_ret (v := .agg #[.int .i64 x, .int .i64 y]) (by rw [Tm.results_cell rfl]; go_simp) rfl ⟨rfl, ?_⟩
  exact (((Below.refl _ _).alloc (Nat.le_refl _) _).alloc (by simp) _).alloc (by simp; omega) _
theorem Wr.set2 {w : World} {g off : Nat} {ps : List (Int × Int)} (h : Wr w g off (pv ps)) (j : Nat) (hj : j < ps.length) (x y : Int) :
    Wr ((w.setCell ⟨g, off + j * 2, none⟩ (.int .i64 x)).setCell ⟨g, off + j * 2 + 1, none⟩ (.int .i64 y)) g off (pv (ps.set j (x, y))) := by
  have hl := pv_length ps
  have h1 := h.set (j * 2) (by omega) (.int .i64 x)
  have h2 := h1.set (j * 2 + 1) (by rw [List.length_set]; omega) (.int .i64 y)
  rw [pv_set] at h2
  rwa [show off + (j * 2 + 1) = off + j * 2 + 1 by omega] at h2
theorem Wr.at2 {w : World} {g off : Nat} {ps : List (Int × Int)} (h : Wr w g off (pv ps)) (j : Nat) (hj : j < ps.length) :
    (w.cell? ⟨g, off + j * 2, none⟩ = some (.int .i64 ps[j].1) ∧ w.cell? ⟨g, off + j * 2 + 1, none⟩ = some (.int .i64 ps[j].2)) ∧ w.frozen? ⟨g, off + j * 2, none⟩ = false ∧ w.frozen? ⟨g, off + j * 2 + 1, none⟩ = false := by
  have hl := pv_length ps
  rcases wr_isp h with h0 | ⟨b, o, e, _, hc⟩
  · subst h0; simp at hj
  · cases e
    refine ⟨hc j hj, (h.2 (j * 2) (by omega)).2, ?_⟩
    have := (h.2 (j * 2 + 1) (by omega)).2
    rwa [show off + (j * 2 + 1) = off + j * 2 + 1 by omega] at this
set_option maxHeartbeats 1000000 in
theorem toCells (w : World) (a : Option Addr) (cap : Nat) (ps : List (Int × Int)) (hx : IsP w a ps) (hl : ps.length ≤ 1048576) :
    Calls Try.prog 35 #[.slice a ps.length cap] w fun e w' => e = .returned (.slice (some ⟨w.heap.size, 0, none⟩) ps.length ps.length) ∧ OwC w' (fun k => w.heap.size ≤ k ∧ k < w'.heap.size) (.slice (some ⟨w.heap.size, 0, none⟩) ps.length ps.length) ps ∧ Below w.heap.size w w' := by
  obtain ⟨i0, hi, hz0, hz1, hz2⟩ := info_parts info_cell
  go_enter Try.func35, Try.ntmps35
  go_wp2_with (at_make; refine wpList_make_full _ rfl _ _ 32 rfl w.heap.size 36 i0 (.agg #[.int .i64 0, .int .i64 0]) 2 Try.underlying32 hi hz0 hz1 _ _ _ _ ps.length rfl rfl (by omega) (by omega) (by rw [hz2]; omega) (by unfold maxLen; omega) (Nat.le_refl _) ?_; intro w1 hown hgrow)
  rw [pv_made] at hown
  have hown' := wr_row hown
  have hB1 := below_none hgrow
  clear hown hgrow
  go_loopw [4] (fun i wr => ∃ k : Nat, k ≤ ps.length ∧ i = .int .i64 k ∧ ∃ l : List (Int × Int), l.length = ps.length ∧ LikeP l ps k ∧ Wr wr w.heap.size 0 (pv l) ∧ Below w.heap.size w wr) (fun i _ => ps.length - (intOf i).toNat)
  case atStart => exact ⟨0, Nat.zero_le _, rfl, _, Se.none0_length _, fun j hj => by omega, hown', hB1⟩
  case round =>
    obtain ⟨k, hk, rfl, l, hll, hlike, hown, hB⟩ := hrel
    by_cases hlt : k < ps.length
    · rcases hx with rfl | ⟨b, off, rfl, hb, hc⟩
      · simp at hlt
      · have hcx : wr.cell? ⟨b, off + k * 2, none⟩ = some (.int .i64 ps[k].1) := (hB.cell (by exact hb)).trans (hc k hlt).1
        have hcy : wr.cell? ⟨b, off + k * 2 + 1, none⟩ = some (.int .i64 ps[k].2) := (hB.cell (by exact hb)).trans (hc k hlt).2
        have HL : Hid (LikeP (l.set k ps[k]) ps (k + 1)) := likeP_set hlike hlt hll
        have HLL : Hid (l.length = ps.length) := hll
        clear hlike hc
        go_wp2_with fail
        refine (toCell _ _ _).mono ?_
        rintro e w2 ⟨rfl, hB2⟩
        have hown := hown.below hB2
        have hB := hB.trans (hB2.mono hB.size)
        obtain ⟨⟨c0, c1⟩, f0, f1⟩ := hown.at2 k (by omega)
        obtain ⟨y0, hy0⟩ : ∃ y, l[k]'(by omega) = y := ⟨_, rfl⟩
        rw [hy0] at c0 c1
        rw [Nat.zero_add] at c0 c1 f0 f1
        have hgl := hown.1
        have HO : Hid (Wr ((w2.setCell ⟨w.heap.size, k * 2, none⟩ (.int .i64 ps[k].1)).setCell ⟨w.heap.size, k * 2 + 1, none⟩ (.int .i64 ps[k].2)) w.heap.size 0 (pv (l.set k ps[k]))) := by
          have := hown.set2 k (by omega) ps[k].1 ps[k].2
          rwa [Nat.zero_add] at this
        clear hown hB2 hcx hcy hy0 hll
        go_wp2
        go_roundw
        case rel => exact ⟨k + 1, by omega, by go_num, l.set k ps[k], by simpa using HLL.out, HL.out, HO.out, (hB.setCell (p := ⟨w.heap.size, k * 2, none⟩) (Nat.le_refl _) _).setCell (p := ⟨w.heap.size, k * 2 + 1, none⟩) (Nat.le_refl _) _⟩
        case measure => simp [intOf]; omega
    · obtain rfl : k = ps.length := by omega
      obtain rfl := likeP_all hlike hll
      have HO : Hid (OwC wr (fun k => w.heap.size ≤ k ∧ k < wr.heap.size) (.slice (some ⟨w.heap.size, 0, none⟩) l.length l.length) l) := ⟨_, _, rfl, .inr ⟨_, _, rfl, ⟨Nat.le_refl _, hown.1⟩, hown⟩⟩
      clear hown
      go_wp2
      go_ret
      exact ⟨rfl, HO.out, hB⟩
set_option maxHeartbeats 1000000 in
theorem eqCell (w : World) (x y : Int) :
    Calls Try.prog 82 #[.agg #[.int .i64 x, .int .i64 y], .agg #[.int .i64 x, .int .i64 y]] w fun e w' => e = .returned (.bool true) ∧ Below w.heap.size w w' := by
  have q0 : (x != x) = false := by simp
  have q1 : (y != y) = false := by simp
  go_enter Try.func82, Try.ntmps82
  go_wp2
  go_ret
  exact ⟨rfl, ((Below.refl _ _).alloc (Nat.le_refl _) _).alloc (by simp) _⟩
set_option maxHeartbeats 1000000 in
theorem eqCells (w : World) (a b : Option Addr) (ca cb : Nat) (xs : List (Int × Int)) (hx : IsP w a xs) (hy : IsP w b xs) (hl : xs.length ≤ 1048576) :
    Calls Try.prog 38 #[.slice a xs.length ca, .slice b xs.length cb] w fun e w' => e = .returned (.bool true) ∧ Below w.heap.size w w' := by
  have hb : ((xs.length : Int) != (xs.length : Int)) = false := by simp
  go_enter Try.func38, Try.ntmps38
  go_wp2
  go_loopw [5] (fun i wr => ∃ k : Nat, k ≤ xs.length ∧ i = .int .i64 k ∧ Below w.heap.size w wr) (fun i _ => xs.length - (intOf i).toNat)
  case atStart => exact ⟨0, Nat.zero_le _, rfl, Below.refl _ _⟩
  case round =>
    obtain ⟨k, hk, rfl, hB⟩ := hrel
    by_cases hlt : k < xs.length
    · rcases hx.below hB with rfl | ⟨xb, xo, rfl, hxb, hxc⟩
      · simp at hlt
      · rcases hy.below hB with rfl | ⟨yb, yo, rfl, hyb, hyc⟩
        · simp at hlt
        · obtain ⟨cx0, cx1⟩ := hxc k hlt
          obtain ⟨cy0, cy1⟩ := hyc k hlt
          clear hxc hyc
          go_wp2
          go_region_with (go_at_call 82; refine (eqCell _ xs[k].1 xs[k].2).mono ?_; rintro e w1 ⟨rfl, hB1⟩)
          all_goals
            have hB : Below w.heap.size w w1 := by first | exact hB.trans (hB1.mono hB.size) | exact hB.drew.trans (hB1.mono hB.size)
            clear hB1
            go_wp2
            go_roundw
            case rel => exact ⟨k + 1, by omega, by go_num, hB⟩
            case measure => simp [intOf]; omega
    · go_wp2
      go_ret
      exact ⟨rfl, hB⟩
set_option maxHeartbeats 400000 in
theorem szCells (w : World) (a : Option Addr) (n cap : Nat) (left : Int) (h0 : 0 ≤ left) (h1 : left ≤ 1048576) (hn : n ≤ 9223372036854775807) :
    Calls Try.prog 33 #[.slice a n cap, .int .i64 left] w fun e w' => e = .returned (.int .i64 (sub left n)) ∧ w' = w := by
  by_cases h : (n : Int) ≤ left
  · rw [sub_yes h]
    go_enter Try.func33, Try.ntmps33
    go_wp2
    go_ret
    exact ⟨rfl, rfl⟩
  · rw [sub_no h]
    go_enter Try.func33, Try.ntmps33
    go_wp2
    go_ret
    exact ⟨rfl, rfl⟩
set_option maxHeartbeats 1000000 in
theorem markCells (w : World) (B : Nat → Prop) (v : Value) (k : Int) (xs : List (Int × Int)) (h : OwC w B v xs) (hl : xs.length ≤ 1048576) (k0 : 0 ≤ k) (k1 : k ≤ 1000000000000) :
    Calls Try.prog 39 #[v, .int .i64 k] w fun e w' => e = .returned (.int .i64 (k + 2 * xs.length)) ∧ OwC w' B v (pmarks k xs.length) ∧ Fr B w w' := by
  obtain ⟨a, cap, rfl, h⟩ := h
  rcases h with rfl | ⟨g, off, rfl, hb, hw⟩
  · go_enter Try.func39, Try.ntmps39
    go_wp2
    go_loop [1, 5] (fun z i => i = .int .i64 0 ∧ z = .int .i64 k) (fun _ i => 0)
    case atStart => exact ⟨rfl, rfl⟩
    case round =>
      obtain ⟨rfl, rfl⟩ := hrel
      go_wp2
      go_ret
      exact ⟨by simp, ⟨a, cap, rfl, .inl rfl⟩, Fr.refl _ _⟩
  · go_enter Try.func39, Try.ntmps39
    go_wp2
    go_loopw [1, 5] (fun q i wr => ∃ j : Nat, j ≤ xs.length ∧ i = .int .i64 j ∧ q = .int .i64 (k + 2 * j) ∧ ∃ l : List (Int × Int), l.length = xs.length ∧ LikeP l (pmarks k xs.length) j ∧ Wr wr g off (pv l) ∧ w.grownBy wr (some g)) (fun _ i _ => xs.length - (intOf i).toNat)
    case atStart => exact ⟨0, Nat.zero_le _, rfl, by go_num, xs, rfl, fun j hj => by omega, hw, Li.grown_refl _ _⟩
    case round =>
      obtain ⟨j, hj, rfl, rfl, l, hll, hlike, hown, hg⟩ := hrel
      have HLL : Hid (l.length = xs.length) := hll
      clear hw
      by_cases hlt : j < xs.length
      · obtain ⟨⟨c0, c1⟩, f0, f1⟩ := hown.at2 j (by omega)
        obtain ⟨y0, hy0⟩ : ∃ y, l[j]'(by omega) = y := ⟨_, rfl⟩
        rw [hy0] at c0 c1
        have hgl := hown.1
        have HO : Hid (Wr ((wr.setCell ⟨g, off + j * 2, none⟩ (.int .i64 (k + 2 * j))).setCell ⟨g, off + j * 2 + 1, none⟩ (.int .i64 (k + 2 * j + 1))) g off (pv (l.set j (k + 2 * j, k + 2 * j + 1)))) := hown.set2 j (by omega) _ _
        have HL : Hid (LikeP (l.set j (k + 2 * j, k + 2 * j + 1)) (pmarks k xs.length) (j + 1)) := by
          have := likeP_set hlike (by rw [pmarks_length]; exact hlt) (by rw [pmarks_length]; exact hll)
          rwa [pmarks_get] at this
        clear hown hlike hy0 hll
        go_wp2
        go_roundw
        case rel => exact ⟨j + 1, by omega, by go_num, by go_num, l.set j (k + 2 * j, k + 2 * j + 1), by simpa using HLL.out, HL.out, HO.out, Li.grown_trans (Li.grown_trans hg (Li.grown_set _ _ _ _)) (Li.grown_set _ _ _ _)⟩
        case measure => simp [intOf]; omega
      · obtain rfl : j = xs.length := by omega
        have HO : Hid (Wr wr g off (pv (pmarks k xs.length))) := by
          have e := likeP_all (xs := pmarks k xs.length) (by rw [pmarks_length]; exact hlike) (by rw [pmarks_length]; exact hll)
          rw [← e]; exact hown
        clear hown hlike
        go_wp2
        go_ret
        exact ⟨rfl, ⟨_, cap, by rw [pmarks_length], .inr ⟨g, off, rfl, hb, HO.out⟩⟩, fr_grown hg hb⟩
end Go.Proofs.Ytbnjbmajfadmaaa.Sv
