/-
  Rows as the laws hold them: how great, a copy, a comparison, marks and whether they are held.
-/
import Derived.Test.YtbnjbmajfadmaaaSeO
namespace Go.Proofs.Ytbnjbmajfadmaaa.Sv
open Go.RowKit
open Go.Proofs.Ytbnjbmajfadmaaa.Li (iv ret_bool ret_int below_none IsL marks marks_length marks_get)
open Go.Proofs.Ytbnjbmajfadmaaa.Tb (sub sub_yes sub_no)
open Go.Proofs.Ytbnjbmajfadmaaa.Se (R)
set_option linter.unusedVariables false

/-- What rows read as. -/
def Rd (w : World) (a0 a1 a2 : Option Addr) (r : R) : Prop := IsV w a0 r.x ∧ IsL w a1 r.g ∧ IsL w a2 r.ids
theorem Rd.below {w w1 : World} {a0 a1 a2 : Option Addr} {r : R} (h : Rd w a0 a1 a2 r) (hb : Below w.heap.size w w1) : Rd w1 a0 a1 a2 r := ⟨h.1.below hb, h.2.1.below hb, h.2.2.below hb⟩
theorem Rd.drewN {w : World} {a0 a1 a2 : Option Addr} {r : R} (h : Rd w a0 a1 a2 r) (n : Nat) : Rd (w.drewN n) a0 a1 a2 r := h
theorem Rd.drew {w : World} {a0 a1 a2 : Option Addr} {r : R} (h : Rd w a0 a1 a2 r) : Rd w.drew a0 a1 a2 r := h
def szr (r : R) : Nat := r.x.length + tot r.x + r.g.length + r.ids.length
def FitsR (r : R) : Prop := FitsV r.x ∧ r.g.length ≤ 9223372036854775807 ∧ r.ids.length ≤ 9223372036854775807
/-- Rows that may be written, in blocks of B. -/
def OwR (w : World) (B : Nat → Prop) (v0 v1 v2 : Value) (r : R) : Prop :=
  ∃ B0 B1 B2 : Nat → Prop, OwV w B0 v0 r.x ∧ OwI w B1 v1 r.g ∧ OwI w B2 v2 r.ids ∧ (∀ k, B0 k → B k ∧ ¬ B1 k ∧ ¬ B2 k) ∧ (∀ k, B1 k → B k ∧ ¬ B2 k) ∧ ∀ k, B2 k → B k
theorem OwR.fr {w w1 : World} {B B' : Nat → Prop} {v0 v1 v2 : Value} {r : R} (h : OwR w B v0 v1 v2 r) (hf : Fr B' w w1) (hd : ∀ k, B k → ¬ B' k) : OwR w1 B v0 v1 v2 r := by
  obtain ⟨B0, B1, B2, h0, h1, h2, d0, d1, d2⟩ := h
  exact ⟨B0, B1, B2, h0.fr hf (fun k hk => hd k (d0 k hk).1), h1.fr hf (fun k hk => hd k (d1 k hk).1), h2.fr hf (fun k hk => hd k (d2 k hk)), d0, d1, d2⟩
theorem OwR.below {w w1 : World} {B : Nat → Prop} {v0 v1 v2 : Value} {r : R} (h : OwR w B v0 v1 v2 r) (hb : Below w.heap.size w w1) : OwR w1 B v0 v1 v2 r := h.fr (fr_below (B := fun _ => False) hb) (fun _ _ e => e)
theorem OwR.mono {w : World} {B B' : Nat → Prop} {v0 v1 v2 : Value} {r : R} (h : OwR w B v0 v1 v2 r) (hb : ∀ k, B k → B' k) : OwR w B' v0 v1 v2 r := by
  obtain ⟨B0, B1, B2, h0, h1, h2, d0, d1, d2⟩ := h
  exact ⟨B0, B1, B2, h0, h1, h2, fun k hk => ⟨hb k (d0 k hk).1, (d0 k hk).2⟩, fun k hk => ⟨hb k (d1 k hk).1, (d1 k hk).2⟩, fun k hk => hb k (d2 k hk)⟩
theorem OwR.rd {w : World} {B : Nat → Prop} {v0 v1 v2 : Value} {r : R} (h : OwR w B v0 v1 v2 r) : ∃ a0 c0 a1 c1 a2 c2, v0 = .slice a0 r.x.length c0 ∧ v1 = .slice a1 r.g.length c1 ∧ v2 = .slice a2 r.ids.length c2 ∧ Rd w a0 a1 a2 r := by
  obtain ⟨B0, B1, B2, h0, h1, h2, _⟩ := h
  obtain ⟨a0, c0, e0, i0⟩ := h0.isv
  obtain ⟨a1, c1, e1, i1⟩ := h1.isl
  obtain ⟨a2, c2, e2, i2⟩ := h2.isl
  exact ⟨a0, c0, a1, c1, a2, c2, e0, e1, e2, i0, i1, i2⟩
def rmarks (k : Int) (r : R) : R := ⟨vmarks k r.x, marks (k + tot r.x) r.g.length, marks (k + tot r.x + r.g.length) r.ids.length, r.lv, r.l2⟩
set_option maxHeartbeats 1000000 in
theorem szRows (w : World) (a0 a1 a2 : Option Addr) (c0 c1 c2 : Nat) (r : R) (left : Int) (h : Rd w a0 a1 a2 r) (hf : FitsR r) (h0 : 0 ≤ left) (h1 : left ≤ 1048576) :
    Calls Try.prog 23 #[.agg #[.slice a0 r.x.length c0, .slice a1 r.g.length c1, .slice a2 r.ids.length c2, .int .i64 r.lv, .int .i64 r.l2], .int .i64 left] w fun e w' => e = .returned (.int .i64 (sub left (szr r))) ∧ Below w.heap.size w w' := by
  have hf1 := hf.2.1
  have hf2 := hf.2.2
  go_enter Try.func23, Try.ntmps23
  go_wp2_with fail
  obtain ⟨W, hW, hsz, hB, bx⟩ := new1 w [.slice a0 r.x.length c0, .slice a1 r.g.length c1, .slice a2 r.ids.length c2, .int .i64 r.lv, .int .i64 r.l2] 53
  rw [hW]
  clear hW hsz
  refine (szVecs _ _ _ _ r.x (h.1.below hB) hf.1 h0 h1).mono ?_
  rintro e w1 ⟨rfl, hb⟩
  obtain ⟨_, ⟨x0, x1, x2, x3, x4⟩, _⟩ := wr5 (bx.below hb)
  have hB := hB.trans (hb.mono hB.size)
  clear hb bx
  have HS : Hid (szr r = r.x.length + tot r.x + r.g.length + r.ids.length) := rfl
  obtain ⟨n0, hn0⟩ : ∃ n, r.x.length + tot r.x = n := ⟨_, rfl⟩
  rw [hn0] at HS ⊢
  obtain ⟨n1, hn1⟩ : ∃ n, r.g.length = n := ⟨_, rfl⟩
  obtain ⟨n2, hn2⟩ : ∃ n, r.ids.length = n := ⟨_, rfl⟩
  rw [hn1] at HS x1 hf1
  rw [hn2] at HS x2 hf2
  clear hn0 hn1 hn2
  by_cases f0 : (n0 : Int) ≤ left
  · rw [sub_yes f0]
    go_wp2_with fail
    refine (Tb.szInts _ _ _ _ _ (by omega) (by omega) hf1).mono ?_
    rintro e w' ⟨rfl, hw⟩
    subst w'
    by_cases f1 : (n1 : Int) ≤ left - n0
    · rw [sub_yes f1]
      go_wp2_with fail
      refine (Tb.szInts _ _ _ _ _ (by omega) (by omega) hf2).mono ?_
      rintro e w' ⟨rfl, hw⟩
      subst w'
      by_cases f2 : (n2 : Int) ≤ left - n0 - n1
      · rw [sub_yes f2]
        have HR : Hid (sub left (szr r) = left - n0 - n1 - n2) := by show sub _ _ = _; rw [HS.out, sub_yes (by omega)]; omega
        go_wp2
        go_ret
        exact ⟨by rw [HR.out]; rfl, hB⟩
      · rw [sub_no f2]
        have HR : Hid (sub left (szr r) = -1) := by show sub _ _ = _; rw [HS.out, sub_no (by omega)]
        go_wp2
        go_ret
        exact ⟨by rw [HR.out]; rfl, hB⟩
    · rw [sub_no f1]
      have HR : Hid (sub left (szr r) = -1) := by show sub _ _ = _; rw [HS.out, sub_no (by omega)]
      go_wp2
      go_ret
      exact ⟨by rw [HR.out]; rfl, hB⟩
  · rw [sub_no f0]
    have HR : Hid (sub left (szr r) = -1) := by show sub _ _ = _; rw [HS.out, sub_no (by omega)]
    go_wp2
    go_ret
    exact ⟨by rw [HR.out]; rfl, hB⟩
set_option maxHeartbeats 1000000 in
/-- Rows are the same as themselves, wherever the two lie. -/
theorem eqRows (w : World) (a0 a1 a2 b0 b1 b2 : Option Addr) (c0 c1 c2 d0 d1 d2 : Nat) (r : R) (h : Rd w a0 a1 a2 r) (h' : Rd w b0 b1 b2 r) (hl : szr r ≤ 1048576) :
    Calls Try.prog 27 #[.agg #[.slice a0 r.x.length c0, .slice a1 r.g.length c1, .slice a2 r.ids.length c2, .int .i64 r.lv, .int .i64 r.l2], .agg #[.slice b0 r.x.length d0, .slice b1 r.g.length d1, .slice b2 r.ids.length d2, .int .i64 r.lv, .int .i64 r.l2]] w fun e w' => e = .returned (.bool true) ∧ Below w.heap.size w w' := by
  have hls : r.x.length + tot r.x + r.g.length + r.ids.length ≤ 1048576 := hl
  go_enter Try.func27, Try.ntmps27
  go_wp2_with fail
  obtain ⟨W, hW, hsz, hB, bx, by'⟩ := new2 w [.slice a0 r.x.length c0, .slice a1 r.g.length c1, .slice a2 r.ids.length c2, .int .i64 r.lv, .int .i64 r.l2] [.slice b0 r.x.length d0, .slice b1 r.g.length d1, .slice b2 r.ids.length d2, .int .i64 r.lv, .int .i64 r.l2] 27 27
  rw [hW]
  clear hW hsz
  refine (eqVecs _ _ _ _ _ r.x (h.1.below hB) (h'.1.below hB) (by omega)).mono ?_
  rintro e w1 ⟨rfl, hb⟩
  have bx := bx.below hb
  have by' := by'.below hb
  have hB := hB.trans (hb.mono hB.size)
  clear hb
  obtain ⟨_, ⟨x0, x1, x2, x3, x4⟩, _⟩ := wr5 bx
  obtain ⟨_, ⟨y0, y1, y2, y3, y4⟩, _⟩ := wr5 by'
  go_wp2_with fail
  clear x0 x1 x2 x3 x4 y0 y1 y2 y3 y4
  refine (Li.eq_bel _ _ _ _ _ r.g r.g (h.2.1.below hB) (h'.2.1.below hB) (by omega) (by omega)).mono ?_
  rintro e w2 ⟨rfl, hb⟩
  rw [Li.eqs_self]
  have bx := bx.below hb
  have by' := by'.below hb
  have hB := hB.trans (hb.mono hB.size)
  clear hb
  obtain ⟨_, ⟨x0, x1, x2, x3, x4⟩, _⟩ := wr5 bx
  obtain ⟨_, ⟨y0, y1, y2, y3, y4⟩, _⟩ := wr5 by'
  go_wp2_with fail
  clear x0 x1 x2 x3 x4 y0 y1 y2 y3 y4
  refine (Li.eq_bel _ _ _ _ _ r.ids r.ids (h.2.2.below hB) (h'.2.2.below hB) (by omega) (by omega)).mono ?_
  rintro e w3 ⟨rfl, hb⟩
  rw [Li.eqs_self]
  have bx := bx.below hb
  have by' := by'.below hb
  have hB := hB.trans (hb.mono hB.size)
  clear hb
  obtain ⟨_, ⟨x0, x1, x2, x3, x4⟩, _⟩ := wr5 bx
  obtain ⟨_, ⟨y0, y1, y2, y3, y4⟩, _⟩ := wr5 by'
  have q0 : (r.lv != r.lv) = false := by simp
  have q1 : (r.l2 != r.l2) = false := by simp
  go_wp2
  go_ret
  exact ⟨rfl, hB⟩
set_option maxHeartbeats 2000000 in
theorem toRows (w : World) (a0 a1 a2 : Option Addr) (c0 c1 c2 : Nat) (r : R) (h : Rd w a0 a1 a2 r) (hl : szr r ≤ 1048576) :
    Calls Try.prog 25 #[.agg #[.slice a0 r.x.length c0, .slice a1 r.g.length c1, .slice a2 r.ids.length c2, .int .i64 r.lv, .int .i64 r.l2]] w fun e w' => ∃ g0 g1 g2, e = .returned (.agg #[.slice (some ⟨g0, 0, none⟩) r.x.length r.x.length, .slice (some ⟨g1, 0, none⟩) r.g.length r.g.length, .slice (some ⟨g2, 0, none⟩) r.ids.length r.ids.length, .int .i64 r.lv, .int .i64 r.l2]) ∧ OwR w' (fun k => w.heap.size ≤ k ∧ k < w'.heap.size) (.slice (some ⟨g0, 0, none⟩) r.x.length r.x.length) (.slice (some ⟨g1, 0, none⟩) r.g.length r.g.length) (.slice (some ⟨g2, 0, none⟩) r.ids.length r.ids.length) r ∧ Below w.heap.size w w' := by
  have hls : r.x.length + tot r.x + r.g.length + r.ids.length ≤ 1048576 := hl
  go_enter Try.func25, Try.ntmps25
  go_wp2_with fail
  obtain ⟨W, hW, hsz, hB, bx, br, bo⟩ := new3 w [.slice a0 r.x.length c0, .slice a1 r.g.length c1, .slice a2 r.ids.length c2, .int .i64 r.lv, .int .i64 r.l2] [.slice none 0 0, .slice none 0 0, .slice none 0 0, .int .i64 0, .int .i64 0] [.slice none 0 0, .slice none 0 0, .slice none 0 0, .int .i64 0, .int .i64 0] 53 27 27
  rw [hW]
  clear hW
  refine (toVecs _ _ _ r.x (h.1.below hB) (by omega)).mono ?_
  rintro e w1 ⟨g0, rfl, o0, hb⟩
  have bx := bx.below hb
  have br := br.below hb
  have bo := bo.below hb
  have hB := hB.trans (hb.mono hB.size)
  have hs1 := hb.size
  clear hb
  obtain ⟨S1, hS1⟩ : ∃ n, w1.heap.size = n := ⟨_, rfl⟩
  obtain ⟨S0, hS0⟩ : ∃ n, W.heap.size = n := ⟨_, rfl⟩
  have o0 : OwV w1 (fun q => S0 ≤ q ∧ q < S1) (.slice (some ⟨g0, 0, none⟩) r.x.length r.x.length) r.x := by rw [hS0, hS1] at o0; exact o0
  obtain ⟨w2, hw2, hz2, hB2, bx2, br2, bo2, o2⟩ : ∃ w2, w1.setCell ⟨w.heap.size + 1 + 1, 0, none⟩ (.slice (some ⟨g0, 0, none⟩) r.x.length r.x.length) = w2 ∧ w2.heap.size = S1 ∧ Below w.heap.size w w2 ∧ Wr w2 w.heap.size 0 [.slice a0 r.x.length c0, .slice a1 r.g.length c1, .slice a2 r.ids.length c2, .int .i64 r.lv, .int .i64 r.l2] ∧ Wr w2 (w.heap.size + 1) 0 _ ∧ Wr w2 (w.heap.size + 2) 0 [.slice (some ⟨g0, 0, none⟩) r.x.length r.x.length, .slice none 0 0, .slice none 0 0, .int .i64 0, .int .i64 0] ∧ OwV w2 (fun q => S0 ≤ q ∧ q < S1) (.slice (some ⟨g0, 0, none⟩) r.x.length r.x.length) r.x :=
    ⟨_, rfl, by simpa [World.setCell] using hS1, hB.setCell (p := ⟨w.heap.size + 1 + 1, 0, none⟩) (by simp; omega) _, bx.setOther (by omega), br.setOther (by omega), by have := bo.set 0 (by simp) (.slice (some ⟨g0, 0, none⟩) r.x.length r.x.length); simpa using this, o0.fr (fr_grown (B := fun q => q = w.heap.size + 2) (Li.grown_set _ _ _ _) rfl) (fun k hk e => by omega)⟩
  obtain ⟨_, ⟨x0, x1, x2, x3, x4⟩, _⟩ := wr5 bx
  obtain ⟨hbo, ⟨y0, y1, y2, y3, y4⟩, f0, f1, f2, f3, f4⟩ := wr5 bo
  have HW : Hid (w1.setCell ⟨w.heap.size + 1 + 1, 0, none⟩ (.slice (some ⟨g0, 0, none⟩) r.x.length r.x.length) = w2) := hw2
  have HS1 : Hid (w1.heap.size = S1) := hS1
  have HS0 : Hid (W.heap.size = S0) := hS0
  have HSZ : Hid (W.heap.size = w.heap.size + 3) := hsz
  have HZ2 : Hid (w2.heap.size = S1) := hz2
  have hS01 : S0 ≤ S1 := by omega
  have hS03 : w.heap.size + 3 ≤ S0 := by omega
  clear hw2 hS1 hS0 hsz hz2 o0 hB br bx bo hs1
  go_wp2_with fail
  rw [HW.out]
  clear HW x0 x1 x2 x3 x4 y0 y1 y2 y3 y4 f0 f1 f2 f3 f4 hbo
  refine (Li.to_any _ _ _ r.g (h.2.1.below hB2) (by omega)).mono ?_
  rintro e w3 ⟨rfl, o1, hb⟩
  have bx := bx2.below hb
  have br := br2.below hb
  have bo := bo2.below hb
  have hB := hB2.trans (hb.mono hB2.size)
  have o2 := o2.below hb
  have hs3 := hb.size
  rw [HZ2.out] at o1 hs3 ⊢
  obtain ⟨S3, hS3⟩ : ∃ n, w3.heap.size = n := ⟨_, rfl⟩
  rw [hS3] at hs3
  have hl3 : S1 < S3 := by have := (o1.ge S1 rfl).2; omega
  have o1 : OwI w3 (fun q => S1 ≤ q ∧ q < S3) (.slice (some ⟨S1, 0, none⟩) r.g.length r.g.length) r.g := owi_of o1 rfl ⟨Nat.le_refl _, hl3⟩
  clear hb bx2 br2 bo2 hB2
  obtain ⟨w4, hw4, hz4, hB4, bx4, br4, bo4, o24, o14⟩ : ∃ w4, w3.setCell ⟨w.heap.size + 1 + 1, 1, none⟩ (.slice (some ⟨S1, 0, none⟩) r.g.length r.g.length) = w4 ∧ w4.heap.size = S3 ∧ Below w.heap.size w w4 ∧ Wr w4 w.heap.size 0 [.slice a0 r.x.length c0, .slice a1 r.g.length c1, .slice a2 r.ids.length c2, .int .i64 r.lv, .int .i64 r.l2] ∧ Wr w4 (w.heap.size + 1) 0 _ ∧ Wr w4 (w.heap.size + 2) 0 [.slice (some ⟨g0, 0, none⟩) r.x.length r.x.length, .slice (some ⟨S1, 0, none⟩) r.g.length r.g.length, .slice none 0 0, .int .i64 0, .int .i64 0] ∧ OwV w4 (fun q => S0 ≤ q ∧ q < S1) (.slice (some ⟨g0, 0, none⟩) r.x.length r.x.length) r.x ∧ OwI w4 (fun q => S1 ≤ q ∧ q < S3) (.slice (some ⟨S1, 0, none⟩) r.g.length r.g.length) r.g :=
    ⟨_, rfl, by simpa [World.setCell] using hS3, hB.setCell (p := ⟨w.heap.size + 1 + 1, 1, none⟩) (by simp; omega) _, bx.setOther (by omega), br.setOther (by omega), by have := bo.set 1 (by simp) (.slice (some ⟨S1, 0, none⟩) r.g.length r.g.length); simpa using this, o2.fr (fr_grown (B := fun q => q = w.heap.size + 2) (Li.grown_set _ _ _ _) rfl) (fun k hk e => by omega), o1.fr (fr_grown (B := fun q => q = w.heap.size + 2) (Li.grown_set _ _ _ _) rfl) (fun k hk e => by omega)⟩
  obtain ⟨_, ⟨x0, x1, x2, x3, x4⟩, _⟩ := wr5 bx
  obtain ⟨hbo, ⟨y0, y1, y2, y3, y4⟩, f0, f1, f2, f3, f4⟩ := wr5 bo
  have HW : Hid (w3.setCell ⟨w.heap.size + 1 + 1, 1, none⟩ (.slice (some ⟨S1, 0, none⟩) r.g.length r.g.length) = w4) := hw4
  have HZ4 : Hid (w4.heap.size = S3) := hz4
  clear hw4 hS3 hz4 o2 o1 hB br bx bo
  go_wp2_with fail
  rw [HW.out]
  clear HW x0 x1 x2 x3 x4 y0 y1 y2 y3 y4 f0 f1 f2 f3 f4 hbo
  refine (Li.to_any _ _ _ r.ids (h.2.2.below hB4) (by omega)).mono ?_
  rintro e w5 ⟨rfl, o5, hb⟩
  have bx := bx4.below hb
  have br := br4.below hb
  have bo := bo4.below hb
  have hB := hB4.trans (hb.mono hB4.size)
  have o0 := o24.below hb
  have o1 := o14.below hb
  rw [HZ4.out] at o5 ⊢
  have hl5 : S3 < w5.heap.size := (o5.ge S3 rfl).2
  have o2 : OwI w5 (fun q => S3 ≤ q ∧ q < w5.heap.size) (.slice (some ⟨S3, 0, none⟩) r.ids.length r.ids.length) r.ids := owi_of o5 rfl ⟨Nat.le_refl _, hl5⟩
  clear hb bx4 br4 bo4 hB4 o24 o14 o5
  have HO : Hid (OwR w5 (fun k => w.heap.size + 3 ≤ k ∧ k < w5.heap.size) (.slice (some ⟨g0, 0, none⟩) r.x.length r.x.length) (.slice (some ⟨S1, 0, none⟩) r.g.length r.g.length) (.slice (some ⟨S3, 0, none⟩) r.ids.length r.ids.length) r) := ⟨_, _, _, o0, o1, o2, fun k hk => by omega, fun k hk => by omega, fun k hk => by omega⟩
  have HB : Hid (Below w.heap.size w w5) := hB
  have HBX : Hid (Wr w5 (w.heap.size + 2) 0 _) := bo
  have HBR : Hid (Wr w5 (w.heap.size + 1) 0 _) := br
  obtain ⟨_, ⟨x0, x1, x2, x3, x4⟩, _⟩ := wr5 bx
  obtain ⟨hbo, ⟨y0, y1, y2, y3, y4⟩, f0, f1, f2, f3, f4⟩ := wr5 bo
  obtain ⟨hbr, ⟨u0, u1, u2, u3, u4⟩, e0, e1, e2, e3, e4⟩ := wr5 br
  clear o0 o1 o2 hB bx bo br hS01 hS03 hl3 hs3 h hl hls
  go_wp2
  refine bodyPost_ret (v := .agg #[.slice (some ⟨g0, 0, none⟩) r.x.length r.x.length, .slice (some ⟨S1, 0, none⟩) r.g.length r.g.length, .slice (some ⟨S3, 0, none⟩) r.ids.length r.ids.length, .int .i64 r.lv, .int .i64 r.l2]) (by rw [Tm.results_cell rfl]; go_simp) rfl ⟨_, _, _, rfl, ?_, ?_⟩
  · have hfr : ∀ (A : World) (b o : Nat) (v : Value), b = w.heap.size + 2 ∨ b = w.heap.size + 1 → Fr (fun k => k = w.heap.size + 2 ∨ k = w.heap.size + 1) A (A.setCell ⟨b, o, none⟩ v) := fun A b o v hb => fr_grown (Li.grown_set A b o v) hb
    refine (HO.out.fr (B' := fun k => k = w.heap.size + 2 ∨ k = w.heap.size + 1) ?_ (fun k hk e => by omega)).mono (fun k hk => ⟨by omega, by simpa [World.setCell] using hk.2⟩)
    iterate 8 refine Fr.trans ?_ (hfr _ _ _ _ (by omega))
    exact Fr.refl _ _
  · have hB := HB.out
    iterate 8 refine Below.setCell ?_ (by simp; try omega) _
    exact hB
end Go.Proofs.Ytbnjbmajfadmaaa.Sv
