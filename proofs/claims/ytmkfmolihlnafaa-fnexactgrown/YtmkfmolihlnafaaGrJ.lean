/-
  Grown of the program: the tree of pointers made and laid out.
-/
import Derived.Test.YtmkfmolihlnafaaGrI
namespace Go.Proofs.Ytmkfmolihlnafaa.Gi
open Go.RowKit
open Go.Proofs.Ytmkfmolihlnafaa.Li (ret_bool ret_int below_none)
open Go.Proofs.Ytmkfmolihlnafaa.Tr Go.Proofs.Ytmkfmolihlnafaa.Tm
set_option linter.unusedVariables false

set_option maxRecDepth 100000 in
set_option maxHeartbeats 8000000 in
theorem igrown (w : World) (a a' : Option Addr) (c c' : Nat) (t : T) (hp : IsP w a t.sp) (hx : Li.IsL w a' t.lv) (hl : t.sp.length + t.lv.length ≤ 1048576) :
    Calls Try.prog 21 #[.agg #[.slice a t.sp.length c, .slice a' t.lv.length c']] w fun e w' => ∃ v, e = .returned v ∧ OwnN w' w.heap.size v (grown t) ∧ Below w.heap.size w w' := by
  obtain ⟨i0, hi, hz0, hz1, hz2⟩ := info_parts info_nd
  obtain ⟨R, hR⟩ : ∃ R, grown t = R := ⟨_, rfl⟩
  rw [hR]
  have HR : Hid (grown t = R) := hR
  clear hR
  go_enter Try.func21, Try.ntmps21
  go_wp2_with fail
  obtain ⟨W, hW, hsz, hB, bx⟩ := boxes1 w (.slice a t.sp.length c) (.slice a' t.lv.length c') 30
  rw [hW]
  clear hW
  have hp := hp.below hB
  have hx := hx.below hB
  refine (Tw.itok _ _ _ _ _ t hp hx hl).mono ?_
  rintro e w1 ⟨rfl, hB1⟩
  have bx := bx.below hB1
  have hp := hp.below hB1
  have hx := hx.below hB1
  have hB := hB.trans (hB1.mono hB.size)
  clear hB1 hsz
  obtain ⟨hbl, ⟨cx0, cx1⟩, _⟩ := id bx
  cases ht : tok t with
  | false =>
    obtain rfl : R = [] := by rw [← HR.out]; exact grown_no ht
    go_wp2
    go_ret
    exact ⟨_, rfl, World.ownsRow_nil _ _ _ _, hB⟩
  | true =>
    have HT : Hid (tok t = true) := ht
    have hlv : t.lv.length ≤ 16 := by
      rw [(tok_iff.1 ht).1.2]
      exact Nat.pow_le_pow_right (n := 2) (j := 4) (by decide) (tok_iff.1 ht).1.1
    have hlv0 : 0 < t.lv.length := by rw [(tok_iff.1 ht).1.2]; exact Nat.pow_pos (by decide)
    obtain ⟨N, hN⟩ : ∃ N, 2 * t.lv.length - 1 = N := ⟨_, rfl⟩
    have HRY : Hid (lay (nodeAt t) t.sp.length 0 0 (List.replicate N ⟨0, 0, 0, 0, 0⟩) = R) := by show _ = _; rw [← hN, lay_grown ht, HR.out]
    have HN2 : Hid (N = 2 * 2 ^ t.sp.length - 1) := by show _ = _; rw [← hN, (tok_iff.1 ht).1.2]
    have hN31 : N ≤ 31 := by omega
    have hvN : Value.int .i64 (2 * (t.lv.length : Int) - 1) = .int .i64 (N : Int) := by congr 1; omega
    have hNa : N ≤ 2 * t.lv.length - 1 := by omega
    have hNb : 2 * t.lv.length - 1 ≤ N := by omega
    clear ht HR hN
    go_wp2_with (at_make; refine wpList_make_full _ rfl _ _ 38 rfl w1.heap.size 64 i0 (.agg #[.int .i64 0, .int .i64 0, .int .i64 0, .int .i64 0, .int .i64 0]) 5 Try.underlying38 hi hz0 hz1 _ _ _ _ N rfl rfl (by omega) (by omega) (by rw [hz2]; omega) (by unfold maxLen; omega) (Nat.le_refl _) ?_; intro w2 hown hgrow; have hB2 : Below w1.heap.size w1 w2 := below_none hgrow; have bx2 := bx.below hB2; obtain ⟨_, ⟨dx0, dx1⟩, _⟩ := id bx2)
    have ho := ownN_made hown
    have hp2 := hp.below hB2
    have hx2 := hx.below hB2
    have hBw := hB.trans (hB2.mono hB.size)
    have hg2 := (ho.ge w1.heap.size rfl).2
    clear hown hgrow hp hx cx0 cx1 dx0 dx1
    refine (igrow t HT.out t.sp.length w2 _ _ _ _ 0 0 (by omega) (by decide) hp2 hx2).mono ?_
    rintro e w3 ⟨v, rfl, hnt, hB3⟩
    have ho := ho.below hB3
    have hBw := hBw.trans (hB3.mono hBw.size)
    obtain ⟨T1, n1, hv⟩ := hnt.form
    subst hv
    go_wp2_with fail
    refine (ilay t HT.out t.sp.length w3 w1.heap.size w1.heap.size N N _ _ 0 0 w2.heap.size (by omega) (by decide) (by simp) HN2.out hg2 ho hnt).mono ?_
    rintro e w4 ⟨rfl, o4, hg4⟩
    have hB4 : Below w.heap.size w w4 := hBw.trans ⟨hg4.os, hg4.tape, hg4.output, hg4.size, fun k hk => hg4.block k (by have := hBw.size; omega) (by simp; have := hB.size; omega)⟩
    have HO4 : Hid (OwnN w4 w.heap.size (.slice (some ⟨w1.heap.size, 0, none⟩) N N) R) := by
      have h := o4.mono (base' := w.heap.size) hB.size
      rw [HRY.out] at h; exact h
    clear o4 hg4
    go_wp2
    go_ret
    exact ⟨_, rfl, HO4.out, hB4⟩
end Go.Proofs.Ytmkfmolihlnafaa.Gi
