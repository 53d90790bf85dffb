/-
  Pairs of words: contracts of Paired, of the program and of its model, over one plain function.
-/
import Derived.Test.YtkiddmbenepfjaaWords
import Derived.Test.YtkiddmbenepfjaaApd
import Derived.Test.YtkiddmbenepfjaaSiz
import Derived.Deep.DeepMust
namespace Go.Proofs.Ytkiddmbenepfjaa.Pa
open Go.RowKit
open Go.Proofs.Ytkiddmbenepfjaa.Wd
open Go.Proofs.Ytkiddmbenepfjaa.Li (below_none)

theorem pr_size (a b : ByteArray) : (pr a b).size = a.size + 1 + b.size := by
  unfold pr; simp [ByteArray.size_append]; rfl
theorem paired_no {xs ys : List ByteArray} (h : ¬ xs.length = ys.length) : paired xs ys = [] := by unfold paired; rw [if_neg h]
theorem paired_yes {xs ys : List ByteArray} (h : xs.length = ys.length) : paired xs ys = List.zipWith pr xs ys := by unfold paired; rw [if_pos h]
theorem paired_len {xs ys : List ByteArray} (h : xs.length = ys.length) : (paired xs ys).length = xs.length := by rw [paired_yes h]; simp; omega
theorem paired_get {xs ys : List ByteArray} (h : xs.length = ys.length) (k : Nat) (hk : k < (paired xs ys).length) : (paired xs ys)[k] = pr (xs[k]'(by rw [paired_len h] at hk; exact hk)) (ys[k]'(by rw [paired_len h] at hk; omega)) := by
  simp [paired_yes h]
set_option maxHeartbeats 2000000 in
theorem ipair (w : World) (a b : Option Addr) (ca cb : Nat) (xs ys : List ByteArray) (hx : Ls.IsS w a xs) (hy : Ls.IsS w b ys) (hl : xs.length ≤ 1048576) (hl' : ys.length ≤ 1048576) (hz : ∀ j (h : j < xs.length), xs[j].size ≤ 1048576) (hz' : ∀ j (h : j < ys.length), ys[j].size ≤ 1048576) :
    Calls Try.prog 88 #[.slice a xs.length ca, .slice b ys.length cb] w fun e w' => ∃ v, e = .returned v ∧ Ls.Own w' w.heap.size v (paired xs ys) ∧ Below w.heap.size w w' := by
  by_cases he : xs.length = ys.length
  rotate_left
  · rw [paired_no he]
    have he' : ((xs.length : Int) != (ys.length : Int)) = true := by simp; omega
    go_enter Try.func88, Try.ntmps88
    go_wp2
    go_ret
    exact ⟨_, rfl, Ls.Own.nil _ _, Below.refl _ _⟩
  have he' : ((xs.length : Int) != (ys.length : Int)) = false := by simp; omega
  have hpl := paired_len he
  have HPL : Hid ((paired xs ys).length = xs.length) := hpl
  have HE : Hid (xs.length = ys.length) := he
  clear he hpl
  obtain ⟨i0, hi, hz0, hz1, hz2⟩ := info_parts Ls.info_str
  go_enter Try.func88, Try.ntmps88
  go_wp2_with (at_make; refine wpList_make_full _ rfl _ _ 39 rfl w.heap.size 9 i0 (.string ⟨#[]⟩) 1 Try.underlying39 hi hz0 hz1 _ _ _ _ xs.length rfl rfl (by omega) (by omega) (by rw [hz2]; omega) (by unfold maxLen; omega) (Nat.le_refl _) ?_; intro w1 hown hgrow)
  have hown' := Ls.own_made hown
  have hB1 := below_none hgrow
  clear hown hgrow
  go_loopw [18] (fun i wr => ∃ k : Nat, k ≤ xs.length ∧ i = .int .i64 k ∧ ∃ l : List ByteArray, l.length = xs.length ∧ Ls.Like l (paired xs ys) k ∧ Ls.Own wr w.heap.size (.slice (some ⟨w.heap.size, 0, none⟩) xs.length xs.length) l ∧ Below w.heap.size w wr) (fun i _ => xs.length - (intOf i).toNat)
  case atStart => exact ⟨0, Nat.zero_le _, rfl, _, by simp, fun j hj => by omega, hown', hB1⟩
  case round =>
    obtain ⟨k, hk, rfl, l, hll, hlike, hown, hB⟩ := hrel
    by_cases hlt : k < xs.length
    · have hly : k < ys.length := by have := HE.out; omega
      rcases hx with rfl | ⟨xb, xo, rfl, hxb, hxc⟩
      · simp at hlt
      rcases hy with rfl | ⟨yb, yo, rfl, hyb, hyc⟩
      · simp at hly
      have hcx : wr.cell? ⟨xb, xo + k, none⟩ = some (.string xs[k]) := (hB.cell (by exact hxb)).trans (hxc k hlt)
      have hcy : wr.cell? ⟨yb, yo + k, none⟩ = some (.string ys[k]) := (hB.cell (by exact hyb)).trans (hyc k hly)
      obtain ⟨cv, hcl⟩ : ∃ cv, wr.cell? ⟨w.heap.size, k, none⟩ = some (.string cv) := ⟨_, hown.cell hll k (by omega)⟩
      have hcf := hown.frozen hll k
      have HO : Hid (Ls.Own wr w.heap.size (.slice (some ⟨w.heap.size, 0, none⟩) xs.length xs.length) l) := hown
      have hkp : k < (paired xs ys).length := by rw [HPL.out]; exact hlt
      have HL : Hid (Ls.Like (l.set k (pr xs[k] ys[k])) (paired xs ys) (k + 1)) := by
        have := Ls.like_set hlike hkp (by rw [HPL.out]; exact hll)
        rwa [paired_get HE.out] at this
      have z1 := hz k hlt
      have z2 := hz' k hly
      have HLL : Hid (l.length = xs.length) := hll
      obtain ⟨x, ex⟩ : ∃ x, xs[k] = x := ⟨_, rfl⟩
      obtain ⟨y, ey⟩ : ∃ y, ys[k] = y := ⟨_, rfl⟩
      rw [ex] at hcx z1 HL
      rw [ey] at hcy z2 HL
      clear hown hlike hxc hyc ex ey hz hz' hll
      go_wp2
      go_roundw
      case rel => exact ⟨k + 1, by omega, by go_num, l.set k (pr x y), by simpa using HLL.out, HL.out, HO.out.set HLL.out k _, hB.setCell (p := ⟨w.heap.size, k, none⟩) (Nat.le_refl _) _⟩
      case measure => simp [intOf]; omega
    · obtain rfl : k = xs.length := by omega
      have HO : Hid (Ls.Own wr w.heap.size (.slice (some ⟨w.heap.size, 0, none⟩) xs.length xs.length) (paired xs ys)) := by
        have e := Ls.like_all (xs := paired xs ys) (by rw [HPL.out]; exact hlike) (by rw [HPL.out]; exact hll)
        rw [← e]; exact hown
      clear hown hlike hll
      go_wp2
      go_ret
      exact ⟨_, rfl, HO.out, hB⟩
end Go.Proofs.Ytkiddmbenepfjaa.Pa
