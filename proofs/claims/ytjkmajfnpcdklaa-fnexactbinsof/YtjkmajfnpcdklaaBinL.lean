/-
  BinsOf of the program and of the model.
-/
import Derived.Test.YtjkmajfnpcdklaaBinW
import Derived.Test.YtjkmajfnpcdklaaApI
namespace Go.Proofs.Ytjkmajfnpcdklaa.Bw
open Go.RowKit
open Go.Proofs.Ytjkmajfnpcdklaa.Li Go.Proofs.Ytjkmajfnpcdklaa.Bo Go.Proofs.Ytjkmajfnpcdklaa.Ai
theorem bins_take {b l : List Int} {k : Nat} (h : k < l.length) : bins b (l.take (k + 1)) = bins b (l.take k) ++ [(bin b l[k] : Int)] := by
  unfold bins
  rw [List.take_succ_eq_append_getElem h, List.map_append]; rfl
set_option maxHeartbeats 1000000 in
theorem sbins (w : World) (a a' : Option Addr) (cap cap' : Nat) (xs ys : List Int) (hx : IsL w a xs) (hy : IsL w a' ys) (hl : xs.length ≤ 1048576) (hl' : ys.length ≤ 1048576) :
    Calls Try.prog 15 #[.slice a xs.length cap, .slice a' ys.length cap'] w fun e w' => ∃ v, e = .returned v ∧ Own w' w.heap.size v (bins xs ys) ∧ Below w.heap.size w w' := by
  obtain ⟨i0, hi, hz0, hz1, hz2⟩ := info_parts info_int
  go_enter Try.func15, Try.ntmps15
  go_wp2
  go_loopw [5, 6] (fun v i wr => ∃ k : Nat, k ≤ ys.length ∧ i = .int .i64 k ∧ ∃ m : List Int, m = bins xs (ys.take k) ∧ Own wr w.heap.size v m ∧ Below w.heap.size w wr) (fun _ i _ => ys.length - (intOf i).toNat)
  case atStart => exact ⟨0, Nat.zero_le _, rfl, [], rfl, own_empty _ _ (Nat.le_refl _), (Below.refl _ _).alloc (Nat.le_refl _) _⟩
  case round =>
    obtain ⟨k, hk, rfl, m, hm, hown, hB⟩ := hrel
    have HM : Hid (m = bins xs (ys.take k)) := hm
    have hml : m.length = k := by rw [hm, bins_length]; simp; omega
    have HL : Hid (m.length = k) := hml
    clear hm hml
    by_cases hlt : k < ys.length
    · have hx := hx.below hB
      have hs := hB.size
      rcases hy.below hB with h0 | ⟨b, off, rfl, hb, hc⟩
      · rw [h0] at hlt; simp at hlt
      have hcx := hc k hlt
      clear hc
      have HR : Hid (bins xs (ys.take (k + 1)) = bins xs (ys.take k) ++ [(bin xs ys[k] : Int)]) := bins_take hlt
      obtain ⟨y, ey⟩ : ∃ y, ys[k] = y := ⟨_, rfl⟩
      rw [ey] at hcx HR
      clear ey
      go_wp2_with fail
      refine (sbin _ _ _ xs y hx hl).mono ?_
      rintro e w5 ⟨rfl, hw5⟩
      subst w5
      obtain ⟨z, hz⟩ : ∃ z : Int, (bin xs y : Int) = z := ⟨_, rfl⟩
      rw [hz] at HR ⊢
      clear hz
      go_wp2_with (at_builtin; refine wpList_append_own _ rfl _ _ 24 rfl w.heap.size 3 i0 (.int .i64 0) 1 8 Try.underlying24 hi hz0 hz1 hz2 rfl (by decide) _ _ _ rfl (World.ownsRow.alloc hown _) ⟨wr.heap.size, 0, none⟩ 1 1 [.int .i64 z] rfl rfl (one_cell _ _ _) (one_one _) (by have := HL.out; unfold maxLen; omega) (by have := HL.out; omega) (by simp; omega) ?_)
      intro v' w6 hown' hgrow hnn
      clear hnn
      have ho6 : Own w6 w.heap.size v' (m ++ [z]) := own_snoc rfl hown'
      have hB6 : Below w.heap.size w w6 := below_app (hB.alloc hB.size _) (by have := hB.size; simp; omega) hgrow (fun k hk => (hown.ge k hk).1)
      have HM6 : Hid (m ++ [z] = bins xs (ys.take (k + 1))) := by show _ = _; rw [HR.out, HM.out]
      clear hown' hgrow hown hB
      go_wp2
      go_roundw
      case rel => exact ⟨k + 1, by omega, by go_num, m ++ [z], HM6.out, ho6, hB6⟩
      case measure => simp [intOf]; omega
    · obtain rfl : k = ys.length := by omega
      have HR : Hid (bins xs ys = m) := by show _ = _; rw [HM.out, List.take_length]
      go_wp2
      go_ret
      exact ⟨_, rfl, by rw [HR.out]; exact hown, hB⟩
set_option maxHeartbeats 1000000 in
theorem ibins (w : World) (a a' : Option Addr) (cap cap' : Nat) (xs ys : List Int) (hx : IsL w a xs) (hy : IsL w a' ys) (hl : xs.length ≤ 1048576) (hl' : ys.length ≤ 1048576) :
    Calls Try.prog 16 #[.slice a xs.length cap, .slice a' ys.length cap'] w fun e w' => ∃ v, e = .returned v ∧ Own w' w.heap.size v (bins xs ys) ∧ Below w.heap.size w w' := by
  obtain ⟨i0, hi, hz0, hz1, hz2⟩ := info_parts info_int
  go_enter Try.func16, Try.ntmps16
  go_wp2_with (at_make; refine wpList_make_full _ rfl _ _ 24 rfl w.heap.size 3 i0 (.int .i64 0) 1 Try.underlying24 hi hz0 hz1 _ _ _ _ ys.length rfl rfl (by omega) (by omega) (by rw [hz2]; omega) (by unfold maxLen; omega) (Nat.le_refl _) ?_; intro w1 hown hgrow)
  have hown' := own_made hown
  have hB1 := below_none hgrow
  clear hown hgrow
  go_loopw [13] (fun i wr => ∃ k : Nat, k ≤ ys.length ∧ i = .int .i64 k ∧ ∃ l : List Int, l.length = ys.length ∧ Like l (bins xs ys) k ∧ Own wr w.heap.size (.slice (some ⟨w.heap.size, 0, none⟩) ys.length ys.length) l ∧ Below w.heap.size w wr) (fun i _ => ys.length - (intOf i).toNat)
  case atStart => exact ⟨0, Nat.zero_le _, rfl, _, by simp, fun j hj => by omega, hown', hB1⟩
  case round =>
    obtain ⟨k, hk, rfl, l, hll, hlike, hown, hB⟩ := hrel
    by_cases hlt : k < ys.length
    · have hxr := hx.below hB
      rcases hy.below hB with h0 | ⟨b, off, rfl, hb, hc⟩
      · rw [h0] at hlt; simp at hlt
      have hcx : wr.cell? ⟨b, off + k, none⟩ = some (.int .i64 ys[k]) := hc k hlt
      have hcl := hown.cell hll k (by omega)
      have hcf := hown.frozen hll k
      have HO : Hid (Own wr w.heap.size (.slice (some ⟨w.heap.size, 0, none⟩) ys.length ys.length) l) := hown
      have HL : Hid (Like (l.set k (bin xs ys[k] : Int)) (bins xs ys) (k + 1)) := by
        have := like_set hlike (by rw [bins_length]; exact hlt) (by rw [bins_length]; exact hll)
        rwa [bins_get] at this
      clear hown hlike hc
      obtain ⟨y, ey⟩ : ∃ y, ys[k] = y := ⟨_, rfl⟩
      rw [ey] at hcx HL
      clear ey
      go_wp2_with (go_at_call 11; refine (ibin _ _ _ xs y (by exact hxr) hl).mono ?_; rintro e w5 ⟨rfl, hw5⟩; subst w5)
      go_roundw
      case rel => exact ⟨k + 1, by omega, by go_num, l.set k (bin xs y : Int), by simpa using hll, HL.out, HO.out.set hll k _, hB.setCell (p := ⟨w.heap.size, k, none⟩) (Nat.le_refl _) _⟩
      case measure => simp [intOf]; omega
    · obtain rfl : k = ys.length := by omega
      obtain rfl := like_all (xs := bins xs ys) (by rw [bins_length]; exact hlike) (by rw [bins_length]; exact hll)
      go_wp2
      go_ret
      exact ⟨_, rfl, hown, hB⟩
end Go.Proofs.Ytjkmajfnpcdklaa.Bw
