/-
  How far two rows of numbers are apart: Off of the program and of the model.
-/
import Derived.Test.YtdcbcacgppffgaaAdd
import Derived.Test.YtdcbcacgppffgaaApI
import Derived.Deep.RegionWith
import Derived.Deep.RegionLaw
namespace Go.Proofs.Ytdcbcacgppffgaa.Of
open Go.RowKit
open Go.Proofs.Ytdcbcacgppffgaa.Ad Go.Proofs.Ytdcbcacgppffgaa.Ai
open Go.Proofs.Ytdcbcacgppffgaa.Li
set_option linter.unusedVariables false

def ab (l p : Int) : Int := if clip l < clip p then clip p - clip l else clip l - clip p
theorem ab_bd (l p : Int) : 0 ≤ ab l p ∧ ab l p ≤ 2000000000000 := by
  have := clip_bd l; have := clip_bd p; unfold ab; split <;> omega
def sm : List Int → Int
  | [] => 0
  | x :: xs => x + sm xs
theorem sm_append (xs ys : List Int) : sm (xs ++ ys) = sm xs + sm ys := by
  induction xs with
  | nil => simp [sm]
  | cons x xs ih => simp [sm, ih]; omega
theorem sm_take {ls : List Int} {k : Nat} (h : k < ls.length) : sm (ls.take (k + 1)) = sm (ls.take k) + ls[k] := by
  rw [List.take_succ_eq_append_getElem h, sm_append]; simp [sm]
theorem sm_bd {B : Int} (hB : 0 ≤ B) (xs : List Int) (h : ∀ x ∈ xs, 0 ≤ x ∧ x ≤ B) : 0 ≤ sm xs ∧ sm xs ≤ B * (xs.length : Int) := by
  induction xs with
  | nil => simp [sm]
  | cons x xs ih =>
    have h1 := ih fun y hy => h y (List.mem_cons_of_mem _ hy)
    have h2 := h x List.mem_cons_self
    simp only [sm, List.length_cons]
    have : B * ((xs.length + 1 : Nat) : Int) = B * (xs.length : Int) + B := by rw [Int.natCast_add, Int.mul_add]; simp
    omega
def offs (ls ps : List Int) : List Int := List.zipWith ab ls ps
theorem offs_len {ls ps : List Int} (h : ls.length = ps.length) : (offs ls ps).length = ls.length := by unfold offs; simp; omega
theorem offs_get {ls ps : List Int} (k : Nat) (hk : k < (offs ls ps).length) (h1 : k < ls.length) (h2 : k < ps.length) : (offs ls ps)[k] = ab ls[k] ps[k] := by
  simp only [offs]; simp
theorem offs_mem {ls ps : List Int} : ∀ x ∈ offs ls ps, 0 ≤ x ∧ x ≤ 2000000000000 := by
  intro x hx
  obtain ⟨k, hk, rfl⟩ := List.mem_iff_getElem.1 hx
  simp only [offs, List.getElem_zipWith]; exact ab_bd _ _
def oko (ls ps : List Int) : Bool := decide (ls.length = ps.length) && decide (ls.length ≤ 40)
def off (ls ps : List Int) : Int := if oko ls ps then sm (offs ls ps) else 0
theorem off_yes {ls ps : List Int} (h : oko ls ps = true) : off ls ps = sm (offs ls ps) := by unfold off; rw [if_pos h]
theorem off_no {ls ps : List Int} (h : oko ls ps = false) : off ls ps = 0 := by unfold off; rw [h]; simp
theorem oko_yes {ls ps : List Int} (h1 : ls.length = ps.length) (h2 : ls.length ≤ 40) : oko ls ps = true := by unfold oko; simp; exact ⟨h1, h2⟩
theorem oko_no {ls ps : List Int} (h : ls.length ≠ ps.length ∨ 40 < ls.length) : oko ls ps = false := by
  unfold oko; rw [Bool.and_eq_false_iff]; rcases h with h | h
  · exact .inl (by simpa using h)
  · exact .inr (by simp; omega)
theorem off_bd (ls ps : List Int) : 0 ≤ off ls ps ∧ off ls ps ≤ 80000000000000 := by
  cases h : oko ls ps
  · rw [off_no h]; omega
  · rw [off_yes h]
    have := sm_bd (B := 2000000000000) (by omega) (offs ls ps) offs_mem
    have h2 : ls.length = ps.length ∧ ls.length ≤ 40 := by unfold oko at h; simpa using h
    rw [offs_len h2.1] at this
    omega
set_option maxHeartbeats 1000000 in
theorem iab (l p : Int) (w : World) : Calls Try.prog 22 #[.int .i64 l, .int .i64 p] w fun e w' => e = .returned (.int .i64 (ab l p)) ∧ w' = w := by
  have ha := clip_bd l
  have hb := clip_bd p
  have HR : Hid (ab l p = if clip l < clip p then clip p - clip l else clip l - clip p) := rfl
  obtain ⟨x, hx⟩ : ∃ x, clip l = x := ⟨_, rfl⟩
  obtain ⟨y, hy⟩ : ∃ y, clip p = y := ⟨_, rfl⟩
  have HX : Hid (clip l = x) := hx
  have HY : Hid (clip p = y) := hy
  rw [hx] at ha
  rw [hy] at hb
  rw [hx, hy] at HR
  clear hx hy
  go_enter Try.func22, Try.ntmps22
  go_wp2_with fail
  refine (bounded_any _ _).mono ?_
  rintro e w' ⟨rfl, hw⟩
  subst w'
  rw [HX.out]
  go_wp2_with fail
  refine (bounded_any _ _).mono ?_
  rintro e w' ⟨rfl, hw⟩
  subst w'
  rw [HY.out]
  go_wp2
  all_goals go_ret
  all_goals refine ⟨ret_int ?_, rfl⟩
  all_goals rw [HR.out]
  all_goals (repeat' split) <;> (try split at *) <;> omega
set_option maxHeartbeats 1000000 in
theorem isum (w : World) (a : Option Addr) (c : Nat) (B : Int) (ls : List Int) (hl : IsL w a ls) (hll : ls.length ≤ 100000) (hB : 0 ≤ B) (hB' : B ≤ 80000000000000) (hm : ∀ x ∈ ls, 0 ≤ x ∧ x ≤ B) :
    Calls Try.prog 23 #[.slice a ls.length c] w fun e w' => e = .returned (.int .i64 (sm ls)) ∧ w' = w := by
  go_enter Try.func23, Try.ntmps23
  go_wp2
  go_loop [3, 8] (fun s i => ∃ k : Nat, k ≤ ls.length ∧ i = .int .i64 k ∧ s = .int .i64 (sm (ls.take k))) (fun _ i => ls.length - (intOf i).toNat)
  case atStart => exact ⟨0, Nat.zero_le _, rfl, rfl⟩
  case round =>
    obtain ⟨k, hk, rfl, rfl⟩ := hrel
    by_cases hlt : k < ls.length
    · rcases hl with rfl | ⟨b, off, rfl, hb, hc⟩
      · simp at hlt
      have hcx := hc k hlt
      clear hc
      have HR : Hid (sm (ls.take (k + 1)) = sm (ls.take k) + ls[k]) := sm_take hlt
      have b1 := sm_bd hB (ls.take k) fun x hx => hm x (List.mem_of_mem_take hx)
      have b2 := hm _ (List.getElem_mem hlt)
      have b3 : B * ((ls.take k).length : Int) ≤ 8000000000000000000 := by
        have h1 : ((ls.take k).length : Int) ≤ 100000 := by simp; omega
        have h2 : B * ((ls.take k).length : Int) ≤ B * 100000 := Int.mul_le_mul_of_nonneg_left h1 hB
        omega
      obtain ⟨s1, e1⟩ : ∃ s1, sm (ls.take k) = s1 := ⟨_, rfl⟩
      obtain ⟨x, hx⟩ : ∃ x, ls[k] = x := ⟨_, rfl⟩
      rw [e1] at b1 HR ⊢
      rw [hx] at b2 hcx HR
      have b4 : 0 ≤ s1 ∧ s1 ≤ 8000000000000000000 := by omega
      clear e1 hx b1 b3 hm
      go_wp2
      go_round
      case rel => exact ⟨k + 1, by omega, by go_num, by rw [HR.out]⟩
      case measure => simp [intOf]; omega
    · obtain rfl : k = ls.length := by omega
      rw [List.take_length]
      clear hm
      go_wp2
      go_ret
      exact ⟨rfl, rfl⟩
set_option maxHeartbeats 2000000 in
theorem ioff (w : World) (a a' : Option Addr) (cap cap' : Nat) (xs ys : List Int) (hx : IsL w a xs) (hy : IsL w a' ys) (hl : xs.length ≤ 1048577) (hl' : ys.length ≤ 1048577) :
    Calls Try.prog 9 #[.slice a xs.length cap, .slice a' ys.length cap'] w fun e w' => e = .returned (.tuple #[.int .i64 (off xs ys), .bool (oko xs ys)]) ∧ Below w.heap.size w w' := by
  by_cases hlen : xs.length = ys.length
  rotate_left
  · have hne : ((xs.length : Int) != (ys.length : Int)) = true := by simp; omega
    rw [off_no (oko_no (.inl hlen)), oko_no (.inl hlen)]
    go_enter Try.func9, Try.ntmps9
    go_wp2
    refine bodyPost_ret (v := .tuple #[.int .i64 0, .bool false]) (by simp [results, Try.results9, go_sem]) rfl ?_
    exact ⟨rfl, Below.refl _ _⟩
  have hne : ((xs.length : Int) != (ys.length : Int)) = false := by simp; omega
  by_cases h40 : 40 < xs.length
  · rw [off_no (oko_no (.inr h40)), oko_no (.inr h40)]
    clear hlen
    go_enter Try.func9, Try.ntmps9
    go_wp2
    refine bodyPost_ret (v := .tuple #[.int .i64 0, .bool false]) (by simp [results, Try.results9, go_sem]) rfl ?_
    exact ⟨rfl, Below.refl _ _⟩
  have hd : decide (40 < (xs.length : Int)) = false := by simp; omega
  have h40' : xs.length ≤ 40 := by omega
  have HL : Hid (xs.length = ys.length) := hlen
  have HO : Hid (off xs ys = sm (offs xs ys)) := off_yes (oko_yes hlen h40')
  have HK : Hid (oko xs ys = true) := oko_yes hlen h40'
  have HG : Hid ((offs xs ys).length = xs.length) := offs_len hlen
  have HT : Hid (∀ k (h1 : k < xs.length) (h2 : k < ys.length) (hk : k < (offs xs ys).length), (offs xs ys)[k] = ab xs[k] ys[k]) := fun k h1 h2 hk => offs_get k hk h1 h2
  have HM : Hid (∀ x ∈ offs xs ys, 0 ≤ x ∧ x ≤ 2000000000000) := offs_mem
  rw [HO.out, HK.out]
  clear HO HK
  obtain ⟨zs, hzs⟩ : ∃ zs, offs xs ys = zs := ⟨_, rfl⟩
  rw [hzs] at HG HT HM ⊢
  clear hzs hlen
  obtain ⟨i0, hi, hz0, hz1, hz2⟩ := info_parts info_int
  go_enter Try.func9, Try.ntmps9
  go_wp2_with (at_make; refine wpList_make_full _ rfl _ _ 24 rfl w.heap.size 3 i0 (.int .i64 0) 1 Try.underlying24 hi hz0 hz1 _ _ _ _ xs.length rfl rfl (by omega) (by omega) (by rw [hz2]; omega) (by unfold maxLen; omega) (Nat.le_refl _) ?_; intro w1 hown hgrow)
  have hown' := own_made hown
  have hB1 := below_none hgrow
  clear hown hgrow
  go_loopw [24] (fun i wr => ∃ k : Nat, k ≤ xs.length ∧ i = .int .i64 k ∧ ∃ l : List Int, l.length = xs.length ∧ Like l zs k ∧ Own wr w.heap.size (.slice (some ⟨w.heap.size, 0, none⟩) xs.length xs.length) l ∧ Below w.heap.size w wr) (fun i _ => xs.length - (intOf i).toNat)
  case atStart => exact ⟨0, Nat.zero_le _, rfl, _, by simp, fun j hj => by omega, hown', hB1⟩
  case round =>
    obtain ⟨k, hk, rfl, l, hll, hlike, hown, hB⟩ := hrel
    by_cases hlt : k < xs.length
    · have hlt' : k < ys.length := by have := HL.out; omega
      rcases hx.below hB with h0 | ⟨b, off, rfl, hb, hc⟩
      · rw [h0] at hlt; simp at hlt
      rcases hy.below hB with h0 | ⟨b', off', rfl, hb', hc'⟩
      · rw [h0] at hlt'; simp at hlt'
      have hcx : wr.cell? ⟨b, off + k, none⟩ = some (.int .i64 xs[k]) := hc k hlt
      have hcy : wr.cell? ⟨b', off' + k, none⟩ = some (.int .i64 ys[k]) := hc' k hlt'
      obtain ⟨cv, hcl⟩ : ∃ cv, wr.cell? ⟨w.heap.size, k, none⟩ = some cv := ⟨_, hown.cell hll k (by omega)⟩
      have hcf := hown.frozen hll k
      have HO : Hid (Own wr w.heap.size (.slice (some ⟨w.heap.size, 0, none⟩) xs.length xs.length) l) := hown
      have HN : Hid (l.length = xs.length) := hll
      have hzk : k < zs.length := by rw [HG.out]; exact hlt
      have HK : Hid (Like (l.set k (ab xs[k] ys[k])) zs (k + 1)) := by
        have := like_set hlike hzk (by rw [HG.out]; exact hll)
        rwa [HT.out k hlt hlt' hzk] at this
      clear hown hlike hc hc' hzk hll
      obtain ⟨x, ex⟩ : ∃ x, xs[k] = x := ⟨_, rfl⟩
      obtain ⟨y, ey⟩ : ∃ y, ys[k] = y := ⟨_, rfl⟩
      rw [ex] at hcx HK
      rw [ey] at hcy HK
      clear ex ey
      go_wp2_with (go_at_call 22; refine (iab _ _ _).mono ?_; rintro e w5 ⟨rfl, hw5⟩; subst w5)
      go_roundw
      case rel => exact ⟨k + 1, by omega, by go_num, l.set k (ab x y), by simpa using HN.out, HK.out, HO.out.set HN.out k _, hB.setCell (p := ⟨w.heap.size, k, none⟩) (Nat.le_refl _) _⟩
      case measure => simp [intOf]; omega
    · obtain rfl : k = xs.length := by omega
      obtain rfl := like_all (xs := zs) (by rw [HG.out]; exact hlike) (by rw [HG.out]; exact hll)
      obtain ⟨_, _, ee, iz⟩ := hown.isl
      have he : xs.length = l.length := HG.out.symm
      have iz : IsL wr (some ⟨w.heap.size, 0, none⟩) l := by injection ee with e1 _ _; rw [← e1] at iz; exact iz
      clear ee
      have hs := isum wr (some ⟨w.heap.size, 0, none⟩) xs.length 2000000000000 l iz (by omega) (by omega) (by omega) HM.out
      rw [hll] at hs
      clear hll he hlike
      go_wp2_with (go_at_call 23; refine hs.mono ?_; rintro e w5 ⟨rfl, hw5⟩; subst w5)
      refine bodyPost_ret (v := .tuple #[.int .i64 (sm l), .bool true]) (by simp [results, Try.results9, go_sem]) rfl ?_
      exact ⟨rfl, hB⟩
theorem below_drewN {w w1 : World} {B : Nat} (h : Below B w w1) (n : Nat) : Below B w (w1.drewN n) := ⟨h.os, h.tape, h.output, h.size, h.block⟩
theorem clipv (x x1 : Int) (h : Hid (clip x = x1)) (w : World) : Calls Try.prog 24 #[.int .i64 x] w fun e w' => e = .returned (.int .i64 x1) ∧ w' = w := by
  have := clip_any x w; rw [h.out] at this; exact this
set_option maxHeartbeats 2000000 in
theorem soff (w : World) (a a' : Option Addr) (cap cap' : Nat) (xs ys : List Int) (hx : IsL w a xs) (hy : IsL w a' ys) (hl : xs.length ≤ 1048577) (hl' : ys.length ≤ 1048577) :
    Calls Try.prog 10 #[.slice a xs.length cap, .slice a' ys.length cap'] w fun e w' => e = .returned (.tuple #[.int .i64 (off xs ys), .bool (oko xs ys)]) ∧ Below w.heap.size w w' := by
  by_cases hlen : xs.length = ys.length
  rotate_left
  · have hne : ((xs.length : Int) != (ys.length : Int)) = true := by simp; omega
    rw [off_no (oko_no (.inl hlen)), oko_no (.inl hlen)]
    go_enter Try.func10, Try.ntmps10
    go_wp2
    refine bodyPost_ret (v := .tuple #[.int .i64 0, .bool false]) (by simp [results, Try.results10, go_sem]) rfl ?_
    exact ⟨rfl, Below.refl _ _⟩
  have hne : ((xs.length : Int) != (ys.length : Int)) = false := by simp; omega
  by_cases h40 : 40 < xs.length
  · rw [off_no (oko_no (.inr h40)), oko_no (.inr h40)]
    clear hlen
    go_enter Try.func10, Try.ntmps10
    go_wp2
    refine bodyPost_ret (v := .tuple #[.int .i64 0, .bool false]) (by simp [results, Try.results10, go_sem]) rfl ?_
    exact ⟨rfl, Below.refl _ _⟩
  have hd : decide (40 < (xs.length : Int)) = false := by simp; omega
  have h40' : xs.length ≤ 40 := by omega
  have HL : Hid (xs.length = ys.length) := hlen
  have HO : Hid (off xs ys = sm (offs xs ys)) := off_yes (oko_yes hlen h40')
  have HK : Hid (oko xs ys = true) := oko_yes hlen h40'
  have HG : Hid ((offs xs ys).length = xs.length) := offs_len hlen
  have HT : Hid (∀ k (h1 : k < xs.length) (h2 : k < ys.length) (hk : k < (offs xs ys).length), (offs xs ys)[k] = ab xs[k] ys[k]) := fun k h1 h2 hk => offs_get k hk h1 h2
  have HM : Hid (∀ x ∈ offs xs ys, 0 ≤ x ∧ x ≤ 2000000000000) := offs_mem
  rw [HO.out, HK.out]
  clear HO HK
  obtain ⟨zs, hzs⟩ : ∃ zs, offs xs ys = zs := ⟨_, rfl⟩
  rw [hzs] at HG HT HM ⊢
  clear hzs hlen
  go_enter Try.func10, Try.ntmps10
  go_wp2
  go_loopw [6, 7] (fun s i wr => ∃ k : Nat, k ≤ xs.length ∧ i = .int .i64 k ∧ s = .int .i64 (sm (zs.take k)) ∧ Below w.heap.size w wr) (fun _ i _ => xs.length - (intOf i).toNat)
  case atStart => exact ⟨0, Nat.zero_le _, rfl, rfl, Below.refl _ _⟩
  case round =>
    obtain ⟨k, hk, rfl, rfl, hB⟩ := hrel
    by_cases hlt : k < xs.length
    · have hlt' : k < ys.length := by have := HL.out; omega
      rcases hx.below hB with h0 | ⟨b, off, rfl, hb, hc⟩
      · rw [h0] at hlt; simp at hlt
      rcases hy.below hB with h0 | ⟨b', off', rfl, hb', hc'⟩
      · rw [h0] at hlt'; simp at hlt'
      have hcx : wr.cell? ⟨b, off + k, none⟩ = some (.int .i64 xs[k]) := hc k hlt
      have hcy : wr.cell? ⟨b', off' + k, none⟩ = some (.int .i64 ys[k]) := hc' k hlt'
      have hzk : k < zs.length := by rw [HG.out]; exact hlt
      have HR : Hid (sm (zs.take (k + 1)) = sm (zs.take k) + ab xs[k] ys[k]) := by have := sm_take hzk; rw [HT.out k hlt hlt' hzk] at this; exact this
      have b1 := sm_bd (B := 2000000000000) (by omega) (zs.take k) fun x hx => HM.out x (List.mem_of_mem_take hx)
      have b3 : ((zs.take k).length : Int) ≤ 40 := by simp; omega
      clear hc hc' hzk
      obtain ⟨x, ex⟩ : ∃ x, xs[k] = x := ⟨_, rfl⟩
      obtain ⟨y, ey⟩ : ∃ y, ys[k] = y := ⟨_, rfl⟩
      rw [ex] at hcx HR
      rw [ey] at hcy HR
      obtain ⟨s1, e1⟩ : ∃ s1, sm (zs.take k) = s1 := ⟨_, rfl⟩
      rw [e1] at b1 HR ⊢
      have b4 : 0 ≤ s1 ∧ s1 ≤ 80000000000000 := by omega
      have ha := clip_bd x
      have hb2 := clip_bd y
      have HGR : Hid (ab x y = if clip x < clip y then clip y - clip x else clip x - clip y) := rfl
      obtain ⟨x1, hx1⟩ : ∃ x1, clip x = x1 := ⟨_, rfl⟩
      obtain ⟨y1, hy1⟩ : ∃ y1, clip y = y1 := ⟨_, rfl⟩
      have HX : Hid (clip x = x1) := hx1
      have HY : Hid (clip y = y1) := hy1
      rw [hx1] at ha HGR
      rw [hy1] at hb2 HGR
      clear ex ey hx1 hy1 e1 b1 b3
      go_wp2
      go_quiet (first
        | (go_at_call_of 24 (Value.int .i64 x); refine Calls.quiet_of_same (clipv _ _ HX _))
        | (go_at_call_of 24 (Value.int .i64 y); refine Calls.quiet_of_same (clipv _ _ HY _)))
      all_goals go_wp2
      all_goals go_roundw
      case rel => exact ⟨k + 1, by omega, by go_num, by rw [HR.out, HGR.out]; congr 1; (repeat' split) <;> (try split at *) <;> omega, below_drewN hB _⟩
      case measure => simp [intOf]; omega
    · obtain rfl : k = xs.length := by omega
      rw [List.take_of_length_le (by rw [HG.out]; omega)]
      go_wp2
      refine bodyPost_ret (v := .tuple #[.int .i64 (sm zs), .bool true]) (by simp [results, Try.results10, go_sem]) rfl ?_
      exact ⟨rfl, hB⟩
end Go.Proofs.Ytdcbcacgppffgaa.Of
