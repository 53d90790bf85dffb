/-
  Contracts that the proof leans on, put together in the order in which they build.
-/
import Derived.Test.YtkfjlldlbknepaaGreatPart11
import Derived.Test.YtkfjlldlbknepaaGreatPart14
import Derived.Deep.RegionWith
import Derived.Deep.RegionLaw
import Derived.Test.YtkfjlldlbknepaaGreatPart15
import Derived.Test.YtkfjlldlbknepaaGreatPart10
import Derived.Test.YtkfjlldlbknepaaGreatRows
import Derived.OrdersHeld
import Derived.WalkKit
import Derived.Test.YtkfjlldlbknepaaGreatPart12
import Derived.Deep.AppendLies
/-
  How far two rows of numbers are apart: Off of the program and of the model.
-/
namespace Go.Proofs.YtkfjlldlbknepaaGreat.Of
open Go.RowKit
open Go.Proofs.YtkfjlldlbknepaaGreat.Ad Go.Proofs.YtkfjlldlbknepaaGreat.Ai
open Go.Proofs.YtkfjlldlbknepaaGreat.Li
set_option linter.unusedVariables false

def ab (l p : Int) : Int := if clip l < clip p then clip p - clip l else clip l - clip p
theorem ab_bd (l p : Int) : 0 ≤ ab l p ∧ ab l p ≤ 2000000000000 := by
  have := clip_bd l; have := clip_bd p; unfold ab; split <;> omega
def sm : List Int → Int
  | [] => 0
  | x :: xs => x + sm xs
theorem sm_append (xs ys : List Int) : sm (xs ++ ys) = sm xs + sm ys := by
  induction xs with
  | nil => simp [sm]
  | cons x xs ih => simp [sm, ih]; omega
theorem sm_take {ls : List Int} {k : Nat} (h : k < ls.length) : sm (ls.take (k + 1)) = sm (ls.take k) + ls[k] := by
  rw [List.take_succ_eq_append_getElem h, sm_append]; simp [sm]
theorem sm_bd {B : Int} (hB : 0 ≤ B) (xs : List Int) (h : ∀ x ∈ xs, 0 ≤ x ∧ x ≤ B) : 0 ≤ sm xs ∧ sm xs ≤ B * (xs.length : Int) := by
  induction xs with
  | nil => simp [sm]
  | cons x xs ih =>
    have h1 := ih fun y hy => h y (List.mem_cons_of_mem _ hy)
    have h2 := h x List.mem_cons_self
    simp only [sm, List.length_cons]
    have : B * ((xs.length + 1 : Nat) : Int) = B * (xs.length : Int) + B := by rw [Int.natCast_add, Int.mul_add]; simp
    omega
def offs (ls ps : List Int) : List Int := List.zipWith ab ls ps
theorem offs_len {ls ps : List Int} (h : ls.length = ps.length) : (offs ls ps).length = ls.length := by unfold offs; simp; omega
theorem offs_get {ls ps : List Int} (k : Nat) (hk : k < (offs ls ps).length) (h1 : k < ls.length) (h2 : k < ps.length) : (offs ls ps)[k] = ab ls[k] ps[k] := by
  simp only [offs]; simp
theorem offs_mem {ls ps : List Int} : ∀ x ∈ offs ls ps, 0 ≤ x ∧ x ≤ 2000000000000 := by
  intro x hx
  obtain ⟨k, hk, rfl⟩ := List.mem_iff_getElem.1 hx
  simp only [offs, List.getElem_zipWith]; exact ab_bd _ _
def oko (ls ps : List Int) : Bool := decide (ls.length = ps.length) && decide (ls.length ≤ 40)
def off (ls ps : List Int) : Int := if oko ls ps then sm (offs ls ps) else 0
theorem off_yes {ls ps : List Int} (h : oko ls ps = true) : off ls ps = sm (offs ls ps) := by unfold off; rw [if_pos h]
theorem off_no {ls ps : List Int} (h : oko ls ps = false) : off ls ps = 0 := by unfold off; rw [h]; simp
theorem oko_yes {ls ps : List Int} (h1 : ls.length = ps.length) (h2 : ls.length ≤ 40) : oko ls ps = true := by unfold oko; simp; exact ⟨h1, h2⟩
theorem oko_no {ls ps : List Int} (h : ls.length ≠ ps.length ∨ 40 < ls.length) : oko ls ps = false := by
  unfold oko; rw [Bool.and_eq_false_iff]; rcases h with h | h
  · exact .inl (by simpa using h)
  · exact .inr (by simp; omega)
theorem off_bd (ls ps : List Int) : 0 ≤ off ls ps ∧ off ls ps ≤ 80000000000000 := by
  cases h : oko ls ps
  · rw [off_no h]; omega
  · rw [off_yes h]
    have := sm_bd (B := 2000000000000) (by omega) (offs ls ps) offs_mem
    have h2 : ls.length = ps.length ∧ ls.length ≤ 40 := by unfold oko at h; simpa using h
    rw [offs_len h2.1] at this
    omega
set_option maxHeartbeats 1000000 in
theorem iab (l p : Int) (w : World) : Calls Tryz.prog 60 #[.int .i64 l, .int .i64 p] w fun e w' => e = .returned (.int .i64 (ab l p)) ∧ w' = w := by
  have ha := clip_bd l
  have hb := clip_bd p
  have HR : Hid (ab l p = if clip l < clip p then clip p - clip l else clip l - clip p) := rfl
  obtain ⟨x, hx⟩ : ∃ x, clip l = x := ⟨_, rfl⟩
  obtain ⟨y, hy⟩ : ∃ y, clip p = y := ⟨_, rfl⟩
  have HX : Hid (clip l = x) := hx
  have HY : Hid (clip p = y) := hy
  rw [hx] at ha
  rw [hy] at hb
  rw [hx, hy] at HR
  clear hx hy
  go_enter Tryz.func60, Tryz.ntmps60
  go_wp2_with fail
  refine (bounded_any _ _).mono ?_
  rintro e w' ⟨rfl, hw⟩
  subst w'
  rw [HX.out]
  go_wp2_with fail
  refine (bounded_any _ _).mono ?_
  rintro e w' ⟨rfl, hw⟩
  subst w'
  rw [HY.out]
  go_wp2
  all_goals go_ret
  all_goals refine ⟨ret_int ?_, rfl⟩
  all_goals rw [HR.out]
  all_goals (repeat' split) <;> (try split at *) <;> omega
set_option maxHeartbeats 1000000 in
theorem isum (w : World) (a : Option Addr) (c : Nat) (B : Int) (ls : List Int) (hl : IsL w a ls) (hll : ls.length ≤ 100000) (hB : 0 ≤ B) (hB' : B ≤ 80000000000000) (hm : ∀ x ∈ ls, 0 ≤ x ∧ x ≤ B) :
    Calls Tryz.prog 61 #[.slice a ls.length c] w fun e w' => e = .returned (.int .i64 (sm ls)) ∧ w' = w := by
  go_enter Tryz.func61, Tryz.ntmps61
  go_wp2
  go_loop [3, 8] (fun s i => ∃ k : Nat, k ≤ ls.length ∧ i = .int .i64 k ∧ s = .int .i64 (sm (ls.take k))) (fun _ i => ls.length - (intOf i).toNat)
  case atStart => exact ⟨0, Nat.zero_le _, rfl, rfl⟩
  case round =>
    obtain ⟨k, hk, rfl, rfl⟩ := hrel
    by_cases hlt : k < ls.length
    · rcases hl with rfl | ⟨b, off, rfl, hb, hc⟩
      · simp at hlt
      have hcx := hc k hlt
      clear hc
      have HR : Hid (sm (ls.take (k + 1)) = sm (ls.take k) + ls[k]) := sm_take hlt
      have b1 := sm_bd hB (ls.take k) fun x hx => hm x (List.mem_of_mem_take hx)
      have b2 := hm _ (List.getElem_mem hlt)
      have b3 : B * ((ls.take k).length : Int) ≤ 8000000000000000000 := by
        have h1 : ((ls.take k).length : Int) ≤ 100000 := by simp; omega
        have h2 : B * ((ls.take k).length : Int) ≤ B * 100000 := Int.mul_le_mul_of_nonneg_left h1 hB
        omega
      obtain ⟨s1, e1⟩ : ∃ s1, sm (ls.take k) = s1 := ⟨_, rfl⟩
      obtain ⟨x, hx⟩ : ∃ x, ls[k] = x := ⟨_, rfl⟩
      rw [e1] at b1 HR ⊢
      rw [hx] at b2 hcx HR
      have b4 : 0 ≤ s1 ∧ s1 ≤ 8000000000000000000 := by omega
      clear e1 hx b1 b3 hm
      go_wp2
      go_round
      case rel => exact ⟨k + 1, by omega, by go_num, by rw [HR.out]⟩
      case measure => simp [intOf]; omega
    · obtain rfl : k = ls.length := by omega
      rw [List.take_length]
      clear hm
      go_wp2
      go_ret
      exact ⟨rfl, rfl⟩
set_option maxHeartbeats 2000000 in
theorem ioff (w : World) (a a' : Option Addr) (cap cap' : Nat) (xs ys : List Int) (hx : IsL w a xs) (hy : IsL w a' ys) (hl : xs.length ≤ 1048577) (hl' : ys.length ≤ 1048577) :
    Calls Tryz.prog 34 #[.slice a xs.length cap, .slice a' ys.length cap'] w fun e w' => e = .returned (.tuple #[.int .i64 (off xs ys), .bool (oko xs ys)]) ∧ Below w.heap.size w w' := by
  by_cases hlen : xs.length = ys.length
  rotate_left
  · have hne : ((xs.length : Int) != (ys.length : Int)) = true := by simp; omega
    rw [off_no (oko_no (.inl hlen)), oko_no (.inl hlen)]
    go_enter Tryz.func34, Tryz.ntmps34
    go_wp2
    refine bodyPost_ret (v := .tuple #[.int .i64 0, .bool false]) (by simp [results, Tryz.results34, go_sem]) rfl ?_
    exact ⟨rfl, Below.refl _ _⟩
  have hne : ((xs.length : Int) != (ys.length : Int)) = false := by simp; omega
  by_cases h40 : 40 < xs.length
  · rw [off_no (oko_no (.inr h40)), oko_no (.inr h40)]
    clear hlen
    go_enter Tryz.func34, Tryz.ntmps34
    go_wp2
    refine bodyPost_ret (v := .tuple #[.int .i64 0, .bool false]) (by simp [results, Tryz.results34, go_sem]) rfl ?_
    exact ⟨rfl, Below.refl _ _⟩
  have hd : decide (40 < (xs.length : Int)) = false := by simp; omega
  have h40' : xs.length ≤ 40 := by omega
  have HL : Hid (xs.length = ys.length) := hlen
  have HO : Hid (off xs ys = sm (offs xs ys)) := off_yes (oko_yes hlen h40')
  have HK : Hid (oko xs ys = true) := oko_yes hlen h40'
  have HG : Hid ((offs xs ys).length = xs.length) := offs_len hlen
  have HT : Hid (∀ k (h1 : k < xs.length) (h2 : k < ys.length) (hk : k < (offs xs ys).length), (offs xs ys)[k] = ab xs[k] ys[k]) := fun k h1 h2 hk => offs_get k hk h1 h2
  have HM : Hid (∀ x ∈ offs xs ys, 0 ≤ x ∧ x ≤ 2000000000000) := offs_mem
  rw [HO.out, HK.out]
  clear HO HK
  obtain ⟨zs, hzs⟩ : ∃ zs, offs xs ys = zs := ⟨_, rfl⟩
  rw [hzs] at HG HT HM ⊢
  clear hzs hlen
  obtain ⟨i0, hi, hz0, hz1, hz2⟩ := info_parts info_int
  go_enter Tryz.func34, Tryz.ntmps34
  go_wp2_with (at_make; refine wpList_make_full _ rfl _ _ 48 rfl w.heap.size 3 i0 (.int .i64 0) 1 Tryz.underlying48 hi hz0 hz1 _ _ _ _ xs.length rfl rfl (by omega) (by omega) (by rw [hz2]; omega) (by unfold maxLen; omega) (Nat.le_refl _) ?_; intro w1 hown hgrow)
  have hown' := own_made hown
  have hB1 := below_none hgrow
  clear hown hgrow
  go_loopw [24] (fun i wr => ∃ k : Nat, k ≤ xs.length ∧ i = .int .i64 k ∧ ∃ l : List Int, l.length = xs.length ∧ Like l zs k ∧ Own wr w.heap.size (.slice (some ⟨w.heap.size, 0, none⟩) xs.length xs.length) l ∧ Below w.heap.size w wr) (fun i _ => xs.length - (intOf i).toNat)
  case atStart => exact ⟨0, Nat.zero_le _, rfl, _, by simp, fun j hj => by omega, hown', hB1⟩
  case round =>
    obtain ⟨k, hk, rfl, l, hll, hlike, hown, hB⟩ := hrel
    by_cases hlt : k < xs.length
    · have hlt' : k < ys.length := by have := HL.out; omega
      rcases hx.below hB with h0 | ⟨b, off, rfl, hb, hc⟩
      · rw [h0] at hlt; simp at hlt
      rcases hy.below hB with h0 | ⟨b', off', rfl, hb', hc'⟩
      · rw [h0] at hlt'; simp at hlt'
      have hcx : wr.cell? ⟨b, off + k, none⟩ = some (.int .i64 xs[k]) := hc k hlt
      have hcy : wr.cell? ⟨b', off' + k, none⟩ = some (.int .i64 ys[k]) := hc' k hlt'
      obtain ⟨cv, hcl⟩ : ∃ cv, wr.cell? ⟨w.heap.size, k, none⟩ = some cv := ⟨_, hown.cell hll k (by omega)⟩
      have hcf := hown.frozen hll k
      have HO : Hid (Own wr w.heap.size (.slice (some ⟨w.heap.size, 0, none⟩) xs.length xs.length) l) := hown
      have HN : Hid (l.length = xs.length) := hll
      have hzk : k < zs.length := by rw [HG.out]; exact hlt
      have HK : Hid (Like (l.set k (ab xs[k] ys[k])) zs (k + 1)) := by
        have := like_set hlike hzk (by rw [HG.out]; exact hll)
        rwa [HT.out k hlt hlt' hzk] at this
      clear hown hlike hc hc' hzk hll
      obtain ⟨x, ex⟩ : ∃ x, xs[k] = x := ⟨_, rfl⟩
      obtain ⟨y, ey⟩ : ∃ y, ys[k] = y := ⟨_, rfl⟩
      rw [ex] at hcx HK
      rw [ey] at hcy HK
      clear ex ey
      go_wp2_with (go_at_call 60; refine (iab _ _ _).mono ?_; rintro e w5 ⟨rfl, hw5⟩; subst w5)
      go_roundw
      case rel => exact ⟨k + 1, by omega, by go_num, l.set k (ab x y), by simpa using HN.out, HK.out, HO.out.set HN.out k _, hB.setCell (p := ⟨w.heap.size, k, none⟩) (Nat.le_refl _) _⟩
      case measure => simp [intOf]; omega
    · obtain rfl : k = xs.length := by omega
      obtain rfl := like_all (xs := zs) (by rw [HG.out]; exact hlike) (by rw [HG.out]; exact hll)
      obtain ⟨_, _, ee, iz⟩ := hown.isl
      have he : xs.length = l.length := HG.out.symm
      have iz : IsL wr (some ⟨w.heap.size, 0, none⟩) l := by injection ee with e1 _ _; rw [← e1] at iz; exact iz
      clear ee
      have hs := isum wr (some ⟨w.heap.size, 0, none⟩) xs.length 2000000000000 l iz (by omega) (by omega) (by omega) HM.out
      rw [hll] at hs
      clear hll he hlike
      go_wp2_with (go_at_call 61; refine hs.mono ?_; rintro e w5 ⟨rfl, hw5⟩; subst w5)
      refine bodyPost_ret (v := .tuple #[.int .i64 (sm l), .bool true]) (by simp [results, Tryz.results34, go_sem]) rfl ?_
      exact ⟨rfl, hB⟩
theorem below_drewN {w w1 : World} {B : Nat} (h : Below B w w1) (n : Nat) : Below B w (w1.drewN n) := ⟨h.os, h.tape, h.output, h.size, h.block⟩
theorem clipv (x x1 : Int) (h : Hid (clip x = x1)) (w : World) : Calls Tryz.prog 52 #[.int .i64 x] w fun e w' => e = .returned (.int .i64 x1) ∧ w' = w := by
  have := clip_any x w; rw [h.out] at this; exact this
set_option maxHeartbeats 2000000 in
theorem soff (w : World) (a a' : Option Addr) (cap cap' : Nat) (xs ys : List Int) (hx : IsL w a xs) (hy : IsL w a' ys) (hl : xs.length ≤ 1048577) (hl' : ys.length ≤ 1048577) :
    Calls Tryz.prog 27 #[.slice a xs.length cap, .slice a' ys.length cap'] w fun e w' => e = .returned (.tuple #[.int .i64 (off xs ys), .bool (oko xs ys)]) ∧ Below w.heap.size w w' := by
  by_cases hlen : xs.length = ys.length
  rotate_left
  · have hne : ((xs.length : Int) != (ys.length : Int)) = true := by simp; omega
    rw [off_no (oko_no (.inl hlen)), oko_no (.inl hlen)]
    go_enter Tryz.func27, Tryz.ntmps27
    go_wp2
    refine bodyPost_ret (v := .tuple #[.int .i64 0, .bool false]) (by simp [results, Tryz.results27, go_sem]) rfl ?_
    exact ⟨rfl, Below.refl _ _⟩
  have hne : ((xs.length : Int) != (ys.length : Int)) = false := by simp; omega
  by_cases h40 : 40 < xs.length
  · rw [off_no (oko_no (.inr h40)), oko_no (.inr h40)]
    clear hlen
    go_enter Tryz.func27, Tryz.ntmps27
    go_wp2
    refine bodyPost_ret (v := .tuple #[.int .i64 0, .bool false]) (by simp [results, Tryz.results27, go_sem]) rfl ?_
    exact ⟨rfl, Below.refl _ _⟩
  have hd : decide (40 < (xs.length : Int)) = false := by simp; omega
  have h40' : xs.length ≤ 40 := by omega
  have HL : Hid (xs.length = ys.length) := hlen
  have HO : Hid (off xs ys = sm (offs xs ys)) := off_yes (oko_yes hlen h40')
  have HK : Hid (oko xs ys = true) := oko_yes hlen h40'
  have HG : Hid ((offs xs ys).length = xs.length) := offs_len hlen
  have HT : Hid (∀ k (h1 : k < xs.length) (h2 : k < ys.length) (hk : k < (offs xs ys).length), (offs xs ys)[k] = ab xs[k] ys[k]) := fun k h1 h2 hk => offs_get k hk h1 h2
  have HM : Hid (∀ x ∈ offs xs ys, 0 ≤ x ∧ x ≤ 2000000000000) := offs_mem
  rw [HO.out, HK.out]
  clear HO HK
  obtain ⟨zs, hzs⟩ : ∃ zs, offs xs ys = zs := ⟨_, rfl⟩
  rw [hzs] at HG HT HM ⊢
  clear hzs hlen
  go_enter Tryz.func27, Tryz.ntmps27
  go_wp2
  go_loopw [6, 7] (fun s i wr => ∃ k : Nat, k ≤ xs.length ∧ i = .int .i64 k ∧ s = .int .i64 (sm (zs.take k)) ∧ Below w.heap.size w wr) (fun _ i _ => xs.length - (intOf i).toNat)
  case atStart => exact ⟨0, Nat.zero_le _, rfl, rfl, Below.refl _ _⟩
  case round =>
    obtain ⟨k, hk, rfl, rfl, hB⟩ := hrel
    by_cases hlt : k < xs.length
    · have hlt' : k < ys.length := by have := HL.out; omega
      rcases hx.below hB with h0 | ⟨b, off, rfl, hb, hc⟩
      · rw [h0] at hlt; simp at hlt
      rcases hy.below hB with h0 | ⟨b', off', rfl, hb', hc'⟩
      · rw [h0] at hlt'; simp at hlt'
      have hcx : wr.cell? ⟨b, off + k, none⟩ = some (.int .i64 xs[k]) := hc k hlt
      have hcy : wr.cell? ⟨b', off' + k, none⟩ = some (.int .i64 ys[k]) := hc' k hlt'
      have hzk : k < zs.length := by rw [HG.out]; exact hlt
      have HR : Hid (sm (zs.take (k + 1)) = sm (zs.take k) + ab xs[k] ys[k]) := by have := sm_take hzk; rw [HT.out k hlt hlt' hzk] at this; exact this
      have b1 := sm_bd (B := 2000000000000) (by omega) (zs.take k) fun x hx => HM.out x (List.mem_of_mem_take hx)
      have b3 : ((zs.take k).length : Int) ≤ 40 := by simp; omega
      clear hc hc' hzk
      obtain ⟨x, ex⟩ : ∃ x, xs[k] = x := ⟨_, rfl⟩
      obtain ⟨y, ey⟩ : ∃ y, ys[k] = y := ⟨_, rfl⟩
      rw [ex] at hcx HR
      rw [ey] at hcy HR
      obtain ⟨s1, e1⟩ : ∃ s1, sm (zs.take k) = s1 := ⟨_, rfl⟩
      rw [e1] at b1 HR ⊢
      have b4 : 0 ≤ s1 ∧ s1 ≤ 80000000000000 := by omega
      have ha := clip_bd x
      have hb2 := clip_bd y
      have HGR : Hid (ab x y = if clip x < clip y then clip y - clip x else clip x - clip y) := rfl
      obtain ⟨x1, hx1⟩ : ∃ x1, clip x = x1 := ⟨_, rfl⟩
      obtain ⟨y1, hy1⟩ : ∃ y1, clip y = y1 := ⟨_, rfl⟩
      have HX : Hid (clip x = x1) := hx1
      have HY : Hid (clip y = y1) := hy1
      rw [hx1] at ha HGR
      rw [hy1] at hb2 HGR
      clear ex ey hx1 hy1 e1 b1 b3
      go_wp2
      go_quiet (first
        | (go_at_call_of 52 (Value.int .i64 x); refine Calls.quiet_of_same (clipv _ _ HX _))
        | (go_at_call_of 52 (Value.int .i64 y); refine Calls.quiet_of_same (clipv _ _ HY _)))
      all_goals go_wp2
      all_goals go_roundw
      case rel => exact ⟨k + 1, by omega, by go_num, by rw [HR.out, HGR.out]; congr 1; (repeat' split) <;> (try split at *) <;> omega, below_drewN hB _⟩
      case measure => simp [intOf]; omega
    · obtain rfl : k = xs.length := by omega
      rw [List.take_of_length_le (by rw [HG.out]; omega)]
      go_wp2
      refine bodyPost_ret (v := .tuple #[.int .i64 (sm zs), .bool true]) (by simp [results, Tryz.results27, go_sem]) rfl ?_
      exact ⟨rfl, hB⟩
end Go.Proofs.YtkfjlldlbknepaaGreat.Of
/-
  What is told stage by stage; Staged of the model.
-/
namespace Go.Proofs.YtkfjlldlbknepaaGreat.Md
set_option maxRecDepth 100000
open Go.RowKit
open Go.Proofs.YtkfjlldlbknepaaGreat.Li (ret_bool ret_int btw below_none iv)
open Go.Proofs.YtkfjlldlbknepaaGreat.Tb (lets Row RowIs)
open Go.Proofs.YtkfjlldlbknepaaGreat.Tm (IsT szT)
open Go.Proofs.YtkfjlldlbknepaaGreat.Kt (Kv IsK ksz)
open Go.Proofs.YtkfjlldlbknepaaGreat.To (OwT)
open Go.Proofs.YtkfjlldlbknepaaGreat.Sv (new1 new2 Wr wr2)
open Go.Proofs.YtkfjlldlbknepaaGreat.Sw (sm)
set_option linter.unusedVariables false
def stgN (ts : List Tr.T) (f : List Int) (base : Int) (q : Nat) : List Int := (List.range q).map fun k => sm (ts.take k) f base
def stg (m : M) (r : Row) : List Int := if fits m r = true then stgN m.ts (pad (fl m r)) m.base (m.ts.length + 1) else []
theorem stgN_length (ts : List Tr.T) (f : List Int) (base : Int) (q : Nat) : (stgN ts f base q).length = q := by simp [stgN]
theorem stgN_snoc (ts : List Tr.T) (f : List Int) (base : Int) (q : Nat) : stgN ts f base (q + 1) = stgN ts f base q ++ [sm (ts.take q) f base] := by simp [stgN, List.range_succ]
theorem stg_no {m : M} {r : Row} (h : fits m r = false) : stg m r = [] := by unfold stg; rw [if_neg (by rw [h]; simp)]
theorem stg_yes {m : M} {r : Row} (h : fits m r = true) : stg m r = stgN m.ts (pad (fl m r)) m.base (m.ts.length + 1) := by unfold stg; rw [if_pos h]
theorem stg_len (m : M) (r : Row) (hl : m.sz ≤ 1048576) : (stg m r).length ≤ 1048576 := by
  by_cases h : fits m r = true
  · rw [stg_yes h, stgN_length]
    have := (mok_parts (fits_fit h).ok).2.2.2.1
    omega
  · rw [stg_no (by simpa using h)]; simp
/-- A model that was read, its list of trees within its cap. -/
structure Rmc (w : World) (ak ax : Option Addr) (ct : Nat) (m : M) : Prop where
  rm : Rm w ak ax m
  cap : m.ts.length ≤ ct
theorem Rmc.below {w w1 : World} {ak ax : Option Addr} {ct : Nat} {m : M} (h : Rmc w ak ax ct m) (hb : Below w.heap.size w w1) : Rmc w1 ak ax ct m := ⟨h.rm.below hb, h.cap⟩
theorem OwM.rmc {w : World} {B : Nat → Prop} {vk vt : Value} {m : M} (h : OwM w B vk vt m) : ∃ ak ck ax ct, vk = .slice ak m.ks.length ck ∧ vt = .slice ax m.ts.length ct ∧ Rmc w ak ax ct m := by
  obtain ⟨ak, ck, ax, ct, e0, e1, rm⟩ := h.rm
  refine ⟨ak, ck, ax, ct, e0, e1, rm, ?_⟩
  obtain ⟨P, _, h1⟩ := h
  obtain ⟨vs, ho, _⟩ := h1
  subst e1
  rcases ho.2 with ⟨e, h0⟩ | ⟨g, cap, cur, e, _, _, hc, _⟩
  · omega
  · injection e with _ _ e; omega
theorem ist_take {w : World} {a : Option Addr} {ts : List Tr.T} (h : IsT w a ts) (q : Nat) : IsT w a (ts.take q) := by
  rcases h with rfl | ⟨b, off, rfl, hb, hc⟩
  · exact .inl (by simp)
  · refine .inr ⟨b, off, rfl, hb, fun j hj => ?_⟩
    have hj' : j < ts.length := by simp at hj; omega
    obtain ⟨v0, v1, hx, hr⟩ := hc j hj'
    refine ⟨v0, v1, hx, ?_⟩
    simpa using hr
theorem szT_pre (ts : List Tr.T) (q : Nat) : (ts.take q).length + szT (ts.take q) ≤ ts.length + szT ts := by
  have h1 := Tm.szT_le ts q
  have h2 : (ts.take q).length ≤ ts.length := by simp; omega
  omega
end Go.Proofs.YtkfjlldlbknepaaGreat.Md
/-
  OffOf of both: how far what a model says of a table is from its labels.
-/
namespace Go.Proofs.YtkfjlldlbknepaaGreat.Md
set_option maxRecDepth 100000
open Go.RowKit
open Go.Proofs.YtkfjlldlbknepaaGreat.Li (ret_bool ret_int btw below_none)
open Go.Proofs.YtkfjlldlbknepaaGreat.Tb (Row RowIs IsR szR OwnT)
open Go.Proofs.YtkfjlldlbknepaaGreat.Sv (new1 new2 Wr wr2)
set_option linter.unusedVariables false
def ofo (m : M) (n c : Int) (rs : List Row) : Int := if pok m n c rs = true then Of.off (rs.map Row.label) (rs.map (pred m)) else 0
theorem ofo_no {m : M} {n c : Int} {rs : List Row} (h : pok m n c rs = false) : ofo m n c rs = 0 := by unfold ofo; rw [if_neg (by rw [h]; simp)]
theorem ofo_yes {m : M} {n c : Int} {rs : List Row} (h : pok m n c rs = true) : ofo m n c rs = Of.off (rs.map Row.label) (rs.map (pred m)) := by unfold ofo; rw [if_pos h]
theorem ofo_oko {m : M} {n c : Int} {rs : List Row} (h : pok m n c rs = true) : Of.oko (rs.map Row.label) (rs.map (pred m)) = true := by
  simp only [pok, Bool.and_eq_true] at h
  have := (Tk.tok_iff.1 h.2.1).2.1
  exact Of.oko_yes (by simp) (by simpa using this)
theorem ofo_bd (m : M) (n c : Int) (rs : List Row) : 0 ≤ ofo m n c rs ∧ ofo m n c rs ≤ 80000000000000 := by
  unfold ofo; split
  · exact Of.off_bd _ _
  · omega
set_option maxHeartbeats 8000000 in
theorem iofo (w : World) (ak ax : Option Addr) (ck ct : Nat) (m : M) (h : Rm w ak ax m) (hl : m.sz ≤ 1048576) (n c : Int) (a : Option Addr) (cap : Nat) (rs : List Row) (hx : IsRC w a rs) (hr : rs.length + szR rs ≤ 1048576) :
    Calls Tryz.prog 11 #[.agg #[.int .i64 m.n, .int .i64 m.c, .int .i64 m.prior, .int .i64 m.base, .slice ak m.ks.length ck, .slice ax m.ts.length ct], .agg #[.int .i64 n, .int .i64 c, .slice a rs.length cap]] w fun e w' => e = .returned (.tuple #[.int .i64 (ofo m n c rs), .bool (pok m n c rs)]) ∧ Below w.heap.size w w' := by
  go_enter Tryz.func11, Tryz.ntmps11
  go_wp2_with fail
  obtain ⟨W, hW, hsz, hB, bm, bt⟩ := new2 w [.int .i64 m.n, .int .i64 m.c, .int .i64 m.prior, .int .i64 m.base, .slice ak m.ks.length ck, .slice ax m.ts.length ct] [.int .i64 n, .int .i64 c, .slice a rs.length cap] 39 43
  rw [hW]
  clear hW hsz
  refine (ipall _ _ _ _ _ m (h.below hB) hl n c _ _ rs (hx.below hB) hr).mono ?_
  rintro e w1 ⟨v, rfl, ov, hb⟩
  have bt := bt.below hb
  have hB := hB.trans (hb.mono hB.size)
  clear hb bm
  cases hv : pok m n c rs
  · have HV : Hid (ofo m n c rs = 0) := ofo_no hv
    have HP : Hid (pok m n c rs = false) := hv
    clear ov hv
    go_wp2
    refine bodyPost_ret (v := .tuple #[.int .i64 0, .bool false]) (by simp [results, Tryz.results11, go_sem]) rfl ?_
    exact ⟨by rw [HV.out, HP.out], hB⟩
  · have HP : Hid (pok m n c rs = true) := hv
    have HV : Hid (ofo m n c rs = Of.off (rs.map Row.label) (rs.map (pred m))) := ofo_yes hv
    have HK : Hid (Of.oko (rs.map Row.label) (rs.map (pred m)) = true) := ofo_oko hv
    have hrl : rs.length ≤ 40 := by simp only [pok, Bool.and_eq_true] at hv; exact (Tk.tok_iff.1 hv.2.1).2.1
    rw [pall_yes hv] at ov
    have HLB : Hid (Co.labels n c rs = rs.map Row.label) := by
      simp only [pok, Bool.and_eq_true] at hv
      show _ = _
      unfold Co.labels Co.labs
      rw [if_pos hv.2.1]
    clear hv
    obtain ⟨ps, hps⟩ : ∃ ps, rs.map (pred m) = ps := ⟨_, rfl⟩
    have hpl : ps.length ≤ 40 := by rw [← hps]; simpa using hrl
    rw [hps] at ov HV HK
    obtain ⟨av, cv, ev, iv⟩ := ov.isl
    subst ev
    clear ov hps
    obtain ⟨_, ⟨y0, y1, y2⟩, _⟩ := wr3 bt
    go_wp2_with fail
    refine (Co.ilabels _ n c _ _ rs (hx.isr.below hB) hr).mono ?_
    rintro e w2 ⟨vl, rfl, ol, hb⟩
    have iv := iv.below hb
    have hB := hB.trans (hb.mono hB.size)
    clear hb y0 y1 y2 bt
    obtain ⟨ls, hls⟩ : ∃ ls, rs.map Row.label = ls := ⟨_, rfl⟩
    have hll : ls.length ≤ 40 := by rw [← hls]; simpa using hrl
    rw [HLB.out, hls] at ol
    rw [hls] at HV HK
    obtain ⟨al, cl, el, il⟩ := ol.isl
    subst el
    clear ol hls
    go_wp2_with fail
    refine (Of.ioff _ _ _ _ _ ls ps il iv (by omega) (by omega)).mono ?_
    rintro e w3 ⟨rfl, hb⟩
    have hB := hB.trans (hb.mono hB.size)
    clear hb
    rw [HK.out]
    go_wp2
    refine bodyPost_ret (v := .tuple #[.int .i64 (Of.off ls ps), .bool true]) (by simp [results, Tryz.results11, go_sem]) rfl ?_
    exact ⟨by rw [HV.out, HP.out], hB⟩
set_option maxHeartbeats 8000000 in
theorem sofo (w : World) (ak ax : Option Addr) (ck ct : Nat) (m : M) (h : Rm w ak ax m) (hl : m.sz ≤ 1048576) (n c : Int) (a : Option Addr) (cap : Nat) (rs : List Row) (hx : IsRC w a rs) (hr : rs.length + szR rs ≤ 1048576) :
    Calls Tryz.prog 8 #[.agg #[.int .i64 m.n, .int .i64 m.c, .int .i64 m.prior, .int .i64 m.base, .slice ak m.ks.length ck, .slice ax m.ts.length ct], .agg #[.int .i64 n, .int .i64 c, .slice a rs.length cap]] w fun e w' => e = .returned (.tuple #[.int .i64 (ofo m n c rs), .bool (pok m n c rs)]) ∧ Below w.heap.size w w' := by
  go_enter Tryz.func8, Tryz.ntmps8
  go_wp2_with fail
  obtain ⟨W, hW, hsz, hB, bm, bt⟩ := new2 w [.int .i64 m.n, .int .i64 m.c, .int .i64 m.prior, .int .i64 m.base, .slice ak m.ks.length ck, .slice ax m.ts.length ct] [.int .i64 n, .int .i64 c, .slice a rs.length cap] 39 43
  rw [hW]
  clear hW hsz
  refine (spall _ _ _ _ _ m (h.below hB) hl n c _ _ rs (hx.below hB).isr hr).mono ?_
  rintro e w1 ⟨v, rfl, ov, hb⟩
  have bt := bt.below hb
  have hB := hB.trans (hb.mono hB.size)
  clear hb bm
  cases hv : pok m n c rs
  · have HV : Hid (ofo m n c rs = 0) := ofo_no hv
    have HP : Hid (pok m n c rs = false) := hv
    clear ov hv
    go_wp2
    refine bodyPost_ret (v := .tuple #[.int .i64 0, .bool false]) (by simp [results, Tryz.results8, go_sem]) rfl ?_
    exact ⟨by rw [HV.out, HP.out], hB⟩
  · have HP : Hid (pok m n c rs = true) := hv
    have HV : Hid (ofo m n c rs = Of.off (rs.map Row.label) (rs.map (pred m))) := ofo_yes hv
    have HK : Hid (Of.oko (rs.map Row.label) (rs.map (pred m)) = true) := ofo_oko hv
    have hrl : rs.length ≤ 40 := by simp only [pok, Bool.and_eq_true] at hv; exact (Tk.tok_iff.1 hv.2.1).2.1
    rw [pall_yes hv] at ov
    have HLB : Hid (Co.labels n c rs = rs.map Row.label) := by
      simp only [pok, Bool.and_eq_true] at hv
      show _ = _
      unfold Co.labels Co.labs
      rw [if_pos hv.2.1]
    clear hv
    obtain ⟨ps, hps⟩ : ∃ ps, rs.map (pred m) = ps := ⟨_, rfl⟩
    have hpl : ps.length ≤ 40 := by rw [← hps]; simpa using hrl
    rw [hps] at ov HV HK
    obtain ⟨av, cv, ev, iv⟩ := ov.isl
    subst ev
    clear ov hps
    obtain ⟨_, ⟨y0, y1, y2⟩, _⟩ := wr3 bt
    go_wp2_with fail
    refine (Co.slabels _ n c _ _ rs (hx.isr.below hB) hr).mono ?_
    rintro e w2 ⟨vl, rfl, ol, hb⟩
    have iv := iv.below hb
    have hB := hB.trans (hb.mono hB.size)
    clear hb y0 y1 y2 bt
    obtain ⟨ls, hls⟩ : ∃ ls, rs.map Row.label = ls := ⟨_, rfl⟩
    have hll : ls.length ≤ 40 := by rw [← hls]; simpa using hrl
    rw [HLB.out, hls] at ol
    rw [hls] at HV HK
    obtain ⟨al, cl, el, il⟩ := ol.isl
    subst el
    clear ol hls
    go_wp2_with fail
    refine (Of.soff _ _ _ _ _ ls ps il iv (by omega) (by omega)).mono ?_
    rintro e w3 ⟨rfl, hb⟩
    have hB := hB.trans (hb.mono hB.size)
    clear hb
    rw [HK.out]
    go_wp2
    refine bodyPost_ret (v := .tuple #[.int .i64 (Of.off ls ps), .bool true]) (by simp [results, Tryz.results8, go_sem]) rfl ?_
    exact ⟨by rw [HV.out, HP.out], hB⟩
end Go.Proofs.YtkfjlldlbknepaaGreat.Md
/-
  A region that draws its order, of whose operations one (d) writes what others read, and waits for them: a condition on the world holds behind every operation that comes up ahead of d.
-/
namespace Go.Proofs.YtkfjlldlbknepaaGreat.Hd
variable {P : Program} {ops : Array Oper} {Q : Exit → Act → World → Prop} {md : Region.Mode} {S : World → Prop} {d : Nat}

/-- Whatever comes up from here on; as long as d has not come, the condition S holds. -/
def After (P : Program) (md : Region.Mode) (ops : Array Oper) (Q : Exit → Act → World → Prop) (S : World → Prop) (d : Nat) : Nat → Array Bool → Act → World → Prop
  | 0, l, a, w => Region.ready md ops l = [] ∧ Q .normal a w
  | n + 1, l, a, w => (Region.ready md ops l = [] → Q .normal a w) ∧ ∀ j ∈ Region.ready md ops l, wpOp P ops Q j (fun a' w' => ((l.setIfInBounds j true).getD d true = false → S w') ∧ After P md ops Q S d n (l.setIfInBounds j true) a' w') a w
theorem After.any : ∀ {n : Nat} {l : Array Bool} {a : Act} {w : World}, After P md ops Q S d n l a w → wpAny P md ops Q n l a w
  | 0, _, _, _, h => h
  | _ + 1, _, _, _, h => ⟨h.1, fun j hj => wpOp_mono (fun _ _ h' => h'.2.any) (h.2 j hj)⟩
/-- Who may come up does not wait for one that has not come. -/
theorem not_waiting {i j : Nat} {l : Array Bool} {oj : Oper} (hu : l.getD i true = false) (hj : j ∈ Region.ready md ops l) (ho : ops[j]? = some oj) (e : Edge) (he : e ∈ oj.after) (hb : Region.binds md e = true) : e.on ≠ i := by
  intro heq
  obtain ⟨_, o', ho', hall⟩ := mem_ready.1 hj
  obtain rfl : oj = o' := Option.some.inj (ho.symm.trans ho')
  have h1 := hall e he hb
  rw [heq, Array.getD_eq_getD_getElem?] at h1
  rw [Array.getD_eq_getD_getElem?] at hu
  cases hl : l[i]? with
  | none => rw [hl] at h1; simp at h1
  | some x => rw [hl] at h1 hu; simp at h1 hu; rw [h1] at hu; cases hu
/-- d waits for i. -/
def Waits (md : Region.Mode) (ops : Array Oper) (d i : Nat) : Bool := match ops[d]? with | some o => o.after.any fun e => Region.binds md e && e.on == i | none => false
theorem waits_ne {i j : Nat} {l : Array Bool} (hw : Waits md ops d i = true) (hu : l.getD i true = false) (hj : j ∈ Region.ready md ops l) : j ≠ d := by
  rintro rfl
  unfold Waits at hw
  split at hw
  · rename_i o ho
    rw [Array.any_eq_true'] at hw
    obtain ⟨e, he, hx⟩ := hw
    simp at hx
    exact not_waiting hu hj ho e he hx.1 hx.2
  · cases hw
/-- Who has not come up yet, and does not wait for i, lies apart from it. -/
def Clear (md : Region.Mode) (ops : Array Oper) (oi : Oper) (i : Nat) (l : Array Bool) : Prop := ∀ j oj, ops[j]? = some oj → j ≠ i → l.getD j true = false → (∀ e ∈ oj.after, Region.binds md e = true → e.on ≠ i) → oi.apart ops oj = true
theorem Clear.set {oi : Oper} {i j : Nat} {l : Array Bool} (h : Clear md ops oi i l) (hj : l.getD j true = false) : Clear md ops oi i (l.setIfInBounds j true) := by
  intro k ok hk hki hku hno
  refine h k ok hk hki ?_ hno
  by_cases ejk : j = k
  · subst ejk; exact hj
  · rwa [getD_set_ne true ejk] at hku
/-- One that yields its value wherever S holds, and for which d waits, may be taken first. -/
theorem After.take_first {i : Nat} {oi : Oper} {v : Value} (hi : ops[i]? = some oi) (hs : Region.noSelect ops = true) (hQ : ∀ c a w, Q (.panic c) (a.put oi.dst v) w → Q (.panic c) a w) (hw : Waits md ops d i = true) :
    ∀ (n : Nat) {l : Array Bool} {a : Act} {w : World}, Clear md ops oi i l → i ∈ Region.ready md ops l → YieldsIf P ops S oi v a → l.getD d true = false → S w → After P md ops Q S d n (l.setIfInBounds i true) (a.put oi.dst v) w → After P md ops Q S d (n + 1) l a w := by
  intro n
  induction n with
  | zero =>
    intro l a w _ hr hy _ hS h
    constructor
    · intro h0; rw [h0] at hr; exact absurd hr (by simp)
    · intro j hj
      have e : j = i := Classical.byContradiction fun hne => by
        have h1 := ready_mono hj hne
        rw [h.1] at h1
        exact absurd h1 (by simp)
      subst e
      exact hy.wpOp hi hS ⟨fun _ => hS, h⟩
  | succ n ih =>
    intro l a w hf hr hy hdu hS h
    constructor
    · intro h0; rw [h0] at hr; exact absurd hr (by simp)
    · intro j hj
      by_cases e : j = i
      · subst e
        exact hy.wpOp hi hS ⟨fun _ => hS, h⟩
      · have hu := (mem_ready.1 hr).1
        have hnd : j ≠ d := waits_ne hw hu hj
        obtain ⟨hju, oj, hoj, _⟩ := mem_ready.1 hj
        have hap := hf j oj hoj e hju (fun e' he' hb' => not_waiting hu hj hoj e' he' hb')
        have hdj : (l.setIfInBounds j true).getD d true = false := by rw [getD_set_ne true hnd]; exact hdu
        refine wpOp_mono ?_ (wpOp_putIf hoj hap (fun cs b => Region.noSelect_spec hs i oi cs b hi) (fun cs b => Region.noSelect_spec hs j oj cs b hoj) hQ hy (h.2 j (ready_mono hj e)))
        rintro a' w' ⟨hy', hS', h'⟩
        rw [Array.setIfInBounds_comm _ _ (Ne.symm e)] at hS' h'
        have hid : i ≠ d := by
          rintro rfl
          exact waits_ne hw hu hr rfl
        have hSw : S w' := hS' (by rw [getD_set_ne true hid]; exact hdj)
        exact ⟨fun _ => hSw, ih (hf.set hju) (ready_mono hr (Ne.symm e)) hy' hdj hSw h'⟩
/-- One that yields its value in whatever world may be taken first. -/
theorem After.pure_first {i : Nat} {oi : Oper} {v : Value} (hi : ops[i]? = some oi) (hs : Region.noSelect ops = true) (hQ : ∀ c a w, Q (.panic c) (a.put oi.dst v) w → Q (.panic c) a w) (hid : i ≠ d) :
    ∀ (n : Nat) {l : Array Bool} {a : Act} {w : World}, Clear md ops oi i l → i ∈ Region.ready md ops l → Yields P ops oi v a → (l.getD d true = false → S w) → After P md ops Q S d n (l.setIfInBounds i true) (a.put oi.dst v) w → After P md ops Q S d (n + 1) l a w := by
  intro n
  induction n with
  | zero =>
    intro l a w _ hr hy hS h
    constructor
    · intro h0; rw [h0] at hr; exact absurd hr (by simp)
    · intro j hj
      have e : j = i := Classical.byContradiction fun hne => by
        have h1 := ready_mono hj hne
        rw [h.1] at h1
        exact absurd h1 (by simp)
      subst e
      exact hy.wpOp hi ⟨fun h0 => hS (by rwa [getD_set_ne true hid] at h0), h⟩
  | succ n ih =>
    intro l a w hf hr hy hS h
    constructor
    · intro h0; rw [h0] at hr; exact absurd hr (by simp)
    · intro j hj
      by_cases e : j = i
      · subst e
        exact hy.wpOp hi ⟨fun h0 => hS (by rwa [getD_set_ne true hid] at h0), h⟩
      · have hu := (mem_ready.1 hr).1
        obtain ⟨hju, oj, hoj, _⟩ := mem_ready.1 hj
        have hap := hf j oj hoj e hju (fun e' he' hb' => not_waiting hu hj hoj e' he' hb')
        refine wpOp_mono ?_ (wpOp_put hoj hap (fun cs b => Region.noSelect_spec hs i oi cs b hi) (fun cs b => Region.noSelect_spec hs j oj cs b hoj) hQ hy (h.2 j (ready_mono hj e)))
        rintro a' w' ⟨hy', hS', h'⟩
        rw [Array.setIfInBounds_comm _ _ (Ne.symm e)] at hS' h'
        have hSw : (l.setIfInBounds j true).getD d true = false → S w' := fun h0 => hS' (by rw [getD_set_ne true hid]; exact h0)
        exact ⟨hSw, ih (hf.set hju) (ready_mono hr (Ne.symm e)) hy' hSw h'⟩
theorem After.take {i : Nat} {oi : Oper} (v : Value) {n : Nat} {l : Array Bool} {a : Act} {w : World} (hi : ops[i]? = some oi) (hs : Region.noSelect ops = true) (hw : Waits md ops d i = true) (hf : Region.free md ops l i = true) (hr : (Region.ready md ops l).contains i = true) (hdu : l.getD d true = false)
    (hQ : ∀ c a w, Q (.panic c) (a.put oi.dst v) w → Q (.panic c) a w) (hS : S w) (hy : YieldsIf P ops S oi v a) (h : After P md ops Q S d n (l.setIfInBounds i true) (a.put oi.dst v) w) : After P md ops Q S d (n + 1) l a w :=
  After.take_first hi hs hQ hw n (Region.free_spec hi hf) (by simpa using hr) hy hdu hS h
theorem After.pure {i : Nat} {oi : Oper} (v : Value) {n : Nat} {l : Array Bool} {a : Act} {w : World} (hi : ops[i]? = some oi) (hs : Region.noSelect ops = true) (hid : i ≠ d) (hf : Region.free md ops l i = true) (hr : (Region.ready md ops l).contains i = true)
    (hQ : ∀ c a w, Q (.panic c) (a.put oi.dst v) w → Q (.panic c) a w) (hS : S w) (hy : Yields P ops oi v a) (h : After P md ops Q S d n (l.setIfInBounds i true) (a.put oi.dst v) w) : After P md ops Q S d (n + 1) l a w :=
  After.pure_first hi hs hQ hid n (Region.free_spec hi hf) (by simpa using hr) hy (fun _ => hS) h
/-- One alone may come up; what follows is a letter. -/
theorem After.one {i : Nat} {o : Oper} {n : Nat} {l : Array Bool} {a : Act} {w : World} (hr : Region.ready md ops l = [i]) (hi : ops[i]? = some o) (hg : o.guard = none)
    (h : ∀ K : Act → World → Prop, (∀ a' w', ((l.setIfInBounds i true).getD d true = false → S w') → After P md ops Q S d n (l.setIfInBounds i true) a' w' → K a' w') → o.wp P a w K Q) : After P md ops Q S d (n + 1) l a w := by
  refine ⟨fun h0 => (by rw [hr] at h0; simp at h0), fun j hj => ?_⟩
  rw [hr] at hj
  obtain rfl := List.mem_singleton.1 hj
  unfold wpOp
  rw [hi]
  have hw : Region.wanted o (yielded ops a.tmps) = true := by simp [Region.wanted, hg]
  simp only [hw, if_true]
  exact .inl (h _ fun _ _ h1 h2 => ⟨h1, h2⟩)
theorem After.two {i j : Nat} {oi oj : Oper} {n : Nat} {l : Array Bool} {a : Act} {w : World} (hr : Region.ready md ops l = [i, j]) (hi : ops[i]? = some oi) (hj : ops[j]? = some oj) (hg : oi.guard = none) (hg' : oj.guard = none)
    (h : ∀ K : Act → World → Prop, (∀ a' w', ((l.setIfInBounds i true).getD d true = false → S w') → After P md ops Q S d n (l.setIfInBounds i true) a' w' → K a' w') → oi.wp P a w K Q)
    (h' : ∀ K : Act → World → Prop, (∀ a' w', ((l.setIfInBounds j true).getD d true = false → S w') → After P md ops Q S d n (l.setIfInBounds j true) a' w' → K a' w') → oj.wp P a w K Q) : After P md ops Q S d (n + 1) l a w := by
  refine ⟨fun h0 => (by rw [hr] at h0; simp at h0), fun k hk => ?_⟩
  rw [hr] at hk
  have hwi : Region.wanted oi (yielded ops a.tmps) = true := by simp [Region.wanted, hg]
  have hwj : Region.wanted oj (yielded ops a.tmps) = true := by simp [Region.wanted, hg']
  rcases List.mem_cons.1 hk with rfl | hk
  · unfold wpOp; rw [hi]; simp only [hwi, if_true]; exact .inl (h _ fun _ _ h1 h2 => ⟨h1, h2⟩)
  · obtain rfl := List.mem_singleton.1 hk
    unfold wpOp; rw [hj]; simp only [hwj, if_true]; exact .inl (h' _ fun _ _ h1 h2 => ⟨h1, h2⟩)
theorem After.done {l : Array Bool} {a : Act} {w : World} (hr : Region.ready md ops l = []) (h : Q .normal a w) : ∀ n, After P md ops Q S d n l a w
  | 0 => ⟨hr, h⟩
  | _ + 1 => ⟨fun _ => h, by rw [hr]; intro j hj; cases hj⟩
theorem start {id : Nat} {a : Act} {w : World} (S : World → Prop) (d : Nat) (hm : P.follows .mixedOrders = true) (h : After P .any ops Q S d ops.size (Array.replicate ops.size false) a w.drew) : (Code.region id ops true).wp P Q a w :=
  wp_region_any hm h.any
end Go.Proofs.YtkfjlldlbknepaaGreat.Hd
/-
  A region that draws its order, of whose operations one (d) writes what others read: a condition that may grow stronger on the way; the slots written out.
-/
namespace Go.Proofs.YtkfjlldlbknepaaGreat.Hd
variable {P : Program} {ops : Array Oper} {Q : Exit → Act → World → Prop} {md : Region.Mode} {S : World → Prop} {d : Nat}

/-- From here on a stronger condition may be asked. -/
theorem After.more {S' : World → Prop} (hs : ∀ w, S' w → S w) : ∀ {n : Nat} {l : Array Bool} {a : Act} {w : World}, After P md ops Q S' d n l a w → After P md ops Q S d n l a w
  | 0, _, _, _, h => h
  | _ + 1, _, _, _, h => ⟨h.1, fun j hj => wpOp_mono (fun _ _ h' => ⟨fun e => hs _ (h'.1 e), After.more hs h'.2⟩) (h.2 j hj)⟩
theorem After.takeD {i : Nat} {oi : Oper} (t : Option Tmp) (v : Value) {n : Nat} {l : Array Bool} {a : Act} {w : World} (hi : ops[i]? = some oi) (ht : oi.dst = t) (hs : Region.noSelect ops = true) (hw : Waits md ops d i = true) (hf : Region.free md ops l i = true) (hr : (Region.ready md ops l).contains i = true) (hdu : l.getD d true = false)
    (hQ : ∀ c a w, Q (.panic c) (a.put oi.dst v) w → Q (.panic c) a w) (hS : S w) (hy : YieldsIf P ops S oi v a) (h : After P md ops Q S d n (l.setIfInBounds i true) (a.put t v) w) : After P md ops Q S d (n + 1) l a w := by
  subst ht
  exact After.take v hi hs hw hf hr hdu hQ hS hy h
theorem After.pureD {i : Nat} {oi : Oper} (t : Option Tmp) (v : Value) {n : Nat} {l : Array Bool} {a : Act} {w : World} (hi : ops[i]? = some oi) (ht : oi.dst = t) (hs : Region.noSelect ops = true) (hid : i ≠ d) (hf : Region.free md ops l i = true) (hr : (Region.ready md ops l).contains i = true)
    (hQ : ∀ c a w, Q (.panic c) (a.put oi.dst v) w → Q (.panic c) a w) (hS : S w) (hy : Yields P ops oi v a) (h : After P md ops Q S d n (l.setIfInBounds i true) (a.put t v) w) : After P md ops Q S d (n + 1) l a w := by
  subst ht
  exact After.pure v hi hs hid hf hr hQ hS hy h
end Go.Proofs.YtkfjlldlbknepaaGreat.Hd
/-
  Two lists of the call's own and a variable, made in any order; one more pair of lists put behind a list of pairs.
-/
namespace Go.Proofs.YtkfjlldlbknepaaGreat.Ct
set_option maxRecDepth 20000
open Go.RowKit
open Go.Proofs.YtkfjlldlbknepaaGreat.Tb (ownsRow_at)
open Go.Proofs.YtkfjlldlbknepaaGreat.Sv (Fr fr_below fr_grown Wr)
open Go.Proofs.YtkfjlldlbknepaaGreat.Kt (Kv OwK)
open Go.Proofs.YtkfjlldlbknepaaGreat.To (OwT)
set_option linter.unusedVariables false
structure Rw where
  T : TypeId
  sz : Nat
  n : Nat
  xs : List Value
def Ow (w : World) (base : Nat) (v : Value) (r : Rw) : Prop := w.ownsRow base r.T r.sz v r.n r.xs
theorem Ow.lt {w : World} {base : Nat} {v : Value} {r : Rw} (h : Ow w base v r) : ∀ k, v.ownBlock = some k → base ≤ k ∧ k < w.heap.size := World.ownsRow.lt h
theorem Ow.below {w w1 : World} {base : Nat} {v : Value} {r : Rw} (h : Ow w base v r) (hb : Below w.heap.size w w1) : Ow w1 base v r := ownsRow_at h (fun k e => hb.block k (h.lt k e).2)
theorem Ow.mono {w : World} {base b1 : Nat} {v : Value} {r : Rw} (h : Ow w base v r) (hb : b1 ≤ base) : Ow w b1 v r := by
  refine ⟨h.1, ?_⟩
  rcases h.2 with e | ⟨g, cap, cur, e, hg, rest⟩
  · exact .inl e
  · exact .inr ⟨g, cap, cur, e, Nat.le_trans hb hg, rest⟩
def pair0 : List Value := [.slice none 0 0, .slice none 0 0]
/-- How far it has come: two lists, a variable of two cells, each made or not. -/
structure Tp (W wx : World) (M C : Option (Value × Rw)) (A : Option Nat) : Prop where
  bel : Below W.heap.size W wx
  oM : ∀ v r, M = some (v, r) → Ow wx W.heap.size v r
  oC : ∀ v r, C = some (v, r) → Ow wx W.heap.size v r
  oA : ∀ g, A = some g → Wr wx g 0 pair0 ∧ W.heap.size ≤ g
  mc : ∀ v r u s, M = some (v, r) → C = some (u, s) → ∀ y, v.ownBlock = some y → u.ownBlock ≠ some y
  ma : ∀ v r g, M = some (v, r) → A = some g → v.ownBlock ≠ some g
  ca : ∀ u s g, C = some (u, s) → A = some g → u.ownBlock ≠ some g
section
variable {W wx w1 : World} {M C : Option (Value × Rw)} {A : Option Nat}
theorem Tp.init (W : World) : Tp W W.drew none none none :=
  ⟨(Below.refl _ _).drew, fun v r e => (by cases e), fun v r e => (by cases e), fun g e => (by cases e), fun v r u s e => (by cases e), fun v r g e => (by cases e), fun u s g e => (by cases e)⟩
theorem Tp.below (h : Tp W wx M C A) (hb : Below wx.heap.size wx w1) : Tp W w1 M C A :=
  ⟨h.bel.trans (hb.mono h.bel.size), fun v r e => (h.oM v r e).below hb, fun v r e => (h.oC v r e).below hb, fun g e => ⟨(h.oA g e).1.below hb, (h.oA g e).2⟩, h.mc, h.ma, h.ca⟩
theorem Tp.addM (h : Tp W wx none C A) (hb : Below wx.heap.size wx w1) {v : Value} {r : Rw} (ho : Ow w1 wx.heap.size v r) : Tp W w1 (some (v, r)) C A := by
  have h' := h.below hb
  refine ⟨h'.bel, fun v' r' e => ?_, h'.oC, h'.oA, fun v' r' u s e e' y k1 k2 => ?_, fun v' r' g e e' k1 => ?_, h'.ca⟩
  · cases e; exact ho.mono h.bel.size
  · cases e; have := (ho.lt y k1).1; have := ((h.oC u s e').lt y k2).2; omega
  · cases e; have := (ho.lt g k1).1; have := (h.oA g e').1.1; omega
theorem Tp.addC (h : Tp W wx M none A) (hb : Below wx.heap.size wx w1) {v : Value} {r : Rw} (ho : Ow w1 wx.heap.size v r) : Tp W w1 M (some (v, r)) A := by
  have h' := h.below hb
  refine ⟨h'.bel, h'.oM, fun v' r' e => ?_, h'.oA, fun v' r' u s e e' y k1 k2 => ?_, h'.ma, fun v' r' g e e' k1 => ?_⟩
  · cases e; exact ho.mono h.bel.size
  · cases e'; have := (ho.lt y k2).1; have := ((h.oM v' r' e).lt y k1).2; omega
  · cases e; have := (ho.lt g k1).1; have := (h.oA g e').1.1; omega
theorem Tp.newA (h : Tp W wx M C none) (T : TypeId) : ∃ wy g, wx.alloc (.cells #[.slice none 0 0, .slice none 0 0] T) = wy ∧ wx.heap.size = g ∧ Tp W wy M C (some g) := by
  have hb : Below wx.heap.size wx (wx.alloc (.cells #[.slice none 0 0, .slice none 0 0] T)) := (Below.refl _ _).alloc (Nat.le_refl _) _
  have h' := h.below hb
  refine ⟨_, _, rfl, rfl, ⟨h'.bel, h'.oM, h'.oC, fun g e => ?_, h'.mc, fun v r g e e' k1 => ?_, fun v r g e e' k1 => ?_⟩⟩
  · cases e; exact ⟨Sv.wr_new wx pair0 T, h.bel.size⟩
  · cases e'; have := ((h.oM v r e).lt _ k1).2; omega
  · cases e'; have := ((h.oC v r e).lt _ k1).2; omega
theorem ow_new (wx : World) (T : TypeId) (sz : Nat) : Ow (wx.alloc (.cells #[] T)) wx.heap.size (.slice (some ⟨wx.heap.size, 0, none⟩) 0 0) ⟨T, sz, 0, []⟩ :=
  World.ownsRow_made wx #[] 0 (Nat.le_refl _) (by unfold maxLen; omega) (by simp)
theorem Tp.newM (h : Tp W wx none C A) (T : TypeId) (sz : Nat) : ∃ wy g, wx.alloc (.cells #[] T) = wy ∧ wx.heap.size = g ∧ Tp W wy (some (.slice (some ⟨g, 0, none⟩) 0 0, ⟨T, sz, 0, []⟩)) C A :=
  ⟨_, _, rfl, rfl, h.addM ((Below.refl _ _).alloc (Nat.le_refl _) _) (ow_new wx T sz)⟩
theorem Tp.newC (h : Tp W wx M none A) (T : TypeId) (sz : Nat) : ∃ wy g, wx.alloc (.cells #[] T) = wy ∧ wx.heap.size = g ∧ Tp W wy M (some (.slice (some ⟨g, 0, none⟩) 0 0, ⟨T, sz, 0, []⟩)) A :=
  ⟨_, _, rfl, rfl, h.addC ((Below.refl _ _).alloc (Nat.le_refl _) _) (ow_new wx T sz)⟩
theorem oblock (g n c : Nat) : (Value.slice (some ⟨g, 0, none⟩) n c).ownBlock = some g := rfl
theorem bel_grown {w wx w1 : World} {n g : Nat} (h : Below n w wx) (hs : n ≤ wx.heap.size) (hg : wx.grownBy w1 (some g)) (hn : n ≤ g) : Below n w w1 := h.grown hg hs (fun k e => by cases e; exact hn)
theorem Tp.fillM {g k n m c cap : Nat} {r r' : Rw} (h : Tp W wx (some (.slice (some ⟨g, 0, none⟩) n c, r)) C A) (ho : Ow w1 W.heap.size (.slice (some ⟨k, 0, none⟩) m cap) r') (hg : wx.grownBy w1 (some g)) (hk : k = g ∨ k = wx.heap.size) : Tp W w1 (some (.slice (some ⟨k, 0, none⟩) m cap, r')) C A := by
  have hgm := (h.oM _ _ rfl).lt g rfl
  refine ⟨bel_grown h.bel h.bel.size hg hgm.1, fun v r e => ?_, fun v s e => ?_, fun a e => ?_, fun v s u t e e' y k1 k2 => ?_, fun v s a e e' k1 => ?_, h.ca⟩
  · cases e; exact ho
  · have hc := h.oC v s e
    exact ownsRow_at hc (fun y ey => hg.block y (hc.lt y ey).2 (fun e2 => by cases e2; exact h.mc _ _ _ _ rfl e _ (oblock _ _ _) ey))
  · obtain ⟨a1, a2⟩ := h.oA a e
    exact ⟨a1.keptAt hg.size (hg.block a a1.1 (fun e2 => by cases e2; exact h.ma _ _ _ rfl e (oblock _ _ _))), a2⟩
  · cases e
    have ek : y = k := by simpa [Value.ownBlock] using k1.symm
    have hc := (h.oC u t e').lt y k2
    rcases hk with rfl | rfl
    · exact h.mc _ _ _ _ rfl e' y (by rw [ek]; rfl) k2
    · omega
  · cases e
    have ek : a = k := by simpa [Value.ownBlock] using k1.symm
    have ha := (h.oA a e').1.1
    rcases hk with rfl | rfl
    · exact h.ma _ _ _ rfl e' (by rw [ek]; rfl)
    · omega
theorem Tp.fillC {g k n m c cap : Nat} {r r' : Rw} (h : Tp W wx M (some (.slice (some ⟨g, 0, none⟩) n c, r)) A) (ho : Ow w1 W.heap.size (.slice (some ⟨k, 0, none⟩) m cap) r') (hg : wx.grownBy w1 (some g)) (hk : k = g ∨ k = wx.heap.size) : Tp W w1 M (some (.slice (some ⟨k, 0, none⟩) m cap, r')) A := by
  have hgm := (h.oC _ _ rfl).lt g rfl
  refine ⟨bel_grown h.bel h.bel.size hg hgm.1, fun v s e => ?_, fun v r e => ?_, fun a e => ?_, fun v s u t e e' y k1 k2 => ?_, h.ma, fun v s a e e' k1 => ?_⟩
  · have hc := h.oM v s e
    exact ownsRow_at hc (fun y ey => hg.block y (hc.lt y ey).2 (fun e2 => by cases e2; exact h.mc _ _ _ _ e rfl _ ey (oblock _ _ _)))
  · cases e; exact ho
  · obtain ⟨a1, a2⟩ := h.oA a e
    exact ⟨a1.keptAt hg.size (hg.block a a1.1 (fun e2 => by cases e2; exact h.ca _ _ _ rfl e (oblock _ _ _))), a2⟩
  · cases e'
    have ek : y = k := by simpa [Value.ownBlock] using k2.symm
    have hc := (h.oM v s e).lt y k1
    rcases hk with rfl | rfl
    · exact h.mc _ _ _ _ e rfl y k1 (by rw [ek]; rfl)
    · omega
  · cases e
    have ek : a = k := by simpa [Value.ownBlock] using k1.symm
    have ha := (h.oA a e').1.1
    rcases hk with rfl | rfl
    · exact h.ca _ _ _ rfl e' (by rw [ek]; rfl)
    · omega
end
end Go.Proofs.YtkfjlldlbknepaaGreat.Ct
