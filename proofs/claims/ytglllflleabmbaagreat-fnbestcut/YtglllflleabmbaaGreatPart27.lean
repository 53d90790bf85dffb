/-
  Contracts that the proof leans on, put together in the order in which they build.
-/
import Derived.Test.YtglllflleabmbaaGreatPart6
import Derived.Test.YtglllflleabmbaaGreatPart2
import Derived.Deep.RegionWith
import Derived.Deep.RegionLaw
import Derived.Test.YtglllflleabmbaaGreatPart26
import Derived.Test.YtglllflleabmbaaGreatPart11
import Derived.Test.YtglllflleabmbaaGreatPart15
import Derived.Test.YtglllflleabmbaaGreatPart4
import Derived.Deep.AppendLies
import Derived.Test.YtglllflleabmbaaGreatPart19
import Derived.Test.YtglllflleabmbaaGreatPart9
import Derived.Deep.Upon
/-
  How far two rows of numbers are apart: Off of the program and of the model.
-/
namespace Go.Proofs.YtglllflleabmbaaGreat.Of
open Go.RowKit
open Go.Proofs.YtglllflleabmbaaGreat.Ad Go.Proofs.YtglllflleabmbaaGreat.Ai
open Go.Proofs.YtglllflleabmbaaGreat.Li
set_option linter.unusedVariables false

def ab (l p : Int) : Int := if clip l < clip p then clip p - clip l else clip l - clip p
theorem ab_bd (l p : Int) : 0 ≤ ab l p ∧ ab l p ≤ 2000000000000 := by
 have := clip_bd l; have := clip_bd p; unfold ab; split <;> omega
def sm : List Int → Int
 | [] => 0
 | x :: xs => x + sm xs
theorem sm_append (xs ys : List Int) : sm (xs ++ ys) = sm xs + sm ys := by
 induction xs with
 | nil => simp [sm]
 | cons x xs ih => simp [sm, ih]; omega
theorem sm_take {ls : List Int} {k : Nat} (h : k < ls.length) : sm (ls.take (k + 1)) = sm (ls.take k) + ls[k] := by
 rw [List.take_succ_eq_append_getElem h, sm_append]; simp [sm]
theorem sm_bd {B : Int} (hB : 0 ≤ B) (xs : List Int) (h : ∀ x ∈ xs, 0 ≤ x ∧ x ≤ B) : 0 ≤ sm xs ∧ sm xs ≤ B * (xs.length : Int) := by
 induction xs with
 | nil => simp [sm]
 | cons x xs ih =>
  have h1 := ih fun y hy => h y (List.mem_cons_of_mem _ hy)
  have h2 := h x List.mem_cons_self
  simp only [sm, List.length_cons]
  have : B * ((xs.length + 1 : Nat) : Int) = B * (xs.length : Int) + B := by rw [Int.natCast_add, Int.mul_add]; simp
  omega
def offs (ls ps : List Int) : List Int := List.zipWith ab ls ps
theorem offs_len {ls ps : List Int} (h : ls.length = ps.length) : (offs ls ps).length = ls.length := by unfold offs; simp; omega
theorem offs_get {ls ps : List Int} (k : Nat) (hk : k < (offs ls ps).length) (h1 : k < ls.length) (h2 : k < ps.length) : (offs ls ps)[k] = ab ls[k] ps[k] := by
 simp only [offs]; simp
theorem offs_mem {ls ps : List Int} : ∀ x ∈ offs ls ps, 0 ≤ x ∧ x ≤ 2000000000000 := by
 intro x hx
 obtain ⟨k, hk, rfl⟩ := List.mem_iff_getElem.1 hx
 simp only [offs, List.getElem_zipWith]; exact ab_bd _ _
def oko (ls ps : List Int) : Bool := decide (ls.length = ps.length) && decide (ls.length ≤ 40)
def off (ls ps : List Int) : Int := if oko ls ps then sm (offs ls ps) else 0
theorem off_yes {ls ps : List Int} (h : oko ls ps = true) : off ls ps = sm (offs ls ps) := by unfold off; rw [if_pos h]
theorem off_no {ls ps : List Int} (h : oko ls ps = false) : off ls ps = 0 := by unfold off; rw [h]; simp
theorem oko_yes {ls ps : List Int} (h1 : ls.length = ps.length) (h2 : ls.length ≤ 40) : oko ls ps = true := by unfold oko; simp; exact ⟨h1, h2⟩
theorem oko_no {ls ps : List Int} (h : ls.length ≠ ps.length ∨ 40 < ls.length) : oko ls ps = false := by
 unfold oko; rw [Bool.and_eq_false_iff]; rcases h with h | h
 ·
  exact .inl (by simpa using h)
 ·
  exact .inr (by simp; omega)
set_option maxHeartbeats 1000000 in
theorem iab (l p : Int) (w : World) : Calls Tryz.prog 31 #[.int .i64 l, .int .i64 p] w fun e w' => e = .returned (.int .i64 (ab l p)) ∧ w' = w := by
 have ha := clip_bd l
 have hb := clip_bd p
 have HR : Hid (ab l p = if clip l < clip p then clip p - clip l else clip l - clip p) := rfl
 obtain ⟨x, hx⟩ : ∃ x, clip l = x := ⟨_, rfl⟩
 obtain ⟨y, hy⟩ : ∃ y, clip p = y := ⟨_, rfl⟩
 have HX : Hid (clip l = x) := hx
 have HY : Hid (clip p = y) := hy
 rw [hx] at ha
 rw [hy] at hb
 rw [hx, hy] at HR
 clear hx hy
 go_enter Tryz.func31, Tryz.ntmps31
 go_wp2_with fail
 refine (bounded_any _ _).mono ?_
 rintro e w' ⟨rfl, hw⟩
 subst w'
 rw [HX.out]
 go_wp2_with fail
 refine (bounded_any _ _).mono ?_
 rintro e w' ⟨rfl, hw⟩
 subst w'
 rw [HY.out]
 go_wp2
 all_goals go_ret
 all_goals refine ⟨ret_int ?_, rfl⟩
 all_goals rw [HR.out]
 all_goals (repeat' split) <;> (try split at *) <;> omega
set_option maxHeartbeats 1000000 in
theorem isum (w : World) (a : Option Addr) (c : Nat) (B : Int) (ls : List Int) (hl : IsL w a ls) (hll : ls.length ≤ 100000) (hB : 0 ≤ B) (hB' : B ≤ 80000000000000) (hm : ∀ x ∈ ls, 0 ≤ x ∧ x ≤ B) :
  Calls Tryz.prog 32 #[.slice a ls.length c] w fun e w' => e = .returned (.int .i64 (sm ls)) ∧ w' = w := by
 go_enter Tryz.func32, Tryz.ntmps32
 go_wp2
 go_loop [3, 8] (fun s i => ∃ k : Nat, k ≤ ls.length ∧ i = .int .i64 k ∧ s = .int .i64 (sm (ls.take k))) (fun _ i => ls.length - (intOf i).toNat)
 case atStart => exact ⟨0, Nat.zero_le _, rfl, rfl⟩
 case round =>
  obtain ⟨k, hk, rfl, rfl⟩ := hrel
  by_cases hlt : k < ls.length
  ·
   rcases hl with rfl | ⟨b, off, rfl, hb, hc⟩
   ·
    simp at hlt
   have hcx := hc k hlt
   clear hc
   have HR : Hid (sm (ls.take (k + 1)) = sm (ls.take k) + ls[k]) := sm_take hlt
   have b1 := sm_bd hB (ls.take k) fun x hx => hm x (List.mem_of_mem_take hx)
   have b2 := hm _ (List.getElem_mem hlt)
   have b3 : B * ((ls.take k).length : Int) ≤ 8000000000000000000 := by
    have h1 : ((ls.take k).length : Int) ≤ 100000 := by simp; omega
    have h2 : B * ((ls.take k).length : Int) ≤ B * 100000 := Int.mul_le_mul_of_nonneg_left h1 hB
    omega
   obtain ⟨s1, e1⟩ : ∃ s1, sm (ls.take k) = s1 := ⟨_, rfl⟩
   obtain ⟨x, hx⟩ : ∃ x, ls[k] = x := ⟨_, rfl⟩
   rw [e1] at b1 HR ⊢
   rw [hx] at b2 hcx HR
   have b4 : 0 ≤ s1 ∧ s1 ≤ 8000000000000000000 := by omega
   clear e1 hx b1 b3 hm
   go_wp2
   go_round
   case rel => exact ⟨k + 1, by omega, by go_num, by rw [HR.out]⟩
   case measure => simp [intOf]; omega
  ·
   obtain rfl : k = ls.length := by omega
   rw [List.take_length]
   clear hm
   go_wp2
   go_ret
   exact ⟨rfl, rfl⟩
set_option maxHeartbeats 2000000 in
theorem ioff (w : World) (a a' : Option Addr) (cap cap' : Nat) (xs ys : List Int) (hx : IsL w a xs) (hy : IsL w a' ys) (hl : xs.length ≤ 1048577) (hl' : ys.length ≤ 1048577) :
  Calls Tryz.prog 15 #[.slice a xs.length cap, .slice a' ys.length cap'] w fun e w' => e = .returned (.tuple #[.int .i64 (off xs ys), .bool (oko xs ys)]) ∧ Below w.heap.size w w' := by
 by_cases hlen : xs.length = ys.length
 rotate_left
 ·
  have hne : ((xs.length : Int) != (ys.length : Int)) = true := by simp; omega
  rw [off_no (oko_no (.inl hlen)), oko_no (.inl hlen)]
  go_enter Tryz.func15, Tryz.ntmps15
  go_wp2
  refine bodyPost_ret (v := .tuple #[.int .i64 0, .bool false]) (by simp [results, Tryz.results15, go_sem]) rfl ?_
  exact ⟨rfl, Below.refl _ _⟩
 have hne : ((xs.length : Int) != (ys.length : Int)) = false := by simp; omega
 by_cases h40 : 40 < xs.length
 ·
  rw [off_no (oko_no (.inr h40)), oko_no (.inr h40)]
  clear hlen
  go_enter Tryz.func15, Tryz.ntmps15
  go_wp2
  refine bodyPost_ret (v := .tuple #[.int .i64 0, .bool false]) (by simp [results, Tryz.results15, go_sem]) rfl ?_
  exact ⟨rfl, Below.refl _ _⟩
 have hd : decide (40 < (xs.length : Int)) = false := by simp; omega
 have h40' : xs.length ≤ 40 := by omega
 have HL : Hid (xs.length = ys.length) := hlen
 have HO : Hid (off xs ys = sm (offs xs ys)) := off_yes (oko_yes hlen h40')
 have HK : Hid (oko xs ys = true) := oko_yes hlen h40'
 have HG : Hid ((offs xs ys).length = xs.length) := offs_len hlen
 have HT : Hid (∀ k (h1 : k < xs.length) (h2 : k < ys.length) (hk : k < (offs xs ys).length), (offs xs ys)[k] = ab xs[k] ys[k]) := fun k h1 h2 hk => offs_get k hk h1 h2
 have HM : Hid (∀ x ∈ offs xs ys, 0 ≤ x ∧ x ≤ 2000000000000) := offs_mem
 rw [HO.out, HK.out]
 clear HO HK
 obtain ⟨zs, hzs⟩ : ∃ zs, offs xs ys = zs := ⟨_, rfl⟩
 rw [hzs] at HG HT HM ⊢
 clear hzs hlen
 obtain ⟨i0, hi, hz0, hz1, hz2⟩ := info_parts info_int
 go_enter Tryz.func15, Tryz.ntmps15
 go_wp2_with (at_make; refine wpList_make_full _ rfl _ _ 37 rfl w.heap.size 3 i0 (.int .i64 0) 1 Tryz.underlying37 hi hz0 hz1 _ _ _ _ xs.length rfl rfl (by omega) (by omega) (by rw [hz2]; omega) (by unfold maxLen; omega) (Nat.le_refl _) ?_; intro w1 hown hgrow)
 have hown' := own_made hown
 have hB1 := below_none hgrow
 clear hown hgrow
 go_loopw [24] (fun i wr => ∃ k : Nat, k ≤ xs.length ∧ i = .int .i64 k ∧ ∃ l : List Int, l.length = xs.length ∧ Like l zs k ∧ Own wr w.heap.size (.slice (some ⟨w.heap.size, 0, none⟩) xs.length xs.length) l ∧ Below w.heap.size w wr) (fun i _ => xs.length - (intOf i).toNat)
 case atStart => exact ⟨0, Nat.zero_le _, rfl, _, by simp, fun j hj => by omega, hown', hB1⟩
 case round =>
  obtain ⟨k, hk, rfl, l, hll, hlike, hown, hB⟩ := hrel
  by_cases hlt : k < xs.length
  ·
   have hlt' : k < ys.length := by have := HL.out; omega
   rcases hx.below hB with h0 | ⟨b, off, rfl, hb, hc⟩
   ·
    rw [h0] at hlt; simp at hlt
   rcases hy.below hB with h0 | ⟨b', off', rfl, hb', hc'⟩
   ·
    rw [h0] at hlt'; simp at hlt'
   have hcx : wr.cell? ⟨b, off + k, none⟩ = some (.int .i64 xs[k]) := hc k hlt
   have hcy : wr.cell? ⟨b', off' + k, none⟩ = some (.int .i64 ys[k]) := hc' k hlt'
   obtain ⟨cv, hcl⟩ : ∃ cv, wr.cell? ⟨w.heap.size, k, none⟩ = some cv := ⟨_, hown.cell hll k (by omega)⟩
   have hcf := hown.frozen hll k
   have HO : Hid (Own wr w.heap.size (.slice (some ⟨w.heap.size, 0, none⟩) xs.length xs.length) l) := hown
   have HN : Hid (l.length = xs.length) := hll
   have hzk : k < zs.length := by rw [HG.out]; exact hlt
   have HK : Hid (Like (l.set k (ab xs[k] ys[k])) zs (k + 1)) := by
    have := like_set hlike hzk (by rw [HG.out]; exact hll)
    rwa [HT.out k hlt hlt' hzk] at this
   clear hown hlike hc hc' hzk hll
   obtain ⟨x, ex⟩ : ∃ x, xs[k] = x := ⟨_, rfl⟩
   obtain ⟨y, ey⟩ : ∃ y, ys[k] = y := ⟨_, rfl⟩
   rw [ex] at hcx HK
   rw [ey] at hcy HK
   clear ex ey
   go_wp2_with (go_at_call 31; refine (iab _ _ _).mono ?_; rintro e w5 ⟨rfl, hw5⟩; subst w5)
   go_roundw
   case rel => exact ⟨k + 1, by omega, by go_num, l.set k (ab x y), by simpa using HN.out, HK.out, HO.out.set HN.out k _, hB.setCell (p := ⟨w.heap.size, k, none⟩) (Nat.le_refl _) _⟩
   case measure => simp [intOf]; omega
  ·
   obtain rfl : k = xs.length := by omega
   obtain rfl := like_all (xs := zs) (by rw [HG.out]; exact hlike) (by rw [HG.out]; exact hll)
   obtain ⟨_, _, ee, iz⟩ := hown.isl
   have he : xs.length = l.length := HG.out.symm
   have iz : IsL wr (some ⟨w.heap.size, 0, none⟩) l := by injection ee with e1 _ _; rw [← e1] at iz; exact iz
   clear ee
   have hs := isum wr (some ⟨w.heap.size, 0, none⟩) xs.length 2000000000000 l iz (by omega) (by omega) (by omega) HM.out
   rw [hll] at hs
   clear hll he hlike
   go_wp2_with (go_at_call 32; refine hs.mono ?_; rintro e w5 ⟨rfl, hw5⟩; subst w5)
   refine bodyPost_ret (v := .tuple #[.int .i64 (sm l), .bool true]) (by simp [results, Tryz.results15, go_sem]) rfl ?_
   exact ⟨rfl, hB⟩
theorem below_drewN {w w1 : World} {B : Nat} (h : Below B w w1) (n : Nat) : Below B w (w1.drewN n) := ⟨h.os, h.tape, h.output, h.size, h.block⟩
theorem clipv (x x1 : Int) (h : Hid (clip x = x1)) (w : World) : Calls Tryz.prog 66 #[.int .i64 x] w fun e w' => e = .returned (.int .i64 x1) ∧ w' = w := by
 have := clip_any x w; rw [h.out] at this; exact this
set_option maxHeartbeats 2000000 in
theorem soff (w : World) (a a' : Option Addr) (cap cap' : Nat) (xs ys : List Int) (hx : IsL w a xs) (hy : IsL w a' ys) (hl : xs.length ≤ 1048577) (hl' : ys.length ≤ 1048577) :
  Calls Tryz.prog 41 #[.slice a xs.length cap, .slice a' ys.length cap'] w fun e w' => e = .returned (.tuple #[.int .i64 (off xs ys), .bool (oko xs ys)]) ∧ Below w.heap.size w w' := by
 by_cases hlen : xs.length = ys.length
 rotate_left
 ·
  have hne : ((xs.length : Int) != (ys.length : Int)) = true := by simp; omega
  rw [off_no (oko_no (.inl hlen)), oko_no (.inl hlen)]
  go_enter Tryz.func41, Tryz.ntmps41
  go_wp2
  refine bodyPost_ret (v := .tuple #[.int .i64 0, .bool false]) (by simp [results, Tryz.results41, go_sem]) rfl ?_
  exact ⟨rfl, Below.refl _ _⟩
 have hne : ((xs.length : Int) != (ys.length : Int)) = false := by simp; omega
 by_cases h40 : 40 < xs.length
 ·
  rw [off_no (oko_no (.inr h40)), oko_no (.inr h40)]
  clear hlen
  go_enter Tryz.func41, Tryz.ntmps41
  go_wp2
  refine bodyPost_ret (v := .tuple #[.int .i64 0, .bool false]) (by simp [results, Tryz.results41, go_sem]) rfl ?_
  exact ⟨rfl, Below.refl _ _⟩
 have hd : decide (40 < (xs.length : Int)) = false := by simp; omega
 have h40' : xs.length ≤ 40 := by omega
 have HL : Hid (xs.length = ys.length) := hlen
 have HO : Hid (off xs ys = sm (offs xs ys)) := off_yes (oko_yes hlen h40')
 have HK : Hid (oko xs ys = true) := oko_yes hlen h40'
 have HG : Hid ((offs xs ys).length = xs.length) := offs_len hlen
 have HT : Hid (∀ k (h1 : k < xs.length) (h2 : k < ys.length) (hk : k < (offs xs ys).length), (offs xs ys)[k] = ab xs[k] ys[k]) := fun k h1 h2 hk => offs_get k hk h1 h2
 have HM : Hid (∀ x ∈ offs xs ys, 0 ≤ x ∧ x ≤ 2000000000000) := offs_mem
 rw [HO.out, HK.out]
 clear HO HK
 obtain ⟨zs, hzs⟩ : ∃ zs, offs xs ys = zs := ⟨_, rfl⟩
 rw [hzs] at HG HT HM ⊢
 clear hzs hlen
 go_enter Tryz.func41, Tryz.ntmps41
 go_wp2
 go_loopw [6, 7] (fun s i wr => ∃ k : Nat, k ≤ xs.length ∧ i = .int .i64 k ∧ s = .int .i64 (sm (zs.take k)) ∧ Below w.heap.size w wr) (fun _ i _ => xs.length - (intOf i).toNat)
 case atStart => exact ⟨0, Nat.zero_le _, rfl, rfl, Below.refl _ _⟩
 case round =>
  obtain ⟨k, hk, rfl, rfl, hB⟩ := hrel
  by_cases hlt : k < xs.length
  ·
   have hlt' : k < ys.length := by have := HL.out; omega
   rcases hx.below hB with h0 | ⟨b, off, rfl, hb, hc⟩
   ·
    rw [h0] at hlt; simp at hlt
   rcases hy.below hB with h0 | ⟨b', off', rfl, hb', hc'⟩
   ·
    rw [h0] at hlt'; simp at hlt'
   have hcx : wr.cell? ⟨b, off + k, none⟩ = some (.int .i64 xs[k]) := hc k hlt
   have hcy : wr.cell? ⟨b', off' + k, none⟩ = some (.int .i64 ys[k]) := hc' k hlt'
   have hzk : k < zs.length := by rw [HG.out]; exact hlt
   have HR : Hid (sm (zs.take (k + 1)) = sm (zs.take k) + ab xs[k] ys[k]) := by have := sm_take hzk; rw [HT.out k hlt hlt' hzk] at this; exact this
   have b1 := sm_bd (B := 2000000000000) (by omega) (zs.take k) fun x hx => HM.out x (List.mem_of_mem_take hx)
   have b3 : ((zs.take k).length : Int) ≤ 40 := by simp; omega
   clear hc hc' hzk
   obtain ⟨x, ex⟩ : ∃ x, xs[k] = x := ⟨_, rfl⟩
   obtain ⟨y, ey⟩ : ∃ y, ys[k] = y := ⟨_, rfl⟩
   rw [ex] at hcx HR
   rw [ey] at hcy HR
   obtain ⟨s1, e1⟩ : ∃ s1, sm (zs.take k) = s1 := ⟨_, rfl⟩
   rw [e1] at b1 HR ⊢
   have b4 : 0 ≤ s1 ∧ s1 ≤ 80000000000000 := by omega
   have ha := clip_bd x
   have hb2 := clip_bd y
   have HGR : Hid (ab x y = if clip x < clip y then clip y - clip x else clip x - clip y) := rfl
   obtain ⟨x1, hx1⟩ : ∃ x1, clip x = x1 := ⟨_, rfl⟩
   obtain ⟨y1, hy1⟩ : ∃ y1, clip y = y1 := ⟨_, rfl⟩
   have HX : Hid (clip x = x1) := hx1
   have HY : Hid (clip y = y1) := hy1
   rw [hx1] at ha HGR
   rw [hy1] at hb2 HGR
   clear ex ey hx1 hy1 e1 b1 b3
   go_wp2
   go_quiet (first
    | (go_at_call_of 66 (Value.int .i64 x); refine Calls.quiet_of_same (clipv _ _ HX _))
    | (go_at_call_of 66 (Value.int .i64 y); refine Calls.quiet_of_same (clipv _ _ HY _)))
   all_goals go_wp2
   all_goals go_roundw
   case rel => exact ⟨k + 1, by omega, by go_num, by rw [HR.out, HGR.out]; congr 1; (repeat' split) <;> (try split at *) <;> omega, below_drewN hB _⟩
   case measure => simp [intOf]; omega
  ·
   obtain rfl : k = xs.length := by omega
   rw [List.take_of_length_le (by rw [HG.out]; omega)]
   go_wp2
   refine bodyPost_ret (v := .tuple #[.int .i64 (sm zs), .bool true]) (by simp [results, Tryz.results41, go_sem]) rfl ?_
   exact ⟨rfl, hB⟩
end Go.Proofs.YtglllflleabmbaaGreat.Of
/-
  What is told stage by stage; Staged of the model.
-/
namespace Go.Proofs.YtglllflleabmbaaGreat.Md
set_option maxRecDepth 100000
open Go.RowKit
open Go.Proofs.YtglllflleabmbaaGreat.Li (ret_bool ret_int btw below_none iv)
open Go.Proofs.YtglllflleabmbaaGreat.Tb (lets Row RowIs)
open Go.Proofs.YtglllflleabmbaaGreat.Tm (IsT szT)
open Go.Proofs.YtglllflleabmbaaGreat.Kt (Kv IsK ksz)
open Go.Proofs.YtglllflleabmbaaGreat.To (OwT)
open Go.Proofs.YtglllflleabmbaaGreat.Sv (new1 new2 Wr wr2)
open Go.Proofs.YtglllflleabmbaaGreat.Sw (sm)
set_option linter.unusedVariables false
structure Rmc (w : World) (ak ax : Option Addr) (ct : Nat) (m : M) : Prop where
 rm : Rm w ak ax m
 cap : m.ts.length ≤ ct
theorem Rmc.below {w w1 : World} {ak ax : Option Addr} {ct : Nat} {m : M} (h : Rmc w ak ax ct m) (hb : Below w.heap.size w w1) : Rmc w1 ak ax ct m := ⟨h.rm.below hb, h.cap⟩
theorem OwM.rmc {w : World} {B : Nat → Prop} {vk vt : Value} {m : M} (h : OwM w B vk vt m) : ∃ ak ck ax ct, vk = .slice ak m.ks.length ck ∧ vt = .slice ax m.ts.length ct ∧ Rmc w ak ax ct m := by
 obtain ⟨ak, ck, ax, ct, e0, e1, rm⟩ := h.rm
 refine ⟨ak, ck, ax, ct, e0, e1, rm, ?_⟩
 obtain ⟨P, _, h1⟩ := h
 obtain ⟨vs, ho, _⟩ := h1
 subst e1
 rcases ho.2 with ⟨e, h0⟩ | ⟨g, cap, cur, e, _, _, hc, _⟩
 ·
  omega
 ·
  injection e with _ _ e; omega
end Go.Proofs.YtglllflleabmbaaGreat.Md
/-
  OffOf of both: how far what a model says of a table is from its labels.
-/
namespace Go.Proofs.YtglllflleabmbaaGreat.Md
set_option maxRecDepth 100000
open Go.RowKit
open Go.Proofs.YtglllflleabmbaaGreat.Li (ret_bool ret_int btw below_none)
open Go.Proofs.YtglllflleabmbaaGreat.Tb (Row RowIs IsR szR OwnT)
open Go.Proofs.YtglllflleabmbaaGreat.Sv (new1 new2 Wr wr2)
set_option linter.unusedVariables false
def ofo (m : M) (n c : Int) (rs : List Row) : Int := if pok m n c rs = true then Of.off (rs.map Row.label) (rs.map (pred m)) else 0
theorem ofo_no {m : M} {n c : Int} {rs : List Row} (h : pok m n c rs = false) : ofo m n c rs = 0 := by unfold ofo; rw [if_neg (by rw [h]; simp)]
theorem ofo_yes {m : M} {n c : Int} {rs : List Row} (h : pok m n c rs = true) : ofo m n c rs = Of.off (rs.map Row.label) (rs.map (pred m)) := by unfold ofo; rw [if_pos h]
theorem ofo_oko {m : M} {n c : Int} {rs : List Row} (h : pok m n c rs = true) : Of.oko (rs.map Row.label) (rs.map (pred m)) = true := by
 simp only [pok, Bool.and_eq_true] at h
 have := (Tk.tok_iff.1 h.2.1).2.1
 exact Of.oko_yes (by simp) (by simpa using this)
set_option maxHeartbeats 8000000 in
theorem iofo (w : World) (ak ax : Option Addr) (ck ct : Nat) (m : M) (h : Rm w ak ax m) (hl : m.sz ≤ 1048576) (n c : Int) (a : Option Addr) (cap : Nat) (rs : List Row) (hx : IsRC w a rs) (hr : rs.length + szR rs ≤ 1048576) :
  Calls Tryz.prog 9 #[.agg #[.int .i64 m.n, .int .i64 m.c, .int .i64 m.prior, .int .i64 m.base, .slice ak m.ks.length ck, .slice ax m.ts.length ct], .agg #[.int .i64 n, .int .i64 c, .slice a rs.length cap]] w fun e w' => e = .returned (.tuple #[.int .i64 (ofo m n c rs), .bool (pok m n c rs)]) ∧ Below w.heap.size w w' := by
 go_enter Tryz.func9, Tryz.ntmps9
 go_wp2_with fail
 obtain ⟨W, hW, hsz, hB, bm, bt⟩ := new2 w [.int .i64 m.n, .int .i64 m.c, .int .i64 m.prior, .int .i64 m.base, .slice ak m.ks.length ck, .slice ax m.ts.length ct] [.int .i64 n, .int .i64 c, .slice a rs.length cap] 29 32
 rw [hW]
 clear hW hsz
 refine (ipall _ _ _ _ _ m (h.below hB) hl n c _ _ rs (hx.below hB) hr).mono ?_
 rintro e w1 ⟨v, rfl, ov, hb⟩
 have bt := bt.below hb
 have hB := hB.trans (hb.mono hB.size)
 clear hb bm
 cases hv : pok m n c rs
 ·
  have HV : Hid (ofo m n c rs = 0) := ofo_no hv
  have HP : Hid (pok m n c rs = false) := hv
  clear ov hv
  go_wp2
  refine bodyPost_ret (v := .tuple #[.int .i64 0, .bool false]) (by simp [results, Tryz.results9, go_sem]) rfl ?_
  exact ⟨by rw [HV.out, HP.out], hB⟩
 ·
  have HP : Hid (pok m n c rs = true) := hv
  have HV : Hid (ofo m n c rs = Of.off (rs.map Row.label) (rs.map (pred m))) := ofo_yes hv
  have HK : Hid (Of.oko (rs.map Row.label) (rs.map (pred m)) = true) := ofo_oko hv
  have hrl : rs.length ≤ 40 := by simp only [pok, Bool.and_eq_true] at hv; exact (Tk.tok_iff.1 hv.2.1).2.1
  rw [pall_yes hv] at ov
  have HLB : Hid (Co.labels n c rs = rs.map Row.label) := by
   simp only [pok, Bool.and_eq_true] at hv
   show _ = _
   unfold Co.labels Co.labs
   rw [if_pos hv.2.1]
  clear hv
  obtain ⟨ps, hps⟩ : ∃ ps, rs.map (pred m) = ps := ⟨_, rfl⟩
  have hpl : ps.length ≤ 40 := by rw [← hps]; simpa using hrl
  rw [hps] at ov HV HK
  obtain ⟨av, cv, ev, iv⟩ := ov.isl
  subst ev
  clear ov hps
  obtain ⟨_, ⟨y0, y1, y2⟩, _⟩ := wr3 bt
  go_wp2_with fail
  refine (Co.ilabels _ n c _ _ rs (hx.isr.below hB) hr).mono ?_
  rintro e w2 ⟨vl, rfl, ol, hb⟩
  have iv := iv.below hb
  have hB := hB.trans (hb.mono hB.size)
  clear hb y0 y1 y2 bt
  obtain ⟨ls, hls⟩ : ∃ ls, rs.map Row.label = ls := ⟨_, rfl⟩
  have hll : ls.length ≤ 40 := by rw [← hls]; simpa using hrl
  rw [HLB.out, hls] at ol
  rw [hls] at HV HK
  obtain ⟨al, cl, el, il⟩ := ol.isl
  subst el
  clear ol hls
  go_wp2_with fail
  refine (Of.ioff _ _ _ _ _ ls ps il iv (by omega) (by omega)).mono ?_
  rintro e w3 ⟨rfl, hb⟩
  have hB := hB.trans (hb.mono hB.size)
  clear hb
  rw [HK.out]
  go_wp2
  refine bodyPost_ret (v := .tuple #[.int .i64 (Of.off ls ps), .bool true]) (by simp [results, Tryz.results9, go_sem]) rfl ?_
  exact ⟨by rw [HV.out, HP.out], hB⟩
set_option maxHeartbeats 8000000 in
theorem sofo (w : World) (ak ax : Option Addr) (ck ct : Nat) (m : M) (h : Rm w ak ax m) (hl : m.sz ≤ 1048576) (n c : Int) (a : Option Addr) (cap : Nat) (rs : List Row) (hx : IsRC w a rs) (hr : rs.length + szR rs ≤ 1048576) :
  Calls Tryz.prog 23 #[.agg #[.int .i64 m.n, .int .i64 m.c, .int .i64 m.prior, .int .i64 m.base, .slice ak m.ks.length ck, .slice ax m.ts.length ct], .agg #[.int .i64 n, .int .i64 c, .slice a rs.length cap]] w fun e w' => e = .returned (.tuple #[.int .i64 (ofo m n c rs), .bool (pok m n c rs)]) ∧ Below w.heap.size w w' := by
 go_enter Tryz.func23, Tryz.ntmps23
 go_wp2_with fail
 obtain ⟨W, hW, hsz, hB, bm, bt⟩ := new2 w [.int .i64 m.n, .int .i64 m.c, .int .i64 m.prior, .int .i64 m.base, .slice ak m.ks.length ck, .slice ax m.ts.length ct] [.int .i64 n, .int .i64 c, .slice a rs.length cap] 29 32
 rw [hW]
 clear hW hsz
 refine (spall _ _ _ _ _ m (h.below hB) hl n c _ _ rs (hx.below hB).isr hr).mono ?_
 rintro e w1 ⟨v, rfl, ov, hb⟩
 have bt := bt.below hb
 have hB := hB.trans (hb.mono hB.size)
 clear hb bm
 cases hv : pok m n c rs
 ·
  have HV : Hid (ofo m n c rs = 0) := ofo_no hv
  have HP : Hid (pok m n c rs = false) := hv
  clear ov hv
  go_wp2
  refine bodyPost_ret (v := .tuple #[.int .i64 0, .bool false]) (by simp [results, Tryz.results23, go_sem]) rfl ?_
  exact ⟨by rw [HV.out, HP.out], hB⟩
 ·
  have HP : Hid (pok m n c rs = true) := hv
  have HV : Hid (ofo m n c rs = Of.off (rs.map Row.label) (rs.map (pred m))) := ofo_yes hv
  have HK : Hid (Of.oko (rs.map Row.label) (rs.map (pred m)) = true) := ofo_oko hv
  have hrl : rs.length ≤ 40 := by simp only [pok, Bool.and_eq_true] at hv; exact (Tk.tok_iff.1 hv.2.1).2.1
  rw [pall_yes hv] at ov
  have HLB : Hid (Co.labels n c rs = rs.map Row.label) := by
   simp only [pok, Bool.and_eq_true] at hv
   show _ = _
   unfold Co.labels Co.labs
   rw [if_pos hv.2.1]
  clear hv
  obtain ⟨ps, hps⟩ : ∃ ps, rs.map (pred m) = ps := ⟨_, rfl⟩
  have hpl : ps.length ≤ 40 := by rw [← hps]; simpa using hrl
  rw [hps] at ov HV HK
  obtain ⟨av, cv, ev, iv⟩ := ov.isl
  subst ev
  clear ov hps
  obtain ⟨_, ⟨y0, y1, y2⟩, _⟩ := wr3 bt
  go_wp2_with fail
  refine (Co.slabels _ n c _ _ rs (hx.isr.below hB) hr).mono ?_
  rintro e w2 ⟨vl, rfl, ol, hb⟩
  have iv := iv.below hb
  have hB := hB.trans (hb.mono hB.size)
  clear hb y0 y1 y2 bt
  obtain ⟨ls, hls⟩ : ∃ ls, rs.map Row.label = ls := ⟨_, rfl⟩
  have hll : ls.length ≤ 40 := by rw [← hls]; simpa using hrl
  rw [HLB.out, hls] at ol
  rw [hls] at HV HK
  obtain ⟨al, cl, el, il⟩ := ol.isl
  subst el
  clear ol hls
  go_wp2_with fail
  refine (Of.soff _ _ _ _ _ ls ps il iv (by omega) (by omega)).mono ?_
  rintro e w3 ⟨rfl, hb⟩
  have hB := hB.trans (hb.mono hB.size)
  clear hb
  rw [HK.out]
  go_wp2
  refine bodyPost_ret (v := .tuple #[.int .i64 (Of.off ls ps), .bool true]) (by simp [results, Tryz.results23, go_sem]) rfl ?_
  exact ⟨by rw [HV.out, HP.out], hB⟩
end Go.Proofs.YtglllflleabmbaaGreat.Md
/-
  Two lists of the call's own and a variable, made in any order; one more pair of lists put behind a list of pairs.
-/
namespace Go.Proofs.YtglllflleabmbaaGreat.Ct
set_option maxRecDepth 20000
open Go.RowKit
open Go.Proofs.YtglllflleabmbaaGreat.Tb (ownsRow_at)
open Go.Proofs.YtglllflleabmbaaGreat.Sv (Fr fr_below fr_grown Wr)
open Go.Proofs.YtglllflleabmbaaGreat.Kt (Kv OwK)
open Go.Proofs.YtglllflleabmbaaGreat.To (OwT)
set_option linter.unusedVariables false
structure Rw where
 T : TypeId
 sz : Nat
 n : Nat
 xs : List Value
def Ow (w : World) (base : Nat) (v : Value) (r : Rw) : Prop := w.ownsRow base r.T r.sz v r.n r.xs
theorem Ow.lt {w : World} {base : Nat} {v : Value} {r : Rw} (h : Ow w base v r) : ∀ k, v.ownBlock = some k → base ≤ k ∧ k < w.heap.size := World.ownsRow.lt h
theorem Ow.below {w w1 : World} {base : Nat} {v : Value} {r : Rw} (h : Ow w base v r) (hb : Below w.heap.size w w1) : Ow w1 base v r := ownsRow_at h (fun k e => hb.block k (h.lt k e).2)
theorem Ow.mono {w : World} {base b1 : Nat} {v : Value} {r : Rw} (h : Ow w base v r) (hb : b1 ≤ base) : Ow w b1 v r := by
 refine ⟨h.1, ?_⟩
 rcases h.2 with e | ⟨g, cap, cur, e, hg, rest⟩
 ·
  exact .inl e
 ·
  exact .inr ⟨g, cap, cur, e, Nat.le_trans hb hg, rest⟩
def pair0 : List Value := [.slice none 0 0, .slice none 0 0]
structure Tp (W wx : World) (M C : Option (Value × Rw)) (A : Option Nat) : Prop where
 bel : Below W.heap.size W wx
 oM : ∀ v r, M = some (v, r) → Ow wx W.heap.size v r
 oC : ∀ v r, C = some (v, r) → Ow wx W.heap.size v r
 oA : ∀ g, A = some g → Wr wx g 0 pair0 ∧ W.heap.size ≤ g
 mc : ∀ v r u s, M = some (v, r) → C = some (u, s) → ∀ y, v.ownBlock = some y → u.ownBlock ≠ some y
 ma : ∀ v r g, M = some (v, r) → A = some g → v.ownBlock ≠ some g
 ca : ∀ u s g, C = some (u, s) → A = some g → u.ownBlock ≠ some g
section
variable {W wx w1 : World} {M C : Option (Value × Rw)} {A : Option Nat}
theorem Tp.init (W : World) : Tp W W.drew none none none :=
 ⟨(Below.refl _ _).drew, fun v r e => (by cases e), fun v r e => (by cases e), fun g e => (by cases e), fun v r u s e => (by cases e), fun v r g e => (by cases e), fun u s g e => (by cases e)⟩
theorem Tp.below (h : Tp W wx M C A) (hb : Below wx.heap.size wx w1) : Tp W w1 M C A :=
 ⟨h.bel.trans (hb.mono h.bel.size), fun v r e => (h.oM v r e).below hb, fun v r e => (h.oC v r e).below hb, fun g e => ⟨(h.oA g e).1.below hb, (h.oA g e).2⟩, h.mc, h.ma, h.ca⟩
theorem Tp.addM (h : Tp W wx none C A) (hb : Below wx.heap.size wx w1) {v : Value} {r : Rw} (ho : Ow w1 wx.heap.size v r) : Tp W w1 (some (v, r)) C A := by
 have h' := h.below hb
 refine ⟨h'.bel, fun v' r' e => ?_, h'.oC, h'.oA, fun v' r' u s e e' y k1 k2 => ?_, fun v' r' g e e' k1 => ?_, h'.ca⟩
 ·
  cases e; exact ho.mono h.bel.size
 ·
  cases e; have := (ho.lt y k1).1; have := ((h.oC u s e').lt y k2).2; omega
 ·
  cases e; have := (ho.lt g k1).1; have := (h.oA g e').1.1; omega
theorem Tp.addC (h : Tp W wx M none A) (hb : Below wx.heap.size wx w1) {v : Value} {r : Rw} (ho : Ow w1 wx.heap.size v r) : Tp W w1 M (some (v, r)) A := by
 have h' := h.below hb
 refine ⟨h'.bel, h'.oM, fun v' r' e => ?_, h'.oA, fun v' r' u s e e' y k1 k2 => ?_, h'.ma, fun v' r' g e e' k1 => ?_⟩
 ·
  cases e; exact ho.mono h.bel.size
 ·
  cases e'; have := (ho.lt y k2).1; have := ((h.oM v' r' e).lt y k1).2; omega
 ·
  cases e; have := (ho.lt g k1).1; have := (h.oA g e').1.1; omega
theorem Tp.newA (h : Tp W wx M C none) (T : TypeId) : ∃ wy g, wx.alloc (.cells #[.slice none 0 0, .slice none 0 0] T) = wy ∧ wx.heap.size = g ∧ Tp W wy M C (some g) := by
 have hb : Below wx.heap.size wx (wx.alloc (.cells #[.slice none 0 0, .slice none 0 0] T)) := (Below.refl _ _).alloc (Nat.le_refl _) _
 have h' := h.below hb
 refine ⟨_, _, rfl, rfl, ⟨h'.bel, h'.oM, h'.oC, fun g e => ?_, h'.mc, fun v r g e e' k1 => ?_, fun v r g e e' k1 => ?_⟩⟩
 ·
  cases e; exact ⟨Sv.wr_new wx pair0 T, h.bel.size⟩
 ·
  cases e'; have := ((h.oM v r e).lt _ k1).2; omega
 ·
  cases e'; have := ((h.oC v r e).lt _ k1).2; omega
theorem ow_new (wx : World) (T : TypeId) (sz : Nat) : Ow (wx.alloc (.cells #[] T)) wx.heap.size (.slice (some ⟨wx.heap.size, 0, none⟩) 0 0) ⟨T, sz, 0, []⟩ :=
 World.ownsRow_made wx #[] 0 (Nat.le_refl _) (by unfold maxLen; omega) (by simp)
theorem Tp.newM (h : Tp W wx none C A) (T : TypeId) (sz : Nat) : ∃ wy g, wx.alloc (.cells #[] T) = wy ∧ wx.heap.size = g ∧ Tp W wy (some (.slice (some ⟨g, 0, none⟩) 0 0, ⟨T, sz, 0, []⟩)) C A :=
 ⟨_, _, rfl, rfl, h.addM ((Below.refl _ _).alloc (Nat.le_refl _) _) (ow_new wx T sz)⟩
theorem Tp.newC (h : Tp W wx M none A) (T : TypeId) (sz : Nat) : ∃ wy g, wx.alloc (.cells #[] T) = wy ∧ wx.heap.size = g ∧ Tp W wy M (some (.slice (some ⟨g, 0, none⟩) 0 0, ⟨T, sz, 0, []⟩)) A :=
 ⟨_, _, rfl, rfl, h.addC ((Below.refl _ _).alloc (Nat.le_refl _) _) (ow_new wx T sz)⟩
theorem oblock (g n c : Nat) : (Value.slice (some ⟨g, 0, none⟩) n c).ownBlock = some g := rfl
theorem bel_grown {w wx w1 : World} {n g : Nat} (h : Below n w wx) (hs : n ≤ wx.heap.size) (hg : wx.grownBy w1 (some g)) (hn : n ≤ g) : Below n w w1 := h.grown hg hs (fun k e => by cases e; exact hn)
theorem Tp.fillM {g k n m c cap : Nat} {r r' : Rw} (h : Tp W wx (some (.slice (some ⟨g, 0, none⟩) n c, r)) C A) (ho : Ow w1 W.heap.size (.slice (some ⟨k, 0, none⟩) m cap) r') (hg : wx.grownBy w1 (some g)) (hk : k = g ∨ k = wx.heap.size) : Tp W w1 (some (.slice (some ⟨k, 0, none⟩) m cap, r')) C A := by
 have hgm := (h.oM _ _ rfl).lt g rfl
 refine ⟨bel_grown h.bel h.bel.size hg hgm.1, fun v r e => ?_, fun v s e => ?_, fun a e => ?_, fun v s u t e e' y k1 k2 => ?_, fun v s a e e' k1 => ?_, h.ca⟩
 ·
  cases e; exact ho
 ·
  have hc := h.oC v s e
  exact ownsRow_at hc (fun y ey => hg.block y (hc.lt y ey).2 (fun e2 => by cases e2; exact h.mc _ _ _ _ rfl e _ (oblock _ _ _) ey))
 ·
  obtain ⟨a1, a2⟩ := h.oA a e
  exact ⟨a1.keptAt hg.size (hg.block a a1.1 (fun e2 => by cases e2; exact h.ma _ _ _ rfl e (oblock _ _ _))), a2⟩
 ·
  cases e
  have ek : y = k := by simpa [Value.ownBlock] using k1.symm
  have hc := (h.oC u t e').lt y k2
  rcases hk with rfl | rfl
  ·
   exact h.mc _ _ _ _ rfl e' y (by rw [ek]; rfl) k2
  ·
   omega
 ·
  cases e
  have ek : a = k := by simpa [Value.ownBlock] using k1.symm
  have ha := (h.oA a e').1.1
  rcases hk with rfl | rfl
  ·
   exact h.ma _ _ _ rfl e' (by rw [ek]; rfl)
  ·
   omega
theorem Tp.fillC {g k n m c cap : Nat} {r r' : Rw} (h : Tp W wx M (some (.slice (some ⟨g, 0, none⟩) n c, r)) A) (ho : Ow w1 W.heap.size (.slice (some ⟨k, 0, none⟩) m cap) r') (hg : wx.grownBy w1 (some g)) (hk : k = g ∨ k = wx.heap.size) : Tp W w1 M (some (.slice (some ⟨k, 0, none⟩) m cap, r')) A := by
 have hgm := (h.oC _ _ rfl).lt g rfl
 refine ⟨bel_grown h.bel h.bel.size hg hgm.1, fun v s e => ?_, fun v r e => ?_, fun a e => ?_, fun v s u t e e' y k1 k2 => ?_, h.ma, fun v s a e e' k1 => ?_⟩
 ·
  have hc := h.oM v s e
  exact ownsRow_at hc (fun y ey => hg.block y (hc.lt y ey).2 (fun e2 => by cases e2; exact h.mc _ _ _ _ e rfl _ ey (oblock _ _ _)))
 ·
  cases e; exact ho
 ·
  obtain ⟨a1, a2⟩ := h.oA a e
  exact ⟨a1.keptAt hg.size (hg.block a a1.1 (fun e2 => by cases e2; exact h.ca _ _ _ rfl e (oblock _ _ _))), a2⟩
 ·
  cases e'
  have ek : y = k := by simpa [Value.ownBlock] using k2.symm
  have hc := (h.oM v s e).lt y k1
  rcases hk with rfl | rfl
  ·
   exact h.mc _ _ _ _ e rfl y k1 (by rw [ek]; rfl)
  ·
   omega
 ·
  cases e
  have ek : a = k := by simpa [Value.ownBlock] using k1.symm
  have ha := (h.oA a e').1.1
  rcases hk with rfl | rfl
  ·
   exact h.ca _ _ _ rfl e' (by rw [ek]; rfl)
  ·
   omega
end
end Go.Proofs.YtglllflleabmbaaGreat.Ct
/-
  Copies of lists: slices.Clone at every list; append onto a list that has just been made empty.
-/
namespace Go.Proofs.YtglllflleabmbaaGreat.Ct
set_option maxRecDepth 20000
open Go.RowKit
open Go.Proofs.YtglllflleabmbaaGreat.Tm (IsP OwnP pv pv_length)
open Go.Proofs.YtglllflleabmbaaGreat.Li (IsL iv)
set_option linter.unusedVariables false
def ri (xs : List Int) : Rw := ⟨3, 1, xs.length, iv xs⟩
def rs (xs : List ByteArray) : Rw := ⟨9, 1, xs.length, Ls.sv xs⟩
def rp (xs : List (Int × Int)) : Rw := ⟨83, 2, xs.length, pv xs⟩
theorem eql_nil0 {P : Program} (w : World) (t e : TypeId) (l c : Nat) (h : P.underlying t = some (.slice e)) : (binOp .eql t (.slice none l c) (.slice none 0 0)).run P w = .ok (.bool true) w := by
 simp only [binOp]
 simp [run_equal_slice_nil w t e none l c h]
set_option maxHeartbeats 1000000 in
theorem cloneI (w : World) (a : Option Addr) (c : Nat) (xs : List Int) (hx : IsL w a xs) (hl : xs.length ≤ 1048576) :
  Calls Tryz.prog 50 #[.slice a xs.length c] w fun e w' => ∃ b d, e = .returned (.slice b xs.length d) ∧ Ow w' w.heap.size (.slice b xs.length d) (ri xs) ∧ Below w.heap.size w w' := by
 obtain ⟨i0, hi, hz0, hz1, hz2⟩ := info_parts Li.info_int
 cases a with
 | none =>
  have h0 : xs = [] := by
   rcases hx with h | ⟨b, off, e, _⟩
   ·
    exact h
   ·
    cases e
  subst h0
  have hnil : ∀ w0 : World, Sem.run Tryz.prog (binOp .eql 37 (.slice none 0 c) (.slice none 0 0)) w0 = .ok (.bool true) w0 := fun w0 => eql_nil0 w0 _ _ _ _ Tryz.underlying37
  go_enter Tryz.func50, Tryz.ntmps50
  go_wp2
  go_ret
  exact ⟨none, 0, rfl, World.ownsRow_nil _ _ _ _, Below.refl _ _⟩
 | some x =>
  have hnil : ∀ w0 : World, Sem.run Tryz.prog (binOp .eql 37 (.slice (some x) xs.length c) (.slice none 0 0)) w0 = .ok (.bool false) w0 := fun w0 => Fw.eql_nil w0 _ _ _ _ _ Tryz.underlying37
  have hB0 : Below w.heap.size w (w.alloc (.cells #[] 3)) := (Below.refl _ _).alloc (Nat.le_refl _) _
  by_cases h0 : xs.length = 0
  ·
   obtain rfl : xs = [] := List.length_eq_zero_iff.1 h0
   clear h0 hnil
   have hnil : ∀ w0 : World, Sem.run Tryz.prog (binOp .eql 37 (.slice (some x) 0 c) (.slice none 0 0)) w0 = .ok (.bool false) w0 := fun w0 => Fw.eql_nil w0 _ _ _ _ _ Tryz.underlying37
   have ho := ow_new w 3 1
   go_enter Tryz.func50, Tryz.ntmps50
   go_wp2
   go_ret
   exact ⟨_, _, rfl, ho, hB0⟩
  ·
   have h0 : 0 < xs.length := by omega
   go_enter Tryz.func50, Tryz.ntmps50
   go_wp2_with (at_builtin; refine wpList_append_lies _ rfl _ _ 37 rfl w.heap.size 3 i0 (.int .i64 0) 1 8 Tryz.underlying37 hi hz0 hz1 hz2 rfl (by decide) (.slice (some ⟨w.heap.size, 0, none⟩) 0 0) 0 [] rfl (Ai.own_empty w _ (Nat.le_refl _)) x xs.length c (iv xs) rfl (by rw [Li.iv_length]; omega) (Ai.news_i (hx.below hB0)) (Li.iv_one _) h0 (by unfold maxLen; omega) (by omega) (by simp) _ rfl ?_)
   intro g cap w1 hown hgrow _ _
   have ho : Ow w1 w.heap.size (.slice (some ⟨g, 0, none⟩) xs.length cap) (ri xs) := by
    first | exact hown | (rw [Nat.zero_add, List.nil_append] at hown; exact hown)
   have hB1 : Below w.heap.size w w1 := Ai.below_app hB0 (by simp) hgrow (fun k hk => by simp [Value.ownBlock] at hk; omega)
   clear hown hgrow
   go_wp2
   go_ret
   exact ⟨some ⟨g, 0, none⟩, cap, by simp, ho, hB1⟩
set_option maxHeartbeats 1000000 in
theorem cloneP (w : World) (a : Option Addr) (c : Nat) (ps : List (Int × Int)) (hx : IsP w a ps) (hl : ps.length ≤ 1048576) :
  Calls Tryz.prog 52 #[.slice a ps.length c] w fun e w' => ∃ b d, e = .returned (.slice b ps.length d) ∧ Ow w' w.heap.size (.slice b ps.length d) (rp ps) ∧ Below w.heap.size w w' := by
 cases a with
 | none =>
  have h0 : ps = [] := by
   rcases hx with h | ⟨b, off, e, _⟩
   ·
    exact h
   ·
    cases e
  subst h0
  have hnil : ∀ w0 : World, Sem.run Tryz.prog (binOp .eql 58 (.slice none 0 c) (.slice none 0 0)) w0 = .ok (.bool true) w0 := fun w0 => eql_nil0 w0 _ _ _ _ Tryz.underlying58
  go_enter Tryz.func52, Tryz.ntmps52
  go_wp2
  go_ret
  exact ⟨none, 0, rfl, World.ownsRow_nil _ _ _ _, Below.refl _ _⟩
 | some x =>
  by_cases h0 : ps.length = 0
  ·
   obtain rfl : ps = [] := List.length_eq_zero_iff.1 h0
   clear h0
   have hnil : ∀ w0 : World, Sem.run Tryz.prog (binOp .eql 58 (.slice (some x) 0 c) (.slice none 0 0)) w0 = .ok (.bool false) w0 := fun w0 => Fw.eql_nil w0 _ _ _ _ _ Tryz.underlying58
   have ho := ow_new w 83 2
   have hB0 : Below w.heap.size w (w.alloc (.cells #[] 83)) := (Below.refl _ _).alloc (Nat.le_refl _) _
   go_enter Tryz.func52, Tryz.ntmps52
   go_wp2
   go_ret
   exact ⟨_, _, rfl, ho, hB0⟩
  ·
   refine (Fw.iclone w (some x) c ps hx (by omega) hl).mono ?_
   rintro e w' ⟨g, cap, rfl, ho, hB⟩
   exact ⟨some ⟨g, 0, none⟩, cap, rfl, ho, hB⟩
def Src (w : World) (ad : Option Addr) (n sz : Nat) (xs : List Value) : Prop := xs.length = n * sz ∧ (∀ u ∈ xs, u.oneCell' = true) ∧ (ad = none → n = 0) ∧ ∀ x, ad = some x → ∀ j u, xs[j]? = some u → w.cell? (x.add j) = some u
theorem src_s {w : World} {ad : Option Addr} {xs : List ByteArray} (h : Ls.IsS w ad xs) : Src w ad xs.length 1 (Ls.sv xs) := by
 refine ⟨by rw [Ls.sv_length]; omega, Ls.sv_one _, fun e => ?_, fun x e => ?_⟩
 ·
  subst e
  rcases h with h | ⟨b, off, e, _⟩
  ·
   rw [h]; rfl
  ·
   cases e
 ·
  subst e; exact Ap.news_s h
theorem src_i {w : World} {ad : Option Addr} {xs : List Int} (h : IsL w ad xs) : Src w ad xs.length 1 (iv xs) := by
 refine ⟨by rw [Li.iv_length]; omega, Li.iv_one _, fun e => ?_, fun x e => ?_⟩
 ·
  subst e
  rcases h with h | ⟨b, off, e, _⟩
  ·
   rw [h]; rfl
  ·
   cases e
 ·
  subst e; exact Ai.news_i h
theorem src_p {w : World} {ad : Option Addr} {xs : List (Int × Int)} (h : IsP w ad xs) : Src w ad xs.length 2 (pv xs) := by
 refine ⟨pv_length _, Fw.pv_one _, fun e => ?_, fun x e => ?_⟩
 ·
  subst e
  rcases h with h | ⟨b, off, e, _⟩
  ·
   rw [h]; rfl
  ·
   cases e
 ·
  subst e
  rcases h with h | ⟨b, off, e, _, hc⟩
  ·
   subst h; intro j u hj; simp [pv] at hj
  ·
   cases e; exact Fw.news_p hc
theorem run_app0 (w : World) (t ty e : TypeId) (i : TypeInfo) (z : Value) (sz bytes : Nat) (ht : Tryz.prog.underlying t = some (.slice e)) (hi : Tryz.prog.info? e = some i) (hz : i.zero = some z) (hsize : i.size = sz) (hby : i.bytes = bytes) (hzs : z.cells.size = sz) (hsz : 0 < sz) (hb1 : bytes ≤ 1000)
  (base g : Nat) (ad : Option Addr) (n c : Nat) (xs : List Value) (hown : Ow w base (.slice (some ⟨g, 0, none⟩) 0 0) ⟨e, sz, 0, []⟩) (hx : Src w ad n sz xs) (hl : n ≤ 1048576) (hbase : base ≤ w.heap.size) :
  ∃ k cap w', (Builtin.append_ #[t, t] ty #[.slice (some ⟨g, 0, none⟩) 0 0, .slice ad n c]).run Tryz.prog w = .ok (.slice (some ⟨k, 0, none⟩) n cap) w' ∧ Ow w' base (.slice (some ⟨k, 0, none⟩) n cap) ⟨e, sz, n, xs⟩ ∧ w.grownBy w' (some g) ∧ (k = g ∨ k = w.heap.size) := by
 obtain ⟨x1, x2, x3, x4⟩ := hx
 cases ad with
 | none =>
  obtain rfl := x3 rfl
  have h0 : xs = [] := List.length_eq_zero_iff.1 (by omega)
  subst h0
  refine ⟨g, 0, w, ?_, hown, World.grownBy.refl _ _, .inl rfl⟩
  refine run_append_nothing w _ _ _ _ i ht hi _ 0 0 (Nat.le_refl _) _ ⟨.inl ⟨_, ht⟩, fun w' => ?_, ?_, ?_, by simp, fun u hu => by simp at hu⟩
  ·
   simp [Builtin.lenOf]
  ·
   simp [Builtin.firstCells]
  ·
   simp [Builtin.firstCells]
 | some x =>
  have hbn : (0 + n) * bytes ≤ 140737488355328 := by
   have : (0 + n) * bytes ≤ 1048576 * 1000 := Nat.mul_le_mul (by omega) hb1
   omega
  obtain ⟨v', w', hr, h2, h3, hnil, h5⟩ := run_append_own_at (P := Tryz.prog) w base t ty e i z sz bytes ht hi hz hsize hby hzs hsz (.slice (some ⟨g, 0, none⟩) 0 0) 0 [] hown x n c xs x1 (x4 x rfl) x2 (by unfold maxLen; omega) hbn hbase
  rw [Nat.zero_add, List.nil_append] at h2
  have hne : ¬ v' = .slice none 0 0 := fun e => by have := (hnil.1 e).1; simp at this
  have hbk : v'.ownBlock = some g ∨ v'.ownBlock = some w.heap.size := h5
  rcases h2.2 with ⟨e, _⟩ | ⟨k, cap, cur, e, hb, hh, r⟩
  ·
   exact absurd e hne
  ·
   subst e
   refine ⟨k, cap, w', hr, h2, h3, ?_⟩
   simpa [Value.ownBlock] using hbk
theorem wp_app0 {o : Oper} {a : Act} {w : World} {K : Act → World → Prop} {Q : Exit → Act → World → Prop} (s x : Operand) (t : TypeId) (ho : o.op = .call { callee := .builtin .append, args := #[s, x], argTypes := #[t, t] }) (e : TypeId) (i : TypeInfo) (z : Value) (sz bytes : Nat) (ht : Tryz.prog.underlying t = some (.slice e)) (hi : Tryz.prog.info? e = some i) (hz : i.zero = some z) (hsize : i.size = sz) (hby : i.bytes = bytes) (hzs : z.cells.size = sz) (hsz : 0 < sz) (hb1 : bytes ≤ 1000)
  (dt : Option Tmp) (hd : o.dst = dt) (base g : Nat) (ad : Option Addr) (n c : Nat) (xs : List Value) (hs : a.eval s = .slice (some ⟨g, 0, none⟩) 0 0) (hx : a.eval x = .slice ad n c) (hown : Ow w base (.slice (some ⟨g, 0, none⟩) 0 0) ⟨e, sz, 0, []⟩) (hsr : Src w ad n sz xs) (hl : n ≤ 1048576) (hbase : base ≤ w.heap.size)
  (h : ∀ k cap w', Ow w' base (.slice (some ⟨k, 0, none⟩) n cap) ⟨e, sz, n, xs⟩ → w.grownBy w' (some g) → (k = g ∨ k = w.heap.size) → K (a.put dt (.slice (some ⟨k, 0, none⟩) n cap)) w') : o.wp Tryz.prog a w K Q := by
 subst hd
 obtain ⟨k, cap, w', hr, h2, h3, h4⟩ := run_app0 w t o.type e i z sz bytes ht hi hz hsize hby hzs hsz hb1 base g ad n c xs hown hsr hl hbase
 unfold Oper.wp execOp
 simp only [ho, resolve, invoke, builtin, Sem.run_bind, Sem.run_pure, Result.andThen_ok, List.map_toArray, List.map_cons, List.map_nil, hs, hx, hr]
 exact h k cap w' h2 h3 h4
theorem wp_appS0 {o : Oper} {a : Act} {w : World} {K : Act → World → Prop} {Q : Exit → Act → World → Prop} (s x : Operand) (ho : o.op = .call { callee := .builtin .append, args := #[s, x], argTypes := #[48, 48] }) (dt : Option Tmp) (hd : o.dst = dt) (base g : Nat) (ad : Option Addr) (n c : Nat) (xs : List ByteArray) (hn : xs.length = n) (hs : a.eval s = .slice (some ⟨g, 0, none⟩) 0 0) (hx : a.eval x = .slice ad n c)
  (hown : Ow w base (.slice (some ⟨g, 0, none⟩) 0 0) ⟨9, 1, 0, []⟩) (hi : Ls.IsS w ad xs) (hl : n ≤ 1048576) (hbase : base ≤ w.heap.size)
  (h : ∀ k cap w', Ow w' base (.slice (some ⟨k, 0, none⟩) n cap) (rs xs) → w.grownBy w' (some g) → (k = g ∨ k = w.heap.size) → K (a.put dt (.slice (some ⟨k, 0, none⟩) n cap)) w') : o.wp Tryz.prog a w K Q := by
 subst hn
 obtain ⟨i0, hii, hz0, hz1, hz2⟩ := info_parts Ls.info_str
 exact wp_app0 s x _ ho 9 i0 (.string ⟨#[]⟩) 1 16 Tryz.underlying48 hii hz0 hz1 hz2 rfl (by decide) (by decide) dt hd base g ad _ c _ hs hx hown (src_s hi) hl hbase h
theorem wp_appI0 {o : Oper} {a : Act} {w : World} {K : Act → World → Prop} {Q : Exit → Act → World → Prop} (s x : Operand) (ho : o.op = .call { callee := .builtin .append, args := #[s, x], argTypes := #[37, 37] }) (dt : Option Tmp) (hd : o.dst = dt) (base g : Nat) (ad : Option Addr) (n c : Nat) (xs : List Int) (hn : xs.length = n) (hs : a.eval s = .slice (some ⟨g, 0, none⟩) 0 0) (hx : a.eval x = .slice ad n c)
  (hown : Ow w base (.slice (some ⟨g, 0, none⟩) 0 0) ⟨3, 1, 0, []⟩) (hi : IsL w ad xs) (hl : n ≤ 1048576) (hbase : base ≤ w.heap.size)
  (h : ∀ k cap w', Ow w' base (.slice (some ⟨k, 0, none⟩) n cap) (ri xs) → w.grownBy w' (some g) → (k = g ∨ k = w.heap.size) → K (a.put dt (.slice (some ⟨k, 0, none⟩) n cap)) w') : o.wp Tryz.prog a w K Q := by
 subst hn
 obtain ⟨i0, hii, hz0, hz1, hz2⟩ := info_parts Li.info_int
 exact wp_app0 s x _ ho 3 i0 (.int .i64 0) 1 8 Tryz.underlying37 hii hz0 hz1 hz2 rfl (by decide) (by decide) dt hd base g ad _ c _ hs hx hown (src_i hi) hl hbase h
theorem wp_appP0 {o : Oper} {a : Act} {w : World} {K : Act → World → Prop} {Q : Exit → Act → World → Prop} (s x : Operand) (ho : o.op = .call { callee := .builtin .append, args := #[s, x], argTypes := #[58, 58] }) (dt : Option Tmp) (hd : o.dst = dt) (base g : Nat) (ad : Option Addr) (n c : Nat) (xs : List (Int × Int)) (hn : xs.length = n) (hs : a.eval s = .slice (some ⟨g, 0, none⟩) 0 0) (hx : a.eval x = .slice ad n c)
  (hown : Ow w base (.slice (some ⟨g, 0, none⟩) 0 0) ⟨83, 2, 0, []⟩) (hi : IsP w ad xs) (hl : n ≤ 1048576) (hbase : base ≤ w.heap.size)
  (h : ∀ k cap w', Ow w' base (.slice (some ⟨k, 0, none⟩) n cap) (rp xs) → w.grownBy w' (some g) → (k = g ∨ k = w.heap.size) → K (a.put dt (.slice (some ⟨k, 0, none⟩) n cap)) w') : o.wp Tryz.prog a w K Q := by
 subst hn
 obtain ⟨i0, hii, hz0, hz1, hz2⟩ := info_parts Tm.info_spl
 exact wp_app0 s x _ ho 83 i0 (.agg #[.int .i64 0, .int .i64 0]) 2 16 Tryz.underlying58 hii hz0 hz1 hz2 rfl (by decide) (by decide) dt hd base g ad _ c _ hs hx hown (src_p hi) hl hbase h
theorem wp_makeS {o : Oper} {a : Act} {w : World} {K : Act → World → Prop} {Q : Exit → Act → World → Prop} (l c : Operand) (hop : o.op = Op.makeSlice 48 l c) (dt : Option Tmp) (hd : o.dst = dt) (n : Nat) (hl : a.eval l = .int .i64 (n : Int)) (hc : a.eval c = .int .i64 (n : Int)) (hn : n ≤ 1048576)
  (h : ∀ g w', w.heap.size ≤ g → Ow w' w.heap.size (.slice (some ⟨g, 0, none⟩) n n) (rs (List.replicate n ⟨#[]⟩)) → Below w.heap.size w w' → K (a.put dt (.slice (some ⟨g, 0, none⟩) n n)) w') : o.wp Tryz.prog a w K Q := by
 subst hd
 obtain ⟨i0, hi, hz0, hz1, hz2⟩ := info_parts Ls.info_str
 obtain ⟨w', hrun, r1, r2⟩ := run_make_full (P := Tryz.prog) w w.heap.size 48 9 i0 (.string ⟨#[]⟩) 1 Tryz.underlying48 hi hz0 hz1 .i64 .i64 n (by rw [hz2]; omega) (by unfold maxLen; omega) (Nat.le_refl _)
 unfold Oper.wp
 simp [execOp, hop, hl, hc, hrun, Result.andThen]
 exact h _ _ (Nat.le_refl _) (Ls.own_made r1) (Li.below_none r2)
end Go.Proofs.YtglllflleabmbaaGreat.Ct
