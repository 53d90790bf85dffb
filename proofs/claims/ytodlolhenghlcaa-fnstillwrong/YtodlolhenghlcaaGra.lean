/-
  What is still wrong: GradsOf of the program and of the model.
-/
import Derived.Test.YtodlolhenghlcaaAdd
import Derived.Test.YtodlolhenghlcaaApI
import Derived.Deep.RegionWith
import Derived.Deep.RegionLaw
import Derived.Deep.AppendLies
namespace Go.Proofs.Ytodlolhenghlcaa.Gd
open Go.RowKit
open Go.Proofs.Ytodlolhenghlcaa.Ad Go.Proofs.Ytodlolhenghlcaa.Ai
open Go.Proofs.Ytodlolhenghlcaa.Li
set_option linter.unusedVariables false

def gr (l p : Int) : Int := if clip l - clip p < -2000000 then -2000000 else if 2000000 < clip l - clip p then 2000000 else clip l - clip p
theorem gr_bd (l p : Int) : -2000000 ≤ gr l p ∧ gr l p ≤ 2000000 := by unfold gr; split <;> (try split) <;> omega
theorem gr_same (l : Int) : gr l l = 0 := by unfold gr; simp
theorem wrap_id (n : Int) (h : -9223372036854775808 ≤ n) (h' : n ≤ 9223372036854775807) : IntKind.i64.wrap n = n := by rw [IntKind.wrap_i64]; omega
def grs (ls ps : List Int) : List Int := if ls.length = ps.length then List.zipWith gr ls ps else []
theorem grs_len (ls ps : List Int) : (grs ls ps).length ≤ ls.length := by
  unfold grs; split
  · simp; omega
  · simp
theorem grs_no {ls ps : List Int} (h : ¬ ls.length = ps.length) : grs ls ps = [] := by unfold grs; rw [if_neg h]
theorem grs_yes {ls ps : List Int} (h : ls.length = ps.length) : grs ls ps = List.zipWith gr ls ps := by unfold grs; rw [if_pos h]
theorem grs_length {ls ps : List Int} (h : ls.length = ps.length) : (grs ls ps).length = ls.length := by rw [grs_yes h]; simp; omega
theorem grs_get {ls ps : List Int} (h : ls.length = ps.length) (k : Nat) (hk : k < (grs ls ps).length) (h1 : k < ls.length) (h2 : k < ps.length) : (grs ls ps)[k] = gr ls[k] ps[k] := by
  simp only [grs_yes h]; simp
theorem grs_take {ls ps : List Int} (h : ls.length = ps.length) (k : Nat) (h1 : k < ls.length) (h2 : k < ps.length) : (grs ls ps).take (k + 1) = (grs ls ps).take k ++ [gr ls[k] ps[k]] := by
  have hk : k < (grs ls ps).length := by rw [grs_length h]; exact h1
  rw [List.take_succ_eq_append_getElem hk, grs_get h k hk h1 h2]
set_option maxHeartbeats 1000000 in
theorem igr (l p : Int) (w : World) : Calls Try.prog 25 #[.int .i64 l, .int .i64 p] w fun e w' => e = .returned (.int .i64 (gr l p)) ∧ w' = w := by
  have ha := clip_bd l
  have hb := clip_bd p
  have HR : Hid (gr l p = if clip l - clip p < -2000000 then -2000000 else if 2000000 < clip l - clip p then 2000000 else clip l - clip p) := rfl
  obtain ⟨x, hx⟩ : ∃ x, clip l = x := ⟨_, rfl⟩
  obtain ⟨y, hy⟩ : ∃ y, clip p = y := ⟨_, rfl⟩
  have HX : Hid (clip l = x) := hx
  have HY : Hid (clip p = y) := hy
  rw [hx] at ha
  rw [hy] at hb
  rw [hx, hy] at HR
  clear hx hy
  go_enter Try.func25, Try.ntmps25
  go_wp2_with fail
  refine (bounded_any _ _).mono ?_
  rintro e w' ⟨rfl, hw⟩
  subst w'
  rw [HX.out]
  go_wp2_with fail
  refine (bounded_any _ _).mono ?_
  rintro e w' ⟨rfl, hw⟩
  subst w'
  rw [HY.out]
  go_wp2
  all_goals go_ret
  all_goals refine ⟨ret_int ?_, rfl⟩
  all_goals rw [HR.out]
  all_goals (repeat' split) <;> (try split at *) <;> omega
set_option maxHeartbeats 1000000 in
theorem igrs (w : World) (a a' : Option Addr) (cap cap' : Nat) (xs ys : List Int) (hx : IsL w a xs) (hy : IsL w a' ys) (hl : xs.length ≤ 1048576) (hl' : ys.length ≤ 1048576) :
    Calls Try.prog 9 #[.slice a xs.length cap, .slice a' ys.length cap'] w fun e w' => ∃ v, e = .returned v ∧ Own w' w.heap.size v (grs xs ys) ∧ Below w.heap.size w w' := by
  by_cases hlen : xs.length = ys.length
  rotate_left
  · have hne : ((xs.length : Int) != (ys.length : Int)) = true := by simp; omega
    rw [grs_no hlen]
    go_enter Try.func9, Try.ntmps9
    go_wp2
    go_ret
    exact ⟨_, rfl, Own.nil _ _, Below.refl _ _⟩
  have HL : Hid (xs.length = ys.length) := hlen
  have hne : ((xs.length : Int) != (ys.length : Int)) = false := by simp; omega
  have hgl := grs_length hlen
  have HG : Hid ((grs xs ys).length = xs.length) := hgl
  have HT : Hid (∀ k (h1 : k < xs.length) (h2 : k < ys.length) (hk : k < (grs xs ys).length), (grs xs ys)[k] = gr xs[k] ys[k]) := fun k h1 h2 hk => grs_get hlen k hk h1 h2
  obtain ⟨zs, hzs⟩ : ∃ zs, grs xs ys = zs := ⟨_, rfl⟩
  rw [hzs] at HG HT ⊢
  clear hzs hgl hlen
  obtain ⟨i0, hi, hz0, hz1, hz2⟩ := info_parts info_int
  go_enter Try.func9, Try.ntmps9
  go_wp2_with (at_make; refine wpList_make_full _ rfl _ _ 24 rfl w.heap.size 3 i0 (.int .i64 0) 1 Try.underlying24 hi hz0 hz1 _ _ _ _ xs.length rfl rfl (by omega) (by omega) (by rw [hz2]; omega) (by unfold maxLen; omega) (Nat.le_refl _) ?_; intro w1 hown hgrow)
  have hown' := own_made hown
  have hB1 := below_none hgrow
  clear hown hgrow
  go_loopw [18] (fun i wr => ∃ k : Nat, k ≤ xs.length ∧ i = .int .i64 k ∧ ∃ l : List Int, l.length = xs.length ∧ Like l zs k ∧ Own wr w.heap.size (.slice (some ⟨w.heap.size, 0, none⟩) xs.length xs.length) l ∧ Below w.heap.size w wr) (fun i _ => xs.length - (intOf i).toNat)
  case atStart => exact ⟨0, Nat.zero_le _, rfl, _, by simp, fun j hj => by omega, hown', hB1⟩
  case round =>
    obtain ⟨k, hk, rfl, l, hll, hlike, hown, hB⟩ := hrel
    by_cases hlt : k < xs.length
    · have hlt' : k < ys.length := by have := HL.out; omega
      rcases hx.below hB with h0 | ⟨b, off, rfl, hb, hc⟩
      · rw [h0] at hlt; simp at hlt
      rcases hy.below hB with h0 | ⟨b', off', rfl, hb', hc'⟩
      · rw [h0] at hlt'; simp at hlt'
      have hcx : wr.cell? ⟨b, off + k, none⟩ = some (.int .i64 xs[k]) := hc k hlt
      have hcy : wr.cell? ⟨b', off' + k, none⟩ = some (.int .i64 ys[k]) := hc' k hlt'
      obtain ⟨cv, hcl⟩ : ∃ cv, wr.cell? ⟨w.heap.size, k, none⟩ = some cv := ⟨_, hown.cell hll k (by omega)⟩
      have hcf := hown.frozen hll k
      have HO : Hid (Own wr w.heap.size (.slice (some ⟨w.heap.size, 0, none⟩) xs.length xs.length) l) := hown
      have HN : Hid (l.length = xs.length) := hll
      have hzk : k < zs.length := by rw [HG.out]; exact hlt
      have HK : Hid (Like (l.set k (gr xs[k] ys[k])) zs (k + 1)) := by
        have := like_set hlike hzk (by rw [HG.out]; exact hll)
        rwa [HT.out k hlt hlt' hzk] at this
      clear hown hlike hc hc' hzk hll
      obtain ⟨x, ex⟩ : ∃ x, xs[k] = x := ⟨_, rfl⟩
      obtain ⟨y, ey⟩ : ∃ y, ys[k] = y := ⟨_, rfl⟩
      rw [ex] at hcx HK
      rw [ey] at hcy HK
      clear ex ey
      go_wp2_with (go_at_call 25; refine (igr _ _ _).mono ?_; rintro e w5 ⟨rfl, hw5⟩; subst w5)
      go_roundw
      case rel => exact ⟨k + 1, by omega, by go_num, l.set k (gr x y), by simpa using HN.out, HK.out, HO.out.set HN.out k _, hB.setCell (p := ⟨w.heap.size, k, none⟩) (Nat.le_refl _) _⟩
      case measure => simp [intOf]; omega
    · obtain rfl : k = xs.length := by omega
      obtain rfl := like_all (xs := zs) (by rw [HG.out]; exact hlike) (by rw [HG.out]; exact hll)
      go_wp2
      go_ret
      exact ⟨_, rfl, hown, hB⟩
set_option maxHeartbeats 2000000 in
theorem sgrs (w : World) (a a' : Option Addr) (cap cap' : Nat) (xs ys : List Int) (hx : IsL w a xs) (hy : IsL w a' ys) (hl : xs.length ≤ 1048576) (hl' : ys.length ≤ 1048576) :
    Calls Try.prog 11 #[.slice a xs.length cap, .slice a' ys.length cap'] w fun e w' => ∃ v, e = .returned v ∧ Own w' w.heap.size v (grs xs ys) ∧ Below w.heap.size w w' := by
  by_cases hlen : xs.length = ys.length
  rotate_left
  · have hne : ((xs.length : Int) == (ys.length : Int)) = false := by rw [beq_eq_false_iff_ne]; omega
    rw [grs_no hlen]
    go_enter Try.func11, Try.ntmps11
    go_wp2
    go_loopw [5, 6] (fun v i wr => i = .int .i64 0 ∧ Own wr w.heap.size v [] ∧ Below w.heap.size w wr) (fun _ _ _ => 0)
    case atStart => exact ⟨rfl, own_empty _ _ (Nat.le_refl _), (Below.refl _ _).alloc (Nat.le_refl _) _⟩
    case round =>
      obtain ⟨rfl, hown, hB⟩ := hrel
      clear hlen
      go_wp2
      all_goals go_ret
      all_goals exact ⟨_, rfl, hown, hB⟩
  have HL : Hid (xs.length = ys.length) := hlen
  have hne : ((xs.length : Int) == (ys.length : Int)) = true := by rw [beq_iff_eq]; omega
  have hgl := grs_length hlen
  have HG : Hid ((grs xs ys).length = xs.length) := hgl
  have HT : Hid (∀ k (h1 : k < xs.length) (h2 : k < ys.length), (grs xs ys).take (k + 1) = (grs xs ys).take k ++ [gr xs[k] ys[k]]) := fun k h1 h2 => grs_take hlen k h1 h2
  obtain ⟨zs, hzs⟩ : ∃ zs, grs xs ys = zs := ⟨_, rfl⟩
  rw [hzs] at HG HT ⊢
  clear hzs hgl hlen
  obtain ⟨i0, hi, hz0, hz1, hz2⟩ := info_parts info_int
  go_enter Try.func11, Try.ntmps11
  go_wp2
  go_loopw [5, 6] (fun v i wr => ∃ k : Nat, k ≤ xs.length ∧ i = .int .i64 k ∧ ∃ m : List Int, m = zs.take k ∧ Own wr w.heap.size v m ∧ Below w.heap.size w wr) (fun _ i _ => xs.length - (intOf i).toNat)
  case atStart => exact ⟨0, Nat.zero_le _, rfl, [], by simp, own_empty _ _ (Nat.le_refl _), (Below.refl _ _).alloc (Nat.le_refl _) _⟩
  case round =>
    obtain ⟨k, hk, rfl, m, hm, hown, hB⟩ := hrel
    have HM : Hid (m = zs.take k) := hm
    have hml : m.length = k := by rw [hm]; simp; have := HG.out; omega
    have HML : Hid (m.length = k) := hml
    clear hm hml
    by_cases hlt : k < xs.length
    · have hlt' : k < ys.length := by have := HL.out; omega
      have hs := hB.size
      rcases hx.below hB with h0 | ⟨b, off, rfl, hb, hc⟩
      · rw [h0] at hlt; simp at hlt
      rcases hy.below hB with h0 | ⟨b', off', rfl, hb', hc'⟩
      · rw [h0] at hlt'; simp at hlt'
      have hcx : wr.cell? ⟨b, off + k, none⟩ = some (.int .i64 xs[k]) := hc k hlt
      have hcy : wr.cell? ⟨b', off' + k, none⟩ = some (.int .i64 ys[k]) := hc' k hlt'
      have HR : Hid (zs.take (k + 1) = zs.take k ++ [gr xs[k] ys[k]]) := HT.out k hlt hlt'
      obtain ⟨x, ex⟩ : ∃ x, xs[k] = x := ⟨_, rfl⟩
      obtain ⟨y, ey⟩ : ∃ y, ys[k] = y := ⟨_, rfl⟩
      rw [ex] at hcx HR
      rw [ey] at hcy HR
      have ha := clip_bd x
      have hb2 := clip_bd y
      have HGR : Hid (gr x y = if clip x - clip y < -2000000 then -2000000 else if 2000000 < clip x - clip y then 2000000 else clip x - clip y) := rfl
      obtain ⟨x1, hx1⟩ : ∃ x1, clip x = x1 := ⟨_, rfl⟩
      obtain ⟨y1, hy1⟩ : ∃ y1, clip y = y1 := ⟨_, rfl⟩
      have HX : Hid (clip x = x1) := hx1
      have HY : Hid (clip y = y1) := hy1
      rw [hx1] at ha HGR
      rw [hy1] at hb2 HGR
      clear ex ey hc hc' hx1 hy1
      go_wp2
      go_region_law (first
        | (refine step_append_lies _ rfl _ _ 24 rfl w.heap.size 3 i0 (.int .i64 0) 1 8 Try.underlying24 hi hz0 hz1 hz2 rfl (by decide) u5 m.length (iv m) rfl (by first | exact World.ownsRow.alloc (own_drew hown) _ | exact own_drew (World.ownsRow.alloc hown _) | exact World.ownsRow.alloc hown _) _ 1 1 [.int .i64 _] rfl rfl (one_at (by first | rfl | simp)) (one_one _) (by decide) (by have := HML.out; unfold maxLen; omega) (by have := HML.out; omega) (by simp; omega) _ rfl ?_
           intro g cap w6 hown' hgrow hpos hglt
           have ho6 := own_snoc rfl hown'
           have hB6 : Below w.heap.size w w6 := below_app (by first | exact (hB.drew).alloc (by simpa using hB.size) _ | exact hB.alloc hB.size _) (by have := hB.size; simp; omega) hgrow (fun k hk => (hown.ge k hk).1)
           clear hown' hgrow hpos hglt)
        | (go_simp
           go_wp2_with (first
            | (go_at_call_of 26 (Value.int .i64 x); refine (clip_any _ _).mono ?_; rintro e w5 ⟨rfl, hw5⟩; subst w5; rw [HX.out])
            | (go_at_call_of 26 (Value.int .i64 y); refine (clip_any _ _).mono ?_; rintro e w5 ⟨rfl, hw5⟩; subst w5; rw [HY.out]))))
      all_goals
        clear hown hB
        go_wp2
        go_roundw
        case rel => exact ⟨k + 1, by omega, by go_num, _, by rw [HR.out, HM.out, HGR.out, wrap_id (x1 - y1) (by omega) (by omega)]; congr 2; (repeat' split) <;> (try split at *) <;> omega, ho6, hB6⟩
        case measure => simp [intOf]; omega
    · obtain rfl : k = xs.length := by omega
      have HR : Hid (zs = m) := by show _ = _; rw [HM.out, List.take_of_length_le (by have := HG.out; omega)]
      go_wp2
      go_ret
      exact ⟨_, rfl, by rw [HR.out]; exact hown, hB⟩
end Go.Proofs.Ytodlolhenghlcaa.Gd
