/-
  Lists of lists as the laws copy them, mark them and look whether the marks are held.
-/
import Derived.Test.YtbjnhdhnlofibaaSeN
namespace Go.Proofs.Ytbjnhdhnlofibaa.Sv
open Go.RowKit
open Go.Proofs.Ytbjnhdhnlofibaa.Li (iv ret_bool ret_int below_none IsL marks marks_length marks_get Like)
open Go.Proofs.Ytbjnhdhnlofibaa.Tb (sub sub_yes sub_no)
set_option linter.unusedVariables false

/-- As far as k the cells xs are lists of their own, each in a later block. -/
def NestV (w : World) (lo : Nat) (V : Nat → Value) (bl : Nat → Nat) (cs : List Value) (xs : List (List Int)) (k : Nat) : Prop :=
  (∀ i (hi : i < xs.length), i < k → cs[i]? = some (V i) ∧ OwI w (fun q => q = bl i) (V i) xs[i] ∧ lo < bl i ∧ bl i < w.heap.size) ∧ ∀ i j, i < j → j < k → bl i < bl j
theorem NestV.below {w w1 : World} {lo k : Nat} {V : Nat → Value} {bl : Nat → Nat} {cs : List Value} {xs : List (List Int)} (h : NestV w lo V bl cs xs k) (hb : Below w.heap.size w w1) : NestV w1 lo V bl cs xs k := by
  refine ⟨fun i hi hik => ?_, h.2⟩
  obtain ⟨h1, h2, h3, h4⟩ := h.1 i hi hik
  exact ⟨h1, h2.below hb, h3, Nat.lt_of_lt_of_le h4 hb.size⟩
theorem nestV_step {w : World} {lo g b k : Nat} {V : Nat → Value} {bl : Nat → Nat} {cs : List Value} {xs : List (List Int)} {u : Value} (h : NestV w lo V bl cs xs k) (hk : k < xs.length) (hcl : cs.length = xs.length) (hg : g = lo)
    (ho : OwI w (fun q => q = b) u xs[k]) (hb : lo < b) (hb' : b < w.heap.size) (hlt : ∀ i, i < k → bl i < b) :
    NestV (w.setCell ⟨g, k, none⟩ u) lo (fun i => if i = k then u else V i) (fun i => if i = k then b else bl i) (cs.set k u) xs (k + 1) := by
  have hfr : Fr (fun q => q = lo) w (w.setCell ⟨g, k, none⟩ u) := fr_grown (Li.grown_set _ _ _ _) hg
  refine ⟨fun i hi hik => ?_, fun i j hij hjk => ?_⟩
  · by_cases e : i = k
    · subst e
      simp only [if_true]
      refine ⟨by simp [hcl, hk], ho.fr hfr (fun q e => by omega), hb, by simpa [World.setCell] using hb'⟩
    · obtain ⟨h1, h2, h3, h4⟩ := h.1 i hi (by omega)
      simp only [e, if_false]
      refine ⟨by rw [List.getElem?_set_ne (by omega)]; exact h1, h2.fr hfr (fun q e => by omega), h3, by simpa [World.setCell] using h4⟩
  · by_cases e : j = k
    · subst e
      simp only [show ¬ i = j by omega, if_false, if_true]
      exact hlt i hij
    · simp only [show ¬ i = k by omega, e, if_false]
      exact h.2 i j hij (by omega)
theorem nestV_own {w : World} {lo base cap : Nat} {V : Nat → Value} {bl : Nat → Nat} {cs : List Value} {xs : List (List Int)} (h : NestV w lo V bl cs xs xs.length) (hown : w.ownsRow base 45 1 (.slice (some ⟨lo, 0, none⟩) xs.length cap) xs.length cs) :
    OwV w (fun q => lo ≤ q ∧ q < w.heap.size) (.slice (some ⟨lo, 0, none⟩) xs.length cap) xs := by
  have hlt := (World.ownsRow.lt hown lo rfl).2
  refine ⟨_, cap, rfl, .inr ⟨lo, 0, V, bl, rfl, ⟨Nat.le_refl _, hlt⟩, hlt, fun j hj => ?_, fun j hj => ?_, fun i j hi hj hij => ?_⟩⟩
  · obtain ⟨h1, h2, _⟩ := h.1 j hj hj
    refine ⟨?_, h2⟩
    rw [Nat.zero_add, World.ownsRow.cellAt hown j (by omega), h1]
  · obtain ⟨_, _, h3, h4⟩ := h.1 j hj hj
    exact ⟨⟨by omega, h4⟩, by omega⟩
  · rcases Nat.lt_or_gt_of_ne hij with h1 | h1
    · have := h.2 i j h1 hj; omega
    · have := h.2 j i h1 hi; omega
theorem markI_nil (w : World) (a : Option Addr) (cap : Nat) (k : Int) :
    Calls Try.prog 47 #[.slice a 0 cap, .int .i64 k] w fun e w' => e = .returned (.int .i64 k) ∧ w' = w := by
  go_enter Try.func47, Try.ntmps47
  go_wp2
  go_loop [1, 5] (fun q i => i = .int .i64 0 ∧ q = .int .i64 k) (fun _ i => 0)
  case atStart => exact ⟨rfl, rfl⟩
  case round =>
    obtain ⟨rfl, rfl⟩ := hrel
    go_wp2
    go_ret
    exact ⟨rfl, rfl⟩
set_option maxHeartbeats 1000000 in
theorem markI_walk (w : World) (g off n cap : Nat) (k : Int) (xs : List Int) (hn : xs.length = n) (h : Wr w g off (iv xs)) (hl : n ≤ 1048576) (k0 : 0 ≤ k) (k1 : k ≤ 1000000000000) :
    Calls Try.prog 47 #[.slice (some ⟨g, off, none⟩) n cap, .int .i64 k] w fun e w' => e = .returned (.int .i64 (k + n)) ∧ Wr w' g off (iv (marks k n)) ∧ w.grownBy w' (some g) := by
  go_enter Try.func47, Try.ntmps47
  go_wp2
  go_loopw [1, 5] (fun q i wr => ∃ j : Nat, j ≤ n ∧ i = .int .i64 j ∧ q = .int .i64 (k + j) ∧ ∃ l : List Int, l.length = n ∧ Like l (marks k n) j ∧ Wr wr g off (iv l) ∧ w.grownBy wr (some g)) (fun _ i _ => n - (intOf i).toNat)
  case atStart => exact ⟨0, Nat.zero_le _, rfl, by go_num, xs, hn, fun j hj => by omega, h, Li.grown_refl _ _⟩
  case round =>
    obtain ⟨j, hj, rfl, rfl, l, hll, hlike, hown, hg⟩ := hrel
    clear h
    by_cases hlt : j < n
    · have hlj : j < (iv l).length := by rw [Li.iv_length]; omega
      obtain ⟨hcl, hcf⟩ := hown.2 j hlj
      have hvl : (iv l)[j] = .int .i64 (l[j]'(by omega)) := by simp [iv]
      obtain ⟨y, hy⟩ : ∃ y, l[j]'(by omega) = y := ⟨_, rfl⟩
      rw [hvl, hy] at hcl
      have hgl := hown.1
      have HO : Hid (Wr (wr.setCell ⟨g, off + j, none⟩ (.int .i64 (k + j))) g off (iv (l.set j (k + j)))) := by
        have := hown.set j hlj (.int .i64 (k + j)); rwa [Li.iv_set] at this
      have HL : Hid (Like (l.set j (k + j)) (marks k n) (j + 1)) := by
        have := Li.like_set hlike (by rw [marks_length]; exact hlt) (by rw [marks_length]; exact hll)
        rwa [marks_get] at this
      have HLL : Hid (l.length = n) := hll
      clear hown hlike hvl hy hlj hll
      go_wp2
      go_roundw
      case rel => exact ⟨j + 1, by omega, by go_num, by go_num, l.set j (k + j), by simpa using HLL.out, HL.out, HO.out, Li.grown_trans hg (Li.grown_set _ _ _ _)⟩
      case measure => simp [intOf]; omega
    · obtain rfl : j = n := by omega
      have HO : Hid (Wr wr g off (iv (marks k j))) := by
        have e := Li.like_all (xs := marks k j) (by rw [marks_length]; exact hlike) (by rw [marks_length]; exact hll)
        rw [← e]; exact hown
      clear hown hlike
      go_wp2
      go_ret
      exact ⟨rfl, HO.out, hg⟩
theorem markI (w : World) (B : Nat → Prop) (v : Value) (k : Int) (xs : List Int) (h : OwI w B v xs) (hl : xs.length ≤ 1048576) (k0 : 0 ≤ k) (k1 : k ≤ 1000000000000) :
    Calls Try.prog 47 #[v, .int .i64 k] w fun e w' => e = .returned (.int .i64 (k + xs.length)) ∧ OwI w' B v (marks k xs.length) ∧ Fr B w w' := by
  obtain ⟨a, cap, rfl, h⟩ := h
  rcases h with rfl | ⟨g, off, rfl, hb, hw⟩
  · refine (markI_nil w a cap k).mono ?_
    rintro e w' ⟨rfl, rfl⟩
    exact ⟨by simp, ⟨a, cap, rfl, .inl rfl⟩, Fr.refl _ _⟩
  · refine (markI_walk w g off xs.length cap k xs rfl hw hl k0 k1).mono ?_
    rintro e w' ⟨rfl, ho, hg⟩
    exact ⟨rfl, ⟨_, cap, by rw [marks_length], .inr ⟨g, off, rfl, hb, ho⟩⟩, fr_grown hg hb⟩
/-- Marks of lists of lists. -/
def vmarks (k : Int) : List (List Int) → List (List Int)
  | [] => []
  | x :: xs => marks k x.length :: vmarks (k + x.length) xs
theorem vmarks_length (k : Int) (xs : List (List Int)) : (vmarks k xs).length = xs.length := by
  induction xs generalizing k with
  | nil => rfl
  | cons x xs ih => simp [vmarks, ih]
theorem vmarks_get (k : Int) (xs : List (List Int)) (j : Nat) (h : j < xs.length) (h' : j < (vmarks k xs).length) : (vmarks k xs)[j] = marks (k + tot (xs.take j)) xs[j].length := by
  induction xs generalizing k j with
  | nil => simp at h
  | cons x xs ih =>
    cases j with
    | zero => simp [vmarks, tot]
    | succ j =>
      simp only [vmarks, List.getElem_cons_succ, List.take_succ_cons, tot]
      rw [ih (k + x.length) j (by simpa using h)]
      congr 1
      omega
theorem tot_vmarks (k : Int) (xs : List (List Int)) : tot (vmarks k xs) = tot xs := by
  induction xs generalizing k with
  | nil => rfl
  | cons x xs ih => simp [vmarks, tot, marks_length, ih]
/-- As far as k marked. -/
def mixed (q : Int) (xs : List (List Int)) (k i : Nat) (h : i < xs.length) : List Int := if i < k then marks (q + tot (xs.take i)) xs[i].length else xs[i]
theorem mixed_length (q : Int) (xs : List (List Int)) (k i : Nat) (h : i < xs.length) : (mixed q xs k i h).length = xs[i].length := by
  unfold mixed; split
  · exact marks_length _ _
  · rfl
set_option maxHeartbeats 1000000 in
theorem markVecs (w : World) (B : Nat → Prop) (v : Value) (q : Int) (xs : List (List Int)) (h : OwV w B v xs) (hl : xs.length + tot xs ≤ 1048576) (k0 : 0 ≤ q) (k1 : q ≤ 100000000000) :
    Calls Try.prog 20 #[v, .int .i64 q] w fun e w' => e = .returned (.int .i64 (q + tot xs)) ∧ OwV w' B v (vmarks q xs) ∧ Fr B w w' := by
  obtain ⟨a, cap, rfl, h⟩ := h
  rcases h with rfl | ⟨g, off, V, bl, rfl, hBg, hg, hc, hbl, hinj⟩
  · go_enter Try.func20, Try.ntmps20
    go_wp2
    go_loop [1, 5] (fun z i => i = .int .i64 0 ∧ z = .int .i64 q) (fun _ i => 0)
    case atStart => exact ⟨rfl, rfl⟩
    case round =>
      obtain ⟨rfl, rfl⟩ := hrel
      go_wp2
      go_ret
      exact ⟨by simp [tot], ⟨a, cap, rfl, .inl rfl⟩, Fr.refl _ _⟩
  · have HC : Hid (∀ j (hj : j < xs.length), w.cell? ⟨g, off + j, none⟩ = some (V j) ∧ OwI w (fun k => k = bl j) (V j) xs[j]) := hc
    have HBL : Hid (∀ j, j < xs.length → B (bl j) ∧ ¬ bl j = g) := hbl
    have HIN : Hid (∀ i j, i < xs.length → j < xs.length → ¬ i = j → ¬ bl i = bl j) := hinj
    clear hc hbl hinj
    go_enter Try.func20, Try.ntmps20
    go_wp2
    go_loopw [1, 5] (fun z i wr => ∃ k : Nat, k ≤ xs.length ∧ i = .int .i64 k ∧ z = .int .i64 (q + tot (xs.take k)) ∧ (∀ j (hj : j < xs.length), wr.cell? ⟨g, off + j, none⟩ = some (V j) ∧ OwI wr (fun k => k = bl j) (V j) (mixed q xs k j hj)) ∧ Fr B w wr) (fun _ i _ => xs.length - (intOf i).toNat)
    case atStart => exact ⟨0, Nat.zero_le _, rfl, by simp [tot], fun j hj => by have := HC.out j hj; simpa [mixed] using this, Fr.refl _ _⟩
    case round =>
      obtain ⟨k, hk, rfl, rfl, hm, hF⟩ := hrel
      have HM : Hid (∀ j (hj : j < xs.length), wr.cell? ⟨g, off + j, none⟩ = some (V j) ∧ OwI wr (fun k => k = bl j) (V j) (mixed q xs k j hj)) := hm
      have hgr : g < wr.heap.size := Nat.lt_of_lt_of_le hg hF.size
      clear hm
      by_cases hlt : k < xs.length
      · obtain ⟨hcx, ho⟩ := HM.out k hlt
        have ho : OwI wr (fun q => q = bl k) (V k) xs[k] := by simpa [mixed] using ho
        have hz : xs[k].length ≤ tot xs := tot_at xs k hlt
        have HT : Hid (tot (xs.take (k + 1)) = tot (xs.take k) + xs[k].length) := tot_take xs k hlt
        have hle : tot (xs.take k) ≤ tot xs := tot_le xs k
        obtain ⟨L, hL⟩ : ∃ L, tot (xs.take k) = L := ⟨_, rfl⟩
        have HLL : Hid (tot (xs.take k) = L) := hL
        rw [hL] at hle HT ⊢
        clear hL
        obtain ⟨a', c', hVk, _⟩ := ho.isl
        rw [hVk] at hcx ho
        have HVK : Hid (V k = .slice a' xs[k].length c') := hVk
        obtain ⟨z, hzz⟩ : ∃ z, xs[k].length = z := ⟨_, rfl⟩
        have HZ : Hid (xs[k].length = z) := hzz
        clear hVk
        rw [hzz] at hz HT hcx
        clear hzz
        go_wp2_with fail
        have ho' := ho
        rw [HZ.out] at ho'
        refine (markI _ _ _ _ _ ho' (by rw [HZ.out]; omega) (by omega) (by omega)).mono ?_
        rintro e w2 ⟨rfl, o2, hF2⟩
        rw [HZ.out] at o2 ⊢
        have HN : Hid (∀ j (hj : j < xs.length), w2.cell? ⟨g, off + j, none⟩ = some (V j) ∧ OwI w2 (fun q => q = bl j) (V j) (mixed q xs (k + 1) j hj)) := fun j hj => by
          obtain ⟨h1, h2⟩ := HM.out j hj
          have hgk : ¬ g = bl k := fun e => (HBL.out k hlt).2 e.symm
          refine ⟨by rw [World.cell?_of_block (w := wr) (a := ⟨g, off + j, none⟩) (hF2.block g hgr hgk)]; exact h1, ?_⟩
          by_cases e : j = k
          · subst e
            have : mixed q xs (j + 1) j hj = marks (q + L) z := by simp only [mixed, show j < j + 1 by omega, if_true]; rw [HLL.out, HZ.out]
            rw [this, HVK.out, HZ.out]
            exact o2
          · have : mixed q xs (k + 1) j hj = mixed q xs k j hj := by
              simp only [mixed]
              by_cases hjk : j < k
              · simp [hjk, show j < k + 1 by omega]
              · simp [hjk, show ¬ j < k + 1 by omega]
            rw [this]
            exact h2.fr hF2 (fun q' e' => by subst e'; exact HIN.out j k hj hlt e)
        have hF := hF.trans (hF2.mono (fun q' e' => by subst e'; exact (HBL.out k hlt).1))
        clear o2 hF2 ho ho' hcx
        go_wp2
        go_roundw
        case rel => exact ⟨k + 1, by omega, by go_num, by rw [HT.out]; go_num, HN.out, hF⟩
        case measure => simp [intOf]; omega
      · obtain rfl : k = xs.length := by omega
        have ht : xs.take xs.length = xs := List.take_length
        rw [ht]
        have HO : Hid (OwV wr B (.slice (some ⟨g, off, none⟩) xs.length cap) (vmarks q xs)) := by
          refine ⟨_, cap, by rw [vmarks_length], .inr ⟨g, off, V, bl, rfl, hBg, hgr, fun j hj => ?_, fun j hj => HBL.out j (by rwa [vmarks_length] at hj), fun i j hi hj => HIN.out i j (by rwa [vmarks_length] at hi) (by rwa [vmarks_length] at hj)⟩⟩
          have hj' : j < xs.length := by rwa [vmarks_length] at hj
          obtain ⟨h1, h2⟩ := HM.out j hj'
          rw [vmarks_get q xs j hj' hj]
          refine ⟨h1, ?_⟩
          simpa [mixed, hj'] using h2
        go_wp2
        go_ret
        exact ⟨rfl, HO.out, hF⟩
set_option maxHeartbeats 1000000 in
theorem heldVecs (w : World) (a : Option Addr) (cap n : Nat) (q : Int) (xs : List (List Int)) (hn : xs.length = n) (h : IsV w a (vmarks q xs)) (hl : xs.length + tot xs ≤ 1048576) (k0 : 0 ≤ q) (k1 : q ≤ 100000000000) :
    Calls Try.prog 21 #[.slice a n cap, .int .i64 q] w fun e w' => e = .returned (.int .i64 (q + tot xs)) ∧ w' = w := by
  have HNN : Hid (xs.length = n) := hn
  have hl : n + tot xs ≤ 1048576 := by omega
  clear hn
  go_enter Try.func21, Try.ntmps21
  go_wp2
  go_loop [1, 5] (fun z i => ∃ k : Nat, k ≤ n ∧ i = .int .i64 k ∧ z = .int .i64 (q + tot (xs.take k))) (fun _ i => n - (intOf i).toNat)
  case atStart => exact ⟨0, Nat.zero_le _, rfl, by simp [tot]⟩
  case round =>
    obtain ⟨k, hk, rfl, rfl⟩ := hrel
    by_cases hlt : k < n
    · have hlt' : k < xs.length := by rw [HNN.out]; exact hlt
      rcases h with h | ⟨b, off, rfl, hb, hc⟩
      · have := vmarks_length q xs; rw [h] at this; simp at this; omega
      · obtain ⟨a', c', hcx, hi⟩ := hc k (by rw [vmarks_length]; exact hlt')
        rw [vmarks_get q xs k hlt'] at hcx hi
        rw [marks_length] at hcx
        have hz : xs[k].length ≤ tot xs := tot_at xs k hlt'
        have HT : Hid (tot (xs.take (k + 1)) = tot (xs.take k) + xs[k].length) := tot_take xs k hlt'
        have hle : tot (xs.take k) ≤ tot xs := tot_le xs k
        obtain ⟨L, hL⟩ : ∃ L, tot (xs.take k) = L := ⟨_, rfl⟩
        rw [hL] at hle HT hi ⊢
        obtain ⟨z, hzz⟩ : ∃ z, xs[k].length = z := ⟨_, rfl⟩
        rw [hzz] at hz HT hcx hi
        clear hc hL hzz hlt'
        go_wp2_with fail
        refine (Li.held_walk _ _ _ _ _ hi (by omega) (by omega) (by omega)).mono ?_
        rintro e w2 ⟨rfl, hw⟩
        subst w2
        go_wp2
        go_round
        case rel => exact ⟨k + 1, by omega, by go_num, by rw [HT.out]; go_num⟩
        case measure => simp [intOf]; omega
    · obtain rfl : k = n := by omega
      have ht : xs.take k = xs := by rw [← HNN.out]; exact List.take_length
      rw [ht]
      go_wp2
      go_ret
      exact ⟨rfl, rfl⟩
end Go.Proofs.Ytbjnhdhnlofibaa.Sv
