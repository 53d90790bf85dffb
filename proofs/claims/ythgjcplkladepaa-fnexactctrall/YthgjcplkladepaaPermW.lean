/-
  PermOk, Inverse, Through of the program and of the model, over the lists that they are handed: each answers what Perm says; old memory stays.
-/
import Derived.Test.YthgjcplkladepaaLists
import Derived.Test.YthgjcplkladepaaPerm
namespace Go.Proofs.Ythgjcplkladepaa.Pw
open Go.RowKit
open Go.Proofs.Ythgjcplkladepaa.Li Go.Proofs.Ythgjcplkladepaa.Pe

set_option maxHeartbeats 1000000 in
theorem spok_long (w : World) (a : Option Addr) (n cap : Nat) (h : 60 < n) (hn : n ≤ 10000000) :
    Calls Try.prog 37 #[.slice a n cap] w fun e w' => e = .returned (.bool false) ∧ w' = w := by
  go_enter Try.func37, Try.ntmps37
  go_wp2
  go_ret
  exact ⟨rfl, rfl⟩
set_option maxHeartbeats 2000000 in
theorem spok_walk (w : World) (a : Option Addr) (cap : Nat) (xs : List Int) (hx : IsL w a xs) (h60 : xs.length ≤ 60) :
    Calls Try.prog 37 #[.slice a xs.length cap] w fun e w' => e = .returned (.bool (pok xs)) ∧ ∃ n, w' = w.drewN n := by
  have hd : decide (60 < (xs.length : Int)) = false := by simp; omega
  go_enter Try.func37, Try.ntmps37
  go_wp2
  go_loopw [3] (fun i wr => ∃ k : Nat, k ≤ xs.length ∧ i = .int .i64 k ∧ Gd xs k ∧ ∃ n, wr = w.drewN n) (fun i _ => xs.length - (intOf i).toNat)
  case atStart => exact ⟨0, Nat.zero_le _, rfl, good_zero _, 0, rfl⟩
  case round =>
    obtain ⟨k, hk, rfl, hgood, n, rfl⟩ := hrel
    by_cases hlt : k < xs.length
    · rcases hx with rfl | ⟨b, off, rfl, hb, hc⟩
      · simp at hlt
      · have hcx := hc k hlt
        have HC : Hid (∀ j (hj : j < xs.length), w.cell? ⟨b, off + j, none⟩ = some (.int .i64 xs[j])) := hc
        have HG : Hid (Gd xs k) := hgood
        obtain ⟨x, hx⟩ : ∃ x, xs[k] = x := ⟨_, rfl⟩
        rw [hx] at hcx
        have HX : Hid (xs[k] = x) := hx
        clear hc hgood hx
        by_cases hr : 0 ≤ x ∧ x ≤ (xs.length : Int) - 1
        · have hbt : btw x 0 ((xs.length : Int) - 1) = true := by simpa [btw] using hr
          obtain ⟨r0, r1⟩ := hr
          go_wp2_with (go_at_call 38; refine (between_any _ _ _ _).mono ?_; rintro e w' ⟨rfl, hw⟩; subst w')
          go_loopw [4] (fun j wr => ∃ m : Nat, m ≤ k ∧ j = .int .i64 m ∧ (∀ t (ht : t < m) (hl : t < xs.length), ¬ xs[t] = x) ∧ ∃ n, wr = w.drewN n) (fun j _ => k - (intOf j).toNat)
          case atStart => exact ⟨0, Nat.zero_le _, rfl, fun t ht => by omega, _, rfl⟩
          case round =>
            obtain ⟨m, hm, rfl, hno, n', rfl⟩ := hrel
            have HN : Hid (∀ t (ht : t < m) (hl : t < xs.length), ¬ xs[t] = x) := hno
            clear hno
            by_cases hmk : m < k
            · have hmx : m < xs.length := by omega
              have hcm := HC.out m hmx
              obtain ⟨y, hy⟩ : ∃ y, xs[m] = y := ⟨_, rfl⟩
              rw [hy] at hcm
              have HY : Hid (xs[m] = y) := hy
              clear hy
              by_cases he : y = x
              · have he' : (y == x) = true := by simpa using he
                have HE : Hid (y = x) := he
                clear he
                go_wp2
                go_quiet (fail)
                go_wp2
                go_ret
                exact ⟨by rw [pok_twice hlt hmk (by rw [HY.out, HE.out, HX.out])]; rfl, _, World.drewN_drewN _ _ _⟩
              · have he' : (y == x) = false := by simpa using he
                have HE : Hid (¬ y = x) := he
                clear he
                go_wp2
                go_quiet (fail)
                go_wp2
                go_roundw
                case rel =>
                  refine ⟨m + 1, by omega, by go_num, fun t ht hl => ?_, _, rfl⟩
                  by_cases htm : t = m
                  · subst htm; rw [HY.out]; exact HE.out
                  · exact HN.out t (by omega) hl
                case measure => simp [intOf]; omega
            · obtain rfl : m = k := by omega
              go_wp2
              go_roundw
              case rel => exact ⟨m + 1, by omega, by go_num, good_succ HG.out hlt (by rw [HX.out]; omega) (by rw [HX.out]; omega) (fun t ht => by rw [HX.out]; exact HN.out t ht (by omega)), _, rfl⟩
              case measure => simp [intOf]; omega
        · have hbt : btw x 0 ((xs.length : Int) - 1) = false := by simp [btw]; omega
          have HR : Hid (pok xs = false) := pok_range hlt (by rw [HX.out]; omega)
          go_wp2_with (go_at_call 38; refine (between_any _ _ _ _).mono ?_; rintro e w' ⟨rfl, hw⟩; subst w')
          go_ret
          exact ⟨by rw [HR.out]; rfl, _, rfl⟩
    · obtain rfl : k = xs.length := by omega
      have HR : Hid (pok xs = true) := pok_all h60 hgood
      go_wp2
      go_ret
      exact ⟨by rw [HR.out]; rfl, _, rfl⟩
theorem spok_any (w : World) (a : Option Addr) (cap : Nat) (xs : List Int) (hx : IsL w a xs) (hl : xs.length ≤ 10000000) :
    Calls Try.prog 37 #[.slice a xs.length cap] w fun e w' => e = .returned (.bool (pok xs)) ∧ ∃ n, w' = w.drewN n := by
  by_cases h60 : xs.length ≤ 60
  · exact spok_walk w a cap xs hx h60
  · refine (spok_long w a _ cap (by omega) hl).mono ?_
    rintro e w' ⟨rfl, rfl⟩
    exact ⟨by rw [pok_long h60], 0, rfl⟩
set_option maxHeartbeats 1000000 in
theorem ipok_long (w : World) (a : Option Addr) (n cap : Nat) (h : 60 < n) (hn : n ≤ 10000000) :
    Calls Try.prog 47 #[.slice a n cap] w fun e w' => e = .returned (.bool false) ∧ w' = w := by
  go_enter Try.func47, Try.ntmps47
  go_wp2
  go_ret
  exact ⟨rfl, rfl⟩
/-- Of the sixty places those are marked that have come among the first k. -/
def Seen (w : World) (g : Nat) (xs : List Int) (k : Nat) : Prop := ∀ p, p < 60 → w.cell? ⟨g, p, none⟩ = some (.bool (decide ((p : Int) ∈ xs.take k))) ∧ w.frozen? ⟨g, p, none⟩ = false
theorem seen_zero (w : World) (xs : List Int) (T : TypeId) : Seen (w.alloc (.cells (Array.replicate 60 (.bool false)) T)) w.heap.size xs 0 := by
  intro p hp
  refine ⟨?_, by simp⟩
  rw [World.cell?_alloc_new]
  simp [hp]
theorem take_succ_mem {xs : List Int} {k : Nat} (hk : k < xs.length) (y : Int) : y ∈ xs.take (k + 1) ↔ y ∈ xs.take k ∨ y = xs[k] := by
  rw [List.take_succ_eq_append_getElem hk, List.mem_append, List.mem_singleton]
theorem seen_succ {w : World} {g : Nat} {xs : List Int} {k : Nat} (h : Seen w g xs k) (hk : k < xs.length) (h0 : 0 ≤ xs[k]) (h1 : xs[k] < 60) :
    Seen (w.setCell ⟨g, xs[k].toNat, none⟩ (.bool true)) g xs (k + 1) := by
  intro p hp
  refine ⟨?_, by rw [World.frozen?_setCell]; exact (h p hp).2⟩
  by_cases e : p = xs[k].toNat
  · subst e
    rw [World.cell?_setCell_same _ _ _ (h _ hp).1]
    congr 2
    simp [take_succ_mem hk]
    right
    omega
  · rw [World.cell?_setCell_other _ _ _ _ (fun h => e (congrArg Addr.off h).symm), (h p hp).1]
    congr 2
    apply Bool.eq_iff_iff.2
    simp only [decide_eq_true_eq]
    rw [take_succ_mem hk]
    constructor
    · exact .inl
    · rintro (h | h)
      · exact h
      · omega
theorem mem_take_get {xs : List Int} {k : Nat} {y : Int} (h : y ∈ xs.take k) (hk : k ≤ xs.length) : ∃ t, ∃ ht : t < k, xs[t] = y := by
  obtain ⟨t, ht, e⟩ := List.getElem_of_mem h
  have h1 : t < k := by simp at ht; omega
  exact ⟨t, h1, by rw [← e]; simp⟩
set_option maxHeartbeats 2000000 in
theorem ipok_walk (w : World) (a : Option Addr) (cap : Nat) (xs : List Int) (hx : IsL w a xs) (h60 : xs.length ≤ 60) :
    Calls Try.prog 47 #[.slice a xs.length cap] w fun e w' => e = .returned (.bool (pok xs)) ∧ Below w.heap.size w w' := by
  have hd : decide (60 < (xs.length : Int)) = false := by simp; omega
  go_enter Try.func47, Try.ntmps47
  go_wp2
  go_loopw [11] (fun i wr => ∃ k : Nat, k ≤ xs.length ∧ i = .int .i64 k ∧ Gd xs k ∧ Below w.heap.size w wr ∧ Seen wr w.heap.size xs k) (fun i _ => xs.length - (intOf i).toNat)
  case atStart => exact ⟨0, Nat.zero_le _, rfl, good_zero _, (Below.refl _ _).alloc (Nat.le_refl _) _, seen_zero _ _ _⟩
  case round =>
    obtain ⟨k, hk, rfl, hgood, hB, hseen⟩ := hrel
    by_cases hlt : k < xs.length
    · rcases hx with rfl | ⟨b, off, rfl, hb, hc⟩
      · simp at hlt
      · have hcx : wr.cell? ⟨b, off + k, none⟩ = some (.int .i64 xs[k]) := (hB.cell (by exact hb)).trans (hc k hlt)
        have HG : Hid (Gd xs k) := hgood
        have HS : Hid (Seen wr w.heap.size xs k) := hseen
        obtain ⟨x, hx⟩ : ∃ x, xs[k] = x := ⟨_, rfl⟩
        rw [hx] at hcx
        have HX : Hid (xs[k] = x) := hx
        clear hc hgood hx hseen
        by_cases hr : 0 ≤ x ∧ x < (xs.length : Int)
        · obtain ⟨r0, r1⟩ := hr
          have hd1 : decide (x < 0) = false := by simp; omega
          have hd2 : decide ((xs.length : Int) ≤ x) = false := by simp; omega
          obtain ⟨hcp, hcf⟩ := HS.out x.toNat (by omega)
          obtain ⟨c, hc⟩ : ∃ c, decide (((x.toNat : Nat) : Int) ∈ xs.take k) = c := ⟨_, rfl⟩
          rw [hc] at hcp
          have HC : Hid (decide (((x.toNat : Nat) : Int) ∈ xs.take k) = c) := hc
          clear hc
          cases c
          · go_wp2
            go_roundw
            case rel =>
              refine ⟨k + 1, by omega, by go_num, ?_, hB.setCell (p := ⟨w.heap.size, x.toNat, none⟩) (Nat.le_refl _) _, ?_⟩
              · refine good_succ HG.out hlt (by rw [HX.out]; omega) (by rw [HX.out]; omega) (fun t ht e => ?_)
                have := of_decide_eq_false HC.out
                apply this
                rw [show ((x.toNat : Nat) : Int) = xs[t] by rw [e, HX.out]; omega]
                rw [List.mem_iff_getElem]
                exact ⟨t, by simp; omega, by simp⟩
              · have := seen_succ HS.out hlt (by rw [HX.out]; omega) (by rw [HX.out]; omega)
                rwa [HX.out] at this
            case measure => simp [intOf]; omega
          · go_wp2
            go_ret
            obtain ⟨t, ht, e⟩ := mem_take_get (of_decide_eq_true HC.out) hk
            exact ⟨by rw [pok_twice hlt ht (by rw [e, HX.out]; omega)]; rfl, hB⟩
        · have HR : Hid (pok xs = false) := pok_range hlt (by rw [HX.out]; exact hr)
          by_cases h0 : x < 0
          · have hd1 : decide (x < 0) = true := by simpa using h0
            go_wp2
            go_ret
            exact ⟨by rw [HR.out]; rfl, hB⟩
          · have hd1 : decide (x < 0) = false := by simpa using h0
            have hd2 : decide ((xs.length : Int) ≤ x) = true := by simp; omega
            go_wp2
            go_ret
            exact ⟨by rw [HR.out]; rfl, hB⟩
    · obtain rfl : k = xs.length := by omega
      have HR : Hid (pok xs = true) := pok_all h60 hgood
      go_wp2
      go_ret
      exact ⟨by rw [HR.out]; rfl, hB⟩
theorem ipok_any (w : World) (a : Option Addr) (cap : Nat) (xs : List Int) (hx : IsL w a xs) (hl : xs.length ≤ 10000000) :
    Calls Try.prog 47 #[.slice a xs.length cap] w fun e w' => e = .returned (.bool (pok xs)) ∧ Below w.heap.size w w' := by
  by_cases h60 : xs.length ≤ 60
  · exact ipok_walk w a cap xs hx h60
  · refine (ipok_long w a _ cap (by omega) hl).mono ?_
    rintro e w' ⟨rfl, rfl⟩
    exact ⟨by rw [pok_long h60], Below.refl _ _⟩
end Go.Proofs.Ythgjcplkladepaa.Pw
