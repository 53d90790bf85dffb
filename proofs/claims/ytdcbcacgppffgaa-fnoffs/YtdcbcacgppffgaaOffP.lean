/-
  What follows of how far rows are apart: it goes both ways, a third row on the way makes it no less, it is nothing just where they are the same.
-/
import Derived.Test.YtdcbcacgppffgaaOff
import Derived.Test.YtdcbcacgppffgaaBor
import Derived.Test.YtdcbcacgppffgaaDrawQ
namespace Go.Proofs.Ytdcbcacgppffgaa.Of
open Go.RowKit
open Go.Proofs.Ytdcbcacgppffgaa.Ad Go.Proofs.Ytdcbcacgppffgaa.Li
open Go.Proofs.Ytdcbcacgppffgaa.Bo (fok)
theorem ab_comm (x y : Int) : ab x y = ab y x := by unfold ab; split <;> split <;> omega
theorem ab_tri (x y z : Int) : ab x y ≤ ab x z + ab z y := by unfold ab; split <;> split <;> split <;> omega
theorem clip_fok {x : Int} (h : fok x = true) : clip x = x := by
  unfold fok at h
  simp at h
  exact clip_id x (by omega) (by omega)
theorem ab_zero {x y : Int} (hx : fok x = true) (hy : fok y = true) : ab x y = 0 ↔ x = y := by
  unfold ab
  rw [clip_fok hx, clip_fok hy]
  split <;> omega
theorem oko_comm (xs ys : List Int) : oko xs ys = oko ys xs := by
  unfold oko
  by_cases h : xs.length = ys.length
  · rw [h]
  · simp [h, Ne.symm h]
theorem offs_comm : ∀ xs ys : List Int, offs xs ys = offs ys xs
  | [], [] => rfl
  | [], _ :: _ => rfl
  | _ :: _, [] => rfl
  | x :: xs, y :: ys => by
    show ab x y :: offs xs ys = ab y x :: offs ys xs
    rw [ab_comm, offs_comm xs ys]
theorem off_comm (xs ys : List Int) : off xs ys = off ys xs := by unfold off; rw [oko_comm, offs_comm]
theorem sm_tri : ∀ xs ys zs : List Int, xs.length = ys.length → xs.length = zs.length → sm (offs xs ys) ≤ sm (offs xs zs) + sm (offs zs ys)
  | [], [], [], _, _ => by simp [offs, sm]
  | x :: xs, y :: ys, z :: zs, h, h' => by
    show ab x y + sm (offs xs ys) ≤ ab x z + sm (offs xs zs) + (ab z y + sm (offs zs ys))
    have := sm_tri xs ys zs (by simpa using h) (by simpa using h')
    have := ab_tri x y z
    omega
theorem off_tri {xs ys zs : List Int} (h : oko xs ys = true) (hz : zs.length = xs.length) : off xs ys ≤ off xs zs + off zs ys := by
  have h2 : xs.length = ys.length ∧ xs.length ≤ 40 := by unfold oko at h; simpa using h
  rw [off_yes h, off_yes (oko_yes (by omega) (by omega)), off_yes (oko_yes (by omega) (by omega))]
  exact sm_tri xs ys zs h2.1 hz.symm
theorem sm_zero : ∀ xs ys : List Int, xs.length = ys.length → xs.all fok = true → ys.all fok = true → (sm (offs xs ys) = 0 ↔ xs = ys)
  | [], [], _, _, _ => by simp [offs, sm]
  | x :: xs, y :: ys, h, hx, hy => by
    simp only [List.all_cons, Bool.and_eq_true] at hx hy
    have ih := sm_zero xs ys (by simpa using h) hx.2 hy.2
    have h0 := ab_zero hx.1 hy.1
    have hb := ab_bd x y
    have hs := sm_bd (B := 2000000000000) (by omega) (offs xs ys) offs_mem
    show ab x y + sm (offs xs ys) = 0 ↔ _
    constructor
    · intro e
      rw [h0.1 (by omega), ih.1 (by omega)]
    · intro e
      injection e with e1 e2
      have := h0.2 e1; have := ih.2 e2
      omega
theorem off_zero {xs ys : List Int} (h : oko xs ys = true) (hx : xs.all fok = true) (hy : ys.all fok = true) : decide (off xs ys = 0) = eqs xs ys := by
  have h2 : xs.length = ys.length ∧ xs.length ≤ 40 := by unfold oko at h; simpa using h
  rw [off_yes h]
  unfold eqs
  exact decide_eq_decide.2 (sm_zero xs ys h2.1 hx hy)
set_option maxHeartbeats 1000000 in
theorem drawOff (w : World) (a : Option Addr) (len cap : Nat) (hB : Cu.Bytes w w.heap.size a len) (hl : (len : Int) ≤ 1048576) :
    Calls Try.prog 8 #[.slice a len cap] w fun e w' => ∃ vl vp ls ps, e = .returned (.tuple #[vl, vp]) ∧ ls.length ≤ 10 ∧ ps.length ≤ 11 ∧ Own w' w.heap.size vl ls ∧ Own w' w.heap.size vp ps ∧ Below w.heap.size w w' := by
  go_enter Try.func8, Try.ntmps8
  go_wp2_with fail
  refine (Dq.drawGrads _ _ _ _ hB hl).mono ?_
  rintro e w1 ⟨vl, vp, ls, ps, rfl, h1, h2, o1, o2, hb⟩
  go_wp2
  refine bodyPost_ret (v := .tuple #[vl, vp]) (by simp [results, Try.results8, go_sem]) rfl ?_
  exact ⟨vl, vp, ls, ps, rfl, h1, h2, o1, o2, hb⟩
end Go.Proofs.Ytdcbcacgppffgaa.Of
