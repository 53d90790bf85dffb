/-
  RowsOk of the program and of the model.
-/
import Derived.Test.YtmfippeclkmhnaaSeK
import Derived.Deep.QuietTactic
import Derived.BigQuiet
namespace Go.Proofs.Ytmfippeclkmhnaa.Sw7
open Go.RowKit
open Go.Proofs.Ytmfippeclkmhnaa.Li (ret_bool ret_int below_none IsL btw)
open Go.Proofs.Ytmfippeclkmhnaa.Se Go.Proofs.Ytmfippeclkmhnaa.Sv
set_option linter.unusedVariables false

theorem below_box {w : World} {o : Obj} {n : Nat} : Below w.heap.size w ((w.alloc o).drewN n) := ((Below.refl _ _).alloc (Nat.le_refl _) _).trans ((Tm.below_drewN' _ _).mono (by simp))
theorem below_box1 {w : World} {o : Obj} : Below w.heap.size w (w.alloc o) := (Below.refl _ _).alloc (Nat.le_refl _) _
/-- The cells of row k. -/
theorem rd_row {w : World} {a0 a1 a2 : Option Addr} {r : R} (h : Rd w a0 a1 a2 r) (h1 : r.g.length = r.x.length) (h2 : r.ids.length = r.x.length) (k : Nat) (hk : k < r.x.length) :
    ∃ xb xo gb go ib io a' c', a0 = some ⟨xb, xo, none⟩ ∧ a1 = some ⟨gb, go, none⟩ ∧ a2 = some ⟨ib, io, none⟩ ∧ (xb < w.heap.size ∧ gb < w.heap.size ∧ ib < w.heap.size) ∧
      w.cell? ⟨xb, xo + k, none⟩ = some (.slice a' (r.x.getD k []).length c') ∧ IsL w a' (r.x.getD k []) ∧ w.cell? ⟨gb, go + k, none⟩ = some (.int .i64 (r.g.getD k 0)) ∧ w.cell? ⟨ib, io + k, none⟩ = some (.int .i64 (r.ids.getD k 0)) := by
  obtain ⟨i0, i1, i2⟩ := h
  rcases i0 with e | ⟨xb, xo, rfl, hxb, hx⟩
  · rw [e] at hk; simp at hk
  rcases i1 with e | ⟨gb, go, rfl, hgb, hg⟩
  · rw [e] at h1; simp at h1; omega
  rcases i2 with e | ⟨ib, io, rfl, hib, hi⟩
  · rw [e] at h2; simp at h2; omega
  obtain ⟨a', c', hc, hl⟩ := hx k hk
  have e0 : r.x.getD k [] = r.x[k] := by simp [List.getD_eq_getElem?_getD, hk]
  have e1 : r.g.getD k 0 = r.g[k] := by simp [List.getD_eq_getElem?_getD, h1, hk]
  have e2 : r.ids.getD k 0 = r.ids[k] := by simp [List.getD_eq_getElem?_getD, h2, hk]
  rw [e0, e1, e2]
  exact ⟨xb, xo, gb, go, ib, io, a', c', rfl, rfl, rfl, ⟨hxb, hgb, hib⟩, hc, hl, hg k (by omega), hi k (by omega)⟩
set_option maxHeartbeats 400000 in
theorem il2 (x : Int) (w : World) : Calls Try.prog 49 #[.int .i64 x] w fun e w' => e = .returned (.bool (btw x 1 1000)) ∧ w' = w := by
  go_enter Try.func49, Try.ntmps49
  go_wp2
  all_goals go_ret
  all_goals refine ⟨ret_bool ?_, rfl⟩
  all_goals unfold btw
  all_goals simp
  all_goals first | omega | (rw [Bool.eq_iff_iff]; simp; omega)
set_option maxHeartbeats 400000 in
theorem igrad (x : Int) (w : World) : Calls Try.prog 50 #[.int .i64 x] w fun e w' => e = .returned (.bool (btw x (-2000000) 2000000)) ∧ w' = w := by
  go_enter Try.func50, Try.ntmps50
  go_wp2
  all_goals go_ret
  all_goals refine ⟨ret_bool ?_, rfl⟩
  all_goals unfold btw
  all_goals simp
  all_goals first | omega | (rw [Bool.eq_iff_iff]; simp; omega)
theorem igradv (x : Int) (b : Bool) (h : btw x (-2000000) 2000000 = b) (w : World) : Calls Try.prog 50 #[.int .i64 x] w fun e w' => e = .returned (.bool b) ∧ w' = w := by subst h; exact igrad x w
theorem sbtwv (x lo hi : Int) (b : Bool) (h : btw x lo hi = b) (w : World) : Calls Try.prog 24 #[.int .i64 x, .int .i64 lo, .int .i64 hi] w fun e w' => e = .returned (.bool b) ∧ w' = w := by subst h; exact Li.between_any x lo hi w
abbrev shp (n m k : Nat) (lv l2 : Int) : Prop := n ≤ 40 ∧ m = n ∧ k = n ∧ (1 ≤ lv ∧ lv ≤ 16) ∧ (1 ≤ l2 ∧ l2 ≤ 1000)
def shpb (n m k : Nat) (lv l2 : Int) : Bool := decide (shp n m k lv l2)
theorem shpb_yes {n m k : Nat} {lv l2 : Int} (h : shp n m k lv l2) : shpb n m k lv l2 = true := decide_eq_true h
theorem shpb_no {n m k : Nat} {lv l2 : Int} (h : ¬ shp n m k lv l2) : shpb n m k lv l2 = false := decide_eq_false h
abbrev rwk (L : Nat) (G I lv : Int) : Prop := L = 6 ∧ (-2000000 ≤ G ∧ G ≤ 2000000) ∧ (0 ≤ I ∧ I < lv)
def rwkb (L : Nat) (G I lv : Int) : Bool := decide (rwk L G I lv)
theorem rwkb_yes {L : Nat} {G I lv : Int} (h : rwk L G I lv) : rwkb L G I lv = true := decide_eq_true h
theorem rwkb_no {L : Nat} {G I lv : Int} (h : ¬ rwk L G I lv) : rwkb L G I lv = false := decide_eq_false h
set_option maxHeartbeats 1000000 in
theorem ishape (w : World) (a0 a1 a2 : Option Addr) (n m k c0 c1 c2 : Nat) (lv l2 : Int) :
    Calls Try.prog 28 #[.agg #[.slice a0 n c0, .slice a1 m c1, .slice a2 k c2, .int .i64 lv, .int .i64 l2]] w fun e w' => e = .returned (.bool (shpb n m k lv l2)) ∧ Below w.heap.size w w' := by
  cases hl : btw l2 1 1000
  · have HL : Hid (btw l2 1 1000 = false) := hl
    go_enter Try.func28, Try.ntmps28
    go_wp2_with (go_at_call 49; refine (il2 _ _).mono ?_; rintro e w' ⟨rfl, hw⟩; subst w'; rw [hl])
    all_goals go_ret
    all_goals refine ⟨ret_bool ?_, below_box1⟩
    all_goals (have h2 := HL.out; simp only [btw, decide_eq_false_iff_not] at h2; first | (rw [shpb_yes (n := n) (m := m) (k := k) (lv := lv) (l2 := l2) (by unfold shp; omega)]) | (rw [shpb_no (n := n) (m := m) (k := k) (lv := lv) (l2 := l2) (by unfold shp; omega)]))
  · have HL : Hid (btw l2 1 1000 = true) := hl
    go_enter Try.func28, Try.ntmps28
    go_wp2_with (go_at_call 49; refine (il2 _ _).mono ?_; rintro e w' ⟨rfl, hw⟩; subst w'; rw [hl])
    all_goals go_ret
    all_goals refine ⟨ret_bool ?_, below_box1⟩
    all_goals (have h2 := HL.out; simp only [btw, decide_eq_true_iff] at h2; first | (rw [shpb_yes (n := n) (m := m) (k := k) (lv := lv) (l2 := l2) (by unfold shp; omega)]) | (rw [shpb_no (n := n) (m := m) (k := k) (lv := lv) (l2 := l2) (by unfold shp; omega)]))
set_option maxHeartbeats 1000000 in
theorem irow (w : World) (xb xo gb go ib io n m q c0 c1 c2 k L c' : Nat) (a' : Option Addr) (lv l2 G I : Int) (hn : k < n) (hm : k < m) (hq : k < q) (hb : xb < w.heap.size ∧ gb < w.heap.size ∧ ib < w.heap.size)
    (hx : w.cell? ⟨xb, xo + k, none⟩ = some (.slice a' L c')) (hg : w.cell? ⟨gb, go + k, none⟩ = some (.int .i64 G)) (hi : w.cell? ⟨ib, io + k, none⟩ = some (.int .i64 I)) :
    Calls Try.prog 29 #[.agg #[.slice (some ⟨xb, xo, none⟩) n c0, .slice (some ⟨gb, go, none⟩) m c1, .slice (some ⟨ib, io, none⟩) q c2, .int .i64 lv, .int .i64 l2], .int .i64 k] w fun e w' => e = .returned (.bool (rwkb L G I lv)) ∧ Below w.heap.size w w' := by
  obtain ⟨hb0, hb1, hb2⟩ := hb
  have hn' : (k : Int) < n := by omega
  have hm' : (k : Int) < m := by omega
  have hq' : (k : Int) < q := by omega
  by_cases h6 : L = 6
  rotate_left
  · have e6 : ((L : Int) == 6) = false := by simp; omega
    have HR : Hid (rwkb L G I lv = false) := rwkb_no (by unfold rwk; omega)
    go_enter Try.func29, Try.ntmps29
    go_wp2
    go_quiet (fail)
    go_wp2
    go_ret
    exact ⟨ret_bool HR.out.symm, below_box⟩
  have e6 : ((L : Int) == 6) = true := by simp; omega
  cases hgr : btw G (-2000000) 2000000 with
  | false =>
    have HR : Hid (rwkb L G I lv = false) := rwkb_no (by simp only [btw, decide_eq_false_iff_not] at hgr; unfold rwk; omega)
    go_enter Try.func29, Try.ntmps29
    go_wp2
    go_quiet (first | (go_at_call 50; refine Calls.quiet_of_same (igradv _ false hgr _)))
    go_wp2
    go_ret
    exact ⟨ret_bool HR.out.symm, below_box⟩
  | true =>
    by_cases hi0 : 0 ≤ I
    rotate_left
    · have ei : decide (0 ≤ I) = false := by simp; omega
      have HR : Hid (rwkb L G I lv = false) := rwkb_no (fun h => hi0 h.2.2.1)
      go_enter Try.func29, Try.ntmps29
      go_wp2
      go_quiet (first | (go_at_call 50; refine Calls.quiet_of_same (igradv _ true hgr _)))
      go_wp2
      go_ret
      exact ⟨ret_bool HR.out.symm, below_box⟩
    by_cases hi1 : I < lv
    rotate_left
    · have ei : decide (I < lv) = false := by simp; omega
      have HR : Hid (rwkb L G I lv = false) := rwkb_no (fun h => hi1 h.2.2.2)
      go_enter Try.func29, Try.ntmps29
      go_wp2
      go_quiet (first | (go_at_call 50; refine Calls.quiet_of_same (igradv _ true hgr _)))
      go_wp2
      go_ret
      exact ⟨ret_bool HR.out.symm, below_box⟩
    have HR : Hid (rwkb L G I lv = true) := rwkb_yes (by simp only [btw, decide_eq_true_iff] at hgr; exact ⟨h6, hgr, hi0, hi1⟩)
    go_enter Try.func29, Try.ntmps29
    go_wp2
    go_quiet (first | (go_at_call 50; refine Calls.quiet_of_same (igradv _ true hgr _)))
    go_wp2
    go_ret
    exact ⟨ret_bool HR.out.symm, below_box⟩
set_option maxHeartbeats 2000000 in
theorem irows (w : World) (a0 a1 a2 : Option Addr) (c0 c1 c2 : Nat) (r : R) (h : Rd w a0 a1 a2 r) :
    Calls Try.prog 10 #[.agg #[.slice a0 r.x.length c0, .slice a1 r.g.length c1, .slice a2 r.ids.length c2, .int .i64 r.lv, .int .i64 r.l2]] w fun e w' => e = .returned (.bool (rok r)) ∧ Below w.heap.size w w' := by
  go_enter Try.func10, Try.ntmps10
  go_wp2_with fail
  obtain ⟨W, hW, hsz, hB, bx⟩ := new1 w [.slice a0 r.x.length c0, .slice a1 r.g.length c1, .slice a2 r.ids.length c2, .int .i64 r.lv, .int .i64 r.l2] 27
  rw [hW]
  clear hW hsz
  refine (ishape _ _ _ _ _ _ _ _ _ _ _ _).mono ?_
  rintro e w1 ⟨rfl, hb⟩
  have bx := bx.below hb
  have hB := hB.trans (hb.mono hB.size)
  clear hb
  have h := h.below hB
  by_cases hs : Se.shape r
  rotate_left
  · have HR : Hid (rok r = false) := rok_shape hs
    have hd : shpb r.x.length r.g.length r.ids.length r.lv r.l2 = false := shpb_no hs
    rw [hd]
    go_wp2
    go_ret
    exact ⟨ret_bool HR.out.symm, hB⟩
  have hd : shpb r.x.length r.g.length r.ids.length r.lv r.l2 = true := shpb_yes hs
  rw [hd]
  have HS : Hid (Se.shape r) := hs
  have h40 : r.x.length ≤ 40 := hs.1
  clear hd hs
  obtain ⟨_, ⟨x0, x1, x2, x3, x4⟩, _⟩ := wr5 bx
  go_wp2
  clear x0 x1 x2 x3 x4
  go_loopw [10] (fun i wr => ∃ k : Nat, k ≤ r.x.length ∧ i = .int .i64 k ∧ (∀ j, j < k → rowok r j) ∧ Below w1.heap.size w1 wr) (fun i _ => r.x.length - (intOf i).toNat)
  case atStart => exact ⟨0, Nat.zero_le _, rfl, fun j hj => by omega, Below.refl _ _⟩
  case round =>
    obtain ⟨k, hk, rfl, hn, hb⟩ := hrel
    have HN : Hid (∀ j, j < k → rowok r j) := hn
    clear hn
    have hBr := hB.trans (hb.mono hB.size)
    by_cases hlt : k < r.x.length
    · obtain ⟨xb, xo, gb, go, ib, io, a', c', rfl, rfl, rfl, hbl, hx, _, hg, hi⟩ := rd_row (h.below hb) HS.out.2.1 HS.out.2.2.1 k hlt
      obtain ⟨_, ⟨x0, x1, x2, x3, x4⟩, _⟩ := wr5 (bx.below hb)
      go_wp2_with fail
      clear x0 x1 x2 x3 x4
      refine (irow _ xb xo gb go ib io _ _ _ _ _ _ k _ c' a' _ _ _ _ hlt (by rw [HS.out.2.1]; exact hlt) (by rw [HS.out.2.2.1]; exact hlt) hbl hx hg hi).mono ?_
      rintro e w2 ⟨rfl, hb2⟩
      have hBr := hBr.trans (hb2.mono hBr.size)
      have hb := hb.trans (hb2.mono hb.size)
      clear hb2 hx hg hi hbl
      by_cases hr : rowok r k
      · have hd : rwkb (r.x.getD k []).length (r.g.getD k 0) (r.ids.getD k 0) r.lv = true := rwkb_yes hr
        rw [hd]
        have HR : Hid (∀ j, j < k + 1 → rowok r j) := fun j hj => by
          by_cases e : j = k
          · subst e; exact hr
          · exact HN.out j (by omega)
        clear hr hd
        go_wp2
        go_roundw
        case rel => exact ⟨k + 1, by omega, by go_num, HR.out, hb⟩
        case measure => simp [intOf]; omega
      · have hd : rwkb (r.x.getD k []).length (r.g.getD k 0) (r.ids.getD k 0) r.lv = false := rwkb_no hr
        rw [hd]
        have HR : Hid (rok r = false) := rok_row hlt hr
        clear hr hd
        go_wp2
        go_ret
        exact ⟨ret_bool HR.out.symm, hBr⟩
    · have HR : Hid (rok r = true) := rok_all HS.out (fun j hj => HN.out j (by omega))
      go_wp2
      go_ret
      exact ⟨ret_bool HR.out.symm, hBr⟩
end Go.Proofs.Ytmfippeclkmhnaa.Sw7
