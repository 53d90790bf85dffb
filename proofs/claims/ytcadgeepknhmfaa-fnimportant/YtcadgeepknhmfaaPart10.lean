/-
  Contracts that the proof leans on, put together in the order in which they build.
-/
import Derived.Test.YtcadgeepknhmfaaPart9
import Derived.Test.YtcadgeepknhmfaaPart8
import Derived.Lib.ConvBytes
import Derived.Deep.DeepMust
/-
  Which schemas, rows and tables are right: plain functions of lists; contracts of the program's and of its model's tests, which answer just these.
-/
namespace Go.Proofs.Ytcadgeepknhmfaa.Tk
set_option maxRecDepth 20000
open Go.RowKit
open Go.Proofs.Ytcadgeepknhmfaa.Tb
open Go.Proofs.Ytcadgeepknhmfaa.Li (ret_bool btw between_any)

def fok (x : Int) : Bool := decide (-1000000000 ≤ x ∧ x ≤ 1000000000)
def sok (n c : Int) : Bool := decide ((0 ≤ n ∧ n ≤ 3) ∧ (0 ≤ c ∧ c ≤ 2))
def wbyte (c : UInt8) : Bool := decide ((97 ≤ c.toNat ∧ c.toNat ≤ 122) ∨ (48 ≤ c.toNat ∧ c.toNat ≤ 57) ∨ c.toNat = 95)
def wlen (s : ByteArray) : Bool := decide (1 ≤ s.size ∧ s.size ≤ 12)
def wok (s : ByteArray) : Bool := wlen s && s.data.toList.all wbyte
theorem sok_iff {n c : Int} : sok n c = true ↔ (0 ≤ n ∧ n ≤ 3) ∧ (0 ≤ c ∧ c ≤ 2) := by simp [sok]
set_option maxHeartbeats 400000 in
theorem ok_any (x : Int) (w : World) :
    Calls Try.prog 46 #[.int .i64 x] w fun e w' => e = .returned (.bool (fok x)) ∧ w' = w := by
  by_cases h1 : -1000000000 ≤ x <;> by_cases h2 : x ≤ 1000000000
  all_goals
    go_enter Try.func46, Try.ntmps46
    go_wp2
    go_ret
    refine ⟨ret_bool ?_, rfl⟩
    simp [fok, h1, h2]
set_option maxHeartbeats 400000 in
theorem iok_any (x : Int) (w : World) :
    Calls Try.prog 31 #[.int .i64 x] w fun e w' => e = .returned (.bool (fok x)) ∧ w' = w := by
  go_enter Try.func31, Try.ntmps31
  go_wp2_with (go_at_call 46; refine (ok_any _ _).mono ?_; rintro e w' ⟨rfl, rfl⟩)
  go_ret
  exact ⟨rfl, rfl⟩
set_option maxHeartbeats 400000 in
theorem sok_any (x : Int) (w : World) :
    Calls Try.prog 18 #[.int .i64 x] w fun e w' => e = .returned (.bool (fok x)) ∧ w' = w := by
  go_enter Try.func18, Try.ntmps18
  go_wp2_with (go_at_call 17; refine (between_any _ _ _ _).mono ?_; rintro e w' ⟨rfl, rfl⟩)
  go_ret
  exact ⟨rfl, rfl⟩
set_option maxHeartbeats 1000000 in
theorem isch (w : World) (n c : Int) :
    Calls Try.prog 29 #[.agg #[.int .i64 n, .int .i64 c]] w fun e w' => e = .returned (.bool (sok n c)) ∧ Below w.heap.size w w' := by
  by_cases h1 : 0 ≤ n
  · by_cases h2 : n ≤ 3
    · by_cases h3 : 0 ≤ c
      · by_cases h4 : c ≤ 2
        all_goals
          go_enter Try.func29, Try.ntmps29
          go_wp2
          go_ret
          exact ⟨ret_bool (by unfold sok; first | exact (decide_eq_true (by omega)).symm | exact (decide_eq_false (by omega)).symm), by first | exact (Below.refl _ _).alloc (Nat.le_refl _) _ | exact Go.below_drewN ((Below.refl _ _).alloc (Nat.le_refl _) _) _⟩
      · go_enter Try.func29, Try.ntmps29
        go_wp2
        go_ret
        exact ⟨ret_bool (by unfold sok; first | exact (decide_eq_true (by omega)).symm | exact (decide_eq_false (by omega)).symm), by first | exact (Below.refl _ _).alloc (Nat.le_refl _) _ | exact Go.below_drewN ((Below.refl _ _).alloc (Nat.le_refl _) _) _⟩
    · go_enter Try.func29, Try.ntmps29
      go_wp2
      go_ret
      exact ⟨ret_bool (by unfold sok; first | exact (decide_eq_true (by omega)).symm | exact (decide_eq_false (by omega)).symm), by first | exact (Below.refl _ _).alloc (Nat.le_refl _) _ | exact Go.below_drewN ((Below.refl _ _).alloc (Nat.le_refl _) _) _⟩
  · go_enter Try.func29, Try.ntmps29
    go_wp2
    go_ret
    exact ⟨ret_bool (by unfold sok; first | exact (decide_eq_true (by omega)).symm | exact (decide_eq_false (by omega)).symm), by first | exact (Below.refl _ _).alloc (Nat.le_refl _) _ | exact Go.below_drewN ((Below.refl _ _).alloc (Nat.le_refl _) _) _⟩
theorem sok_btw (n c : Int) : sok n c = (btw n 0 3 && btw c 0 2) := by simp [sok, btw]
set_option maxHeartbeats 1000000 in
theorem ssch (w : World) (n c : Int) :
    Calls Try.prog 16 #[.agg #[.int .i64 n, .int .i64 c]] w fun e w' => e = .returned (.bool (sok n c)) ∧ Below w.heap.size w w' := by
  cases h1 : btw n 0 3
  · go_enter Try.func16, Try.ntmps16
    go_wp2_with (go_at_call 17; refine (between_any _ _ _ _).mono ?_; rintro e w' ⟨rfl, rfl⟩)
    go_ret
    exact ⟨ret_bool (by rw [sok_btw, h1]; rfl), (Below.refl _ _).alloc (Nat.le_refl _) _⟩
  · go_enter Try.func16, Try.ntmps16
    go_wp2_with (go_at_call 17; refine (between_any _ _ _ _).mono ?_; rintro e w' ⟨rfl, rfl⟩)
    go_ret
    exact ⟨ret_bool (by rw [sok_btw, h1]; rfl), (Below.refl _ _).alloc (Nat.le_refl _) _⟩
set_option maxHeartbeats 1000000 in
theorem iwbyte (w : World) (c : UInt8) :
    Calls Try.prog 101 #[.int .u8 (c.toNat : Int)] w fun e w' => e = .returned (.bool (wbyte c)) ∧ w' = w := by
  by_cases h1 : 97 ≤ (c.toNat : Int) <;> by_cases h2 : (c.toNat : Int) ≤ 122 <;> by_cases h3 : 48 ≤ (c.toNat : Int) <;> by_cases h4 : (c.toNat : Int) ≤ 57 <;> by_cases h5 : (c.toNat : Int) = 95
  all_goals first | (exfalso; omega) | skip
  all_goals
    go_enter Try.func101, Try.ntmps101
    go_wp2
    go_ret
    refine ⟨ret_bool ?_, rfl⟩
    unfold wbyte
    first | exact (decide_eq_true (by omega)).symm | exact (decide_eq_false (by omega)).symm | (refine Eq.trans (b := false) (beq_eq_false_iff_ne.2 (by omega)) ?_; exact (decide_eq_false (by omega)).symm)
theorem take_snoc (s : ByteArray) (k : Nat) (h : k < s.size) : s.data.toList.take (k + 1) = s.data.toList.take k ++ [s[k]] := by
  rw [List.take_succ_eq_append_getElem (by simpa using h)]; rfl
theorem all_snoc (s : ByteArray) (k : Nat) (h : k < s.size) (ha : (s.data.toList.take k).all wbyte = true) (hb : wbyte s[k] = true) : (s.data.toList.take (k + 1)).all wbyte = true := by
  rw [take_snoc s k h]; simp only [List.all_append, ha, List.all_cons, hb, List.all_nil, Bool.and_true]
theorem all_no (s : ByteArray) (k : Nat) (h : k < s.size) (hb : wbyte s[k] = false) : s.data.toList.all wbyte = false := by
  have hm : s[k] ∈ s.data.toList := by
    have : s[k] = s.data.toList[k]'(by simpa using h) := rfl
    rw [this]; exact List.getElem_mem _
  cases e : s.data.toList.all wbyte
  · rfl
  · have := List.all_eq_true.1 e _ hm
    rw [hb] at this; cases this
theorem all_end (s : ByteArray) (ha : (s.data.toList.take s.size).all wbyte = true) : s.data.toList.all wbyte = true := by
  rwa [List.take_of_length_le (by simp)] at ha
theorem wok_no {s : ByteArray} (h : wlen s = false) : wok s = false := by unfold wok; rw [h]; rfl
theorem wok_yes {s : ByteArray} (h : wlen s = true) : wok s = s.data.toList.all wbyte := by unfold wok; rw [h]; rfl
theorem wlen_btw (s : ByteArray) : btw (s.size : Int) 1 12 = wlen s := by
  unfold btw wlen
  rw [Bool.eq_iff_iff]
  simp only [decide_eq_true_eq]
  omega
theorem btw_az (c : UInt8) (lo hi : Int) : btw (wrap64 (c.toNat : Int)) lo hi = decide (lo ≤ (c.toNat : Int) ∧ (c.toNat : Int) ≤ hi) := by
  have : c.toNat < 256 := c.toNat_lt
  rw [show wrap64 (c.toNat : Int) = (c.toNat : Int) by unfold wrap64; omega]
  rfl
set_option maxHeartbeats 1000000 in
theorem sword (w : World) (s : ByteArray) (hs : s.size ≤ 9223372036854775807) :
    Calls Try.prog 92 #[.string s] w fun e w' => e = .returned (.bool (wok s)) ∧ ∃ n, w' = w.drewN n := by
  cases hw : wlen s
  · have HW : Hid (wok s = false) := wok_no hw
    have hb : btw (s.size : Int) 1 12 = false := (wlen_btw s).trans hw
    clear hw
    go_enter Try.func92, Try.ntmps92
    go_wp2_with (go_at_call 17; refine (between_any _ _ _ _).mono ?_; rintro e w' ⟨rfl, hw'⟩; subst w')
    go_ret
    exact ⟨by rw [HW.out]; rfl, 0, rfl⟩
  · have HW : Hid (wok s = s.data.toList.all wbyte) := wok_yes hw
    have hb : btw (s.size : Int) 1 12 = true := (wlen_btw s).trans hw
    clear hw
    go_enter Try.func92, Try.ntmps92
    go_wp2_with (go_at_call 17; refine (between_any _ _ _ _).mono ?_; rintro e w' ⟨rfl, hw'⟩; subst w')
    go_loopw [3] (fun i wr => ∃ k : Nat, k ≤ s.size ∧ i = .int .i64 k ∧ (s.data.toList.take k).all wbyte = true ∧ ∃ n, wr = w.drewN n) (fun i _ => s.size - (intOf i).toNat)
    case atStart => exact ⟨0, Nat.zero_le _, rfl, rfl, 0, rfl⟩
    case round =>
      obtain ⟨k, hk, rfl, ha, n, rfl⟩ := hrel
      have HA : Hid ((s.data.toList.take k).all wbyte = true) := ha
      clear ha
      by_cases hlt : k < s.size
      · cases hq : wbyte s[k]
        · have HQ : Hid (s.data.toList.all wbyte = false) := all_no s k hlt hq
          have h1 : btw (wrap64 (s[k].toNat : Int)) 97 122 = false := by rw [btw_az]; unfold wbyte at hq; have := of_decide_eq_false hq; exact decide_eq_false (by omega)
          have h2 : btw (wrap64 (s[k].toNat : Int)) 48 57 = false := by rw [btw_az]; unfold wbyte at hq; have := of_decide_eq_false hq; exact decide_eq_false (by omega)
          have h3 : ((s[k].toNat : Int) != 95) = true := by unfold wbyte at hq; have := of_decide_eq_false hq; exact bne_iff_ne.2 (by omega)
          clear hq
          go_wp2_with (go_at_call 17; refine (between_any _ _ _ _).mono ?_; rintro e w' ⟨rfl, hw'⟩; subst w')
          go_ret
          exact ⟨by rw [HW.out, HQ.out]; rfl, _, rfl⟩
        · have HN : Hid ((s.data.toList.take (k + 1)).all wbyte = true) := all_snoc s k hlt HA.out hq
          unfold wbyte at hq
          have hq := of_decide_eq_true hq
          by_cases c1 : 97 ≤ s[k].toNat ∧ s[k].toNat ≤ 122
          · have h1 : btw (wrap64 (s[k].toNat : Int)) 97 122 = true := by rw [btw_az]; exact decide_eq_true (by omega)
            clear hq c1
            go_wp2_with (go_at_call 17; refine (between_any _ _ _ _).mono ?_; rintro e w' ⟨rfl, hw'⟩; subst w')
            go_roundw
            case rel => exact ⟨k + 1, by omega, by go_num, HN.out, _, rfl⟩
            case measure => simp [intOf]; omega
          · have h1 : btw (wrap64 (s[k].toNat : Int)) 97 122 = false := by rw [btw_az]; exact decide_eq_false (by omega)
            by_cases c2 : 48 ≤ s[k].toNat ∧ s[k].toNat ≤ 57
            · have h2 : btw (wrap64 (s[k].toNat : Int)) 48 57 = true := by rw [btw_az]; exact decide_eq_true (by omega)
              clear hq c1 c2
              go_wp2_with (go_at_call 17; refine (between_any _ _ _ _).mono ?_; rintro e w' ⟨rfl, hw'⟩; subst w')
              go_roundw
              case rel => exact ⟨k + 1, by omega, by go_num, HN.out, _, rfl⟩
              case measure => simp [intOf]; omega
            · have h2 : btw (wrap64 (s[k].toNat : Int)) 48 57 = false := by rw [btw_az]; exact decide_eq_false (by omega)
              have h3 : ((s[k].toNat : Int) != 95) = false := bne_eq_false_iff_eq.2 (by omega)
              clear hq c1 c2
              go_wp2_with (go_at_call 17; refine (between_any _ _ _ _).mono ?_; rintro e w' ⟨rfl, hw'⟩; subst w')
              go_roundw
              case rel => exact ⟨k + 1, by omega, by go_num, HN.out, _, rfl⟩
              case measure => simp [intOf]; omega
      · go_wp2
        go_ret
        exact ⟨by rw [HW.out, all_end s (by have := HA.out; rwa [show k = s.size by omega] at this)]; rfl, _, rfl⟩
theorem bytes_below (w : World) (e : TypeId) (s : ByteArray) : Below w.heap.size w (Lib.bytesWorld w e s) :=
  ⟨rfl, rfl, rfl, by rw [Lib.bytesWorld_size]; omega, fun k hk => Lib.bytesWorld_at_old w e s k hk⟩
set_option maxHeartbeats 1000000 in
theorem iword (w : World) (s : ByteArray) (hs : s.size ≤ 9223372036854775807) :
    Calls Try.prog 99 #[.string s] w fun e w' => e = .returned (.bool (wok s)) ∧ Below w.heap.size w w' := by
  cases hw : wlen s
  · have HW : Hid (wok s = false) := wok_no hw
    by_cases h1 : (s.size : Int) < 1
    · clear hw
      go_enter Try.func99, Try.ntmps99
      go_wp2
      go_ret
      exact ⟨by rw [HW.out]; rfl, Below.refl _ _⟩
    · have h2 : 12 < (s.size : Int) := by unfold wlen at hw; have := of_decide_eq_false hw; omega
      clear hw
      go_enter Try.func99, Try.ntmps99
      go_wp2
      go_ret
      exact ⟨by rw [HW.out]; rfl, Below.refl _ _⟩
  · have HW : Hid (wok s = s.data.toList.all wbyte) := wok_yes hw
    have h1 : ¬ (s.size : Int) < 1 := by unfold wlen at hw; have := of_decide_eq_true hw; omega
    have h2 : ¬ 12 < (s.size : Int) := by unfold wlen at hw; have := of_decide_eq_true hw; omega
    clear hw
    have hcv := Lib.run_convert_string_bytes (P := Try.prog) w 9 22 5 s Try.underlying9 Try.underlying22 Try.underlying5
    obtain ⟨W, hW, hB, hc⟩ : ∃ W, Lib.bytesWorld w 5 s = W ∧ Below w.heap.size w W ∧ ∀ j (hj : j < s.size), W.cell? ⟨w.heap.size, j, none⟩ = some (.int .u8 (s[j].toNat : Int)) :=
      ⟨_, rfl, bytes_below _ _ _, fun j hj => by rw [Lib.bytesWorld_cell w _ s j hj]; simp [List.getD, hj]; rfl⟩
    obtain ⟨cap, hcap⟩ : ∃ cap, grownCap w s.size 0 5 = cap := ⟨_, rfl⟩
    rw [hW, hcap] at hcv
    clear hW hcap
    go_enter Try.func99, Try.ntmps99
    go_wp2
    go_loop [16] (fun i => ∃ k : Nat, k ≤ s.size ∧ i = .int .i64 k ∧ (s.data.toList.take k).all wbyte = true) (fun i => s.size - (intOf i).toNat)
    case atStart => exact ⟨0, Nat.zero_le _, rfl, rfl⟩
    case round =>
      obtain ⟨k, hk, rfl, ha⟩ := hrel
      have HA : Hid ((s.data.toList.take k).all wbyte = true) := ha
      clear ha
      by_cases hlt : k < s.size
      · have hck := hc k hlt
        cases hq : wbyte s[k]
        · have HQ : Hid (s.data.toList.all wbyte = false) := all_no s k hlt hq
          go_wp2_with (go_at_call 101; refine (iwbyte _ _).mono ?_; rintro e w' ⟨rfl, hw'⟩; subst w')
          go_ret
          exact ⟨by rw [HW.out, HQ.out]; rfl, hB⟩
        · have HN : Hid ((s.data.toList.take (k + 1)).all wbyte = true) := all_snoc s k hlt HA.out hq
          go_wp2_with (go_at_call 101; refine (iwbyte _ _).mono ?_; rintro e w' ⟨rfl, hw'⟩; subst w')
          go_round
          case rel => exact ⟨k + 1, by omega, by go_num, HN.out⟩
          case measure => simp [intOf]; omega
      · go_wp2
        go_ret
        exact ⟨by rw [HW.out, all_end s (by have := HA.out; rwa [show k = s.size by omega] at this)]; rfl, hB⟩
end Go.Proofs.Ytcadgeepknhmfaa.Tk
/-
  Which rows and tables are right: contracts of SampleOk and TableOk, of the program and of its model, over the plain functions 'rok', 'tok'.
-/
namespace Go.Proofs.Ytcadgeepknhmfaa.Tk
set_option maxRecDepth 20000
open Go.RowKit
open Go.Proofs.Ytcadgeepknhmfaa.Tb
open Go.Proofs.Ytcadgeepknhmfaa.Li (ret_bool btw between_any)

def nok (xs : List Int) : Bool := xs.all fok
def cok (ws : List ByteArray) : Bool := ws.all wok
def rok (n c : Int) (r : Row) : Bool := sok n c && (decide ((r.nums.length : Int) = n) && (decide ((r.cats.length : Int) = c) && (nok r.nums && (cok r.cats && lok r.label))))
theorem rok_sok {n c : Int} {r : Row} (h : sok n c = false) : rok n c r = false := by simp [rok, h]
theorem rok_n {n c : Int} {r : Row} (h : ¬ (r.nums.length : Int) = n) : rok n c r = false := by simp [rok, h]
theorem rok_c {n c : Int} {r : Row} (h : ¬ (r.cats.length : Int) = c) : rok n c r = false := by simp [rok, h]
theorem rok_nok {n c : Int} {r : Row} (h : nok r.nums = false) : rok n c r = false := by simp [rok, h]
theorem rok_cok {n c : Int} {r : Row} (h : cok r.cats = false) : rok n c r = false := by simp [rok, h]
theorem rok_lok {n c : Int} {r : Row} (h : lok r.label = false) : rok n c r = false := by simp [rok, h]
theorem rok_all {n c : Int} {r : Row} (h0 : sok n c = true) (h1 : (r.nums.length : Int) = n) (h2 : (r.cats.length : Int) = c) (h3 : nok r.nums = true) (h4 : cok r.cats = true) (h5 : lok r.label = true) : rok n c r = true := by
  simp [rok, h0, h1, h2, h3, h4, h5]
theorem rok_iff {n c : Int} {r : Row} : rok n c r = true ↔ sok n c = true ∧ (r.nums.length : Int) = n ∧ (r.cats.length : Int) = c ∧ nok r.nums = true ∧ cok r.cats = true ∧ lok r.label = true := by
  simp [rok]
theorem pre_snoc {α : Type} (p : α → Bool) (xs : List α) (k : Nat) (h : k < xs.length) (ha : (xs.take k).all p = true) (hb : p xs[k] = true) : (xs.take (k + 1)).all p = true := by
  rw [List.take_succ_eq_append_getElem h]; simp only [List.all_append, ha, List.all_cons, hb, List.all_nil, Bool.and_true]
theorem pre_no {α : Type} (p : α → Bool) (xs : List α) (k : Nat) (h : k < xs.length) (hb : p xs[k] = false) : xs.all p = false := by
  cases e : xs.all p
  · rfl
  · have := List.all_eq_true.1 e _ (List.getElem_mem h)
    rw [hb] at this; cases this
theorem pre_end {α : Type} (p : α → Bool) (xs : List α) (k : Nat) (h : ¬ k < xs.length) (ha : (xs.take k).all p = true) : xs.all p = true := by
  rwa [List.take_of_length_le (by omega)] at ha
theorem word_le (ws : List ByteArray) (k : Nat) (h : k < ws.length) : ws[k].size ≤ lets ws := by
  have h1 := lets_take ws k h
  have h2 := lets_le ws (k + 1)
  omega
/-- A variable of two cells. -/
def Box2 (w : World) (b : Nat) (v0 v1 : Value) : Prop :=
  b < w.heap.size ∧ w.cell? ⟨b, 0, none⟩ = some v0 ∧ w.cell? ⟨b, 1, none⟩ = some v1
theorem Box2.below {w w1 : World} {b : Nat} {v0 v1 : Value} (h : Box2 w b v0 v1) (hB : Below w.heap.size w w1) : Box2 w1 b v0 v1 := by
  obtain ⟨hlt, c0, c1⟩ := h
  exact ⟨Nat.lt_of_lt_of_le hlt hB.size, (hB.cell (by exact hlt)).trans c0, (hB.cell (by exact hlt)).trans c1⟩
theorem boxes23 (w : World) (s0 s1 v0 v1 v2 : Value) (T U : TypeId) : ∃ W, (w.alloc (.cells #[s0, s1] T)).alloc (.cells #[v0, v1, v2] U) = W ∧ W.heap.size = w.heap.size + 2 ∧ Below w.heap.size w W ∧ Box2 W w.heap.size s0 s1 ∧ Box3 W (w.heap.size + 1) v0 v1 v2 := by
  refine ⟨_, rfl, by simp, ((Below.refl _ _).alloc (Nat.le_refl _) _).alloc (by simp) _, ⟨by simp; omega, ?_, ?_⟩, ?_⟩
  · rw [World.cell?_alloc_lt _ _ ⟨w.heap.size, 0, none⟩ (by simp)]; simp
  · rw [World.cell?_alloc_lt _ _ ⟨w.heap.size, 1, none⟩ (by simp)]; simp
  · have := box3_new (w.alloc (.cells #[s0, s1] T)) v0 v1 v2 U
    rwa [size_alloc] at this
set_option maxHeartbeats 2000000 in
theorem isam (w : World) (n c : Int) (v0 v1 v2 : Value) (r : Row) (hr : RowIs w v0 v1 v2 r) (hl : r.sz ≤ 1048576) :
    Calls Try.prog 98 #[.agg #[.int .i64 n, .int .i64 c], .agg #[v0, v1, v2]] w fun e w' => e = .returned (.bool (rok n c r)) ∧ Below w.heap.size w w' := by
  obtain ⟨a0, c0, a1, c1, rfl, rfl, rfl, i0, i1⟩ := hr
  unfold Row.sz at hl
  obtain ⟨W, hW, hsz, hB, bs, bx⟩ := boxes23 w (.int .i64 n) (.int .i64 c) (.slice a0 r.nums.length c0) (.slice a1 r.cats.length c1) (.int .i64 r.label) 25 78
  have HW : Hid ((w.alloc (.cells #[.int .i64 n, .int .i64 c] 25)).alloc (.cells #[.slice a0 r.nums.length c0, .slice a1 r.cats.length c1, .int .i64 r.label] 78) = W) := hW
  clear hW
  go_enter Try.func98, Try.ntmps98
  go_wp2_with fail
  rw [HW.out]
  clear HW
  refine (isch _ _ _).mono ?_
  rintro e w1 ⟨rfl, hB1⟩
  have bs := bs.below hB1
  have bx := bx.below hB1
  have hB := hB.trans (hB1.mono hB.size)
  clear hB1 hsz
  have i0 := i0.below hB
  have i1 := i1.below hB
  obtain ⟨_, cs0, cs1⟩ := bs
  obtain ⟨hbx, ⟨cx0, cx1, cx2⟩, _⟩ := id bx
  cases hs : sok n c
  · have HR : Hid (rok n c r = false) := rok_sok hs
    go_wp2
    go_ret
    exact ⟨by rw [HR.out]; rfl, hB⟩
  by_cases hn : (r.nums.length : Int) = n
  rotate_left
  · have HR : Hid (rok n c r = false) := rok_n hn
    have hn' : ((r.nums.length : Int) != n) = true := bne_iff_ne.2 hn
    clear hn
    go_wp2
    go_ret
    exact ⟨by rw [HR.out]; rfl, hB⟩
  have hn' : ((r.nums.length : Int) != n) = false := bne_eq_false_iff_eq.2 hn
  by_cases hc : (r.cats.length : Int) = c
  rotate_left
  · have HR : Hid (rok n c r = false) := rok_c hc
    have hc' : ((r.cats.length : Int) != c) = true := bne_iff_ne.2 hc
    clear hc hn
    go_wp2
    go_ret
    exact ⟨by rw [HR.out]; rfl, hB⟩
  have hc' : ((r.cats.length : Int) != c) = false := bne_eq_false_iff_eq.2 hc
  have HS : Hid (sok n c = true ∧ (r.nums.length : Int) = n ∧ (r.cats.length : Int) = c) := ⟨hs, hn, hc⟩
  clear hn hc
  go_wp2
  go_loop [31] (fun i => ∃ k : Nat, k ≤ r.nums.length ∧ i = .int .i64 k ∧ (r.nums.take k).all fok = true) (fun i => r.nums.length - (intOf i).toNat)
  case atStart => exact ⟨0, Nat.zero_le _, rfl, rfl⟩
  case round =>
    obtain ⟨k, hk, rfl, ha⟩ := hrel
    have HA : Hid ((r.nums.take k).all fok = true) := ha
    clear ha
    by_cases hlt : k < r.nums.length
    · rcases i0 with h0 | ⟨xb, xo, rfl, hxb, hxc⟩
      · rw [h0] at hlt; simp at hlt
      · have hcx := hxc k hlt
        clear hxc
        cases hq : fok r.nums[k]
        · have HR : Hid (rok n c r = false) := rok_nok (pre_no fok r.nums k hlt hq)
          go_wp2_with (go_at_call 31; refine (iok_any _ _).mono ?_; rintro e w' ⟨rfl, hw'⟩; subst w')
          go_ret
          exact ⟨by rw [HR.out]; rfl, hB⟩
        · have HN : Hid ((r.nums.take (k + 1)).all fok = true) := pre_snoc fok r.nums k hlt HA.out hq
          go_wp2_with (go_at_call 31; refine (iok_any _ _).mono ?_; rintro e w' ⟨rfl, hw'⟩; subst w')
          go_round
          case rel => exact ⟨k + 1, by omega, by go_num, HN.out⟩
          case measure => simp [intOf]; omega
    · have HN : Hid (nok r.nums = true) := pre_end fok r.nums k hlt HA.out
      clear HA
      go_wp2
      go_loopw [42] (fun i wr => ∃ k : Nat, k ≤ r.cats.length ∧ i = .int .i64 k ∧ (r.cats.take k).all wok = true ∧ Below w1.heap.size w1 wr) (fun i _ => r.cats.length - (intOf i).toNat)
      case atStart => exact ⟨0, Nat.zero_le _, rfl, rfl, Below.refl _ _⟩
      case round =>
        obtain ⟨k, hk, rfl, ha, hBr⟩ := hrel
        have HA : Hid ((r.cats.take k).all wok = true) := ha
        clear ha
        by_cases hlt : k < r.cats.length
        · rcases i1.below hBr with h0 | ⟨xb, xo, rfl, hxb, hxc⟩
          · rw [h0] at hlt; simp at hlt
          · have hcx := hxc k hlt
            have hwl := word_le r.cats k hlt
            clear hxc
            go_wp2_with fail
            refine (iword _ _ (by omega)).mono ?_
            rintro e w2 ⟨rfl, hB2⟩
            have hBr := hBr.trans (hB2.mono hBr.size)
            have hB := hB.trans (hBr.mono hB.size)
            clear hB2
            cases hq : wok r.cats[k]
            · have HR : Hid (rok n c r = false) := rok_cok (pre_no wok r.cats k hlt hq)
              go_wp2
              go_ret
              exact ⟨by rw [HR.out]; rfl, hB⟩
            · have HC : Hid ((r.cats.take (k + 1)).all wok = true) := pre_snoc wok r.cats k hlt HA.out hq
              go_wp2
              go_roundw
              case rel => exact ⟨k + 1, by omega, by go_num, HC.out, hBr⟩
              case measure => simp [intOf]; omega
        · have HC : Hid (cok r.cats = true) := pre_end wok r.cats k hlt HA.out
          have hB := hB.trans (hBr.mono hB.size)
          have bx := bx.below hBr
          obtain ⟨_, ⟨cx0, cx1, cx2⟩, _⟩ := bx
          have HR : Hid (rok n c r = lok r.label) := by
            cases hq : lok r.label
            · exact rok_lok hq
            · exact rok_all HS.out.1 HS.out.2.1 HS.out.2.2 HN.out HC.out hq
          clear hBr HA
          go_wp2_with (go_at_call 100; refine (ilab _ _).mono ?_; rintro e w' ⟨rfl, hw'⟩; subst w')
          go_ret
          exact ⟨by rw [HR.out]; rfl, hB⟩
set_option maxHeartbeats 2000000 in
theorem ssam (w : World) (n c : Int) (v0 v1 v2 : Value) (r : Row) (hr : RowIs w v0 v1 v2 r) (hl : r.sz ≤ 1048576) :
    Calls Try.prog 70 #[.agg #[.int .i64 n, .int .i64 c], .agg #[v0, v1, v2]] w fun e w' => e = .returned (.bool (rok n c r)) ∧ Below w.heap.size w w' := by
  obtain ⟨a0, c0, a1, c1, rfl, rfl, rfl, i0, i1⟩ := hr
  unfold Row.sz at hl
  obtain ⟨W, hW, hsz, hB, bs, bx⟩ := boxes23 w (.int .i64 n) (.int .i64 c) (.slice a0 r.nums.length c0) (.slice a1 r.cats.length c1) (.int .i64 r.label) 25 78
  have HW : Hid ((w.alloc (.cells #[.int .i64 n, .int .i64 c] 25)).alloc (.cells #[.slice a0 r.nums.length c0, .slice a1 r.cats.length c1, .int .i64 r.label] 78) = W) := hW
  clear hW
  go_enter Try.func70, Try.ntmps70
  go_wp2_with fail
  rw [HW.out]
  clear HW
  refine (ssch _ _ _).mono ?_
  rintro e w1 ⟨rfl, hB1⟩
  have bs := bs.below hB1
  have bx := bx.below hB1
  have hB := hB.trans (hB1.mono hB.size)
  clear hB1 hsz
  have i0 := i0.below hB
  have i1 := i1.below hB
  obtain ⟨_, cs0, cs1⟩ := bs
  obtain ⟨hbx, ⟨cx0, cx1, cx2⟩, _⟩ := id bx
  cases hs : sok n c
  · have HR : Hid (rok n c r = false) := rok_sok hs
    go_wp2
    go_ret
    exact ⟨by rw [HR.out]; rfl, hB⟩
  by_cases hn : (r.nums.length : Int) = n
  rotate_left
  · have HR : Hid (rok n c r = false) := rok_n hn
    have hn' : ((r.nums.length : Int) != n) = true := bne_iff_ne.2 hn
    clear hn
    go_wp2
    go_ret
    exact ⟨by rw [HR.out]; rfl, hB⟩
  have hn' : ((r.nums.length : Int) != n) = false := bne_eq_false_iff_eq.2 hn
  by_cases hc : (r.cats.length : Int) = c
  rotate_left
  · have HR : Hid (rok n c r = false) := rok_c hc
    have hc' : ((r.cats.length : Int) != c) = true := bne_iff_ne.2 hc
    clear hc hn
    go_wp2
    go_ret
    exact ⟨by rw [HR.out]; rfl, hB⟩
  have hc' : ((r.cats.length : Int) != c) = false := bne_eq_false_iff_eq.2 hc
  cases hlb : lok r.label
  · have HR : Hid (rok n c r = false) := rok_lok hlb
    clear hn hc
    go_wp2_with (go_at_call 78; refine (slab _ _).mono ?_; rintro e w' ⟨rfl, hw'⟩; subst w')
    go_ret
    exact ⟨by rw [HR.out]; rfl, hB⟩
  have HS : Hid (sok n c = true ∧ (r.nums.length : Int) = n ∧ (r.cats.length : Int) = c ∧ lok r.label = true) := ⟨hs, hn, hc, hlb⟩
  clear hn hc
  go_wp2_with (go_at_call 78; refine (slab _ _).mono ?_; rintro e w' ⟨rfl, hw'⟩; subst w')
  clear hlb
  go_loopw [5] (fun i wr => ∃ k : Nat, k ≤ r.nums.length ∧ i = .int .i64 k ∧ (r.nums.take k).all fok = true ∧ ∃ n, wr = w1.drewN n) (fun i _ => r.nums.length - (intOf i).toNat)
  case atStart => exact ⟨0, Nat.zero_le _, rfl, rfl, 0, rfl⟩
  case round =>
    obtain ⟨k, hk, rfl, ha, nd, rfl⟩ := hrel
    have HA : Hid ((r.nums.take k).all fok = true) := ha
    clear ha
    by_cases hlt : k < r.nums.length
    · rcases i0 with h0 | ⟨xb, xo, rfl, hxb, hxc⟩
      · rw [h0] at hlt; simp at hlt
      · have hcx := hxc k hlt
        clear hxc
        cases hq : fok r.nums[k]
        · have HR : Hid (rok n c r = false) := rok_nok (pre_no fok r.nums k hlt hq)
          go_wp2_with (go_at_call 18; refine (sok_any _ _).mono ?_; rintro e w' ⟨rfl, hw'⟩; subst w')
          go_ret
          exact ⟨by rw [HR.out]; rfl, Go.below_drewN hB _⟩
        · have HN : Hid ((r.nums.take (k + 1)).all fok = true) := pre_snoc fok r.nums k hlt HA.out hq
          go_wp2_with (go_at_call 18; refine (sok_any _ _).mono ?_; rintro e w' ⟨rfl, hw'⟩; subst w')
          go_roundw
          case rel => exact ⟨k + 1, by omega, by go_num, HN.out, _, rfl⟩
          case measure => simp [intOf]; omega
    · have HN : Hid (nok r.nums = true) := pre_end fok r.nums k hlt HA.out
      clear HA
      go_wp2
      go_loopw [6] (fun i wr => ∃ k : Nat, k ≤ r.cats.length ∧ i = .int .i64 k ∧ (r.cats.take k).all wok = true ∧ ∃ n, wr = w1.drewN n) (fun i _ => r.cats.length - (intOf i).toNat)
      case atStart => exact ⟨0, Nat.zero_le _, rfl, rfl, _, rfl⟩
      case round =>
        obtain ⟨k, hk, rfl, ha, nd', rfl⟩ := hrel
        have HA : Hid ((r.cats.take k).all wok = true) := ha
        clear ha
        by_cases hlt : k < r.cats.length
        · rcases i1 with h0 | ⟨xb, xo, rfl, hxb, hxc⟩
          · rw [h0] at hlt; simp at hlt
          · have hcx := hxc k hlt
            have hwl := word_le r.cats k hlt
            clear hxc
            go_wp2_with fail
            refine (sword _ _ (by omega)).mono ?_
            rintro e w2 ⟨rfl, nd2, hw2⟩
            subst w2
            cases hq : wok r.cats[k]
            · have HR : Hid (rok n c r = false) := rok_cok (pre_no wok r.cats k hlt hq)
              go_wp2
              go_ret
              exact ⟨by rw [HR.out]; rfl, by first | exact Go.below_drewN hB _ | exact Go.below_drewN (Go.below_drewN hB _) _⟩
            · have HC : Hid ((r.cats.take (k + 1)).all wok = true) := pre_snoc wok r.cats k hlt HA.out hq
              go_wp2
              go_roundw
              case rel => exact ⟨k + 1, by omega, by go_num, HC.out, _, by first | rfl | exact World.drewN_drewN _ _ _⟩
              case measure => simp [intOf]; omega
        · have HC : Hid (cok r.cats = true) := pre_end wok r.cats k hlt HA.out
          have HR : Hid (rok n c r = true) := rok_all HS.out.1 HS.out.2.1 HS.out.2.2.1 HN.out HC.out HS.out.2.2.2
          clear HA
          go_wp2
          go_ret
          exact ⟨by rw [HR.out]; rfl, Go.below_drewN hB _⟩
def tok (n c : Int) (rs : List Row) : Bool := sok n c && (decide (rs.length ≤ 40) && rs.all (rok n c))
theorem tok_sok {n c : Int} {rs : List Row} (h : sok n c = false) : tok n c rs = false := by simp [tok, h]
theorem tok_len {n c : Int} {rs : List Row} (h : ¬ rs.length ≤ 40) : tok n c rs = false := by simp [tok, h]
theorem tok_row {n c : Int} {rs : List Row} (h : rs.all (rok n c) = false) : tok n c rs = false := by unfold tok; rw [h]; simp
theorem tok_all {n c : Int} {rs : List Row} (h0 : sok n c = true) (h1 : rs.length ≤ 40) (h2 : rs.all (rok n c) = true) : tok n c rs = true := by unfold tok; rw [h0, h2]; simp [h1]
theorem tok_iff {n c : Int} {rs : List Row} : tok n c rs = true ↔ sok n c = true ∧ rs.length ≤ 40 ∧ rs.all (rok n c) = true := by unfold tok; simp
theorem box3_new' (w : World) (v0 v1 v2 : Value) (T : TypeId) : ∃ W, w.alloc (.cells #[v0, v1, v2] T) = W ∧ W.heap.size = w.heap.size + 1 ∧ Below w.heap.size w W ∧ Box3 W w.heap.size v0 v1 v2 :=
  ⟨_, rfl, by simp, (Below.refl _ _).alloc (Nat.le_refl _) _, box3_new _ _ _ _ _⟩
set_option maxHeartbeats 2000000 in
theorem itab (w : World) (n c : Int) (a : Option Addr) (cap : Nat) (rs : List Row) (hx : IsR w a rs) (hl : rs.length + szR rs ≤ 1048576) :
    Calls Try.prog 90 #[.agg #[.int .i64 n, .int .i64 c, .slice a rs.length cap]] w fun e w' => e = .returned (.bool (tok n c rs)) ∧ Below w.heap.size w w' := by
  obtain ⟨W, hW, hsz, hB, bx⟩ := box3_new' w (.int .i64 n) (.int .i64 c) (.slice a rs.length cap) 62
  have HW : Hid (w.alloc (.cells #[.int .i64 n, .int .i64 c, .slice a rs.length cap] 62) = W) := hW
  clear hW
  go_enter Try.func90, Try.ntmps90
  go_wp2_with fail
  rw [HW.out]
  clear HW
  refine (isch _ _ _).mono ?_
  rintro e w1 ⟨rfl, hB1⟩
  have bx := bx.below hB1
  have hB := hB.trans (hB1.mono hB.size)
  clear hB1 hsz
  have hx := hx.below hB
  obtain ⟨hbx, ⟨cx0, cx1, cx2⟩, _⟩ := id bx
  cases hs : sok n c
  · have HR : Hid (tok n c rs = false) := tok_sok hs
    go_wp2
    go_ret
    exact ⟨by rw [HR.out]; rfl, hB⟩
  by_cases hn : rs.length ≤ 40
  rotate_left
  · have HR : Hid (tok n c rs = false) := tok_len hn
    have hn' : (40 : Int) < rs.length := by omega
    clear hn
    go_wp2
    go_ret
    exact ⟨by rw [HR.out]; rfl, hB⟩
  have hn' : ¬ (40 : Int) < rs.length := by omega
  have HS : Hid (sok n c = true) := hs
  clear hs
  go_wp2
  go_loopw [18] (fun i wr => ∃ k : Nat, k ≤ rs.length ∧ i = .int .i64 k ∧ (rs.take k).all (rok n c) = true ∧ Below w1.heap.size w1 wr) (fun i _ => rs.length - (intOf i).toNat)
  case atStart => exact ⟨0, Nat.zero_le _, rfl, rfl, Below.refl _ _⟩
  case round =>
    obtain ⟨k, hk, rfl, ha, hBr⟩ := hrel
    have HA : Hid ((rs.take k).all (rok n c) = true) := ha
    clear ha
    by_cases hlt : k < rs.length
    · rcases hx.below hBr with h0 | ⟨xb, xo, rfl, hxb, hxc⟩
      · rw [h0] at hlt; simp at hlt
      · obtain ⟨v0, v1, v2, ⟨d0, d1, d2⟩, hr⟩ := hxc k hlt
        have hz := szR_at rs k hlt
        have bxr := bx.below hBr
        obtain ⟨_, ⟨cx0, cx1, cx2⟩, _⟩ := id bxr
        clear hxc
        have hr' := hr
        obtain ⟨a0, q0, a1, q1, rfl, rfl, rfl, _, _⟩ := hr'
        go_wp2_with fail
        have hBa : Below wr.heap.size wr (wr.alloc (.cells #[.slice a0 rs[k].nums.length q0, .slice a1 rs[k].cats.length q1, .int .i64 rs[k].label] 78)) := (Below.refl _ _).alloc (Nat.le_refl _) _
        refine (isam _ _ _ _ _ _ rs[k] (hr.below hBa) (by omega)).mono ?_
        rintro e w2 ⟨rfl, hB2⟩
        have hB2 := hBa.trans (hB2.mono hBa.size)
        have hBr := hBr.trans (hB2.mono hBr.size)
        have hB := hB.trans (hBr.mono hB.size)
        clear hB2 hBa hr d0 d1 d2
        cases hq : rok n c rs[k]
        · have HR : Hid (tok n c rs = false) := tok_row (pre_no _ rs k hlt hq)
          go_wp2
          go_ret
          exact ⟨by rw [HR.out]; rfl, hB⟩
        · have HN : Hid ((rs.take (k + 1)).all (rok n c) = true) := pre_snoc _ rs k hlt HA.out hq
          go_wp2
          go_roundw
          case rel => exact ⟨k + 1, by omega, by go_num, HN.out, hBr⟩
          case measure => simp [intOf]; omega
    · have HR : Hid (tok n c rs = true) := tok_all HS.out hn (pre_end _ rs k hlt HA.out)
      have hB := hB.trans (hBr.mono hB.size)
      go_wp2
      go_ret
      exact ⟨by rw [HR.out]; rfl, hB⟩
set_option maxHeartbeats 2000000 in
theorem stab (w : World) (n c : Int) (a : Option Addr) (cap : Nat) (rs : List Row) (hx : IsR w a rs) (hl : rs.length + szR rs ≤ 1048576) :
    Calls Try.prog 51 #[.agg #[.int .i64 n, .int .i64 c, .slice a rs.length cap]] w fun e w' => e = .returned (.bool (tok n c rs)) ∧ Below w.heap.size w w' := by
  obtain ⟨W, hW, hsz, hB, bx⟩ := box3_new' w (.int .i64 n) (.int .i64 c) (.slice a rs.length cap) 62
  have HW : Hid (w.alloc (.cells #[.int .i64 n, .int .i64 c, .slice a rs.length cap] 62) = W) := hW
  clear hW
  go_enter Try.func51, Try.ntmps51
  go_wp2_with fail
  rw [HW.out]
  clear HW
  refine (ssch _ _ _).mono ?_
  rintro e w1 ⟨rfl, hB1⟩
  have bx := bx.below hB1
  have hB := hB.trans (hB1.mono hB.size)
  clear hB1 hsz
  have hx := hx.below hB
  obtain ⟨hbx, ⟨cx0, cx1, cx2⟩, _⟩ := id bx
  cases hs : sok n c
  · have HR : Hid (tok n c rs = false) := tok_sok hs
    go_wp2
    go_ret
    exact ⟨by rw [HR.out]; rfl, hB⟩
  by_cases hn : rs.length ≤ 40
  rotate_left
  · have HR : Hid (tok n c rs = false) := tok_len hn
    have hn' : (40 : Int) < rs.length := by omega
    clear hn
    go_wp2
    go_ret
    exact ⟨by rw [HR.out]; rfl, hB⟩
  have hn' : ¬ (40 : Int) < rs.length := by omega
  have HS : Hid (sok n c = true) := hs
  clear hs
  go_wp2
  go_loopw [3] (fun i wr => ∃ k : Nat, k ≤ rs.length ∧ i = .int .i64 k ∧ (rs.take k).all (rok n c) = true ∧ Below w1.heap.size w1 wr) (fun i _ => rs.length - (intOf i).toNat)
  case atStart => exact ⟨0, Nat.zero_le _, rfl, rfl, Below.refl _ _⟩
  case round =>
    obtain ⟨k, hk, rfl, ha, hBr⟩ := hrel
    have HA : Hid ((rs.take k).all (rok n c) = true) := ha
    clear ha
    have bxr := bx.below hBr
    obtain ⟨_, ⟨cx0, cx1, cx2⟩, _⟩ := id bxr
    by_cases hlt : k < rs.length
    · rcases hx.below hBr with h0 | ⟨xb, xo, rfl, hxb, hxc⟩
      · rw [h0] at hlt; simp at hlt
      · obtain ⟨v0, v1, v2, ⟨d0, d1, d2⟩, hr⟩ := hxc k hlt
        have hz := szR_at rs k hlt
        clear hxc
        go_wp2
        go_region_with (go_at_call 70; refine (ssam _ _ _ _ _ _ rs[k] (by exact hr) (by omega)).mono ?_; rintro e w2 ⟨rfl, hB2⟩)
        all_goals
          have hBr : Below w1.heap.size w1 w2 := by first | exact hBr.trans (hB2.mono hBr.size) | exact hBr.drew.trans (hB2.mono hBr.size)
          have hB := hB.trans (hBr.mono hB.size)
          clear hB2 hr d0 d1 d2
          cases hq : rok n c rs[k]
          · have HR : Hid (tok n c rs = false) := tok_row (pre_no _ rs k hlt hq)
            go_wp2
            go_ret
            exact ⟨by rw [HR.out]; rfl, hB⟩
          · have HN : Hid ((rs.take (k + 1)).all (rok n c) = true) := pre_snoc _ rs k hlt HA.out hq
            go_wp2
            go_roundw
            case rel => exact ⟨k + 1, by omega, by go_num, HN.out, hBr⟩
            case measure => simp [intOf]; omega
    · have HR : Hid (tok n c rs = true) := tok_all HS.out hn (pre_end _ rs k hlt HA.out)
      have hB := hB.trans (hBr.mono hB.size)
      go_wp2
      go_ret
      exact ⟨by rw [HR.out]; rfl, hB⟩
end Go.Proofs.Ytcadgeepknhmfaa.Tk
/-
  Small laws for the walks over tables: frames behind a draw; a row of the call's own; a box of two cells.
-/
namespace Go.Proofs.Ytcadgeepknhmfaa.Tk
set_option maxRecDepth 20000
open Go.RowKit
open Go.Proofs.Ytcadgeepknhmfaa.Tb
/-- A draw turns nothing in memory. -/
theorem undrew {w w1 : World} (h : Below w.drew.heap.size w.drew w1) : Below w.heap.size w w1 := ⟨h.os, h.tape, h.output, h.size, h.block⟩
theorem rowIs_own {w : World} {B : Nat} {u0 u1 : Value} {r : Row} (o0 : Li.Own w B u0 r.nums) (o1 : Ls.Own w B u1 r.cats) : RowIs w u0 u1 (.int .i64 r.label) r := by
  obtain ⟨a0, q0, e0, i0⟩ := o0.isl
  obtain ⟨a1, q1, e1, i1⟩ := o1.iss
  exact ⟨a0, q0, a1, q1, e0, e1, rfl, i0, i1⟩
end Go.Proofs.Ytcadgeepknhmfaa.Tk
/-
  Marks in a table of the call's own: what stands in it afterwards; nothing outside its blocks turns; whether the marks are held.
-/
namespace Go.Proofs.Ytcadgeepknhmfaa.Mk
set_option maxRecDepth 100000
open Go.RowKit
open Go.Proofs.Ytcadgeepknhmfaa.Tb
open Go.Proofs.Ytcadgeepknhmfaa.Li (ret_bool grown_refl grown_trans grown_set below_none)

/-- Outside the blocks lo .. hi - 1 nothing that was there has turned. -/
structure Win (lo hi : Nat) (w w' : World) : Prop where
  os : w'.os = w.os
  tape : w'.tape = w.tape
  output : w'.output = w.output
  size : w.heap.size ≤ w'.heap.size
  block : ∀ k, k < w.heap.size → (k < lo ∨ hi ≤ k) → w'.heap[k]? = w.heap[k]?
theorem Win.refl (lo hi : Nat) (w : World) : Win lo hi w w := ⟨rfl, rfl, rfl, Nat.le_refl _, fun _ _ _ => rfl⟩
theorem Win.trans {lo hi : Nat} {a b c : World} (h : Win lo hi a b) (h' : Win lo hi b c) : Win lo hi a c :=
  ⟨h'.os.trans h.os, h'.tape.trans h.tape, h'.output.trans h.output, Nat.le_trans h.size h'.size, fun k hk ho => (h'.block k (Nat.lt_of_lt_of_le hk h.size) ho).trans (h.block k hk ho)⟩
theorem Win.grown {lo hi : Nat} {a w w' : World} {row : Option Nat} (h : Win lo hi a w) (hg : w.grownBy w' row) (hr : ∀ k, row = some k → lo ≤ k ∧ k < hi) : Win lo hi a w' :=
  h.trans ⟨hg.os, hg.tape, hg.output, hg.size, fun k hk ho => hg.block k hk (fun e => by have := hr k e.symm; omega)⟩
theorem Win.below {lo hi : Nat} {a w w' : World} (h : Win lo hi a w) (hB : Below w.heap.size w w') : Win lo hi a w' :=
  h.trans ⟨hB.os, hB.tape, hB.output, hB.size, fun k hk _ => hB.block k hk⟩
theorem Win.toBelow {lo hi : Nat} {w w' : World} (h : Win lo hi w w') (hlo : lo ≤ w.heap.size) : Below lo w w' :=
  ⟨h.os, h.tape, h.output, h.size, fun k hk => h.block k (by omega) (.inl hk)⟩
theorem Win.own {lo hi B : Nat} {w w' : World} {v : Value} {xs : List Int} (h : Win lo hi w w') (o : Li.Own w B v xs) (hB : ∀ k, v.ownBlock = some k → k < lo ∨ hi ≤ k) : Li.Own w' B v xs :=
  ownsRow_at o fun k e => h.block k (o.ge k e).2 (hB k e)
theorem Win.sown {lo hi B : Nat} {w w' : World} {v : Value} {xs : List ByteArray} (h : Win lo hi w w') (o : Ls.Own w B v xs) (hB : ∀ k, v.ownBlock = some k → k < lo ∨ hi ≤ k) : Ls.Own w' B v xs :=
  ownsRow_at o fun k e => h.block k (o.ge k e).2 (hB k e)
/-- A row of the table is written over: its numbers, its words, its label. -/
theorem own_marked {wr w1 w2 : World} {lo hi g i cap : Nat} {v : Value} {xs : List Value} {V0 V1 : Nat → Value} {l : List Row} (hil : i < l.length)
    (hg : ∀ k, v.ownBlock = some k → k = g ∧ k < hi) (hvg : v.ownBlock = some g) (hown : wr.ownsRow lo 78 3 v l.length xs) (hn : Nest wr lo g V0 V1 xs l l.length)
    (hh : ∀ i, i < l.length → (∀ b, (V0 i).ownBlock = some b → b < hi) ∧ (∀ b, (V1 i).ownBlock = some b → b < hi))
    {ys : List Int} {zs : List ByteArray} {lab : Int} (o0 : Li.Own w1 lo (V0 i) ys) (g1 : wr.grownBy w1 (V0 i).ownBlock) (o1 : Ls.Own w2 lo (V1 i) zs) (g2 : w1.grownBy w2 (V1 i).ownBlock)
    (hv : v = .slice (some ⟨g, 0, none⟩) l.length cap) :
    OwnT (w2.setCell ⟨g, i * 3 + 2, none⟩ (.int .i64 lab)) lo hi v (l.set i ⟨ys, zs, lab⟩) := by
  subst hv
  obtain ⟨hcells, hsp1, hsp2⟩ := hn
  have ga : ∀ (u : Value), u.ownBlock ≠ some g → ∀ {w w' : World} (k : Nat), w.grownBy w' u.ownBlock → k = g → k < w.heap.size → w'.heap[k]? = w.heap[k]? := fun u hu w w' k hgr e hk => hgr.block k hk (by subst e; exact fun e' => hu e'.symm)
  have hgl : g < wr.heap.size := (World.ownsRow.lt hown g rfl).2
  have own1 : w1.ownsRow lo 78 3 (.slice (some ⟨g, 0, none⟩) l.length cap) l.length xs := ownsRow_at hown fun k e => ga _ (hsp1 i hil).1 k g1 (hg k e).1 (World.ownsRow.lt hown k e).2
  have own2 : w2.ownsRow lo 78 3 (.slice (some ⟨g, 0, none⟩) l.length cap) l.length xs := ownsRow_at own1 fun k e => ga _ (hsp1 i hil).2 k g2 (hg k e).1 (World.ownsRow.lt own1 k e).2
  have hxl := hown.1
  have st := (World.ownsRow.stored own2 (i * 3 + 2) (.int .i64 lab)).1
  have off : ∀ {w w' : World} (u u' : Value) (k : Nat), w.grownBy w' u'.ownBlock → apart u u' → u.ownBlock = some k → k < w.heap.size → w'.heap[k]? = w.heap[k]? := fun u u' k hgr ha e hk => hgr.block k hk (by
    rcases ha with h | h
    · rw [e] at h; cases h
    · rw [← e]; exact h)
  have off' : ∀ {w w' : World} (u u' : Value) (k : Nat), w.grownBy w' u'.ownBlock → apart u' u → u.ownBlock = some k → k < w.heap.size → w'.heap[k]? = w.heap[k]? := fun u u' k hgr ha e hk => hgr.block k hk (by
    rcases ha with h | h
    · rw [h]; simp
    · rw [← e]; exact fun e' => h e'.symm)
  have tail : ∀ (u : Value) (k : Nat), u.ownBlock ≠ some g → u.ownBlock = some k → (w2.setCell ⟨g, i * 3 + 2, none⟩ (.int .i64 lab)).heap[k]? = w2.heap[k]? := fun u k hu e => Below.heap_setCell _ _ _ _ (by simp only; rintro rfl; exact hu e)
  refine ⟨g, xs.set (i * 3 + 2) (.int .i64 lab), V0, V1, fun k e => hg k e, ?_, ⟨fun j hj hjk => ?_, ?_⟩, ?_⟩
  · rw [List.length_set]; exact st
  · have hj' : j < l.length := by simpa using hj
    by_cases e : j = i
    · subst e
      obtain ⟨⟨c0, c1, c2⟩, _, _⟩ := hcells j hj' hj'
      simp only [List.getElem_set_self]
      refine ⟨⟨?_, ?_, ?_⟩, ?_, ?_⟩
      · rw [List.getElem?_set, if_neg (by omega)]; exact c0
      · rw [List.getElem?_set, if_neg (by omega)]; exact c1
      · rw [List.getElem?_set, if_pos rfl, if_pos (by omega)]
      · have o0' : Li.Own w2 lo (V0 j) ys := ownsRow_at o0 fun k e => off _ _ k g2 (hsp2 j j hj' hj').2 e (o0.ge k e).2
        exact ownsRow_at o0' fun k e => tail _ k (hsp1 j hj').1 e
      · exact ownsRow_at o1 fun k e => tail _ k (hsp1 j hj').2 e
    · obtain ⟨⟨c0, c1, c2⟩, p0, p1⟩ := hcells j hj' hj'
      have el : (l.set i ⟨ys, zs, lab⟩)[j] = l[j] := List.getElem_set_ne (fun h => e h.symm) _
      rw [el]
      refine ⟨⟨?_, ?_, ?_⟩, ?_, ?_⟩
      · rw [List.getElem?_set, if_neg (by omega)]; exact c0
      · rw [List.getElem?_set, if_neg (by omega)]; exact c1
      · rw [List.getElem?_set, if_neg (by omega)]; exact c2
      · have q1 : Li.Own w1 lo (V0 j) l[j].nums := ownsRow_at p0 fun k ek => off _ _ k g1 ((hsp2 j i hj' hil).1 e).1 ek (p0.ge k ek).2
        have q2 : Li.Own w2 lo (V0 j) l[j].nums := ownsRow_at q1 fun k ek => off _ _ k g2 (hsp2 j i hj' hil).2 ek (q1.ge k ek).2
        exact ownsRow_at q2 fun k ek => tail _ k (hsp1 j hj').1 ek
      · have q1 : Ls.Own w1 lo (V1 j) l[j].cats := ownsRow_at p1 fun k ek => off' _ _ k g1 (hsp2 i j hil hj').2 ek (p1.ge k ek).2
        have q2 : Ls.Own w2 lo (V1 j) l[j].cats := ownsRow_at q1 fun k ek => off _ _ k g2 ((hsp2 j i hj' hil).1 e).2 ek (q1.ge k ek).2
        exact ownsRow_at q2 fun k ek => tail _ k (hsp1 j hj').2 ek
  · rw [List.length_set]; exact ⟨hsp1, hsp2⟩
  · rw [List.length_set]; exact hh
def wt (r : Row) : Nat := r.nums.length + r.cats.length + 1
def wts : List Row → Nat
  | [] => 0
  | r :: rs => wt r + wts rs
theorem wts_take (rs : List Row) (k : Nat) (h : k < rs.length) : wts (rs.take (k + 1)) = wts (rs.take k) + wt rs[k] := by
  induction rs generalizing k with
  | nil => simp at h
  | cons s r ih =>
    cases k with
    | zero => simp [wts]
    | succ k =>
      simp only [List.take_succ_cons, wts, List.getElem_cons_succ]
      rw [ih k (by simpa using h)]
      omega
theorem wts_le (rs : List Row) : wts rs ≤ rs.length + szR rs := by
  induction rs with
  | nil => simp [wts]
  | cons r rs ih => simp only [wts, wt, szR, Row.sz, List.length_cons]; omega
theorem wts_pre (rs : List Row) (k : Nat) : wts (rs.take k) ≤ wts rs := by
  induction rs generalizing k with
  | nil => simp
  | cons s r ih =>
    cases k with
    | zero => simp [wts]
    | succ k => simp only [List.take_succ_cons, wts]; have := ih k; omega
def mrow (k : Nat) (r : Row) : Row := ⟨Li.marks k r.nums.length, mtexts (k + r.nums.length) r.cats.length, ((k + r.nums.length + r.cats.length : Nat) : Int)⟩
def mrows (k : Nat) (rs : List Row) : List Row := rs.mapIdx fun j r => mrow (k + wts (rs.take j)) r
theorem mrows_length (k : Nat) (rs : List Row) : (mrows k rs).length = rs.length := by simp [mrows]
theorem mrows_get (k : Nat) (rs : List Row) (j : Nat) (h : j < (mrows k rs).length) : (mrows k rs)[j] = mrow (k + wts (rs.take j)) (rs[j]'(by rwa [mrows_length] at h)) := by simp [mrows]
/-- As far as i the rows are marked, from i on they are as they were. -/
def Half (k : Nat) (rs l : List Row) (i : Nat) : Prop := l.length = rs.length ∧ (∀ j, j < i → l[j]? = (mrows k rs)[j]?) ∧ ∀ j, i ≤ j → l[j]? = rs[j]?
theorem half_set {k : Nat} {rs l : List Row} {i : Nat} (h : Half k rs l i) (hi : i < rs.length) : Half k rs (l.set i (mrow (k + wts (rs.take i)) rs[i])) (i + 1) := by
  obtain ⟨hl, h1, h2⟩ := h
  refine ⟨by simpa using hl, fun j hj => ?_, fun j hj => ?_⟩
  · rw [List.getElem?_set]
    split
    · rename_i e; subst e
      rw [if_pos (by omega), List.getElem?_eq_getElem (by rw [mrows_length]; omega), mrows_get]
    · exact h1 j (by omega)
  · rw [List.getElem?_set, if_neg (by omega)]; exact h2 j (by omega)
theorem half_end {k : Nat} {rs l : List Row} {i : Nat} (h : Half k rs l i) (hi : ¬ i < rs.length) : l = mrows k rs := by
  apply List.ext_getElem?
  intro j
  by_cases hj : j < rs.length
  · exact h.2.1 j (by omega)
  · rw [List.getElem?_eq_none (by have := h.1; omega), List.getElem?_eq_none (by rw [mrows_length]; omega)]
theorem half_at {k : Nat} {rs l : List Row} {i : Nat} (h : Half k rs l i) (hi : i < rs.length) (hil : i < l.length) : l[i] = rs[i] := by
  have := h.2.2 i (Nat.le_refl _)
  rw [List.getElem?_eq_getElem hil, List.getElem?_eq_getElem hi] at this
  exact Option.some.inj this
end Go.Proofs.Ytcadgeepknhmfaa.Mk
