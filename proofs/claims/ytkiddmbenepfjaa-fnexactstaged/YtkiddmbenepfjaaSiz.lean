/-
  How great a list of texts is, as the laws count it; small laws of frames.
-/
import Derived.Test.YtkiddmbenepfjaaStrs
import Derived.Deep.RegionWith
namespace Go.Proofs.Ytkiddmbenepfjaa.Tb
open Go.RowKit
open Go.Proofs.Ytkiddmbenepfjaa.Li (ret_bool ret_int below_none)

/-- What is left when s is taken from left; -1 where it is not enough. -/
def sub (left : Int) (s : Nat) : Int := if (s : Int) ≤ left then left - s else -1
theorem sub_yes {left : Int} {s : Nat} (h : (s : Int) ≤ left) : sub left s = left - s := if_pos h
theorem sub_no {left : Int} {s : Nat} (h : ¬ (s : Int) ≤ left) : sub left s = -1 := if_neg h

set_option maxHeartbeats 400000 in
theorem szInts (w : World) (a : Option Addr) (n cap : Nat) (left : Int) (h0 : 0 ≤ left) (h1 : left ≤ 1048576) (hn : n ≤ 9223372036854775807) :
    Calls Try.prog 48 #[.slice a n cap, .int .i64 left] w fun e w' => e = .returned (.int .i64 (sub left n)) ∧ w' = w := by
  by_cases h : (n : Int) ≤ left
  · rw [sub_yes h]
    go_enter Try.func48, Try.ntmps48
    go_wp2
    go_ret
    exact ⟨rfl, rfl⟩
  · rw [sub_no h]
    go_enter Try.func48, Try.ntmps48
    go_wp2
    go_ret
    exact ⟨rfl, rfl⟩
/-- How many letters. -/
def lets : List ByteArray → Nat
  | [] => 0
  | s :: r => s.size + lets r
theorem lets_take (ws : List ByteArray) (k : Nat) (h : k < ws.length) : lets (ws.take (k + 1)) = lets (ws.take k) + ws[k].size := by
  induction ws generalizing k with
  | nil => simp at h
  | cons s r ih =>
    cases k with
    | zero => simp [lets]
    | succ k =>
      simp only [List.take_succ_cons, lets, List.getElem_cons_succ]
      rw [ih k (by simpa using h)]
      omega
theorem lets_le (ws : List ByteArray) (k : Nat) : lets (ws.take k) ≤ lets ws := by
  induction ws generalizing k with
  | nil => simp
  | cons s r ih =>
    cases k with
    | zero => simp [lets]
    | succ k => simp only [List.take_succ_cons, lets]; have := ih k; omega
/-- Every word is of a size that Go can have. -/
def Fits (ws : List ByteArray) : Prop := ∀ j (hj : j < ws.length), ws[j].size ≤ 9223372036854775807

set_option maxHeartbeats 1000000 in
theorem szStrs (w : World) (a : Option Addr) (cap : Nat) (left : Int) (ws : List ByteArray) (hx : Ls.IsS w a ws) (hf : Fits ws) (h0 : 0 ≤ left) (h1 : left ≤ 1048576) (hn : ws.length ≤ 9223372036854775807) :
    Calls Try.prog 49 #[.slice a ws.length cap, .int .i64 left] w fun e w' => e = .returned (.int .i64 (sub left (ws.length + lets ws))) ∧ w' = w := by
  by_cases h : (ws.length : Int) ≤ left
  · go_enter Try.func49, Try.ntmps49
    go_wp2
    go_loop [1, 5] (fun q i => ∃ k : Nat, k ≤ ws.length ∧ i = .int .i64 k ∧ q = .int .i64 (left - ws.length - lets (ws.take k)) ∧ (lets (ws.take k) : Int) ≤ left - ws.length) (fun _ i => ws.length - (intOf i).toNat)
    case atStart => exact ⟨0, Nat.zero_le _, rfl, by simp [lets], by simp [lets]; omega⟩
    case round =>
      obtain ⟨k, hk, rfl, rfl, hle⟩ := hrel
      by_cases hlt : k < ws.length
      · rcases hx with rfl | ⟨b, off, rfl, hb, hc⟩
        · simp at hlt
        · have hcx := hc k hlt
          have hsz := hf k hlt
          have HT : Hid (lets (ws.take (k + 1)) = lets (ws.take k) + ws[k].size) := lets_take ws k hlt
          have HL : Hid (lets (ws.take (k + 1)) ≤ lets ws) := lets_le ws (k + 1)
          obtain ⟨L, hL⟩ : ∃ L, lets (ws.take k) = L := ⟨_, rfl⟩
          rw [hL] at hle HT ⊢
          obtain ⟨s, hs⟩ : ∃ s, ws[k] = s := ⟨_, rfl⟩
          rw [hs] at hcx hsz HT
          clear hc hL hs
          by_cases hfit : (s.size : Int) ≤ left - ws.length - L
          · go_wp2
            go_round
            case rel => exact ⟨k + 1, by omega, by go_num, by rw [HT.out]; go_num, by rw [HT.out]; omega⟩
            case measure => simp [intOf]; omega
          · have HR : Hid (sub left (ws.length + lets ws) = -1) := sub_no (by have := HT.out; have := HL.out; omega)
            go_wp2
            go_ret
            exact ⟨by rw [HR.out]; rfl, rfl⟩
      · obtain rfl : k = ws.length := by omega
        have ht : ws.take ws.length = ws := List.take_length
        rw [ht] at hle ⊢
        have HR : Hid (sub left (ws.length + lets ws) = left - ws.length - lets ws) := by show sub _ _ = _; rw [sub_yes (by omega)]; omega
        go_wp2
        go_ret
        exact ⟨by rw [HR.out]; rfl, rfl⟩
  · rw [sub_no (by omega)]
    go_enter Try.func49, Try.ntmps49
    go_wp2
    go_ret
    exact ⟨rfl, rfl⟩

/-- A draw turns nothing in memory. -/
theorem undrewB {w w1 : World} (h : Below w.drew.heap.size w.drew w1) : Below w.heap.size w w1 := ⟨h.os, h.tape, h.output, h.size, h.block⟩
theorem lets_at (ws : List ByteArray) (k : Nat) (h : k < ws.length) : ws[k].size ≤ lets ws := by
  have h1 := lets_take ws k h
  have h2 := lets_le ws (k + 1)
  omega
/-- What is made later lies apart from what is owned now, of whatever kind. -/
theorem sepR {w w' : World} {B s s' n n' : Nat} {t t' : TypeId} {v v' : Value} {xs ys : List Value} (h : w.ownsRow B t s v n xs) (h' : w'.ownsRow w.heap.size t' s' v' n' ys) : (v'.ownBlock = none ∨ v'.ownBlock ≠ v.ownBlock) ∧ (v.ownBlock = none ∨ v.ownBlock ≠ v'.ownBlock) := by
  have h1 := World.ownsRow.lt h
  have h2 := World.ownsRow.lt h'
  cases e : v.ownBlock with
  | none => exact ⟨by cases e' : v'.ownBlock <;> simp, .inl rfl⟩
  | some k =>
    cases e' : v'.ownBlock with
    | none => exact ⟨.inl rfl, by simp⟩
    | some k' =>
      have := h1 k e
      have := h2 k' e'
      exact ⟨.inr (by simp; omega), .inr (by simp; omega)⟩
theorem below_ownR {w w1 : World} {B : Nat} {v : Value} (h : w.grownBy w1 v.ownBlock) (hv : ∀ k, v.ownBlock = some k → B ≤ k) (hB : B ≤ w.heap.size) : Below B w w1 :=
  ⟨h.os, h.tape, h.output, h.size, fun k hk => h.block k (by omega) (fun e => by have := hv k e.symm; omega)⟩
theorem isl_cap {w : World} {base : Nat} {v : Value} {xs : List Int} (h : Li.Own w base v xs) : ∃ a cap, v = .slice a xs.length cap ∧ xs.length ≤ cap ∧ Li.IsL w a xs := by
  obtain ⟨a, cap, e, hi⟩ := h.isl
  refine ⟨a, cap, e, ?_, hi⟩
  rcases h.2 with ⟨h1, h0⟩ | ⟨g, cap', cur, h1, _, _, hc, _⟩
  · omega
  · rw [e] at h1
    simp at h1
    omega
end Go.Proofs.Ytkiddmbenepfjaa.Tb
