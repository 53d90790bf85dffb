/-
  Contracts that the proof leans on, put together in the order in which they build.
-/
import Derived.Test.YtglllflleabmbaaGreatRows
import Derived.WalkKit
import Derived.Deep.QuietTactic
import Derived.BigQuiet
import Derived.Below
import Derived.OpenShut
import Derived.Test.YtglllflleabmbaaGreatPart15
import Derived.Test.YtglllflleabmbaaGreatPart9
import Derived.Test.YtglllflleabmbaaGreatPart7
/-
  Contracts of the drawing cursor of the model (spec.l01Cur): what it hands out is in range, it writes into its own block alone and makes at most new blocks.
-/
namespace Go.Proofs.YtglllflleabmbaaGreat.Cu
open Go.RowKit

def Bytes (w : World) (b : Nat) (a : Option Addr) (len : Nat) : Prop :=
 len = 0 ∨ ∃ cb off, a = some ⟨cb, off, none⟩ ∧ cb < b ∧ ∀ j, j < len → ∃ v : Int, w.cell? ⟨cb, off + j, none⟩ = some (.int .u8 v) ∧ 0 ≤ v ∧ v ≤ 255

def Cur (w : World) (b : Nat) (K : Int) : Prop :=
 ∃ a len cap k s, b < w.heap.size ∧ w.cell? ⟨b, 0, none⟩ = some (.slice a len cap) ∧ w.cell? ⟨b, 1, none⟩ = some (.int .i64 k) ∧ w.cell? ⟨b, 2, none⟩ = some (.int .i64 s) ∧
  w.frozen? ⟨b, 0, none⟩ = false ∧ w.frozen? ⟨b, 1, none⟩ = false ∧ w.frozen? ⟨b, 2, none⟩ = false ∧
  len ≤ 1048576 ∧ 0 ≤ k ∧ k ≤ K ∧ 0 ≤ s ∧ s ≤ 65521 ∧ Bytes w b a len

set_option maxHeartbeats 400000 in
theorem pick_lt (w : World) (b : Nat) (n : Int) (hn : n < 2) :
  Calls Tryz.prog 36 #[.pointer (some ⟨b, 0, none⟩), .int .i64 n] w fun e w' => e = .returned (.int .i64 0) ∧ w' = w := by
 go_enter Tryz.func36, Tryz.ntmps36
 go_wp2
 go_ret
 exact ⟨rfl, rfl⟩

set_option maxHeartbeats 400000 in
theorem pick_in (w : World) (b : Nat) (n : Int) (hn : 2 ≤ n) (hn' : n ≤ 1000000000000000000) (len cap : Nat) (k : Int) (cb off : Nat) (v : Int)
  (h0 : w.cell? ⟨b, 0, none⟩ = some (.slice (some ⟨cb, off, none⟩) len cap)) (h1 : w.cell? ⟨b, 1, none⟩ = some (.int .i64 k))
  (f1 : w.frozen? ⟨b, 1, none⟩ = false) (hk : 0 ≤ k) (hlt : k < (len : Int)) (hlen : (len : Int) ≤ 1048576)
  (hv : w.cell? ⟨cb, off + k.toNat, none⟩ = some (.int .u8 v)) (v0 : 0 ≤ v) (v1 : v ≤ 255) :
  Calls Tryz.prog 36 #[.pointer (some ⟨b, 0, none⟩), .int .i64 n] w fun e w' => e = .returned (.int .i64 (v % n)) ∧ ∃ nq, w' = (w.drewN nq).setCell ⟨b, 1, none⟩ (.int .i64 (k + 1)) := by
 go_enter Tryz.func36, Tryz.ntmps36
 go_wp2
 go_quiet (fail)
 go_wp2
 go_quiet (fail)
 go_wp2
 go_ret
 exact ⟨rfl, _, rfl⟩

set_option maxHeartbeats 400000 in
theorem pick_nil (w : World) (b : Nat) (n : Int) (hn : 2 ≤ n) (a : Option Addr) (cap : Nat) (k s : Int)
  (h0 : w.cell? ⟨b, 0, none⟩ = some (.slice a 0 cap)) (h1 : w.cell? ⟨b, 1, none⟩ = some (.int .i64 k)) (h2 : w.cell? ⟨b, 2, none⟩ = some (.int .i64 s))
  (f1 : w.frozen? ⟨b, 1, none⟩ = false) (f2 : w.frozen? ⟨b, 2, none⟩ = false) (hk : 0 ≤ k) (hK : k ≤ 1000000000000000000) (s0 : 0 ≤ s) (s1 : s ≤ 65521) :
  Calls Tryz.prog 36 #[.pointer (some ⟨b, 0, none⟩), .int .i64 n] w fun e w' => e = .returned (.int .i64 0) ∧ ∃ nq, w' = ((w.drewN nq).setCell ⟨b, 2, none⟩ (.int .i64 ((s * 1103 + 12345) % 65521))).setCell ⟨b, 1, none⟩ (.int .i64 (k + 1)) := by
 have hd : decide (k < 0) = false := by simp; omega
 go_enter Tryz.func36, Tryz.ntmps36
 go_wp2
 go_quiet (fail)
 go_wp2
 go_ret
 exact ⟨rfl, _, rfl⟩

set_option maxHeartbeats 400000 in
theorem pick_out (w : World) (b : Nat) (n : Int) (hn : 2 ≤ n) (hn' : n ≤ 1000000000000000000) (len cap : Nat) (k s : Int) (cb off : Nat) (v : Int)
  (h0 : w.cell? ⟨b, 0, none⟩ = some (.slice (some ⟨cb, off, none⟩) len cap)) (h1 : w.cell? ⟨b, 1, none⟩ = some (.int .i64 k)) (h2 : w.cell? ⟨b, 2, none⟩ = some (.int .i64 s))
  (f1 : w.frozen? ⟨b, 1, none⟩ = false) (f2 : w.frozen? ⟨b, 2, none⟩ = false) (hk : 0 ≤ k) (hK : k ≤ 1000000000000000000) (s0 : 0 ≤ s) (s1 : s ≤ 65521) (hge : (len : Int) ≤ k) (hpos : 0 < (len : Int)) (hlen : (len : Int) ≤ 1048576)
  (hne : cb ≠ b) (hv : w.cell? ⟨cb, off + (k % (len : Int)).toNat, none⟩ = some (.int .u8 v)) (v0 : 0 ≤ v) (v1 : v ≤ 255) :
  Calls Tryz.prog 36 #[.pointer (some ⟨b, 0, none⟩), .int .i64 n] w fun e w' => e = .returned (.int .i64 (((s * 1103 + 12345) % 65521 / 7 + v) % n)) ∧ ∃ nq nq', w' = (((w.drewN nq).setCell ⟨b, 2, none⟩ (.int .i64 ((s * 1103 + 12345) % 65521))).drewN nq').setCell ⟨b, 1, none⟩ (.int .i64 (k + 1)) := by
 have hd : decide (k < (len : Int)) = false := by simp; omega
 have hm0 := Int.emod_nonneg k (show (len : Int) ≠ 0 by omega)
 have hm1 := Int.emod_lt_of_pos k hpos
 have s0' : 0 ≤ (s * 1103 + 12345) % 65521 := by omega
 have s1' : (s * 1103 + 12345) % 65521 ≤ 65520 := by omega
 have hv' : ∀ nq x, ((w.drewN nq).setCell ⟨b, 2, none⟩ x).cell? ⟨cb, off + (k % (len : Int)).toNat, none⟩ = some (.int .u8 v) := by
  intro nq x
  rw [World.cell?_setCell_other _ _ _ _ (fun e => hne (congrArg Addr.block e).symm)]
  exact hv
 go_enter Tryz.func36, Tryz.ntmps36
 go_wp2
 go_quiet (fail)
 go_wp2
 go_quiet (fail)
 go_wp2
 go_ret
 exact ⟨rfl, _, _, rfl⟩

theorem grown_refl (w : World) (r : Option Nat) : w.grownBy w r := ⟨rfl, rfl, rfl, Nat.le_refl _, fun _ _ _ => rfl⟩
theorem grown_trans {w w1 w2 : World} {r : Option Nat} (h : w.grownBy w1 r) (h' : w1.grownBy w2 r) : w.grownBy w2 r :=
 ⟨h'.os.trans h.os, h'.tape.trans h.tape, h'.output.trans h.output, Nat.le_trans h.size h'.size, fun k hk hr => (h'.block k (Nat.lt_of_lt_of_le hk h.size) hr).trans (h.block k hk hr)⟩
theorem grown_drewN {w w1 : World} {r : Option Nat} (h : w.grownBy w1 r) (n : Nat) : w.grownBy (w1.drewN n) r :=
 grown_trans h ⟨rfl, rfl, rfl, Nat.le_refl _, fun _ _ _ => rfl⟩
theorem grown_drew {w w1 : World} {r : Option Nat} (h : w.grownBy w1 r) : w.grownBy w1.drew r :=
 grown_trans h ⟨rfl, rfl, rfl, Nat.le_refl _, fun _ _ _ => rfl⟩
theorem grown_alloc {w w1 : World} {r : Option Nat} (h : w.grownBy w1 r) (o : Obj) : w.grownBy (w1.alloc o) r :=
 grown_trans h (World.grownBy_alloc _ _ _)
theorem grown_set {w w1 : World} {b : Nat} (h : w.grownBy w1 (some b)) (o : Nat) (v : Value) : w.grownBy (w1.setCell ⟨b, o, none⟩ v) (some b) :=
 grown_trans h ⟨rfl, rfl, rfl, by simp [World.setCell], fun k _ hr => Below.heap_setCell _ _ _ _ (fun e => hr (by rw [e]))⟩
theorem Bytes.keptB {w w1 : World} {b b' : Nat} {a : Option Addr} {len : Nat} (h : Bytes w b a len) (hb' : b ≤ b') (hk : ∀ k, k < b → w1.heap[k]? = w.heap[k]?) : Bytes w1 b' a len := by
 rcases h with h | ⟨cb, off, ha, hlt, hc⟩
 ·
  exact .inl h
 ·
  refine .inr ⟨cb, off, ha, by omega, fun j hj => ?_⟩
  obtain ⟨v, hv, h0, h1⟩ := hc j hj
  exact ⟨v, by rw [World.cell?_of_block (w := w) (a := ⟨cb, off + j, none⟩) (hk cb hlt)]; exact hv, h0, h1⟩
theorem Bytes.kept {w w1 : World} {b : Nat} {a : Option Addr} {len : Nat} (h : Bytes w b a len) (hb : b < w.heap.size) (hg : w.grownBy w1 (some b)) : Bytes w1 b a len :=
 h.keptB (Nat.le_refl _) (fun k hk => hg.block k (by omega) (fun e => by cases e; omega))

theorem Cur.keptB {w w1 : World} {b : Nat} {K : Int} (h : Cur w b K) (hs : w.heap.size ≤ w1.heap.size) (hb : ∀ k, k ≤ b → w1.heap[k]? = w.heap[k]?) : Cur w1 b K := by
 obtain ⟨a, len, cap, k, s, hlt, c0, c1, c2, f0, f1, f2, r⟩ := h
 have e := hb b (Nat.le_refl _)
 refine ⟨a, len, cap, k, s, Nat.lt_of_lt_of_le hlt hs, ?_, ?_, ?_, ?_, ?_, ?_, r.1, r.2.1, r.2.2.1, r.2.2.2.1, r.2.2.2.2.1, r.2.2.2.2.2.keptB (Nat.le_refl _) (fun k hk => hb k (by omega))⟩
 ·
  rw [World.cell?_of_block (w := w) (a := ⟨b, 0, none⟩) e]; exact c0
 ·
  rw [World.cell?_of_block (w := w) (a := ⟨b, 1, none⟩) e]; exact c1
 ·
  rw [World.cell?_of_block (w := w) (a := ⟨b, 2, none⟩) e]; exact c2
 ·
  rw [World.frozen?_of_block (w := w) (a := ⟨b, 0, none⟩) e]; exact f0
 ·
  rw [World.frozen?_of_block (w := w) (a := ⟨b, 1, none⟩) e]; exact f1
 ·
  rw [World.frozen?_of_block (w := w) (a := ⟨b, 2, none⟩) e]; exact f2
theorem Cur.lt {w : World} {b : Nat} {K : Int} (h : Cur w b K) : b < w.heap.size := by obtain ⟨_, _, _, _, _, h, _⟩ := h; exact h
theorem Cur.kept {w w1 : World} {b : Nat} {K : Int} (h : Cur w b K) (hs : w.heap.size ≤ w1.heap.size) (hb : ∀ k, k < w.heap.size → w1.heap[k]? = w.heap[k]?) : Cur w1 b K :=
 h.keptB hs (fun k hk => hb k (by have := h.lt; omega))
theorem Cur.mono {w : World} {b : Nat} {K K' : Int} (h : Cur w b K) (hK : K ≤ K') : Cur w b K' := by
 obtain ⟨a, len, cap, k, s, hlt, c0, c1, c2, f0, f1, f2, g1, g2, g3, r⟩ := h
 exact ⟨a, len, cap, k, s, hlt, c0, c1, c2, f0, f1, f2, g1, g2, by omega, r⟩
theorem Cur.alloc {w : World} {b : Nat} {K : Int} (h : Cur w b K) (o : Obj) : Cur (w.alloc o) b K :=
 h.kept (by simp) (fun k hk => Below.heap_alloc _ _ _ hk)
theorem Cur.drew {w : World} {b : Nat} {K : Int} (h : Cur w b K) : Cur w.drew b K :=
 h.kept (Nat.le_refl _) (fun _ _ => rfl)

theorem step1 {w : World} {b len cap : Nat} {a : Option Addr} {k s : Int} (n1 : Nat) (hlt : b < w.heap.size)
  (c0 : w.cell? ⟨b, 0, none⟩ = some (.slice a len cap)) (c1 : w.cell? ⟨b, 1, none⟩ = some (.int .i64 k)) (c2 : w.cell? ⟨b, 2, none⟩ = some (.int .i64 s))
  (f0 : w.frozen? ⟨b, 0, none⟩ = false) (f1 : w.frozen? ⟨b, 1, none⟩ = false) (f2 : w.frozen? ⟨b, 2, none⟩ = false)
  (g1 : len ≤ 1048576) (g2 : 0 ≤ k) (g3 : 0 ≤ s ∧ s ≤ 65521) (hB : Bytes w b a len) (K : Int) (hK : k ≤ K) :
  Cur ((w.drewN n1).setCell ⟨b, 1, none⟩ (.int .i64 (k + 1))) b (K + 1) := by
 refine ⟨a, len, cap, k + 1, s, by simpa [World.setCell] using hlt, ?_, ?_, ?_, ?_, ?_, ?_, g1, by omega, by omega, g3.1, g3.2, ?_⟩
 ·
  rw [World.cell?_setCell_other _ _ _ _ (by simp)]; exact c0
 ·
  exact World.cell?_setCell_same _ _ _ (u := .int .i64 k) c1
 ·
  rw [World.cell?_setCell_other _ _ _ _ (by simp)]; exact c2
 ·
  rw [World.frozen?_setCell]; exact f0
 ·
  rw [World.frozen?_setCell]; exact f1
 ·
  rw [World.frozen?_setCell]; exact f2
 ·
  exact hB.kept hlt (grown_set (grown_drewN (grown_refl _ _) _) _ _)

theorem step2 {w : World} {b len cap : Nat} {a : Option Addr} {k s : Int} (n1 n2 : Nat) (s' : Int) (hlt : b < w.heap.size)
  (c0 : w.cell? ⟨b, 0, none⟩ = some (.slice a len cap)) (c1 : w.cell? ⟨b, 1, none⟩ = some (.int .i64 k)) (c2 : w.cell? ⟨b, 2, none⟩ = some (.int .i64 s))
  (f0 : w.frozen? ⟨b, 0, none⟩ = false) (f1 : w.frozen? ⟨b, 1, none⟩ = false) (f2 : w.frozen? ⟨b, 2, none⟩ = false)
  (g1 : len ≤ 1048576) (g2 : 0 ≤ k) (g3 : 0 ≤ s' ∧ s' ≤ 65521) (hB : Bytes w b a len) (K : Int) (hK : k ≤ K) :
  Cur ((((w.drewN n1).setCell ⟨b, 2, none⟩ (.int .i64 s')).drewN n2).setCell ⟨b, 1, none⟩ (.int .i64 (k + 1))) b (K + 1) := by
 refine step1 (w := (w.drewN n1).setCell ⟨b, 2, none⟩ (.int .i64 s')) (s := s') (len := len) (cap := cap) (a := a) n2 (by simpa [World.setCell] using hlt) ?_ ?_ ?_ ?_ ?_ ?_ g1 g2 g3 ?_ K hK
 ·
  rw [World.cell?_setCell_other _ _ _ _ (by simp)]; exact c0
 ·
  rw [World.cell?_setCell_other _ _ _ _ (by simp)]; exact c1
 ·
  exact World.cell?_setCell_same _ _ _ (u := .int .i64 s) c2
 ·
  rw [World.frozen?_setCell]; exact f0
 ·
  rw [World.frozen?_setCell]; exact f1
 ·
  rw [World.frozen?_setCell]; exact f2
 ·
  exact hB.kept hlt (grown_set (grown_drewN (grown_refl _ _) _) _ _)

theorem pick_any (w : World) (b : Nat) (K : Int) (hc : Cur w b K) (hK : K ≤ 1000000000000000000) (n : Int) (hn' : n ≤ 1000000000000000000) :
  Calls Tryz.prog 36 #[.pointer (some ⟨b, 0, none⟩), .int .i64 n] w fun e w' => ∃ x : Int, e = .returned (.int .i64 x) ∧ 0 ≤ x ∧ (2 ≤ n → x < n) ∧ w.grownBy w' (some b) ∧ w'.heap.size = w.heap.size ∧ Cur w' b (K + 1) := by
 by_cases hn : n < 2
 ·
  refine (pick_lt w b n hn).mono ?_
  rintro e w' ⟨rfl, rfl⟩
  exact ⟨0, rfl, by omega, by omega, grown_refl _ _, rfl, hc.mono (by omega)⟩
 ·
  obtain ⟨a, len, cap, k, s, hlt, c0, c1, c2, f0, f1, f2, g1, g2, g3, g4, g5, hB⟩ := hc
  have hB' := hB
  rcases hB' with rfl | ⟨cb, off, rfl, hcl, hcc⟩
  ·
   refine (pick_nil w b n (by omega) a cap k s c0 c1 c2 f1 f2 g2 (by omega) g4 g5).mono ?_
   rintro e w' ⟨rfl, nq, rfl⟩
   refine ⟨0, rfl, by omega, by omega, ?_, by simp [World.setCell], ?_⟩
   ·
    exact grown_set (grown_set (grown_drewN (grown_refl _ _) _) _ _) _ _
   ·
    exact step2 nq 0 _ hlt c0 c1 c2 f0 f1 f2 g1 g2 (by omega) hB K g3
  ·
   by_cases hl0 : len = 0
   ·
    subst hl0
    refine (pick_nil w b n (by omega) _ cap k s c0 c1 c2 f1 f2 g2 (by omega) g4 g5).mono ?_
    rintro e w' ⟨rfl, nq, rfl⟩
    refine ⟨0, rfl, by omega, by omega, ?_, by simp [World.setCell], ?_⟩
    ·
     exact grown_set (grown_set (grown_drewN (grown_refl _ _) _) _ _) _ _
    ·
     exact step2 nq 0 _ hlt c0 c1 c2 f0 f1 f2 g1 g2 (by omega) hB K g3
   ·
    by_cases hk : k < (len : Int)
    ·
     obtain ⟨v, hv, v0, v1⟩ := hcc k.toNat (by omega)
     refine (pick_in w b n (by omega) hn' len cap k cb off v c0 c1 f1 g2 hk (by omega) hv v0 v1).mono ?_
     rintro e w' ⟨rfl, nq, rfl⟩
     refine ⟨_, rfl, Int.emod_nonneg _ (by omega), fun _ => Int.emod_lt_of_pos _ (by omega), ?_, by simp [World.setCell], ?_⟩
     ·
      exact grown_set (grown_drewN (grown_refl _ _) _) _ _
     ·
      exact step1 nq hlt c0 c1 c2 f0 f1 f2 g1 g2 ⟨g4, g5⟩ hB K g3
    ·
     have hm0 := Int.emod_nonneg k (show (len : Int) ≠ 0 by omega)
     have hm1 := Int.emod_lt_of_pos k (show 0 < (len : Int) by omega)
     obtain ⟨v, hv, v0, v1⟩ := hcc (k % (len : Int)).toNat (by omega)
     refine (pick_out w b n (by omega) hn' len cap k s cb off v c0 c1 c2 f1 f2 g2 (by omega) g4 g5 (by omega) (by omega) (by omega) (by omega) hv v0 v1).mono ?_
     rintro e w' ⟨rfl, nq, nq', rfl⟩
     refine ⟨_, rfl, Int.emod_nonneg _ (by omega), fun _ => Int.emod_lt_of_pos _ (by omega), ?_, by simp [World.setCell], ?_⟩
     ·
      exact grown_set (grown_drewN (grown_set (grown_drewN (grown_refl _ _) _) _ _) _) _ _
     ·
      exact step2 nq nq' _ hlt c0 c1 c2 f0 f1 f2 g1 g2 (by omega) hB K g3

theorem ret_bool {a b : Bool} (h : a = b) : Ending.returned (.bool a) = .returned (.bool b) := by rw [h]

set_option maxHeartbeats 400000 in
theorem once_any (w : World) (b : Nat) (K : Int) (hc : Cur w b K) (hK : K ≤ 1000000000000000000) (n : Int) (hn0 : 0 ≤ n) (hn' : n ≤ 1000000000000000000) :
  Calls Tryz.prog 21 #[.pointer (some ⟨b, 0, none⟩), .int .i64 n] w fun e w' => ∃ x : Bool, e = .returned (.bool x) ∧ w.grownBy w' (some b) ∧ w'.heap.size = w.heap.size ∧ Cur w' b (K + 1) := by
 go_enter Tryz.func21, Tryz.ntmps21
 go_wp2_with fail
 refine (pick_any _ _ _ hc hK _ hn').mono ?_
 rintro e w1 ⟨x, rfl, x0, x1, hg, hz, hc1⟩
 go_wp2
 go_ret
 exact ⟨_, rfl, hg, hz, hc1⟩

def okv (lo hi : Int) : Value → Bool
 | .int .i64 v => decide (lo ≤ v ∧ v ≤ hi)
 | _ => false
theorem okv_int {lo hi : Int} {v : Value} (h : okv lo hi v = true) : ∃ x : Int, v = .int .i64 x ∧ lo ≤ x ∧ x ≤ hi := by
 unfold okv at h
 split at h
 ·
  exact ⟨_, rfl, by simpa using h⟩
 ·
  cases h
theorem tab {w w1 : World} {b : Nat} (cs : Array Value) (T : TypeId) (lo hi : Int) (hg : (w.alloc (.cells cs T)).grownBy w1 (some b)) (hb : b < w.heap.size) (hall : (cs.toList.all (okv lo hi)) = true) (x : Int) (h0 : 0 ≤ x) (h1 : x < (cs.size : Int)) :
  ∃ v : Int, w1.cell? ⟨w.heap.size, x.toNat, none⟩ = some (.int .i64 v) ∧ lo ≤ v ∧ v ≤ hi := by
 have hlt : x.toNat < cs.size := by omega
 have := (List.all_eq_true.1 hall) cs[x.toNat] (by simp)
 obtain ⟨v, hv, hb'⟩ := okv_int this
 refine ⟨v, ?_, hb'⟩
 refine hg.cell (a := ⟨w.heap.size, x.toNat, none⟩) ?_ (by simp; omega)
 rw [World.cell?_alloc_new, Array.getElem?_eq_getElem hlt, hv]

set_option maxHeartbeats 400000 in
theorem fix_any (w : World) (b : Nat) (K : Int) (hc : Cur w b K) (hK : K ≤ 1000000000000000000) :
  Calls Tryz.prog 39 #[.pointer (some ⟨b, 0, none⟩)] w fun e w' => ∃ x : Int, e = .returned (.int .i64 x) ∧ -1000000000 ≤ x ∧ x ≤ 1000000000 ∧ w.grownBy w' (some b) ∧ Cur w' b (K + 1) := by
 have hb : b < w.heap.size := by obtain ⟨_, _, _, _, _, h, _⟩ := hc; exact h
 go_enter Tryz.func39, Tryz.ntmps39
 go_wp2_with fail
 refine (pick_any _ _ _ (hc.alloc _) hK _ (by omega)).mono ?_
 rintro e w1 ⟨x, rfl, x0, x1, hg, hz, hc1⟩
 have x2 : x < 13 := x1 (by omega)
 obtain ⟨v, hv, v0, v1⟩ := tab _ _ (-1000000000) 1000000000 hg hb (by decide +kernel) x x0 x2
 have hg' : w.grownBy w1 (some b) := grown_trans (World.grownBy_alloc _ _ _) hg
 clear hg x1 hz
 go_wp2
 go_ret
 exact ⟨v, rfl, v0, v1, hg', hc1⟩

set_option maxHeartbeats 400000 in
theorem raw_any (w : World) (b : Nat) (K : Int) (hc : Cur w b K) (hK : K ≤ 100000000000000000) :
  Calls Tryz.prog 37 #[.pointer (some ⟨b, 0, none⟩)] w fun e w' => ∃ x : Int, e = .returned (.int .i64 x) ∧ -9223372036854775808 ≤ x ∧ x ≤ 9223372036854775807 ∧ w.grownBy w' (some b) ∧ Cur w' b (K + 2) := by
 have hb : b < w.heap.size := by obtain ⟨_, _, _, _, _, h, _⟩ := hc; exact h
 go_enter Tryz.func37, Tryz.ntmps37
 go_wp2_with fail
 refine (pick_any _ _ _ hc (by omega) _ (by omega)).mono ?_
 rintro e w1 ⟨x, rfl, x0, x1, hg, hz, hc1⟩
 have x2 : x < 8 := x1 (by omega)
 have hb1 : b < w1.heap.size := by omega
 clear x1 hz
 by_cases e0 : x = 0
 ·
  subst e0
  go_wp2_with fail
  refine (pick_any _ _ _ hc1 (by omega) _ (by omega)).mono ?_
  rintro e w2 ⟨y, rfl, y0, y1, hg2, hz2, hc2⟩
  have y2 : y < 256 := y1 (by omega)
  clear y1
  go_wp2
  go_ret
  exact ⟨_, rfl, by omega, by omega, grown_trans hg hg2, hc2.mono (by omega)⟩
 ·
  by_cases e1 : x = 1
  ·
   subst e1
   go_wp2_with fail
   refine (pick_any _ _ _ (hc1.alloc _) (by omega) _ (by omega)).mono ?_
   rintro e w2 ⟨y, rfl, y0, y1, hg2, hz2, hc2⟩
   have y2 : y < 8 := y1 (by omega)
   obtain ⟨v, hv, v0, v1⟩ := tab _ _ (-9223372036854775808) 9223372036854775807 hg2 hb1 (by decide +kernel) y y0 y2
   have hg' : w.grownBy w2 (some b) := grown_trans hg (grown_trans (World.grownBy_alloc _ _ _) hg2)
   clear hg hg2 y1 hz2
   go_wp2
   go_ret
   exact ⟨v, rfl, v0, v1, hg', hc2.mono (by omega)⟩
  ·
   have n0 : (x == 0) = false := by simpa using e0
   have n1 : (x == 1) = false := by simpa using e1
   go_wp2_with fail
   refine (pick_any _ _ _ hc1 (by omega) _ (by omega)).mono ?_
   rintro e w2 ⟨y, rfl, y0, y1, hg2, hz2, hc2⟩
   have y2 : y < 14 := y1 (by omega)
   clear y1
   go_wp2
   go_ret
   exact ⟨_, rfl, by omega, by omega, grown_trans hg hg2, hc2.mono (by omega)⟩

theorem bytes_of {w : World} {x : Addr} {len cap : Nat} {zs : List Int} (b : Nat) (hb : w.heap.size ≤ b) (hl : len ≤ cap) (hz : zs.length = cap)
  (hc : ∀ i, i < zs.length → w.cell? (x.add i) = some (.int .u8 (zs.getD i 0))) (hw : ∀ n ∈ zs, (Lit.int .u8 n).wf = true) : Bytes w b (some x) len := by
 by_cases h0 : len = 0
 ·
  exact .inl h0
 ·
  obtain ⟨cb, off, spot⟩ := x
  have hs : spot = none := by simpa [Addr.add] using World.cell?_spot (hc 0 (by omega))
  subst hs
  have hlt : cb < w.heap.size := World.block_lt_of_cell? w _ (hc 0 (by omega))
  refine .inr ⟨cb, off, rfl, by omega, fun j hj => ⟨zs.getD j 0, ?_, ?_⟩⟩
  ·
   rw [← Go.WideShapes.add_plain]; exact hc j (by omega)
  ·
   have hm : zs.getD j 0 ∈ zs := by
    rw [List.getD_eq_getElem?_getD, List.getElem?_eq_getElem (by omega)]
    exact List.getElem_mem _
   exact bounds_u8 (hw _ hm)

theorem Bytes.below {w w1 : World} {b b' : Nat} {a : Option Addr} {len : Nat} (h : Bytes w b a len) (hb' : b ≤ b') (_hs : w.heap.size ≤ w1.heap.size) (hk : ∀ k, k < b → w1.heap[k]? = w.heap[k]?) : Bytes w1 b' a len := h.keptB hb' hk

set_option maxHeartbeats 400000 in
theorem open_any (w : World) (a : Option Addr) (len cap : Nat) (hB : Bytes w w.heap.size a len) (hl : (len : Int) ≤ 1048576) :
  Calls Tryz.prog 17 #[.slice a len cap] w fun e w' => e = .returned (.pointer (some ⟨w.heap.size, 0, none⟩)) ∧ w.grownBy w' (some w.heap.size) ∧ Cur w' w.heap.size 0 := by
 go_enter Tryz.func17, Tryz.ntmps17
 go_wp2
 go_ret
 refine ⟨rfl, World.grownBy_alloc _ _ _, a, len, cap, 0, 83 + (len : Int) % 1000, by simp, ?_, ?_, ?_, ?_, ?_, ?_, by omega, by omega, by omega, by omega, by omega, ?_⟩
 ·
  simp [World.cell?_alloc_new]
 ·
  simp [World.cell?_alloc_new]
 ·
  simp [World.cell?_alloc_new]
 ·
  simp
 ·
  simp
 ·
  simp
 ·
  exact hB.below (Nat.le_refl _) (by simp) (fun k hk => Below.heap_alloc _ _ _ hk)

set_option maxHeartbeats 400000 in
theorem big_any (w : World) (a : Option Addr) (len cap : Nat) :
  Calls Tryz.prog 4 #[.slice a len cap] w fun e w' => e = .returned (.bool (decide (1048576 < len))) ∧ w' = w := by
 go_enter Tryz.func4, Tryz.ntmps4
 go_wp2
 go_ret
 refine ⟨ret_bool ?_, rfl⟩
 simp
 omega

end Go.Proofs.YtglllflleabmbaaGreat.Cu
/-
  A model being drawn: what is held of it, and what each way of spoiling it leaves.
-/
namespace Go.Proofs.YtglllflleabmbaaGreat.Dm
set_option maxRecDepth 100000
open Go.RowKit
open Go.Proofs.YtglllflleabmbaaGreat.Tb Go.Proofs.YtglllflleabmbaaGreat.Tk
open Go.Proofs.YtglllflleabmbaaGreat.Md (M OwM wr6 wr3)
open Go.Proofs.YtglllflleabmbaaGreat.Kt (OwK Kv ksz)
open Go.Proofs.YtglllflleabmbaaGreat.Tm (szT OwnP)
open Go.Proofs.YtglllflleabmbaaGreat.To (OwT)
open Go.Proofs.YtglllflleabmbaaGreat.Tt (mtrain strain mtrain_sz set6 kszA szTA)
open Go.Proofs.YtglllflleabmbaaGreat.Sv (Wr Fr fr_grown fr_below new1 new2 new3 wr_new wr2)
set_option linter.unusedVariables false
def z6 : List Value := [.int .i64 0, .int .i64 0, .int .i64 0, .int .i64 0, .slice none 0 0, .slice none 0 0]
def mc (m : M) (vk vt : Value) : List Value := [.int .i64 m.n, .int .i64 m.c, .int .i64 m.prior, .int .i64 m.base, vk, vt]
structure Ms (w wr : World) (b X2 X5 : Nat) (K : Int) (Z : Nat) (m : M) (vk vt : Value) : Prop where
 cu : Cu.Cur wr b K
 gr : Fr (fun q => q = b) w wr
 bl : b < X2
 x2 : w.heap.size = X2
 x5 : X2 < X5
 b2 : Wr wr X2 0 z6
 b5 : Wr wr X5 0 (mc m vk vt)
 om : OwM wr (fun q => X2 < q ∧ ¬ q = X5) vk vt m
 sz : m.sz ≤ Z
theorem szR_all {rs : List Row} (h : ∀ r ∈ rs, Row.sz r ≤ 30) : szR rs ≤ 30 * rs.length := by
 induction rs with
 | nil => simp [szR]
 | cons r rs ih =>
  have h1 := h r (by simp)
  have h2 := ih (fun t ht => h t (by simp [ht]))
  simp only [szR, List.length_cons]; omega
theorem wrB {w w1 : World} {B : Nat → Prop} {g : Nat} {vs : List Value} (h : Wr w g 0 vs) (hf : Fr B w w1) (hg : ¬ B g) : Wr w1 g 0 vs := h.keptAt hf.size (hf.block g h.1 hg)
theorem curF {w w1 : World} {B : Nat → Prop} {b : Nat} {K : Int} (h : Cu.Cur w b K) (hf : Fr B w w1) (hB : ∀ q, B q → b < q) : Cu.Cur w1 b K := h.keptB hf.size (fun k hk => hf.block k (by have := h.lt; omega) (fun e => by have := hB k e; omega))
theorem fr_out {w wr wx : World} {b X2 : Nat} {B : Nat → Prop} (h : Fr (fun q => q = b) w wr) (hf : Fr B wr wx) (hB : ∀ q, B q → X2 ≤ q) (hx : w.heap.size = X2) : Fr (fun q => q = b) w wx :=
 ⟨hf.os.trans h.os, hf.tape.trans h.tape, hf.output.trans h.output, Nat.le_trans h.size hf.size, fun k hk hn => by rw [hf.block k (by have := h.size; omega) (fun e => by have := hB k e; omega)]; exact h.block k hk hn⟩
section
variable {w wr wx wy wz : World} {b X2 X5 : Nat} {K K' : Int} {Z : Nat} {m : M} {vk vt : Value}
theorem Ms.lower (h : Ms w wr b X2 X5 K Z m vk vt) {Z' : Nat} (hK : K ≤ K') (hZ : Z ≤ Z') : Ms w wr b X2 X5 K' Z' m vk vt :=
 ⟨h.cu.mono hK, h.gr, h.bl, h.x2, h.x5, h.b2, h.b5, h.om, Nat.le_trans h.sz hZ⟩
theorem Ms.frb (h : Ms w wr b X2 X5 K Z m vk vt) (hf : Fr (fun q => q = b) wr wx) (hc : Cu.Cur wx b K') : Ms w wx b X2 X5 K' Z m vk vt :=
 ⟨hc, h.gr.trans hf, h.bl, h.x2, h.x5, wrB h.b2 hf (by have := h.bl; omega), wrB h.b5 hf (by have := h.bl; have := h.x5; omega), h.om.fr hf (fun q hq e => by have := h.bl; omega), h.sz⟩
theorem Ms.step (h : Ms w wr b X2 X5 K Z m vk vt) (hg : wr.grownBy wx (some b)) (hc : Cu.Cur wx b K') : Ms w wx b X2 X5 K' Z m vk vt := h.frb (fr_grown hg rfl) hc
theorem Ms.below (h : Ms w wr b X2 X5 K Z m vk vt) (hb : Below wr.heap.size wr wx) : Ms w wx b X2 X5 K Z m vk vt :=
 ⟨curF (B := fun _ => False) h.cu (fr_below hb) (fun _ e => e.elim), h.gr.trans (fr_below hb), h.bl, h.x2, h.x5, h.b2.below hb, h.b5.below hb, h.om.below hb, h.sz⟩
theorem Ms.put6 {m' : M} {vk' vt' : Value} (h : Ms w wr b X2 X5 K Z m vk vt) (hb : Below wr.heap.size wr wx) (om : OwM wx (fun q => wr.heap.size ≤ q ∧ q < wx.heap.size) vk' vt' m') (hz : m'.sz ≤ Z) :
  Ms w ((((((wx.setCell ⟨X5, 0, none⟩ (.int .i64 m'.n)).setCell ⟨X5, 1, none⟩ (.int .i64 m'.c)).setCell ⟨X5, 2, none⟩ (.int .i64 m'.prior)).setCell ⟨X5, 3, none⟩ (.int .i64 m'.base)).setCell ⟨X5, 4, none⟩ vk').setCell ⟨X5, 5, none⟩ vt') b X2 X5 K Z m' vk' vt' := by
 have hx := h.below hb
 have hf := set6 wx X5 (.int .i64 m'.n) (.int .i64 m'.c) (.int .i64 m'.prior) (.int .i64 m'.base) vk' vt'
 have hX := h.b5.1
 have h1 := h.bl
 have h2 := h.x5
 refine ⟨curF hx.cu hf (fun q e => by omega), fr_out hx.gr hf (fun q e => by omega) h.x2, h.bl, h.x2, h.x5, wrB hx.b2 hf (by omega), ?_, ?_, hz⟩
 ·
  exact (((((hx.b5.set 0 (by simp [mc]) _).set 1 (by simp [mc]) _).set 2 (by simp [mc]) _).set 3 (by simp [mc]) _).set 4 (by simp [mc]) _).set 5 (by simp [mc]) _
 ·
  exact (om.mono (fun q hq => ⟨by omega, by omega⟩)).fr hf (fun q hq e => hq.2 e)
theorem Ms.num {m' : M} {v : Value} {o : Nat} (h : Ms w wr b X2 X5 K Z m vk vt) (ho : o < 6) (hm : (mc m vk vt).set o v = mc m' vk vt) (h1 : m'.ks = m.ks) (h2 : m'.ts = m.ts) : Ms w (wr.setCell ⟨X5, o, none⟩ v) b X2 X5 K Z m' vk vt := by
 have hf : Fr (fun q => q = X5) wr (wr.setCell ⟨X5, o, none⟩ v) := Gt.fr_set v
 have l1 := h.bl
 have l2 := h.x5
 refine ⟨curF h.cu hf (fun q e => by omega), fr_out h.gr hf (fun q e => by omega) h.x2, h.bl, h.x2, h.x5, wrB h.b2 hf (by omega), ?_, ?_, ?_⟩
 ·
  rw [← hm]; have h9 := h.b5.set o (by simp [mc]; omega) v; rwa [Nat.zero_add] at h9
 ·
  obtain ⟨P, hk, ht⟩ := h.om.fr hf (fun q hq e => hq.2 e)
  exact ⟨P, by rw [h1]; exact hk, by rw [h2]; exact ht⟩
 ·
  have := h.sz; unfold M.sz at this ⊢; rw [h1, h2]; exact this
theorem Ms.forT (h : Ms w wr b X2 X5 K Z m vk vt) : ∃ B : Nat → Prop, (∀ y, wr.heap.size ≤ y → B y) ∧ (∀ wy, Fr (fun q => q = b) wr wy → OwT wy (fun y => B y ∧ y < wr.heap.size) vt m.ts) ∧
  (∀ wy K' wz v' t, Fr (fun q => q = b) wr wy → Cu.Cur wy b K' → OwT wz B v' (m.ts ++ [t]) → wy.grownBy wz vt.ownBlock → (t : Tr.T).sp.length + t.lv.length ≤ 100 → Ms w (wz.setCell ⟨X5, 5, none⟩ v') b X2 X5 K' (Z + 101) ⟨m.n, m.c, m.prior, m.base, m.ks, m.ts ++ [t]⟩ vk v') := by
 have l1 := h.bl
 have l2 := h.x5
 have l3 := h.b5.1
 obtain ⟨P, hk, ht⟩ := h.om
 refine ⟨fun y => (X2 < y ∧ ¬ y = X5) ∧ ¬ (P y ∧ y < wr.heap.size), fun y hy => ⟨⟨by omega, by omega⟩, fun e => by omega⟩, fun wy hf => ?_, fun wy K' wz v' t hf hc ho hg hz => ?_⟩
 ·
  exact (ht.bound.mono (fun y hy => ⟨⟨hy.1.1, fun e => hy.1.2 e.1⟩, hy.2⟩)).fr hf (fun y hy e => by have := hy.1.1.1; omega)
 ·
  have hy := h.frb hf hc
  have hv : ∀ q, vt.ownBlock = some q → (X2 < q ∧ ¬ q = X5) ∧ ¬ P q := fun q e => by
   obtain ⟨_, _, _, _, hv, _⟩ := ht
   exact hv q e
  have hF : Fr (fun q => vt.ownBlock = some q) wy wz := ⟨hg.os, hg.tape, hg.output, hg.size, fun q hq hn => hg.block q hq (fun e => hn e.symm)⟩
  have hS : Fr (fun q => q = X5) wz (wz.setCell ⟨X5, 5, none⟩ v') := Gt.fr_set v'
  have c1 := curF hy.cu hF (fun q e => by have := (hv q e).1.1; omega)
  have g1 := fr_out hy.gr hF (fun q e => by have := (hv q e).1.1; omega) h.x2
  refine ⟨curF c1 hS (fun q e => by omega), fr_out g1 hS (fun q e => by omega) h.x2, h.bl, h.x2, h.x5, wrB (wrB hy.b2 hF (fun e => by have := (hv _ e).1.1; omega)) hS (by omega), ?_, ?_, ?_⟩
  ·
   exact (wrB hy.b5 hF (fun e => (hv _ e).1.2 rfl)).set 5 (by simp [mc]) _
  ·
   refine ⟨fun y => P y ∧ y < wr.heap.size, ?_, ?_⟩
   ·
    refine (((hk.bound.mono (fun y hy => ⟨hy.1.1, hy.1.2, hy.2⟩)).fr hf (fun y hy e => by have := hy.1.1; omega)).fr hF (fun y hy e => (hv y e).2 hy.2.1)).fr hS (fun y hy e => hy.1.2 e)
   ·
    exact ho.fr hS (fun y hy e => hy.1.2 e)
  ·
   have := h.sz
   unfold M.sz at this ⊢
   simp only
   rw [szTA, List.length_append, List.length_singleton]
   omega
theorem Ms.forK (h : Ms w wr b X2 X5 K Z m vk vt) : ∃ B : Nat → Prop, (∀ y, wr.heap.size ≤ y → B y) ∧ (∀ wy, Fr (fun q => q = b) wr wy → OwK wy (fun y => B y ∧ y < wr.heap.size) vk m.ks) ∧
  (∀ wy K' wz v' t, Fr (fun q => q = b) wr wy → Cu.Cur wy b K' → OwK wz B v' (m.ks ++ [t]) → wy.grownBy wz vk.ownBlock → (t : Kv).ws.length + lets t.ws + t.vs.length ≤ 100 → Ms w (wz.setCell ⟨X5, 4, none⟩ v') b X2 X5 K' (Z + 101) ⟨m.n, m.c, m.prior, m.base, m.ks ++ [t], m.ts⟩ v' vt) := by
 have l1 := h.bl
 have l2 := h.x5
 have l3 := h.b5.1
 obtain ⟨P, hk, ht⟩ := h.om
 refine ⟨fun y => (X2 < y ∧ ¬ y = X5) ∧ (P y ∨ wr.heap.size ≤ y), fun y hy => ⟨⟨by omega, by omega⟩, .inr hy⟩, fun wy hf => ?_, fun wy K' wz v' t hf hc ho hg hz => ?_⟩
 ·
  exact (hk.bound.mono (fun y hy => ⟨⟨hy.1.1, .inl hy.1.2⟩, hy.2⟩)).fr hf (fun y hy e => by have := hy.1.1.1; omega)
 ·
  have hy := h.frb hf hc
  have hv : ∀ q, vk.ownBlock = some q → ((X2 < q ∧ ¬ q = X5) ∧ P q) := fun q e => by
   obtain ⟨_, _, _, _, hv, _⟩ := hk
   exact hv q e
  have hF : Fr (fun q => vk.ownBlock = some q) wy wz := ⟨hg.os, hg.tape, hg.output, hg.size, fun q hq hn => hg.block q hq (fun e => hn e.symm)⟩
  have hS : Fr (fun q => q = X5) wz (wz.setCell ⟨X5, 4, none⟩ v') := Gt.fr_set v'
  have c1 := curF hy.cu hF (fun q e => by have := (hv q e).1.1; omega)
  have g1 := fr_out hy.gr hF (fun q e => by have := (hv q e).1.1; omega) h.x2
  refine ⟨curF c1 hS (fun q e => by omega), fr_out g1 hS (fun q e => by omega) h.x2, h.bl, h.x2, h.x5, wrB (wrB hy.b2 hF (fun e => by have := (hv _ e).1.1; omega)) hS (by omega), ?_, ?_, ?_⟩
  ·
   exact (wrB hy.b5 hF (fun e => (hv _ e).1.2 rfl)).set 4 (by simp [mc]) _
  ·
   refine ⟨fun y => P y ∨ wr.heap.size ≤ y, ?_, ?_⟩
   ·
    exact ho.fr hS (fun y hy e => hy.1.2 e)
   ·
    refine (((ht.bound.mono (fun y hy => ⟨hy.1.1, fun e => e.elim hy.1.2 (fun e => by have := hy.2; omega)⟩)).fr hf (fun y hy e => by have := hy.1.1; omega)).fr hF (fun y hy e => hy.2 (.inl (hv y e).2))).fr hS (fun y hy e => hy.1.2 e)
  ·
   have := h.sz
   unfold M.sz at this ⊢
   simp only
   rw [kszA, List.length_append, List.length_singleton]
   omega
theorem Ms.keptT (h : Ms w wr b X2 X5 K Z m vk vt) (hb : Below wr.heap.size wr wy) (hg : wy.grownBy wz vt.ownBlock) : Wr wz X5 0 (mc m vk vt) := by
 have h5 := h.b5.below hb
 obtain ⟨P, -, ht⟩ := h.om
 obtain ⟨_, _, _, _, hv, _⟩ := ht
 exact h5.keptAt hg.size (hg.block X5 h5.1 (fun e => (hv X5 e.symm).1.2 rfl))
theorem Ms.keptK (h : Ms w wr b X2 X5 K Z m vk vt) (hb : Below wr.heap.size wr wy) (hg : wy.grownBy wz vk.ownBlock) : Wr wz X5 0 (mc m vk vt) := by
 have h5 := h.b5.below hb
 obtain ⟨P, hk, -⟩ := h.om
 obtain ⟨_, _, _, _, hv, _⟩ := hk
 exact h5.keptAt hg.size (hg.block X5 h5.1 (fun e => (hv X5 e.symm).1.2 rfl))
theorem ksz_set0 (ks : List Kv) (t t' : Kv) (h : t'.ws = t.ws) (hv : t'.vs.length ≤ t.vs.length + 1) (hk : 0 < ks.length) (he : ks[0] = t) : ksz (ks.set 0 t') ≤ ksz ks + 1 := by
 cases ks with
 | nil => simp at hk
 | cons x ks =>
  simp only [List.getElem_cons_zero] at he
  subst he
  simp only [List.set_cons_zero, ksz, h]
  omega
theorem Ms.forV (h : Ms w wr b X2 X5 K Z m vk vt) (h0 : 0 < m.ks.length) : ∃ g c a0 c0 n0, vk = .slice (some ⟨g, 0, none⟩) m.ks.length c ∧ m.ks[0].vs.length = n0 ∧ wr.cell? ⟨g, 1, none⟩ = some (.slice a0 n0 c0) ∧ wr.frozen? ⟨g, 1, none⟩ = false ∧ g < wr.heap.size ∧ b < g ∧ ¬ g = X5 ∧ (∀ k, (Value.slice a0 n0 c0).ownBlock = some k → b < k ∧ ¬ k = X5 ∧ ¬ k = g) ∧ n0 ≤ Z ∧ (∀ wy, Fr (fun q => q = b) wr wy → Li.Own wy 0 (.slice a0 n0 c0) m.ks[0].vs) ∧
  (∀ wy K' wz u0 z, Fr (fun q => q = b) wr wy → Cu.Cur wy b K' → Li.Own wz 0 u0 (m.ks[0].vs ++ [z]) → wy.grownBy wz (Value.slice a0 n0 c0).ownBlock → (u0.ownBlock = (Value.slice a0 n0 c0).ownBlock ∨ ∃ F, u0.ownBlock = some F ∧ wy.heap.size ≤ F) → Ms w (wz.setCell ⟨g, 1, none⟩ u0) b X2 X5 K' (Z + 101) ⟨m.n, m.c, m.prior, m.base, m.ks.set 0 ⟨m.ks[0].ws, m.ks[0].vs ++ [z]⟩, m.ts⟩ vk vt) := by
 have l1 := h.bl
 have l2 := h.x5
 have l3 := h.b5.1
 obtain ⟨P, hk, ht⟩ := h.om
 obtain ⟨a, c, g, a0, c0, e1, e2, h1, h2, h3, h4, h5, h6, -⟩ := Ps.repl1 hk 0 h0
 subst e2
 have hz0 : m.ks[0].vs.length ≤ Z := by
  have := h.sz
  have h9 := Kt.ksz_at m.ks 0 h0
  unfold M.sz at this
  omega
 refine ⟨g, c, a0, c0, _, e1, rfl, h1, h2, h4, by have := h5.1.1; omega, h5.1.2, fun k e => ⟨by have := (h6 k e).1.1.1; omega, (h6 k e).1.1.2, (h6 k e).2⟩, hz0, fun wy hf => ?_, fun wy K' wz u0 z hf hc ho hg hu => ?_⟩
 ·
  exact Tb.ownsRow_at h3 (fun k e => hf.block k (h3.ge k e).2 (by have := (h6 k e).1.1.1; omega))
 ·
  have hy := h.frb hf hc
  have hk2 : OwK wy (fun y => (X2 < y ∧ ¬ y = X5) ∧ (P y ∨ wr.heap.size ≤ y)) vk m.ks := (hk.mono (fun y hy => ⟨hy.1, .inl hy.2⟩)).fr hf (fun y hy e => by have := hy.1.1; omega)
  obtain ⟨a', c', g', a0', c0', e1', e2', h1', -, -, -, -, -, hrep⟩ := Ps.repl1 hk2 0 h0
  subst e2'
  rw [e1] at e1'
  injection e1' with e3 _ e4
  injection e3 with e3
  injection e3 with e3 _ _
  subst e3
  have e5 : wy.cell? ⟨g, 1, none⟩ = some (.slice a0 m.ks[0].vs.length c0) := (World.cell?_of_block (hf.block g h4 (by have := h5.1.1; omega))).trans h1
  have e6 : wy.cell? ⟨g, 1, none⟩ = some (.slice a0' m.ks[0].vs.length c0') := h1'
  rw [e5] at e6
  injection e6 with e6
  injection e6 with e6 _ e7
  subst e6
  subst e7
  have hnew := hrep wz u0 (m.ks[0].vs ++ [z]) ho hg (hu.imp id (fun ⟨F, f1, f2⟩ => ⟨F, f1, f2, ⟨by have := hf.size; omega, by have := hf.size; omega⟩, .inr (by have := hf.size; omega)⟩))
  have hF : Fr (fun q => (Value.slice a0 m.ks[0].vs.length c0).ownBlock = some q) wy wz := ⟨hg.os, hg.tape, hg.output, hg.size, fun q hq hn => hg.block q hq (fun e => hn e.symm)⟩
  have hS : Fr (fun q => q = g) wz (wz.setCell ⟨g, 1, none⟩ u0) := Gt.fr_set u0
  have hg1 := h5.1.1
  have c1 := curF hy.cu hF (fun q e => by have := (h6 q e).1.1.1; omega)
  have g1 := fr_out hy.gr hF (fun q e => by have := (h6 q e).1.1.1; omega) h.x2
  refine ⟨curF c1 hS (fun q e => by omega), fr_out g1 hS (fun q e => by omega) h.x2, h.bl, h.x2, h.x5, wrB (wrB hy.b2 hF (fun e => by have := (h6 _ e).1.1.1; omega)) hS (by omega), ?_, ?_, ?_⟩
  ·
   exact wrB (wrB hy.b5 hF (fun e => (h6 _ e).1.1.2 rfl)) hS (fun e => h5.1.2 e.symm)
  ·
   refine ⟨fun y => P y ∨ wr.heap.size ≤ y, hnew, ?_⟩
   ·
    refine (((ht.bound.mono (fun y hy => ⟨hy.1.1, fun e => e.elim hy.1.2 (fun e => by have := hy.2; omega)⟩)).fr hf (fun y hy e => by have := hy.1.1; omega)).fr hF (fun y hy e => hy.2 (.inl (h6 y e).1.2))).fr hS (fun y hy e => hy.2 (.inl (by rw [e]; exact h5.2)))
  ·
   have := h.sz
   have h9 := ksz_set0 m.ks m.ks[0] ⟨m.ks[0].ws, m.ks[0].vs ++ [z]⟩ rfl (by simp) h0 rfl
   unfold M.sz at this ⊢
   simp only
   rw [List.length_set]
   omega
end
end Go.Proofs.YtglllflleabmbaaGreat.Dm
/-
  A model and a row that are being drawn.
-/
namespace Go.Proofs.YtglllflleabmbaaGreat.Dm
set_option maxRecDepth 100000
open Go.RowKit
open Go.Proofs.YtglllflleabmbaaGreat.Tb Go.Proofs.YtglllflleabmbaaGreat.Tk
open Go.Proofs.YtglllflleabmbaaGreat.Md (M OwM wr6 wr3)
open Go.Proofs.YtglllflleabmbaaGreat.Tt (set6)
open Go.Proofs.YtglllflleabmbaaGreat.Sv (Wr Fr fr_grown fr_below new1 new2 new3 wr_new wr2)
set_option linter.unusedVariables false
theorem set3 (w : World) (p : Nat) (u0 u1 u2 : Value) : Fr (fun k => k = p) w (((w.setCell ⟨p, 0, none⟩ u0).setCell ⟨p, 1, none⟩ u1).setCell ⟨p, 2, none⟩ u2) :=
 ((Gt.fr_set u0).trans (Gt.fr_set u1)).trans (Gt.fr_set u2)
section
variable {w wr wx : World} {b X2 X4 X5 : Nat} {K K' : Int} {m : M} {vk vt u0 u1 : Value} {r : Row}
end
end Go.Proofs.YtglllflleabmbaaGreat.Dm
