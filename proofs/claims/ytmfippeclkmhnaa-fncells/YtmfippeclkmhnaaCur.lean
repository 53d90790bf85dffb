/-
  Contracts of the drawing cursor of the model (spec.l01Cur): what it hands out is in range, it writes into its own block alone and makes at most new blocks.
-/
import Derived.Test.YtmfippeclkmhnaaRows
import Derived.WalkKit
import Derived.Deep.QuietTactic
import Derived.BigQuiet
import Derived.Below
import Derived.OpenShut
namespace Go.Proofs.Ytmfippeclkmhnaa.Cu
open Go.RowKit

def Bytes (w : World) (b : Nat) (a : Option Addr) (len : Nat) : Prop :=
  len = 0 ∨ ∃ cb off, a = some ⟨cb, off, none⟩ ∧ cb < b ∧ ∀ j, j < len → ∃ v : Int, w.cell? ⟨cb, off + j, none⟩ = some (.int .u8 v) ∧ 0 ≤ v ∧ v ≤ 255

def Cur (w : World) (b : Nat) (K : Int) : Prop :=
  ∃ a len cap k s, b < w.heap.size ∧ w.cell? ⟨b, 0, none⟩ = some (.slice a len cap) ∧ w.cell? ⟨b, 1, none⟩ = some (.int .i64 k) ∧ w.cell? ⟨b, 2, none⟩ = some (.int .i64 s) ∧
    w.frozen? ⟨b, 0, none⟩ = false ∧ w.frozen? ⟨b, 1, none⟩ = false ∧ w.frozen? ⟨b, 2, none⟩ = false ∧
    len ≤ 1048576 ∧ 0 ≤ k ∧ k ≤ K ∧ 0 ≤ s ∧ s ≤ 65521 ∧ Bytes w b a len

theorem ret_int {k : IntKind} {a b : Int} (h : a = b) : Ending.returned (.int k a) = .returned (.int k b) := by rw [h]

set_option maxHeartbeats 400000 in
theorem pick_lt (w : World) (b : Nat) (n : Int) (hn : n < 2) :
    Calls Try.prog 42 #[.pointer (some ⟨b, 0, none⟩), .int .i64 n] w fun e w' => e = .returned (.int .i64 0) ∧ w' = w := by
  go_enter Try.func42, Try.ntmps42
  go_wp2
  go_ret
  exact ⟨rfl, rfl⟩

set_option maxHeartbeats 400000 in
theorem pick_in (w : World) (b : Nat) (n : Int) (hn : 2 ≤ n) (hn' : n ≤ 1000000000000000000) (len cap : Nat) (k : Int) (cb off : Nat) (v : Int)
    (h0 : w.cell? ⟨b, 0, none⟩ = some (.slice (some ⟨cb, off, none⟩) len cap)) (h1 : w.cell? ⟨b, 1, none⟩ = some (.int .i64 k))
    (f1 : w.frozen? ⟨b, 1, none⟩ = false) (hk : 0 ≤ k) (hlt : k < (len : Int)) (hlen : (len : Int) ≤ 1048576)
    (hv : w.cell? ⟨cb, off + k.toNat, none⟩ = some (.int .u8 v)) (v0 : 0 ≤ v) (v1 : v ≤ 255) :
    Calls Try.prog 42 #[.pointer (some ⟨b, 0, none⟩), .int .i64 n] w fun e w' => e = .returned (.int .i64 (v % n)) ∧ ∃ nq, w' = (w.drewN nq).setCell ⟨b, 1, none⟩ (.int .i64 (k + 1)) := by
  go_enter Try.func42, Try.ntmps42
  go_wp2
  go_quiet (fail)
  go_wp2
  go_quiet (fail)
  go_wp2
  go_ret
  exact ⟨rfl, _, rfl⟩

set_option maxHeartbeats 400000 in
theorem pick_nil (w : World) (b : Nat) (n : Int) (hn : 2 ≤ n) (a : Option Addr) (cap : Nat) (k s : Int)
    (h0 : w.cell? ⟨b, 0, none⟩ = some (.slice a 0 cap)) (h1 : w.cell? ⟨b, 1, none⟩ = some (.int .i64 k)) (h2 : w.cell? ⟨b, 2, none⟩ = some (.int .i64 s))
    (f1 : w.frozen? ⟨b, 1, none⟩ = false) (f2 : w.frozen? ⟨b, 2, none⟩ = false) (hk : 0 ≤ k) (hK : k ≤ 1000000000000000000) (s0 : 0 ≤ s) (s1 : s ≤ 65521) :
    Calls Try.prog 42 #[.pointer (some ⟨b, 0, none⟩), .int .i64 n] w fun e w' => e = .returned (.int .i64 0) ∧ ∃ nq, w' = ((w.drewN nq).setCell ⟨b, 2, none⟩ (.int .i64 ((s * 1103 + 12345) % 65521))).setCell ⟨b, 1, none⟩ (.int .i64 (k + 1)) := by
  have hd : decide (k < 0) = false := by simp; omega
  go_enter Try.func42, Try.ntmps42
  go_wp2
  go_quiet (fail)
  go_wp2
  go_ret
  exact ⟨rfl, _, rfl⟩

set_option maxHeartbeats 400000 in
theorem pick_out (w : World) (b : Nat) (n : Int) (hn : 2 ≤ n) (hn' : n ≤ 1000000000000000000) (len cap : Nat) (k s : Int) (cb off : Nat) (v : Int)
    (h0 : w.cell? ⟨b, 0, none⟩ = some (.slice (some ⟨cb, off, none⟩) len cap)) (h1 : w.cell? ⟨b, 1, none⟩ = some (.int .i64 k)) (h2 : w.cell? ⟨b, 2, none⟩ = some (.int .i64 s))
    (f1 : w.frozen? ⟨b, 1, none⟩ = false) (f2 : w.frozen? ⟨b, 2, none⟩ = false) (hk : 0 ≤ k) (hK : k ≤ 1000000000000000000) (s0 : 0 ≤ s) (s1 : s ≤ 65521) (hge : (len : Int) ≤ k) (hpos : 0 < (len : Int)) (hlen : (len : Int) ≤ 1048576)
    (hne : cb ≠ b) (hv : w.cell? ⟨cb, off + (k % (len : Int)).toNat, none⟩ = some (.int .u8 v)) (v0 : 0 ≤ v) (v1 : v ≤ 255) :
    Calls Try.prog 42 #[.pointer (some ⟨b, 0, none⟩), .int .i64 n] w fun e w' => e = .returned (.int .i64 (((s * 1103 + 12345) % 65521 / 7 + v) % n)) ∧ ∃ nq nq', w' = (((w.drewN nq).setCell ⟨b, 2, none⟩ (.int .i64 ((s * 1103 + 12345) % 65521))).drewN nq').setCell ⟨b, 1, none⟩ (.int .i64 (k + 1)) := by
  have hd : decide (k < (len : Int)) = false := by simp; omega
  have hm0 := Int.emod_nonneg k (show (len : Int) ≠ 0 by omega)
  have hm1 := Int.emod_lt_of_pos k hpos
  have s0' : 0 ≤ (s * 1103 + 12345) % 65521 := by omega
  have s1' : (s * 1103 + 12345) % 65521 ≤ 65520 := by omega
  have hv' : ∀ nq x, ((w.drewN nq).setCell ⟨b, 2, none⟩ x).cell? ⟨cb, off + (k % (len : Int)).toNat, none⟩ = some (.int .u8 v) := by
    intro nq x
    rw [World.cell?_setCell_other _ _ _ _ (fun e => hne (congrArg Addr.block e).symm)]
    exact hv
  go_enter Try.func42, Try.ntmps42
  go_wp2
  go_quiet (fail)
  go_wp2
  go_quiet (fail)
  go_wp2
  go_ret
  exact ⟨rfl, _, _, rfl⟩

theorem grown_refl (w : World) (r : Option Nat) : w.grownBy w r := ⟨rfl, rfl, rfl, Nat.le_refl _, fun _ _ _ => rfl⟩
theorem grown_trans {w w1 w2 : World} {r : Option Nat} (h : w.grownBy w1 r) (h' : w1.grownBy w2 r) : w.grownBy w2 r :=
  ⟨h'.os.trans h.os, h'.tape.trans h.tape, h'.output.trans h.output, Nat.le_trans h.size h'.size, fun k hk hr => (h'.block k (Nat.lt_of_lt_of_le hk h.size) hr).trans (h.block k hk hr)⟩
theorem grown_drewN {w w1 : World} {r : Option Nat} (h : w.grownBy w1 r) (n : Nat) : w.grownBy (w1.drewN n) r :=
  grown_trans h ⟨rfl, rfl, rfl, Nat.le_refl _, fun _ _ _ => rfl⟩
theorem grown_drew {w w1 : World} {r : Option Nat} (h : w.grownBy w1 r) : w.grownBy w1.drew r :=
  grown_trans h ⟨rfl, rfl, rfl, Nat.le_refl _, fun _ _ _ => rfl⟩
theorem grown_alloc {w w1 : World} {r : Option Nat} (h : w.grownBy w1 r) (o : Obj) : w.grownBy (w1.alloc o) r :=
  grown_trans h (World.grownBy_alloc _ _ _)
theorem grown_set {w w1 : World} {b : Nat} (h : w.grownBy w1 (some b)) (o : Nat) (v : Value) : w.grownBy (w1.setCell ⟨b, o, none⟩ v) (some b) :=
  grown_trans h ⟨rfl, rfl, rfl, by simp [World.setCell], fun k _ hr => Below.heap_setCell _ _ _ _ (fun e => hr (by rw [e]))⟩
/-- What has turned but block b alone has turned nothing below a B that is at most b. -/
theorem grown_below {w w1 : World} {b B : Nat} (h : w.grownBy w1 (some b)) (hb : B ≤ b) (hB : B ≤ w.heap.size) : Below B w w1 :=
  ⟨h.os, h.tape, h.output, h.size, fun k hk => h.block k (by omega) (fun e => by cases e; omega)⟩

theorem Bytes.keptB {w w1 : World} {b b' : Nat} {a : Option Addr} {len : Nat} (h : Bytes w b a len) (hb' : b ≤ b') (hk : ∀ k, k < b → w1.heap[k]? = w.heap[k]?) : Bytes w1 b' a len := by
  rcases h with h | ⟨cb, off, ha, hlt, hc⟩
  · exact .inl h
  · refine .inr ⟨cb, off, ha, by omega, fun j hj => ?_⟩
    obtain ⟨v, hv, h0, h1⟩ := hc j hj
    exact ⟨v, by rw [World.cell?_of_block (w := w) (a := ⟨cb, off + j, none⟩) (hk cb hlt)]; exact hv, h0, h1⟩
theorem Bytes.kept {w w1 : World} {b : Nat} {a : Option Addr} {len : Nat} (h : Bytes w b a len) (hb : b < w.heap.size) (hg : w.grownBy w1 (some b)) : Bytes w1 b a len :=
  h.keptB (Nat.le_refl _) (fun k hk => hg.block k (by omega) (fun e => by cases e; omega))

/-- The cursor's state is kept by whatever turns nothing of its block nor of those below, where what it reads lies. -/
theorem Cur.keptB {w w1 : World} {b : Nat} {K : Int} (h : Cur w b K) (hs : w.heap.size ≤ w1.heap.size) (hb : ∀ k, k ≤ b → w1.heap[k]? = w.heap[k]?) : Cur w1 b K := by
  obtain ⟨a, len, cap, k, s, hlt, c0, c1, c2, f0, f1, f2, r⟩ := h
  have e := hb b (Nat.le_refl _)
  refine ⟨a, len, cap, k, s, Nat.lt_of_lt_of_le hlt hs, ?_, ?_, ?_, ?_, ?_, ?_, r.1, r.2.1, r.2.2.1, r.2.2.2.1, r.2.2.2.2.1, r.2.2.2.2.2.keptB (Nat.le_refl _) (fun k hk => hb k (by omega))⟩
  · rw [World.cell?_of_block (w := w) (a := ⟨b, 0, none⟩) e]; exact c0
  · rw [World.cell?_of_block (w := w) (a := ⟨b, 1, none⟩) e]; exact c1
  · rw [World.cell?_of_block (w := w) (a := ⟨b, 2, none⟩) e]; exact c2
  · rw [World.frozen?_of_block (w := w) (a := ⟨b, 0, none⟩) e]; exact f0
  · rw [World.frozen?_of_block (w := w) (a := ⟨b, 1, none⟩) e]; exact f1
  · rw [World.frozen?_of_block (w := w) (a := ⟨b, 2, none⟩) e]; exact f2
theorem Cur.lt {w : World} {b : Nat} {K : Int} (h : Cur w b K) : b < w.heap.size := by obtain ⟨_, _, _, _, _, h, _⟩ := h; exact h
theorem Cur.kept {w w1 : World} {b : Nat} {K : Int} (h : Cur w b K) (hs : w.heap.size ≤ w1.heap.size) (hb : ∀ k, k < w.heap.size → w1.heap[k]? = w.heap[k]?) : Cur w1 b K :=
  h.keptB hs (fun k hk => hb k (by have := h.lt; omega))
theorem Cur.mono {w : World} {b : Nat} {K K' : Int} (h : Cur w b K) (hK : K ≤ K') : Cur w b K' := by
  obtain ⟨a, len, cap, k, s, hlt, c0, c1, c2, f0, f1, f2, g1, g2, g3, r⟩ := h
  exact ⟨a, len, cap, k, s, hlt, c0, c1, c2, f0, f1, f2, g1, g2, by omega, r⟩
theorem Cur.alloc {w : World} {b : Nat} {K : Int} (h : Cur w b K) (o : Obj) : Cur (w.alloc o) b K :=
  h.kept (by simp) (fun k hk => Below.heap_alloc _ _ _ hk)
theorem Cur.drewN {w : World} {b : Nat} {K : Int} (h : Cur w b K) (n : Nat) : Cur (w.drewN n) b K :=
  h.kept (Nat.le_refl _) (fun _ _ => rfl)
theorem Cur.drew {w : World} {b : Nat} {K : Int} (h : Cur w b K) : Cur w.drew b K :=
  h.kept (Nat.le_refl _) (fun _ _ => rfl)

theorem step1 {w : World} {b len cap : Nat} {a : Option Addr} {k s : Int} (n1 : Nat) (hlt : b < w.heap.size)
    (c0 : w.cell? ⟨b, 0, none⟩ = some (.slice a len cap)) (c1 : w.cell? ⟨b, 1, none⟩ = some (.int .i64 k)) (c2 : w.cell? ⟨b, 2, none⟩ = some (.int .i64 s))
    (f0 : w.frozen? ⟨b, 0, none⟩ = false) (f1 : w.frozen? ⟨b, 1, none⟩ = false) (f2 : w.frozen? ⟨b, 2, none⟩ = false)
    (g1 : len ≤ 1048576) (g2 : 0 ≤ k) (g3 : 0 ≤ s ∧ s ≤ 65521) (hB : Bytes w b a len) (K : Int) (hK : k ≤ K) :
    Cur ((w.drewN n1).setCell ⟨b, 1, none⟩ (.int .i64 (k + 1))) b (K + 1) := by
  refine ⟨a, len, cap, k + 1, s, by simpa [World.setCell] using hlt, ?_, ?_, ?_, ?_, ?_, ?_, g1, by omega, by omega, g3.1, g3.2, ?_⟩
  · rw [World.cell?_setCell_other _ _ _ _ (by simp)]; exact c0
  · exact World.cell?_setCell_same _ _ _ (u := .int .i64 k) c1
  · rw [World.cell?_setCell_other _ _ _ _ (by simp)]; exact c2
  · rw [World.frozen?_setCell]; exact f0
  · rw [World.frozen?_setCell]; exact f1
  · rw [World.frozen?_setCell]; exact f2
  · exact hB.kept hlt (grown_set (grown_drewN (grown_refl _ _) _) _ _)

theorem step2 {w : World} {b len cap : Nat} {a : Option Addr} {k s : Int} (n1 n2 : Nat) (s' : Int) (hlt : b < w.heap.size)
    (c0 : w.cell? ⟨b, 0, none⟩ = some (.slice a len cap)) (c1 : w.cell? ⟨b, 1, none⟩ = some (.int .i64 k)) (c2 : w.cell? ⟨b, 2, none⟩ = some (.int .i64 s))
    (f0 : w.frozen? ⟨b, 0, none⟩ = false) (f1 : w.frozen? ⟨b, 1, none⟩ = false) (f2 : w.frozen? ⟨b, 2, none⟩ = false)
    (g1 : len ≤ 1048576) (g2 : 0 ≤ k) (g3 : 0 ≤ s' ∧ s' ≤ 65521) (hB : Bytes w b a len) (K : Int) (hK : k ≤ K) :
    Cur ((((w.drewN n1).setCell ⟨b, 2, none⟩ (.int .i64 s')).drewN n2).setCell ⟨b, 1, none⟩ (.int .i64 (k + 1))) b (K + 1) := by
  refine step1 (w := (w.drewN n1).setCell ⟨b, 2, none⟩ (.int .i64 s')) (s := s') (len := len) (cap := cap) (a := a) n2 (by simpa [World.setCell] using hlt) ?_ ?_ ?_ ?_ ?_ ?_ g1 g2 g3 ?_ K hK
  · rw [World.cell?_setCell_other _ _ _ _ (by simp)]; exact c0
  · rw [World.cell?_setCell_other _ _ _ _ (by simp)]; exact c1
  · exact World.cell?_setCell_same _ _ _ (u := .int .i64 s) c2
  · rw [World.frozen?_setCell]; exact f0
  · rw [World.frozen?_setCell]; exact f1
  · rw [World.frozen?_setCell]; exact f2
  · exact hB.kept hlt (grown_set (grown_drewN (grown_refl _ _) _) _ _)

/-- THE CONTRACT OF pick: a number below n (0 where n is below 2); the cursor has gone on; nothing but its block has turned, nothing is new. -/
theorem pick_any (w : World) (b : Nat) (K : Int) (hc : Cur w b K) (hK : K ≤ 1000000000000000000) (n : Int) (hn' : n ≤ 1000000000000000000) :
    Calls Try.prog 42 #[.pointer (some ⟨b, 0, none⟩), .int .i64 n] w fun e w' => ∃ x : Int, e = .returned (.int .i64 x) ∧ 0 ≤ x ∧ (2 ≤ n → x < n) ∧ w.grownBy w' (some b) ∧ w'.heap.size = w.heap.size ∧ Cur w' b (K + 1) := by
  by_cases hn : n < 2
  · refine (pick_lt w b n hn).mono ?_
    rintro e w' ⟨rfl, rfl⟩
    exact ⟨0, rfl, by omega, by omega, grown_refl _ _, rfl, hc.mono (by omega)⟩
  · obtain ⟨a, len, cap, k, s, hlt, c0, c1, c2, f0, f1, f2, g1, g2, g3, g4, g5, hB⟩ := hc
    have hB' := hB
    rcases hB' with rfl | ⟨cb, off, rfl, hcl, hcc⟩
    · refine (pick_nil w b n (by omega) a cap k s c0 c1 c2 f1 f2 g2 (by omega) g4 g5).mono ?_
      rintro e w' ⟨rfl, nq, rfl⟩
      refine ⟨0, rfl, by omega, by omega, ?_, by simp [World.setCell], ?_⟩
      · exact grown_set (grown_set (grown_drewN (grown_refl _ _) _) _ _) _ _
      · exact step2 nq 0 _ hlt c0 c1 c2 f0 f1 f2 g1 g2 (by omega) hB K g3
    · by_cases hl0 : len = 0
      · subst hl0
        refine (pick_nil w b n (by omega) _ cap k s c0 c1 c2 f1 f2 g2 (by omega) g4 g5).mono ?_
        rintro e w' ⟨rfl, nq, rfl⟩
        refine ⟨0, rfl, by omega, by omega, ?_, by simp [World.setCell], ?_⟩
        · exact grown_set (grown_set (grown_drewN (grown_refl _ _) _) _ _) _ _
        · exact step2 nq 0 _ hlt c0 c1 c2 f0 f1 f2 g1 g2 (by omega) hB K g3
      · by_cases hk : k < (len : Int)
        · obtain ⟨v, hv, v0, v1⟩ := hcc k.toNat (by omega)
          refine (pick_in w b n (by omega) hn' len cap k cb off v c0 c1 f1 g2 hk (by omega) hv v0 v1).mono ?_
          rintro e w' ⟨rfl, nq, rfl⟩
          refine ⟨_, rfl, Int.emod_nonneg _ (by omega), fun _ => Int.emod_lt_of_pos _ (by omega), ?_, by simp [World.setCell], ?_⟩
          · exact grown_set (grown_drewN (grown_refl _ _) _) _ _
          · exact step1 nq hlt c0 c1 c2 f0 f1 f2 g1 g2 ⟨g4, g5⟩ hB K g3
        · have hm0 := Int.emod_nonneg k (show (len : Int) ≠ 0 by omega)
          have hm1 := Int.emod_lt_of_pos k (show 0 < (len : Int) by omega)
          obtain ⟨v, hv, v0, v1⟩ := hcc (k % (len : Int)).toNat (by omega)
          refine (pick_out w b n (by omega) hn' len cap k s cb off v c0 c1 c2 f1 f2 g2 (by omega) g4 g5 (by omega) (by omega) (by omega) (by omega) hv v0 v1).mono ?_
          rintro e w' ⟨rfl, nq, nq', rfl⟩
          refine ⟨_, rfl, Int.emod_nonneg _ (by omega), fun _ => Int.emod_lt_of_pos _ (by omega), ?_, by simp [World.setCell], ?_⟩
          · exact grown_set (grown_drewN (grown_set (grown_drewN (grown_refl _ _) _) _ _) _) _ _
          · exact step2 nq nq' _ hlt c0 c1 c2 f0 f1 f2 g1 g2 (by omega) hB K g3

theorem ret_bool {a b : Bool} (h : a = b) : Ending.returned (.bool a) = .returned (.bool b) := by rw [h]

set_option maxHeartbeats 400000 in
theorem once_any (w : World) (b : Nat) (K : Int) (hc : Cur w b K) (hK : K ≤ 1000000000000000000) (n : Int) (hn0 : 0 ≤ n) (hn' : n ≤ 1000000000000000000) :
    Calls Try.prog 44 #[.pointer (some ⟨b, 0, none⟩), .int .i64 n] w fun e w' => ∃ x : Bool, e = .returned (.bool x) ∧ w.grownBy w' (some b) ∧ w'.heap.size = w.heap.size ∧ Cur w' b (K + 1) := by
  go_enter Try.func44, Try.ntmps44
  go_wp2_with fail
  refine (pick_any _ _ _ hc hK _ hn').mono ?_
  rintro e w1 ⟨x, rfl, x0, x1, hg, hz, hc1⟩
  go_wp2
  go_ret
  exact ⟨_, rfl, hg, hz, hc1⟩

def okv (lo hi : Int) : Value → Bool
  | .int .i64 v => decide (lo ≤ v ∧ v ≤ hi)
  | _ => false
theorem okv_int {lo hi : Int} {v : Value} (h : okv lo hi v = true) : ∃ x : Int, v = .int .i64 x ∧ lo ≤ x ∧ x ≤ hi := by
  unfold okv at h
  split at h
  · exact ⟨_, rfl, by simpa using h⟩
  · cases h
/-- A table of numbers that the walk has just laid, read behind a call that turned nothing of it. -/
theorem tab {w w1 : World} {b : Nat} (cs : Array Value) (T : TypeId) (lo hi : Int) (hg : (w.alloc (.cells cs T)).grownBy w1 (some b)) (hb : b < w.heap.size) (hall : (cs.toList.all (okv lo hi)) = true) (x : Int) (h0 : 0 ≤ x) (h1 : x < (cs.size : Int)) :
    ∃ v : Int, w1.cell? ⟨w.heap.size, x.toNat, none⟩ = some (.int .i64 v) ∧ lo ≤ v ∧ v ≤ hi := by
  have hlt : x.toNat < cs.size := by omega
  have := (List.all_eq_true.1 hall) cs[x.toNat] (by simp)
  obtain ⟨v, hv, hb'⟩ := okv_int this
  refine ⟨v, ?_, hb'⟩
  refine hg.cell (a := ⟨w.heap.size, x.toNat, none⟩) ?_ (by simp; omega)
  rw [World.cell?_alloc_new, Array.getElem?_eq_getElem hlt, hv]

set_option maxHeartbeats 400000 in
theorem fix_any (w : World) (b : Nat) (K : Int) (hc : Cur w b K) (hK : K ≤ 1000000000000000000) :
    Calls Try.prog 52 #[.pointer (some ⟨b, 0, none⟩)] w fun e w' => ∃ x : Int, e = .returned (.int .i64 x) ∧ -1000000000 ≤ x ∧ x ≤ 1000000000 ∧ w.grownBy w' (some b) ∧ Cur w' b (K + 1) := by
  have hb : b < w.heap.size := by obtain ⟨_, _, _, _, _, h, _⟩ := hc; exact h
  go_enter Try.func52, Try.ntmps52
  go_wp2_with fail
  refine (pick_any _ _ _ (hc.alloc _) hK _ (by omega)).mono ?_
  rintro e w1 ⟨x, rfl, x0, x1, hg, hz, hc1⟩
  have x2 : x < 13 := x1 (by omega)
  obtain ⟨v, hv, v0, v1⟩ := tab _ _ (-1000000000) 1000000000 hg hb (by decide +kernel) x x0 x2
  have hg' : w.grownBy w1 (some b) := grown_trans (World.grownBy_alloc _ _ _) hg
  clear hg x1 hz
  go_wp2
  go_ret
  exact ⟨v, rfl, v0, v1, hg', hc1⟩

set_option maxHeartbeats 400000 in
theorem raw_any (w : World) (b : Nat) (K : Int) (hc : Cur w b K) (hK : K ≤ 100000000000000000) :
    Calls Try.prog 45 #[.pointer (some ⟨b, 0, none⟩)] w fun e w' => ∃ x : Int, e = .returned (.int .i64 x) ∧ -9223372036854775808 ≤ x ∧ x ≤ 9223372036854775807 ∧ w.grownBy w' (some b) ∧ Cur w' b (K + 2) := by
  have hb : b < w.heap.size := by obtain ⟨_, _, _, _, _, h, _⟩ := hc; exact h
  go_enter Try.func45, Try.ntmps45
  go_wp2_with fail
  refine (pick_any _ _ _ hc (by omega) _ (by omega)).mono ?_
  rintro e w1 ⟨x, rfl, x0, x1, hg, hz, hc1⟩
  have x2 : x < 8 := x1 (by omega)
  have hb1 : b < w1.heap.size := by omega
  clear x1 hz
  by_cases e0 : x = 0
  · subst e0
    go_wp2_with fail
    refine (pick_any _ _ _ hc1 (by omega) _ (by omega)).mono ?_
    rintro e w2 ⟨y, rfl, y0, y1, hg2, hz2, hc2⟩
    have y2 : y < 256 := y1 (by omega)
    clear y1
    go_wp2
    go_ret
    exact ⟨_, rfl, by omega, by omega, grown_trans hg hg2, hc2.mono (by omega)⟩
  · by_cases e1 : x = 1
    · subst e1
      go_wp2_with fail
      refine (pick_any _ _ _ (hc1.alloc _) (by omega) _ (by omega)).mono ?_
      rintro e w2 ⟨y, rfl, y0, y1, hg2, hz2, hc2⟩
      have y2 : y < 8 := y1 (by omega)
      obtain ⟨v, hv, v0, v1⟩ := tab _ _ (-9223372036854775808) 9223372036854775807 hg2 hb1 (by decide +kernel) y y0 y2
      have hg' : w.grownBy w2 (some b) := grown_trans hg (grown_trans (World.grownBy_alloc _ _ _) hg2)
      clear hg hg2 y1 hz2
      go_wp2
      go_ret
      exact ⟨v, rfl, v0, v1, hg', hc2.mono (by omega)⟩
    · have n0 : (x == 0) = false := by simpa using e0
      have n1 : (x == 1) = false := by simpa using e1
      go_wp2_with fail
      refine (pick_any _ _ _ hc1 (by omega) _ (by omega)).mono ?_
      rintro e w2 ⟨y, rfl, y0, y1, hg2, hz2, hc2⟩
      have y2 : y < 14 := y1 (by omega)
      clear y1
      go_wp2
      go_ret
      exact ⟨_, rfl, by omega, by omega, grown_trans hg hg2, hc2.mono (by omega)⟩

/-- What a law is told of a slice of bytes that came in. -/
theorem bytes_of {w : World} {x : Addr} {len cap : Nat} {zs : List Int} (b : Nat) (hb : w.heap.size ≤ b) (hl : len ≤ cap) (hz : zs.length = cap)
    (hc : ∀ i, i < zs.length → w.cell? (x.add i) = some (.int .u8 (zs.getD i 0))) (hw : ∀ n ∈ zs, (Lit.int .u8 n).wf = true) : Bytes w b (some x) len := by
  by_cases h0 : len = 0
  · exact .inl h0
  · obtain ⟨cb, off, spot⟩ := x
    have hs : spot = none := by simpa [Addr.add] using World.cell?_spot (hc 0 (by omega))
    subst hs
    have hlt : cb < w.heap.size := World.block_lt_of_cell? w _ (hc 0 (by omega))
    refine .inr ⟨cb, off, rfl, by omega, fun j hj => ⟨zs.getD j 0, ?_, ?_⟩⟩
    · rw [← Go.WideShapes.add_plain]; exact hc j (by omega)
    · have hm : zs.getD j 0 ∈ zs := by
        rw [List.getD_eq_getElem?_getD, List.getElem?_eq_getElem (by omega)]
        exact List.getElem_mem _
      exact bounds_u8 (hw _ hm)

theorem Bytes.below {w w1 : World} {b b' : Nat} {a : Option Addr} {len : Nat} (h : Bytes w b a len) (hb' : b ≤ b') (_hs : w.heap.size ≤ w1.heap.size) (hk : ∀ k, k < b → w1.heap[k]? = w.heap[k]?) : Bytes w1 b' a len := h.keptB hb' hk

set_option maxHeartbeats 400000 in
theorem open_any (w : World) (a : Option Addr) (len cap : Nat) (hB : Bytes w w.heap.size a len) (hl : (len : Int) ≤ 1048576) :
    Calls Try.prog 19 #[.slice a len cap] w fun e w' => e = .returned (.pointer (some ⟨w.heap.size, 0, none⟩)) ∧ w.grownBy w' (some w.heap.size) ∧ Cur w' w.heap.size 0 := by
  go_enter Try.func19, Try.ntmps19
  go_wp2
  go_ret
  refine ⟨rfl, World.grownBy_alloc _ _ _, a, len, cap, 0, 83 + (len : Int) % 1000, by simp, ?_, ?_, ?_, ?_, ?_, ?_, by omega, by omega, by omega, by omega, by omega, ?_⟩
  · simp [World.cell?_alloc_new]
  · simp [World.cell?_alloc_new]
  · simp [World.cell?_alloc_new]
  · simp
  · simp
  · simp
  · exact hB.below (Nat.le_refl _) (by simp) (fun k hk => Below.heap_alloc _ _ _ hk)

set_option maxHeartbeats 400000 in
theorem big_any (w : World) (a : Option Addr) (len cap : Nat) :
    Calls Try.prog 5 #[.slice a len cap] w fun e w' => e = .returned (.bool (decide (1048576 < len))) ∧ w' = w := by
  go_enter Try.func5, Try.ntmps5
  go_wp2
  go_ret
  refine ⟨ret_bool ?_, rfl⟩
  simp
  omega

end Go.Proofs.Ytmfippeclkmhnaa.Cu
