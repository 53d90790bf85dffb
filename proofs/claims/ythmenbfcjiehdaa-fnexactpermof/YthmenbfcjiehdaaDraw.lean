/-
  Draws of the program and of the model: the seed as it is taken, the next one, the number below n and the seed that goes on. The program holds its seed in a block of its own, behind a closure.
-/
import Derived.Test.YthmenbfcjiehdaaSeed
import Derived.WalkKit
import Derived.Deep.QuietTactic
import Derived.BigQuiet
import Derived.Below
import Derived.OpenShut
namespace Go.Proofs.Ythmenbfcjiehdaa.Dr
set_option maxRecDepth 20000
open Go.RowKit

theorem ret_int {k : IntKind} {a b : Int} (h : a = b) : Ending.returned (.int k a) = .returned (.int k b) := by rw [h]
theorem ret_bool {a b : Bool} (h : a = b) : Ending.returned (.bool a) = .returned (.bool b) := by rw [h]

def btw (n lo hi : Int) : Bool := decide (lo ≤ n ∧ n ≤ hi)
set_option maxHeartbeats 400000 in
theorem between_any (n lo hi : Int) (w : World) :
    Calls Try.prog 35 #[.int .i64 n, .int .i64 lo, .int .i64 hi] w fun e w' => e = .returned (.bool (btw n lo hi)) ∧ w' = w := by
  go_enter Try.func35, Try.ntmps35
  go_wp2
  all_goals go_ret
  all_goals refine ⟨ret_bool ?_, rfl⟩
  all_goals unfold btw
  all_goals simp
  all_goals omega

set_option maxHeartbeats 400000 in
theorem stk_any (s : Int) (w : World) :
    Calls Try.prog 34 #[.int .i64 s] w fun e w' => e = .returned (.int .i64 (Se.tk s)) ∧ w' = w := by
  go_enter Try.func34, Try.ntmps34
  go_wp2_with (go_at_call 35; refine (between_any _ _ _ _).mono ?_; rintro e w' ⟨rfl, hw⟩; subst w')
  all_goals go_ret
  all_goals refine ⟨ret_int ?_, rfl⟩
  all_goals unfold Se.tk
  · rename_i h
    rw [if_pos (by simpa [btw] using h)]
  · rename_i h
    rw [if_neg (by simpa [btw] using h)]

set_option maxHeartbeats 400000 in
theorem snx_any (s : Int) (w : World) :
    Calls Try.prog 13 #[.int .i64 s] w fun e w' => e = .returned (.int .i64 (Se.nx (Se.tk s))) ∧ w' = w := by
  have h := Se.tk_seed s
  obtain ⟨t, ht⟩ : ∃ t, Se.tk s = t := ⟨_, rfl⟩
  rw [ht] at h
  obtain ⟨h0, h1⟩ := h
  go_enter Try.func13, Try.ntmps13
  go_wp2_with fail
  refine (stk_any _ _).mono ?_
  rintro e w' ⟨rfl, hw⟩
  subst w'
  rw [ht]
  have HT : Hid (Se.tk s = t) := ht
  clear ht
  go_wp2
  go_ret
  exact ⟨by rw [HT.out]; rfl, rfl⟩

set_option maxHeartbeats 1000000 in
theorem sbelow_no (s n : Int) (w : World) (hn : n < 1 ∨ 1000000 < n) :
    Calls Try.prog 11 #[.int .i64 s, .int .i64 n] w fun e w' => e = .returned (.tuple #[.int .i64 0, .int .i64 (Se.tk s)]) ∧ w' = w := by
  have hb : btw n 1 1000000 = false := by simp [btw]; omega
  go_enter Try.func11, Try.ntmps11
  go_wp2_with (first | (go_at_call 35; refine (between_any _ _ _ _).mono ?_; rintro e w' ⟨rfl, hw⟩; subst w') | (go_at_call 34; refine (stk_any _ _).mono ?_; rintro e w' ⟨rfl, hw⟩; subst w'))
  go_ret2
  exact ⟨rfl, rfl⟩

set_option maxHeartbeats 1000000 in
theorem sbelow_yes (s n : Int) (w : World) (h1 : 1 ≤ n) (h2 : n ≤ 1000000) :
    Calls Try.prog 11 #[.int .i64 s, .int .i64 n] w fun e w' => e = .returned (.tuple #[.int .i64 ((Se.sd (Se.top n) (Se.tk s) - 1) % n), .int .i64 (Se.sd (Se.top n) (Se.tk s))]) ∧ w' = w := by
  have hb : btw n 1 1000000 = true := by simp [btw]; omega
  have ht : 2146483647 ≤ 2147483646 / n * n ∧ 2147483646 / n * n ≤ 2147483646 := Se.top_bd h1 h2
  obtain ⟨t0, t1⟩ := ht
  have hs := Se.tk_seed s
  have HS : Hid (Se.Seed (Se.tk s)) := hs
  obtain ⟨hs0, hs1⟩ := hs
  go_enter Try.func11, Try.ntmps11
  go_wp2_with (first | (go_at_call 35; refine (between_any _ _ _ _).mono ?_; rintro e w' ⟨rfl, hw⟩; subst w') | (go_at_call 34; refine (stk_any _ _).mono ?_; rintro e w' ⟨rfl, hw⟩; subst w'))
  go_loop [0] (fun v => ∃ x : Int, v = .int .i64 x ∧ Se.Seed x ∧ Se.sd (2147483646 / n * n) x = Se.sd (2147483646 / n * n) (Se.tk s)) (fun v => Se.ms (intOf v))
  case atStart => exact ⟨_, rfl, HS.out, rfl⟩
  case round =>
    obtain ⟨x, rfl, hx, he⟩ := hrel
    have HE : Hid (Se.sd (2147483646 / n * n) x = Se.sd (2147483646 / n * n) (Se.tk s)) := he
    have hy := Se.nx_seed hx
    have HX : Hid (Se.Seed x ∧ Se.Seed (Se.nx x)) := ⟨hx, hy⟩
    have htx := Se.tk_id hx
    clear he hx
    obtain ⟨y0, y1⟩ := hy
    go_wp2_with fail
    refine (snx_any _ _).mono ?_
    rintro e w1 ⟨rfl, hw⟩
    subst w1
    rw [htx]
    by_cases hlt : Se.nx x - 1 < 2147483646 / n * n
    · go_wp2
      go_ret2
      refine ⟨?_, rfl⟩
      have := Se.sd_here hlt
      rw [HE.out] at this
      show _ = Ending.returned (.tuple #[.int .i64 ((Se.sd (2147483646 / n * n) (Se.tk s) - 1) % n), .int .i64 (Se.sd (2147483646 / n * n) (Se.tk s))])
      rw [this]
      rfl
    · go_wp2
      go_round
      case rel => exact ⟨_, rfl, HX.out.2, by rw [← HE.out]; exact (Se.sd_again HX.out.1 t0 (by omega)).symm⟩
      case measure => simp only [intOf]; exact Se.ms_less HX.out.1 (by omega)
theorem sbelow_tk (s n : Int) (w : World) (h1 : 1 ≤ n) (h2 : n ≤ 1000000) (hs : Se.Seed s) :
    Calls Try.prog 11 #[.int .i64 s, .int .i64 n] w fun e w' => e = .returned (.tuple #[.int .i64 ((Se.sd (Se.top n) s - 1) % n), .int .i64 (Se.sd (Se.top n) s)]) ∧ w' = w := by
  have := sbelow_yes s n w h1 h2
  rwa [Se.tk_id hs] at this

set_option maxHeartbeats 400000 in
theorem iseed_any (x : Int) (w : World) : Calls Try.prog 39 #[.int .i64 x] w fun e w' => e = .returned (.bool (decide (1 ≤ x ∧ x < 2147483647))) ∧ w' = w := by
  go_enter Try.func39, Try.ntmps39
  go_wp2
  all_goals go_ret
  all_goals refine ⟨congrArg (fun b => Ending.returned (.bool b)) ?_, rfl⟩
  all_goals simp
  all_goals first | omega | (rw [Bool.eq_iff_iff]; simp; omega)
set_option maxHeartbeats 400000 in
theorem itk_any (s : Int) (w : World) :
    Calls Try.prog 31 #[.int .i64 s] w fun e w' => e = .returned (.int .i64 (Se.tk s)) ∧ w' = w := by
  by_cases h : 1 ≤ s ∧ s < 2147483647
  · have hv : decide (1 ≤ s ∧ s < 2147483647) = true := decide_eq_true h
    go_enter Try.func31, Try.ntmps31
    go_wp2_with (go_at_call 39; refine (iseed_any _ _).mono ?_; rintro e w' ⟨rfl, hw⟩; subst w'; rw [hv])
    go_ret
    refine ⟨ret_int ?_, rfl⟩
    unfold Se.tk
    first | (rw [if_pos (by omega)]; done) | (rw [if_neg (by omega)]; done)
  · have hv : decide (1 ≤ s ∧ s < 2147483647) = false := decide_eq_false h
    go_enter Try.func31, Try.ntmps31
    go_wp2_with (go_at_call 39; refine (iseed_any _ _).mono ?_; rintro e w' ⟨rfl, hw⟩; subst w'; rw [hv])
    go_ret
    refine ⟨ret_int ?_, rfl⟩
    unfold Se.tk
    first | (rw [if_pos (by omega)]; done) | (rw [if_neg (by omega)]; done)

/-- The program's seed lies in block b, and may be written. -/
def Held (w : World) (b : Nat) (s : Int) : Prop := b < w.heap.size ∧ w.cell? ⟨b, 0, none⟩ = some (.int .i64 s) ∧ w.frozen? ⟨b, 0, none⟩ = false

theorem Held.set {w : World} {b : Nat} {s : Int} (h : Held w b s) (t : Int) : Held (w.setCell ⟨b, 0, none⟩ (.int .i64 t)) b t :=
  ⟨by simpa [World.setCell] using h.1, World.cell?_setCell_same _ _ _ (u := .int .i64 s) h.2.1, by rw [World.frozen?_setCell]; exact h.2.2⟩
theorem Held.kept {w w1 : World} {b : Nat} {s : Int} (h : Held w b s) (hs : w.heap.size ≤ w1.heap.size) (hb : w1.heap[b]? = w.heap[b]?) : Held w1 b s :=
  ⟨Nat.lt_of_lt_of_le h.1 hs, by rw [World.cell?_of_block (w := w) (a := ⟨b, 0, none⟩) hb]; exact h.2.1, by rw [World.frozen?_of_block (w := w) (a := ⟨b, 0, none⟩) hb]; exact h.2.2⟩
theorem held_new (w : World) (s : Int) (T : TypeId) : Held (w.alloc (.cells #[.int .i64 s] T)) w.heap.size s :=
  ⟨by simp, by simp [World.cell?_alloc_new], by simp⟩
theorem grown_refl (w : World) (r : Option Nat) : w.grownBy w r := ⟨rfl, rfl, rfl, Nat.le_refl _, fun _ _ _ => rfl⟩
theorem grown_trans {w w1 w2 : World} {r : Option Nat} (h : w.grownBy w1 r) (h' : w1.grownBy w2 r) : w.grownBy w2 r :=
  ⟨h'.os.trans h.os, h'.tape.trans h.tape, h'.output.trans h.output, Nat.le_trans h.size h'.size, fun k hk hr => (h'.block k (Nat.lt_of_lt_of_le hk h.size) hr).trans (h.block k hk hr)⟩
theorem grown_set (w : World) (b : Nat) (o : Nat) (v : Value) : w.grownBy (w.setCell ⟨b, o, none⟩ v) (some b) :=
  ⟨rfl, rfl, rfl, by simp [World.setCell], fun k _ hr => Below.heap_setCell _ _ _ _ (fun e => hr (by rw [e]))⟩
theorem grown_below {w w1 : World} {b B : Nat} (h : w.grownBy w1 (some b)) (hb : B ≤ b) (hB : B ≤ w.heap.size) : Below B w w1 :=
  ⟨h.os, h.tape, h.output, h.size, fun k hk => h.block k (by omega) (fun e => by cases e; omega)⟩

/-- The closure that holds the seed in block b. -/
def clo (b : Nat) : Value := .func (.func 40) #[] #[.pointer (some ⟨b, 0, none⟩)]

set_option maxHeartbeats 400000 in
theorem from_any (s : Int) (w : World) :
    Calls Try.prog 33 #[.int .i64 s] w fun e w' => e = .returned (clo w.heap.size) ∧ w' = w.alloc (.cells #[.int .i64 (Se.tk s)] 3) := by
  go_enter Try.func33, Try.ntmps33
  go_wp2_with (go_at_call 31; refine (itk_any _ _).mono ?_; rintro e w' ⟨rfl, hw⟩; subst w')
  go_ret
  exact ⟨rfl, rfl⟩

set_option maxHeartbeats 400000 in
theorem next_any (b : Nat) (s : Int) (w : World) (hs : Se.Seed s) (h : Held w b s) :
    Calls Try.prog 40 #[.pointer (some ⟨b, 0, none⟩)] w fun e w' => e = .returned (.int .i64 (Se.nx s)) ∧ w' = w.setCell ⟨b, 0, none⟩ (.int .i64 (Se.nx s)) := by
  obtain ⟨hlt, hc, hf⟩ := h
  obtain ⟨s0, s1⟩ := hs
  go_enter Try.func40, Try.ntmps40
  go_wp2
  go_ret
  exact ⟨rfl, rfl⟩

set_option maxHeartbeats 1000000 in
theorem drawBelow_any (b : Nat) (s n : Int) (w : World) (hs : Se.Seed s) (h : Held w b s) (h1 : 1 ≤ n) (h2 : n ≤ 1000000) :
    Calls Try.prog 32 #[clo b, .int .i64 n] w fun e w' => e = .returned (.tuple #[.int .i64 ((Se.sd (Se.top n) s - 1) % n), .int .i64 (Se.sd (Se.top n) s)]) ∧ Held w' b (Se.sd (Se.top n) s) ∧ w.grownBy w' (some b) ∧ w'.heap.size = w.heap.size := by
  have ht : 2146483647 ≤ 2147483646 / n * n ∧ 2147483646 / n * n ≤ 2147483646 := Se.top_bd h1 h2
  obtain ⟨t0, t1⟩ := ht
  have HS : Hid (Se.Seed s) := hs
  clear hs
  have HH : Hid (Held w b s) := h
  clear h
  unfold clo
  go_enter Try.func32, Try.ntmps32
  go_wp2_with (go_at_call 40; refine (next_any _ s _ HS.out HH.out).mono ?_; rintro e w1 ⟨rfl, rfl⟩)
  go_loopw [7] (fun v wr => ∃ x : Int, v = .int .i64 x ∧ Se.Seed x ∧ Held wr b x ∧ w.grownBy wr (some b) ∧ wr.heap.size = w.heap.size ∧ Se.sd1 (2147483646 / n * n) x = Se.sd (2147483646 / n * n) s) (fun v _ => Se.ms1 (intOf v))
  case atStart => exact ⟨_, rfl, Se.nx_seed HS.out, HH.out.set _, grown_set _ _ _ _, by simp [World.setCell], Se.sd1_nx HS.out t0⟩
  case round =>
    obtain ⟨x, rfl, hx, hh, hg, hz, he⟩ := hrel
    have HE : Hid (Se.sd1 (2147483646 / n * n) x = Se.sd (2147483646 / n * n) s) := he
    have HX : Hid (Se.Seed x) := hx
    have HH' : Hid (Held wr b x) := hh
    have HZ : Hid (wr.heap.size = w.heap.size) := hz
    clear he hh hz
    obtain ⟨x0, x1⟩ := hx
    by_cases hlt : x - 1 < 2147483646 / n * n
    · have e1 : Hid (Se.sd (Se.top n) s = x) := HE.out.symm.trans (Se.sd1_yes hlt)
      go_wp2
      go_ret2
      rw [e1.out]
      exact ⟨rfl, HH'.out, hg, HZ.out⟩
    · go_wp2_with (go_at_call 40; refine (next_any _ x _ HX.out HH'.out).mono ?_; rintro e w1 ⟨rfl, rfl⟩)
      go_roundw
      case rel => exact ⟨_, rfl, Se.nx_seed HX.out, HH'.out.set _, grown_trans hg (grown_set _ _ _ _), by simpa [World.setCell] using HZ.out, (Se.sd1_nx HX.out t0).trans ((Se.sd1_no (by omega)).symm.trans HE.out)⟩
      case measure => simp only [intOf]; exact Se.ms1_less HX.out (by omega)
set_option maxHeartbeats 400000 in
theorem inx_any (s : Int) (w : World) :
    Calls Try.prog 12 #[.int .i64 s] w fun e w' => e = .returned (.int .i64 (Se.nx (Se.tk s))) ∧ Below w.heap.size w w' := by
  go_enter Try.func12, Try.ntmps12
  go_wp2_with (first | (go_at_call 33; refine (from_any _ _).mono ?_; rintro e w' ⟨rfl, rfl⟩; unfold clo) | (go_at_call 40; refine (next_any _ _ _ (Se.tk_seed s) (held_new _ _ _)).mono ?_; rintro e w' ⟨rfl, rfl⟩))
  go_ret
  exact ⟨rfl, (Below.refl _ _).alloc (Nat.le_refl _) _⟩
set_option maxHeartbeats 400000 in
theorem ibelow_no (s n : Int) (w : World) (hn : n < 1 ∨ 1000000 < n) :
    Calls Try.prog 10 #[.int .i64 s, .int .i64 n] w fun e w' => e = .returned (.tuple #[.int .i64 0, .int .i64 (Se.tk s)]) ∧ w' = w := by
  go_enter Try.func10, Try.ntmps10
  go_wp2_with (go_at_call 31; refine (itk_any _ _).mono ?_; rintro e w' ⟨rfl, hw⟩; subst w')
  all_goals go_ret2
  all_goals exact ⟨rfl, rfl⟩
set_option maxHeartbeats 400000 in
theorem ibelow_yes (s n : Int) (w : World) (h1 : 1 ≤ n) (h2 : n ≤ 1000000) :
    Calls Try.prog 10 #[.int .i64 s, .int .i64 n] w fun e w' => e = .returned (.tuple #[.int .i64 ((Se.sd (Se.top n) (Se.tk s) - 1) % n), .int .i64 (Se.sd (Se.top n) (Se.tk s))]) ∧ Below w.heap.size w w' := by
  go_enter Try.func10, Try.ntmps10
  go_wp2_with (first | (go_at_call 33; refine (from_any _ _).mono ?_; rintro e w' ⟨rfl, rfl⟩) | (go_at_call 32; refine (drawBelow_any _ _ _ _ (Se.tk_seed s) (held_new _ _ _) h1 h2).mono ?_; rintro e w1 ⟨rfl, hh, hg, hz⟩; clear hz))
  all_goals go_ret2
  exact ⟨rfl, ((Below.refl _ _).alloc (Nat.le_refl _) _).trans (grown_below hg (Nat.le_refl _) (by simp))⟩
end Go.Proofs.Ythmenbfcjiehdaa.Dr
