/-
  What the model draws for Folds: two numbers; the region's operations come up in whatever order.
-/
import Derived.Test.YtdcbcacgppffgaaCur
import Derived.Test.YtdcbcacgppffgaaOin
namespace Go.Proofs.Ytdcbcacgppffgaa.Df
open Go.RowKit
open Go.Proofs.Ytdcbcacgppffgaa.Oi
set_option linter.unusedVariables false
set_option maxRecDepth 40000

def mkA (b : Nat) (pa : Value) (v : Nat → Value) : Act := ⟨#[pa, undef, v 2, v 3, .pointer (some ⟨b, 0, none⟩), pa, .pointer (some ⟨b, 0, none⟩), v 7, v 8, v 9, v 10, v 11, v 12, v 13, v 14, v 15, v 16, v 17, v 18, v 19, v 20, v 21, v 22, v 23, v 24, v 25], []⟩
def Fits (y : Int) : Prop := -9223372036854775808 ≤ y ∧ y ≤ 9223372036854775807
/-- What an operation leaves behind: a pointer to the cursor; a number; one below four (or twelve); a table of four numbers; a place in it. -/
def psi (b : Nat) : Nat → Value → World → Prop
  | 0, x, _ => x = .pointer (some ⟨b, 0, none⟩)
  | 1, x, _ => ∃ y, x = .int .i64 y ∧ Fits y
  | 2, x, _ => ∃ y, x = .int .i64 y ∧ 0 ≤ y ∧ y < 12
  | 3, x, w => ∃ g, x = .slice (some ⟨g, 0, none⟩) 4 4 ∧ ¬ g = b ∧ g < w.heap.size ∧ ∀ t : Nat, t < 4 → ∃ z, w.cell? ⟨g, t, none⟩ = some (.int .i64 z) ∧ Fits z
  | 4, x, w => ∃ g t z, x = .pointer (some ⟨g, t, none⟩) ∧ ¬ g = b ∧ g < w.heap.size ∧ w.cell? ⟨g, t, none⟩ = some (.int .i64 z) ∧ Fits z
  | 5, x, _ => ∃ y, x = .int .i64 y ∧ 0 ≤ y ∧ y < 4
  | _, _, _ => True
/-- All but the cursor's block stays. -/
def Rl (b : Nat) (w w' : World) : Prop := w.heap.size ≤ w'.heap.size ∧ ∀ k, k < w.heap.size → ¬ k = b → w'.heap[k]? = w.heap[k]?
theorem rl_refl (b : Nat) (w : World) : Rl b w w := ⟨Nat.le_refl _, fun _ _ _ => rfl⟩
theorem rl_grown {b : Nat} {w w' : World} (h : w.grownBy w' (some b)) : Rl b w w' := ⟨h.size, fun k hk hn => h.block k hk (fun e => hn (by injection e))⟩
theorem rl_alloc (b : Nat) (w : World) (o : Obj) : Rl b w (w.alloc o) := ⟨by simp, fun k hk _ => Below.heap_alloc _ _ _ hk⟩
theorem psi_rl {b : Nat} {w w' : World} (h : Rl b w w') : ∀ {c : Nat} {x : Value}, psi b c x w → psi b c x w'
  | 0, _, hx => hx
  | 1, _, hx => hx
  | 2, _, hx => hx
  | 3, _, ⟨g, e, hb, hl, hc⟩ => ⟨g, e, hb, Nat.lt_of_lt_of_le hl h.1, fun t ht => by
      obtain ⟨z, hz, hf⟩ := hc t ht
      exact ⟨z, by rw [World.cell?_of_block (w := w) (a := ⟨g, t, none⟩) (h.2 g hl hb)]; exact hz, hf⟩⟩
  | 4, _, ⟨g, t, z, e, hb, hl, hc, hf⟩ => ⟨g, t, z, e, hb, Nat.lt_of_lt_of_le hl h.1, by rw [World.cell?_of_block (w := w) (a := ⟨g, t, none⟩) (h.2 g hl hb)]; exact hc, hf⟩
  | 5, _, hx => hx
  | _ + 6, _, _ => trivial
def code (i : Nat) : Nat := ([0, 2, 0, 1, 3, 0, 5, 4, 1, 0, 5, 1, 0, 1, 3, 0, 5, 4, 1, 1, 1] : List Nat).getD i 7
def dst (i : Nat) : Nat := ([7, 8, 9, 10, 11, 12, 13, 14, 15, 16, 17, 18, 19, 20, 21, 22, 23, 24, 25, 2, 3] : List Nat).getD i 1000
theorem dst_inj : ∀ i, i < 21 → ∀ j, j < 21 → dst i = dst j → i = j := by decide
/-- What holds in whatever order they come up. -/
def Inv (b : Nat) (pa : Value) (K : Int) (W : World) (l : Array Bool) (a : Act) (w : World) : Prop :=
  ∃ v, a = mkA b pa v ∧ W.grownBy w (some b) ∧ Cu.Cur w b (K + 2 * cnt l) ∧ ∀ i, i < 21 → l.getD i false = true → psi b (code i) (v (dst i)) w
theorem inv_put {b : Nat} {pa : Value} {K : Int} {W w w' : World} {l : Array Bool} {v : Nat → Value} {j : Nat} {x : Value} (hj : j < 21) (hjf : l.getD j true = false) (hv : ∀ i, i < 21 → l.getD i false = true → psi b (code i) (v (dst i)) w)
    (hR : Rl b w w') (hg : W.grownBy w' (some b)) (hc : Cu.Cur w' b (K + 2 * cnt l + 2)) (hx : psi b (code j) x w') : Inv b pa K W (l.setIfInBounds j true) (mkA b pa (upd v (dst j) x)) w' := by
  refine ⟨_, rfl, hg, by rw [cnt_set hjf]; exact hc.mono (by omega), fun i hi hd => ?_⟩
  by_cases e : i = j
  · subst e; rw [upd_same]; exact hx
  · rw [upd_ne (fun h => e (dst_inj i hi j hj h))]
    exact psi_rl hR (hv i hi (done_set hd e))
theorem act_eq {b : Nat} {pa : Value} {K : Int} {W w : World} {l : Array Bool} {a a' : Act} (h : Inv b pa K W l a w) (e : a = a') : Inv b pa K W l a' w := e ▸ h
theorem rep_false (n i : Nat) : (Array.replicate n false).getD i false = false := by
  rw [Array.getD_eq_getD_getElem?, Array.getElem?_replicate]
  split <;> rfl
theorem lt21 {j : Nat} (h : j < 21) : j = 0 ∨ j = 1 ∨ j = 2 ∨ j = 3 ∨ j = 4 ∨ j = 5 ∨ j = 6 ∨ j = 7 ∨ j = 8 ∨ j = 9 ∨ j = 10 ∨ j = 11 ∨ j = 12 ∨ j = 13 ∨ j = 14 ∨ j = 15 ∨ j = 16 ∨ j = 17 ∨ j = 18 ∨ j = 19 ∨ j = 20 := by omega
theorem tab4 (w : World) (x y z u : Int) (T : TypeId) (hx : Fits x) (hy : Fits y) (hz : Fits z) (hu : Fits u) (t : Nat) (ht : t < 4) : ∃ q, (w.alloc (.cells #[.int .i64 x, .int .i64 y, .int .i64 z, .int .i64 u] T)).cell? ⟨w.heap.size, t, none⟩ = some (.int .i64 q) ∧ Fits q := by
  have : t = 0 ∨ t = 1 ∨ t = 2 ∨ t = 3 := by omega
  rcases this with rfl | rfl | rfl | rfl
  · exact ⟨x, by simp [World.cell?_alloc_new], hx⟩
  · exact ⟨y, by simp [World.cell?_alloc_new], hy⟩
  · exact ⟨z, by simp [World.cell?_alloc_new], hz⟩
  · exact ⟨u, by simp [World.cell?_alloc_new], hu⟩
set_option maxHeartbeats 40000000 in
theorem drawFolds (w : World) (a : Option Addr) (len cap : Nat) (hB : Cu.Bytes w w.heap.size a len) (hl : (len : Int) ≤ 1048576) :
    Calls Try.prog 14 #[.slice a len cap] w fun e w' => ∃ x y, e = .returned (.tuple #[.int .i64 x, .int .i64 y]) ∧ Fits x ∧ Fits y ∧ Below w.heap.size w w' := by
  go_enter Try.func14, Try.ntmps14
  go_wp2_with fail
  refine (Cu.open_any _ _ _ _ hB hl).mono ?_
  rintro e W ⟨rfl, hgW, hcW⟩
  go_wp2_with fail
  rename_i K1 hK1
  have HK1 : Hid (type_of% hK1) := hK1
  clear hK1
  obtain ⟨b, hb⟩ : ∃ b, w.heap.size = b := ⟨_, rfl⟩
  rw [hb] at hcW hgW ⊢
  have HH : Hid (w.heap.size = b) := hb
  obtain ⟨pa, hpa⟩ : ∃ pa, Value.slice a len cap = pa := ⟨_, rfl⟩
  rw [hpa]
  clear hb hpa hB
  refine Oi.start (Inv b pa 0 W) (by kernel_rfl) ?_ ?_ ?_
  · refine ⟨fun i => if i < 4 then .int .i64 0 else undef, rfl, ⟨rfl, rfl, rfl, Nat.le_refl _, fun _ _ _ => rfl⟩, hcW.drew.mono (by omega), fun i hi hd => ?_⟩
    exfalso
    rw [rep_false] at hd
    cases hd
  · intro l a w1 j hs hI hj
    have hlt := ready_lt hj
    have hjf := (mem_ready.1 hj).1
    have hlt : j < 21 := hlt
    have hcl : cnt l ≤ 21 := by have := cnt_le l; rw [hs] at this; exact this
    obtain ⟨v, rfl, hg, hcu, hv⟩ := hI
    have hltw := hcu.lt
    have hWw := hg.size
    rcases lt21 hlt with rfl | rfl | rfl | rfl | rfl | rfl | rfl | rfl | rfl | rfl | rfl | rfl | rfl | rfl | rfl | rfl | rfl | rfl | rfl | rfl | rfl
    · -- 0
      refine op_step rfl rfl ?_
      intro K2 hK2
      unfold mkA
      go_simp
      refine hK2 _ _ ?_
      refine act_eq (inv_put (j := 0) (x := .pointer (some ⟨b, 0, none⟩)) (by omega) hjf hv (rl_refl _ _) hg (hcu.mono (by omega)) (show psi b 0 _ _ from rfl)) ?_
      show mkA b pa (upd v 7 _) = _
      first | rfl | simp [mkA, upd]
    · -- 1
      have D0 := hv 0 (by omega) (dep hj (by kernel_rfl))
      change psi b 0 (v 7) w1 at D0
      have e7 : v 7 = .pointer (some ⟨b, 0, none⟩) := D0
      refine op_step rfl rfl ?_
      intro K2 hK2
      unfold mkA
      go_simp
      go_wp2_with (go_at_call 27; refine (Cu.pick_any _ _ _ hcu (by omega) _ (by omega)).mono ?_; rintro e w2 ⟨y, rfl, y0, y1, hg2, hz2, hc2⟩)
      refine act_eq (inv_put (j := 1) (x := .int .i64 y) (by omega) hjf hv (rl_grown hg2) (Cu.grown_trans hg hg2) (hc2.mono (by omega)) (show psi b 2 _ _ from ⟨y, rfl, y0, y1 (by omega)⟩)) ?_
      show mkA b pa (upd v 8 _) = _
      first | rfl | simp [mkA, upd, e7]
    · -- 2
      refine op_step rfl rfl ?_
      intro K2 hK2
      unfold mkA
      go_simp
      refine hK2 _ _ ?_
      refine act_eq (inv_put (j := 2) (x := .pointer (some ⟨b, 0, none⟩)) (by omega) hjf hv (rl_refl _ _) hg (hcu.mono (by omega)) (show psi b 0 _ _ from rfl)) ?_
      show mkA b pa (upd v 9 _) = _
      first | rfl | simp [mkA, upd]
    · -- 3
      have D2 := hv 2 (by omega) (dep hj (by kernel_rfl))
      change psi b 0 (v 9) w1 at D2
      have e9 : v 9 = .pointer (some ⟨b, 0, none⟩) := D2
      refine op_step rfl rfl ?_
      intro K2 hK2
      unfold mkA
      go_simp
      go_wp2_with (go_at_call 28; refine (Cu.raw_any _ _ _ hcu (by omega)).mono ?_; rintro e w2 ⟨y, rfl, y0, y1, hg2, hc2⟩)
      refine act_eq (inv_put (j := 3) (x := .int .i64 y) (by omega) hjf hv (rl_grown hg2) (Cu.grown_trans hg hg2) (hc2.mono (by omega)) (show psi b 1 _ _ from ⟨y, rfl, y0, y1⟩)) ?_
      show mkA b pa (upd v 10 _) = _
      first | rfl | simp [mkA, upd, e9]
    · -- 4
      have D1 := hv 1 (by omega) (dep hj (by kernel_rfl))
      change psi b 2 (v 8) w1 at D1
      obtain ⟨y8, e8, l8, u8⟩ := D1
      have D3 := hv 3 (by omega) (dep hj (by kernel_rfl))
      change psi b 1 (v 10) w1 at D3
      obtain ⟨y10, e10, f10⟩ := D3
      refine op_step rfl rfl ?_
      intro K2 hK2
      unfold mkA
      go_simp
      refine hK2 _ _ ?_
      refine act_eq (inv_put (j := 4) (x := .slice (some ⟨w1.heap.size, 0, none⟩) 4 4) (by omega) hjf hv (rl_alloc _ _ _) (Cu.grown_alloc hg _) ((hcu.alloc _).mono (by omega)) (show psi b 3 _ _ from ⟨w1.heap.size, rfl, by omega, by simp, fun t ht => tab4 w1 _ _ _ _ _ ⟨by omega, by omega⟩ f10 ⟨by omega, by omega⟩ ⟨by omega, by omega⟩ t ht⟩)) ?_
      show mkA b pa (upd v 11 _) = _
      first | rfl | simp [mkA, upd, e8, e10]
    · -- 5
      refine op_step rfl rfl ?_
      intro K2 hK2
      unfold mkA
      go_simp
      refine hK2 _ _ ?_
      refine act_eq (inv_put (j := 5) (x := .pointer (some ⟨b, 0, none⟩)) (by omega) hjf hv (rl_refl _ _) hg (hcu.mono (by omega)) (show psi b 0 _ _ from rfl)) ?_
      show mkA b pa (upd v 12 _) = _
      first | rfl | simp [mkA, upd]
    · -- 6
      have D5 := hv 5 (by omega) (dep hj (by kernel_rfl))
      change psi b 0 (v 12) w1 at D5
      have e12 : v 12 = .pointer (some ⟨b, 0, none⟩) := D5
      refine op_step rfl rfl ?_
      intro K2 hK2
      unfold mkA
      go_simp
      go_wp2_with (go_at_call 27; refine (Cu.pick_any _ _ _ hcu (by omega) _ (by omega)).mono ?_; rintro e w2 ⟨y, rfl, y0, y1, hg2, hz2, hc2⟩)
      refine act_eq (inv_put (j := 6) (x := .int .i64 y) (by omega) hjf hv (rl_grown hg2) (Cu.grown_trans hg hg2) (hc2.mono (by omega)) (show psi b 5 _ _ from ⟨y, rfl, y0, y1 (by omega)⟩)) ?_
      show mkA b pa (upd v 13 _) = _
      first | rfl | simp [mkA, upd, e12]
    · -- 7
      have D4 := hv 4 (by omega) (dep hj (by kernel_rfl))
      change psi b 3 (v 11) w1 at D4
      obtain ⟨g11, e11, n11, s11, c11⟩ := D4
      have D6 := hv 6 (by omega) (dep hj (by kernel_rfl))
      change psi b 5 (v 13) w1 at D6
      obtain ⟨y13, e13, l13, u13⟩ := D6
      refine op_step rfl rfl ?_
      intro K2 hK2
      unfold mkA
      obtain ⟨z, hz, hzf⟩ := c11 y13.toNat (by omega)
      go_simp
      refine hK2 _ _ ?_
      refine act_eq (inv_put (j := 7) (x := .pointer (some ⟨g11, y13.toNat, none⟩)) (by omega) hjf hv (rl_refl _ _) hg (hcu.mono (by omega)) (show psi b 4 _ _ from ⟨g11, y13.toNat, z, rfl, n11, s11, hz, hzf⟩)) ?_
      show mkA b pa (upd v 14 _) = _
      first | rfl | simp [mkA, upd, e11, e13]
    · -- 8
      have D7 := hv 7 (by omega) (dep hj (by kernel_rfl))
      change psi b 4 (v 14) w1 at D7
      obtain ⟨g14, t14, z14, e14, n14, s14, c14, f14⟩ := D7
      refine op_step rfl rfl ?_
      intro K2 hK2
      unfold mkA
      go_simp
      refine hK2 _ _ ?_
      refine act_eq (inv_put (j := 8) (x := .int .i64 z14) (by omega) hjf hv (rl_refl _ _) hg (hcu.mono (by omega)) (show psi b 1 _ _ from ⟨z14, rfl, f14⟩)) ?_
      show mkA b pa (upd v 15 _) = _
      first | rfl | simp [mkA, upd, e14]
    · -- 9
      refine op_step rfl rfl ?_
      intro K2 hK2
      unfold mkA
      go_simp
      refine hK2 _ _ ?_
      refine act_eq (inv_put (j := 9) (x := .pointer (some ⟨b, 0, none⟩)) (by omega) hjf hv (rl_refl _ _) hg (hcu.mono (by omega)) (show psi b 0 _ _ from rfl)) ?_
      show mkA b pa (upd v 16 _) = _
      first | rfl | simp [mkA, upd]
    · -- 10
      have D9 := hv 9 (by omega) (dep hj (by kernel_rfl))
      change psi b 0 (v 16) w1 at D9
      have e16 : v 16 = .pointer (some ⟨b, 0, none⟩) := D9
      refine op_step rfl rfl ?_
      intro K2 hK2
      unfold mkA
      go_simp
      go_wp2_with (go_at_call 27; refine (Cu.pick_any _ _ _ hcu (by omega) _ (by omega)).mono ?_; rintro e w2 ⟨y, rfl, y0, y1, hg2, hz2, hc2⟩)
      refine act_eq (inv_put (j := 10) (x := .int .i64 y) (by omega) hjf hv (rl_grown hg2) (Cu.grown_trans hg hg2) (hc2.mono (by omega)) (show psi b 5 _ _ from ⟨y, rfl, y0, y1 (by omega)⟩)) ?_
      show mkA b pa (upd v 17 _) = _
      first | rfl | simp [mkA, upd, e16]
    · -- 11
      have D10 := hv 10 (by omega) (dep hj (by kernel_rfl))
      change psi b 5 (v 17) w1 at D10
      obtain ⟨y17, e17, l17, u17⟩ := D10
      refine op_step rfl rfl ?_
      intro K2 hK2
      unfold mkA
      have hwr : IntKind.i64.wrap (1 + y17) = 1 + y17 := by rw [IntKind.wrap_i64]; omega
      go_simp
      refine hK2 _ _ ?_
      refine act_eq (inv_put (j := 11) (x := .int .i64 (1 + y17)) (by omega) hjf hv (rl_refl _ _) hg (hcu.mono (by omega)) (show psi b 1 _ _ from ⟨_, rfl, by constructor <;> omega⟩)) ?_
      show mkA b pa (upd v 18 _) = _
      first | rfl | simp [mkA, upd, e17]
    · -- 12
      refine op_step rfl rfl ?_
      intro K2 hK2
      unfold mkA
      go_simp
      refine hK2 _ _ ?_
      refine act_eq (inv_put (j := 12) (x := .pointer (some ⟨b, 0, none⟩)) (by omega) hjf hv (rl_refl _ _) hg (hcu.mono (by omega)) (show psi b 0 _ _ from rfl)) ?_
      show mkA b pa (upd v 19 _) = _
      first | rfl | simp [mkA, upd]
    · -- 13
      have D12 := hv 12 (by omega) (dep hj (by kernel_rfl))
      change psi b 0 (v 19) w1 at D12
      have e19 : v 19 = .pointer (some ⟨b, 0, none⟩) := D12
      refine op_step rfl rfl ?_
      intro K2 hK2
      unfold mkA
      go_simp
      go_wp2_with (go_at_call 28; refine (Cu.raw_any _ _ _ hcu (by omega)).mono ?_; rintro e w2 ⟨y, rfl, y0, y1, hg2, hc2⟩)
      refine act_eq (inv_put (j := 13) (x := .int .i64 y) (by omega) hjf hv (rl_grown hg2) (Cu.grown_trans hg hg2) (hc2.mono (by omega)) (show psi b 1 _ _ from ⟨y, rfl, y0, y1⟩)) ?_
      show mkA b pa (upd v 20 _) = _
      first | rfl | simp [mkA, upd, e19]
    · -- 14
      have D11 := hv 11 (by omega) (dep hj (by kernel_rfl))
      change psi b 1 (v 18) w1 at D11
      obtain ⟨y18, e18, f18⟩ := D11
      have D13 := hv 13 (by omega) (dep hj (by kernel_rfl))
      change psi b 1 (v 20) w1 at D13
      obtain ⟨y20, e20, f20⟩ := D13
      refine op_step rfl rfl ?_
      intro K2 hK2
      unfold mkA
      go_simp
      refine hK2 _ _ ?_
      refine act_eq (inv_put (j := 14) (x := .slice (some ⟨w1.heap.size, 0, none⟩) 4 4) (by omega) hjf hv (rl_alloc _ _ _) (Cu.grown_alloc hg _) ((hcu.alloc _).mono (by omega)) (show psi b 3 _ _ from ⟨w1.heap.size, rfl, by omega, by simp, fun t ht => tab4 w1 _ _ _ _ _ f18 f20 ⟨by omega, by omega⟩ ⟨by omega, by omega⟩ t ht⟩)) ?_
      show mkA b pa (upd v 21 _) = _
      first | rfl | simp [mkA, upd, e18, e20]
    · -- 15
      refine op_step rfl rfl ?_
      intro K2 hK2
      unfold mkA
      go_simp
      refine hK2 _ _ ?_
      refine act_eq (inv_put (j := 15) (x := .pointer (some ⟨b, 0, none⟩)) (by omega) hjf hv (rl_refl _ _) hg (hcu.mono (by omega)) (show psi b 0 _ _ from rfl)) ?_
      show mkA b pa (upd v 22 _) = _
      first | rfl | simp [mkA, upd]
    · -- 16
      have D15 := hv 15 (by omega) (dep hj (by kernel_rfl))
      change psi b 0 (v 22) w1 at D15
      have e22 : v 22 = .pointer (some ⟨b, 0, none⟩) := D15
      refine op_step rfl rfl ?_
      intro K2 hK2
      unfold mkA
      go_simp
      go_wp2_with (go_at_call 27; refine (Cu.pick_any _ _ _ hcu (by omega) _ (by omega)).mono ?_; rintro e w2 ⟨y, rfl, y0, y1, hg2, hz2, hc2⟩)
      refine act_eq (inv_put (j := 16) (x := .int .i64 y) (by omega) hjf hv (rl_grown hg2) (Cu.grown_trans hg hg2) (hc2.mono (by omega)) (show psi b 5 _ _ from ⟨y, rfl, y0, y1 (by omega)⟩)) ?_
      show mkA b pa (upd v 23 _) = _
      first | rfl | simp [mkA, upd, e22]
    · -- 17
      have D14 := hv 14 (by omega) (dep hj (by kernel_rfl))
      change psi b 3 (v 21) w1 at D14
      obtain ⟨g21, e21, n21, s21, c21⟩ := D14
      have D16 := hv 16 (by omega) (dep hj (by kernel_rfl))
      change psi b 5 (v 23) w1 at D16
      obtain ⟨y23, e23, l23, u23⟩ := D16
      refine op_step rfl rfl ?_
      intro K2 hK2
      unfold mkA
      obtain ⟨z, hz, hzf⟩ := c21 y23.toNat (by omega)
      go_simp
      refine hK2 _ _ ?_
      refine act_eq (inv_put (j := 17) (x := .pointer (some ⟨g21, y23.toNat, none⟩)) (by omega) hjf hv (rl_refl _ _) hg (hcu.mono (by omega)) (show psi b 4 _ _ from ⟨g21, y23.toNat, z, rfl, n21, s21, hz, hzf⟩)) ?_
      show mkA b pa (upd v 24 _) = _
      first | rfl | simp [mkA, upd, e21, e23]
    · -- 18
      have D17 := hv 17 (by omega) (dep hj (by kernel_rfl))
      change psi b 4 (v 24) w1 at D17
      obtain ⟨g24, t24, z24, e24, n24, s24, c24, f24⟩ := D17
      refine op_step rfl rfl ?_
      intro K2 hK2
      unfold mkA
      go_simp
      refine hK2 _ _ ?_
      refine act_eq (inv_put (j := 18) (x := .int .i64 z24) (by omega) hjf hv (rl_refl _ _) hg (hcu.mono (by omega)) (show psi b 1 _ _ from ⟨z24, rfl, f24⟩)) ?_
      show mkA b pa (upd v 25 _) = _
      first | rfl | simp [mkA, upd, e24]
    · -- 19
      have D8 := hv 8 (by omega) (dep hj (by kernel_rfl))
      change psi b 1 (v 15) w1 at D8
      obtain ⟨y15, e15, f15⟩ := D8
      refine op_step rfl rfl ?_
      intro K2 hK2
      unfold mkA
      go_simp
      refine hK2 _ _ ?_
      refine act_eq (inv_put (j := 19) (x := .int .i64 y15) (by omega) hjf hv (rl_refl _ _) hg (hcu.mono (by omega)) (show psi b 1 _ _ from ⟨_, rfl, f15⟩)) ?_
      show mkA b pa (upd v 2 _) = _
      first | rfl | simp [mkA, upd, e15]
    · -- 20
      have D18 := hv 18 (by omega) (dep hj (by kernel_rfl))
      change psi b 1 (v 25) w1 at D18
      obtain ⟨y25, e25, f25⟩ := D18
      refine op_step rfl rfl ?_
      intro K2 hK2
      unfold mkA
      go_simp
      refine hK2 _ _ ?_
      refine act_eq (inv_put (j := 20) (x := .int .i64 y25) (by omega) hjf hv (rl_refl _ _) hg (hcu.mono (by omega)) (show psi b 1 _ _ from ⟨_, rfl, f25⟩)) ?_
      show mkA b pa (upd v 3 _) = _
      first | rfl | simp [mkA, upd, e25]
  · intro l a w1 hs hI hr
    have hall := all_doneM (by kernel_rfl) hs hr
    obtain ⟨v, rfl, hg, hcu, hv⟩ := hI
    have D1 := hv 19 (by omega) (hall 19 (show 19 < 21 by omega))
    change psi b 1 (v 2) w1 at D1
    obtain ⟨x, ex, fx⟩ := D1
    have D2 := hv 20 (by omega) (hall 20 (show 20 < 21 by omega))
    change psi b 1 (v 3) w1 at D2
    obtain ⟨y, ey, fy⟩ := D2
    have hBe : Below b w w1 := Cu.grown_below (Cu.grown_trans hgW hg) (by have := HH.out; omega) (by have := HH.out; omega)
    have hK1 := HK1.out
    clear HK1 hall hg hgW hcW hs hr hv hcu
    unfold mkA
    rw [ex, ey]
    clear ex ey
    go_wp2
    refine bodyPost_ret (v := .tuple #[.int .i64 x, .int .i64 y]) (by simp [results, Try.results14, go_sem]) rfl ?_
    exact ⟨x, y, rfl, fx, fy, by rw [HH.out]; exact hBe⟩
end Go.Proofs.Ytdcbcacgppffgaa.Df
