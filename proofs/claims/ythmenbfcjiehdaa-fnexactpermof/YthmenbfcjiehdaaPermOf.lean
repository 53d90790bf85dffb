/-
  PermOf of the program and of the model: both answer the order that 'perm' says, in new memory; what is mixed is an order.
-/
import Derived.Test.YthmenbfcjiehdaaDraw
import Derived.Test.YthmenbfcjiehdaaInvThr
namespace Go.Proofs.Ythmenbfcjiehdaa.Po
set_option maxRecDepth 20000
open Go.RowKit
open Go.Proofs.Ythmenbfcjiehdaa.Li Go.Proofs.Ythmenbfcjiehdaa.Pe Go.Proofs.Ythmenbfcjiehdaa.It

def iota (n : Nat) : List Int := (List.range n).map fun (j : Nat) => (j : Int)
theorem iota_length (n : Nat) : (iota n).length = n := by simp [iota]
theorem iota_get (n j : Nat) (h : j < (iota n).length) : (iota n)[j] = (j : Int) := by simp [iota]
theorem iota_succ (n : Nat) : iota (n + 1) = iota n ++ [(n : Int)] := by simp [iota, List.range_succ]
theorem iota_pok (n : Nat) (h : n ≤ 60) : POk (iota n) := by
  refine pok_of (by rw [iota_length]; exact h) ?_ ?_
  · intro j hj
    rw [iota_get, iota_length]
    rw [iota_length] at hj
    omega
  · intro i j hi hj e
    rw [iota_get, iota_get] at e
    omega
def swp (l : List Int) (i j : Nat) : List Int := (l.set i (l.getD j 0)).set j (l.getD i 0)
theorem swp_length (l : List Int) (i j : Nat) : (swp l i j).length = l.length := by simp [swp]
def sg (i j t : Nat) : Nat := if t = j then i else if t = i then j else t
theorem sg_lt {i j t n : Nat} (hi : i < n) (hj : j < n) (ht : t < n) : sg i j t < n := by unfold sg; split <;> (try split) <;> omega
theorem sg_inj {i j t u : Nat} (h : sg i j t = sg i j u) : t = u := by
  unfold sg at h
  split at h <;> split at h <;> (try split at h) <;> (try split at h) <;> omega
theorem swp_get (l : List Int) (i j t : Nat) (hi : i < l.length) (hj : j < l.length) (ht : t < (swp l i j).length) : (swp l i j)[t] = l[sg i j t]'(sg_lt hi hj (by rwa [swp_length] at ht)) := by
  have ht' : t < l.length := by rwa [swp_length] at ht
  unfold swp sg
  simp only [List.getElem_set, List.getD_eq_getElem?_getD, List.getElem?_eq_getElem hi, List.getElem?_eq_getElem hj, Option.getD_some]
  by_cases e1 : t = j
  · subst e1; simp
  · by_cases e2 : t = i
    · subst e2
      rw [if_neg (by omega), if_pos rfl]
      simp [e1]
    · rw [if_neg (by omega), if_neg (by omega)]
      simp [e1, e2]
theorem swp_pok {l : List Int} (h : POk l) {i j : Nat} (hi : i < l.length) (hj : j < l.length) : POk (swp l i j) := by
  refine pok_of (by rw [swp_length]; exact h.1) ?_ ?_
  · intro t ht
    rw [swp_get l i j t hi hj ht]
    have hr := h.rng (sg i j t) (sg_lt hi hj (by rwa [swp_length] at ht))
    have hl := swp_length l i j
    omega
  · intro t u ht hu e
    rw [swp_get l i j t hi hj ht, swp_get l i j u hi hj hu] at e
    exact sg_inj (h.inj _ _ _ _ e)
/-- The draw at place k, of the seed s. -/
def at' (k : Nat) (s : Int) : Int := (Se.sd (Se.top ((k : Int) + 1)) s - 1) % ((k : Int) + 1)
theorem at_bd (k : Nat) (s : Int) : 0 ≤ at' k s ∧ at' k s < (k : Int) + 1 := ⟨Int.emod_nonneg _ (by omega), Int.emod_lt_of_pos _ (by omega)⟩
def mix : Nat → List Int → Int → List Int
  | 0, l, _ => l
  | k + 1, l, s => mix k (swp l (k + 1) (at' (k + 1) s).toNat) (Se.sd (Se.top (((k + 1 : Nat) : Int) + 1)) s)
theorem mix_step {k : Nat} (hk : 0 < k) (l : List Int) (s : Int) : mix (k - 1) (swp l k (at' k s).toNat) (Se.sd (Se.top ((k : Int) + 1)) s) = mix k l s := by
  obtain ⟨m, rfl⟩ : ∃ m, k = m + 1 := ⟨k - 1, by omega⟩
  rfl
theorem mix_pok : ∀ (k : Nat) (l : List Int) (s : Int), POk l → (k = 0 ∨ k < l.length) → POk (mix k l s) ∧ (mix k l s).length = l.length
  | 0, l, _, h, _ => ⟨h, rfl⟩
  | k + 1, l, s, h, hk => by
    have hb := at_bd (k + 1) s
    have hj : (at' (k + 1) s).toNat < l.length := by omega
    have := mix_pok k _ (Se.sd (Se.top (((k + 1 : Nat) : Int) + 1)) s) (swp_pok h (i := k + 1) (by omega) hj) (by rw [swp_length]; omega)
    rw [swp_length] at this
    exact this
theorem swp_eq {l : List Int} {i j : Nat} (hi : i < l.length) (hj : j < l.length) : (l.set i l[j]).set j l[i] = swp l i j := by
  simp [swp, List.getD_eq_getElem?_getD, List.getElem?_eq_getElem hi, List.getElem?_eq_getElem hj]
/-- One round of the mixing, as both texts do it. -/
theorem mix_round {x d : Int} {t j : Nat} {l : List Int} {R : List Int} (ht : 0 < t) (hd : Se.sd (Se.top ((t : Int) + 1)) (Se.tk x) = d) (hj : (d - 1) % ((t : Int) + 1) = (j : Int)) (h : mix (t : Int).toNat l (Se.tk x) = R) :
    mix ((t : Int) - 1).toNat (swp l t j) (Se.tk d) = R := by
  have h1 : Se.tk d = d := by rw [← hd]; exact Se.tk_id (Se.sd_seed (Se.tk_seed x))
  have h2 := mix_step ht l (Se.tk x)
  have h3 : (at' t (Se.tk x)).toNat = j := by unfold at'; rw [hd, hj]; omega
  rw [h3, hd] at h2
  rw [h1, show ((t : Int) - 1).toNat = t - 1 by omega, h2, ← h]
  rfl
theorem own_swp {w : World} {base g cap n : Nat} {l : List Int} (h : Own w base (.slice (some ⟨g, 0, none⟩) n cap) l) (hn : l.length = n) {i j : Nat} (hi : i < l.length) (hj : j < l.length) :
    Own ((w.setCell ⟨g, i, none⟩ (.int .i64 l[j])).setCell ⟨g, j, none⟩ (.int .i64 l[i])) base (.slice (some ⟨g, 0, none⟩) n cap) (swp l i j) := by
  rw [← swp_eq hi hj]
  exact (h.set hn i l[j]).set (by simpa using hn) j l[i]
def perm (n : Nat) (s : Int) : List Int := mix (n - 1) (iota n) (Se.tk s)
theorem perm_pok (n : Nat) (s : Int) (h : n ≤ 60) : POk (perm n s) ∧ (perm n s).length = n := by
  have := mix_pok (n - 1) (iota n) (Se.tk s) (iota_pok n h) (by rw [iota_length]; omega)
  rw [iota_length] at this
  exact this

set_option maxHeartbeats 1000000 in
theorem sperm_no (w : World) (s n : Int) (hn : n < 0 ∨ 60 < n) :
    Calls Try.prog 17 #[.int .i64 s, .int .i64 n] w fun e w' => ∃ v, e = .returned v ∧ Own w' w.heap.size v [] ∧ Below w.heap.size w w' := by
  have hb : btw n 0 60 = false := by simp [btw]; omega
  go_enter Try.func17, Try.ntmps17
  go_wp2_with (go_at_call 35; refine (between_any _ _ _ _).mono ?_; rintro e w' ⟨rfl, hw⟩; subst w')
  go_ret
  exact ⟨_, rfl, own_empty _ _ (Nat.le_refl _), (Below.refl _ _).alloc (Nat.le_refl _) _⟩

set_option maxHeartbeats 2000000 in
theorem sperm_yes (w : World) (s : Int) (n : Nat) (hn : n ≤ 60) :
    Calls Try.prog 17 #[.int .i64 s, .int .i64 n] w fun e w' => ∃ v, e = .returned v ∧ Own w' w.heap.size v (perm n s) ∧ Below w.heap.size w w' := by
  obtain ⟨i0, hi, hz0, hz1, hz2⟩ := info_parts info_int
  have hb : btw (n : Int) 0 60 = true := by simp [btw]; omega
  go_enter Try.func17, Try.ntmps17
  go_wp2_with (go_at_call 35; refine (between_any _ _ _ _).mono ?_; rintro e w' ⟨rfl, hw⟩; subst w')
  go_loopw [5, 6] (fun v i wr => ∃ k : Nat, k ≤ n ∧ i = .int .i64 k ∧ Own wr w.heap.size v (iota k) ∧ Below w.heap.size w wr) (fun _ i _ => n - (intOf i).toNat)
  case atStart => exact ⟨0, Nat.zero_le _, rfl, own_empty _ _ (Nat.le_refl _), (Below.refl _ _).alloc (Nat.le_refl _) _⟩
  case round =>
    obtain ⟨k, hk, rfl, hown, hB⟩ := hrel
    have hsz := hB.size
    have htl := iota_length k
    by_cases hlt : k < n
    · go_wp2_with (at_builtin; refine wpList_append_own _ rfl _ _ 28 rfl w.heap.size 3 i0 (.int .i64 0) 1 8 Try.underlying28 hi hz0 hz1 hz2 rfl (by decide) _ _ _ rfl (World.ownsRow.alloc hown _) ⟨wr.heap.size, 0, none⟩ 1 1 [.int .i64 k] rfl rfl (one_cell _ _ _) (one_one _) (by unfold maxLen; omega) (by omega) (by simp; omega) ?_)
      intro v' w2 hown' hgrow hnn
      clear hnn
      have ho2 : Own w2 w.heap.size v' (iota (k + 1)) := by rw [iota_succ]; exact own_snoc htl hown'
      have hB2 : Below w.heap.size w w2 := (hB.alloc hsz _).grown hgrow (by simp; omega) (fun g hg => (World.ownsRow.lt hown g hg).1)
      clear hown' hgrow hown
      go_wp2
      go_roundw
      case rel => exact ⟨k + 1, by omega, by go_num, ho2, hB2⟩
      case measure => simp [intOf]; omega
    · obtain rfl : k = n := by omega
      clear hlt hk
      go_wp2
      go_loopw [0, 7] (fun q i wr2 => ∃ (x k' : Int) (l : List Int), q = .int .i64 x ∧ i = .int .i64 k' ∧ -1 ≤ k' ∧ k' < k ∧ l.length = k ∧ mix k'.toNat l (Se.tk x) = perm k s ∧ Own wr2 w.heap.size u5 l ∧ Below w.heap.size w wr2) (fun _ i _ => (intOf i).toNat)
      case atStart => exact ⟨s, (k : Int) - 1, iota k, rfl, rfl, by omega, by omega, htl, by unfold perm; rw [show ((k : Int) - 1).toNat = k - 1 by omega], hown, hB⟩
      case round =>
        obtain ⟨x, k', l, rfl, rfl, k0, k1, hll, hmix, hown2, hB2⟩ := hrel
        have HM : Hid (mix k'.toNat l (Se.tk x) = perm k s) := hmix
        clear hmix
        by_cases hpos : 0 < k'
        · obtain ⟨t, rfl⟩ : ∃ t : Nat, k' = (t : Int) := ⟨k'.toNat, by omega⟩
          rcases hown2.2 with ⟨hv, h0⟩ | ⟨g, cap', cur, hv, hgB, _⟩
          · omega
          · subst hv
            rw [hll] at hown2 ⊢
            obtain ⟨d, hd⟩ : ∃ d, Se.sd (Se.top ((t : Int) + 1)) (Se.tk x) = d := ⟨_, rfl⟩
            obtain ⟨j', hj'⟩ : ∃ j', (d - 1) % ((t : Int) + 1) = j' := ⟨_, rfl⟩
            have b0 : 0 ≤ j' := by rw [← hj']; exact Int.emod_nonneg _ (by omega)
            have b1 : j' < (t : Int) + 1 := by rw [← hj']; exact Int.emod_lt_of_pos _ (by omega)
            obtain ⟨j, rfl⟩ : ∃ j : Nat, j' = (j : Int) := ⟨j'.toNat, by omega⟩
            have hjl : j < l.length := by omega
            have htl' : t < l.length := by omega
            have HR : Hid (mix ((t : Int) - 1).toNat (swp l t j) (Se.tk d) = perm k s) := mix_round (by omega) hd hj' HM.out
            have HO : Hid (Own ((wr.setCell ⟨g, t, none⟩ (.int .i64 l[j])).setCell ⟨g, j, none⟩ (.int .i64 l[t])) w.heap.size (.slice (some ⟨g, 0, none⟩) k cap') (swp l t j)) := own_swp hown2 hll htl' hjl
            have hct := hown2.cell hll t htl'
            have hcj := hown2.cell hll j hjl
            have hft := hown2.frozen hll t
            have hfj := hown2.frozen hll j
            go_wp2_with fail
            refine (Dr.sbelow_yes _ _ _ (by omega) (by omega)).mono ?_
            rintro e w' ⟨rfl, hw⟩
            subst w'
            rw [hd, hj']
            clear hd hj' HM hown2 hown
            by_cases hjt : j = t
            · subst hjt
              go_wp2
              go_roundw
              case rel => exact ⟨d, (j : Int) - 1, _, rfl, by go_num, by omega, by omega, by rw [swp_length]; exact hll, HR.out, HO.out, (hB2.setCell (p := ⟨g, j, none⟩) hgB _).setCell (p := ⟨g, j, none⟩) hgB _⟩
              case measure => simp [intOf]; omega
            · go_wp2
              go_roundw
              case rel => exact ⟨d, (t : Int) - 1, _, rfl, by go_num, by omega, by omega, by rw [swp_length]; exact hll, HR.out, HO.out, (hB2.setCell (p := ⟨g, t, none⟩) hgB _).setCell (p := ⟨g, j, none⟩) hgB _⟩
              case measure => simp [intOf]; omega
        · have HP : Hid (l = perm k s) := by
            have := HM.out
            rwa [show k'.toNat = 0 by omega] at this
          go_wp2
          go_ret
          exact ⟨_, rfl, by rw [← HP.out]; exact hown2, hB2⟩
set_option maxHeartbeats 1000000 in
theorem iperm_no (w : World) (s n : Int) (hn : n < 0 ∨ 60 < n) :
    Calls Try.prog 15 #[.int .i64 s, .int .i64 n] w fun e w' => ∃ v, e = .returned v ∧ Own w' w.heap.size v [] ∧ Below w.heap.size w w' := by
  by_cases h : n < 0
  · have hd : decide (n < 0) = true := by simpa using h
    go_enter Try.func15, Try.ntmps15
    go_wp2
    go_ret
    exact ⟨_, rfl, Own.nil _ _, Below.refl _ _⟩
  · have hd : decide (n < 0) = false := by simpa using h
    have hd' : decide (60 < n) = true := by simp; omega
    go_enter Try.func15, Try.ntmps15
    go_wp2
    go_ret
    exact ⟨_, rfl, Own.nil _ _, Below.refl _ _⟩

set_option maxHeartbeats 2000000 in
theorem iperm_yes (w : World) (s : Int) (n : Nat) (hn : n ≤ 60) :
    Calls Try.prog 15 #[.int .i64 s, .int .i64 n] w fun e w' => ∃ v, e = .returned v ∧ Own w' w.heap.size v (perm n s) ∧ Below w.heap.size w w' := by
  obtain ⟨i0, hi, hz0, hz1, hz2⟩ := info_parts info_int
  have hd1 : decide ((n : Int) < 0) = false := by simp
  have hd2 : decide (60 < (n : Int)) = false := by simp; omega
  go_enter Try.func15, Try.ntmps15
  go_wp2_with (at_make; refine wpList_make_full _ rfl _ _ 28 rfl w.heap.size 3 i0 (.int .i64 0) 1 Try.underlying28 hi hz0 hz1 _ _ _ _ n rfl rfl (by omega) (by omega) (by rw [hz2]; omega) (by unfold maxLen; omega) (Nat.le_refl _) ?_; intro w1 hown hgrow)
  have hown' := own_made hown
  have hB1 := below_none hgrow
  have hlt1 : w.heap.size < w1.heap.size := (World.ownsRow.lt hown w.heap.size rfl).2
  clear hown hgrow
  go_loopw [21] (fun i wr => ∃ k : Nat, k ≤ n ∧ i = .int .i64 k ∧ ∃ l : List Int, l.length = n ∧ Like l (iota n) k ∧ Own wr w.heap.size (.slice (some ⟨w.heap.size, 0, none⟩) n n) l ∧ Below w.heap.size w wr) (fun i _ => n - (intOf i).toNat)
  case atStart => exact ⟨0, Nat.zero_le _, rfl, _, by simp, fun j hj => by omega, hown', hB1⟩
  case round =>
    obtain ⟨k, hk, rfl, l, hll, hlike, hown, hB⟩ := hrel
    by_cases hlt : k < n
    · have hcl := hown.cell hll k (by omega)
      have hcf := hown.frozen hll k
      have HO : Hid (Own wr w.heap.size (.slice (some ⟨w.heap.size, 0, none⟩) n n) l) := hown
      have HL : Hid (Like (l.set k (k : Int)) (iota n) (k + 1)) := by
        have := like_set hlike (by rw [iota_length]; exact hlt) (by rw [iota_length]; exact hll)
        rwa [iota_get] at this
      clear hown hlike
      go_wp2
      go_roundw
      case rel => exact ⟨k + 1, by omega, by go_num, _, by simpa using hll, HL.out, HO.out.set hll k _, hB.setCell (p := ⟨w.heap.size, k, none⟩) (Nat.le_refl _) _⟩
      case measure => simp [intOf]; omega
    · obtain rfl : k = n := by omega
      have e := like_all (xs := iota k) (by rw [iota_length]; exact hlike) (by rw [iota_length]; exact hll)
      rw [e] at hown
      clear e hlt hk hlike hll hown'
      have hs := hB.size
      have hsW := (hown.ge w.heap.size rfl).2
      obtain ⟨W0, rfl⟩ : ∃ W0, W0 = wr := ⟨_, rfl⟩
      have HH : Hid (Dr.Held (W0.alloc (.cells #[.int .i64 (Se.tk s)] 3)) W0.heap.size (Se.tk s)) := Dr.held_new _ _ _
      have HO0 : Hid (Own (W0.alloc (.cells #[.int .i64 (Se.tk s)] 3)) w.heap.size (.slice (some ⟨w.heap.size, 0, none⟩) k k) (iota k)) := World.ownsRow.alloc hown _
      have HB0 : Hid (Below w.heap.size w (W0.alloc (.cells #[.int .i64 (Se.tk s)] 3))) := hB.alloc hs _
      clear hown hB hB1 hlt1
      go_wp2_with (go_at_call 33; refine (Dr.from_any _ _).mono ?_; rintro e w2 ⟨rfl, rfl⟩; unfold Dr.clo)
      go_loopw [8] (fun i wr2 => ∃ (x k' : Int) (l : List Int), i = .int .i64 k' ∧ -1 ≤ k' ∧ k' < k ∧ l.length = k ∧ Se.Seed x ∧ mix k'.toNat l (Se.tk x) = perm k s ∧ Own wr2 w.heap.size (.slice (some ⟨w.heap.size, 0, none⟩) k k) l ∧ Dr.Held wr2 W0.heap.size x ∧ Below w.heap.size w wr2) (fun i _ => (intOf i).toNat)
      case atStart => exact ⟨Se.tk s, (k : Int) - 1, iota k, rfl, by omega, by omega, iota_length k, Se.tk_seed s, by unfold perm; rw [Se.tk_id (Se.tk_seed s), show ((k : Int) - 1).toNat = k - 1 by omega], HO0.out, HH.out, HB0.out⟩
      case round =>
        obtain ⟨x, k', l, rfl, k0, k1, hll, hsx, hmix, hown2, hh2, hB2⟩ := hrel
        have HM : Hid (mix k'.toNat l (Se.tk x) = perm k s) := hmix
        have HX : Hid (Se.Seed x) := hsx
        clear hmix hsx HO0 HH HB0
        by_cases hpos : 1 ≤ k'
        · obtain ⟨t, rfl⟩ : ∃ t : Nat, k' = (t : Int) := ⟨k'.toNat, by omega⟩
          obtain ⟨d, hd⟩ : ∃ d, Se.sd (Se.top ((t : Int) + 1)) x = d := ⟨_, rfl⟩
          obtain ⟨j', hj'⟩ : ∃ j', (d - 1) % ((t : Int) + 1) = j' := ⟨_, rfl⟩
          have b0 : 0 ≤ j' := by rw [← hj']; exact Int.emod_nonneg _ (by omega)
          have b1 : j' < (t : Int) + 1 := by rw [← hj']; exact Int.emod_lt_of_pos _ (by omega)
          obtain ⟨j, rfl⟩ : ∃ j : Nat, j' = (j : Int) := ⟨j'.toNat, by omega⟩
          have hjl : j < l.length := by omega
          have htl' : t < l.length := by omega
          have HR : Hid (mix ((t : Int) - 1).toNat (swp l t j) (Se.tk d) = perm k s) := mix_round (by omega) (by rw [Se.tk_id HX.out]; exact hd) hj' HM.out
          go_wp2_with fail
          refine (Dr.drawBelow_any _ x _ _ HX.out hh2 (by omega) (by omega)).mono ?_
          rintro e w3 ⟨rfl, hh3, hg3, hz3⟩
          rw [hd] at hh3 ⊢
          rw [hj']
          have hown3 := hown2.kept hg3 (.inr (by simp [Value.ownBlock]; omega))
          have hB3 : Below w.heap.size w w3 := hB2.trans (Dr.grown_below hg3 hs hB2.size)
          have HD : Hid (Se.Seed d) := by show Se.Seed d; rw [← hd]; exact Se.sd_seed HX.out
          have HO : Hid (Own ((w3.setCell ⟨w.heap.size, t, none⟩ (.int .i64 l[j])).setCell ⟨w.heap.size, j, none⟩ (.int .i64 l[t])) w.heap.size (.slice (some ⟨w.heap.size, 0, none⟩) k k) (swp l t j)) := own_swp hown3 hll htl' hjl
          have hct := hown3.cell hll t htl'
          have hcj := hown3.cell hll j hjl
          have hft := hown3.frozen hll t
          have hfj := hown3.frozen hll j
          have HK : Hid (Dr.Held ((w3.setCell ⟨w.heap.size, t, none⟩ (.int .i64 l[j])).setCell ⟨w.heap.size, j, none⟩ (.int .i64 l[t])) W0.heap.size d) :=
            hh3.kept (by simp [World.setCell]) (by rw [Below.heap_setCell _ _ _ _ (by simp; omega), Below.heap_setCell _ _ _ _ (by simp; omega)])
          clear hd hj' HM hown2 hown3 hg3 hz3 hh2 hB2 hh3
          by_cases hjt : j = t
          · subst hjt
            go_wp2
            go_region
            go_wp2
            go_roundw
            case rel => exact ⟨d, (j : Int) - 1, _, by go_num, by omega, by omega, by rw [swp_length]; exact hll, HD.out, HR.out, HO.out, HK.out, ((hB3.setCell (p := ⟨w.heap.size, j, none⟩) (Nat.le_refl _) _).setCell (p := ⟨w.heap.size, j, none⟩) (Nat.le_refl _) _).drew⟩
            case measure => simp [intOf]; omega
          · go_wp2
            go_region
            go_wp2
            go_roundw
            case rel => exact ⟨d, (t : Int) - 1, _, by go_num, by omega, by omega, by rw [swp_length]; exact hll, HD.out, HR.out, HO.out, HK.out, ((hB3.setCell (p := ⟨w.heap.size, t, none⟩) (Nat.le_refl _) _).setCell (p := ⟨w.heap.size, j, none⟩) (Nat.le_refl _) _).drew⟩
            case measure => simp [intOf]; omega
        · have HP : Hid (l = perm k s) := by
            have := HM.out
            rwa [show k'.toNat = 0 by omega] at this
          go_wp2
          go_ret
          exact ⟨_, rfl, by rw [← HP.out]; exact hown2, hB2⟩
/-- What both answer. -/
def permR (s n : Int) : List Int := if 0 ≤ n ∧ n ≤ 60 then perm n.toNat s else []
theorem permR_len (s n : Int) : (permR s n).length ≤ 60 := by
  unfold permR
  split
  · rename_i h; rw [(perm_pok n.toNat s (by omega)).2]; omega
  · simp
theorem sperm_any (w : World) (s n : Int) :
    Calls Try.prog 17 #[.int .i64 s, .int .i64 n] w fun e w' => ∃ v, e = .returned v ∧ Own w' w.heap.size v (permR s n) ∧ Below w.heap.size w w' := by
  unfold permR
  by_cases h : 0 ≤ n ∧ n ≤ 60
  · rw [if_pos h]
    obtain ⟨m, rfl⟩ : ∃ m : Nat, n = (m : Int) := ⟨n.toNat, by omega⟩
    exact sperm_yes w s m (by omega)
  · rw [if_neg h]; exact sperm_no w s n (by omega)
theorem iperm_any (w : World) (s n : Int) :
    Calls Try.prog 15 #[.int .i64 s, .int .i64 n] w fun e w' => ∃ v, e = .returned v ∧ Own w' w.heap.size v (permR s n) ∧ Below w.heap.size w w' := by
  unfold permR
  by_cases h : 0 ≤ n ∧ n ≤ 60
  · rw [if_pos h]
    obtain ⟨m, rfl⟩ : ∃ m : Nat, n = (m : Int) := ⟨n.toNat, by omega⟩
    exact iperm_yes w s m (by omega)
  · rw [if_neg h]; exact iperm_no w s n (by omega)
end Go.Proofs.Ythmenbfcjiehdaa.Po
