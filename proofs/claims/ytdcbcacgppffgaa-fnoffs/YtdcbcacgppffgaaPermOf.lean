/-
  PermOf of the program and of the model: both answer the order that 'perm' says, in new memory; what is mixed is an order.
-/
import Derived.Test.YtdcbcacgppffgaaDraw
import Derived.Test.YtdcbcacgppffgaaInvThr
namespace Go.Proofs.Ytdcbcacgppffgaa.Po
set_option maxRecDepth 20000
open Go.RowKit
open Go.Proofs.Ytdcbcacgppffgaa.Li Go.Proofs.Ytdcbcacgppffgaa.Pe Go.Proofs.Ytdcbcacgppffgaa.It

def iota (n : Nat) : List Int := (List.range n).map fun (j : Nat) => (j : Int)
theorem iota_length (n : Nat) : (iota n).length = n := by simp [iota]
theorem iota_get (n j : Nat) (h : j < (iota n).length) : (iota n)[j] = (j : Int) := by simp [iota]
theorem iota_succ (n : Nat) : iota (n + 1) = iota n ++ [(n : Int)] := by simp [iota, List.range_succ]
theorem iota_pok (n : Nat) (h : n ≤ 60) : POk (iota n) := by
  refine pok_of (by rw [iota_length]; exact h) ?_ ?_
  · intro j hj
    rw [iota_get, iota_length]
    rw [iota_length] at hj
    omega
  · intro i j hi hj e
    rw [iota_get, iota_get] at e
    omega
def swp (l : List Int) (i j : Nat) : List Int := (l.set i (l.getD j 0)).set j (l.getD i 0)
theorem swp_length (l : List Int) (i j : Nat) : (swp l i j).length = l.length := by simp [swp]
def sg (i j t : Nat) : Nat := if t = j then i else if t = i then j else t
theorem sg_lt {i j t n : Nat} (hi : i < n) (hj : j < n) (ht : t < n) : sg i j t < n := by unfold sg; split <;> (try split) <;> omega
theorem sg_inj {i j t u : Nat} (h : sg i j t = sg i j u) : t = u := by
  unfold sg at h
  split at h <;> split at h <;> (try split at h) <;> (try split at h) <;> omega
theorem swp_get (l : List Int) (i j t : Nat) (hi : i < l.length) (hj : j < l.length) (ht : t < (swp l i j).length) : (swp l i j)[t] = l[sg i j t]'(sg_lt hi hj (by rwa [swp_length] at ht)) := by
  have ht' : t < l.length := by rwa [swp_length] at ht
  unfold swp sg
  simp only [List.getElem_set, List.getD_eq_getElem?_getD, List.getElem?_eq_getElem hi, List.getElem?_eq_getElem hj, Option.getD_some]
  by_cases e1 : t = j
  · subst e1; simp
  · by_cases e2 : t = i
    · subst e2
      rw [if_neg (by omega), if_pos rfl]
      simp [e1]
    · rw [if_neg (by omega), if_neg (by omega)]
      simp [e1, e2]
theorem swp_pok {l : List Int} (h : POk l) {i j : Nat} (hi : i < l.length) (hj : j < l.length) : POk (swp l i j) := by
  refine pok_of (by rw [swp_length]; exact h.1) ?_ ?_
  · intro t ht
    rw [swp_get l i j t hi hj ht]
    have hr := h.rng (sg i j t) (sg_lt hi hj (by rwa [swp_length] at ht))
    have hl := swp_length l i j
    omega
  · intro t u ht hu e
    rw [swp_get l i j t hi hj ht, swp_get l i j u hi hj hu] at e
    exact sg_inj (h.inj _ _ _ _ e)
/-- The draw at place k, of the seed s. -/
def at' (k : Nat) (s : Int) : Int := (Se.sd (Se.top ((k : Int) + 1)) s - 1) % ((k : Int) + 1)
theorem at_bd (k : Nat) (s : Int) : 0 ≤ at' k s ∧ at' k s < (k : Int) + 1 := ⟨Int.emod_nonneg _ (by omega), Int.emod_lt_of_pos _ (by omega)⟩
def mix : Nat → List Int → Int → List Int
  | 0, l, _ => l
  | k + 1, l, s => mix k (swp l (k + 1) (at' (k + 1) s).toNat) (Se.sd (Se.top (((k + 1 : Nat) : Int) + 1)) s)
theorem mix_step {k : Nat} (hk : 0 < k) (l : List Int) (s : Int) : mix (k - 1) (swp l k (at' k s).toNat) (Se.sd (Se.top ((k : Int) + 1)) s) = mix k l s := by
  obtain ⟨m, rfl⟩ : ∃ m, k = m + 1 := ⟨k - 1, by omega⟩
  rfl
theorem mix_pok : ∀ (k : Nat) (l : List Int) (s : Int), POk l → (k = 0 ∨ k < l.length) → POk (mix k l s) ∧ (mix k l s).length = l.length
  | 0, l, _, h, _ => ⟨h, rfl⟩
  | k + 1, l, s, h, hk => by
    have hb := at_bd (k + 1) s
    have hj : (at' (k + 1) s).toNat < l.length := by omega
    have := mix_pok k _ (Se.sd (Se.top (((k + 1 : Nat) : Int) + 1)) s) (swp_pok h (i := k + 1) (by omega) hj) (by rw [swp_length]; omega)
    rw [swp_length] at this
    exact this
theorem swp_eq {l : List Int} {i j : Nat} (hi : i < l.length) (hj : j < l.length) : (l.set i l[j]).set j l[i] = swp l i j := by
  simp [swp, List.getD_eq_getElem?_getD, List.getElem?_eq_getElem hi, List.getElem?_eq_getElem hj]
/-- One round of the mixing, as both texts do it. -/
theorem mix_round {x d : Int} {t j : Nat} {l : List Int} {R : List Int} (ht : 0 < t) (hd : Se.sd (Se.top ((t : Int) + 1)) (Se.tk x) = d) (hj : (d - 1) % ((t : Int) + 1) = (j : Int)) (h : mix (t : Int).toNat l (Se.tk x) = R) :
    mix ((t : Int) - 1).toNat (swp l t j) (Se.tk d) = R := by
  have h1 : Se.tk d = d := by rw [← hd]; exact Se.tk_id (Se.sd_seed (Se.tk_seed x))
  have h2 := mix_step ht l (Se.tk x)
  have h3 : (at' t (Se.tk x)).toNat = j := by unfold at'; rw [hd, hj]; omega
  rw [h3, hd] at h2
  rw [h1, show ((t : Int) - 1).toNat = t - 1 by omega, h2, ← h]
  rfl
theorem own_swp {w : World} {base g cap n : Nat} {l : List Int} (h : Own w base (.slice (some ⟨g, 0, none⟩) n cap) l) (hn : l.length = n) {i j : Nat} (hi : i < l.length) (hj : j < l.length) :
    Own ((w.setCell ⟨g, i, none⟩ (.int .i64 l[j])).setCell ⟨g, j, none⟩ (.int .i64 l[i])) base (.slice (some ⟨g, 0, none⟩) n cap) (swp l i j) := by
  rw [← swp_eq hi hj]
  exact (h.set hn i l[j]).set (by simpa using hn) j l[i]
def perm (n : Nat) (s : Int) : List Int := mix (n - 1) (iota n) (Se.tk s)
theorem perm_pok (n : Nat) (s : Int) (h : n ≤ 60) : POk (perm n s) ∧ (perm n s).length = n := by
  have := mix_pok (n - 1) (iota n) (Se.tk s) (iota_pok n h) (by rw [iota_length]; omega)
  rw [iota_length] at this
  exact this

set_option maxHeartbeats 1000000 in
theorem sperm_no (w : World) (s n : Int) (hn : n < 0 ∨ 60 < n) :
    Calls Try.prog 36 #[.int .i64 s, .int .i64 n] w fun e w' => ∃ v, e = .returned v ∧ Own w' w.heap.size v [] ∧ Below w.heap.size w w' := by
  have hb : btw n 0 60 = false := by simp [btw]; omega
  go_enter Try.func36, Try.ntmps36
  go_wp2_with (go_at_call 25; refine (between_any _ _ _ _).mono ?_; rintro e w' ⟨rfl, hw⟩; subst w')
  go_ret
  exact ⟨_, rfl, own_empty _ _ (Nat.le_refl _), (Below.refl _ _).alloc (Nat.le_refl _) _⟩

set_option maxHeartbeats 2000000 in
theorem sperm_yes (w : World) (s : Int) (n : Nat) (hn : n ≤ 60) :
    Calls Try.prog 36 #[.int .i64 s, .int .i64 n] w fun e w' => ∃ v, e = .returned v ∧ Own w' w.heap.size v (perm n s) ∧ Below w.heap.size w w' := by
  obtain ⟨i0, hi, hz0, hz1, hz2⟩ := info_parts info_int
  have hb : btw (n : Int) 0 60 = true := by simp [btw]; omega
  go_enter Try.func36, Try.ntmps36
  go_wp2_with (go_at_call 25; refine (between_any _ _ _ _).mono ?_; rintro e w' ⟨rfl, hw⟩; subst w')
  go_loopw [5, 6] (fun v i wr => ∃ k : Nat, k ≤ n ∧ i = .int .i64 k ∧ Own wr w.heap.size v (iota k) ∧ Below w.heap.size w wr) (fun _ i _ => n - (intOf i).toNat)
  case atStart => exact ⟨0, Nat.zero_le _, rfl, own_empty _ _ (Nat.le_refl _), (Below.refl _ _).alloc (Nat.le_refl _) _⟩
  case round =>
    obtain ⟨k, hk, rfl, hown, hB⟩ := hrel
    have hsz := hB.size
    have htl := iota_length k
    by_cases hlt : k < n
    · go_wp2_with (at_builtin; refine wpList_append_own _ rfl _ _ 24 rfl w.heap.size 3 i0 (.int .i64 0) 1 8 Try.underlying24 hi hz0 hz1 hz2 rfl (by decide) _ _ _ rfl (World.ownsRow.alloc hown _) ⟨wr.heap.size, 0, none⟩ 1 1 [.int .i64 k] rfl rfl (one_cell _ _ _) (one_one _) (by unfold maxLen; omega) (by omega) (by simp; omega) ?_)
      intro v' w2 hown' hgrow hnn
      clear hnn
      have ho2 : Own w2 w.heap.size v' (iota (k + 1)) := by rw [iota_succ]; exact own_snoc htl hown'
      have hB2 : Below w.heap.size w w2 := (hB.alloc hsz _).grown hgrow (by simp; omega) (fun g hg => (World.ownsRow.lt hown g hg).1)
      clear hown' hgrow hown
      go_wp2
      go_roundw
      case rel => exact ⟨k + 1, by omega, by go_num, ho2, hB2⟩
      case measure => simp [intOf]; omega
    · obtain rfl : k = n := by omega
      clear hlt hk
      go_wp2
      go_loopw [0, 7] (fun q i wr2 => ∃ (x k' : Int) (l : List Int), q = .int .i64 x ∧ i = .int .i64 k' ∧ -1 ≤ k' ∧ k' < k ∧ l.length = k ∧ mix k'.toNat l (Se.tk x) = perm k s ∧ Own wr2 w.heap.size u5 l ∧ Below w.heap.size w wr2) (fun _ i _ => (intOf i).toNat)
      case atStart => exact ⟨s, (k : Int) - 1, iota k, rfl, rfl, by omega, by omega, htl, by unfold perm; rw [show ((k : Int) - 1).toNat = k - 1 by omega], hown, hB⟩
      case round =>
        obtain ⟨x, k', l, rfl, rfl, k0, k1, hll, hmix, hown2, hB2⟩ := hrel
        have HM : Hid (mix k'.toNat l (Se.tk x) = perm k s) := hmix
        clear hmix
        by_cases hpos : 0 < k'
        · obtain ⟨t, rfl⟩ : ∃ t : Nat, k' = (t : Int) := ⟨k'.toNat, by omega⟩
          rcases hown2.2 with ⟨hv, h0⟩ | ⟨g, cap', cur, hv, hgB, _⟩
          · omega
          · subst hv
            rw [hll] at hown2 ⊢
            obtain ⟨d, hd⟩ : ∃ d, Se.sd (Se.top ((t : Int) + 1)) (Se.tk x) = d := ⟨_, rfl⟩
            obtain ⟨j', hj'⟩ : ∃ j', (d - 1) % ((t : Int) + 1) = j' := ⟨_, rfl⟩
            have b0 : 0 ≤ j' := by rw [← hj']; exact Int.emod_nonneg _ (by omega)
            have b1 : j' < (t : Int) + 1 := by rw [← hj']; exact Int.emod_lt_of_pos _ (by omega)
            obtain ⟨j, rfl⟩ : ∃ j : Nat, j' = (j : Int) := ⟨j'.toNat, by omega⟩
            have hjl : j < l.length := by omega
            have htl' : t < l.length := by omega
            have HR : Hid (mix ((t : Int) - 1).toNat (swp l t j) (Se.tk d) = perm k s) := mix_round (by omega) hd hj' HM.out
            have HO : Hid (Own ((wr.setCell ⟨g, t, none⟩ (.int .i64 l[j])).setCell ⟨g, j, none⟩ (.int .i64 l[t])) w.heap.size (.slice (some ⟨g, 0, none⟩) k cap') (swp l t j)) := own_swp hown2 hll htl' hjl
            have hct := hown2.cell hll t htl'
            have hcj := hown2.cell hll j hjl
            have hft := hown2.frozen hll t
            have hfj := hown2.frozen hll j
            go_wp2_with fail
            refine (Dr.sbelow_yes _ _ _ (by omega) (by omega)).mono ?_
            rintro e w' ⟨rfl, hw⟩
            subst w'
            rw [hd, hj']
            clear hd hj' HM hown2 hown
            by_cases hjt : j = t
            · subst hjt
              go_wp2
              go_roundw
              case rel => exact ⟨d, (j : Int) - 1, _, rfl, by go_num, by omega, by omega, by rw [swp_length]; exact hll, HR.out, HO.out, (hB2.setCell (p := ⟨g, j, none⟩) hgB _).setCell (p := ⟨g, j, none⟩) hgB _⟩
              case measure => simp [intOf]; omega
            · go_wp2
              go_roundw
              case rel => exact ⟨d, (t : Int) - 1, _, rfl, by go_num, by omega, by omega, by rw [swp_length]; exact hll, HR.out, HO.out, (hB2.setCell (p := ⟨g, t, none⟩) hgB _).setCell (p := ⟨g, j, none⟩) hgB _⟩
              case measure => simp [intOf]; omega
        · have HP : Hid (l = perm k s) := by
            have := HM.out
            rwa [show k'.toNat = 0 by omega] at this
          go_wp2
          go_ret
          exact ⟨_, rfl, by rw [← HP.out]; exact hown2, hB2⟩
/-- What both answer. -/
def permR (s n : Int) : List Int := if 0 ≤ n ∧ n ≤ 60 then perm n.toNat s else []
theorem permR_len (s n : Int) : (permR s n).length ≤ 60 := by
  unfold permR
  split
  · rename_i h; rw [(perm_pok n.toNat s (by omega)).2]; omega
  · simp
theorem sperm_any (w : World) (s n : Int) :
    Calls Try.prog 36 #[.int .i64 s, .int .i64 n] w fun e w' => ∃ v, e = .returned v ∧ Own w' w.heap.size v (permR s n) ∧ Below w.heap.size w w' := by
  unfold permR
  by_cases h : 0 ≤ n ∧ n ≤ 60
  · rw [if_pos h]
    obtain ⟨m, rfl⟩ : ∃ m : Nat, n = (m : Int) := ⟨n.toNat, by omega⟩
    exact sperm_yes w s m (by omega)
  · rw [if_neg h]; exact sperm_no w s n (by omega)
end Go.Proofs.Ytdcbcacgppffgaa.Po
