/-
  Tables of words and their numbers, further: one put into its place; how great they are; a copy of the laws' own.
-/
import Derived.Test.YtkiddmbenepfjaaKtc
namespace Go.Proofs.Ytkiddmbenepfjaa.Kt
set_option maxRecDepth 20000
open Go.RowKit
open Go.Proofs.Ytkiddmbenepfjaa.Tb (ownsRow_at sub sub_yes sub_no lets Fits)
open Go.Proofs.Ytkiddmbenepfjaa.Sv (Fr fr_below fr_grown new1 new2 new3 wr2 Wr)
open Go.Proofs.Ytkiddmbenepfjaa.Li (below_none)
set_option linter.unusedVariables false
variable {w w1 : World} {B : Nat → Prop} {v : Value} {ts : List Kv}
theorem getD_set2 {vs : List Value} {q p : Nat} {u0 u1 : Value} (hq : q + 1 < vs.length) : ((vs.set q u0).set (q + 1) u1).getD p undef = if p = q + 1 then u1 else if p = q then u0 else vs.getD p undef := by
  by_cases h1 : p = q + 1
  · subst h1; simp [hq]
  · by_cases h0 : p = q
    · subst h0; simp [show p < vs.length by omega]
    · simp [h0, h1, Ne.symm h0, Ne.symm h1]
/-- One put into its place: its words and numbers lie in blocks from m on, all that was there in blocks below. -/
theorem OwK.put {m : Nat} (h : OwK w (fun k => B k ∧ k < m) v ts) (j : Nat) (hj : j < ts.length) : ∃ a c, v = .slice a ts.length c ∧ ∃ g y0 y1, a = some ⟨g, 0, none⟩ ∧ w.cell? ⟨g, j * 2, none⟩ = some y0 ∧ w.cell? ⟨g, j * 2 + 1, none⟩ = some y1 ∧ w.frozen? ⟨g, j * 2, none⟩ = false ∧ w.frozen? ⟨g, j * 2 + 1, none⟩ = false ∧ g < w.heap.size ∧ B g ∧ g < m ∧
    ∀ u0 u1 (x : Kv), Ls.Own w m u0 x.ws → Li.Own w m u1 x.vs → (∀ k, u0.ownBlock = some k → u1.ownBlock ≠ some k) → (∀ k, m ≤ k → B k) → OwK ((w.setCell ⟨g, j * 2, none⟩ u0).setCell ⟨g, j * 2 + 1, none⟩ u1) B v (ts.set j x) := by
  obtain ⟨vs, ho, hl, he, hv, hb, hs⟩ := h
  have h' := ho
  rcases ho.2 with ⟨rfl, h0⟩ | ⟨g, cap, cur, rfl, hbg, hh, _⟩
  · omega
  have k0 := World.ownsRow.cellAt h' (j * 2) (by omega)
  have k1 := World.ownsRow.cellAt h' (j * 2 + 1) (by omega)
  rw [List.getElem?_eq_getElem (by omega)] at k0 k1
  obtain ⟨hBg, hgm⟩ := hv g rfl
  refine ⟨_, cap, rfl, g, _, _, rfl, k0, k1, World.ownsRow.frozenAt h' _, World.ownsRow.frozenAt h' _, (Array.getElem?_eq_some_iff.1 hh).1, hBg, hgm, fun u0 u1 x o0 o1 h01 hB => ?_⟩
  have hst := (World.ownsRow.stored (World.ownsRow.stored h' (j * 2) u0).1 (j * 2 + 1) u1).1
  have hg : w.grownBy ((w.setCell ⟨g, j * 2, none⟩ u0).setCell ⟨g, j * 2 + 1, none⟩ u1) (some g) := Li.grown_trans (Li.grown_set _ _ _ _) (Li.grown_set _ _ _ _)
  have hq : j * 2 + 1 < vs.length := by omega
  have hne : ∀ p, p < vs.length → ∀ k, (vs.getD p undef).ownBlock = some k → ¬ k = g := fun p hp k e e' => (hb p hp k e).2 (by subst e'; rfl)
  have hn0 : ∀ k, u0.ownBlock = some k → ¬ k = g := fun k e e' => by have := (o0.ge k e).1; omega
  have hn1 : ∀ k, u1.ownBlock = some k → ¬ k = g := fun k e e' => by have := (o1.ge k e).1; omega
  refine ⟨(vs.set (j * 2) u0).set (j * 2 + 1) u1, by rw [List.length_set]; exact hst, by simpa using hl, fun i hi => ?_, fun k e => (hv k e).1, fun p hp k e => ?_, fun p q hp hq' hpq k e => ?_⟩
  · have hi' : i < ts.length := by simpa using hi
    rw [getD_set2 hq, getD_set2 hq]
    by_cases hij : j = i
    · subst hij
      rw [if_neg (by omega), if_pos rfl, if_pos rfl, List.getElem_set_self]
      have q0 : Ls.Own ((w.setCell ⟨g, j * 2, none⟩ u0).setCell ⟨g, j * 2 + 1, none⟩ u1) m u0 x.ws := ownsRow_at o0 (fun k e => hg.block k (o0.ge k e).2 (fun e' => by injection e' with e'; exact hn0 k e e'))
      have q1 : Li.Own ((w.setCell ⟨g, j * 2, none⟩ u0).setCell ⟨g, j * 2 + 1, none⟩ u1) m u1 x.vs := ownsRow_at o1 (fun k e => hg.block k (o1.ge k e).2 (fun e' => by injection e' with e'; exact hn1 k e e'))
      exact ⟨q0.mono (Nat.zero_le _), q1.mono (Nat.zero_le _)⟩
    · rw [if_neg (by omega), if_neg (by omega), if_neg (by omega), if_neg (by omega), List.getElem_set_ne hij]
      obtain ⟨q0, q1⟩ := he i hi'
      exact ⟨ownsRow_at q0 (fun k e => hg.block k (q0.ge k e).2 (fun e' => by injection e' with e'; exact hne _ (by omega) k e e')), ownsRow_at q1 (fun k e => hg.block k (q1.ge k e).2 (fun e' => by injection e' with e'; exact hne _ (by omega) k e e'))⟩
  · rw [getD_set2 hq] at e
    have hgg : ∀ k, ¬ k = g → Value.ownBlock (.slice (some ⟨g, 0, none⟩) ts.length cap) ≠ some k := fun k hk e => hk (by simp [Value.ownBlock] at e; exact e.symm)
    by_cases h1 : p = j * 2 + 1
    · rw [if_pos h1] at e; exact ⟨hB k (o1.ge k e).1, hgg k (hn1 k e)⟩
    · rw [if_neg h1] at e
      by_cases h0 : p = j * 2
      · rw [if_pos h0] at e; exact ⟨hB k (o0.ge k e).1, hgg k (hn0 k e)⟩
      · rw [if_neg h0] at e; exact ⟨(hb p (by simpa using hp) k e).1.1, (hb p (by simpa using hp) k e).2⟩
  · rw [getD_set2 hq] at e ⊢
    have hp' : p < vs.length := by simpa using hp
    have hq'' : q < vs.length := by simpa using hq'
    by_cases p1 : p = j * 2 + 1
    · rw [if_pos p1] at e
      rw [if_neg (by omega)]
      by_cases q0 : q = j * 2
      · rw [if_pos q0]; exact fun e' => h01 k e' e
      · rw [if_neg q0]; exact fun e' => by have := (hb q hq'' k e').1.2; have := (o1.ge k e).1; omega
    · rw [if_neg p1] at e
      by_cases p0 : p = j * 2
      · rw [if_pos p0] at e
        by_cases q1 : q = j * 2 + 1
        · rw [if_pos q1]; exact h01 k e
        · rw [if_neg q1, if_neg (by omega)]; exact fun e' => by have := (hb q hq'' k e').1.2; have := (o0.ge k e).1; omega
      · rw [if_neg p0] at e
        by_cases q1 : q = j * 2 + 1
        · rw [if_pos q1]; exact fun e' => by have := (hb p hp' k e).1.2; have := (o1.ge k e').1; omega
        · rw [if_neg q1]
          by_cases q0 : q = j * 2
          · rw [if_pos q0]; exact fun e' => by have := (hb p hp' k e).1.2; have := (o0.ge k e').1; omega
          · rw [if_neg q0]; exact hs p q hp' hq'' hpq k e
/-- As many as are made, all empty. -/
theorem made_get (n p : Nat) (hp : p < n * 2) : (madeCells (Value.agg #[.slice none 0 0, .slice none 0 0]).cells (n * 2)).toList.getD p undef = .slice none 0 0 := by
  simp [madeCells, hp, Value.cells]
  rcases Nat.mod_two_eq_zero_or_one p with e | e <;> simp [e]
theorem owk_made {base n : Nat} (h : w.ownsRow base 67 2 v n (madeCells (Value.agg #[.slice none 0 0, .slice none 0 0]).cells (n * 2)).toList) (hB : ∀ k, v.ownBlock = some k → B k) : OwK w B v (List.replicate n ⟨[], []⟩) := by
  have hlen := h.1
  have hnn : ∀ p, p < n * 2 → ∀ k, ((madeCells (Value.agg #[.slice none 0 0, .slice none 0 0]).cells (n * 2)).toList.getD p undef).ownBlock ≠ some k := fun p hp k e => by rw [made_get n p hp] at e; simp [Value.ownBlock] at e
  refine ⟨_, ?_, by simpa using hlen, fun j hj => ?_, hB, fun p hp k e => absurd e (hnn p (by omega) k), fun p q hp hq hpq k e => absurd e (hnn p (by omega) k)⟩
  · rw [List.length_replicate]
    refine ⟨h.1, ?_⟩
    rcases h.2 with h | ⟨g, cap, cur, e, hb', r⟩
    · exact .inl h
    · exact .inr ⟨g, cap, cur, e, Nat.zero_le _, r⟩
  · have hj' : j < n := by simpa using hj
    rw [made_get n _ (by omega), made_get n _ (by omega)]
    simp only [List.getElem_replicate]
    exact ⟨Ls.Own.nil _ _, Li.Own.nil _ _⟩
/-- How great they are. -/
def ksz : List Kv → Nat
  | [] => 0
  | t :: ts => (t.ws.length + lets t.ws + t.vs.length) + ksz ts
theorem ksz_take (ts : List Kv) (k : Nat) (h : k < ts.length) : ksz (ts.take (k + 1)) = ksz (ts.take k) + (ts[k].ws.length + lets ts[k].ws + ts[k].vs.length) := by
  induction ts generalizing k with
  | nil => simp at h
  | cons s r ih =>
    cases k with
    | zero => simp [ksz]
    | succ k =>
      simp only [List.take_succ_cons, ksz, List.getElem_cons_succ]
      rw [ih k (by simpa using h)]
      omega
theorem ksz_le (ts : List Kv) (k : Nat) : ksz (ts.take k) ≤ ksz ts := by
  induction ts generalizing k with
  | nil => simp
  | cons s r ih =>
    cases k with
    | zero => simp [ksz]
    | succ k => simp only [List.take_succ_cons, ksz]; have := ih k; omega
theorem ksz_at (ts : List Kv) (k : Nat) (h : k < ts.length) : ts[k].ws.length + lets ts[k].ws + ts[k].vs.length ≤ ksz ts := by
  have h1 := ksz_take ts k h
  have h2 := ksz_le ts (k + 1)
  omega
theorem ktot_ksz (ts : List Kv) : ktot ts ≤ ksz ts := by
  induction ts with
  | nil => simp [ktot, ksz]
  | cons t ts ih => simp only [ktot, ksz]; omega
def FitsK (ts : List Kv) : Prop := ts.length ≤ 9223372036854775807 ∧ ∀ j (hj : j < ts.length), ts[j].ws.length ≤ 9223372036854775807 ∧ Fits ts[j].ws ∧ ts[j].vs.length ≤ 9223372036854775807
set_option maxHeartbeats 1000000 in
theorem szTab (w : World) (a a' : Option Addr) (c c' : Nat) (left : Int) (t : Kv) (hx : Ls.IsS w a t.ws) (hf : Fits t.ws) (h0 : 0 ≤ left) (h1 : left ≤ 1048576) (hn : t.ws.length ≤ 9223372036854775807) (hm : t.vs.length ≤ 9223372036854775807) :
    Calls Try.prog 63 #[.agg #[.slice a t.ws.length c, .slice a' t.vs.length c'], .int .i64 left] w fun e w' => e = .returned (.int .i64 (sub left (t.ws.length + lets t.ws + t.vs.length))) ∧ Below w.heap.size w w' := by
  have hB : Below w.heap.size w (w.alloc (.cells #[.slice a t.ws.length c, .slice a' t.vs.length c'] 93)) := (Below.refl _ _).alloc (Nat.le_refl _) _
  obtain ⟨z, hz⟩ : ∃ z, t.ws.length + lets t.ws = z := ⟨_, rfl⟩
  go_enter Try.func63, Try.ntmps63
  go_wp2_with fail
  refine (Tb.szStrs _ _ _ _ t.ws (hx.below hB) hf h0 h1 hn).mono ?_
  rintro e w' ⟨rfl, hw⟩
  subst w'
  rw [hz]
  have HZ : Hid (t.ws.length + lets t.ws = z) := hz
  clear hz
  by_cases hfit : (z : Int) ≤ left
  · rw [sub_yes hfit]
    go_wp2_with fail
    refine (Tb.szInts _ _ _ _ _ (by omega) (by omega) hm).mono ?_
    rintro e w' ⟨rfl, hw⟩
    subst w'
    by_cases hfit2 : (t.vs.length : Int) ≤ left - z
    · rw [sub_yes hfit2]
      have HR : Hid (sub left (z + t.vs.length) = left - z - t.vs.length) := by show sub _ _ = _; rw [sub_yes (by omega)]; omega
      go_wp2
      go_ret
      exact ⟨by rw [HZ.out, HR.out]; rfl, hB⟩
    · rw [sub_no hfit2]
      have HR : Hid (sub left (z + t.vs.length) = -1) := sub_no (by omega)
      go_wp2
      go_ret
      exact ⟨by rw [HZ.out, HR.out]; rfl, hB⟩
  · rw [sub_no hfit]
    have HR : Hid (sub left (z + t.vs.length) = -1) := sub_no (by omega)
    go_wp2
    go_ret
    exact ⟨by rw [HZ.out, HR.out]; rfl, hB⟩
set_option maxHeartbeats 1000000 in
theorem szTabs (w : World) (a : Option Addr) (cap : Nat) (left : Int) (ts : List Kv) (hx : IsK w a ts) (hf : FitsK ts) (h0 : 0 ≤ left) (h1 : left ≤ 1048576) :
    Calls Try.prog 29 #[.slice a ts.length cap, .int .i64 left] w fun e w' => e = .returned (.int .i64 (sub left (ts.length + ksz ts))) ∧ Below w.heap.size w w' := by
  have hn := hf.1
  by_cases h : (ts.length : Int) ≤ left
  · go_enter Try.func29, Try.ntmps29
    go_wp2
    go_loopw [1, 5] (fun q i wr => ∃ k : Nat, k ≤ ts.length ∧ i = .int .i64 k ∧ q = .int .i64 (left - ts.length - ksz (ts.take k)) ∧ (ksz (ts.take k) : Int) ≤ left - ts.length ∧ Below w.heap.size w wr) (fun _ i _ => ts.length - (intOf i).toNat)
    case atStart => exact ⟨0, Nat.zero_le _, rfl, by simp [ksz], by simp [ksz]; omega, Below.refl _ _⟩
    case round =>
      obtain ⟨k, hk, rfl, rfl, hle, hB⟩ := hrel
      by_cases hlt : k < ts.length
      · rcases hx.below hB with rfl | ⟨b, off, rfl, hb, hc⟩
        · simp at hlt
        · obtain ⟨a0, c0, a1, c1, ⟨cx0, cx1⟩, i0, i1⟩ := hc k hlt
          obtain ⟨hf0, hf1, hf2⟩ := hf.2 k hlt
          have HT : Hid (ksz (ts.take (k + 1)) = ksz (ts.take k) + (ts[k].ws.length + lets ts[k].ws + ts[k].vs.length)) := ksz_take ts k hlt
          have HL : Hid (ksz (ts.take (k + 1)) ≤ ksz ts) := ksz_le ts (k + 1)
          obtain ⟨L, hL⟩ : ∃ L, ksz (ts.take k) = L := ⟨_, rfl⟩
          rw [hL] at hle HT ⊢
          clear hc hL
          go_wp2_with fail
          refine (szTab _ _ _ _ _ _ ts[k] i0 hf1 (by omega) (by omega) hf0 hf2).mono ?_
          rintro e w1 ⟨rfl, hB1⟩
          have hB := hB.trans (hB1.mono hB.size)
          clear hB1 cx0 cx1 i0 i1 hb
          obtain ⟨z, hz⟩ : ∃ z, ts[k].ws.length + lets ts[k].ws + ts[k].vs.length = z := ⟨_, rfl⟩
          rw [hz] at HT ⊢
          clear hz
          by_cases hfit : (z : Int) ≤ left - ts.length - L
          · rw [sub_yes hfit]
            go_wp2
            go_roundw
            case rel => exact ⟨k + 1, by omega, by go_num, by rw [HT.out]; go_num, by rw [HT.out]; omega, hB⟩
            case measure => simp [intOf]; omega
          · rw [sub_no hfit]
            have HR : Hid (sub left (ts.length + ksz ts) = -1) := sub_no (by have := HT.out; have := HL.out; omega)
            go_wp2
            go_ret
            exact ⟨by rw [HR.out]; rfl, hB⟩
      · obtain rfl : k = ts.length := by omega
        have ht : ts.take ts.length = ts := List.take_length
        rw [ht] at hle ⊢
        have HR : Hid (sub left (ts.length + ksz ts) = left - ts.length - ksz ts) := by show sub _ _ = _; rw [sub_yes (by omega)]; omega
        go_wp2
        go_ret
        exact ⟨by rw [HR.out]; rfl, hB⟩
  · rw [sub_no (by omega)]
    go_enter Try.func29, Try.ntmps29
    go_wp2
    go_ret
    exact ⟨rfl, Below.refl _ _⟩
set_option maxHeartbeats 2000000 in
theorem toTab (w : World) (a a' : Option Addr) (c c' : Nat) (t : Kv) (hp : Ls.IsS w a t.ws) (hx : Li.IsL w a' t.vs) (hl : t.ws.length + t.vs.length ≤ 1048576) :
    Calls Try.prog 65 #[.agg #[.slice a t.ws.length c, .slice a' t.vs.length c']] w fun e w' => ∃ g0 g1, e = .returned (.agg #[.slice (some ⟨g0, 0, none⟩) t.ws.length t.ws.length, .slice (some ⟨g1, 0, none⟩) t.vs.length t.vs.length]) ∧ Ls.Own w' w.heap.size (.slice (some ⟨g0, 0, none⟩) t.ws.length t.ws.length) t.ws ∧ Li.Own w' w.heap.size (.slice (some ⟨g1, 0, none⟩) t.vs.length t.vs.length) t.vs ∧ ¬ g0 = g1 ∧ Below w.heap.size w w' := by
  go_enter Try.func65, Try.ntmps65
  go_wp2_with fail
  obtain ⟨W, hW, hsz, hB, bx, br, bo⟩ := new3 w [.slice a t.ws.length c, .slice a' t.vs.length c'] [.slice none 0 0, .slice none 0 0] [.slice none 0 0, .slice none 0 0] 93 67 67
  rw [hW]
  clear hW
  refine (Ls.to_any _ _ _ t.ws (hp.below hB) (by omega)).mono ?_
  rintro e w1 ⟨rfl, o0, hB1⟩
  have bx := bx.below hB1
  have br := br.below hB1
  have bo := bo.below hB1
  have hB := hB.trans (hB1.mono hB.size)
  have hgl := (o0.ge W.heap.size rfl).2
  obtain ⟨g0, hg0⟩ : ∃ g, W.heap.size = g := ⟨_, rfl⟩
  have hg0' : w.heap.size + 3 = g0 := by omega
  rw [hg0] at o0 hgl ⊢
  clear hB1 hg0
  have HO2 : Hid (∀ v, Ls.Own (w1.setCell ⟨w.heap.size + 1 + 1, 0, none⟩ v) g0 (.slice (some ⟨g0, 0, none⟩) t.ws.length t.ws.length) t.ws) := fun v => o0.kept (Li.grown_set _ _ _ _) (.inr (by simp [Value.ownBlock]; omega))
  have HBX : Hid (∀ v, Wr (w1.setCell ⟨w.heap.size + 1 + 1, 0, none⟩ v) w.heap.size 0 [.slice a t.ws.length c, .slice a' t.vs.length c']) := fun v => bx.setOther (by omega)
  have HBR : Hid (∀ v, Wr (w1.setCell ⟨w.heap.size + 1 + 1, 0, none⟩ v) (w.heap.size + 1) 0 [.slice none 0 0, .slice none 0 0]) := fun v => br.setOther (by omega)
  have HBO : Hid (∀ v, Wr (w1.setCell ⟨w.heap.size + 1 + 1, 0, none⟩ v) (w.heap.size + 2) 0 [v, .slice none 0 0]) := fun v => bo.set 0 (by simp) v
  have HBB : Hid (∀ v, Below w.heap.size w (w1.setCell ⟨w.heap.size + 1 + 1, 0, none⟩ v)) := fun v => hB.setCell (p := ⟨w.heap.size + 1 + 1, 0, none⟩) (by simp; omega) _
  obtain ⟨_, ⟨cx0, cx1⟩, _⟩ := wr2 bx
  obtain ⟨hbo, ⟨co0, co1⟩, fo0, fo1⟩ := wr2 bo
  have HG0 : Hid (w.heap.size + 3 = g0) := hg0'
  clear hg0' hsz bx br bo o0 hB
  go_wp2_with fail
  obtain ⟨w2, hw2⟩ : ∃ w2, w1.setCell ⟨w.heap.size + 1 + 1, 0, none⟩ (.slice (some ⟨g0, 0, none⟩) t.ws.length t.ws.length) = w2 := ⟨_, rfl⟩
  have o2 := HO2.out (.slice (some ⟨g0, 0, none⟩) t.ws.length t.ws.length)
  have bx := HBX.out (.slice (some ⟨g0, 0, none⟩) t.ws.length t.ws.length)
  have br := HBR.out (.slice (some ⟨g0, 0, none⟩) t.ws.length t.ws.length)
  have bo := HBO.out (.slice (some ⟨g0, 0, none⟩) t.ws.length t.ws.length)
  have hB2 := HBB.out (.slice (some ⟨g0, 0, none⟩) t.ws.length t.ws.length)
  have hs2 : w1.heap.size ≤ (w1.setCell ⟨w.heap.size + 1 + 1, 0, none⟩ (.slice (some ⟨g0, 0, none⟩) t.ws.length t.ws.length)).heap.size := by simp [World.setCell]
  rw [hw2] at o2 bx br bo hB2 hs2 ⊢
  clear hw2 HO2 HBX HBR HBO HBB cx0 cx1 co0 co1 fo0 fo1
  refine (Li.to_any _ _ _ t.vs (hx.below hB2) (by omega)).mono ?_
  rintro e w3 ⟨rfl, o1, hB3⟩
  have bx := bx.below hB3
  have br := br.below hB3
  have bo := bo.below hB3
  have hg0l : g0 < w2.heap.size := by omega
  obtain ⟨g1, hg1⟩ : ∃ g, w2.heap.size = g := ⟨_, rfl⟩
  rw [hg1] at o1 hg0l ⊢
  have o0 := o2.below hB3
  have hB := hB2.trans (hB3.mono hB2.size)
  have hs3 : w1.heap.size ≤ w3.heap.size := by have := hB3.size; omega
  have HN : Hid (g0 < g1) := hg0l
  clear hB3 hB2 o2 hs2 hg1 hg0l
  obtain ⟨_, ⟨cx0, cx1⟩, _⟩ := wr2 bx
  obtain ⟨_, ⟨co0, co1⟩, fo0, fo1⟩ := wr2 bo
  obtain ⟨_, ⟨cr0, cr1⟩, fr0, fr1⟩ := wr2 br
  have HO0 : Hid (∀ v v' v'', Ls.Own (((w3.setCell ⟨w.heap.size + 1 + 1, 1, none⟩ v).setCell ⟨w.heap.size + 1, 0, none⟩ v').setCell ⟨w.heap.size + 1, 1, none⟩ v'') w.heap.size (.slice (some ⟨g0, 0, none⟩) t.ws.length t.ws.length) t.ws) := fun v v' v'' => by
    have := HG0.out
    exact (((o0.kept (Li.grown_set _ _ _ _) (.inr (by simp [Value.ownBlock]; omega))).kept (Li.grown_set _ _ _ _) (.inr (by simp [Value.ownBlock]; omega))).kept (Li.grown_set _ _ _ _) (.inr (by simp [Value.ownBlock]; omega))).mono (by omega)
  have HO1 : Hid (∀ v v' v'', Li.Own (((w3.setCell ⟨w.heap.size + 1 + 1, 1, none⟩ v).setCell ⟨w.heap.size + 1, 0, none⟩ v').setCell ⟨w.heap.size + 1, 1, none⟩ v'') w.heap.size (.slice (some ⟨g1, 0, none⟩) t.vs.length t.vs.length) t.vs) := fun v v' v'' => by
    have := HG0.out
    have := HN.out
    exact (((o1.kept (Li.grown_set _ _ _ _) (.inr (by simp [Value.ownBlock]; omega))).kept (Li.grown_set _ _ _ _) (.inr (by simp [Value.ownBlock]; omega))).kept (Li.grown_set _ _ _ _) (.inr (by simp [Value.ownBlock]; omega))).mono (by omega)
  have HBB : Hid (∀ v v' v'', Below w.heap.size w (((w3.setCell ⟨w.heap.size + 1 + 1, 1, none⟩ v).setCell ⟨w.heap.size + 1, 0, none⟩ v').setCell ⟨w.heap.size + 1, 1, none⟩ v'')) := fun v v' v'' => ((hB.setCell (by simp; omega) _).setCell (by simp) _).setCell (by simp) _
  clear o0 o1 hB bx bo br
  go_wp2
  refine bodyPost_ret (v := .agg #[.slice (some ⟨g0, 0, none⟩) t.ws.length t.ws.length, .slice (some ⟨g1, 0, none⟩) t.vs.length t.vs.length]) (by rw [Tb.results_cell rfl]; go_simp) rfl ⟨_, _, rfl, HO0.out _ _ _, HO1.out _ _ _, ?_, HBB.out _ _ _⟩
  have := HN.out
  omega
/-- As far as k the places hold what they shall, behind it nothing. -/
def part (ts : List Kv) (k : Nat) : List Kv := ts.take k ++ List.replicate (ts.length - k) ⟨[], []⟩
theorem part_length (ts : List Kv) (k : Nat) (h : k ≤ ts.length) : (part ts k).length = ts.length := by simp [part]; omega
theorem part_zero (ts : List Kv) : part ts 0 = List.replicate ts.length ⟨[], []⟩ := by simp [part]
theorem part_all (ts : List Kv) : part ts ts.length = ts := by simp [part]
theorem part_set (ts : List Kv) (k : Nat) (h : k < ts.length) : (part ts k).set k ts[k] = part ts (k + 1) := by
  unfold part
  apply List.ext_getElem?
  intro i
  rw [List.getElem?_set]
  by_cases h1 : k = i
  · subst h1
    rw [if_pos rfl, if_pos (by simp; omega), List.getElem?_append_left (by simp; omega)]
    simp [h]
  · rw [if_neg h1]
    by_cases h2 : i < k
    · rw [List.getElem?_append_left (by simp; omega), List.getElem?_append_left (by simp; omega)]
      simp [h2, show i < k + 1 by omega]
    · rw [List.getElem?_append_right (by simp; omega), List.getElem?_append_right (by simp; omega)]
      simp only [List.length_take, List.getElem?_replicate]
      by_cases h3 : i < ts.length
      · rw [if_pos (by omega), if_pos (by omega)]
      · rw [if_neg (by omega), if_neg (by omega)]
theorem info_tab' : (Try.prog.info? 67).map (fun i => (i.zero, i.size, i.bytes)) = some (some (.agg #[.slice none 0 0, .slice none 0 0]), 2, 48) := by kernel_rfl
set_option maxHeartbeats 2000000 in
theorem toTabs (w : World) (a : Option Addr) (cap : Nat) (ts : List Kv) (hx : IsK w a ts) (hl : ts.length + ktot ts ≤ 1048576) :
    Calls Try.prog 38 #[.slice a ts.length cap] w fun e w' => ∃ v, e = .returned v ∧ OwK w' (fun k => w.heap.size ≤ k ∧ k < w'.heap.size) v ts ∧ Below w.heap.size w w' := by
  obtain ⟨i0, hi, hz0, hz1, hz2⟩ := info_parts info_tab'
  go_enter Try.func38, Try.ntmps38
  go_wp2_with (at_make; refine wpList_make_full _ rfl _ _ 31 rfl w.heap.size 67 i0 (.agg #[.slice none 0 0, .slice none 0 0]) 2 Try.underlying31 hi hz0 hz1 _ _ _ _ ts.length rfl rfl (by omega) (by omega) (by rw [hz2]; omega) (by unfold maxLen; omega) (Nat.le_refl _) ?_; intro w1 hown hgrow)
  have hB1 := below_none hgrow
  have ok0 : OwK w1 (fun k => w.heap.size ≤ k) (.slice (some ⟨w.heap.size, 0, none⟩) ts.length ts.length) (part ts 0) := by rw [part_zero]; exact owk_made hown (fun k e => by simp [Value.ownBlock] at e; omega)
  clear hown hgrow
  go_loopw [4] (fun i wr => ∃ k : Nat, k ≤ ts.length ∧ i = .int .i64 k ∧ OwK wr (fun k => w.heap.size ≤ k) (.slice (some ⟨w.heap.size, 0, none⟩) ts.length ts.length) (part ts k) ∧ Below w.heap.size w wr) (fun i _ => ts.length - (intOf i).toNat)
  case atStart => exact ⟨0, Nat.zero_le _, rfl, ok0, hB1⟩
  case round =>
    obtain ⟨k, hk, rfl, ok, hB⟩ := hrel
    clear ok0
    by_cases hlt : k < ts.length
    · rcases hx.below hB with rfl | ⟨b, off, rfl, hb, hc⟩
      · simp at hlt
      · obtain ⟨a0, c0, a1, c1, ⟨cx0, cx1⟩, i0, i1⟩ := hc k hlt
        have hz := ktot_at ts k hlt
        have hkp : k < (part ts k).length := by rw [part_length ts k hk]; exact hlt
        have HPS : Hid ((part ts k).set k ts[k] = part ts (k + 1)) := part_set ts k hlt
        have HPL : Hid ((part ts k).length = ts.length) := part_length ts k hk
        clear hc
        go_wp2_with fail
        refine (toTab _ _ _ _ _ ts[k] i0 i1 (by omega)).mono ?_
        rintro e w2 ⟨g0, g1, rfl, o0, o1, hap, hB2⟩
        obtain ⟨a9, c9, e9, g, y0, y1, e10, k0, k1, f0, f1, hgl, hBg, hgm, hput⟩ := (ok.bound.below hB2).put k hkp
        rw [HPL.out] at e9
        cases e9
        cases e10
        have HOK : Hid (OwK ((w2.setCell ⟨w.heap.size, k * 2, none⟩ (.slice (some ⟨g0, 0, none⟩) ts[k].ws.length ts[k].ws.length)).setCell ⟨w.heap.size, k * 2 + 1, none⟩ (.slice (some ⟨g1, 0, none⟩) ts[k].vs.length ts[k].vs.length)) (fun k => w.heap.size ≤ k) (.slice (some ⟨w.heap.size, 0, none⟩) ts.length ts.length) (part ts (k + 1))) := by
          show OwK _ _ _ _
          rw [← HPS.out]
          exact hput _ _ ts[k] o0 o1 (fun q e e' => by simp [Value.ownBlock] at e e'; omega) (fun q hq => by have := hB.size; omega)
        have hB := hB.trans (hB2.mono hB.size)
        clear hput o0 o1 hap hB2 cx0 cx1 i0 i1 ok hkp hBg hgm
        go_wp2
        go_roundw
        case rel => exact ⟨k + 1, by omega, by go_num, HOK.out, (hB.setCell (p := ⟨w.heap.size, k * 2, none⟩) (Nat.le_refl _) _).setCell (p := ⟨w.heap.size, k * 2 + 1, none⟩) (Nat.le_refl _) _⟩
        case measure => simp [intOf]; omega
    · obtain rfl : k = ts.length := by omega
      have HO : Hid (OwK wr (fun k => w.heap.size ≤ k ∧ k < wr.heap.size) (.slice (some ⟨w.heap.size, 0, none⟩) ts.length ts.length) ts) := by
        have := ok.bound
        rw [part_all] at this
        exact this
      clear ok
      go_wp2
      go_ret
      exact ⟨_, rfl, HO.out, hB⟩
end Go.Proofs.Ytkiddmbenepfjaa.Kt
