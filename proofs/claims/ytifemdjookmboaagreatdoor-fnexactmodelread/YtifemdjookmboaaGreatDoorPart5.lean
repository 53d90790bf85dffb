/-
  Contracts that the proof leans on, put together in the order in which they build.
-/
import Derived.Test.YtifemdjookmboaaGreatDoorPart4
import Derived.Test.YtifemdjookmboaaGreatDoorPart2
/-
  Tables of words and their numbers, further: whether two are the same, whether marks are held.
-/
namespace Go.Proofs.YtifemdjookmboaaGreatDoor.Kt
set_option maxRecDepth 20000
open Go.RowKit
open Go.Proofs.YtifemdjookmboaaGreatDoor.Sv (Fr fr_below new2 wr2)
open Go.Proofs.YtifemdjookmboaaGreatDoor.Mk (mtexts mtexts_length)
open Go.Proofs.YtifemdjookmboaaGreatDoor.Li (marks marks_length)
set_option linter.unusedVariables false
set_option maxHeartbeats 1000000 in
theorem eqTab (w : World) (a0 a1 b0 b1 : Option Addr) (c0 c1 d0 d1 : Nat) (t : Kv) (h0 : Ls.IsS w a0 t.ws) (h1 : Li.IsL w a1 t.vs) (g0 : Ls.IsS w b0 t.ws) (g1 : Li.IsL w b1 t.vs) (hl : t.ws.length + t.vs.length ≤ 1048576) :
    Calls Tryz.prog 38 #[.agg #[.slice a0 t.ws.length c0, .slice a1 t.vs.length c1], .agg #[.slice b0 t.ws.length d0, .slice b1 t.vs.length d1]] w fun e w' => e = .returned (.bool true) ∧ Below w.heap.size w w' := by
  go_enter Tryz.func38, Tryz.ntmps38
  go_wp2_with fail
  obtain ⟨W, hW, hsz, hB, bx, bY⟩ := new2 w [.slice a0 t.ws.length c0, .slice a1 t.vs.length c1] [.slice b0 t.ws.length d0, .slice b1 t.vs.length d1] 39 39
  rw [hW]
  clear hW
  refine (Ls.eq_bel _ _ _ _ _ t.ws t.ws (h0.below hB) (g0.below hB) (by omega) (by omega)).mono ?_
  rintro e w1 ⟨rfl, hb⟩
  rw [Ls.eqs_self]
  obtain ⟨_, ⟨_, x1⟩, _⟩ := wr2 (bx.below hb)
  obtain ⟨_, ⟨_, y1⟩, _⟩ := wr2 (bY.below hb)
  have hB := hB.trans (hb.mono hB.size)
  clear hb bx bY hsz
  go_wp2_with fail
  refine (Li.eq_bel _ _ _ _ _ t.vs t.vs (h1.below hB) (g1.below hB) (by omega) (by omega)).mono ?_
  rintro e w2 ⟨rfl, hb⟩
  rw [Li.eqs_self]
  have hB := hB.trans (hb.mono hB.size)
  clear hb x1 y1
  go_wp2
  go_ret
  exact ⟨rfl, hB⟩
set_option maxHeartbeats 2000000 in
theorem eqTabs (w : World) (a b : Option Addr) (ca cb : Nat) (ts : List Kv) (hx : IsK w a ts) (hy : IsK w b ts) (hl : ts.length + ktot ts ≤ 1048576) :
    Calls Tryz.prog 17 #[.slice a ts.length ca, .slice b ts.length cb] w fun e w' => e = .returned (.bool true) ∧ Below w.heap.size w w' := by
  have hne : ((ts.length : Int) != (ts.length : Int)) = false := by simp
  go_enter Tryz.func17, Tryz.ntmps17
  go_wp2
  go_loopw [5] (fun i wr => ∃ j : Nat, j ≤ ts.length ∧ i = .int .i64 j ∧ Below w.heap.size w wr) (fun i _ => ts.length - (intOf i).toNat)
  case atStart => exact ⟨0, Nat.zero_le _, rfl, Below.refl _ _⟩
  case round =>
    obtain ⟨j, hj, rfl, hB⟩ := hrel
    by_cases hlt : j < ts.length
    · rcases hx.below hB with h0 | ⟨xb, xo, rfl, hxb, hxc⟩
      · rw [h0] at hlt; simp at hlt
      rcases hy.below hB with h0 | ⟨yb, yo, rfl, hyb, hyc⟩
      · rw [h0] at hlt; simp at hlt
      obtain ⟨a0, c0, a1, c1, ⟨x0, x1⟩, i0, i1⟩ := hxc j hlt
      obtain ⟨b0, d0, b1, d1, ⟨y0, y1⟩, k0, k1⟩ := hyc j hlt
      have hta := ktot_at ts j hlt
      obtain ⟨t, ht⟩ : ∃ t, ts[j] = t := ⟨_, rfl⟩
      rw [ht] at x0 x1 i0 i1 y0 y1 k0 k1 hta
      have HI0 : Hid (Ls.IsS wr a0 t.ws) := i0
      have HI1 : Hid (Li.IsL wr a1 t.vs) := i1
      have HK0 : Hid (Ls.IsS wr b0 t.ws) := k0
      have HK1 : Hid (Li.IsL wr b1 t.vs) := k1
      have HB : Hid (Below w.heap.size w wr) := hB
      have HBD : Hid (Below wr.heap.size wr wr.drew) := (Below.refl wr.heap.size wr).drew
      clear hxc hyc ht i0 i1 k0 k1 hB
      go_wp2_with fail
      go_region_held3 (fun w' => w'.cell? ⟨xb, xo + j * 2, none⟩ = some (.slice a0 t.ws.length c0) ∧ w'.cell? ⟨xb, xo + j * 2 + 1, none⟩ = some (.slice a1 t.vs.length c1) ∧ w'.cell? ⟨yb, yo + j * 2, none⟩ = some (.slice b0 t.ws.length d0) ∧ w'.cell? ⟨yb, yo + j * 2 + 1, none⟩ = some (.slice b1 t.vs.length d1)) (go_keep) (first
        | (go_at_call 38
           refine (eqTab wr.drew _ _ _ _ _ _ _ _ t (HI0.out.below HBD.out) (HI1.out.below HBD.out) (HK0.out.below HBD.out) (HK1.out.below HBD.out) (by omega)).mono ?_
           rintro e w1 ⟨rfl, hb⟩
           have HY0 : Hid (Below wr.heap.size wr w1) := HBD.out.trans hb
           have z0 := (HY0.out.cell (p := ⟨xb, xo + j * 2, none⟩) hxb).trans x0
           have z1 := (HY0.out.cell (p := ⟨xb, xo + j * 2 + 1, none⟩) hxb).trans x1
           have z2 := (HY0.out.cell (p := ⟨yb, yo + j * 2, none⟩) hyb).trans y0
           have z3 := (HY0.out.cell (p := ⟨yb, yo + j * 2 + 1, none⟩) hyb).trans y1
           clear hb))
      have hB1 := HB.out.trans (HY0.out.mono HB.out.size)
      clear HY0 HB HI0 HI1 HK0 HK1 HBD
      go_wp2
      go_roundw
      case rel => exact ⟨j + 1, by omega, by go_num, hB1⟩
      case measure => simp [intOf]; omega
    · go_wp2
      go_ret
      exact ⟨rfl, hB⟩
set_option maxHeartbeats 2000000 in
theorem heldTabs (w : World) (a : Option Addr) (cap n : Nat) (q : Int) (ts : List Kv) (hn : ts.length = n) (h : IsK w a (kmarks q ts)) (hl : ts.length + ktot ts ≤ 1048576) (k0 : 0 ≤ q) (k1 : q ≤ 100000000000) :
    Calls Tryz.prog 21 #[.slice a n cap, .int .i64 q] w fun e w' => e = .returned (.int .i64 (q + ktot ts)) ∧ Below w.heap.size w w' := by
  obtain ⟨m, rfl⟩ : ∃ m : Nat, q = (m : Int) := ⟨q.toNat, by omega⟩
  have HN : Hid (ts.length = n) := hn
  have hl : n + ktot ts ≤ 1048576 := by omega
  unfold kmarks at h
  rw [Int.toNat_natCast] at h
  clear hn
  go_enter Tryz.func21, Tryz.ntmps21
  go_wp2
  go_loopw [1, 5] (fun kk i wr => ∃ j : Nat, j ≤ n ∧ i = .int .i64 j ∧ kk = .int .i64 ((m + ktot (ts.take j) : Nat) : Int) ∧ Below w.heap.size w wr) (fun _ i _ => n - (intOf i).toNat)
  case atStart => exact ⟨0, Nat.zero_le _, rfl, by simp [ktot], Below.refl _ _⟩
  case round =>
    obtain ⟨j, hj, rfl, rfl, hB⟩ := hrel
    have hpre := ktot_le ts j
    by_cases hlt : j < n
    · have hlt' : j < ts.length := by have := HN.out; omega
      have hlk : j < (kmarksN m ts).length := by rw [kmarksN_length]; exact hlt'
      rcases h.below hB with h0 | ⟨b, off, rfl, hb, hc⟩
      · rw [h0] at hlk; simp at hlk
      obtain ⟨a0, c0, a1, c1, ⟨x0, x1⟩, i0, i1⟩ := hc j hlk
      rw [kmarksN_get] at x0 x1 i0 i1
      have HTK : Hid (ktot (ts.take (j + 1)) = ktot (ts.take j) + (ts[j].ws.length + ts[j].vs.length)) := ktot_take ts j hlt'
      have hta := ktot_at ts j hlt'
      obtain ⟨t, ht⟩ : ∃ t, ts[j] = t := ⟨_, rfl⟩
      obtain ⟨K, hK⟩ : ∃ K, m + ktot (ts.take j) = K := ⟨_, rfl⟩
      rw [ht] at x0 x1 i0 i1 hta HTK
      rw [hK] at x0 x1 i0 i1 ⊢
      have HK : Hid (m + ktot (ts.take j) = K) := hK
      have hK1 : K ≤ 200000000000 := by omega
      replace x0 : wr.cell? ⟨b, off + j * 2, none⟩ = some (.slice a0 t.ws.length c0) := by rw [x0]; simp [km, mtexts_length]
      replace x1 : wr.cell? ⟨b, off + j * 2 + 1, none⟩ = some (.slice a1 t.vs.length c1) := by rw [x1]; simp [km, marks_length]
      replace i0 : Ls.IsS wr a0 (mtexts K t.ws.length) := i0
      replace i1 : Li.IsL wr a1 (marks ((K + t.ws.length : Nat) : Int) t.vs.length) := i1
      clear hc ht hK
      go_wp2_with fail
      refine (Mk.held_strs _ _ _ _ K i0 (by omega) (by omega)).mono ?_
      rintro e w1 ⟨rfl, hb1⟩
      have x1 := (hb1.cell (p := ⟨b, off + j * 2 + 1, none⟩) hb).trans x1
      have i1 := i1.below hb1
      have hB1 := hB.trans (hb1.mono hB.size)
      have hneg : ¬ ((K + t.ws.length : Nat) : Int) < 0 := by omega
      clear hb1 x0 i0 hB
      go_wp2_with fail
      refine (Li.held_walk _ _ _ _ _ i1 (by omega) (by omega) (by omega)).mono ?_
      rintro e w2 ⟨rfl, hw⟩
      subst w2
      have HNUM : Hid ((((K + t.ws.length : Nat) : Int) + (t.vs.length : Int)) = ((m + ktot (ts.take (j + 1)) : Nat) : Int)) := by show _ = _; rw [HTK.out]; have := HK.out; omega
      rw [HNUM.out]
      have hneg2 : ¬ ((m + ktot (ts.take (j + 1)) : Nat) : Int) < 0 := by omega
      clear i1 x1 hneg
      go_wp2
      go_roundw
      case rel => exact ⟨j + 1, by omega, by go_num, rfl, hB1⟩
      case measure => simp [intOf]; omega
    · obtain rfl : j = n := by omega
      have HNUM : Hid (((m + ktot (ts.take j) : Nat) : Int) = (m : Int) + (ktot ts : Int)) := by show _ = _; rw [List.take_of_length_le (by have := HN.out; omega)]; omega
      clear hlt
      rw [HNUM.out]
      go_wp2
      go_ret
      exact ⟨rfl, hB⟩
end Go.Proofs.YtifemdjookmboaaGreatDoor.Kt
/-
  Tables of words and their numbers, further: one put into its place; how great they are; a copy of the laws' own.
-/
namespace Go.Proofs.YtifemdjookmboaaGreatDoor.Kt
set_option maxRecDepth 20000
open Go.RowKit
open Go.Proofs.YtifemdjookmboaaGreatDoor.Tb (ownsRow_at sub sub_yes sub_no lets Fits)
open Go.Proofs.YtifemdjookmboaaGreatDoor.Sv (Fr fr_below fr_grown new1 new2 new3 wr2 Wr)
open Go.Proofs.YtifemdjookmboaaGreatDoor.Li (below_none)
set_option linter.unusedVariables false
variable {w w1 : World} {B : Nat → Prop} {v : Value} {ts : List Kv}
theorem getD_set2 {vs : List Value} {q p : Nat} {u0 u1 : Value} (hq : q + 1 < vs.length) : ((vs.set q u0).set (q + 1) u1).getD p undef = if p = q + 1 then u1 else if p = q then u0 else vs.getD p undef := by
  by_cases h1 : p = q + 1
  · subst h1; simp [hq]
  · by_cases h0 : p = q
    · subst h0; simp [show p < vs.length by omega]
    · simp [h0, h1, Ne.symm h0, Ne.symm h1]
/-- One put into its place: its words and numbers lie in blocks from m on, all that was there in blocks below. -/
theorem OwK.put {m : Nat} (h : OwK w (fun k => B k ∧ k < m) v ts) (j : Nat) (hj : j < ts.length) : ∃ a c, v = .slice a ts.length c ∧ ∃ g y0 y1, a = some ⟨g, 0, none⟩ ∧ w.cell? ⟨g, j * 2, none⟩ = some y0 ∧ w.cell? ⟨g, j * 2 + 1, none⟩ = some y1 ∧ w.frozen? ⟨g, j * 2, none⟩ = false ∧ w.frozen? ⟨g, j * 2 + 1, none⟩ = false ∧ g < w.heap.size ∧ B g ∧ g < m ∧
    ∀ u0 u1 (x : Kv), Ls.Own w m u0 x.ws → Li.Own w m u1 x.vs → (∀ k, u0.ownBlock = some k → u1.ownBlock ≠ some k) → (∀ k, m ≤ k → B k) → OwK ((w.setCell ⟨g, j * 2, none⟩ u0).setCell ⟨g, j * 2 + 1, none⟩ u1) B v (ts.set j x) := by
  obtain ⟨vs, ho, hl, he, hv, hb, hs⟩ := h
  have h' := ho
  rcases ho.2 with ⟨rfl, h0⟩ | ⟨g, cap, cur, rfl, hbg, hh, _⟩
  · omega
  have k0 := World.ownsRow.cellAt h' (j * 2) (by omega)
  have k1 := World.ownsRow.cellAt h' (j * 2 + 1) (by omega)
  rw [List.getElem?_eq_getElem (by omega)] at k0 k1
  obtain ⟨hBg, hgm⟩ := hv g rfl
  refine ⟨_, cap, rfl, g, _, _, rfl, k0, k1, World.ownsRow.frozenAt h' _, World.ownsRow.frozenAt h' _, (Array.getElem?_eq_some_iff.1 hh).1, hBg, hgm, fun u0 u1 x o0 o1 h01 hB => ?_⟩
  have hst := (World.ownsRow.stored (World.ownsRow.stored h' (j * 2) u0).1 (j * 2 + 1) u1).1
  have hg : w.grownBy ((w.setCell ⟨g, j * 2, none⟩ u0).setCell ⟨g, j * 2 + 1, none⟩ u1) (some g) := Li.grown_trans (Li.grown_set _ _ _ _) (Li.grown_set _ _ _ _)
  have hq : j * 2 + 1 < vs.length := by omega
  have hne : ∀ p, p < vs.length → ∀ k, (vs.getD p undef).ownBlock = some k → ¬ k = g := fun p hp k e e' => (hb p hp k e).2 (by subst e'; rfl)
  have hn0 : ∀ k, u0.ownBlock = some k → ¬ k = g := fun k e e' => by have := (o0.ge k e).1; omega
  have hn1 : ∀ k, u1.ownBlock = some k → ¬ k = g := fun k e e' => by have := (o1.ge k e).1; omega
  refine ⟨(vs.set (j * 2) u0).set (j * 2 + 1) u1, by rw [List.length_set]; exact hst, by simpa using hl, fun i hi => ?_, fun k e => (hv k e).1, fun p hp k e => ?_, fun p q hp hq' hpq k e => ?_⟩
  · have hi' : i < ts.length := by simpa using hi
    rw [getD_set2 hq, getD_set2 hq]
    by_cases hij : j = i
    · subst hij
      rw [if_neg (by omega), if_pos rfl, if_pos rfl, List.getElem_set_self]
      have q0 : Ls.Own ((w.setCell ⟨g, j * 2, none⟩ u0).setCell ⟨g, j * 2 + 1, none⟩ u1) m u0 x.ws := ownsRow_at o0 (fun k e => hg.block k (o0.ge k e).2 (fun e' => by injection e' with e'; exact hn0 k e e'))
      have q1 : Li.Own ((w.setCell ⟨g, j * 2, none⟩ u0).setCell ⟨g, j * 2 + 1, none⟩ u1) m u1 x.vs := ownsRow_at o1 (fun k e => hg.block k (o1.ge k e).2 (fun e' => by injection e' with e'; exact hn1 k e e'))
      exact ⟨q0.mono (Nat.zero_le _), q1.mono (Nat.zero_le _)⟩
    · rw [if_neg (by omega), if_neg (by omega), if_neg (by omega), if_neg (by omega), List.getElem_set_ne hij]
      obtain ⟨q0, q1⟩ := he i hi'
      exact ⟨ownsRow_at q0 (fun k e => hg.block k (q0.ge k e).2 (fun e' => by injection e' with e'; exact hne _ (by omega) k e e')), ownsRow_at q1 (fun k e => hg.block k (q1.ge k e).2 (fun e' => by injection e' with e'; exact hne _ (by omega) k e e'))⟩
  · rw [getD_set2 hq] at e
    have hgg : ∀ k, ¬ k = g → Value.ownBlock (.slice (some ⟨g, 0, none⟩) ts.length cap) ≠ some k := fun k hk e => hk (by simp [Value.ownBlock] at e; exact e.symm)
    by_cases h1 : p = j * 2 + 1
    · rw [if_pos h1] at e; exact ⟨hB k (o1.ge k e).1, hgg k (hn1 k e)⟩
    · rw [if_neg h1] at e
      by_cases h0 : p = j * 2
      · rw [if_pos h0] at e; exact ⟨hB k (o0.ge k e).1, hgg k (hn0 k e)⟩
      · rw [if_neg h0] at e; exact ⟨(hb p (by simpa using hp) k e).1.1, (hb p (by simpa using hp) k e).2⟩
  · rw [getD_set2 hq] at e ⊢
    have hp' : p < vs.length := by simpa using hp
    have hq'' : q < vs.length := by simpa using hq'
    by_cases p1 : p = j * 2 + 1
    · rw [if_pos p1] at e
      rw [if_neg (by omega)]
      by_cases q0 : q = j * 2
      · rw [if_pos q0]; exact fun e' => h01 k e' e
      · rw [if_neg q0]; exact fun e' => by have := (hb q hq'' k e').1.2; have := (o1.ge k e).1; omega
    · rw [if_neg p1] at e
      by_cases p0 : p = j * 2
      · rw [if_pos p0] at e
        by_cases q1 : q = j * 2 + 1
        · rw [if_pos q1]; exact h01 k e
        · rw [if_neg q1, if_neg (by omega)]; exact fun e' => by have := (hb q hq'' k e').1.2; have := (o0.ge k e).1; omega
      · rw [if_neg p0] at e
        by_cases q1 : q = j * 2 + 1
        · rw [if_pos q1]; exact fun e' => by have := (hb p hp' k e).1.2; have := (o1.ge k e').1; omega
        · rw [if_neg q1]
          by_cases q0 : q = j * 2
          · rw [if_pos q0]; exact fun e' => by have := (hb p hp' k e).1.2; have := (o0.ge k e').1; omega
          · rw [if_neg q0]; exact hs p q hp' hq'' hpq k e
/-- As many as are made, all empty. -/
theorem made_get (n p : Nat) (hp : p < n * 2) : (madeCells (Value.agg #[.slice none 0 0, .slice none 0 0]).cells (n * 2)).toList.getD p undef = .slice none 0 0 := by
  simp [madeCells, hp, Value.cells]
  rcases Nat.mod_two_eq_zero_or_one p with e | e <;> simp [e]
theorem owk_made {base n : Nat} (h : w.ownsRow base 39 2 v n (madeCells (Value.agg #[.slice none 0 0, .slice none 0 0]).cells (n * 2)).toList) (hB : ∀ k, v.ownBlock = some k → B k) : OwK w B v (List.replicate n ⟨[], []⟩) := by
  have hlen := h.1
  have hnn : ∀ p, p < n * 2 → ∀ k, ((madeCells (Value.agg #[.slice none 0 0, .slice none 0 0]).cells (n * 2)).toList.getD p undef).ownBlock ≠ some k := fun p hp k e => by rw [made_get n p hp] at e; simp [Value.ownBlock] at e
  refine ⟨_, ?_, by simpa using hlen, fun j hj => ?_, hB, fun p hp k e => absurd e (hnn p (by omega) k), fun p q hp hq hpq k e => absurd e (hnn p (by omega) k)⟩
  · rw [List.length_replicate]
    refine ⟨h.1, ?_⟩
    rcases h.2 with h | ⟨g, cap, cur, e, hb', r⟩
    · exact .inl h
    · exact .inr ⟨g, cap, cur, e, Nat.zero_le _, r⟩
  · have hj' : j < n := by simpa using hj
    rw [made_get n _ (by omega), made_get n _ (by omega)]
    simp only [List.getElem_replicate]
    exact ⟨Ls.Own.nil _ _, Li.Own.nil _ _⟩
/-- How great they are. -/
def ksz : List Kv → Nat
  | [] => 0
  | t :: ts => (t.ws.length + lets t.ws + t.vs.length) + ksz ts
theorem ksz_take (ts : List Kv) (k : Nat) (h : k < ts.length) : ksz (ts.take (k + 1)) = ksz (ts.take k) + (ts[k].ws.length + lets ts[k].ws + ts[k].vs.length) := by
  induction ts generalizing k with
  | nil => simp at h
  | cons s r ih =>
    cases k with
    | zero => simp [ksz]
    | succ k =>
      simp only [List.take_succ_cons, ksz, List.getElem_cons_succ]
      rw [ih k (by simpa using h)]
      omega
theorem ksz_le (ts : List Kv) (k : Nat) : ksz (ts.take k) ≤ ksz ts := by
  induction ts generalizing k with
  | nil => simp
  | cons s r ih =>
    cases k with
    | zero => simp [ksz]
    | succ k => simp only [List.take_succ_cons, ksz]; have := ih k; omega
theorem ksz_at (ts : List Kv) (k : Nat) (h : k < ts.length) : ts[k].ws.length + lets ts[k].ws + ts[k].vs.length ≤ ksz ts := by
  have h1 := ksz_take ts k h
  have h2 := ksz_le ts (k + 1)
  omega
theorem ktot_ksz (ts : List Kv) : ktot ts ≤ ksz ts := by
  induction ts with
  | nil => simp [ktot, ksz]
  | cons t ts ih => simp only [ktot, ksz]; omega
def FitsK (ts : List Kv) : Prop := ts.length ≤ 9223372036854775807 ∧ ∀ j (hj : j < ts.length), ts[j].ws.length ≤ 9223372036854775807 ∧ Fits ts[j].ws ∧ ts[j].vs.length ≤ 9223372036854775807
/-- As far as k the places hold what they shall, behind it nothing. -/
def part (ts : List Kv) (k : Nat) : List Kv := ts.take k ++ List.replicate (ts.length - k) ⟨[], []⟩
theorem part_length (ts : List Kv) (k : Nat) (h : k ≤ ts.length) : (part ts k).length = ts.length := by simp [part]; omega
theorem part_zero (ts : List Kv) : part ts 0 = List.replicate ts.length ⟨[], []⟩ := by simp [part]
theorem part_all (ts : List Kv) : part ts ts.length = ts := by simp [part]
theorem part_set (ts : List Kv) (k : Nat) (h : k < ts.length) : (part ts k).set k ts[k] = part ts (k + 1) := by
  unfold part
  apply List.ext_getElem?
  intro i
  rw [List.getElem?_set]
  by_cases h1 : k = i
  · subst h1
    rw [if_pos rfl, if_pos (by simp; omega), List.getElem?_append_left (by simp; omega)]
    simp [h]
  · rw [if_neg h1]
    by_cases h2 : i < k
    · rw [List.getElem?_append_left (by simp; omega), List.getElem?_append_left (by simp; omega)]
      simp [h2, show i < k + 1 by omega]
    · rw [List.getElem?_append_right (by simp; omega), List.getElem?_append_right (by simp; omega)]
      simp only [List.length_take, List.getElem?_replicate]
      by_cases h3 : i < ts.length
      · rw [if_pos (by omega), if_pos (by omega)]
      · rw [if_neg (by omega), if_neg (by omega)]
theorem info_tab' : (Tryz.prog.info? 39).map (fun i => (i.zero, i.size, i.bytes)) = some (some (.agg #[.slice none 0 0, .slice none 0 0]), 2, 48) := by kernel_rfl
end Go.Proofs.YtifemdjookmboaaGreatDoor.Kt
/-
  Borders and bins, as plain functions on lists of numbers; what follows of them.
-/
namespace Go.Proofs.YtifemdjookmboaaGreatDoor.Bo
open Go.RowKit

def fok (x : Int) : Bool := decide (-1000000000 ≤ x ∧ x ≤ 1000000000)
theorem fok_iff {x : Int} : fok x = true ↔ (-1000000000 ≤ x ∧ x ≤ 1000000000) := by simp [fok]
def aok (l : List Int) : Bool := l.all fok
theorem aok_iff {l : List Int} : aok l = true ↔ ∀ x ∈ l, fok x = true := by simp [aok]
theorem aok_to {l : List Int} (h : ∀ j (hj : j < l.length), fok l[j] = true) : aok l = true := by
  rw [aok_iff]; intro x hx
  obtain ⟨j, hj, rfl⟩ := List.getElem_of_mem hx
  exact h j hj
theorem aok_at {l : List Int} (h : aok l = true) (j : Nat) (hj : j < l.length) : fok l[j] = true := aok_iff.1 h _ (List.getElem_mem hj)
theorem aok_no {l : List Int} {j : Nat} (hj : j < l.length) (h : fok l[j] = false) : aok l = false := by
  cases e : aok l with
  | false => rfl
  | true => rw [aok_at e j hj] at h; cases h

/-- How many of b are less than x. -/
def bin (b : List Int) (x : Int) : Nat := (b.filter (fun y => decide (y < x))).length
theorem bin_take (b : List Int) (x : Int) (k : Nat) (h : k < b.length) : bin (b.take (k + 1)) x = bin (b.take k) x + (if b[k] < x then 1 else 0) := by
  unfold bin
  rw [List.take_succ_eq_append_getElem h, List.filter_append, List.length_append]
  congr 1
  by_cases hx : b[k] < x <;> simp [hx]
theorem bin_yes {b : List Int} {x : Int} {k : Nat} (h : k < b.length) (hx : b[k] < x) : bin (b.take (k + 1)) x = bin (b.take k) x + 1 := by rw [bin_take b x k h, if_pos hx]
theorem bin_no {b : List Int} {x : Int} {k : Nat} (h : k < b.length) (hx : ¬ b[k] < x) : bin (b.take (k + 1)) x = bin (b.take k) x := by rw [bin_take b x k h, if_neg hx]; rfl
theorem bin_le (b : List Int) (x : Int) : bin b x ≤ b.length := List.length_filter_le _ _
theorem bin_mono (b : List Int) {x y : Int} (h : x ≤ y) : bin b x ≤ bin b y := by
  unfold bin
  induction b with
  | nil => simp
  | cons a r ih =>
    simp only [List.filter_cons]
    by_cases h1 : a < x
    · have h2 : a < y := by omega
      simp [h1, h2]; omega
    · by_cases h2 : a < y <;> simp [h1, h2] <;> omega
def Srt (b : List Int) : Prop := b.Pairwise (fun x y => x < y)
theorem bin_none {b : List Int} {x : Int} (h : ∀ y ∈ b, ¬ y < x) : bin b x = 0 := by
  unfold bin
  rw [List.length_eq_zero_iff, List.filter_eq_nil_iff]
  intro y hy; simpa using h y hy
theorem bin_at {b : List Int} (hs : Srt b) (x : Int) : ∀ (n : Nat) (h : n < b.length), b[n] < x ↔ n < bin b x := by
  induction b with
  | nil => intro n h; simp at h
  | cons a r ih =>
    intro n h
    unfold Srt at hs
    rw [List.pairwise_cons] at hs
    by_cases ha : a < x
    · have e : bin (a :: r) x = bin r x + 1 := by unfold bin; simp [ha]
      rw [e]
      cases n with
      | zero => simp [ha]
      | succ n =>
        have := ih hs.2 n (by simpa using h)
        rw [List.getElem_cons_succ, this]; omega
    · have e : bin (a :: r) x = bin r x := by unfold bin; simp [ha]
      have e0 : bin r x = 0 := bin_none (fun y hy => by have := hs.1 y hy; omega)
      rw [e, e0]
      cases n with
      | zero => simp [ha]
      | succ n =>
        have hn : n < r.length := by simpa using h
        have := hs.1 r[n] (List.getElem_mem hn)
        rw [List.getElem_cons_succ]; omega
def bins (b l : List Int) : List Int := l.map fun x => (bin b x : Int)
theorem bins_length (b l : List Int) : (bins b l).length = l.length := by simp [bins]
theorem bins_get (b l : List Int) (j : Nat) (h : j < (bins b l).length) : (bins b l)[j] = (bin b (l[j]'(by rwa [bins_length] at h)) : Int) := by simp [bins]

/-- Each is less than the next, as far as the place k. -/
def Adj (b : List Int) (k : Nat) : Prop := ∀ j (h : j + 1 < b.length), j + 1 < k → b[j] < b[j + 1]
theorem adj_srt {b : List Int} (h : Adj b b.length) : Srt b := by
  unfold Srt
  rw [List.pairwise_iff_getElem]
  intro i j hi hj hij
  induction j with
  | zero => omega
  | succ j ih =>
    have h1 := h j hj hj
    by_cases e : i = j
    · subst e; exact h1
    · have := ih (by omega) (by omega); omega
theorem srt_adj {b : List Int} (h : Srt b) (k : Nat) : Adj b k := by
  intro j hj _
  exact (List.pairwise_iff_getElem.1 h) j (j + 1) (by omega) hj (by omega)
theorem adj_zero (b : List Int) : Adj b 0 := fun j _ h => by omega
theorem adj_one (b : List Int) : Adj b 1 := fun j _ h => by omega
theorem adj_succ {b : List Int} {k : Nat} (h : Adj b k) (hk : k < b.length) (hs : 0 < k → b[k - 1] < b[k]) : Adj b (k + 1) := by
  intro j hj hjk
  by_cases e : j + 1 = k
  · subst e; simpa using hs (by omega)
  · exact h j hj (by omega)
noncomputable def bok (b : List Int) : Bool := @decide (b.length ≤ 12 ∧ aok b = true ∧ Srt b) (Classical.propDecidable _)
theorem bok_iff {b : List Int} : bok b = true ↔ (b.length ≤ 12 ∧ aok b = true ∧ Srt b) := by unfold bok; simp
theorem bok_false {b : List Int} (h : ¬ (b.length ≤ 12 ∧ aok b = true ∧ Srt b)) : bok b = false := by
  cases e : bok b with
  | false => rfl
  | true => exact absurd (bok_iff.1 e) h
theorem bok_long {b : List Int} (h : 12 < b.length) : bok b = false := bok_false (fun hh => by omega)
theorem bok_bad {b : List Int} {j : Nat} (hj : j < b.length) (h : fok b[j] = false) : bok b = false := bok_false (fun hh => by rw [aok_at hh.2.1 j hj] at h; cases h)
theorem bok_nok {b : List Int} (h : aok b = false) : bok b = false := bok_false (fun hh => by rw [hh.2.1] at h; cases h)
theorem bok_fall {b : List Int} {j : Nat} (hj : j + 1 < b.length) (h : ¬ b[j] < b[j + 1]) : bok b = false := bok_false (fun hh => h (srt_adj hh.2.2 (j + 2) j hj (by omega)))
theorem bok_all {b : List Int} (h0 : b.length ≤ 12) (h1 : aok b = true) (h2 : Adj b b.length) : bok b = true := bok_iff.2 ⟨h0, h1, adj_srt h2⟩

/-- A number put into a rising list, where it is not there. -/
def ins : List Int → Int → List Int
  | [], x => [x]
  | y :: r, x => if y < x then y :: ins r x else if y = x then y :: r else x :: y :: r
theorem ins_mem (l : List Int) (x y : Int) : y ∈ ins l x ↔ y ∈ l ∨ y = x := by
  induction l with
  | nil => simp [ins]
  | cons a r ih =>
    unfold ins
    split
    · simp [ih, or_assoc]
    · split
      · rename_i e; subst e; simp; intro h; exact .inl h
      · simp only [List.mem_cons]
        constructor
        · rintro (h | h | h)
          · exact .inr h
          · exact .inl (.inl h)
          · exact .inl (.inr h)
        · rintro ((h | h) | h)
          · exact .inr (.inl h)
          · exact .inr (.inr h)
          · exact .inl h
theorem ins_srt {l : List Int} {x : Int} (h : Srt l) : Srt (ins l x) := by
  induction l with
  | nil => simp [ins, Srt]
  | cons a r ih =>
    unfold Srt at h ih ⊢
    rw [List.pairwise_cons] at h
    unfold ins
    split
    · rename_i hlt
      rw [List.pairwise_cons]
      refine ⟨fun y hy => ?_, ih h.2⟩
      rcases (ins_mem r x y).1 hy with hy | rfl
      · exact h.1 y hy
      · exact hlt
    · split
      · rw [List.pairwise_cons]; exact h
      · rw [List.pairwise_cons, List.pairwise_cons]
        refine ⟨fun y hy => ?_, h⟩
        simp only [List.mem_cons] at hy
        rcases hy with rfl | hy
        · omega
        · have := h.1 y hy; omega
/-- Where it is put: the place ahead of which all are less. -/
theorem ins_at {l : List Int} {x : Int} : ∀ (p : Nat), p ≤ l.length → (∀ j (h : j < l.length), j < p → l[j] < x) → (∀ h : p < l.length, ¬ l[p] < x) →
    ins l x = if (∃ h : p < l.length, l[p] = x) then l else l.take p ++ [x] ++ l.drop p := by
  induction l with
  | nil => intro p hp _ _; simp [ins]
  | cons a r ih =>
    intro p hp h1 h2
    cases p with
    | zero =>
      have h0 := h2 (by simp)
      simp only [List.getElem_cons_zero] at h0
      unfold ins
      rw [if_neg h0]
      by_cases e : a = x
      · rw [if_pos e, if_pos ⟨by simp, by simpa using e⟩]
      · rw [if_neg e, if_neg (by rintro ⟨_, e'⟩; exact e (by simpa using e'))]; simp
    | succ p =>
      have h0 := h1 0 (by simp) (by omega)
      simp only [List.getElem_cons_zero] at h0
      unfold ins
      rw [if_pos h0, ih p (by simpa using hp) (fun j h hj => by have := h1 (j + 1) (by simpa using h) (by omega); simpa using this) (fun h => by have := h2 (by simpa using h); simpa using this)]
      by_cases e : ∃ h : p < r.length, r[p] = x
      · rw [if_pos e, if_pos (by obtain ⟨h, e⟩ := e; exact ⟨by simpa using h, by simpa using e⟩)]
      · rw [if_neg e, if_neg (by rintro ⟨h, e'⟩; exact e ⟨by simpa using h, by simpa using e'⟩)]; simp
def srt (l : List Int) : List Int := l.foldl ins []
theorem srt_take {l : List Int} {k : Nat} (h : k < l.length) : srt (l.take (k + 1)) = ins (srt (l.take k)) l[k] := by
  unfold srt
  rw [List.take_succ_eq_append_getElem h, List.foldl_append]; rfl
theorem foldl_mem (l : List Int) : ∀ (m : List Int) (y : Int), y ∈ l.foldl ins m ↔ y ∈ m ∨ y ∈ l := by
  induction l with
  | nil => simp
  | cons a r ih => intro m y; rw [List.foldl_cons, ih, ins_mem]; simp only [List.mem_cons, or_assoc]
theorem foldl_srt (l : List Int) : ∀ (m : List Int), Srt m → Srt (l.foldl ins m) := by
  induction l with
  | nil => intro m h; exact h
  | cons a r ih => intro m h; exact ih _ (ins_srt h)
theorem srt_mem {l : List Int} {y : Int} : y ∈ srt l ↔ y ∈ l := by unfold srt; rw [foldl_mem]; simp
theorem srt_srt (l : List Int) : Srt (srt l) := foldl_srt l [] (by simp [Srt])
theorem ins_len (l : List Int) (x : Int) : (ins l x).length ≤ l.length + 1 := by
  induction l with
  | nil => simp [ins]
  | cons a r ih => unfold ins; split <;> (try split) <;> simp <;> omega
theorem foldl_len (l : List Int) : ∀ (m : List Int), (l.foldl ins m).length ≤ m.length + l.length := by
  induction l with
  | nil => simp
  | cons a r ih => intro m; rw [List.foldl_cons]; have := ih (ins m a); have := ins_len m a; simp only [List.length_cons]; omega
theorem srt_len (l : List Int) : (srt l).length ≤ l.length := by have := foldl_len l []; simpa [srt] using this
theorem srt_ext : ∀ {l m : List Int}, Srt l → Srt m → (∀ x, x ∈ l ↔ x ∈ m) → l = m
  | [], [], _, _, _ => rfl
  | [], b :: m, _, _, h => by have := (h b).2 (by simp); cases this
  | a :: l, [], _, _, h => by have := (h a).1 (by simp); cases this
  | a :: l, b :: m, hl, hm, h => by
    unfold Srt at hl hm
    rw [List.pairwise_cons] at hl hm
    have e : a = b := by
      rcases List.mem_cons.1 ((h a).1 (by simp)) with e | h1
      · exact e
      · rcases List.mem_cons.1 ((h b).2 (by simp)) with e | h2
        · exact e.symm
        · have := hm.1 a h1; have := hl.1 b h2; omega
    subst e
    congr 1
    refine srt_ext hl.2 hm.2 (fun x => ⟨fun hx => ?_, fun hx => ?_⟩)
    · rcases List.mem_cons.1 ((h x).1 (List.mem_cons_of_mem _ hx)) with e | h1
      · have := hl.1 x hx; omega
      · exact h1
    · rcases List.mem_cons.1 ((h x).2 (List.mem_cons_of_mem _ hx)) with e | h1
      · have := hm.1 x hx; omega
      · exact h1
theorem srt_uniq {l m : List Int} (hm : Srt m) (h : ∀ x, x ∈ m ↔ x ∈ l) : m = srt l := srt_ext hm (srt_srt l) (fun x => by rw [h x, srt_mem])

/-- The place of the j-th of the borders (from 0 on) among v of m. -/
def plc (m most j : Nat) : Nat := (j + 1) * m / (most + 1) - 1
theorem plc_pos {m most j : Nat} (h : most + 1 < m) : 0 < (j + 1) * m / (most + 1) := by
  apply Nat.div_pos _ (by omega)
  have : 1 * m ≤ (j + 1) * m := Nat.mul_le_mul_right _ (by omega)
  omega
theorem plc_le {m most j : Nat} (hj : j < most) : (j + 1) * m / (most + 1) ≤ m := by
  apply Nat.div_le_of_le_mul
  rw [Nat.mul_comm (most + 1) m, Nat.mul_comm (j + 1) m]
  exact Nat.mul_le_mul_left _ (by omega)
theorem plc_lt {m most j : Nat} (h : most + 1 < m) (hj : j < most) : (j + 1) * m / (most + 1) < m := by
  apply (Nat.div_lt_iff_lt_mul (by omega)).2
  rw [Nat.mul_comm m (most + 1)]
  exact Nat.mul_lt_mul_of_pos_right (by omega) (by omega)
theorem plc_step {m most i : Nat} (h : most + 1 < m) : (i + 1) * m / (most + 1) < (i + 1 + 1) * m / (most + 1) := by
  have e : (i + 1 + 1) * m = (i + 1) * m + m := by rw [Nat.succ_mul (i + 1)]
  have h1 : ((i + 1) * m + (most + 1)) / (most + 1) ≤ ((i + 1) * m + m) / (most + 1) := Nat.div_le_div_right (by omega)
  rw [Nat.add_div_right _ (by omega)] at h1
  rw [e]; omega
theorem plc_mono {m most : Nat} (h : most + 1 < m) : ∀ (j i : Nat), i < j → (i + 1) * m / (most + 1) < (j + 1) * m / (most + 1)
  | 0, i, hij => by omega
  | j + 1, i, hij => by
    have h1 := plc_step (i := j) h
    by_cases e : i = j
    · subst e; exact h1
    · have := plc_mono h j i (by omega); omega
def cut (v : List Int) (most : Nat) : List Int := if v.length ≤ most + 1 then v.take (v.length - 1) else (List.range most).map fun j => v.getD (plc v.length most j) 0
def bor (l : List Int) (most : Int) : List Int := if l.length ≤ 1000 ∧ 0 ≤ most ∧ most ≤ 12 ∧ aok l = true then cut (srt l) most.toNat else []
theorem cut_few {v : List Int} {most : Nat} (h : v.length ≤ most + 1) : cut v most = v.take (v.length - 1) := if_pos h
theorem cut_many {v : List Int} {most : Nat} (h : ¬ v.length ≤ most + 1) : cut v most = (List.range most).map fun j => v.getD (plc v.length most j) 0 := if_neg h
theorem cut_len (v : List Int) (most : Nat) : (cut v most).length ≤ most := by
  unfold cut; split
  · simp; omega
  · simp
theorem bor_yes {l : List Int} {most : Int} (h : l.length ≤ 1000 ∧ 0 ≤ most ∧ most ≤ 12 ∧ aok l = true) : bor l most = cut (srt l) most.toNat := if_pos h
theorem bor_no {l : List Int} {most : Int} (h : ¬ (l.length ≤ 1000 ∧ 0 ≤ most ∧ most ≤ 12 ∧ aok l = true)) : bor l most = [] := if_neg h
theorem bor_len12 (l : List Int) (most : Int) : (bor l most).length ≤ 12 := by
  by_cases h : l.length ≤ 1000 ∧ 0 ≤ most ∧ most ≤ 12 ∧ aok l = true
  · rw [bor_yes h]; have := cut_len (srt l) most.toNat; omega
  · rw [bor_no h]; simp
/-- Each of the borders is one of v that is not the last. -/
theorem cut_get {v : List Int} {most k : Nat} (h : k < (cut v most).length) : ∃ (p : Nat) (hp : p + 1 < v.length), (cut v most)[k] = v[p] := by
  by_cases hf : v.length ≤ most + 1
  · have e := cut_few hf
    have hk : k < (v.take (v.length - 1)).length := by rw [← e]; exact h
    simp only [List.length_take] at hk
    refine ⟨k, by omega, ?_⟩
    simp [e]
  · have e := cut_many hf
    have hk : k < most := by rw [e] at h; simpa using h
    have h1 := plc_pos (j := k) (show most + 1 < v.length by omega)
    have h2 := plc_lt (show most + 1 < v.length by omega) hk
    refine ⟨plc v.length most k, by unfold plc; omega, ?_⟩
    simp only [e, List.getElem_map, List.getElem_range]
    rw [List.getD_eq_getElem?_getD, List.getElem?_eq_getElem (by unfold plc; omega)]; rfl
theorem cut_srt {v : List Int} {most : Nat} (hv : Srt v) : Srt (cut v most) := by
  by_cases hf : v.length ≤ most + 1
  · rw [cut_few hf]; exact List.Pairwise.take hv
  · unfold Srt
    rw [List.pairwise_iff_getElem]
    intro i j hi hj hij
    have hm : most + 1 < v.length := by omega
    have e := cut_many hf
    have hi' : i < most := by rw [e] at hi; simpa using hi
    have hj' : j < most := by rw [e] at hj; simpa using hj
    have hpi := plc_pos (j := i) hm
    have hpj := plc_lt hm hj'
    have hlt := plc_mono hm j i hij
    have hki : plc v.length most i < v.length := by unfold plc; omega
    have hkj : plc v.length most j < v.length := by unfold plc; omega
    simp only [e, List.getElem_map, List.getElem_range]
    rw [List.getD_eq_getElem?_getD, List.getElem?_eq_getElem hki, List.getD_eq_getElem?_getD, List.getElem?_eq_getElem hkj]
    simp only [Option.getD_some]
    exact (List.pairwise_iff_getElem.1 hv) _ _ hki hkj (by unfold plc; omega)
theorem bor_bok (l : List Int) (most : Int) : bok (bor l most) = true := by
  rw [bok_iff]
  refine ⟨bor_len12 l most, ?_, ?_⟩
  · by_cases h : l.length ≤ 1000 ∧ 0 ≤ most ∧ most ≤ 12 ∧ aok l = true
    · rw [bor_yes h]
      refine aok_to (fun j hj => ?_)
      obtain ⟨p, hp, e⟩ := cut_get hj
      rw [e]
      exact aok_iff.1 h.2.2.2 _ (srt_mem.1 (List.getElem_mem (by omega)))
    · rw [bor_no h]; rfl
  · by_cases h : l.length ≤ 1000 ∧ 0 ≤ most ∧ most ≤ 12 ∧ aok l = true
    · rw [bor_yes h]; exact cut_srt (srt_srt l)
    · rw [bor_no h]; simp [Srt]
theorem bor_yes_of {l : List Int} {most : Int} (h : ¬ (bor l most).length = 0) : l.length ≤ 1000 ∧ 0 ≤ most ∧ most ≤ 12 ∧ aok l = true := by
  apply Classical.byContradiction
  intro hh
  exact h (by rw [bor_no hh]; rfl)
theorem bor_mem {l : List Int} {most : Int} {k : Nat} (h : k < (bor l most).length) : (bor l most)[k] ∈ l := by
  have hh := bor_yes_of (l := l) (most := most) (by omega)
  have e := bor_yes hh
  obtain ⟨p, hp, e'⟩ := cut_get (v := srt l) (most := most.toNat) (k := k) (by rw [← e]; exact h)
  simp only [e, e']
  exact srt_mem.1 (List.getElem_mem (by omega))
/-- None of the borders is the greatest. -/
theorem bor_top {l : List Int} {most : Int} {k : Nat} (h : k < (bor l most).length) {t : Int} (ht : ∀ x ∈ l, x ≤ t) : (bor l most)[k] < t := by
  have hh := bor_yes_of (l := l) (most := most) (by omega)
  have e := bor_yes hh
  obtain ⟨p, hp, e'⟩ := cut_get (v := srt l) (most := most.toNat) (k := k) (by rw [← e]; exact h)
  simp only [e, e']
  have h1 := (List.pairwise_iff_getElem.1 (srt_srt l)) p (p + 1) (by omega) hp (by omega)
  have h2 := ht _ (srt_mem.1 (List.getElem_mem hp))
  omega
theorem bor_most {l : List Int} {most : Int} (h : ¬ (bor l most).length = 0) : ((bor l most).length : Int) ≤ most := by
  have hh := bor_yes_of h
  rw [bor_yes hh]
  have := cut_len (srt l) most.toNat
  omega
theorem srt_map (l : List Int) (d : Int) : srt (l.map (· + d)) = (srt l).map (· + d) := by
  symm
  refine srt_uniq ?_ (fun x => ?_)
  · unfold Srt
    rw [List.pairwise_map]
    exact (srt_srt l).imp (fun h => by omega)
  · simp only [List.mem_map, srt_mem]
theorem cut_map (v : List Int) (most : Nat) (d : Int) : cut (v.map (· + d)) most = (cut v most).map (· + d) := by
  by_cases hf : v.length ≤ most + 1
  · rw [cut_few (by simpa using hf), cut_few hf, List.map_take]; simp
  · rw [cut_many (by simpa using hf), cut_many hf, List.map_map]
    apply List.map_congr_left
    intro j hj
    have hj' : j < most := by simpa using hj
    have hm : most + 1 < v.length := by omega
    have hpj := plc_lt hm hj'
    have hkj : plc v.length most j < v.length := by unfold plc; omega
    simp [List.getD_eq_getElem?_getD, List.getElem?_eq_getElem hkj]
theorem bor_map {l : List Int} {most : Int} (d : Int) (h : l.length ≤ 1000 ∧ 0 ≤ most ∧ most ≤ 12 ∧ aok l = true) (h' : aok (l.map (· + d)) = true) : bor (l.map (· + d)) most = (bor l most).map (· + d) := by
  rw [bor_yes (l := l.map _) ⟨by simpa using h.1, h.2.1, h.2.2.1, h'⟩, bor_yes h, srt_map, cut_map]
end Go.Proofs.YtifemdjookmboaaGreatDoor.Bo
