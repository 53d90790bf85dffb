/-
  What the model draws for borders: a list with how many borders; borders with a number.
-/
import Derived.Test.YtjkmajfnpcdklaaDrawN
namespace Go.Proofs.Ytjkmajfnpcdklaa.Dn
open Go.RowKit
open Go.Proofs.Ytjkmajfnpcdklaa.Li Go.Proofs.Ytjkmajfnpcdklaa.Bo Go.Proofs.Ytjkmajfnpcdklaa.Ai Go.Proofs.Ytjkmajfnpcdklaa.Bs
theorem own_drew {w : World} {B : Nat} {v : Value} {xs : List Int} (h : Own w B v xs) : Own w.drew B v xs := h
theorem own_alloc {w : World} {B : Nat} {v : Value} {xs : List Int} (h : Own w B v xs) (o : Obj) : Own (w.alloc o) B v xs := World.ownsRow.alloc h _
theorem pick_pos (w : World) (b : Nat) (K : Int) (hc : Cu.Cur w b K) (hK : K ≤ 1000000000000000000) (n : Int) (h1 : 1 ≤ n) (hn' : n ≤ 1000000000000000000) :
    Calls Try.prog 22 #[.pointer (some ⟨b, 0, none⟩), .int .i64 n] w fun e w' => ∃ x : Int, e = .returned (.int .i64 x) ∧ 0 ≤ x ∧ x < n ∧ w.grownBy w' (some b) ∧ w'.heap.size = w.heap.size ∧ Cu.Cur w' b (K + 1) := by
  by_cases hn : n < 2
  · refine (Cu.pick_lt w b n hn).mono ?_
    rintro e w' ⟨rfl, rfl⟩
    exact ⟨0, rfl, by omega, by omega, Cu.grown_refl _ _, rfl, hc.mono (by omega)⟩
  · refine (Cu.pick_any w b K hc hK n hn').mono ?_
    rintro e w' ⟨x, rfl, x0, x1, r⟩
    exact ⟨x, rfl, x0, x1 (by omega), r⟩
set_option maxRecDepth 100000 in
set_option maxHeartbeats 8000000 in
theorem drawBin_any (w : World) (a : Option Addr) (len cap : Nat) (hB : Cu.Bytes w w.heap.size a len) (hl : (len : Int) ≤ 1048576) :
    Calls Try.prog 8 #[.slice a len cap] w fun e w' => ∃ v xs, ∃ y : Int, e = .returned (.tuple #[v, .int .i64 y]) ∧ xs.length ≤ 12 ∧ Own w' w.heap.size v xs ∧ Below w.heap.size w w' := by
  go_enter Try.func8, Try.ntmps8
  go_wp2_with fail
  refine (Cu.open_any _ _ _ _ hB hl).mono ?_
  rintro e w1 ⟨rfl, hg, hc⟩
  go_wp2_with fail
  refine (numbers_any _ _ _ hc (by omega) (by omega)).mono ?_
  rintro e w2 ⟨vl, ls, rfl, hll, ho2, hg2, hc2⟩
  have ho2 := ho2.mono (base' := w.heap.size + 1) hc.lt
  have hbb : w.heap.size < w.heap.size + 1 := Nat.lt_succ_self _
  have hg := Cu.grown_trans hg hg2
  clear hg2 hc
  go_wp2_with fail
  refine (Cu.pick_any _ _ _ hc2 (by omega) _ (by omega)).mono ?_
  rintro e w3 ⟨p, rfl, p0, p1, hg3, hz3, hc3⟩
  have p2 := p1 (by omega)
  have ho2 := own_cur ho2 hg3 hbb
  have hg := Cu.grown_trans hg hg3
  clear hg3 hz3 hc2 p1
  obtain ⟨al, cl, rfl, il⟩ := ho2.isl
  go_wp2_with fail
  refine (sbor _ _ _ ls _ il (by omega)).mono ?_
  rintro e w4 ⟨vb, rfl, ho4, hB4⟩
  have hb12 := bor_len12 ls (1 + p)
  obtain ⟨bs, hbs⟩ : ∃ bs, bor ls (1 + p) = bs := ⟨_, rfl⟩
  rw [hbs] at ho4 hb12
  have ho4 := ho4.mono (base' := w.heap.size + 1) hc3.lt
  have hg := grown_of_below hg hB4
  have hc4 := hc3.kept hB4.size (fun k hk => hB4.block k hk)
  have hBw : Below w.heap.size w w4 := Cu.grown_below hg (Nat.le_refl _) (Nat.le_refl _)
  have hlt4 : w.heap.size < w4.heap.size := hc4.lt
  obtain ⟨ab, cb, rfl, ib⟩ := ho4.isl
  have HB12 : Hid (bs.length ≤ 12) := hb12
  clear hbs hB4 hc3 il ho2 hg
  by_cases hn : 0 < bs.length
  · have hni : (0 : Int) < (bs.length : Int) := by omega
    go_wp2_with fail
    refine (Cu.pick_any _ _ _ hc4 (by omega) _ (by omega)).mono ?_
    rintro e w5 ⟨q, rfl, q0, q1, hg5, hz5, hc5⟩
    have q2 := q1 (by omega)
    have ho5 := own_cur ho4 hg5 hbb
    have hBw := bel hBw hg5 (by omega)
    have hlt5 : w.heap.size < w5.heap.size := hc5.lt
    clear hg5 hz5 q1 hc4 ho4 ib
    by_cases hq : q = 0
    · subst hq
      have hnn : ¬ bs = [] := fun e => by rw [e] at hn; simp at hn
      obtain ⟨g, hab, hg0, hg1, rd⟩ : ∃ g, ab = some ⟨g, 0, none⟩ ∧ w.heap.size < g ∧ g < w5.heap.size ∧ ∀ u : Int, 0 ≤ u → u < (bs.length : Int) → ∃ t : Int, w5.cell? ⟨g, u.toNat, none⟩ = some (.int .i64 t) := by
        have hge := ho5.ge
        have ho5' := ho5
        rcases ho5.2 with ⟨e, h0⟩ | ⟨g, c, cur, e, hb, hh, _⟩
        · omega
        · injection e with e1 _ _
          refine ⟨g, e1, by omega, (Array.getElem?_eq_some_iff.1 hh).1, fun u u0 u1 => ?_⟩
          subst e1
          exact ⟨_, ho5'.cell rfl u.toNat (by omega)⟩
      subst hab
      have HO5 : Hid (Own w5 (w.heap.size + 1) (.slice (some ⟨g, 0, none⟩) bs.length cb) bs) := ho5
      clear ho5 hnn
      go_wp2_with fail
      go_region_with (first | (go_at_call_of 22 (Value.int .i64 3); refine (Cu.pick_any _ _ _ (by first | assumption | exact Cu.Cur.drew (by assumption)) (by omega) _ (by omega)).mono ?_; rintro e w7 ⟨z, rfl, z0, z1, hg7, hz7, hc7⟩; have z2 := z1 (by omega); have hk7 := kept hg7; have hz7' := Nat.le_of_eq hz7.symm; have hz7'' := Nat.le_of_eq hz7; try simp at hz7'; try simp at hz7''; try simp at hk7; have hlt7 : w.heap.size < w7.heap.size := hc7.lt; have hgl7 : g < w7.heap.size := (by omega); clear hz7 z1) | (go_at_call_of 22 (Value.int .i64 bs.length); refine (pick_pos _ _ _ (by first | assumption | exact Cu.Cur.drew (by assumption)) (by omega) _ (by omega) (by omega)).mono ?_; rintro e w6 ⟨u, rfl, u0, u1, hg6, hz6, hc6⟩; obtain ⟨t, ht⟩ := rd u u0 u1; have hk6 := kept hg6; have hz6' := Nat.le_of_eq hz6.symm; have hz6'' := Nat.le_of_eq hz6; try simp at hz6'; try simp at hz6''; try simp at hk6; have hlt6 : w.heap.size < w6.heap.size := hc6.lt; have hgl6 : g < w6.heap.size := (by omega); have ht6 : w6.cell? ⟨g, u.toNat, none⟩ = some (.int .i64 t) := (by first | (rw [hk6 _ _ hg0 (by omega)]; exact ht) | (rw [hk6 _ _ hg0 (by omega), hk7 _ _ hg0 (by omega)]; exact ht)); clear hz6 hk6 ht))
      all_goals go_wp2
      all_goals go_ret2
      all_goals refine ⟨_, bs, _, rfl, HB12.out, Own.mono (base := w.heap.size + 1) ?_ (by omega), ?_⟩
      all_goals repeat (first | exact HO5.out | exact hBw | (refine bel ?_ hg7 (by first | omega | (simp; omega))) | (refine bel ?_ hg6 (by first | omega | (simp; omega))) | refine Below.drew ?_ | refine own_cur ?_ hg7 hbb | refine own_cur ?_ hg6 hbb | refine own_drew ?_)
    · have hqb : (q == 0) = false := by simpa using hq
      go_wp2_with fail
      refine (Cu.rawFix_any _ _ _ hc5 (by omega)).mono ?_
      rintro e w6 ⟨y, rfl, y0, y1, hg6, hc6⟩
      go_wp2
      go_ret2
      exact ⟨_, bs, y, rfl, HB12.out, (own_cur ho5 hg6 hbb).mono (by omega), bel hBw hg6 (by omega)⟩
  · have hni : decide ((0 : Int) < (bs.length : Int)) = false := decide_eq_false (by omega)
    have hni' : decide (0 < bs.length) = false := decide_eq_false hn
    go_wp2_with fail
    refine (Cu.rawFix_any _ _ _ hc4 (by omega)).mono ?_
    rintro e w6 ⟨y, rfl, y0, y1, hg6, hc6⟩
    go_wp2
    go_ret2
    exact ⟨_, bs, y, rfl, HB12.out, (own_cur ho4 hg6 hbb).mono (by omega), bel hBw hg6 (by omega)⟩
end Go.Proofs.Ytjkmajfnpcdklaa.Dn
