/-
  Inverse and Through of the program and of the model: of an order the inverse, the list mixed through it; of what is none, nothing. What they answer lies in new memory; old memory stays.
-/
import Derived.Test.YthmenbfcjiehdaaPermW
namespace Go.Proofs.Ythmenbfcjiehdaa.It
open Go.RowKit
open Go.Proofs.Ythmenbfcjiehdaa.Li Go.Proofs.Ythmenbfcjiehdaa.Pe Go.Proofs.Ythmenbfcjiehdaa.Pw

/-- The inverse as far as it is filled. -/
def Fill (xs l : List Int) (k : Nat) : Prop := ∀ j (hj : j < xs.length), j < k → l[xs[j].toNat]? = some (j : Int)
theorem fill_succ {xs l : List Int} {k : Nat} (hp : POk xs) (h : Fill xs l k) (hl : l.length = xs.length) (hk : k < xs.length) : Fill xs (l.set xs[k].toNat (k : Int)) (k + 1) := by
  intro j hj hjk
  have hr := hp.rng k hk
  have hr' := hp.rng j hj
  rw [List.getElem?_set]
  by_cases e : j = k
  · subst e
    rw [if_pos rfl, if_pos (by omega)]
  · rw [if_neg (by intro h'; exact e (hp.inj j k hj hk (by omega)))]
    exact h j hj (by omega)
theorem fill_inv {xs l : List Int} (h : Fill xs l xs.length) (hl : l.length = xs.length) : IsInv xs l := ⟨hl, fun j hj => h j hj hj⟩
theorem thr_take {xs ls : List Int} {k : Nat} (hk : k < xs.length) (hp : xs[k].toNat < ls.length) : (thr xs ls).take (k + 1) = (thr xs ls).take k ++ [ls[xs[k].toNat]] := by
  rw [List.take_succ_eq_append_getElem (by rw [thr_length]; exact hk), thr_get k hk hp]
theorem thr_like {xs ls l : List Int} {k : Nat} (h : Like l (thr xs ls) k) (hk : k < xs.length) (hl : l.length = xs.length) (hp : xs[k].toNat < ls.length) : Like (l.set k ls[xs[k].toNat]) (thr xs ls) (k + 1) := by
  have := like_set h (by rw [thr_length]; exact hk) (by rw [thr_length]; exact hl)
  rwa [thr_get k hk hp] at this
theorem one_cell (w : World) (T : TypeId) (x : Int) : ∀ j u, ([Value.int .i64 x] : List Value)[j]? = some u → (w.alloc (.cells #[.int .i64 x] T)).cell? ((⟨w.heap.size, 0, none⟩ : Addr).add j) = some u := by
  intro j u hj
  match j, hj with
  | 0, hj => simp at hj; subst hj; simp [Addr.add]
theorem one_one (x : Int) : ∀ u ∈ ([Value.int .i64 x] : List Value), u.oneCell' = true := by
  intro u hu; simp at hu; subst hu; rfl
theorem own_snoc {w : World} {base n : Nat} {v : Value} {l : List Int} {x : Int} (hn : l.length = n) (h : w.ownsRow base 3 1 v (n + 1) (iv l ++ [.int .i64 x])) : Own w base v (l ++ [x]) := by
  subst hn
  unfold Own
  rw [← iv_append, List.length_append]
  exact h
theorem own_empty (w : World) (base : Nat) (hb : base ≤ w.heap.size) : Own (w.alloc (.cells #[] 3)) base (.slice (some ⟨w.heap.size, 0, none⟩) 0 0) [] :=
  World.ownsRow_made w #[] 0 hb (by unfold maxLen; omega) (by simp)

set_option maxHeartbeats 1000000 in
theorem iinv_no (w : World) (a : Option Addr) (cap : Nat) (xs : List Int) (hx : IsL w a xs) (hl : xs.length ≤ 10000000) (hp : pok xs = false) :
    Calls Try.prog 22 #[.slice a xs.length cap] w fun e w' => ∃ v, e = .returned v ∧ Own w' w.heap.size v [] ∧ Below w.heap.size w w' := by
  go_enter Try.func22, Try.ntmps22
  go_wp2_with (go_at_call 18; refine (ipok_any _ _ _ xs hx hl).mono ?_; rintro e w1 ⟨rfl, hB⟩)
  go_ret
  exact ⟨_, rfl, Own.nil _ _, by assumption⟩
set_option maxHeartbeats 1000000 in
theorem iinv_yes (w : World) (a : Option Addr) (cap : Nat) (xs : List Int) (hx : IsL w a xs) (hp : POk xs) :
    Calls Try.prog 22 #[.slice a xs.length cap] w fun e w' => ∃ v ys, e = .returned v ∧ IsInv xs ys ∧ Own w' w.heap.size v ys ∧ Below w.heap.size w w' := by
  obtain ⟨i0, hi, hz0, hz1, hz2⟩ := info_parts info_int
  have hpt := pok_true hp
  have hl := hp.1
  go_enter Try.func22, Try.ntmps22
  go_wp2_with fail
  refine (ipok_any _ _ _ xs hx (by omega)).mono ?_
  rintro e w1 ⟨rfl, hB0⟩
  have hs1 := hB0.size
  go_wp2_with (at_make; refine wpList_make_full _ rfl _ _ 28 rfl w.heap.size 3 i0 (.int .i64 0) 1 Try.underlying28 hi hz0 hz1 _ _ _ _ xs.length rfl rfl (by omega) (by omega) (by rw [hz2]; omega) (by unfold maxLen; omega) hs1 ?_; intro w2 hown hgrow)
  have hown' := own_made hown
  have hB1 : Below w.heap.size w w2 := hB0.trans ((below_none hgrow).mono hs1)
  clear hown hgrow hB0
  go_loopw [14] (fun i wr => ∃ k : Nat, k ≤ xs.length ∧ i = .int .i64 k ∧ ∃ l : List Int, l.length = xs.length ∧ Fill xs l k ∧ Own wr w.heap.size (.slice (some ⟨w1.heap.size, 0, none⟩) xs.length xs.length) l ∧ Below w.heap.size w wr) (fun i _ => xs.length - (intOf i).toNat)
  case atStart => exact ⟨0, Nat.zero_le _, rfl, _, by simp, fun j _ hj => by omega, hown', hB1⟩
  case round =>
    obtain ⟨k, hk, rfl, l, hll, hfill, hown, hB⟩ := hrel
    by_cases hlt : k < xs.length
    · rcases hx with rfl | ⟨b, off, rfl, hb, hc⟩
      · simp at hlt
      · have hcx : wr.cell? ⟨b, off + k, none⟩ = some (.int .i64 xs[k]) := (hB.cell (by exact hb)).trans (hc k hlt)
        have HL : Hid (Fill xs (l.set xs[k].toNat (k : Int)) (k + 1)) := fill_succ hp hfill hll hlt
        have HO : Hid (Own wr w.heap.size (.slice (some ⟨w1.heap.size, 0, none⟩) xs.length xs.length) l) := hown
        have hr := hp.rng k hlt
        obtain ⟨x, hx⟩ : ∃ x, xs[k] = x := ⟨_, rfl⟩
        rw [hx] at hcx HL hr
        obtain ⟨r0, r1⟩ := hr
        have hcl := hown.cell hll x.toNat (by omega)
        have hcf := hown.frozen hll x.toNat
        clear hown hfill hc hx
        go_wp2
        go_roundw
        case rel => exact ⟨k + 1, by omega, by go_num, _, by simpa using hll, HL.out, HO.out.set hll x.toNat _, hB.setCell (p := ⟨w1.heap.size, x.toNat, none⟩) hs1 _⟩
        case measure => simp [intOf]; omega
    · obtain rfl : k = xs.length := by omega
      have HI : Hid (IsInv xs l) := fill_inv hfill hll
      go_wp2
      go_ret
      exact ⟨_, l, rfl, HI.out, hown, hB⟩
set_option maxHeartbeats 1000000 in
theorem sthr_no (w : World) (a b : Option Addr) (ca cb : Nat) (xs ls : List Int) (hx : IsL w a xs) (hl : xs.length ≤ 10000000) (_hl' : ls.length ≤ 10000000) (hp : pok xs = false ∨ ¬ xs.length = ls.length) :
    Calls Try.prog 23 #[.slice a xs.length ca, .slice b ls.length cb] w fun e w' => ∃ v, e = .returned v ∧ Own w' w.heap.size v [] ∧ Below w.heap.size w w' := by
  have hx1 : IsL (w.alloc (.cells #[] 3)) a xs := hx.below ((Below.refl _ _).alloc (Nat.le_refl _) _)
  by_cases hf : pok xs = true
  · have hne : ((xs.length : Int) != (ls.length : Int)) = true := by
      rcases hp with h | h
      · rw [h] at hf; cases hf
      · simp; omega
    go_enter Try.func23, Try.ntmps23
    go_wp2_with (go_at_call 20; refine (spok_any _ _ _ xs hx1 hl).mono ?_; rintro e w1 ⟨rfl, n1, rfl⟩)
    go_ret
    exact ⟨_, rfl, own_empty _ _ (Nat.le_refl _), below_drewN ((Below.refl _ _).alloc (Nat.le_refl _) _) _⟩
  · have hf' : pok xs = false := by simpa using hf
    go_enter Try.func23, Try.ntmps23
    go_wp2_with (go_at_call 20; refine (spok_any _ _ _ xs hx1 hl).mono ?_; rintro e w1 ⟨rfl, n1, rfl⟩)
    go_ret
    exact ⟨_, rfl, own_empty _ _ (Nat.le_refl _), below_drewN ((Below.refl _ _).alloc (Nat.le_refl _) _) _⟩
set_option maxHeartbeats 1000000 in
theorem sthr_yes (w : World) (a b : Option Addr) (ca cb : Nat) (xs ls : List Int) (hx : IsL w a xs) (hy : IsL w b ls) (hp : POk xs) (he : xs.length = ls.length) :
    Calls Try.prog 23 #[.slice a xs.length ca, .slice b ls.length cb] w fun e w' => ∃ v, e = .returned v ∧ Own w' w.heap.size v (thr xs ls) ∧ Below w.heap.size w w' := by
  obtain ⟨i0, hi, hz0, hz1, hz2⟩ := info_parts info_int
  have hx1 : IsL (w.alloc (.cells #[] 3)) a xs := hx.below ((Below.refl _ _).alloc (Nat.le_refl _) _)
  have hpt := pok_true hp
  have hl := hp.1
  have hne : ((xs.length : Int) != (ls.length : Int)) = false := by simp; omega
  have HE : Hid (xs.length = ls.length) := he
  clear he
  go_enter Try.func23, Try.ntmps23
  go_wp2_with (go_at_call 20; refine (spok_any _ _ _ xs hx1 (by omega)).mono ?_; rintro e w1 ⟨rfl, n1, rfl⟩)
  go_loopw [5, 6] (fun v i wr => ∃ k : Nat, k ≤ xs.length ∧ i = .int .i64 k ∧ Own wr w.heap.size v ((thr xs ls).take k) ∧ Below w.heap.size w wr) (fun _ i _ => xs.length - (intOf i).toNat)
  case atStart => exact ⟨0, Nat.zero_le _, rfl, own_empty _ _ (Nat.le_refl _), below_drewN ((Below.refl _ _).alloc (Nat.le_refl _) _) _⟩
  case round =>
    obtain ⟨k, hk, rfl, hown, hB⟩ := hrel
    have hsz := hB.size
    have htl : ((thr xs ls).take k).length = k := by rw [List.length_take, thr_length]; omega
    by_cases hlt : k < xs.length
    · rcases hx with rfl | ⟨xb, xo, rfl, hxb, hxc⟩
      · simp at hlt
      · rcases hy with rfl | ⟨yb, yo, rfl, hyb, hyc⟩
        · have := HE.out; simp at this; simp [this] at hlt
        · have hcx : wr.cell? ⟨xb, xo + k, none⟩ = some (.int .i64 xs[k]) := (hB.cell (by exact hxb)).trans (hxc k hlt)
          have hr := hp.rng k hlt
          have HT := thr_take hlt (ls := ls) (by have := HE.out; omega)
          have hcy : wr.cell? ⟨yb, yo + xs[k].toNat, none⟩ = some (.int .i64 (ls[xs[k].toNat]'(by have := HE.out; omega))) := (hB.cell (by exact hyb)).trans (hyc _ _)
          obtain ⟨y, hy⟩ : ∃ y, ls[xs[k].toNat]'(by have := HE.out; omega) = y := ⟨_, rfl⟩
          rw [hy] at HT hcy
          obtain ⟨x, hx⟩ : ∃ x, xs[k] = x := ⟨_, rfl⟩
          rw [hx] at hcx hcy hr
          obtain ⟨r0, r1⟩ := hr
          have r2 : x < (ls.length : Int) := by have := HE.out; omega
          have HT' : Hid ((thr xs ls).take (k + 1) = (thr xs ls).take k ++ [y]) := HT
          clear HT hx hy hxc hyc
          go_wp2_with (at_builtin; refine wpList_append_own _ rfl _ _ 28 rfl w.heap.size 3 i0 (.int .i64 0) 1 8 Try.underlying28 hi hz0 hz1 hz2 rfl (by decide) _ _ _ rfl (World.ownsRow.alloc hown _) ⟨wr.heap.size, 0, none⟩ 1 1 [.int .i64 y] rfl rfl (one_cell _ _ _) (one_one _) (by unfold maxLen; omega) (by omega) (by simp; omega) ?_)
          intro v' w2 hown' hgrow hnn
          clear hnn
          have ho2 : Own w2 w.heap.size v' ((thr xs ls).take (k + 1)) := by rw [HT'.out]; exact own_snoc htl hown'
          have hB2 : Below w.heap.size w w2 := (hB.alloc hsz _).grown hgrow (by simp; omega) (fun g hg => (World.ownsRow.lt hown g hg).1)
          clear hown' hgrow hown
          go_wp2
          go_roundw
          case rel => exact ⟨k + 1, by omega, by go_num, ho2, hB2⟩
          case measure => simp [intOf]; omega
    · obtain rfl : k = xs.length := by omega
      have HO : Hid (Own wr w.heap.size u5 (thr xs ls)) := by
        have e : (thr xs ls).take xs.length = thr xs ls := List.take_of_length_le (by rw [thr_length]; omega)
        rw [e] at hown
        exact hown
      clear hown
      go_wp2
      go_ret
      exact ⟨_, rfl, HO.out, hB⟩
set_option maxHeartbeats 1000000 in
theorem ithr_no (w : World) (a b : Option Addr) (ca cb : Nat) (xs ls : List Int) (hx : IsL w a xs) (hl : xs.length ≤ 10000000) (_hl' : ls.length ≤ 10000000) (hp : pok xs = false ∨ ¬ xs.length = ls.length) :
    Calls Try.prog 21 #[.slice a xs.length ca, .slice b ls.length cb] w fun e w' => ∃ v, e = .returned v ∧ Own w' w.heap.size v [] ∧ Below w.heap.size w w' := by
  by_cases hf : pok xs = true
  · have hne : ((ls.length : Int) != (xs.length : Int)) = true := by
      rcases hp with h | h
      · rw [h] at hf; cases hf
      · simp; omega
    go_enter Try.func21, Try.ntmps21
    go_wp2_with (go_at_call 18; refine (ipok_any _ _ _ xs hx hl).mono ?_; rintro e w1 ⟨rfl, hB⟩)
    go_ret
    exact ⟨_, rfl, Own.nil _ _, by assumption⟩
  · have hf' : pok xs = false := by simpa using hf
    go_enter Try.func21, Try.ntmps21
    go_wp2_with (go_at_call 18; refine (ipok_any _ _ _ xs hx hl).mono ?_; rintro e w1 ⟨rfl, hB⟩)
    go_ret
    exact ⟨_, rfl, Own.nil _ _, by assumption⟩
set_option maxHeartbeats 1000000 in
theorem ithr_yes (w : World) (a b : Option Addr) (ca cb : Nat) (xs ls : List Int) (hx : IsL w a xs) (hy : IsL w b ls) (hp : POk xs) (he : xs.length = ls.length) :
    Calls Try.prog 21 #[.slice a xs.length ca, .slice b ls.length cb] w fun e w' => ∃ v, e = .returned v ∧ Own w' w.heap.size v (thr xs ls) ∧ Below w.heap.size w w' := by
  obtain ⟨i0, hi, hz0, hz1, hz2⟩ := info_parts info_int
  have hpt := pok_true hp
  have hl := hp.1
  have hne : ((ls.length : Int) != (xs.length : Int)) = false := by simp; omega
  have HE : Hid (xs.length = ls.length) := he
  clear he
  go_enter Try.func21, Try.ntmps21
  go_wp2_with fail
  refine (ipok_any _ _ _ xs hx (by omega)).mono ?_
  rintro e w1 ⟨rfl, hB0⟩
  have hs1 := hB0.size
  go_wp2_with (at_make; refine wpList_make_full _ rfl _ _ 28 rfl w.heap.size 3 i0 (.int .i64 0) 1 Try.underlying28 hi hz0 hz1 _ _ _ _ xs.length rfl rfl (by omega) (by omega) (by rw [hz2]; omega) (by unfold maxLen; omega) hs1 ?_; intro w2 hown hgrow)
  have hown' := own_made hown
  have hB1 : Below w.heap.size w w2 := hB0.trans ((below_none hgrow).mono hs1)
  clear hown hgrow hB0
  go_loopw [23] (fun i wr => ∃ k : Nat, k ≤ xs.length ∧ i = .int .i64 k ∧ ∃ l : List Int, l.length = xs.length ∧ Like l (thr xs ls) k ∧ Own wr w.heap.size (.slice (some ⟨w1.heap.size, 0, none⟩) xs.length xs.length) l ∧ Below w.heap.size w wr) (fun i _ => xs.length - (intOf i).toNat)
  case atStart => exact ⟨0, Nat.zero_le _, rfl, _, by simp, fun j hj => by omega, hown', hB1⟩
  case round =>
    obtain ⟨k, hk, rfl, l, hll, hlike, hown, hB⟩ := hrel
    by_cases hlt : k < xs.length
    · rcases hx with rfl | ⟨xb, xo, rfl, hxb, hxc⟩
      · simp at hlt
      · rcases hy with rfl | ⟨yb, yo, rfl, hyb, hyc⟩
        · have := HE.out; simp at this; simp [this] at hlt
        · have hcx : wr.cell? ⟨xb, xo + k, none⟩ = some (.int .i64 xs[k]) := (hB.cell (by exact hxb)).trans (hxc k hlt)
          have hr := hp.rng k hlt
          have HT := thr_like hlike hlt hll (by have := HE.out; omega)
          have hcy : wr.cell? ⟨yb, yo + xs[k].toNat, none⟩ = some (.int .i64 (ls[xs[k].toNat]'(by have := HE.out; omega))) := (hB.cell (by exact hyb)).trans (hyc _ _)
          obtain ⟨y, hy⟩ : ∃ y, ls[xs[k].toNat]'(by have := HE.out; omega) = y := ⟨_, rfl⟩
          rw [hy] at HT hcy
          obtain ⟨x, hx⟩ : ∃ x, xs[k] = x := ⟨_, rfl⟩
          rw [hx] at hcx hcy hr
          obtain ⟨r0, r1⟩ := hr
          have r2 : x < (ls.length : Int) := by have := HE.out; omega
          have HT' : Hid (Like (l.set k y) (thr xs ls) (k + 1)) := HT
          have HO : Hid (Own wr w.heap.size (.slice (some ⟨w1.heap.size, 0, none⟩) xs.length xs.length) l) := hown
          have hcl := hown.cell hll k (by omega)
          have hcf := hown.frozen hll k
          clear HT hx hy hxc hyc hown hlike
          go_wp2
          go_roundw
          case rel => exact ⟨k + 1, by omega, by go_num, _, by simpa using hll, HT'.out, HO.out.set hll k _, hB.setCell (p := ⟨w1.heap.size, k, none⟩) hs1 _⟩
          case measure => simp [intOf]; omega
    · obtain rfl : k = xs.length := by omega
      have HO : Hid (Own wr w.heap.size (.slice (some ⟨w1.heap.size, 0, none⟩) xs.length xs.length) (thr xs ls)) := by
        have e := like_all (xs := thr xs ls) (by rw [thr_length]; exact hlike) (by rw [thr_length]; exact hll)
        rw [← e]; exact hown
      clear hown hlike
      go_wp2
      go_ret
      exact ⟨_, rfl, HO.out, hB⟩

/-- What both answer for the inverse. -/
def InvR (xs ys : List Int) : Prop := (POk xs ∧ IsInv xs ys) ∨ (¬ POk xs ∧ ys = [])
theorem InvR.uniq {xs ys zs : List Int} (h : InvR xs ys) (h' : InvR xs zs) : ys = zs := by
  rcases h with ⟨h, h1⟩ | ⟨h, h1⟩ <;> rcases h' with ⟨h', h2⟩ | ⟨h', h2⟩
  · exact h1.uniq h h2
  · exact absurd h h'
  · exact absurd h' h
  · rw [h1, h2]
theorem InvR.len {xs ys : List Int} (h : InvR xs ys) : ys.length ≤ 60 := by
  rcases h with ⟨h, h1⟩ | ⟨h, h1⟩
  · rw [h1.1]; exact h.1
  · rw [h1]; simp
theorem iinv_any (w : World) (a : Option Addr) (cap : Nat) (xs : List Int) (hx : IsL w a xs) (hl : xs.length ≤ 10000000) :
    Calls Try.prog 22 #[.slice a xs.length cap] w fun e w' => ∃ v ys, e = .returned v ∧ InvR xs ys ∧ Own w' w.heap.size v ys ∧ Below w.heap.size w w' := by
  by_cases hp : POk xs
  · refine (iinv_yes w a cap xs hx hp).mono ?_
    rintro e w' ⟨v, ys, rfl, h, ho, hB⟩
    exact ⟨v, ys, rfl, .inl ⟨hp, h⟩, ho, hB⟩
  · refine (iinv_no w a cap xs hx hl (pok_false hp)).mono ?_
    rintro e w' ⟨v, rfl, ho, hB⟩
    exact ⟨v, [], rfl, .inr ⟨hp, rfl⟩, ho, hB⟩
/-- What both answer for a list mixed through. -/
noncomputable def thrR (xs ls : List Int) : List Int := if pok xs = true ∧ xs.length = ls.length then thr xs ls else []
theorem thrR_len (xs ls : List Int) : (thrR xs ls).length ≤ 60 := by
  unfold thrR
  split
  · rename_i h; rw [thr_length]; exact (pok_iff.1 h.1).1
  · simp
theorem sthr_any (w : World) (a b : Option Addr) (ca cb : Nat) (xs ls : List Int) (hx : IsL w a xs) (hy : IsL w b ls) (hl : xs.length ≤ 10000000) (hl' : ls.length ≤ 10000000) :
    Calls Try.prog 23 #[.slice a xs.length ca, .slice b ls.length cb] w fun e w' => ∃ v, e = .returned v ∧ Own w' w.heap.size v (thrR xs ls) ∧ Below w.heap.size w w' := by
  unfold thrR
  by_cases h : pok xs = true ∧ xs.length = ls.length
  · rw [if_pos h]; exact sthr_yes w a b ca cb xs ls hx hy (pok_iff.1 h.1) h.2
  · rw [if_neg h]
    refine sthr_no w a b ca cb xs ls hx hl hl' ?_
    cases hp : pok xs
    · exact .inl rfl
    · exact .inr fun e => h ⟨hp, e⟩
theorem ithr_any (w : World) (a b : Option Addr) (ca cb : Nat) (xs ls : List Int) (hx : IsL w a xs) (hy : IsL w b ls) (hl : xs.length ≤ 10000000) (hl' : ls.length ≤ 10000000) :
    Calls Try.prog 21 #[.slice a xs.length ca, .slice b ls.length cb] w fun e w' => ∃ v, e = .returned v ∧ Own w' w.heap.size v (thrR xs ls) ∧ Below w.heap.size w w' := by
  unfold thrR
  by_cases h : pok xs = true ∧ xs.length = ls.length
  · rw [if_pos h]; exact ithr_yes w a b ca cb xs ls hx hy (pok_iff.1 h.1) h.2
  · rw [if_neg h]
    refine ithr_no w a b ca cb xs ls hx hl hl' ?_
    cases hp : pok xs
    · exact .inl rfl
    · exact .inr fun e => h ⟨hp, e⟩
end Go.Proofs.Ythmenbfcjiehdaa.It
