/-
  What the model draws for trees: DrawSum.
-/
import Derived.Test.YtomembbdbmjgmaaDrawE
import Derived.Test.YtomembbdbmjgmaaTrS
import Derived.Deep.AppendLies
namespace Go.Proofs.Ytomembbdbmjgmaa.Df
open Go.RowKit
open Go.Proofs.Ytomembbdbmjgmaa.Li (iv ret_bool ret_int below_none)
open Go.Proofs.Ytomembbdbmjgmaa.Ai Go.Proofs.Ytomembbdbmjgmaa.Tr Go.Proofs.Ytomembbdbmjgmaa.Tm
set_option maxRecDepth 100000
set_option linter.unusedVariables false

theorem info_tre : (Try.prog.info? 27).map (fun i => (i.zero, i.size, i.bytes)) = some (some (.agg #[.slice none 0 0, .slice none 0 0]), 2, 48) := by kernel_rfl
theorem szT_all {ts : List T} {B : Nat} (h : ∀ j (hj : j < ts.length), ts[j].sp.length + ts[j].lv.length ≤ B) : szT ts ≤ B * ts.length := by
  induction ts with
  | nil => simp [szT]
  | cons t ts ih =>
    have h0 := h 0 (by simp)
    have h1 := ih (fun j hj => by have := h (j + 1) (by simp; omega); simpa using this)
    simp only [szT, szt, List.length_cons, List.getElem_cons_zero] at *
    rw [Nat.mul_add]
    omega
/-- Trees that are being drawn: the list's slice v, its cells cs; the cursor in block b. -/
structure TL (w wr : World) (b : Nat) (K : Int) (v : Value) (cs : List Value) (ts : List T) : Prop where
  cu : Cu.Cur wr b K
  ow : wr.ownsRow (b + 1) 27 2 v ts.length cs
  cl : cs.length = ts.length * 2
  tr : ∀ j (hj : j < ts.length), ∃ v0 v1, cs[j * 2]? = some v0 ∧ cs[j * 2 + 1]? = some v1 ∧ OwnP wr (b + 1) v0 ts[j].sp ∧ Li.Own wr (b + 1) v1 ts[j].lv ∧ (∀ k, v.ownBlock = some k → ¬ v0.ownBlock = some k ∧ ¬ v1.ownBlock = some k)
  sz : ∀ j (hj : j < ts.length), ts[j].sp.length + ts[j].lv.length ≤ 100
  bel : Below b w wr
  nn : ¬ v = .slice none 0 0
theorem row_off {w w1 : World} {B b s n : Nat} {t : TypeId} {v : Value} {vs : List Value} (h : w.ownsRow B t s v n vs) (hg : w.grownBy w1 (some b)) (hb : b < B) : w1.ownsRow B t s v n vs :=
  World.ownsRow.kept h hg (by
    cases e : v.ownBlock with
    | none => exact .inl rfl
    | some g => exact .inr (fun e' => by have := (World.ownsRow.lt h g e).1; cases e'; omega))
theorem TL.cur {w wr wn : World} {b : Nat} {K K' : Int} {v : Value} {cs : List Value} {ts : List T} (h : TL w wr b K v cs ts) (hg : wr.grownBy wn (some b)) (hc : Cu.Cur wn b K') : TL w wn b K' v cs ts := by
  refine ⟨hc, row_off h.ow hg (by omega), h.cl, fun j hj => ?_, h.sz, h.bel.trans (Cu.grown_below hg (Nat.le_refl _) (by have := h.cu.lt; omega)), h.nn⟩
  obtain ⟨v0, v1, e0, e1, o0, o1, hd⟩ := h.tr j hj
  exact ⟨v0, v1, e0, e1, ownP_off o0 hg (by omega), own_off o1 hg (by omega), hd⟩
theorem TL.below {w wr wn : World} {b : Nat} {K : Int} {v : Value} {cs : List Value} {ts : List T} (h : TL w wr b K v cs ts) (hb : Below wr.heap.size wr wn) : TL w wn b K v cs ts := by
  refine ⟨h.cu.keptB hb.size (fun k hk => hb.block k (by have := h.cu.lt; omega)), ?_, h.cl, fun j hj => ?_, h.sz, h.bel.trans (hb.mono (by have := h.cu.lt; omega)), h.nn⟩
  · exact World.ownsRow.kept (row := none) h.ow ⟨hb.os, hb.tape, hb.output, hb.size, fun k hk _ => hb.block k hk⟩ (by cases hv : v.ownBlock <;> simp)
  · obtain ⟨v0, v1, e0, e1, o0, o1, hd⟩ := h.tr j hj
    exact ⟨v0, v1, e0, e1, o0.below hb, o1.below hb, hd⟩
theorem own_emptyT {b : Nat} (w : World) (hb : b + 1 ≤ w.heap.size) : (w.alloc (.cells #[] 27)).ownsRow (b + 1) 27 2 (.slice (some ⟨w.heap.size, 0, none⟩) 0 0) 0 [] :=
  World.ownsRow_made w #[] 0 hb (by unfold maxLen; omega) (by simp)
theorem TL.start {w wr : World} {b : Nat} {K : Int} (hc : Cu.Cur wr b K) (hB : Below b w wr) (hs : b + 1 ≤ wr.heap.size) : TL w (wr.alloc (.cells #[] 27)) b K (.slice (some ⟨wr.heap.size, 0, none⟩) 0 0) [] [] := by
  refine ⟨hc.alloc _, own_emptyT wr hs, rfl, fun j hj => by simp at hj, fun j hj => by simp at hj, hB.alloc (by omega) _, by simp⟩
theorem TL.add {w wr wn : World} {b g cap : Nat} {K : Int} {v v0 v1 : Value} {cs : List Value} {ts : List T} {t : T} (h : TL w wr b K v cs ts) (o0 : OwnP wr (b + 1) v0 t.sp) (o1 : Li.Own wr (b + 1) v1 t.lv) (hd : ∀ k, v.ownBlock = some k → ¬ v0.ownBlock = some k ∧ ¬ v1.ownBlock = some k) (ht : t.sp.length + t.lv.length ≤ 100)
    (hown : wn.ownsRow (b + 1) 27 2 (.slice (some ⟨g, 0, none⟩) (ts.length + 1) cap) (ts.length + 1) (cs ++ [v0, v1])) (hg : wr.grownBy wn v.ownBlock) (hp : v.ownBlock = some g ∨ g = wr.heap.size) :
    TL w wn b K (.slice (some ⟨g, 0, none⟩) (ts.length + 1) cap) (cs ++ [v0, v1]) (ts ++ [t]) := by
  have hvb : ∀ k, v.ownBlock = some k → b + 1 ≤ k := fun k hk => (World.ownsRow.lt h.ow k hk).1
  have hlt := h.cu.lt
  have hcu : Cu.Cur wn b K := h.cu.keptB hg.size (fun k hk => hg.block k (by omega) (fun e => by have := hvb k e.symm; omega))
  have keepP : ∀ (u : Value) (ps : List (Int × Int)), OwnP wr (b + 1) u ps → (∀ k, v.ownBlock = some k → ¬ u.ownBlock = some k) → OwnP wn (b + 1) u ps ∧ ¬ u.ownBlock = some g := fun u ps hu hn => by
    refine ⟨hu.kept hg ?_, fun e => ?_⟩
    · cases e : v.ownBlock with
      | none => cases e' : u.ownBlock <;> simp
      | some k => exact .inr (hn k e)
    · rcases hp with e' | e'
      · exact hn g e' e
      · have := (hu.ge g e).2; omega
  have keepI : ∀ (u : Value) (xs : List Int), Li.Own wr (b + 1) u xs → (∀ k, v.ownBlock = some k → ¬ u.ownBlock = some k) → Li.Own wn (b + 1) u xs ∧ ¬ u.ownBlock = some g := fun u xs hu hn => by
    refine ⟨hu.kept hg ?_, fun e => ?_⟩
    · cases e : v.ownBlock with
      | none => cases e' : u.ownBlock <;> simp
      | some k => exact .inr (hn k e)
    · rcases hp with e' | e'
      · exact hn g e' e
      · have := (hu.ge g e).2; omega
  have hcl := h.cl
  refine ⟨hcu, by rw [List.length_append, List.length_singleton]; exact hown, by simp [hcl]; omega, fun j hj => ?_, fun j hj => ?_, h.bel.trans ⟨hg.os, hg.tape, hg.output, hg.size, fun k hk => hg.block k (by omega) (fun e => by have := hvb k e.symm; omega)⟩, by simp⟩
  · by_cases e : j < ts.length
    · obtain ⟨u0, u1, e0, e1, p0, p1, hn⟩ := h.tr j e
      obtain ⟨q0, n0⟩ := keepP u0 _ p0 (fun k hk => (hn k hk).1)
      obtain ⟨q1, n1⟩ := keepI u1 _ p1 (fun k hk => (hn k hk).2)
      refine ⟨u0, u1, by rw [List.getElem?_append_left (by omega)]; exact e0, by rw [List.getElem?_append_left (by omega)]; exact e1, by rw [List.getElem_append_left e]; exact q0, by rw [List.getElem_append_left e]; exact q1, fun k hk => ?_⟩
      simp [Value.ownBlock] at hk
      subst hk
      exact ⟨n0, n1⟩
    · obtain rfl : j = ts.length := by simp at hj; omega
      obtain ⟨q0, n0⟩ := keepP v0 _ o0 (fun k hk => (hd k hk).1)
      obtain ⟨q1, n1⟩ := keepI v1 _ o1 (fun k hk => (hd k hk).2)
      refine ⟨v0, v1, by rw [← hcl]; simp, by rw [← hcl]; simp, by simpa using q0, by simpa using q1, fun k hk => ?_⟩
      simp [Value.ownBlock] at hk
      subst hk
      exact ⟨n0, n1⟩
  · by_cases e : j < ts.length
    · rw [List.getElem_append_left e]; exact h.sz j e
    · obtain rfl : j = ts.length := by simp at hj; omega
      simpa using ht
/-- What the list reads as. -/
theorem TL.ist {w wr : World} {b : Nat} {K : Int} {v : Value} {cs : List Value} {ts : List T} (h : TL w wr b K v cs ts) : ∃ a c, v = .slice a ts.length c ∧ IsT wr a ts := by
  have ho := h.ow
  rcases h.ow.2 with ⟨e, h0⟩ | ⟨g, cap, cur, e, hb, hh, r⟩
  · obtain rfl := List.length_eq_zero_iff.1 h0
    exact ⟨none, 0, e, .inl rfl⟩
  · subst e
    refine ⟨_, cap, rfl, .inr ⟨g, 0, rfl, (World.ownsRow.lt ho g rfl).2, fun j hj => ?_⟩⟩
    obtain ⟨v0, v1, e0, e1, o0, o1, _⟩ := h.tr j hj
    have hcl := h.cl
    obtain ⟨a0, c0, f0, _, i0⟩ := o0.isp
    obtain ⟨a1, c1, f1, i1⟩ := o1.isl
    refine ⟨v0, v1, ⟨?_, ?_⟩, a0, c0, a1, c1, f0, f1, i0, i1⟩
    · rw [Nat.zero_add, World.ownsRow.cellAt ho (j * 2) (by omega), e0]
    · rw [Nat.zero_add, World.ownsRow.cellAt ho (j * 2 + 1) (by omega), e1]
theorem two_v (w : World) (T : TypeId) (x y : Value) : ∀ j u, ([x, y] : List Value)[j]? = some u → (w.alloc (.cells #[x, y] T)).cell? ((⟨w.heap.size, 0, none⟩ : Addr).add j) = some u := by
  intro j u hj
  match j, hj with
  | 0, hj => simp at hj; subst hj; simp [Addr.add]
  | 1, hj => simp at hj; subst hj; simp [Addr.add]
  | j + 2, hj => simp at hj
set_option maxHeartbeats 4000000 in
theorem drawSum_any (w : World) (a : Option Addr) (len cap : Nat) (hB : Cu.Bytes w w.heap.size a len) (hl : (len : Int) ≤ 1048576) :
    Calls Try.prog 14 #[.slice a len cap] w fun e w' => ∃ ad c ts ax cx, ∃ xs : List Int, ∃ base : Int, e = .returned (.tuple #[.slice (some ad) (ts : List T).length c, .slice ax xs.length cx, .int .i64 base]) ∧ ts.length ≤ 3 ∧ szT ts ≤ 300 ∧ IsT w' (some ad) ts ∧ Li.IsL w' ax xs ∧ xs.length ≤ 6 ∧ (-9223372036854775808 ≤ base ∧ base ≤ 9223372036854775807) ∧ Below w.heap.size w w' := by
  obtain ⟨i0, hi, hz0, hz1, hz2⟩ := info_parts info_tre
  go_enter Try.func14, Try.ntmps14
  go_wp2_with fail
  refine (Cu.open_any _ _ _ _ hB hl).mono ?_
  rintro e w1 ⟨rfl, hg, hc⟩
  have hBw : Below w.heap.size w w1 := Cu.grown_below hg (Nat.le_refl _) (Nat.le_refl _)
  have hb1 := hc.lt
  clear hg hB
  obtain ⟨b, hb⟩ : ∃ b, w.heap.size = b := ⟨_, rfl⟩
  rw [hb] at hc hBw hb1 ⊢
  have HB : Hid (w.heap.size = b) := hb
  clear hb
  have tl := TL.start hc hBw (by omega)
  obtain ⟨W, hW⟩ : ∃ W, w1.alloc (.cells #[] 27) = W := ⟨_, rfl⟩
  rw [hW] at tl
  have hWz : w1.heap.size < W.heap.size := by rw [← hW]; simp
  go_wp2_with fail
  clear hW hc hBw
  refine (Cu.pick_any _ _ _ tl.cu (by omega) _ (by omega)).mono ?_
  rintro e w2 ⟨n, rfl, n0, n1, hg2, hz2', hc2⟩
  have n2 : n < 4 := n1 (by omega)
  have tl := tl.cur hg2 hc2
  clear hg2 hz2' hc2 n1
  go_wp2
  go_loopw [6, 7] (fun v i wr => ∃ kk : Int, 0 ≤ kk ∧ i = .int .i64 kk ∧ ∃ cs ts K, TL w wr b K v cs ts ∧ 0 ≤ K ∧ K + 200 * kk ≤ 1000 ∧ (ts.length : Int) + kk ≤ 3) (fun _ i _ => (intOf i).toNat)
  case atStart => exact ⟨n, n0, rfl, _, _, _, tl, by omega, by omega, by simp; omega⟩
  case round =>
    obtain ⟨kk, k0, rfl, cs, ts, K, tl, K0, K1, hts⟩ := hrel
    obtain ⟨av, cv, rfl, _⟩ := tl.ist
    by_cases hlt : 0 < kk
    · have hd : decide (0 < kk) = true := by simpa using hlt
      go_wp2_with fail
      refine (tree_any _ _ _ tl.cu K0 (by omega)).mono ?_
      rintro e w3 ⟨v0, v1, t, rfl, hlen, o0, o1, _, hg, hc⟩
      have hlt0 := tl.cu.lt
      have hvb : ∀ k, (Value.slice av ts.length cv).ownBlock = some k → k < wr.heap.size := fun k hk => (World.ownsRow.lt tl.ow k hk).2
      have tl3 := tl.cur hg hc
      have hd3 : ∀ k, (Value.slice av ts.length cv).ownBlock = some k → ¬ v0.ownBlock = some k ∧ ¬ v1.ownBlock = some k := fun k hk => ⟨fun e => by have := (o0.ge k e).1; have := hvb k hk; omega, fun e => by have := (o1.ge k e).1; have := hvb k hk; omega⟩
      have o0 := o0.mono (base' := b + 1) (by omega)
      have o1 := o1.mono (base' := b + 1) (by omega)
      obtain ⟨a0, c0, rfl, _, _⟩ := o0.isp
      obtain ⟨a1, c1, rfl, _⟩ := o1.isl
      have hba : Below w3.heap.size w3 (w3.alloc (.cells #[.slice a0 t.sp.length c0, .slice a1 t.lv.length c1] 27)) := (Below.refl _ _).alloc (Nat.le_refl _) _
      have tl4 := tl3.below hba
      have hsz3 := hg.size
      clear tl tl3 hg hc
      go_wp2_with (at_builtin; refine wpList_append_lies _ rfl _ _ 37 rfl (b + 1) 27 i0 (.agg #[.slice none 0 0, .slice none 0 0]) 2 48 Try.underlying37 hi hz0 hz1 hz2 rfl (by decide) _ _ _ rfl tl4.ow ⟨w3.heap.size, 0, none⟩ 1 1 [.slice a0 t.sp.length c0, .slice a1 t.lv.length c1] rfl rfl (two_v _ _ _ _) (by intro u hu; simp at hu; rcases hu with rfl | rfl <;> rfl) (by decide) (by unfold maxLen; omega) (by omega) (by simp; omega) _ rfl ?_)
      intro g cap' w4 hown hgrow hp _
      have tl5 := tl4.add (o0.below hba) (o1.below hba) hd3 hlen hown hgrow (hp.imp id (fun e => by rw [e]; simp))
      have HTL : Hid (type_of% tl5) := tl5
      clear tl4 tl5 hown hgrow hp hba o0 o1 hd3
      go_wp2
      go_roundw
      case rel => exact ⟨kk - 1, by omega, by go_num, _, _, _, HTL.out, by omega, by omega, by simp; omega⟩
      case measure => simp [intOf]; omega
    · obtain rfl : kk = 0 := by omega
      have hist := tl.ist
      obtain ⟨_, _, ee, hit⟩ := hist
      cases ee
      have hsz := szT_all tl.sz
      have hlt0 := tl.cu.lt
      go_wp2_with fail
      refine (feats_any _ _ _ tl.cu K0 (by omega)).mono ?_
      rintro e w3 ⟨ax, xs, cx, rfl, hxs, isx, hax, hg, hc⟩
      have tl3 := tl.cur hg hc
      clear tl hit
      go_wp2_with fail
      refine (Cu.rawFix_any _ _ _ tl3.cu (by omega)).mono ?_
      rintro e w4 ⟨base, rfl, b0, b1, hg4, hc4⟩
      have tl4 := tl3.cur hg4 hc4
      have isx4 : Li.IsL w4 ax xs := isx.keptAt hg4.size (fun x hx hlt => hg4.block x.block hlt (fun e => by injection e with e; have := hax x hx; omega))
      have hnn : ∃ ad, av = some ad := by
        rcases tl4.ow.2 with ⟨e, _⟩ | ⟨g, cap, cur, e, _⟩
        · exact absurd e tl4.nn
        · cases e; exact ⟨_, rfl⟩
      obtain ⟨ad, rfl⟩ := hnn
      obtain ⟨_, _, ee, hit⟩ := tl4.ist
      cases ee
      have hB4 := tl4.bel
      go_wp2
      go_ret3
      exact ⟨ad, cv, ts, ax, cx, xs, base, rfl, by omega, by omega, hit, isx4, hxs, ⟨b0, b1⟩, by rw [HB.out]; exact hB4⟩
end Go.Proofs.Ytomembbdbmjgmaa.Df
