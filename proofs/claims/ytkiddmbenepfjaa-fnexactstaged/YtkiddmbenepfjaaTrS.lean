/-
  Lists of trees as the laws and both texts hold them; contracts of the laws' own helpers.
-/
import Derived.Test.YtkiddmbenepfjaaTrT
namespace Go.Proofs.Ytkiddmbenepfjaa.Tm
open Go.RowKit
open Go.Proofs.Ytkiddmbenepfjaa.Li (ret_bool ret_int below_none)
open Go.Proofs.Ytkiddmbenepfjaa.Tb (sub sub_yes sub_no)
set_option linter.unusedVariables false

/-- Two cells that read as a tree. -/
def TrIs (w : World) (v0 v1 : Value) (t : Tr.T) : Prop :=
  ∃ a c a' c', v0 = .slice a t.sp.length c ∧ v1 = .slice a' t.lv.length c' ∧ IsP w a t.sp ∧ Li.IsL w a' t.lv
theorem TrIs.below {w w1 : World} {v0 v1 : Value} {t : Tr.T} (h : TrIs w v0 v1 t) (hB : Below w.heap.size w w1) : TrIs w1 v0 v1 t := by
  obtain ⟨a, c, a', c', e0, e1, h0, h1⟩ := h
  exact ⟨a, c, a', c', e0, e1, h0.below hB, h1.below hB⟩
/-- The slice of address a reads as these trees. -/
def IsT (w : World) (a : Option Addr) (ts : List Tr.T) : Prop :=
  ts = [] ∨ ∃ b off, a = some ⟨b, off, none⟩ ∧ b < w.heap.size ∧ ∀ j (hj : j < ts.length), ∃ v0 v1, (w.cell? ⟨b, off + j * 2, none⟩ = some v0 ∧ w.cell? ⟨b, off + j * 2 + 1, none⟩ = some v1) ∧ TrIs w v0 v1 ts[j]
theorem IsT.below {w w1 : World} {a : Option Addr} {ts : List Tr.T} (h : IsT w a ts) (hB : Below w.heap.size w w1) : IsT w1 a ts := by
  rcases h with h | ⟨b, off, rfl, hb, hc⟩
  · exact .inl h
  · refine .inr ⟨b, off, rfl, Nat.lt_of_lt_of_le hb hB.size, fun j hj => ?_⟩
    obtain ⟨v0, v1, ⟨c0, c1⟩, hr⟩ := hc j hj
    exact ⟨v0, v1, ⟨(hB.cell (by exact hb)).trans c0, (hB.cell (by exact hb)).trans c1⟩, hr.below hB⟩
theorem IsT.drewN {w : World} {a : Option Addr} {ts : List Tr.T} (h : IsT w a ts) (n : Nat) : IsT (w.drewN n) a ts := h
def szt (t : Tr.T) : Nat := t.sp.length + t.lv.length
def szT : List Tr.T → Nat
  | [] => 0
  | t :: ts => szt t + szT ts
theorem szT_take (ts : List Tr.T) (k : Nat) (h : k < ts.length) : szT (ts.take (k + 1)) = szT (ts.take k) + szt ts[k] := by
  induction ts generalizing k with
  | nil => simp at h
  | cons s r ih =>
    cases k with
    | zero => simp [szT]
    | succ k =>
      simp only [List.take_succ_cons, szT, List.getElem_cons_succ]
      rw [ih k (by simpa using h)]
      omega
theorem szT_le (ts : List Tr.T) (k : Nat) : szT (ts.take k) ≤ szT ts := by
  induction ts generalizing k with
  | nil => simp
  | cons s r ih =>
    cases k with
    | zero => simp [szT]
    | succ k => simp only [List.take_succ_cons, szT]; have := ih k; omega
theorem szT_at (ts : List Tr.T) (k : Nat) (h : k < ts.length) : szt ts[k] ≤ szT ts := by
  have h1 := szT_take ts k h
  have h2 := szT_le ts (k + 1)
  omega
theorem szT_append (ts us : List Tr.T) : szT (ts ++ us) = szT ts + szT us := by
  induction ts with
  | nil => simp [szT]
  | cons t ts ih => simp only [List.cons_append, szT, ih]; omega
/-- All of a size that Go can have. -/
def FitsT (ts : List Tr.T) : Prop := ts.length ≤ 9223372036854775807 ∧ ∀ j (hj : j < ts.length), ts[j].sp.length ≤ 9223372036854775807 ∧ ts[j].lv.length ≤ 9223372036854775807

set_option maxHeartbeats 1000000 in
theorem szTrees (w : World) (a : Option Addr) (cap : Nat) (left : Int) (ts : List Tr.T) (hx : IsT w a ts) (hf : FitsT ts) (h0 : 0 ≤ left) (h1 : left ≤ 1048576) :
    Calls Try.prog 30 #[.slice a ts.length cap, .int .i64 left] w fun e w' => e = .returned (.int .i64 (sub left (ts.length + szT ts))) ∧ Below w.heap.size w w' := by
  have hn := hf.1
  by_cases h : (ts.length : Int) ≤ left
  · go_enter Try.func30, Try.ntmps30
    go_wp2
    go_loopw [1, 5] (fun q i wr => ∃ k : Nat, k ≤ ts.length ∧ i = .int .i64 k ∧ q = .int .i64 (left - ts.length - szT (ts.take k)) ∧ (szT (ts.take k) : Int) ≤ left - ts.length ∧ Below w.heap.size w wr) (fun _ i _ => ts.length - (intOf i).toNat)
    case atStart => exact ⟨0, Nat.zero_le _, rfl, by simp [szT], by simp [szT]; omega, Below.refl _ _⟩
    case round =>
      obtain ⟨k, hk, rfl, rfl, hle, hB⟩ := hrel
      by_cases hlt : k < ts.length
      · rcases hx.below hB with rfl | ⟨b, off, rfl, hb, hc⟩
        · simp at hlt
        · obtain ⟨v0, v1, ⟨cx0, cx1⟩, a0, c0, a1, c1, rfl, rfl, i0, i1⟩ := hc k hlt
          obtain ⟨hf0, hf1⟩ := hf.2 k hlt
          have HT : Hid (szT (ts.take (k + 1)) = szT (ts.take k) + (ts[k].sp.length + ts[k].lv.length)) := szT_take ts k hlt
          have HL : Hid (szT (ts.take (k + 1)) ≤ szT ts) := szT_le ts (k + 1)
          obtain ⟨L, hL⟩ : ∃ L, szT (ts.take k) = L := ⟨_, rfl⟩
          rw [hL] at hle HT ⊢
          clear hc hL
          go_wp2_with fail
          refine (szTree _ _ _ _ _ _ _ _ (by omega) (by omega) hf0 hf1).mono ?_
          rintro e w1 ⟨rfl, hB1⟩
          have hB := hB.trans (hB1.mono hB.size)
          clear hB1 cx0 cx1 i0 i1 hb
          obtain ⟨z, hz⟩ : ∃ z, ts[k].sp.length + ts[k].lv.length = z := ⟨_, rfl⟩
          rw [hz] at HT ⊢
          clear hz
          by_cases hfit : (z : Int) ≤ left - ts.length - L
          · rw [sub_yes hfit]
            go_wp2
            go_roundw
            case rel => exact ⟨k + 1, by omega, by go_num, by rw [HT.out]; go_num, by rw [HT.out]; omega, hB⟩
            case measure => simp [intOf]; omega
          · rw [sub_no hfit]
            have HR : Hid (sub left (ts.length + szT ts) = -1) := sub_no (by have := HT.out; have := HL.out; omega)
            go_wp2
            go_ret
            exact ⟨by rw [HR.out]; rfl, hB⟩
      · obtain rfl : k = ts.length := by omega
        have ht : ts.take ts.length = ts := List.take_length
        rw [ht] at hle ⊢
        have HR : Hid (sub left (ts.length + szT ts) = left - ts.length - szT ts) := by show sub _ _ = _; rw [sub_yes (by omega)]; omega
        go_wp2
        go_ret
        exact ⟨by rw [HR.out]; rfl, hB⟩
  · rw [sub_no (by omega)]
    go_enter Try.func30, Try.ntmps30
    go_wp2
    go_ret
    exact ⟨rfl, Below.refl _ _⟩
/-- As far as k the cells of block g are trees of the call's own, in blocks from B on. -/
def NestT (w : World) (B : Nat) (V0 V1 : Nat → Value) (xs : List Value) (ts : List Tr.T) (k : Nat) : Prop :=
  ∀ i (hi : i < ts.length), i < k → (xs[i * 2]? = some (V0 i) ∧ xs[i * 2 + 1]? = some (V1 i)) ∧ OwnP w B (V0 i) ts[i].sp ∧ Li.Own w B (V1 i) ts[i].lv
def updV (V : Nat → Value) (k : Nat) (u : Value) : Nat → Value := fun i => if i = k then u else V i
theorem updV_at (V : Nat → Value) (k : Nat) (u : Value) : updV V k u k = u := if_pos rfl
theorem updV_off {V : Nat → Value} {k i : Nat} (u : Value) (h : i ≠ k) : updV V k u i = V i := if_neg h
theorem nestT_zero (w : World) (B : Nat) (V0 V1 : Nat → Value) (xs : List Value) (ts : List Tr.T) : NestT w B V0 V1 xs ts 0 := fun _ _ h => by omega
theorem NestT.grown {w w1 : World} {B g k : Nat} {V0 V1 : Nat → Value} {xs : List Value} {ts : List Tr.T} (h : NestT w B V0 V1 xs ts k) (hg : w.grownBy w1 (some g)) (hgB : g < B) : NestT w1 B V0 V1 xs ts k := by
  intro i hi hik
  obtain ⟨hc, o0, o1⟩ := h i hi hik
  exact ⟨hc, ownP_off o0 hg hgB, own_off o1 hg hgB⟩
theorem NestT.below {w w1 : World} {B k : Nat} {V0 V1 : Nat → Value} {xs : List Value} {ts : List Tr.T} (h : NestT w B V0 V1 xs ts k) (hb : Below w.heap.size w w1) : NestT w1 B V0 V1 xs ts k := by
  intro i hi hik
  obtain ⟨hc, o0, o1⟩ := h i hi hik
  exact ⟨hc, o0.below hb, o1.below hb⟩
theorem nestT_step {w : World} {B g k : Nat} {V0 V1 : Nat → Value} {xs : List Value} {ts : List Tr.T} {u0 u1 : Value} (h : NestT w B V0 V1 xs ts k) (hk : k < ts.length) (hxl : xs.length = ts.length * 2) (hg : g < B)
    (o0 : OwnP w B u0 ts[k].sp) (o1 : Li.Own w B u1 ts[k].lv) :
    NestT ((w.setCell ⟨g, k * 2, none⟩ u0).setCell ⟨g, k * 2 + 1, none⟩ u1) B (updV V0 k u0) (updV V1 k u1) ((xs.set (k * 2) u0).set (k * 2 + 1) u1) ts (k + 1) := by
  intro i hi hik
  have hg1 : w.grownBy ((w.setCell ⟨g, k * 2, none⟩ u0).setCell ⟨g, k * 2 + 1, none⟩ u1) (some g) := Li.grown_trans (Li.grown_set _ _ _ _) (Li.grown_set _ _ _ _)
  by_cases e : i = k
  · subst e
    rw [updV_at, updV_at]
    refine ⟨⟨?_, ?_⟩, ownP_off o0 hg1 hg, own_off o1 hg1 hg⟩
    · simp only [List.getElem?_set, List.length_set]; rw [if_neg (by omega), if_pos True.intro, if_pos (by omega)]
    · simp only [List.getElem?_set, List.length_set]; rw [if_pos True.intro, if_pos (by omega)]
  · rw [updV_off _ e, updV_off _ e]
    obtain ⟨⟨c0, c1⟩, p0, p1⟩ := h i hi (by omega)
    refine ⟨⟨?_, ?_⟩, ownP_off p0 hg1 hg, own_off p1 hg1 hg⟩
    · simp only [List.getElem?_set]; rw [if_neg (by omega), if_neg (by omega)]; exact c0
    · simp only [List.getElem?_set]; rw [if_neg (by omega), if_neg (by omega)]; exact c1
theorem nestT_is {w : World} {B g base cap : Nat} {V0 V1 : Nat → Value} {xs : List Value} {ts : List Tr.T} (h : NestT w B V0 V1 xs ts ts.length) (hown : w.ownsRow base 65 2 (.slice (some ⟨g, 0, none⟩) ts.length cap) ts.length xs) : IsT w (some ⟨g, 0, none⟩) ts := by
  have hlt := (World.ownsRow.lt hown g rfl).2
  refine .inr ⟨g, 0, rfl, hlt, fun j hj => ?_⟩
  obtain ⟨⟨c0, c1⟩, o0, o1⟩ := h j hj hj
  obtain ⟨a0, q0, e0, _, i0⟩ := o0.isp
  obtain ⟨a1, q1, e1, i1⟩ := o1.isl
  have hxl := hown.1
  refine ⟨V0 j, V1 j, ⟨?_, ?_⟩, a0, q0, a1, q1, e0, e1, i0, i1⟩
  · rw [Nat.zero_add, World.ownsRow.cellAt hown (j * 2) (by omega), c0]
  · rw [Nat.zero_add, World.ownsRow.cellAt hown (j * 2 + 1) (by omega), c1]
theorem info_tree : (Try.prog.info? 65).map (fun i => (i.zero, i.size, i.bytes)) = some (some (.agg #[.slice none 0 0, .slice none 0 0]), 2, 48) := by kernel_rfl
set_option maxHeartbeats 1000000 in
theorem toTrees (w : World) (a : Option Addr) (cap : Nat) (ts : List Tr.T) (hx : IsT w a ts) (hl : ts.length + szT ts ≤ 1048576) :
    Calls Try.prog 39 #[.slice a ts.length cap] w fun e w' => ∃ g, e = .returned (.slice (some ⟨g, 0, none⟩) ts.length ts.length) ∧ IsT w' (some ⟨g, 0, none⟩) ts ∧ Below w.heap.size w w' := by
  obtain ⟨i0, hi, hz0, hz1, hz2⟩ := info_parts info_tree
  go_enter Try.func39, Try.ntmps39
  go_wp2_with (at_make; refine wpList_make_full _ rfl _ _ 32 rfl w.heap.size 65 i0 (.agg #[.slice none 0 0, .slice none 0 0]) 2 Try.underlying32 hi hz0 hz1 _ _ _ _ ts.length rfl rfl (by omega) (by omega) (by rw [hz2]; omega) (by unfold maxLen; omega) (Nat.le_refl _) ?_; intro w1 hown hgrow)
  have hB1 := below_none hgrow
  obtain ⟨xs0, hxs⟩ : ∃ xs, (madeCells (Value.agg #[.slice none 0 0, .slice none 0 0]).cells (ts.length * 2)).toList = xs := ⟨_, rfl⟩
  rw [hxs] at hown
  clear hxs hgrow
  go_loopw [4] (fun i wr => ∃ k : Nat, k ≤ ts.length ∧ i = .int .i64 k ∧ ∃ xs V0 V1, wr.ownsRow w.heap.size 65 2 (.slice (some ⟨w.heap.size, 0, none⟩) ts.length ts.length) ts.length xs ∧ NestT wr (w.heap.size + 1) V0 V1 xs ts k ∧ Below w.heap.size w wr) (fun i _ => ts.length - (intOf i).toNat)
  case atStart => exact ⟨0, Nat.zero_le _, rfl, xs0, fun _ => undef, fun _ => undef, hown, nestT_zero _ _ _ _ _ _, hB1⟩
  case round =>
    obtain ⟨k, hk, rfl, xs, V0, V1, hown, hnest, hB⟩ := hrel
    have hxl := hown.1
    have hltr : w.heap.size < wr.heap.size := (World.ownsRow.lt hown w.heap.size rfl).2
    by_cases hlt : k < ts.length
    · rcases hx.below hB with rfl | ⟨b, off, rfl, hb, hc⟩
      · simp at hlt
      · obtain ⟨v0, v1, ⟨cx0, cx1⟩, a0, c0, a1, c1, rfl, rfl, i0, i1⟩ := hc k hlt
        have hz : ts[k].sp.length + ts[k].lv.length ≤ szT ts := szT_at ts k hlt
        clear hc
        go_wp2_with fail
        refine (toTree _ _ _ _ _ ts[k] i0 i1 (by omega)).mono ?_
        rintro e w2 ⟨g0, g1, rfl, o0, o1, hap, hB2⟩
        have HN : Hid _ := nestT_step (hnest.below hB2) hlt hxl (Nat.lt_succ_self _) (o0.mono (base' := w.heap.size + 1) (by omega)) (o1.mono (base' := w.heap.size + 1) (by omega))
        have hown2 : w2.ownsRow w.heap.size 65 2 (.slice (some ⟨w.heap.size, 0, none⟩) ts.length ts.length) ts.length xs := hown.kept (row := none) ⟨hB2.os, hB2.tape, hB2.output, hB2.size, fun q hq _ => hB2.block q hq⟩ (.inr (by simp [Value.ownBlock]))
        have k0 := World.ownsRow.cellAt hown2 (k * 2) (by omega)
        have k1 := World.ownsRow.cellAt hown2 (k * 2 + 1) (by omega)
        rw [List.getElem?_eq_getElem (by omega)] at k0 k1
        have f0 := World.ownsRow.frozenAt hown2 (k * 2)
        have f1 := World.ownsRow.frozenAt hown2 (k * 2 + 1)
        have HW : Hid _ := (World.ownsRow.stored (World.ownsRow.stored hown2 (k * 2) (.slice (some ⟨g0, 0, none⟩) ts[k].sp.length ts[k].sp.length)).1 (k * 2 + 1) (.slice (some ⟨g1, 0, none⟩) ts[k].lv.length ts[k].lv.length)).1
        have hB := hB.trans (hB2.mono hB.size)
        obtain ⟨x0, hx0⟩ : ∃ x, xs[k * 2]'(by omega) = x := ⟨_, rfl⟩
        obtain ⟨x1, hx1⟩ : ∃ x, xs[k * 2 + 1]'(by omega) = x := ⟨_, rfl⟩
        rw [hx0] at k0
        rw [hx1] at k1
        clear hx0 hx1 hown hown2 hnest o0 o1 hap hB2 cx0 cx1 i0 i1 hltr hxl
        go_wp2
        go_roundw
        case rel => exact ⟨k + 1, by omega, by go_num, _, _, _, HW.out, HN.out, (hB.setCell (p := ⟨w.heap.size, k * 2, none⟩) (Nat.le_refl _) _).setCell (p := ⟨w.heap.size, k * 2 + 1, none⟩) (Nat.le_refl _) _⟩
        case measure => simp [intOf]; omega
    · obtain rfl : k = ts.length := by omega
      have HO : Hid (IsT wr (some ⟨w.heap.size, 0, none⟩) ts) := nestT_is hnest hown
      clear hown hnest
      go_wp2
      go_ret
      exact ⟨_, rfl, HO.out, hB⟩
set_option maxHeartbeats 1000000 in
/-- A list of trees is the same as itself, wherever the two lie. -/
theorem eqTrees (w : World) (a b : Option Addr) (ca cb : Nat) (xs : List Tr.T) (hx : IsT w a xs) (hy : IsT w b xs) (hl : xs.length + szT xs ≤ 1048576) :
    Calls Try.prog 47 #[.slice a xs.length ca, .slice b xs.length cb] w fun e w' => e = .returned (.bool true) ∧ Below w.heap.size w w' := by
  have hb : ((xs.length : Int) != (xs.length : Int)) = false := by simp
  go_enter Try.func47, Try.ntmps47
  go_wp2
  go_loopw [5] (fun i wr => ∃ k : Nat, k ≤ xs.length ∧ i = .int .i64 k ∧ Below w.heap.size w wr) (fun i _ => xs.length - (intOf i).toNat)
  case atStart => exact ⟨0, Nat.zero_le _, rfl, Below.refl _ _⟩
  case round =>
    obtain ⟨k, hk, rfl, hB⟩ := hrel
    by_cases hlt : k < xs.length
    · rcases hx.below hB with rfl | ⟨xb, xo, rfl, hxb, hxc⟩
      · simp at hlt
      · rcases hy.below hB with rfl | ⟨yb, yo, rfl, hyb, hyc⟩
        · simp at hlt
        · obtain ⟨v0, v1, ⟨cx0, cx1⟩, a0, c0, a1, c1, rfl, rfl, i0, i1⟩ := hxc k hlt
          obtain ⟨u0, u1, ⟨cy0, cy1⟩, b0, d0, b1, d1, rfl, rfl, j0, j1⟩ := hyc k hlt
          have hz : xs[k].sp.length + xs[k].lv.length ≤ szT xs := szT_at xs k hlt
          clear hxc hyc
          go_wp2
          go_region_with (go_at_call 72; refine (eqTree _ _ _ _ _ _ _ _ _ xs[k] xs[k] (by exact i0) (by exact i1) (by exact j0) (by exact j1) (by omega) (by omega)).mono ?_; rintro e w1 ⟨rfl, hB1⟩; rw [eqp_self, Li.eqs_self])
          all_goals
            have hB : Below w.heap.size w w1 := by first | exact hB.trans (hB1.mono hB.size) | exact hB.drew.trans (hB1.mono hB.size)
            clear hB1
            go_wp2
            go_roundw
            case rel => exact ⟨k + 1, by omega, by go_num, hB⟩
            case measure => simp [intOf]; omega
    · go_wp2
      go_ret
      exact ⟨rfl, hB⟩
end Go.Proofs.Ytkiddmbenepfjaa.Tm
