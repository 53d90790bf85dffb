/-
  Lists of nodes as the laws and both texts hold them; contracts of the laws' own helpers.
-/
import Derived.Test.YtmkfmolihlnafaaTrT
namespace Go.Proofs.Ytmkfmolihlnafaa.Tm
open Go.RowKit
open Go.Proofs.Ytmkfmolihlnafaa.Li (ret_bool ret_int below_none)
open Go.Proofs.Ytmkfmolihlnafaa.Tb (sub sub_yes sub_no)
open Go.Proofs.Ytmkfmolihlnafaa.Tr (Nd)
set_option linter.unusedVariables false

def I64 (x : Int) : Prop := -9223372036854775808 ≤ x ∧ x ≤ 9223372036854775807
/-- Every number of the node is one of Go's. -/
def NdOk (n : Nd) : Prop := I64 n.f ∧ I64 n.b ∧ I64 n.l ∧ I64 n.r ∧ I64 n.v
/-- The cells of nodes. -/
def nv : List Nd → List Value
  | [] => []
  | p :: ps => .int .i64 p.f :: .int .i64 p.b :: .int .i64 p.l :: .int .i64 p.r :: .int .i64 p.v :: nv ps
theorem nv_length (ps : List Nd) : (nv ps).length = ps.length * 5 := by
  induction ps with
  | nil => rfl
  | cons p ps ih => simp only [nv, List.length_cons, ih]; omega
theorem nv_get (ps : List Nd) (j : Nat) (h : j < ps.length) : (nv ps)[j * 5]? = some (.int .i64 ps[j].f) ∧ (nv ps)[j * 5 + 1]? = some (.int .i64 ps[j].b) ∧ (nv ps)[j * 5 + 2]? = some (.int .i64 ps[j].l) ∧ (nv ps)[j * 5 + 3]? = some (.int .i64 ps[j].r) ∧ (nv ps)[j * 5 + 4]? = some (.int .i64 ps[j].v) := by
  induction ps generalizing j with
  | nil => simp at h
  | cons p ps ih =>
    cases j with
    | zero => exact ⟨rfl, rfl, rfl, rfl, rfl⟩
    | succ j =>
      have := ih j (by simpa using h)
      rw [show (j + 1) * 5 = j * 5 + 1 + 1 + 1 + 1 + 1 by omega]
      simpa [nv] using this
theorem nv_set (ps : List Nd) (j : Nat) (a b c d e : Int) : (((((nv ps).set (j * 5) (.int .i64 a)).set (j * 5 + 1) (.int .i64 b)).set (j * 5 + 2) (.int .i64 c)).set (j * 5 + 3) (.int .i64 d)).set (j * 5 + 4) (.int .i64 e) = nv (ps.set j ⟨a, b, c, d, e⟩) := by
  induction ps generalizing j with
  | nil => simp [nv]
  | cons p ps ih =>
    cases j with
    | zero => simp [nv]
    | succ j =>
      rw [show (j + 1) * 5 = j * 5 + 1 + 1 + 1 + 1 + 1 by omega]
      simp only [nv, List.set_cons_succ, ih]
theorem nv_append (ps qs : List Nd) : nv ps ++ nv qs = nv (ps ++ qs) := by
  induction ps with
  | nil => rfl
  | cons p ps ih => simp [nv, ih]
/-- Five cells from o on read as the node. -/
def At5 (w : World) (b o : Nat) (n : Nd) : Prop :=
  w.cell? ⟨b, o, none⟩ = some (.int .i64 n.f) ∧ w.cell? ⟨b, o + 1, none⟩ = some (.int .i64 n.b) ∧ w.cell? ⟨b, o + 2, none⟩ = some (.int .i64 n.l) ∧ w.cell? ⟨b, o + 3, none⟩ = some (.int .i64 n.r) ∧ w.cell? ⟨b, o + 4, none⟩ = some (.int .i64 n.v)
/-- The slice of address a reads as these nodes. -/
def IsN (w : World) (a : Option Addr) (ps : List Nd) : Prop :=
  ps = [] ∨ ∃ b off, a = some ⟨b, off, none⟩ ∧ b < w.heap.size ∧ ∀ j (hj : j < ps.length), At5 w b (off + j * 5) ps[j]
theorem IsN.keptAt {w w1 : World} {a : Option Addr} {ps : List Nd} (h : IsN w a ps) (hs : w.heap.size ≤ w1.heap.size) (hk : ∀ x, a = some x → x.block < w.heap.size → w1.heap[x.block]? = w.heap[x.block]?) : IsN w1 a ps := by
  rcases h with h | ⟨b, off, rfl, hb, hc⟩
  · exact .inl h
  · refine .inr ⟨b, off, rfl, by omega, fun j hj => ?_⟩
    have hkb := hk ⟨b, off, none⟩ rfl hb
    obtain ⟨c0, c1, c2, c3, c4⟩ := hc j hj
    have f : ∀ o v, w.cell? ⟨b, o, none⟩ = some v → w1.cell? ⟨b, o, none⟩ = some v := fun o v h => by rw [World.cell?_of_block (w := w) (a := ⟨b, o, none⟩) hkb]; exact h
    exact ⟨f _ _ c0, f _ _ c1, f _ _ c2, f _ _ c3, f _ _ c4⟩
theorem IsN.below {w w1 : World} {a : Option Addr} {ps : List Nd} (h : IsN w a ps) (hb : Below w.heap.size w w1) : IsN w1 a ps :=
  h.keptAt hb.size (fun _ _ hx => hb.block _ hx)
theorem IsN.drewN {w : World} {a : Option Addr} {ps : List Nd} (h : IsN w a ps) (n : Nat) : IsN (w.drewN n) a ps := h
/-- A slice of nodes of the call's own. -/
def OwnN (w : World) (base : Nat) (v : Value) (ps : List Nd) : Prop := w.ownsRow base 64 5 v ps.length (nv ps)
theorem OwnN.cells {w : World} {base g cap n : Nat} {ps : List Nd} (h : OwnN w base (.slice (some ⟨g, 0, none⟩) n cap) ps) (hn : ps.length = n) (j : Nat) (hj : j < ps.length) : At5 w g (j * 5) ps[j] := by
  subst hn
  obtain ⟨c0, c1, c2, c3, c4⟩ := nv_get ps j hj
  refine ⟨?_, ?_, ?_, ?_, ?_⟩
  · rw [World.ownsRow.cellAt h (j * 5) (by omega), c0]
  · rw [World.ownsRow.cellAt h (j * 5 + 1) (by omega), c1]
  · rw [World.ownsRow.cellAt h (j * 5 + 2) (by omega), c2]
  · rw [World.ownsRow.cellAt h (j * 5 + 3) (by omega), c3]
  · rw [World.ownsRow.cellAt h (j * 5 + 4) (by omega), c4]
theorem OwnN.isn {w : World} {base : Nat} {v : Value} {ps : List Nd} (h : OwnN w base v ps) : ∃ a cap, v = .slice a ps.length cap ∧ ps.length ≤ cap ∧ IsN w a ps := by
  have h' := h
  rcases h.2 with ⟨rfl, h0⟩ | ⟨g, cap, cur, rfl, hb, hh, hc, _⟩
  · obtain rfl := List.length_eq_zero_iff.1 h0
    exact ⟨none, 0, rfl, Nat.le_refl _, .inl rfl⟩
  · refine ⟨_, cap, rfl, hc, .inr ⟨g, 0, rfl, (Array.getElem?_eq_some_iff.1 hh).1, fun j hj => ?_⟩⟩
    rw [Nat.zero_add]
    exact OwnN.cells h' rfl j hj
theorem OwnN.kept {w w1 : World} {base : Nat} {v : Value} {ps : List Nd} {row : Option Nat} (h : OwnN w base v ps) (hg : w.grownBy w1 row) (hne : v.ownBlock = none ∨ v.ownBlock ≠ row) : OwnN w1 base v ps := World.ownsRow.kept h hg hne
theorem OwnN.kept2 {w w1 : World} {base : Nat} {v : Value} {xs : List Nd} {r r' : Option Nat} (h : OwnN w base v xs) (hg : Fr2 w w1 r r') (hne : v.ownBlock = none ∨ v.ownBlock ≠ r) (hne' : v.ownBlock = none ∨ v.ownBlock ≠ r') : OwnN w1 base v xs := Tm.kept2 h hg hne hne'
theorem OwnN.below {w w1 : World} {base : Nat} {v : Value} {ps : List Nd} (h : OwnN w base v ps) (hb : Below w.heap.size w w1) : OwnN w1 base v ps :=
  World.ownsRow.kept (row := none) h ⟨hb.os, hb.tape, hb.output, hb.size, fun k hk _ => hb.block k hk⟩ (by cases hv : v.ownBlock <;> simp)
theorem OwnN.mono {w : World} {base base' : Nat} {v : Value} {ps : List Nd} (h : OwnN w base v ps) (hb : base' ≤ base) : OwnN w base' v ps := ownsRow_mono h hb
theorem OwnN.ge {w : World} {base : Nat} {v : Value} {ps : List Nd} (h : OwnN w base v ps) : ∀ k, v.ownBlock = some k → base ≤ k ∧ k < w.heap.size := World.ownsRow.lt h
theorem OwnN.frozen {w : World} {base g cap n : Nat} {ps : List Nd} (h : OwnN w base (.slice (some ⟨g, 0, none⟩) n cap) ps) (hn : ps.length = n) (j : Nat) : w.frozen? ⟨g, j, none⟩ = false := by
  subst hn
  exact World.ownsRow.frozenAt h j
/-- Five cells written. -/
def set5 (w : World) (g o : Nat) (a b c d e : Int) : World :=
  ((((w.setCell ⟨g, o, none⟩ (.int .i64 a)).setCell ⟨g, o + 1, none⟩ (.int .i64 b)).setCell ⟨g, o + 2, none⟩ (.int .i64 c)).setCell ⟨g, o + 3, none⟩ (.int .i64 d)).setCell ⟨g, o + 4, none⟩ (.int .i64 e)
theorem OwnN.set {w : World} {base g cap n : Nat} {ps : List Nd} (h : OwnN w base (.slice (some ⟨g, 0, none⟩) n cap) ps) (hn : ps.length = n) (j : Nat) (a b c d e : Int) :
    OwnN (set5 w g (j * 5) a b c d e) base (.slice (some ⟨g, 0, none⟩) n cap) (ps.set j ⟨a, b, c, d, e⟩) := by
  subst hn
  have := (World.ownsRow.stored (World.ownsRow.stored (World.ownsRow.stored (World.ownsRow.stored (World.ownsRow.stored h (j * 5) (.int .i64 a)).1 (j * 5 + 1) (.int .i64 b)).1 (j * 5 + 2) (.int .i64 c)).1 (j * 5 + 3) (.int .i64 d)).1 (j * 5 + 4) (.int .i64 e)).1
  rw [nv_set] at this
  unfold OwnN
  rwa [List.length_set]
theorem set5_size (w : World) (g o : Nat) (a b c d e : Int) : (set5 w g o a b c d e).heap.size = w.heap.size := by simp [set5, World.setCell]
theorem set5_grown (w : World) (g o : Nat) (a b c d e : Int) : w.grownBy (set5 w g o a b c d e) (some g) :=
  Li.grown_trans (Li.grown_trans (Li.grown_trans (Li.grown_trans (Li.grown_set _ _ _ _) (Li.grown_set _ _ _ _)) (Li.grown_set _ _ _ _)) (Li.grown_set _ _ _ _)) (Li.grown_set _ _ _ _)
theorem set5_below {B g o : Nat} {w w1 : World} {a b c d e : Int} (h : Below B w w1) (hg : B ≤ g) : Below B w (set5 w1 g o a b c d e) :=
  ((((h.setCell (p := ⟨g, o, none⟩) hg _).setCell (p := ⟨g, o + 1, none⟩) hg _).setCell (p := ⟨g, o + 2, none⟩) hg _).setCell (p := ⟨g, o + 3, none⟩) hg _).setCell (p := ⟨g, o + 4, none⟩) hg _
theorem ownN_made {w : World} {base n : Nat} {v : Value} (h : w.ownsRow base 64 5 v n (madeCells (Value.agg #[.int .i64 0, .int .i64 0, .int .i64 0, .int .i64 0, .int .i64 0]).cells (n * 5)).toList) : OwnN w base v (List.replicate n ⟨0, 0, 0, 0, 0⟩) := by
  unfold OwnN
  have e : (madeCells (Value.agg #[.int .i64 0, .int .i64 0, .int .i64 0, .int .i64 0, .int .i64 0]).cells (n * 5)).toList = nv (List.replicate n ⟨0, 0, 0, 0, 0⟩) := by
    apply List.ext_getElem?
    intro p
    by_cases hp : p < n * 5
    · have h5 : p % 5 = 0 ∨ p % 5 = 1 ∨ p % 5 = 2 ∨ p % 5 = 3 ∨ p % 5 = 4 := by omega
      have hz : (madeCells (Value.agg #[.int .i64 0, .int .i64 0, .int .i64 0, .int .i64 0, .int .i64 0]).cells (n * 5)).toList[p]? = some (.int .i64 0) := by
        simp [madeCells, hp, Value.cells]
        rcases h5 with e | e | e | e | e <;> simp [e]
      rw [hz]
      obtain ⟨c0, c1, c2, c3, c4⟩ := nv_get (List.replicate n ⟨0, 0, 0, 0, 0⟩) (p / 5) (by simp; omega)
      rcases h5 with e | e | e | e | e
      · rw [show p / 5 * 5 = p by omega] at c0; simpa using c0.symm
      · rw [show p / 5 * 5 + 1 = p by omega] at c1; simpa using c1.symm
      · rw [show p / 5 * 5 + 2 = p by omega] at c2; simpa using c2.symm
      · rw [show p / 5 * 5 + 3 = p by omega] at c3; simpa using c3.symm
      · rw [show p / 5 * 5 + 4 = p by omega] at c4; simpa using c4.symm
    · rw [List.getElem?_eq_none (by have := h.1; omega), List.getElem?_eq_none (by rw [nv_length]; simp; omega)]
  rw [e] at h
  simpa using h
theorem info_nd : (Try.prog.info? 64).map (fun i => (i.zero, i.size, i.bytes)) = some (some (.agg #[.int .i64 0, .int .i64 0, .int .i64 0, .int .i64 0, .int .i64 0]), 5, 40) := by kernel_rfl

set_option maxHeartbeats 1000000 in
theorem toNode (w : World) (n : Nd) :
    Calls Try.prog 48 #[.agg #[.int .i64 n.f, .int .i64 n.b, .int .i64 n.l, .int .i64 n.r, .int .i64 n.v]] w fun e w' => e = .returned (.agg #[.int .i64 n.f, .int .i64 n.b, .int .i64 n.l, .int .i64 n.r, .int .i64 n.v]) ∧ Below w.heap.size w w' := by
  go_enter Try.func48, Try.ntmps48
  go_wp2
  refine bodyPost_ret (v := .agg #[.int .i64 n.f, .int .i64 n.b, .int .i64 n.l, .int .i64 n.r, .int .i64 n.v]) (by rw [results_cell rfl]; go_simp) rfl ⟨rfl, ?_⟩
  exact (((Below.refl _ _).alloc (Nat.le_refl _) _).alloc (by simp) _).alloc (by simp; omega) _
set_option maxHeartbeats 1000000 in
theorem toN (w : World) (a : Option Addr) (cap : Nat) (ps : List Nd) (hx : IsN w a ps) (hl : ps.length ≤ 1048576) :
    Calls Try.prog 28 #[.slice a ps.length cap] w fun e w' => e = .returned (.slice (some ⟨w.heap.size, 0, none⟩) ps.length ps.length) ∧ OwnN w' w.heap.size (.slice (some ⟨w.heap.size, 0, none⟩) ps.length ps.length) ps ∧ Below w.heap.size w w' := by
  obtain ⟨i0, hi, hz0, hz1, hz2⟩ := info_parts info_nd
  go_enter Try.func28, Try.ntmps28
  go_wp2_with (at_make; refine wpList_make_full _ rfl _ _ 38 rfl w.heap.size 64 i0 (.agg #[.int .i64 0, .int .i64 0, .int .i64 0, .int .i64 0, .int .i64 0]) 5 Try.underlying38 hi hz0 hz1 _ _ _ _ ps.length rfl rfl (by omega) (by omega) (by rw [hz2]; omega) (by unfold maxLen; omega) (Nat.le_refl _) ?_; intro w1 hown hgrow)
  have hown' := ownN_made hown
  have hB1 := below_none hgrow
  clear hown hgrow
  go_loopw [4] (fun i wr => ∃ k : Nat, k ≤ ps.length ∧ i = .int .i64 k ∧ ∃ l : List Nd, l.length = ps.length ∧ LikeP l ps k ∧ OwnN wr w.heap.size (.slice (some ⟨w.heap.size, 0, none⟩) ps.length ps.length) l ∧ Below w.heap.size w wr) (fun i _ => ps.length - (intOf i).toNat)
  case atStart => exact ⟨0, Nat.zero_le _, rfl, _, by simp, fun j hj => by omega, hown', hB1⟩
  case round =>
    obtain ⟨k, hk, rfl, l, hll, hlike, hown, hB⟩ := hrel
    by_cases hlt : k < ps.length
    · rcases hx.below hB with rfl | ⟨b, off, rfl, hb, hc⟩
      · simp at hlt
      · obtain ⟨cx0, cx1, cx2, cx3, cx4⟩ := hc k hlt
        have hgs : w.heap.size < wr.heap.size := (hown.ge w.heap.size rfl).2
        have HL : Hid (LikeP (l.set k ps[k]) ps (k + 1)) := likeP_set hlike hlt hll
        clear hlike hc
        go_wp2_with fail
        refine (toNode _ ps[k]).mono ?_
        rintro e w2 ⟨rfl, hB2⟩
        have hown := hown.below hB2
        have hB := hB.trans (hB2.mono hB.size)
        obtain ⟨c0, c1, c2, c3, c4⟩ := hown.cells hll k (by omega)
        have f0 := hown.frozen hll (k * 5)
        have f1 := hown.frozen hll (k * 5 + 1)
        have f2 := hown.frozen hll (k * 5 + 2)
        have f3 := hown.frozen hll (k * 5 + 3)
        have f4 := hown.frozen hll (k * 5 + 4)
        have HO : Hid (OwnN w2 w.heap.size (.slice (some ⟨w.heap.size, 0, none⟩) ps.length ps.length) l) := hown
        clear hown hB2 cx0 cx1 cx2 cx3 cx4
        go_wp2
        go_roundw
        case rel => exact ⟨k + 1, by omega, by go_num, l.set k ps[k], by simpa using hll, HL.out, HO.out.set hll k _ _ _ _ _, set5_below hB (Nat.le_refl _)⟩
        case measure => simp [intOf]; omega
    · obtain rfl : k = ps.length := by omega
      obtain rfl := likeP_all hlike hll
      go_wp2
      go_ret
      exact ⟨rfl, hown, hB⟩
set_option maxHeartbeats 400000 in
theorem szN (w : World) (a : Option Addr) (n cap : Nat) (left : Int) (h0 : 0 ≤ left) (h1 : left ≤ 1048576) (hn : n ≤ 9223372036854775807) :
    Calls Try.prog 26 #[.slice a n cap, .int .i64 left] w fun e w' => e = .returned (.int .i64 (sub left n)) ∧ w' = w := by
  by_cases h : (n : Int) ≤ left
  · rw [sub_yes h]
    go_enter Try.func26, Try.ntmps26
    go_wp2
    go_ret
    exact ⟨rfl, rfl⟩
  · rw [sub_no h]
    go_enter Try.func26, Try.ntmps26
    go_wp2
    go_ret
    exact ⟨rfl, rfl⟩
def eqn (xs ys : List Nd) : Prop := xs = ys
set_option maxHeartbeats 2000000 in
theorem eqNode (w : World) (n : Nd) :
    Calls Try.prog 45 #[.agg #[.int .i64 n.f, .int .i64 n.b, .int .i64 n.l, .int .i64 n.r, .int .i64 n.v], .agg #[.int .i64 n.f, .int .i64 n.b, .int .i64 n.l, .int .i64 n.r, .int .i64 n.v]] w fun e w' => e = .returned (.bool true) ∧ Below w.heap.size w w' := by
  go_enter Try.func45, Try.ntmps45
  go_wp2
  go_ret
  exact ⟨rfl, ((Below.refl _ _).alloc (Nat.le_refl _) _).alloc (by simp) _⟩
set_option maxHeartbeats 1000000 in
/-- A list of nodes is the same as itself, wherever the two lie. -/
theorem eqN (w : World) (a b : Option Addr) (ca cb : Nat) (xs : List Nd) (hx : IsN w a xs) (hy : IsN w b xs) (hl : xs.length ≤ 1048576) :
    Calls Try.prog 22 #[.slice a xs.length ca, .slice b xs.length cb] w fun e w' => e = .returned (.bool true) ∧ Below w.heap.size w w' := by
  have hb : ((xs.length : Int) != (xs.length : Int)) = false := by simp
  go_enter Try.func22, Try.ntmps22
  go_wp2
  go_loopw [5] (fun i wr => ∃ k : Nat, k ≤ xs.length ∧ i = .int .i64 k ∧ Below w.heap.size w wr) (fun i _ => xs.length - (intOf i).toNat)
  case atStart => exact ⟨0, Nat.zero_le _, rfl, Below.refl _ _⟩
  case round =>
    obtain ⟨k, hk, rfl, hB⟩ := hrel
    by_cases hlt : k < xs.length
    · rcases hx.below hB with rfl | ⟨xb, xo, rfl, hxb, hxc⟩
      · simp at hlt
      · rcases hy.below hB with rfl | ⟨yb, yo, rfl, hyb, hyc⟩
        · simp at hlt
        · obtain ⟨cx0, cx1, cx2, cx3, cx4⟩ := hxc k hlt
          obtain ⟨cy0, cy1, cy2, cy3, cy4⟩ := hyc k hlt
          clear hxc hyc
          go_wp2
          go_region_with (go_at_call 45; refine (eqNode _ xs[k]).mono ?_; rintro e w1 ⟨rfl, hB1⟩)
          all_goals
            have hB : Below w.heap.size w w1 := by first | exact hB.trans (hB1.mono hB.size) | exact hB.drew.trans (hB1.mono hB.size)
            clear hB1
            go_wp2
            go_roundw
            case rel => exact ⟨k + 1, by omega, by go_num, hB⟩
            case measure => simp [intOf]; omega
    · go_wp2
      go_ret
      exact ⟨rfl, hB⟩
def nmarks (k : Int) (n : Nat) : List Nd := (List.range n).map fun (j : Nat) => ⟨k + 5 * (j : Int), k + 5 * (j : Int) + 1, k + 5 * (j : Int) + 1 + 1, k + 5 * (j : Int) + 1 + 1 + 1, k + 5 * (j : Int) + 1 + 1 + 1 + 1⟩
theorem nmarks_length (k : Int) (n : Nat) : (nmarks k n).length = n := by simp [nmarks]
theorem nmarks_get (k : Int) (n j : Nat) (h : j < (nmarks k n).length) : (nmarks k n)[j] = ⟨k + 5 * (j : Int), k + 5 * (j : Int) + 1, k + 5 * (j : Int) + 1 + 1, k + 5 * (j : Int) + 1 + 1 + 1, k + 5 * (j : Int) + 1 + 1 + 1 + 1⟩ := by simp [nmarks]
set_option maxHeartbeats 4000000 in
theorem markN (w : World) (base : Nat) (a : Option Addr) (n cap : Nat) (k : Int) (xs : List Nd) (hn : xs.length = n) (h : OwnN w base (.slice a n cap) xs) (hl : n ≤ 1048576) (k0 : 0 ≤ k) (k1 : k ≤ 1000000000000) :
    Calls Try.prog 24 #[.slice a n cap, .int .i64 k] w fun e w' => e = .returned (.int .i64 (k + 5 * n)) ∧ OwnN w' base (.slice a n cap) (nmarks k n) ∧ w.grownBy w' (Value.slice a n cap).ownBlock ∧ w'.heap.size = w.heap.size := by
  go_enter Try.func24, Try.ntmps24
  go_wp2
  go_loopw [1, 5] (fun q i wr => ∃ j : Nat, j ≤ n ∧ i = .int .i64 j ∧ q = .int .i64 (k + 5 * j) ∧ ∃ l : List Nd, l.length = n ∧ LikeP l (nmarks k n) j ∧ OwnN wr base (.slice a n cap) l ∧ w.grownBy wr (Value.slice a n cap).ownBlock ∧ wr.heap.size = w.heap.size) (fun _ i _ => n - (intOf i).toNat)
  case atStart => exact ⟨0, Nat.zero_le _, rfl, by go_num, xs, hn, fun j hj => by omega, h, Li.grown_refl _ _, rfl⟩
  case round =>
    obtain ⟨j, hj, rfl, rfl, l, hll, hlike, hown, hg, hz⟩ := hrel
    have HZ : Hid (wr.heap.size = w.heap.size) := hz
    clear hz h
    by_cases hlt : j < n
    · have hown0 := hown
      rcases hown0.2 with ⟨hv, h0⟩ | ⟨g, cap', cur, hv, _⟩
      · omega
      · obtain ⟨rfl, rfl, rfl⟩ : a = some ⟨g, 0, none⟩ ∧ n = l.length ∧ cap = cap' := by simpa using hv
        clear hv hown0
        obtain ⟨hc0, hc1, hc2, hc3, hc4⟩ := hown.cells rfl j hlt
        have hf0 := hown.frozen rfl (j * 5)
        have hf1 := hown.frozen rfl (j * 5 + 1)
        have hf2 := hown.frozen rfl (j * 5 + 2)
        have hf3 := hown.frozen rfl (j * 5 + 3)
        have hf4 := hown.frozen rfl (j * 5 + 4)
        have HO : Hid (OwnN wr base (.slice (some ⟨g, 0, none⟩) l.length cap) l) := hown
        have HL : Hid (LikeP (l.set j ⟨k + 5 * j, k + 5 * j + 1, k + 5 * j + 1 + 1, k + 5 * j + 1 + 1 + 1, k + 5 * j + 1 + 1 + 1 + 1⟩) (nmarks k l.length) (j + 1)) := by
          have := likeP_set hlike (by rw [nmarks_length]; exact hlt) (by rw [nmarks_length])
          rwa [nmarks_get] at this
        clear hown hlike
        go_wp2
        go_roundw
        case rel => exact ⟨j + 1, by omega, by go_num, by go_num, _, by simp, HL.out, HO.out.set rfl j _ _ _ _ _, Li.grown_trans hg (set5_grown _ _ _ _ _ _ _ _), by rw [← HZ.out]; exact set5_size _ _ _ _ _ _ _ _⟩
        case measure => simp [intOf]; omega
    · obtain rfl : j = n := by omega
      have HO : Hid (OwnN wr base (.slice a j cap) (nmarks k j)) := by
        have e := likeP_all (xs := nmarks k j) (by rw [nmarks_length]; exact hlike) (by rw [nmarks_length]; exact hll)
        rw [← e]; exact hown
      clear hown hlike
      go_wp2
      go_ret
      exact ⟨rfl, HO.out, hg, HZ.out⟩
set_option maxHeartbeats 4000000 in
theorem heldN (w : World) (a : Option Addr) (n cap : Nat) (k : Int) (h : IsN w a (nmarks k n)) (hl : n ≤ 1048576) (k0 : 0 ≤ k) (k1 : k ≤ 1000000000000) :
    Calls Try.prog 25 #[.slice a n cap, .int .i64 k] w fun e w' => e = .returned (.int .i64 (k + 5 * n)) ∧ w' = w := by
  go_enter Try.func25, Try.ntmps25
  go_wp2
  go_loop [1, 5] (fun q i => ∃ j : Nat, j ≤ n ∧ i = .int .i64 j ∧ q = .int .i64 (k + 5 * j)) (fun _ i => n - (intOf i).toNat)
  case atStart => exact ⟨0, Nat.zero_le _, rfl, by go_num⟩
  case round =>
    obtain ⟨j, hj, rfl, rfl⟩ := hrel
    by_cases hlt : j < n
    · rcases h with h | ⟨b, off, rfl, hb, hc⟩
      · have := nmarks_length k n; rw [h] at this; simp at this; omega
      · obtain ⟨h0, h1, h2, h3, h4⟩ := hc j (by rw [nmarks_length]; exact hlt)
        rw [nmarks_get] at h0 h1 h2 h3 h4
        clear hc
        go_wp2
        go_round
        case rel => exact ⟨j + 1, by omega, by go_num, by go_num⟩
        case measure => simp [intOf]; omega
    · obtain rfl : j = n := by omega
      go_wp2
      go_ret
      exact ⟨rfl, rfl⟩
end Go.Proofs.Ytmkfmolihlnafaa.Tm
