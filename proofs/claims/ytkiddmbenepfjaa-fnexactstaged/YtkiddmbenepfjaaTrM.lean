/-
  Trees as the laws and both texts hold them: lists of questions, a tree; contracts of the laws' own helpers (how great, a copy, a comparison, marks and whether they are held).
-/
import Derived.Test.YtkiddmbenepfjaaTre
import Derived.Test.YtkiddmbenepfjaaSiz
import Derived.Deep.RegionWith
namespace Go.Proofs.Ytkiddmbenepfjaa.Tm
open Go.RowKit
open Go.Proofs.Ytkiddmbenepfjaa.Li (ret_bool ret_int below_none)
open Go.Proofs.Ytkiddmbenepfjaa.Tb (sub sub_yes sub_no)

/-- The cells of questions. -/
def pv : List (Int × Int) → List Value
  | [] => []
  | p :: ps => .int .i64 p.1 :: .int .i64 p.2 :: pv ps
theorem pv_length (ps : List (Int × Int)) : (pv ps).length = ps.length * 2 := by
  induction ps with
  | nil => rfl
  | cons p ps ih => simp only [pv, List.length_cons, ih]; omega
theorem pv_get (ps : List (Int × Int)) (j : Nat) (h : j < ps.length) : (pv ps)[j * 2]? = some (.int .i64 ps[j].1) ∧ (pv ps)[j * 2 + 1]? = some (.int .i64 ps[j].2) := by
  induction ps generalizing j with
  | nil => simp at h
  | cons p ps ih =>
    cases j with
    | zero => exact ⟨rfl, rfl⟩
    | succ j =>
      have := ih j (by simpa using h)
      rw [show (j + 1) * 2 = j * 2 + 1 + 1 by omega]
      simpa [pv] using this
theorem pv_set (ps : List (Int × Int)) (j : Nat) (x y : Int) : ((pv ps).set (j * 2) (.int .i64 x)).set (j * 2 + 1) (.int .i64 y) = pv (ps.set j (x, y)) := by
  induction ps generalizing j with
  | nil => simp [pv]
  | cons p ps ih =>
    cases j with
    | zero => simp [pv]
    | succ j =>
      rw [show (j + 1) * 2 = j * 2 + 1 + 1 by omega]
      simp only [pv, List.set_cons_succ, ih]
theorem pv_append (ps qs : List (Int × Int)) : pv ps ++ pv qs = pv (ps ++ qs) := by
  induction ps with
  | nil => rfl
  | cons p ps ih => simp [pv, ih]
theorem pv_zero (n : Nat) : pv (List.replicate n (0, 0)) = (List.replicate n [Value.int .i64 0, Value.int .i64 0]).flatten := by
  induction n with
  | zero => rfl
  | succ n ih => simp [List.replicate_succ, pv, ih]

/-- The slice of address a reads as these questions. -/
def IsP (w : World) (a : Option Addr) (ps : List (Int × Int)) : Prop :=
  ps = [] ∨ ∃ b off, a = some ⟨b, off, none⟩ ∧ b < w.heap.size ∧ ∀ j (hj : j < ps.length), w.cell? ⟨b, off + j * 2, none⟩ = some (.int .i64 ps[j].1) ∧ w.cell? ⟨b, off + j * 2 + 1, none⟩ = some (.int .i64 ps[j].2)
theorem IsP.keptAt {w w1 : World} {a : Option Addr} {ps : List (Int × Int)} (h : IsP w a ps) (hs : w.heap.size ≤ w1.heap.size) (hk : ∀ x, a = some x → x.block < w.heap.size → w1.heap[x.block]? = w.heap[x.block]?) : IsP w1 a ps := by
  rcases h with h | ⟨b, off, rfl, hb, hc⟩
  · exact .inl h
  · refine .inr ⟨b, off, rfl, by omega, fun j hj => ⟨?_, ?_⟩⟩
    · rw [World.cell?_of_block (w := w) (a := ⟨b, off + j * 2, none⟩) (hk ⟨b, off, none⟩ rfl hb)]; exact (hc j hj).1
    · rw [World.cell?_of_block (w := w) (a := ⟨b, off + j * 2 + 1, none⟩) (hk ⟨b, off, none⟩ rfl hb)]; exact (hc j hj).2
theorem IsP.below {w w1 : World} {a : Option Addr} {ps : List (Int × Int)} (h : IsP w a ps) (hb : Below w.heap.size w w1) : IsP w1 a ps :=
  h.keptAt hb.size (fun _ _ hx => hb.block _ hx)
theorem IsP.drewN {w : World} {a : Option Addr} {ps : List (Int × Int)} (h : IsP w a ps) (n : Nat) : IsP (w.drewN n) a ps := h
/-- A slice of questions of the call's own. -/
def OwnP (w : World) (base : Nat) (v : Value) (ps : List (Int × Int)) : Prop := w.ownsRow base 91 2 v ps.length (pv ps)
theorem OwnP.isp {w : World} {base : Nat} {v : Value} {ps : List (Int × Int)} (h : OwnP w base v ps) : ∃ a cap, v = .slice a ps.length cap ∧ ps.length ≤ cap ∧ IsP w a ps := by
  have h' := h
  rcases h.2 with ⟨rfl, h0⟩ | ⟨g, cap, cur, rfl, hb, hh, hc, _⟩
  · obtain rfl := List.length_eq_zero_iff.1 h0
    exact ⟨none, 0, rfl, Nat.le_refl _, .inl rfl⟩
  · refine ⟨_, cap, rfl, hc, .inr ⟨g, 0, rfl, (Array.getElem?_eq_some_iff.1 hh).1, fun j hj => ?_⟩⟩
    have := pv_get ps j hj
    rw [Nat.zero_add]
    exact ⟨by rw [World.ownsRow.cellAt h' (j * 2) (by omega), this.1], by rw [World.ownsRow.cellAt h' (j * 2 + 1) (by omega), this.2]⟩
theorem OwnP.kept {w w1 : World} {base : Nat} {v : Value} {ps : List (Int × Int)} {row : Option Nat} (h : OwnP w base v ps) (hg : w.grownBy w1 row) (hne : v.ownBlock = none ∨ v.ownBlock ≠ row) : OwnP w1 base v ps := World.ownsRow.kept h hg hne
theorem OwnP.below {w w1 : World} {base : Nat} {v : Value} {ps : List (Int × Int)} (h : OwnP w base v ps) (hb : Below w.heap.size w w1) : OwnP w1 base v ps :=
  World.ownsRow.kept (row := none) h ⟨hb.os, hb.tape, hb.output, hb.size, fun k hk _ => hb.block k hk⟩ (by cases hv : v.ownBlock <;> simp)
theorem ownsRow_mono {w : World} {base base' s n : Nat} {t : TypeId} {v : Value} {xs : List Value} (h : w.ownsRow base t s v n xs) (hb : base' ≤ base) : w.ownsRow base' t s v n xs := by
  refine ⟨h.1, ?_⟩
  rcases h.2 with h | ⟨g, cap, cur, e, hb', r⟩
  · exact .inl h
  · exact .inr ⟨g, cap, cur, e, by omega, r⟩
theorem OwnP.mono {w : World} {base base' : Nat} {v : Value} {ps : List (Int × Int)} (h : OwnP w base v ps) (hb : base' ≤ base) : OwnP w base' v ps := ownsRow_mono h hb
theorem OwnP.ge {w : World} {base : Nat} {v : Value} {ps : List (Int × Int)} (h : OwnP w base v ps) : ∀ k, v.ownBlock = some k → base ≤ k ∧ k < w.heap.size := World.ownsRow.lt h
theorem OwnP.cell {w : World} {base g cap n : Nat} {ps : List (Int × Int)} (h : OwnP w base (.slice (some ⟨g, 0, none⟩) n cap) ps) (hn : ps.length = n) (j : Nat) (hj : j < ps.length) : w.cell? ⟨g, j * 2, none⟩ = some (.int .i64 ps[j].1) ∧ w.cell? ⟨g, j * 2 + 1, none⟩ = some (.int .i64 ps[j].2) := by
  subst hn
  have := pv_get ps j hj
  exact ⟨by rw [World.ownsRow.cellAt h (j * 2) (by omega), this.1], by rw [World.ownsRow.cellAt h (j * 2 + 1) (by omega), this.2]⟩
theorem OwnP.frozen {w : World} {base g cap n : Nat} {ps : List (Int × Int)} (h : OwnP w base (.slice (some ⟨g, 0, none⟩) n cap) ps) (hn : ps.length = n) (j : Nat) : w.frozen? ⟨g, j, none⟩ = false := by
  subst hn
  exact World.ownsRow.frozenAt h j
theorem OwnP.set {w : World} {base g cap n : Nat} {ps : List (Int × Int)} (h : OwnP w base (.slice (some ⟨g, 0, none⟩) n cap) ps) (hn : ps.length = n) (j : Nat) (x y : Int) :
    OwnP ((w.setCell ⟨g, j * 2, none⟩ (.int .i64 x)).setCell ⟨g, j * 2 + 1, none⟩ (.int .i64 y)) base (.slice (some ⟨g, 0, none⟩) n cap) (ps.set j (x, y)) := by
  subst hn
  have := (World.ownsRow.stored (World.ownsRow.stored h (j * 2) (.int .i64 x)).1 (j * 2 + 1) (.int .i64 y)).1
  rw [pv_set] at this
  unfold OwnP
  rwa [List.length_set]
theorem ownP_made {w : World} {base n : Nat} {v : Value} (h : w.ownsRow base 91 2 v n (madeCells (Value.agg #[.int .i64 0, .int .i64 0]).cells (n * 2)).toList) : OwnP w base v (List.replicate n (0, 0)) := by
  unfold OwnP
  have e : (madeCells (Value.agg #[.int .i64 0, .int .i64 0]).cells (n * 2)).toList = pv (List.replicate n (0, 0)) := by
    apply List.ext_getElem?
    intro p
    by_cases hp : p < n * 2
    · have hz : (madeCells (Value.agg #[.int .i64 0, .int .i64 0]).cells (n * 2)).toList[p]? = some (.int .i64 0) := by
        have h2 : p % 2 < 2 := Nat.mod_lt _ (by decide)
        simp [madeCells, hp, Value.cells]
        rcases Nat.mod_two_eq_zero_or_one p with e | e <;> simp [e]
      rw [hz]
      have hg := pv_get (List.replicate n (0, 0)) (p / 2) (by simp; omega)
      rcases Nat.mod_two_eq_zero_or_one p with e | e
      · have := hg.1; rw [show p / 2 * 2 = p by omega] at this; simpa using this.symm
      · have := hg.2; rw [show p / 2 * 2 + 1 = p by omega] at this; simpa using this.symm
    · rw [List.getElem?_eq_none (by have := h.1; omega), List.getElem?_eq_none (by rw [pv_length]; simp; omega)]
  rw [e] at h
  simpa using h
theorem info_spl : (Try.prog.info? 91).map (fun i => (i.zero, i.size, i.bytes)) = some (some (.agg #[.int .i64 0, .int .i64 0]), 2, 16) := by kernel_rfl
theorem results_cell {fn : Func} {p : Tmp} {ty : TypeId} (h : fn.results = #[.cell p ty]) (tmps : Array Value) (P : Program) (w : World) :
    (results fn tmps).run P w = ((asAddr (tmps.getD p undef)).run P w).andThen fun a w₁ => (loadVar ty a).run P w₁ := by
  simp only [results, h]
  simp [Sem.run_bind, Result.andThen]
/-- Of two lists of questions the first k are alike. -/
def LikeP {α : Type} (xs ys : List α) (k : Nat) : Prop := ∀ j, j < k → xs[j]? = ys[j]?
theorem likeP_set {α : Type} {xs ys : List α} {k : Nat} (h : LikeP ys xs k) (hk : k < xs.length) (hl : ys.length = xs.length) : LikeP (ys.set k xs[k]) xs (k + 1) := by
  intro j hj
  rw [List.getElem?_set]
  split
  · rename_i e
    subst e
    rw [if_pos (by omega), List.getElem?_eq_getElem hk]
  · exact h j (by omega)
theorem likeP_all {α : Type} {xs ys : List α} (h : LikeP ys xs xs.length) (hl : ys.length = xs.length) : ys = xs := by
  apply List.ext_getElem?
  intro j
  by_cases hj : j < xs.length
  · exact h j hj
  · rw [List.getElem?_eq_none (by omega), List.getElem?_eq_none (by omega)]
theorem likeP_step {α : Type} {xs ys : List α} {k : Nat} (h : LikeP xs ys k) (hx : k < xs.length) (hy : k < ys.length) (e : xs[k] = ys[k]) : LikeP xs ys (k + 1) := by
  intro j hj
  by_cases hjk : j = k
  · subst hjk; rw [List.getElem?_eq_getElem hx, List.getElem?_eq_getElem hy, e]
  · exact h j (by omega)
theorem below_drewN' (w : World) (n : Nat) : Below w.heap.size w (w.drewN n) := ⟨rfl, rfl, rfl, Nat.le_refl _, fun _ _ => rfl⟩

set_option maxHeartbeats 1000000 in
theorem toSplit (w : World) (x y : Int) :
    Calls Try.prog 98 #[.agg #[.int .i64 x, .int .i64 y]] w fun e w' => e = .returned (.agg #[.int .i64 x, .int .i64 y]) ∧ Below w.heap.size w w' := by
  go_enter Try.func98, Try.ntmps98
  go_wp2
  refine bodyPost_ret (v := .agg #[.int .i64 x, .int .i64 y]) (by rw [results_cell rfl]; go_simp) rfl ⟨rfl, ?_⟩
  exact (((Below.refl _ _).alloc (Nat.le_refl _) _).alloc (by simp) _).alloc (by simp; omega) _
set_option maxHeartbeats 1000000 in
theorem toP (w : World) (a : Option Addr) (cap : Nat) (ps : List (Int × Int)) (hx : IsP w a ps) (hl : ps.length ≤ 1048576) :
    Calls Try.prog 84 #[.slice a ps.length cap] w fun e w' => e = .returned (.slice (some ⟨w.heap.size, 0, none⟩) ps.length ps.length) ∧ OwnP w' w.heap.size (.slice (some ⟨w.heap.size, 0, none⟩) ps.length ps.length) ps ∧ Below w.heap.size w w' := by
  obtain ⟨i0, hi, hz0, hz1, hz2⟩ := info_parts info_spl
  go_enter Try.func84, Try.ntmps84
  go_wp2_with (at_make; refine wpList_make_full _ rfl _ _ 63 rfl w.heap.size 91 i0 (.agg #[.int .i64 0, .int .i64 0]) 2 Try.underlying63 hi hz0 hz1 _ _ _ _ ps.length rfl rfl (by omega) (by omega) (by rw [hz2]; omega) (by unfold maxLen; omega) (Nat.le_refl _) ?_; intro w1 hown hgrow)
  have hown' := ownP_made hown
  have hB1 := below_none hgrow
  clear hown hgrow
  go_loopw [4] (fun i wr => ∃ k : Nat, k ≤ ps.length ∧ i = .int .i64 k ∧ ∃ l : List (Int × Int), l.length = ps.length ∧ LikeP l ps k ∧ OwnP wr w.heap.size (.slice (some ⟨w.heap.size, 0, none⟩) ps.length ps.length) l ∧ Below w.heap.size w wr) (fun i _ => ps.length - (intOf i).toNat)
  case atStart => exact ⟨0, Nat.zero_le _, rfl, _, by simp, fun j hj => by omega, hown', hB1⟩
  case round =>
    obtain ⟨k, hk, rfl, l, hll, hlike, hown, hB⟩ := hrel
    by_cases hlt : k < ps.length
    · rcases hx with rfl | ⟨b, off, rfl, hb, hc⟩
      · simp at hlt
      · have hcx : wr.cell? ⟨b, off + k * 2, none⟩ = some (.int .i64 ps[k].1) := (hB.cell (by exact hb)).trans (hc k hlt).1
        have hcy : wr.cell? ⟨b, off + k * 2 + 1, none⟩ = some (.int .i64 ps[k].2) := (hB.cell (by exact hb)).trans (hc k hlt).2
        have hgs : w.heap.size < wr.heap.size := (hown.ge w.heap.size rfl).2
        have HL : Hid (LikeP (l.set k ps[k]) ps (k + 1)) := likeP_set hlike hlt hll
        clear hlike hc
        go_wp2_with fail
        refine (toSplit _ _ _).mono ?_
        rintro e w2 ⟨rfl, hB2⟩
        have hown := hown.below hB2
        have hB := hB.trans (hB2.mono hB.size)
        obtain ⟨c0, c1⟩ := hown.cell hll k (by omega)
        have f0 := hown.frozen hll (k * 2)
        have f1 := hown.frozen hll (k * 2 + 1)
        have HO : Hid (OwnP w2 w.heap.size (.slice (some ⟨w.heap.size, 0, none⟩) ps.length ps.length) l) := hown
        clear hown hB2 hcx hcy
        go_wp2
        go_roundw
        case rel => exact ⟨k + 1, by omega, by go_num, l.set k ps[k], by simpa using hll, HL.out, HO.out.set hll k _ _, (hB.setCell (p := ⟨w.heap.size, k * 2, none⟩) (Nat.le_refl _) _).setCell (p := ⟨w.heap.size, k * 2 + 1, none⟩) (Nat.le_refl _) _⟩
        case measure => simp [intOf]; omega
    · obtain rfl : k = ps.length := by omega
      obtain rfl := likeP_all hlike hll
      go_wp2
      go_ret
      exact ⟨rfl, hown, hB⟩
def eqp (xs ys : List (Int × Int)) : Bool := decide (xs = ys)
theorem eqp_self (xs : List (Int × Int)) : eqp xs xs = true := by simp [eqp]
theorem eqp_len {xs ys : List (Int × Int)} (h : ¬ xs.length = ys.length) : eqp xs ys = false := by unfold eqp; simp; intro e; exact h (by rw [e])
theorem eqp_all {xs ys : List (Int × Int)} (h : LikeP xs ys ys.length) (hl : xs.length = ys.length) : eqp xs ys = true := by unfold eqp; simp; exact likeP_all h hl
theorem eqp_no {xs ys : List (Int × Int)} {k : Nat} (hx : k < xs.length) (hy : k < ys.length) (h : ¬ xs[k] = ys[k]) : eqp xs ys = false := by
  unfold eqp; simp; intro e; subst e; exact h rfl
def eq2 (x y : Int × Int) : Bool := decide (x.1 = y.1 ∧ x.2 = y.2)
theorem eq2_iff {x y : Int × Int} : eq2 x y = true ↔ x = y := by
  obtain ⟨a, b⟩ := x; obtain ⟨c, d⟩ := y; simp [eq2]
set_option maxHeartbeats 1000000 in
theorem eqSplit (w : World) (x y : Int × Int) :
    Calls Try.prog 103 #[.agg #[.int .i64 x.1, .int .i64 x.2], .agg #[.int .i64 y.1, .int .i64 y.2]] w fun e w' => e = .returned (.bool (eq2 x y)) ∧ Below w.heap.size w w' := by
  go_enter Try.func103, Try.ntmps103
  go_wp2
  all_goals go_ret
  all_goals refine ⟨ret_bool ?_, ((Below.refl _ _).alloc (Nat.le_refl _) _).alloc (by simp) _⟩
  all_goals simp [eq2] at *
  all_goals omega
set_option maxHeartbeats 1000000 in
theorem eqP_len (w : World) (a b : Option Addr) (n m ca cb : Nat) (h : ¬ n = m) (_hn : n ≤ 1048576) (_hm : m ≤ 1048576) :
    Calls Try.prog 91 #[.slice a n ca, .slice b m cb] w fun e w' => e = .returned (.bool false) ∧ w' = w := by
  go_enter Try.func91, Try.ntmps91
  go_wp2
  go_ret
  exact ⟨rfl, rfl⟩
set_option maxHeartbeats 1000000 in
theorem eqP_walk (w : World) (a b : Option Addr) (ca cb : Nat) (xs ys : List (Int × Int)) (hx : IsP w a xs) (hy : IsP w b ys) (he : xs.length = ys.length) (hl : xs.length ≤ 1048576) :
    Calls Try.prog 91 #[.slice a xs.length ca, .slice b ys.length cb] w fun e w' => e = .returned (.bool (eqp xs ys)) ∧ Below w.heap.size w w' := by
  have hb : ((xs.length : Int) != (ys.length : Int)) = false := by simp; omega
  have HE : Hid (xs.length = ys.length) := he
  clear he
  go_enter Try.func91, Try.ntmps91
  go_wp2
  go_loopw [5] (fun i wr => ∃ k : Nat, k ≤ xs.length ∧ i = .int .i64 k ∧ LikeP xs ys k ∧ Below w.heap.size w wr) (fun i _ => xs.length - (intOf i).toNat)
  case atStart => exact ⟨0, Nat.zero_le _, rfl, fun j hj => by omega, Below.refl _ _⟩
  case round =>
    obtain ⟨k, hk, rfl, hlike, hB⟩ := hrel
    have HL : Hid (LikeP xs ys k) := hlike
    clear hlike
    by_cases hlt : k < xs.length
    · rcases hx.below hB with rfl | ⟨xb, xo, rfl, hxb, hxc⟩
      · simp at hlt
      · rcases hy.below hB with rfl | ⟨yb, yo, rfl, hyb, hyc⟩
        · have := HE.out; simp at this; simp [this] at hlt
        · have hlt' : k < ys.length := by have := HE.out; omega
          obtain ⟨cx0, cx1⟩ := hxc k hlt
          obtain ⟨cy0, cy1⟩ := hyc k hlt'
          clear hxc hyc
          go_wp2
          go_region_with (go_at_call 103; refine (eqSplit _ xs[k] ys[k]).mono ?_; rintro e w1 ⟨rfl, hB1⟩)
          all_goals
            have hB : Below w.heap.size w w1 := by first | exact hB.trans (hB1.mono hB.size) | exact hB.drew.trans (hB1.mono hB.size)
            clear hB1
            cases hq : eq2 xs[k] ys[k]
            · have HF : Hid (eqp xs ys = false) := eqp_no hlt hlt' (fun e => by rw [eq2_iff.2 e] at hq; cases hq)
              clear hq
              go_wp2
              go_ret
              exact ⟨ret_bool HF.out.symm, hB⟩
            · have HQ : Hid (xs[k] = ys[k]) := eq2_iff.1 hq
              clear hq
              go_wp2
              go_roundw
              case rel => exact ⟨k + 1, by omega, by go_num, likeP_step HL.out hlt hlt' HQ.out, hB⟩
              case measure => simp [intOf]; omega
    · have HR : Hid (eqp xs ys = true) := eqp_all (by rw [← HE.out]; obtain rfl : k = xs.length := by omega
                                                      exact HL.out) HE.out
      go_wp2
      go_ret
      exact ⟨ret_bool HR.out.symm, hB⟩
theorem eqP (w : World) (a b : Option Addr) (ca cb : Nat) (xs ys : List (Int × Int)) (hx : IsP w a xs) (hy : IsP w b ys) (hl : xs.length ≤ 1048576) (hl' : ys.length ≤ 1048576) :
    Calls Try.prog 91 #[.slice a xs.length ca, .slice b ys.length cb] w fun e w' => e = .returned (.bool (eqp xs ys)) ∧ Below w.heap.size w w' := by
  by_cases he : xs.length = ys.length
  · exact eqP_walk w a b ca cb xs ys hx hy he hl
  · refine (eqP_len w a b _ _ ca cb he hl hl').mono ?_
    rintro e w' ⟨rfl, rfl⟩
    exact ⟨by rw [eqp_len he], Below.refl _ _⟩
set_option maxHeartbeats 400000 in
theorem szP (w : World) (a : Option Addr) (n cap : Nat) (left : Int) (h0 : 0 ≤ left) (h1 : left ≤ 1048576) (hn : n ≤ 9223372036854775807) :
    Calls Try.prog 83 #[.slice a n cap, .int .i64 left] w fun e w' => e = .returned (.int .i64 (sub left n)) ∧ w' = w := by
  by_cases h : (n : Int) ≤ left
  · rw [sub_yes h]
    go_enter Try.func83, Try.ntmps83
    go_wp2
    go_ret
    exact ⟨rfl, rfl⟩
  · rw [sub_no h]
    go_enter Try.func83, Try.ntmps83
    go_wp2
    go_ret
    exact ⟨rfl, rfl⟩
set_option maxHeartbeats 1000000 in
theorem szTree (w : World) (a a' : Option Addr) (n m c c' : Nat) (left : Int) (h0 : 0 ≤ left) (h1 : left ≤ 1048576) (hn : n ≤ 9223372036854775807) (hm : m ≤ 9223372036854775807) :
    Calls Try.prog 64 #[.agg #[.slice a n c, .slice a' m c'], .int .i64 left] w fun e w' => e = .returned (.int .i64 (sub left (n + m))) ∧ Below w.heap.size w w' := by
  go_enter Try.func64, Try.ntmps64
  go_wp2_with fail
  refine (szP _ _ _ _ _ h0 h1 hn).mono ?_
  rintro e w' ⟨rfl, hw⟩
  subst w'
  by_cases hn' : (n : Int) ≤ left
  · rw [sub_yes hn']
    go_wp2_with fail
    refine (Tb.szInts _ _ _ _ _ (by omega) (by omega) hm).mono ?_
    rintro e w' ⟨rfl, hw⟩
    subst w'
    by_cases hs : (m : Int) ≤ left - n
    · have HR : Hid (sub left (n + m) = left - n - m) := by show sub _ _ = _; rw [sub_yes (by omega)]; omega
      rw [sub_yes hs]
      go_wp2
      go_ret
      exact ⟨by rw [HR.out]; rfl, (Below.refl _ _).alloc (Nat.le_refl _) _⟩
    · have HR : Hid (sub left (n + m) = -1) := sub_no (by omega)
      rw [sub_no hs]
      go_wp2
      go_ret
      exact ⟨by rw [HR.out]; rfl, (Below.refl _ _).alloc (Nat.le_refl _) _⟩
  · have HR : Hid (sub left (n + m) = -1) := sub_no (by omega)
    rw [sub_no hn']
    go_wp2
    go_ret
    exact ⟨by rw [HR.out]; rfl, (Below.refl _ _).alloc (Nat.le_refl _) _⟩
end Go.Proofs.Ytkiddmbenepfjaa.Tm
