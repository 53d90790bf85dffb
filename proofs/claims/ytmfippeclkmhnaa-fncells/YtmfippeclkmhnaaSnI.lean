/-
  One more behind a list that is owned: where the longer list lies.
-/
import Derived.Test.YtmfippeclkmhnaaLists
import Derived.Maps.AppendAt
namespace Go.Proofs.Ytmfippeclkmhnaa.Sn
set_option maxRecDepth 100000
open Go.RowKit
open Go.Proofs.Ytmfippeclkmhnaa.Li (iv Own iv_append)
set_option linter.unusedVariables false
theorem run_snoc1 (w : World) (t ty e : TypeId) (i : TypeInfo) (z : Value) (bytes : Nat) (ht : Try.prog.underlying t = some (.slice e)) (hi : Try.prog.info? e = some i) (hz : i.zero = some z) (hsize : i.size = 1) (hby : i.bytes = bytes) (hzs : z.cells.size = 1) (hbb : bytes ≤ 1000)
    (base : Nat) (v : Value) (n : Nat) (cs : List Value) (E : Nat) (u : Value) (hu : u.oneCell' = true) (e0 : w.cell? ⟨E, 0, none⟩ = some u) (hown : w.ownsRow base e 1 v n cs) (hb : base ≤ w.heap.size) (hl : n ≤ 1048576) :
    ∃ g c w5, (Builtin.append_ #[t, t] ty #[v, .slice (some ⟨E, 0, none⟩) 1 1]).run Try.prog w = .ok (.slice (some ⟨g, 0, none⟩) (n + 1) c) w5 ∧ w5.ownsRow base e 1 (.slice (some ⟨g, 0, none⟩) (n + 1) c) (n + 1) (cs ++ [u]) ∧ w.grownBy w5 v.ownBlock ∧ (v.ownBlock = some g ∨ w.heap.size ≤ g) := by
  have hm : (n + 1) * bytes ≤ 140737488355328 := Nat.le_trans (Nat.mul_le_mul (show n + 1 ≤ 1048577 by omega) hbb) (by omega)
  obtain ⟨v', w', hr, h2, h3, hnil, h5⟩ := run_append_own_at (P := Try.prog) (w := w) base t ty e i z 1 bytes ht hi hz hsize hby hzs (by omega) v n cs hown ⟨E, 0, none⟩ 1 1 [u] rfl (by
    intro j x hj
    rw [Go.WideShapes.add_plain, Nat.zero_add]
    match j, hj with
    | 0, hj => simp at hj; subst hj; exact e0) (by intro x hx; simp at hx; subst hx; exact hu) (by unfold maxLen; omega) hm hb
  have h2' := h2
  rcases h2.2 with ⟨rfl, h0⟩ | ⟨g, cap, cur, rfl, hb', hh, _⟩
  · omega
  · refine ⟨g, cap, w', hr, h2', h3, ?_⟩
    have e : (Value.slice (some ⟨g, 0, none⟩) (n + 1) cap).ownBlock = some g := rfl
    rw [e] at h5
    rcases h5 with h5 | h5
    · exact .inl h5.symm
    · exact .inr (by cases h5; exact Nat.le_refl _)
theorem wp_snoc1 {o : Oper} {a : Act} {w : World} {K : Act → World → Prop} {Q : Exit → Act → World → Prop} (s x : Operand) (t : TypeId) (ho : o.op = .call { callee := .builtin .append, args := #[s, x], argTypes := #[t, t] }) (e : TypeId) (i : TypeInfo) (z : Value) (bytes : Nat) (ht : Try.prog.underlying t = some (.slice e)) (hi : Try.prog.info? e = some i) (hz : i.zero = some z) (hsize : i.size = 1) (hby : i.bytes = bytes) (hzs : z.cells.size = 1) (hbb : bytes ≤ 1000)
    (dt : Option Tmp) (hd : o.dst = dt) (base : Nat) (v : Value) (n : Nat) (cs : List Value) (E : Nat) (u : Value) (hs : a.eval s = v) (hx : a.eval x = .slice (some ⟨E, 0, none⟩) 1 1) (hu : u.oneCell' = true) (e0 : w.cell? ⟨E, 0, none⟩ = some u) (hown : w.ownsRow base e 1 v n cs) (hb : base ≤ w.heap.size) (hl : n ≤ 1048576)
    (hq : ∀ g c w5, w5.ownsRow base e 1 (.slice (some ⟨g, 0, none⟩) (n + 1) c) (n + 1) (cs ++ [u]) → w.grownBy w5 v.ownBlock → (v.ownBlock = some g ∨ w.heap.size ≤ g) → K (a.put dt (.slice (some ⟨g, 0, none⟩) (n + 1) c)) w5) : o.wp Try.prog a w K Q := by
  subst hd
  obtain ⟨g, c, w5, hr, h2, h3, h4⟩ := run_snoc1 w t o.type e i z bytes ht hi hz hsize hby hzs hbb base v n cs E u hu e0 hown hb hl
  unfold Oper.wp execOp
  simp only [ho, resolve, invoke, builtin, Sem.run_bind, Sem.run_pure, Result.andThen_ok, List.map_toArray, List.map_cons, List.map_nil, hs, hx, hr]
  exact hq g c w5 h2 h3 h4
theorem wp_snocI {o : Oper} {a : Act} {w : World} {K : Act → World → Prop} {Q : Exit → Act → World → Prop} (s x : Operand) (ho : o.op = .call { callee := .builtin .append, args := #[s, x], argTypes := #[25, 25] })
    (dt : Option Tmp) (hd : o.dst = dt) (base : Nat) (v : Value) (xs : List Int) (E : Nat) (y : Int) (hs : a.eval s = v) (hx : a.eval x = .slice (some ⟨E, 0, none⟩) 1 1) (e0 : w.cell? ⟨E, 0, none⟩ = some (.int .i64 y)) (hown : Own w base v xs) (hb : base ≤ w.heap.size) (hl : xs.length ≤ 1048576)
    (hq : ∀ g c w5, Own w5 base (.slice (some ⟨g, 0, none⟩) (xs.length + 1) c) (xs ++ [y]) → w.grownBy w5 v.ownBlock → (v.ownBlock = some g ∨ w.heap.size ≤ g) → K (a.put dt (.slice (some ⟨g, 0, none⟩) (xs.length + 1) c)) w5) : o.wp Try.prog a w K Q := by
  obtain ⟨i0, hi, hz0, hz1, hz2⟩ := info_parts Li.info_int
  refine wp_snoc1 s x 25 ho 3 i0 (.int .i64 0) 8 Try.underlying25 hi hz0 hz1 hz2 rfl (by omega) dt hd base v xs.length (iv xs) E (.int .i64 y) hs hx rfl e0 hown hb hl (fun g c w5 h1 h2 h3 => hq g c w5 ?_ h2 h3)
  unfold Own
  rw [← iv_append, List.length_append]
  exact h1
theorem wpl_snocI {ops : Array Oper} {rest : List Oper} {o : Oper} {a : Act} {w : World} {Q : Exit → Act → World → Prop} (hgd : o.guard = none) (s x : Operand) (ho : o.op = .call { callee := .builtin .append, args := #[s, x], argTypes := #[25, 25] })
    (base : Nat) (v : Value) (xs : List Int) (E : Nat) (y : Int) (hs : a.eval s = v) (hx : a.eval x = .slice (some ⟨E, 0, none⟩) 1 1) (e0 : w.cell? ⟨E, 0, none⟩ = some (.int .i64 y)) (hown : Own w base v xs) (hb : base ≤ w.heap.size) (hl : xs.length ≤ 1048576)
    (hq : ∀ g c w5, Own w5 base (.slice (some ⟨g, 0, none⟩) (xs.length + 1) c) (xs ++ [y]) → w.grownBy w5 v.ownBlock → (v.ownBlock = some g ∨ w.heap.size ≤ g) → wpList Try.prog ops Q rest (a.put o.dst (.slice (some ⟨g, 0, none⟩) (xs.length + 1) c)) w5) : wpList Try.prog ops Q (o :: rest) a w :=
  wpList_plain hgd fun K hK => wp_snocI s x ho _ rfl base v xs E y hs hx e0 hown hb hl fun g c w5 h1 h2 h3 => hK _ _ (hq g c w5 h1 h2 h3)
theorem info_vec' : (Try.prog.info? 50).map (fun i => (i.zero, i.size, i.bytes)) = some (some (.agg #[.slice none 0 0]), 1, 24) := by kernel_rfl
theorem wpl_snocV {ops : Array Oper} {rest : List Oper} {o : Oper} {a : Act} {w : World} {Q : Exit → Act → World → Prop} (hgd : o.guard = none) (s x : Operand) (ho : o.op = .call { callee := .builtin .append, args := #[s, x], argTypes := #[24, 24] })
    (base : Nat) (v : Value) (n : Nat) (cs : List Value) (E : Nat) (u : Value) (hs : a.eval s = v) (hx : a.eval x = .slice (some ⟨E, 0, none⟩) 1 1) (hu : u.oneCell' = true) (e0 : w.cell? ⟨E, 0, none⟩ = some u) (hown : w.ownsRow base 50 1 v n cs) (hb : base ≤ w.heap.size) (hl : n ≤ 1048576)
    (hq : ∀ g c w5, w5.ownsRow base 50 1 (.slice (some ⟨g, 0, none⟩) (n + 1) c) (n + 1) (cs ++ [u]) → w.grownBy w5 v.ownBlock → (v.ownBlock = some g ∨ w.heap.size ≤ g) → wpList Try.prog ops Q rest (a.put o.dst (.slice (some ⟨g, 0, none⟩) (n + 1) c)) w5) : wpList Try.prog ops Q (o :: rest) a w := by
  obtain ⟨i0, hi, hz0, hz1, hz2⟩ := info_parts info_vec'
  exact wpList_plain hgd fun K hK => wp_snoc1 s x 24 ho 50 i0 (.agg #[.slice none 0 0]) 24 Try.underlying24 hi hz0 hz1 hz2 rfl (by omega) _ rfl base v n cs E u hs hx hu e0 hown hb hl fun g c w5 h1 h2 h3 => hK _ _ (hq g c w5 h1 h2 h3)
end Go.Proofs.Ytmfippeclkmhnaa.Sn
