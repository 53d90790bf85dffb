/-
  Rows as the laws hold them: how great, a copy, a comparison, marks and whether they are held.
-/
import Derived.Test.YtmfippeclkmhnaaSeO
import Derived.Test.YtmfippeclkmhnaaSea
namespace Go.Proofs.Ytmfippeclkmhnaa.Sv
open Go.RowKit
open Go.Proofs.Ytmfippeclkmhnaa.Li (iv ret_bool ret_int below_none IsL marks marks_length marks_get)
open Go.Proofs.Ytmfippeclkmhnaa.Tb (sub sub_yes sub_no)
open Go.Proofs.Ytmfippeclkmhnaa.Se (R)
set_option linter.unusedVariables false

/-- What rows read as. -/
def Rd (w : World) (a0 a1 a2 : Option Addr) (r : R) : Prop := IsV w a0 r.x ∧ IsL w a1 r.g ∧ IsL w a2 r.ids
theorem Rd.below {w w1 : World} {a0 a1 a2 : Option Addr} {r : R} (h : Rd w a0 a1 a2 r) (hb : Below w.heap.size w w1) : Rd w1 a0 a1 a2 r := ⟨h.1.below hb, h.2.1.below hb, h.2.2.below hb⟩
theorem Rd.drewN {w : World} {a0 a1 a2 : Option Addr} {r : R} (h : Rd w a0 a1 a2 r) (n : Nat) : Rd (w.drewN n) a0 a1 a2 r := h
theorem Rd.drew {w : World} {a0 a1 a2 : Option Addr} {r : R} (h : Rd w a0 a1 a2 r) : Rd w.drew a0 a1 a2 r := h
def szr (r : R) : Nat := r.x.length + tot r.x + r.g.length + r.ids.length
def FitsR (r : R) : Prop := FitsV r.x ∧ r.g.length ≤ 9223372036854775807 ∧ r.ids.length ≤ 9223372036854775807
/-- Rows that may be written, in blocks of B. -/
def OwR (w : World) (B : Nat → Prop) (v0 v1 v2 : Value) (r : R) : Prop :=
  ∃ B0 B1 B2 : Nat → Prop, OwV w B0 v0 r.x ∧ OwI w B1 v1 r.g ∧ OwI w B2 v2 r.ids ∧ (∀ k, B0 k → B k ∧ ¬ B1 k ∧ ¬ B2 k) ∧ (∀ k, B1 k → B k ∧ ¬ B2 k) ∧ ∀ k, B2 k → B k
theorem OwR.fr {w w1 : World} {B B' : Nat → Prop} {v0 v1 v2 : Value} {r : R} (h : OwR w B v0 v1 v2 r) (hf : Fr B' w w1) (hd : ∀ k, B k → ¬ B' k) : OwR w1 B v0 v1 v2 r := by
  obtain ⟨B0, B1, B2, h0, h1, h2, d0, d1, d2⟩ := h
  exact ⟨B0, B1, B2, h0.fr hf (fun k hk => hd k (d0 k hk).1), h1.fr hf (fun k hk => hd k (d1 k hk).1), h2.fr hf (fun k hk => hd k (d2 k hk)), d0, d1, d2⟩
theorem OwR.below {w w1 : World} {B : Nat → Prop} {v0 v1 v2 : Value} {r : R} (h : OwR w B v0 v1 v2 r) (hb : Below w.heap.size w w1) : OwR w1 B v0 v1 v2 r := h.fr (fr_below (B := fun _ => False) hb) (fun _ _ e => e)
theorem OwR.mono {w : World} {B B' : Nat → Prop} {v0 v1 v2 : Value} {r : R} (h : OwR w B v0 v1 v2 r) (hb : ∀ k, B k → B' k) : OwR w B' v0 v1 v2 r := by
  obtain ⟨B0, B1, B2, h0, h1, h2, d0, d1, d2⟩ := h
  exact ⟨B0, B1, B2, h0, h1, h2, fun k hk => ⟨hb k (d0 k hk).1, (d0 k hk).2⟩, fun k hk => ⟨hb k (d1 k hk).1, (d1 k hk).2⟩, fun k hk => hb k (d2 k hk)⟩
theorem OwR.rd {w : World} {B : Nat → Prop} {v0 v1 v2 : Value} {r : R} (h : OwR w B v0 v1 v2 r) : ∃ a0 c0 a1 c1 a2 c2, v0 = .slice a0 r.x.length c0 ∧ v1 = .slice a1 r.g.length c1 ∧ v2 = .slice a2 r.ids.length c2 ∧ Rd w a0 a1 a2 r := by
  obtain ⟨B0, B1, B2, h0, h1, h2, _⟩ := h
  obtain ⟨a0, c0, e0, i0⟩ := h0.isv
  obtain ⟨a1, c1, e1, i1⟩ := h1.isl
  obtain ⟨a2, c2, e2, i2⟩ := h2.isl
  exact ⟨a0, c0, a1, c1, a2, c2, e0, e1, e2, i0, i1, i2⟩
def rmarks (k : Int) (r : R) : R := ⟨vmarks k r.x, marks (k + tot r.x) r.g.length, marks (k + tot r.x + r.g.length) r.ids.length, r.lv, r.l2⟩
end Go.Proofs.Ytmfippeclkmhnaa.Sv
