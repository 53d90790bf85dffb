/-
  Small readings that the laws' walks want.
-/
import Derived.Test.YtmfippeclkmhnaaSeF
import Derived.Test.YtmfippeclkmhnaaOpnR
import Derived.Deep.RegionHeld3
namespace Go.Proofs.Ytmfippeclkmhnaa.Sv
set_option maxRecDepth 100000
open Go.RowKit
open Go.Proofs.Ytmfippeclkmhnaa.Se (R)
open Go.Proofs.Ytmfippeclkmhnaa.Tm (IsP pmarks pmarks_length)
theorem OwR.rd' {w : World} {B : Nat → Prop} {a0 a1 a2 : Option Addr} {n0 n1 n2 c0 c1 c2 : Nat} {r : R} (h : OwR w B (.slice a0 n0 c0) (.slice a1 n1 c1) (.slice a2 n2 c2) r) : Rd w a0 a1 a2 r := by
  obtain ⟨_, _, _, _, _, _, e0, e1, e2, hr⟩ := h.rd
  cases e0; cases e1; cases e2
  exact hr
theorem owc_isp {w : World} {B : Nat → Prop} {a : Option Addr} {n c : Nat} {ps : List (Int × Int)} (h : OwC w B (.slice a n c) ps) : IsP w a ps := by
  obtain ⟨_, _, e, hp⟩ := h.isp
  cases e
  exact hp
theorem owc_isp_marks {w : World} {B : Nat → Prop} {a : Option Addr} {n c m : Nat} {k : Int} (h : OwC w B (.slice a n c) (pmarks k m)) : IsP w a (pmarks k n) := by
  obtain ⟨_, _, e, hp⟩ := h.isp
  rw [pmarks_length] at e
  cases e
  exact hp
end Go.Proofs.Ytmfippeclkmhnaa.Sv
namespace Go.Proofs.Ytmfippeclkmhnaa.Sw7
open Go.Proofs.Ytmfippeclkmhnaa.Se
theorem cells_le (r : R) : (cells r).length ≤ 16 := by
  cases hv : rok r with
  | false => rw [cells_no hv]; simp
  | true => rw [cells_ok hv, tally_length, none0_length]; have := (rok_iff.1 hv).1.2.2.2.1; omega
end Go.Proofs.Ytmfippeclkmhnaa.Sw7
