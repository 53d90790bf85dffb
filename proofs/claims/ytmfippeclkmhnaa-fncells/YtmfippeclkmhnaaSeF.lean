/-
  CellsOf of the model.
-/
import Derived.Test.YtmfippeclkmhnaaSeE
namespace Go.Proofs.Ytmfippeclkmhnaa.Sw7
set_option maxRecDepth 100000
open Go.RowKit
open Go.Proofs.Ytmfippeclkmhnaa.Li (ret_bool ret_int below_none IsL btw)
open Go.Proofs.Ytmfippeclkmhnaa.Tm (IsP pv pv_length)
open Go.Proofs.Ytmfippeclkmhnaa.Se Go.Proofs.Ytmfippeclkmhnaa.Sv
set_option linter.unusedVariables false

theorem bump_set (cs : List (Int × Int)) (j : Nat) (g : Int) (hj : j < cs.length) : bump cs (j : Int) g = cs.set j (cs[j].1 + 1, cs[j].2 + g) := by
  unfold bump
  rw [Int.toNat_natCast]
  simp [List.getD_eq_getElem?_getD, hj]
end Go.Proofs.Ytmfippeclkmhnaa.Sw7
