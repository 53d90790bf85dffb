/-
  CellsOf of the model.
-/
import Derived.Test.YtbnjbmajfadmaaaSeE
namespace Go.Proofs.Ytbnjbmajfadmaaa.Sw7
open Go.RowKit
open Go.Proofs.Ytbnjbmajfadmaaa.Li (ret_bool ret_int below_none IsL btw)
open Go.Proofs.Ytbnjbmajfadmaaa.Tm (IsP pv pv_length)
open Go.Proofs.Ytbnjbmajfadmaaa.Se Go.Proofs.Ytbnjbmajfadmaaa.Sv
set_option linter.unusedVariables false

theorem bump_set (cs : List (Int × Int)) (j : Nat) (g : Int) (hj : j < cs.length) : bump cs (j : Int) g = cs.set j (cs[j].1 + 1, cs[j].2 + g) := by
  unfold bump
  rw [Int.toNat_natCast]
  simp [List.getD_eq_getElem?_getD, hj]
end Go.Proofs.Ytbnjbmajfadmaaa.Sw7
