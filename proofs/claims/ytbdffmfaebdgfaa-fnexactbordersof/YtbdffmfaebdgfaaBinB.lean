/-
  BordersOk, BinOf of the program and of the model: with the frame that the laws want.
-/
import Derived.Test.YtbdffmfaebdgfaaBinW
namespace Go.Proofs.Ytbdffmfaebdgfaa.Bw
open Go.RowKit
open Go.Proofs.Ytbdffmfaebdgfaa.Li Go.Proofs.Ytbdffmfaebdgfaa.Bo
theorem below_drewN' (w : World) (n : Nat) : Below w.heap.size w (w.drewN n) := ⟨rfl, rfl, rfl, Nat.le_refl _, fun _ _ => rfl⟩
theorem ibokB (w : World) (a : Option Addr) (cap : Nat) (xs : List Int) (hx : IsL w a xs) (hl : xs.length ≤ 1048576) :
    Calls Try.prog 10 #[.slice a xs.length cap] w fun e w' => e = .returned (.bool (bok xs)) ∧ Below w.heap.size w w' := by
  refine (ibok w a cap xs hx hl).mono ?_
  rintro e w' ⟨rfl, n, rfl⟩
  exact ⟨rfl, below_drewN' _ _⟩
end Go.Proofs.Ytbdffmfaebdgfaa.Bw
