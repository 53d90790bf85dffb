/-
  BordersOk, BinOf of the program and of the model: with the frame that the laws want.
-/
import Derived.Test.YtjkmajfnpcdklaaBinW
namespace Go.Proofs.Ytjkmajfnpcdklaa.Bw
open Go.RowKit
open Go.Proofs.Ytjkmajfnpcdklaa.Li Go.Proofs.Ytjkmajfnpcdklaa.Bo
theorem below_drewN' (w : World) (n : Nat) : Below w.heap.size w (w.drewN n) := ⟨rfl, rfl, rfl, Nat.le_refl _, fun _ _ => rfl⟩
theorem sbokB (w : World) (a : Option Addr) (cap : Nat) (xs : List Int) (hx : IsL w a xs) (hl : xs.length ≤ 1048576) :
    Calls Try.prog 10 #[.slice a xs.length cap] w fun e w' => e = .returned (.bool (bok xs)) ∧ Below w.heap.size w w' := by
  refine (sbok w a cap xs hx hl).mono ?_
  rintro e w' ⟨rfl, n, rfl⟩
  exact ⟨rfl, below_drewN' _ _⟩
theorem ibokB (w : World) (a : Option Addr) (cap : Nat) (xs : List Int) (hx : IsL w a xs) (hl : xs.length ≤ 1048576) :
    Calls Try.prog 9 #[.slice a xs.length cap] w fun e w' => e = .returned (.bool (bok xs)) ∧ Below w.heap.size w w' := by
  refine (ibok w a cap xs hx hl).mono ?_
  rintro e w' ⟨rfl, n, rfl⟩
  exact ⟨rfl, below_drewN' _ _⟩
theorem sbinB (w : World) (a : Option Addr) (cap : Nat) (xs : List Int) (x : Int) (hx : IsL w a xs) (hl : xs.length ≤ 1048576) :
    Calls Try.prog 12 #[.slice a xs.length cap, .int .i64 x] w fun e w' => e = .returned (.int .i64 (bin xs x)) ∧ Below w.heap.size w w' := by
  refine (sbin w a cap xs x hx hl).mono ?_
  rintro e w' ⟨rfl, rfl⟩
  exact ⟨rfl, Below.refl _ _⟩
theorem ibinB (w : World) (a : Option Addr) (cap : Nat) (xs : List Int) (x : Int) (hx : IsL w a xs) (hl : xs.length ≤ 1048576) :
    Calls Try.prog 11 #[.slice a xs.length cap, .int .i64 x] w fun e w' => e = .returned (.int .i64 (bin xs x)) ∧ Below w.heap.size w w' := by
  refine (ibin w a cap xs x hx hl).mono ?_
  rintro e w' ⟨rfl, rfl⟩
  exact ⟨rfl, Below.refl _ _⟩
end Go.Proofs.Ytjkmajfnpcdklaa.Bw
