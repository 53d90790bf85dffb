/-
  BordersOk, BinOf, BinsOf of the program and of the model: each answers what Bor says; old memory stays.
-/
import Derived.Test.YtdcbcacgppffgaaBor
import Derived.Test.YtdcbcacgppffgaaSiz
import Derived.Deep.AppendLies
import Derived.Deep.RegionLaw
import Derived.Deep.RegionWith
namespace Go.Proofs.Ytdcbcacgppffgaa.Bw
open Go.RowKit
open Go.Proofs.Ytdcbcacgppffgaa.Li Go.Proofs.Ytdcbcacgppffgaa.Bo

set_option maxHeartbeats 400000 in
theorem sok (x : Int) (w : World) :
    Calls Try.prog 12 #[.int .i64 x] w fun e w' => e = .returned (.bool (fok x)) ∧ w' = w := by
  go_enter Try.func12, Try.ntmps12
  go_wp2_with (go_at_call 25; refine (between_any _ _ _ _).mono ?_; rintro e w' ⟨rfl, hw⟩; subst w')
  go_ret
  exact ⟨rfl, rfl⟩
theorem sokv (x : Int) (v : Bool) (h : fok x = v) (w : World) :
    Calls Try.prog 12 #[.int .i64 x] w fun e w' => e = .returned (.bool v) ∧ w' = w := by subst h; exact sok x w
end Go.Proofs.Ytdcbcacgppffgaa.Bw
