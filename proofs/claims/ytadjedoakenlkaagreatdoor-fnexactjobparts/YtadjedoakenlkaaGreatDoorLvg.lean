/-
  A call that starts no goroutine fits a row of calls that may: nobody else is there at its return.
-/
import Derived.Test.YtadjedoakenlkaaGreatDoorRows
import Derived.Handed
import Derived.Conc.Holds
namespace Go.Proofs.YtadjedoakenlkaaGreatDoor.Lv
theorem onlyLeaving_of_quiet {P : Program} {m : Machine} (h : m.quiet) : m.OnlyLeaving P := by
  refine ⟨fun g hg => ?_, h.2⟩
  have h1 := h.1
  unfold Machine.othersDone at h1
  rw [List.all_eq_true] at h1
  exact ⟨0, show g.status = .finished by simpa using h1 g hg⟩
theorem leaving_of_handed {a : Assume} {C : Checked} {os : Os} {f : FuncId} {r : Reach} {Pre : World → Array Value → Prop} {Post : World → Array Value → Value → World → Prop} (h : ReturnsInHanded a C os f r Pre Post) : ReturnsInLeavingWide a C os f r Pre Post :=
  fun enter => ReturnsInOpen.mono (fun _ _ _ x => ⟨x.2.1, onlyLeaving_of_quiet x.1, x.2.2⟩) (fun _ x => x) (h enter)
end Go.Proofs.YtadjedoakenlkaaGreatDoor.Lv
