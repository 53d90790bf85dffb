/-
  A row that is being read: its variable, what it owns, and that nothing older has turned.
-/
import Derived.Test.YtajfldjhbgilmaaGreatDoorRdW
import Derived.Test.YtajfldjhbgilmaaGreatDoorApd
import Derived.Test.YtajfldjhbgilmaaGreatDoorPush
namespace Go.Proofs.YtajfldjhbgilmaaGreatDoor.Sp
set_option maxRecDepth 100000
open Go.RowKit
open Go.Proofs.YtajfldjhbgilmaaGreatDoor.Tb
/-- The row's variable is the block behind all of w3; its lists lie behind it. -/
structure RowAt (w3 W : World) (u0 u1 : Value) (nums : List Int) (cats : List ByteArray) (lab : Int) : Prop where
  bx : Box3 W w3.heap.size u0 u1 (.int .i64 lab)
  o0 : Li.Own W (w3.heap.size + 1) u0 nums
  o1 : Ls.Own W (w3.heap.size + 1) u1 cats
  ap : ∀ k, u0.ownBlock = some k → u1.ownBlock = some k → False
  be : Below w3.heap.size w3 W
theorem row_new (w3 : World) (T : TypeId) : RowAt w3 (w3.alloc (.cells #[.slice none 0 0, .slice none 0 0, .int .i64 0] T)) (.slice none 0 0) (.slice none 0 0) [] [] 0 :=
  ⟨box3_new _ _ _ _ _, Li.Own.nil _ _, Ls.Own.nil _ _, fun k e => by simp [Value.ownBlock] at e, (Below.refl _ _).alloc (Nat.le_refl _) _⟩
theorem RowAt.below {w3 W W' : World} {u0 u1 : Value} {nums : List Int} {cats : List ByteArray} {lab : Int} (h : RowAt w3 W u0 u1 nums cats lab) (hB : Below W.heap.size W W') : RowAt w3 W' u0 u1 nums cats lab :=
  ⟨h.bx.below hB, h.o0.below hB, h.o1.below hB, h.ap, h.be.trans (hB.mono (by have := h.bx.1; omega))⟩
theorem RowAt.alloc {w3 W : World} {u0 u1 : Value} {nums : List Int} {cats : List ByteArray} {lab : Int} (h : RowAt w3 W u0 u1 nums cats lab) (o : Obj) : RowAt w3 (W.alloc o) u0 u1 nums cats lab := h.below ((Below.refl _ _).alloc (Nat.le_refl _) _)
theorem RowAt.drew {w3 W : World} {u0 u1 : Value} {nums : List Int} {cats : List ByteArray} {lab : Int} (h : RowAt w3 W u0 u1 nums cats lab) : RowAt w3 W.drew u0 u1 nums cats lab := h.below (Below.refl _ _).drew
theorem RowAt.drewN {w3 W : World} {u0 u1 : Value} {nums : List Int} {cats : List ByteArray} {lab : Int} (h : RowAt w3 W u0 u1 nums cats lab) (n : Nat) : RowAt w3 (W.drewN n) u0 u1 nums cats lab := h.below ⟨rfl, rfl, rfl, Nat.le_refl _, fun _ _ => rfl⟩
/-- The variable itself is not turned by what grows in one of its lists. -/
theorem RowAt.box0 {w3 W w5 : World} {u0 u1 : Value} {nums : List Int} {cats : List ByteArray} {lab : Int} (h : RowAt w3 W u0 u1 nums cats lab) (hg : W.grownBy w5 u0.ownBlock) : Box3 w5 w3.heap.size u0 u1 (.int .i64 lab) :=
  h.bx.keptAt hg.size (hg.block _ h.bx.1 (fun e => by have := (h.o0.ge _ e.symm).1; omega))
theorem RowAt.box1 {w3 W w5 : World} {u0 u1 : Value} {nums : List Int} {cats : List ByteArray} {lab : Int} (h : RowAt w3 W u0 u1 nums cats lab) (hg : W.grownBy w5 u1.ownBlock) : Box3 w5 w3.heap.size u0 u1 (.int .i64 lab) :=
  h.bx.keptAt hg.size (hg.block _ h.bx.1 (fun e => by have := (h.o1.ge _ e.symm).1; omega))
theorem below_new {w3 W w5 : World} {X o : Nat} {r : Option Nat} {v : Value} (hX : X = w3.heap.size) (hB : Below w3.heap.size w3 W) (hs : X < W.heap.size) (hg : W.grownBy w5 r) (hr : ∀ k, r = some k → X + 1 ≤ k) : Below w3.heap.size w3 (w5.setCell ⟨X, o, none⟩ v) := by
  have h5 : Below w3.heap.size w3 w5 := hB.trans ⟨hg.os, hg.tape, hg.output, hg.size, fun k hk => hg.block k (by omega) (fun e => by have := hr k e.symm; omega)⟩
  exact h5.setCell (p := ⟨X, o, none⟩) (by show _ ≤ X; omega) v
theorem RowAt.num {w3 W w5 : World} {u0 u1 : Value} {nums : List Int} {cats : List ByteArray} {lab : Int} {x : Int} {g cap : Nat} (h : RowAt w3 W u0 u1 nums cats lab)
    (hown : w5.ownsRow (w3.heap.size + 1) 3 1 (.slice (some ⟨g, 0, none⟩) (nums.length + 1) cap) (nums.length + 1) (Li.iv nums ++ [.int .i64 x]))
    (hg : W.grownBy w5 u0.ownBlock) (hpos : u0.ownBlock = some g ∨ g = W.heap.size) :
    RowAt w3 (w5.setCell ⟨w3.heap.size, 0, none⟩ (.slice (some ⟨g, 0, none⟩) (nums.length + 1) cap)) (.slice (some ⟨g, 0, none⟩) (nums.length + 1) cap) u1 (nums ++ [x]) cats lab := by
  refine ⟨(h.box0 hg).set0 _, own_off (Ap.own_snoc rfl hown) (grown_set' _ _ _ _) (Nat.lt_succ_self _), sown_off (h.o1.kept hg (apart_of fun k e e' => h.ap k e' e)) (grown_set' _ _ _ _) (Nat.lt_succ_self _), fun k e e' => ?_, below_new rfl h.be h.bx.1 hg (fun k e => (h.o0.ge k e).1)⟩
  have hk : k = g := by simpa [Value.ownBlock] using e.symm
  subst hk
  rcases hpos with hp | hp
  · exact h.ap k hp e'
  · have := (h.o1.ge k e').2; omega
theorem RowAt.word {w3 W w5 : World} {u0 u1 : Value} {nums : List Int} {cats : List ByteArray} {lab : Int} {x : ByteArray} {g cap : Nat} (h : RowAt w3 W u0 u1 nums cats lab)
    (hown : w5.ownsRow (w3.heap.size + 1) 9 1 (.slice (some ⟨g, 0, none⟩) (cats.length + 1) cap) (cats.length + 1) (Ls.sv cats ++ [.string x]))
    (hg : W.grownBy w5 u1.ownBlock) (hpos : u1.ownBlock = some g ∨ g = W.heap.size) :
    RowAt w3 (w5.setCell ⟨w3.heap.size, 1, none⟩ (.slice (some ⟨g, 0, none⟩) (cats.length + 1) cap)) u0 (.slice (some ⟨g, 0, none⟩) (cats.length + 1) cap) nums (cats ++ [x]) lab := by
  refine ⟨(h.box1 hg).set1 _, own_off (h.o0.kept hg (apart_of fun k e e' => h.ap k e e')) (grown_set' _ _ _ _) (Nat.lt_succ_self _), sown_off (Ap.sown_snoc rfl hown) (grown_set' _ _ _ _) (Nat.lt_succ_self _), fun k e e' => ?_, below_new rfl h.be h.bx.1 hg (fun k e => (h.o1.ge k e).1)⟩
  have hk : k = g := by simpa [Value.ownBlock] using e'.symm
  subst hk
  rcases hpos with hp | hp
  · exact h.ap k e hp
  · have := (h.o0.ge k e).2; omega
theorem RowAt.lab {w3 W : World} {u0 u1 : Value} {nums : List Int} {cats : List ByteArray} {lab : Int} (h : RowAt w3 W u0 u1 nums cats lab) (n : Int) : RowAt w3 (W.setCell ⟨w3.heap.size, 2, none⟩ (.int .i64 n)) u0 u1 nums cats n :=
  ⟨h.bx.set2 _, own_off h.o0 (grown_set' _ _ _ _) (Nat.lt_succ_self _), sown_off h.o1 (grown_set' _ _ _ _) (Nat.lt_succ_self _), h.ap, h.be.setCell (p := ⟨w3.heap.size, 2, none⟩) (Nat.le_refl _) _⟩
end Go.Proofs.YtajfldjhbgilmaaGreatDoor.Sp
