/-
  Numbers as texts, each with a blank ahead: plain functions of lists.
-/
import Derived.Test.YtadjedoakenlkaaGreatDoorNum
import Derived.Test.YtadjedoakenlkaaGreatDoorLists
import Derived.Lib.ConvBytes
namespace Go.Proofs.YtadjedoakenlkaaGreatDoor.Mt
set_option maxRecDepth 20000
open Go.RowKit
set_option linter.unusedVariables false
theorem ba_ext {a b : ByteArray} (h : a.data.toList = b.data.toList) : a = b := by
  apply ByteArray.ext
  exact Array.toList_inj.1 h
theorem ba_size (l : List UInt8) : (ByteArray.mk l.toArray).size = l.length := by simp [ByteArray.size]
theorem bc_len (l : List UInt8) : (Lib.byteCells l).length = l.length := by simp [Lib.byteCells]
theorem cells_more (l : List UInt8) (s : ByteArray) : Lib.byteCells l ++ Lib.strCells s = Lib.byteCells (l ++ s.data.toList) := by simp [Lib.byteCells, Lib.strCells]
theorem ret_str {a b : ByteArray} (h : a = b) : Ending.returned (.string a) = .returned (.string b) := by rw [h]
/-- A number of Go's. -/
def i64 (x : Int) : Prop := -9223372036854775808 ≤ x ∧ x ≤ 9223372036854775807
/-- Numbers, each with a blank ahead. -/
def nums (l : List Int) : List UInt8 := (l.map fun x => 32 :: Lib.itoa x).flatten
theorem nums_nil : nums [] = [] := rfl
theorem nums_cons (x : Int) (l : List Int) : nums (x :: l) = 32 :: Lib.itoa x ++ nums l := by simp [nums]
theorem nums_one (x : Int) : nums [x] = 32 :: Lib.itoa x := by simp [nums]
theorem nums_take (l : List Int) (k : Nat) (h : k < l.length) : nums (l.take (k + 1)) = nums (l.take k) ++ 32 :: Lib.itoa l[k] := by
  unfold nums
  rw [List.take_succ_eq_append_getElem h, List.map_append, List.flatten_append]
  simp
theorem nums_len : ∀ (l : List Int), (∀ x ∈ l, i64 x) → (nums l).length ≤ 22 * l.length
  | [], _ => by simp [nums]
  | x :: l, h => by
    have h1 := nums_len l (fun y hy => h y (by simp [hy]))
    have h2 := h x (by simp)
    have h3 := Nu.itoa_len x h2.1 h2.2
    rw [nums_cons]
    simp only [List.length_append, List.length_cons]
    omega
theorem take_mem {α : Type} {p : α → Prop} {l : List α} (h : ∀ t ∈ l, p t) (k : Nat) : ∀ t ∈ l.take k, p t := fun t ht => h t (List.mem_of_mem_take ht)
theorem isl_lit (w : World) (l : List Int) (T : TypeId) (b : Nat) (cs : Array Value) (hb : b = w.heap.size) (hc : cs = (l.map fun x => Value.int .i64 x).toArray) : Li.IsL (w.alloc (.cells cs T)) (some ⟨b, 0, none⟩) l := by
  subst hb; subst hc
  refine .inr ⟨w.heap.size, 0, rfl, by simp, fun j hj => ?_⟩
  rw [Nat.zero_add]
  have : (w.alloc (.cells (l.map fun x => Value.int .i64 x).toArray T)).heap[w.heap.size]? = some (.cells (l.map fun x => Value.int .i64 x).toArray T) := heap_alloc_new w _
  simp only [World.cell?, this]
  simp [hj]
end Go.Proofs.YtadjedoakenlkaaGreatDoor.Mt
