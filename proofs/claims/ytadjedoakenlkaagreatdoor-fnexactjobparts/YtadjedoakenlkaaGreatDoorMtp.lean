/-
  Texts written into a builder of the call's own; numbers, each with a blank ahead, as the program writes them.
-/
import Derived.Test.YtadjedoakenlkaaGreatDoorMtn
import Derived.Test.YtadjedoakenlkaaGreatDoorBldw
import Derived.Test.YtadjedoakenlkaaGreatDoorApd
namespace Go.Proofs.YtadjedoakenlkaaGreatDoor.Mt
set_option maxRecDepth 100000
open Go.RowKit
set_option linter.unusedVariables false
theorem ownsRow_atM {w w1 : World} {base : Nat} {e : TypeId} {size : Nat} {v : Value} {n : Nat} {xs : List Value} (h : w.ownsRow base e size v n xs) (hk : ∀ k, v.ownBlock = some k → w1.heap[k]? = w.heap[k]?) : w1.ownsRow base e size v n xs := by
  refine ⟨h.1, ?_⟩
  rcases h.2 with h | ⟨g, cap, cur, rfl, hb, hh, r⟩
  · exact .inl h
  · exact .inr ⟨g, cap, cur, rfl, hb, by rw [hk g rfl]; exact hh, r⟩
theorem builder_below {T e : TypeId} {B b : Nat} {bs : List Value} {w w' : World} (h : Lib.IsBuilder T e B b bs w) (hB : Below w.heap.size w w') : Lib.IsBuilder T e B b bs w' := by
  have one : ∀ {p : Value}, Lib.BuilderAt T e B b p bs w → Lib.BuilderAt T e B b p bs w' := fun {p} h => by
    obtain ⟨h1, v, hb, ho, hne⟩ := h
    have hlt : b < w.heap.size := (Array.getElem?_eq_some_iff.1 hb).1
    exact ⟨h1, v, by rw [hB.block b hlt]; exact hb, ownsRow_atM ho (fun k e => hB.block k (World.ownsRow.lt ho k e).2), hne⟩
  rcases h with h | h
  · exact .inl (one h)
  · exact .inr (one h)
/-- A builder of the call's own, at b, that holds l. -/
def Bu (w : World) (B b : Nat) (l : List UInt8) : Prop := Lib.IsBuilder 69 5 B b (Lib.byteCells l) w
theorem Bu.below {w w' : World} {B b : Nat} {l : List UInt8} (h : Bu w B b l) (hB : Below w.heap.size w w') : Bu w' B b l := builder_below h hB
theorem bu_new (w : World) (b : Nat) (hb : b = w.heap.size) : ∃ W, w.alloc (.cells #[.pointer none, .slice none 0 0] 69) = W ∧ Below w.heap.size w W ∧ Bu W w.heap.size b [] ∧ W.heap.size = w.heap.size + 1 := by
  subst hb
  exact ⟨_, rfl, (Below.refl _ _).alloc (Nat.le_refl _) _, Lib.fresh_isBuilder _ _ _, by simp⟩
/-- A text written behind what a builder holds. -/
theorem wrote (w : World) (B b : Nat) (l : List UInt8) (s : ByteArray) (h : Bu w B b l) (hl : l.length + s.size ≤ 1000000) (hB : B ≤ w.heap.size) :
    Calls Tryz.prog 39 #[.pointer (some ⟨b, 0, none⟩), .string s] w fun e w' => e = .returned (.tuple #[.int .i64 s.size, .nilIface]) ∧ Bu w' B b (l ++ s.data.toList) ∧ Below B w w' := by
  refine (Bd.write _ _ _ _ _ h (by rw [bc_len]; omega) hB).mono ?_
  rintro e w' ⟨rfl, h1, h2⟩
  refine ⟨rfl, ?_, h2⟩
  unfold Bu
  rw [← cells_more]
  exact .inr h1
/-- What a builder holds, as a text. -/
theorem told (w : World) (B b : Nat) (l : List UInt8) (h : Bu w B b l) (hB : B ≤ w.heap.size) :
    Calls Tryz.prog 41 #[.pointer (some ⟨b, 0, none⟩)] w fun e w' => e = .returned (.string ⟨l.toArray⟩) ∧ Below B w w' := by
  refine (Tryz.Builder_String_any _ _ _ _ h hB).mono ?_
  rintro e w' ⟨rfl, h2⟩
  exact ⟨rfl, h2⟩
set_option maxHeartbeats 2000000 in
theorem ispaced (w : World) (a : Option Addr) (c : Nat) (l : List Int) (h : Li.IsL w a l) (hb : ∀ x ∈ l, i64 x) (hl : l.length ≤ 1000) (hT : Nu.Tab w) :
    Calls Tryz.prog 26 #[.slice a l.length c] w fun e w' => e = .returned (.string ⟨(nums l).toArray⟩) ∧ Below w.heap.size w w' := by
  go_enter Tryz.func26, Tryz.ntmps26
  go_wp2
  obtain ⟨W, hW, hB0, hbu, hsz⟩ := bu_new w _ rfl
  rw [hW]
  clear hW hsz
  go_loopw [8] (fun i wr => ∃ k : Nat, k ≤ l.length ∧ i = .int .i64 k ∧ Bu wr w.heap.size w.heap.size (nums (l.take k)) ∧ Below w.heap.size w wr) (fun i _ => l.length - (intOf i).toNat)
  case atStart => exact ⟨0, Nat.zero_le _, rfl, hbu, hB0⟩
  case round =>
    obtain ⟨k, hk, rfl, hbl, hBr⟩ := hrel
    by_cases hlt : k < l.length
    · rcases h.below hBr with h0 | ⟨xb, xo, rfl, hxb, hxc⟩
      · rw [h0] at hlt; simp at hlt
      have hcx := hxc k hlt
      have hx := hb l[k] (List.getElem_mem hlt)
      have HN : Hid (nums (l.take (k + 1)) = nums (l.take k) ++ 32 :: Lib.itoa l[k]) := nums_take l k hlt
      have hnl : (nums (l.take k)).length ≤ 22000 := by
        have h1 := nums_len (l.take k) (take_mem hb k)
        have h2 := List.length_take_le k l
        omega
      obtain ⟨x, hx0⟩ : ∃ x, l[k] = x := ⟨_, rfl⟩
      rw [hx0] at HN hx hcx
      clear hxc hx0
      have hil := Nu.itoa_len x hx.1 hx.2
      go_wp2_with fail
      refine (Nu.inum _ _ hx.1 hx.2 (hT.below hBr)).mono ?_
      rintro e w1 ⟨rfl, hB1⟩
      have hbl := hbl.below hB1
      have hBr := hBr.trans (hB1.mono hBr.size)
      clear hB1 hcx hxb
      go_wp2_with fail
      refine (wrote _ _ _ _ _ hbl (by rw [ByteArray.size_append, ba_size]; simp only [ByteArray.size]; simp; omega) hBr.size).mono ?_
      rintro e w2 ⟨rfl, hb2, hB2⟩
      have hBr := hBr.trans hB2
      have HB : Hid (Bu w2 w.heap.size w.heap.size (nums (l.take (k + 1)))) := by
        show Bu _ _ _ _
        rw [HN.out]
        simpa using hb2
      clear hb2 hB2 hbl
      go_wp2
      go_roundw
      case rel => exact ⟨k + 1, by omega, by go_num, HB.out, hBr⟩
      case measure => simp [intOf]; omega
    · have hbl : Bu wr w.heap.size w.heap.size (nums l) := by rwa [List.take_of_length_le (by omega)] at hbl
      go_wp2_with fail
      refine (told _ _ _ _ hbl hBr.size).mono ?_
      rintro e w3 ⟨rfl, hB3⟩
      have hBr := hBr.trans hB3
      go_wp2
      go_ret
      exact ⟨rfl, hBr⟩
end Go.Proofs.YtadjedoakenlkaaGreatDoor.Mt
