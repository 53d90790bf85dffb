/-
  Two tables that read alike are the same to the law.
-/
import Derived.Test.YtdippfdobieefaaGreatDoorTabX
namespace Go.Proofs.YtdippfdobieefaaGreatDoor.Sm
set_option maxRecDepth 100000
open Go.RowKit
open Go.Proofs.YtdippfdobieefaaGreatDoor.Tb
open Go.Proofs.YtdippfdobieefaaGreatDoor.Tk
theorem same_t (w : World) (a b : Option Addr) (ca cb : Nat) (xs : List Int) (hx : Li.IsL w a xs) (hy : Li.IsL w b xs) (hl : xs.length ≤ 1048576) :
    Calls Tryz.prog 29 #[.slice a xs.length ca, .slice b xs.length cb] w fun e w' => e = .returned (.bool true) ∧ ∃ n, w' = w.drewN n := by
  refine (Li.same_any w a b ca cb xs xs hx hy hl hl).mono ?_
  rintro e w' ⟨rfl, h⟩
  exact ⟨by rw [Li.eqs_self], h⟩
theorem samex_t (w : World) (a b : Option Addr) (ca cb : Nat) (xs : List ByteArray) (hx : Ls.IsS w a xs) (hy : Ls.IsS w b xs) (hl : xs.length ≤ 1048576) :
    Calls Tryz.prog 30 #[.slice a xs.length ca, .slice b xs.length cb] w fun e w' => e = .returned (.bool true) ∧ ∃ n, w' = w.drewN n := by
  refine (Ls.same_any w a b ca cb xs xs hx hy hl hl).mono ?_
  rintro e w' ⟨rfl, h⟩
  exact ⟨by rw [Ls.eqs_self], h⟩
theorem lift_drew {w : World} {n : Nat} {a : Option Addr} {xs : List Int} (h : Li.IsL w a xs) : Li.IsL (w.drewN n) a xs := h
theorem slift_drew {w : World} {n : Nat} {a : Option Addr} {xs : List ByteArray} (h : Ls.IsS w a xs) : Ls.IsS (w.drewN n) a xs := h
theorem below_dn (w : World) (n : Nat) : Below w.heap.size w (w.drewN n) := ⟨rfl, rfl, rfl, Nat.le_refl _, fun _ _ => rfl⟩
set_option maxHeartbeats 4000000 in
theorem sameTab (w : World) (i j : Int) (a b : Option Addr) (ca cb : Nat) (rs : List Row) (hx : IsR w a rs) (hy : IsR w b rs) (hl : rs.length + szR rs ≤ 1048576) :
    Calls Tryz.prog 11 #[.agg #[.int .i64 i, .int .i64 j, .slice a rs.length ca], .agg #[.int .i64 i, .int .i64 j, .slice b rs.length cb]] w fun e w' => e = .returned (.bool true) ∧ Below w.heap.size w w' := by
  obtain ⟨W, hW, hsz, hB, bx, br⟩ := boxes2 w (.int .i64 i) (.int .i64 j) (.slice a rs.length ca) (.int .i64 i) (.int .i64 j) (.slice b rs.length cb) 28 28
  have HW : Hid ((w.alloc (.cells #[.int .i64 i, .int .i64 j, .slice a rs.length ca] 28)).alloc (.cells #[.int .i64 i, .int .i64 j, .slice b rs.length cb] 28) = W) := hW
  have HSZ : Hid (W.heap.size = w.heap.size + 2) := hsz
  have hne : ((rs.length : Int) != (rs.length : Int)) = false := by simp
  have hnn : (!(i == i && j == j)) = false := by simp
  clear hW hsz
  go_enter Tryz.func11, Tryz.ntmps11
  go_wp2
  rw [HW.out]
  go_loopw [5] (fun q wr => ∃ k : Nat, k ≤ rs.length ∧ q = .int .i64 k ∧ Box3 wr w.heap.size (.int .i64 i) (.int .i64 j) (.slice a rs.length ca) ∧ Box3 wr (w.heap.size + 1) (.int .i64 i) (.int .i64 j) (.slice b rs.length cb) ∧ Below w.heap.size w wr) (fun q _ => rs.length - (intOf q).toNat)
  case atStart => exact ⟨0, Nat.zero_le _, rfl, bx, br, hB⟩
  case round =>
    clear bx br hB
    obtain ⟨k, hk, rfl, bx, br, hB⟩ := hrel
    obtain ⟨hbx, ⟨x0, x1, x2⟩, _⟩ := id bx
    obtain ⟨hbr, ⟨r0, r1, r2⟩, _⟩ := id br
    have HBX : Hid (Box3 wr w.heap.size (.int .i64 i) (.int .i64 j) (.slice a rs.length ca) ∧ Box3 wr (w.heap.size + 1) (.int .i64 i) (.int .i64 j) (.slice b rs.length cb) ∧ Below w.heap.size w wr) := ⟨bx, br, hB⟩
    by_cases hlt : k < rs.length
    · rcases hx.below hB with h0 | ⟨xb, xo, rfl, hxb, hxc⟩
      · rw [h0] at hlt; simp at hlt
      rcases hy.below hB with h0 | ⟨yb, yo, rfl, hyb, hyc⟩
      · rw [h0] at hlt; simp at hlt
      obtain ⟨v0, v1, v2, ⟨c0, c1, c2⟩, a0, q0, a1, q1, rfl, rfl, rfl, h0, h1⟩ := hxc k hlt
      obtain ⟨u0, u1, u2, ⟨d0, d1, d2⟩, b0, p0, b1, p1, rfl, rfl, rfl, g0, g1⟩ := hyc k hlt
      have hz := szR_at rs k hlt
      unfold Row.sz at hz
      have hl0 : rs[k].nums.length ≤ 1048576 := by omega
      have hl1 : rs[k].cats.length ≤ 1048576 := by omega
      obtain ⟨t, et⟩ : ∃ t, rs[k].label = t := ⟨_, rfl⟩
      rw [et] at c2 d2
      have htt : (t != t) = false := by simp
      obtain ⟨l0, e0⟩ : ∃ l, rs[k].nums = l := ⟨_, rfl⟩
      rw [e0] at c0 d0 h0 g0 hl0
      obtain ⟨l1, e1⟩ : ∃ l, rs[k].cats = l := ⟨_, rfl⟩
      rw [e1] at c1 d1 h1 g1 hl1
      clear hxc hyc et e0 e1 bx br hz
      go_wp2
      go_quiet (first
        | (go_at_call 29; refine Calls.quiet_of (same_t _ _ _ _ _ l0 (lift_drew h0) (lift_drew g0) hl0))
        | (go_at_call 30; refine Calls.quiet_of (samex_t _ _ _ _ _ l1 (slift_drew h1) (slift_drew g1) hl1)))
      go_wp2
      go_roundw
      case rel => exact ⟨k + 1, by omega, by go_num, HBX.out.1.below (below_dn _ _), HBX.out.2.1.below (below_dn _ _), below_drewN HBX.out.2.2 _⟩
      case measure => simp [intOf]; omega
    · go_wp2
      go_ret
      exact ⟨rfl, hB⟩
end Go.Proofs.YtdippfdobieefaaGreatDoor.Sm
