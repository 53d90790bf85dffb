/-
  laws.sameTree: a tree is the same as itself, wherever the two lie.
-/
import Derived.Test.YtomembbdbmjgmaaTrT
import Derived.Laws.StructEq
namespace Go.Proofs.Ytomembbdbmjgmaa.Tm
open Go.RowKit
open Go.Proofs.Ytomembbdbmjgmaa.Li (iv ret_bool ret_int below_none)
open Go.Proofs.Ytomembbdbmjgmaa.Tr
set_option maxRecDepth 100000
set_option linter.unusedVariables false
theorem neqS (x y : Int) (W : World) : Sem.run Try.prog (binOp .neq 49 (.agg #[.int .i64 x, .int .i64 y]) (.agg #[.int .i64 x, .int .i64 y])) W = .ok (.bool false) W := by
  have hu := Try.underlying49
  have hi := Try.underlying3
  have hp : Try.prog.stoodInHeld 49 = false := by kernel_rfl
  have hf : Try.prog.underlying 49 = some (.struct (Try.prog.fieldsOf 49)) := by kernel_rfl
  rw [run_neq_struct, run_equalIn_agg _ _ _ _ _ hf hp]
  simp [Program.fieldsOf, hu, Op.eqFields, go_sem, hi]
set_option maxHeartbeats 1000000 in
theorem sameTree (w : World) (a a' b b' : Option Addr) (c c' d d' : Nat) (t : T) (hp : IsP w a t.sp) (hx : Li.IsL w a' t.lv) (hq : IsP w b t.sp) (hy : Li.IsL w b' t.lv) (hl : t.sp.length + t.lv.length ≤ 1048576) :
    Calls Try.prog 9 #[.agg #[.slice a t.sp.length c, .slice a' t.lv.length c'], .agg #[.slice b t.sp.length d, .slice b' t.lv.length d']] w fun e w' => e = .returned (.bool true) ∧ Below w.heap.size w w' := by
  have hne : ((t.sp.length : Int) != (t.sp.length : Int)) = false := by simp
  go_enter Try.func9, Try.ntmps9
  go_wp2_with fail
  obtain ⟨W, hW, hsz, hB, bx, bz⟩ := boxes2 w (.slice a t.sp.length c) (.slice a' t.lv.length c') (.slice b t.sp.length d) (.slice b' t.lv.length d') 27 27
  rw [hW]
  have hp := hp.below hB
  have hq := hq.below hB
  have hx := hx.below hB
  have hy := hy.below hB
  clear hW hsz
  go_loopw [5] (fun i wr => ∃ k : Nat, k ≤ t.sp.length ∧ i = .int .i64 k ∧ Below W.heap.size W wr) (fun i _ => t.sp.length - (intOf i).toNat)
  case atStart => exact ⟨0, Nat.zero_le _, rfl, Below.refl _ _⟩
  case round =>
    obtain ⟨k, hk, rfl, hb⟩ := hrel
    obtain ⟨_, ⟨x0, x1⟩, _⟩ := id (bx.below hb)
    obtain ⟨_, ⟨z0, z1⟩, _⟩ := id (bz.below hb)
    have hHB : Hid (Below W.heap.size W wr) := hb
    by_cases hlt : k < t.sp.length
    · rcases hp.below hb with h0 | ⟨pb, po, rfl, hpb, hpc⟩
      · rw [h0] at hlt; simp at hlt
      rcases hq.below hb with h0 | ⟨qb, qo, rfl, hqb, hqc⟩
      · rw [h0] at hlt; simp at hlt
      obtain ⟨u0, u1⟩ := hpc k hlt
      obtain ⟨v0, v1⟩ := hqc k hlt
      obtain ⟨X, hX⟩ : ∃ X, t.sp[k].1 = X := ⟨_, rfl⟩
      obtain ⟨Y, hY⟩ : ∃ Y, t.sp[k].2 = Y := ⟨_, rfl⟩
      rw [hX] at u0 v0
      rw [hY] at u1 v1
      have hkn : (k : Int) < (t.sp.length : Int) := by omega
      have hnq := neqS X Y
      have hg : ∀ (W : World) (x y : Operand), (eqGuard .neq 49 x y (.agg #[.int .i64 X, .int .i64 Y]) (.agg #[.int .i64 X, .int .i64 Y])).run Try.prog W = .ok () W := fun W x y => run_eqGuard_agg W _ _ _ _ _ _ (by kernel_rfl)
      clear hpc hqc hX hY hb
      go_wp2
      go_quiet (fail)
      go_wp2
      go_roundw
      case rel => exact ⟨k + 1, by omega, by go_num, hHB.out.trans ((below_drewN' _ _).mono hHB.out.size)⟩
      case measure => simp [intOf]; omega
    · obtain rfl : k = t.sp.length := by omega
      have hx := hx.below hb
      have hy := hy.below hb
      have hBB := hB.trans (hb.mono hB.size)
      clear hb
      go_wp2_with fail
      refine (Li.same_bel _ _ _ _ _ t.lv t.lv hx hy (by omega) (by omega)).mono ?_
      rintro e w2 ⟨rfl, hb2⟩
      rw [Li.eqs_self]
      have hBB := hBB.trans (hb2.mono hBB.size)
      go_wp2
      go_ret
      exact ⟨rfl, hBB⟩
end Go.Proofs.Ytomembbdbmjgmaa.Tm
