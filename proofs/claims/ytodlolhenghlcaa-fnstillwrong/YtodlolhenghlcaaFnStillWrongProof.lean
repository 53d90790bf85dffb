/-
  Proved here: the Go function laws.FnStillWrong, called with any arguments that can be read, returns true, and each argument reads afterwards as it read before ('Rows.FnStillWrongSaid', no condition beyond the row's own). The frame was written by the guide's program; the walk and its contracts are by hand.
-/
import Derived.Test.YtodlolhenghlcaaRows
import Derived.WalkKit
import Derived.ProofKit
import Derived.OpenShut
import Derived.ShutString
import Derived.ChangeOld
import Derived.Below
import Derived.Test.YtodlolhenghlcaaDrawQ
import Derived.Test.YtodlolhenghlcaaGra
import Derived.Deep.RegionWith
namespace Go.Proofs.Ytodlolhenghlcaa.fnStillWrong
open Go.ChangeShapes Go.WideShapes Go.ChangeAt Go.RowKit
open Go.ChangeMaps (open_string shut_string)
set_option linter.unusedVariables false

theorem own : ownKnob Try.prog.godebug = none := by kernel_rfl
theorem laidOut : laidOutB Try.prog = true := by kernel_rfl

/-- WHAT THE WALK IS TOLD OF A SLICE OF INTEGERS THAT CAME IN: it is nil; or it leads to a row of 'cap' cells, the numbers 'zs' (the first 'len' are its elements, the rest its spare room), each fitting its kind. -/
def IsRow (k : IntKind) (w : World) (a : Option Addr) (len cap : Nat) (zs : List Int) : Prop :=
  (a = none ∧ len = 0 ∧ cap = 0 ∧ zs = []) ∨
  ∃ x, a = some x ∧ len ≤ cap ∧ cap ≤ maxLen ∧ zs.length = cap ∧ (∀ i, i < zs.length → w.cell? (x.add i) = some (.int k (zs.getD i 0))) ∧ ∀ n ∈ zs, (Lit.int k n).wf = true

/-! ### STEP 1: THE WALK: the Go text returns true, AND WRITES NOTHING THAT WAS THERE: 'Below w.heap.size w w'' (Derived/Below.lean: '.refl', '.alloc', '.drew', '.setCell' at a new block, '.trans'). Open each 'IsRow' by 'rcases' AHEAD of 'go_enter'; part every test ahead of the walk. -/
set_option maxHeartbeats 4000000 in
theorem walk (a0 : Option Addr) (len0 cap0 : Nat) (z0 : List Int) (w : World) (w0 : IsRow .u8 w a0 len0 cap0 z0) :
    Calls Try.prog 3 #[.slice a0 len0 cap0] w fun e w' => e = .returned (.bool true) ∧ Below w.heap.size w w' := by
  have key : ∀ (a : Option Addr) (len cap : Nat) (z : List Int), IsRow .u8 w a len cap z → Cu.Bytes w w.heap.size a len := by
    intro a len cap z h
    rcases h with ⟨rfl, rfl, rfl, rfl⟩ | ⟨x, rfl, hl, _, hz, hc, hw⟩
    · exact .inl rfl
    · exact Cu.bytes_of _ (Nat.le_refl _) hl hz hc hw
  have B0 := key _ _ _ _ w0
  clear key w0
  by_cases hb0 : 1048576 < len0
  · have e0 : decide (1048576 < len0) = true := by simpa using hb0
    go_enter Try.func3, Try.ntmps3
    go_wp2_with (go_at_call 7; refine (Cu.big_any _ _ _ _).mono ?_; rintro e w' ⟨rfl, hw⟩; subst w')
    go_ret
    exact ⟨rfl, Below.refl _ _⟩
  have e0 : decide (1048576 < len0) = false := by simpa using hb0
  go_enter Try.func3, Try.ntmps3
  go_wp2_with (go_at_call 7; refine (Cu.big_any _ _ _ _).mono ?_; rintro e w' ⟨rfl, hw⟩; subst w')
  refine (Dq.drawGrads _ _ _ _ B0 (by omega)).mono ?_
  rintro e w1 ⟨vl, vp, ls, ps, rfl, hll, hpl, ol, op, hB⟩
  clear B0 hb0 e0
  obtain ⟨al, cl, el, il⟩ := ol.isl
  subst el
  obtain ⟨ap, cp, ep, ip⟩ := op.isl
  subst ep
  clear ol op
  go_wp2_with fail
  refine (Gd.igrs _ _ _ _ _ ls ps il ip (by omega) (by omega)).mono ?_
  rintro e w2 ⟨vg, rfl, og, hb⟩
  have il := il.below hb
  have ip := ip.below hb
  have hB := hB.trans (hb.mono hB.size)
  clear hb
  go_wp2_with fail
  refine (Gd.sgrs _ _ _ _ _ ls ps il ip (by omega) (by omega)).mono ?_
  rintro e w3 ⟨vs, rfl, os, hb⟩
  have il := il.below hb
  have ip := ip.below hb
  have og := og.below hb
  have hB := hB.trans (hb.mono hB.size)
  clear hb
  have hgn := Gd.grs_len ls ps
  have HA : Hid (∀ k (hk : k < (Gd.grs ls ps).length), k < ls.length ∧ k < ps.length ∧ (-2000000 ≤ (Gd.grs ls ps)[k] ∧ (Gd.grs ls ps)[k] ≤ 2000000) ∧ (∀ (h1 : k < ls.length) (h2 : k < ps.length), ls[k] = ps[k] → (Gd.grs ls ps)[k] = 0)) := by
    intro k hk
    by_cases h : ls.length = ps.length
    · have hl := Gd.grs_length h
      have h1 : k < ls.length := by omega
      have h2 : k < ps.length := by omega
      refine ⟨h1, h2, ?_, fun _ _ e => ?_⟩
      · rw [Gd.grs_get h k hk h1 h2]; exact Gd.gr_bd _ _
      · rw [Gd.grs_get h k hk h1 h2, e]; exact Gd.gr_same _
    · rw [Gd.grs_no h] at hk; simp at hk
  obtain ⟨gs, hgs⟩ : ∃ gs, Gd.grs ls ps = gs := ⟨_, rfl⟩
  rw [hgs] at og os HA hgn
  clear hgs
  obtain ⟨ag, cg, eg, ig⟩ := og.isl
  subst eg
  obtain ⟨a5, c5, e5, is⟩ := os.isl
  subst e5
  clear og os
  go_wp2_with fail
  refine (Li.same_bel _ _ _ _ _ gs gs ig is (by omega) (by omega)).mono ?_
  rintro e w4 ⟨rfl, hb⟩
  rw [Li.eqs_self]
  have il := il.below hb
  have ip := ip.below hb
  have ig := ig.below hb
  have hB := hB.trans (hb.mono hB.size)
  clear hb is
  go_wp2
  go_loopw [6] (fun i wr => ∃ k : Nat, k ≤ gs.length ∧ i = .int .i64 k ∧ Below w4.heap.size w4 wr) (fun i _ => gs.length - (intOf i).toNat)
  case atStart => exact ⟨0, Nat.zero_le _, rfl, Below.refl _ _⟩
  case round =>
    obtain ⟨k, hk, rfl, hBr⟩ := hrel
    by_cases hlt : k < gs.length
    · obtain ⟨h1, h2, ⟨g0, g1⟩, hz⟩ := HA.out k hlt
      rcases ig.below hBr with h0 | ⟨gb, go', rfl, hgb, hgc⟩
      · rw [h0] at hlt; simp at hlt
      rcases il.below hBr with h0 | ⟨lb, lo, rfl, hlb, hlc⟩
      · rw [h0] at h1; simp at h1
      rcases ip.below hBr with h0 | ⟨pb, po, rfl, hpb, hpc⟩
      · rw [h0] at h2; simp at h2
      have cg := hgc k hlt
      have cl' := hlc k h1
      have cp' := hpc k h2
      have hz := hz h1 h2
      obtain ⟨g, eg⟩ : ∃ g, gs[k] = g := ⟨_, rfl⟩
      obtain ⟨x, ex⟩ : ∃ x, ls[k] = x := ⟨_, rfl⟩
      obtain ⟨y, ey⟩ : ∃ y, ps[k] = y := ⟨_, rfl⟩
      rw [eg] at cg g0 g1 hz
      rw [ex] at cl' hz
      rw [ey] at cp' hz
      clear hgc hlc hpc eg ex ey
      have d1 : decide (2000000 < g) = false := by simp; omega
      have d2 : decide (g < -2000000) = false := by simp; omega
      by_cases hxy : x = y
      · have hz := hz hxy
        subst hz
        subst hxy
        go_wp2
        go_region
        all_goals go_wp2
        all_goals go_roundw
        case rel => exact ⟨k + 1, by omega, by go_num, by first | exact hBr | exact Below.drew hBr⟩
        case measure => simp [intOf]; omega
      · have hxy' : (x == y) = false := by rw [beq_eq_false_iff_ne]; exact hxy
        clear hz
        go_wp2
        go_region
        all_goals go_wp2
        all_goals go_roundw
        case rel => exact ⟨k + 1, by omega, by go_num, by first | exact hBr | exact Below.drew hBr⟩
        case measure => simp [intOf]; omega
    · obtain rfl : k = gs.length := by omega
      have il := il.below hBr
      have hB := hB.trans (hBr.mono hB.size)
      clear hBr HA hlt
      go_wp2_with fail
      refine (Gd.igrs _ _ _ _ _ ls ls il il (by omega) (by omega)).mono ?_
      rintro e w5 ⟨vz, rfl, oz, hb⟩
      have hB := hB.trans (hb.mono hB.size)
      clear hb
      have hzl := Gd.grs_length (ls := ls) (ps := ls) rfl
      have HZ : Hid (∀ j (hj : j < (Gd.grs ls ls).length), (Gd.grs ls ls)[j] = 0) := fun j hj => by
        rw [Gd.grs_get rfl j hj (by omega) (by omega)]; exact Gd.gr_same _
      obtain ⟨zs, hzs⟩ : ∃ zs, Gd.grs ls ls = zs := ⟨_, rfl⟩
      rw [hzs] at oz HZ hzl
      have HL : Hid (zs.length = ls.length) := hzl
      have hz10 : zs.length ≤ 10 := by omega
      have heq : ((zs.length : Int) == (ls.length : Int)) = true := by rw [beq_iff_eq]; omega
      clear hzs hzl
      obtain ⟨az, cz, ez, iz⟩ := oz.isl
      subst ez
      clear oz
      go_wp2
      go_loop [8] (fun i => ∃ j : Nat, j ≤ zs.length ∧ i = .int .i64 j) (fun i => zs.length - (intOf i).toNat)
      case atStart => exact ⟨0, Nat.zero_le _, rfl⟩
      case round =>
        obtain ⟨j, hj, rfl⟩ := hrel
        by_cases hjl : j < zs.length
        · rcases iz with h0 | ⟨zb, zo, rfl, hzb, hzc⟩
          · rw [h0] at hjl; simp at hjl
          have cz' := hzc j hjl
          rw [HZ.out j hjl] at cz'
          clear hzc
          go_wp2
          go_round
          case rel => exact ⟨j + 1, by omega, by go_num⟩
          case measure => simp [intOf]; omega
        · go_wp2
          go_ret
          exact ⟨rfl, hB⟩

/-! ### THE ROW's STEP: WRITTEN OUT: LEAVE IT -/
set_option maxRecDepth 100000 in
theorem lifted (os : Os) (started : os.Started) (H : Type) (enc : TypeId × Value → H) :
    ReturnsInHanded {} Try.checked os 3 .any (Rows.fnStillWrongSpec.pre6 enc Try.prog Try.f3 Rows.fnStillWrongRow.domain false) (Rows.fnStillWrongSpec.post enc Try.prog Try.f3 false true false false) := by
  refine returnsInHanded_of_change (C := Try.checked) own started (by kernel_rfl) Try.func3
    (ChangeSpec.witness6 (enc := enc) (C := Try.checked) false ⟨#[], #[.slice none 0 0], []⟩ 8 (by kernel_rfl) (by kernel_rfl) (by kernel_rfl) (by kernel_rfl)) ?_
  intro W base args ds gs before hval0 hW hcnd _
  have hval : ∀ (j : Nat) t v, Try.f3.params[j]? = some t → args[j]? = some v → Value.okWide Try.prog W .any base t v := hval0
  have hW' := hW
  obtain ⟨p, q, hA0, hV, rfl, hfz, hnd⟩ := hW
  have hA : DataW.TrodAll enc Try.prog W 0 (fun _ => true) true Try.f3.params.toList args.toList ds p := hA0
  rw [Try.params3] at hA hval
  obtain ⟨v0, vs0, d0, ds0, p0, q0, hargs, rfl, rfl, h0, r0⟩ := trodAll_cons hA
  obtain ⟨rfl, rfl, rfl⟩ := trodAll_nil r0
  obtain rfl : args = #[v0] := by cases args; simp_all
  obtain ⟨rfl, rfl⟩ := trodVars_none hV
  obtain ⟨a0, len0, cap0, rfl⟩ := okWide_slice Try.underlying22 (hval 0 22 v0 rfl rfl)
  have k0 := h0
  have lt0 : ∀ x ∈ p0, x.block < W.heap.size := by obtain ⟨m, hm⟩ := k0; exact DataW.trod_lt m _ _ _ hm
  obtain ⟨z0, w0⟩ : ∃ zs, IsRow .u8 W a0 len0 cap0 zs := by
    obtain ⟨fuel, hf⟩ := h0
    rcases open_ints Try.underlying22 Try.underlying5 (by kernel_rfl) hf with ⟨hcs, _⟩ | ⟨x, l, c, zs, hcs, _, hl, hm, hz, _, hcell, hwz⟩
    · simp [Value.cells] at hcs
      obtain ⟨rfl, rfl, rfl⟩ := hcs
      exact ⟨[], .inl ⟨rfl, rfl, rfl, rfl⟩⟩
    · simp [Value.cells] at hcs
      obtain ⟨rfl, rfl, rfl⟩ := hcs
      exact ⟨zs, .inr ⟨_, rfl, hl, hm, by simpa using hz, hcell, hwz⟩⟩
  clear hA0 hval0
  refine (walk a0 len0 cap0 z0 W w0).mono fun e W' ⟨he, bel⟩ => ?_
  subst he
  exact ⟨_, rfl, _, _, _, [], _, [], hW', trodAll_mk1 (shut_bool Try.underlying4 _), (trodAll_cons_mk (Below.trod laidOut (by kernel_rfl) (of_decide_eq_true (by kernel_rfl)) k0 bel lt0) trodAll_mk0), rfl, bel.frame _, fun h => by cases h⟩

theorem over : Rows.fnStillWrongRow.holds Try.pinned (OpenSpec.ofChange Rows.fnStillWrongSpec) :=
  OpenClaim.holds_of_wide 3 Try.f3 rfl rfl rfl rfl rfl rfl rfl ⟨rfl, rfl, rfl, rfl, rfl⟩ rfl rfl rfl rfl rfl (by kernel_rfl) Try.func3 (by kernel_rfl)
    (of_decide_eq_true (by kernel_rfl)) (by unfold Func.isWrapper; first | (rw [if_pos (by decide +kernel)]; kernel_rfl) | (rw [if_neg (by decide +kernel)]; exact ⟨rfl, rfl⟩))
    (fun os started H enc _ => lifted os started H enc)

/-- THE STATEMENT -/
theorem proved : Rows.FnStillWrongSaid := over
#print axioms proved
end Go.Proofs.Ytodlolhenghlcaa.fnStillWrong
