/-
  Proved here: the Go function laws.FnFolds, called with any arguments that can be read, returns true, and each argument reads afterwards as it read before ('Rows.FnFoldsSaid', no condition beyond the row's own). The frame was written by the guide's program; the walk and its contracts are by hand.
-/
import Derived.Test.YtdcbcacgppffgaaRows
import Derived.WalkKit
import Derived.ProofKit
import Derived.OpenShut
import Derived.ShutString
import Derived.ChangeOld
import Derived.Below
import Derived.Test.YtdcbcacgppffgaaDrawFo
import Derived.Test.YtdcbcacgppffgaaFolP
import Derived.Deep.QuietTactic
import Derived.BigQuiet
namespace Go.Proofs.Ytdcbcacgppffgaa.fnFolds
open Go.ChangeShapes Go.WideShapes Go.ChangeAt Go.RowKit
open Go.Proofs.Ytdcbcacgppffgaa.Li
open Go.ChangeMaps (open_string shut_string)
set_option linter.unusedVariables false

theorem own : ownKnob Try.prog.godebug = none := by kernel_rfl
theorem laidOut : laidOutB Try.prog = true := by kernel_rfl

/-- WHAT THE WALK IS TOLD OF A SLICE OF INTEGERS THAT CAME IN: it is nil; or it leads to a row of 'cap' cells, the numbers 'zs' (the first 'len' are its elements, the rest its spare room), each fitting its kind. -/
def IsRow (k : IntKind) (w : World) (a : Option Addr) (len cap : Nat) (zs : List Int) : Prop :=
  (a = none ∧ len = 0 ∧ cap = 0 ∧ zs = []) ∨
  ∃ x, a = some x ∧ len ≤ cap ∧ cap ≤ maxLen ∧ zs.length = cap ∧ (∀ i, i < zs.length → w.cell? (x.add i) = some (.int k (zs.getD i 0))) ∧ ∀ n ∈ zs, (Lit.int k n).wf = true

/-! ### STEP 1: THE WALK: the Go text returns true, AND WRITES NOTHING THAT WAS THERE: 'Below w.heap.size w w'' (Derived/Below.lean: '.refl', '.alloc', '.drew', '.setCell' at a new block, '.trans'). Open each 'IsRow' by 'rcases' AHEAD of 'go_enter'; part every test ahead of the walk. -/
set_option maxRecDepth 100000 in
set_option maxHeartbeats 40000000 in
theorem walk (a0 : Option Addr) (len0 cap0 : Nat) (z0 : List Int) (w : World) (w0 : IsRow .u8 w a0 len0 cap0 z0) :
    Calls Try.prog 4 #[.slice a0 len0 cap0] w fun e w' => e = .returned (.bool true) ∧ Below w.heap.size w w' := by
  have key : ∀ (a : Option Addr) (len cap : Nat) (z : List Int), IsRow .u8 w a len cap z → Cu.Bytes w w.heap.size a len := by
    intro a len cap z h
    rcases h with ⟨rfl, rfl, rfl, rfl⟩ | ⟨x, rfl, hl, _, hz, hc, hw⟩
    · exact .inl rfl
    · exact Cu.bytes_of _ (Nat.le_refl _) hl hz hc hw
  have B0 := key _ _ _ _ w0
  clear key w0
  by_cases hb0 : 1048576 < len0
  · have e0 : decide (1048576 < len0) = true := by simpa using hb0
    go_enter Try.func4, Try.ntmps4
    go_wp2_with (go_at_call 7; refine (Cu.big_any _ _ _ _).mono ?_; rintro e w' ⟨rfl, hw⟩; subst w')
    go_ret
    exact ⟨rfl, Below.refl _ _⟩
  have e0 : decide (1048576 < len0) = false := by simpa using hb0
  go_enter Try.func4, Try.ntmps4
  go_wp2_with (go_at_call 7; refine (Cu.big_any _ _ _ _).mono ?_; rintro e w' ⟨rfl, hw⟩; subst w')
  refine (Df.drawFolds _ _ _ _ B0 (by omega)).mono ?_
  rintro e w1 ⟨n, k, rfl, hn, hk, hB⟩
  clear B0 hb0 e0
  go_wp2_with fail
  refine (Fo.ifolds _ _ _ hn hk).mono ?_
  rintro e w2 ⟨vg, rfl, og, hb⟩
  have hB := hB.trans (hb.mono hB.size)
  clear hb
  obtain ⟨gs, hgs⟩ : ∃ gs, Fo.folds n k = gs := ⟨_, rfl⟩
  have HG : Hid (Fo.folds n k = gs) := hgs
  have hgl : gs.length ≤ 40 := by rw [← hgs]; exact Fo.folds_len n k
  rw [hgs] at og
  clear hgs
  obtain ⟨ag, cg, eg, ig⟩ := og.isl
  subst eg
  clear og
  go_wp2_with fail
  refine (Fo.sfolds _ _ _ hn hk).mono ?_
  rintro e w3 ⟨vs, rfl, os, hb⟩
  rw [HG.out] at os
  have ig := ig.below hb
  have hB := hB.trans (hb.mono hB.size)
  clear hb hn hk
  obtain ⟨a5, c5, e5, is⟩ := os.isl
  subst e5
  clear os
  go_wp2_with fail
  refine (Li.same_bel _ _ _ _ _ gs gs ig is (by omega) (by omega)).mono ?_
  rintro e w4 ⟨rfl, hb⟩
  rw [Li.eqs_self]
  have ig := ig.below hb
  have hB := hB.trans (hb.mono hB.size)
  clear hb is
  cases hz : ((gs.length : Int) == 0)
  rotate_left
  · clear HG
    go_wp2
    go_ret
    exact ⟨rfl, hB⟩
  have hf : Fo.fok n k = true := by
    cases hf : Fo.fok n k
    · have := HG.out; rw [Fo.folds_no hf] at this; subst this; simp at hz
    · rfl
  have hc : (0 ≤ n ∧ n ≤ 40) ∧ 1 ≤ k ∧ k ≤ 10 := by unfold Fo.fok Li.btw at hf; simpa using hf
  have hgs := HG.out
  rw [Fo.folds_yes hf] at hgs
  clear HG hf
  obtain ⟨⟨n0, n1⟩, k0, k1⟩ := hc
  obtain ⟨n', rfl⟩ := Int.eq_ofNat_of_zero_le n0
  obtain ⟨k', rfl⟩ := Int.eq_ofNat_of_zero_le (show (0 : Int) ≤ k by omega)
  rw [Int.toNat_natCast, Int.toNat_natCast] at hgs
  have HL : Hid (gs.length = n') := by show _ = _; rw [← hgs]; exact Fo.cyc_len _ _
  have HE : Hid (∀ j (h : j < gs.length), gs[j] = ((j % k' : Nat) : Int)) := by intro j h; subst hgs; exact Fo.cyc_get n' k' j h
  clear hgs
  have hkne : ¬ (k' : Int) = 0 := by omega
  obtain ⟨i0, hi, hz0, hz1, hz2⟩ := info_parts info_int
  go_wp2_with (at_make; refine wpList_make_full _ rfl _ _ 24 rfl w.heap.size 3 i0 (.int .i64 0) 1 Try.underlying24 hi hz0 hz1 _ _ _ _ k' rfl rfl (by omega) (by omega) (by rw [hz2]; omega) (by unfold maxLen; omega) hB.size ?_; intro w5 hown hgrow)
  have hown' := Li.own_made hown
  have hB5 := Li.below_none hgrow
  clear hown hgrow
  obtain ⟨H, hH⟩ : ∃ H, w4.heap.size = H := ⟨_, rfl⟩
  rw [hH] at hown' hB5 ⊢
  have HH : Hid (w4.heap.size = H) := hH
  have hwH : w.heap.size ≤ H := by have := hB.size; omega
  clear hH
  go_loopw [7] (fun i wr => ∃ j : Nat, j ≤ gs.length ∧ i = .int .i64 j ∧ ∃ M : List Int, M.length = k' ∧ (∀ f (h : f < M.length), M[f] = (Fo.tally k' j f : Int)) ∧ Li.Own wr w.heap.size (.slice (some ⟨H, 0, none⟩) k' k') M ∧ Below H w4 wr) (fun i _ => gs.length - (intOf i).toNat)
  case atStart => exact ⟨0, Nat.zero_le _, rfl, _, by simp, fun f h => by rw [Fo.tally_zero_all k' (by omega) f (by simpa using h)]; simp, hown', hB5⟩
  case round =>
    obtain ⟨j, hj, rfl, M, hML, hM, hown, hBr⟩ := hrel
    by_cases hlt : j < gs.length
    · rcases ig.below (HH.out ▸ hBr) with h0 | ⟨gb, go', rfl, hgb, hgc⟩
      · rw [h0] at hlt; simp at hlt
      have hr : j % k' < k' := Nat.mod_lt j (by omega)
      have cg := hgc j hlt
      rw [HE.out j hlt] at cg
      have cm := hown.cell hML (j % k') (by omega)
      have fm := hown.frozen hML (j % k')
      have hMr := hM (j % k') (by omega)
      rw [hMr] at cm
      have hle := Fo.tally_le_all k' (by omega) j (by omega) (j % k') hr
      have HM' : Hid (∀ f (h : f < (M.set (j % k') ((Fo.tally k' j (j % k') : Int) + 1)).length), (M.set (j % k') ((Fo.tally k' j (j % k') : Int) + 1))[f] = (Fo.tally k' (j + 1) f : Int)) := by
        intro f h
        have hf : f < M.length := by simpa using h
        rw [List.getElem_set, Fo.tally_step_all k' (by omega) j (by omega) f (by omega)]
        by_cases e : j % k' = f
        · rw [if_pos e, if_pos e.symm, e]; omega
        · rw [if_neg e, if_neg (Ne.symm e), hM f hf]; omega
      have HO : Hid (Li.Own wr w.heap.size (.slice (some ⟨H, 0, none⟩) k' k') M) := hown
      have HN : Hid (M.length = k') := hML
      obtain ⟨t, ht⟩ : ∃ t, Fo.tally k' j (j % k') = t := ⟨_, rfl⟩
      obtain ⟨r, hrr⟩ : ∃ r, j % k' = r := ⟨_, rfl⟩
      rw [ht] at cm hle HM'
      rw [hrr] at cm fm cg HM' hr
      have hr2 : (r : Int) < (k' : Int) := by omega
      have d1 : decide ((r : Int) < 0) = false := decide_eq_false (by omega)
      have d2 : decide ((k' : Int) ≤ (r : Int)) = false := decide_eq_false (by omega)
      clear hown hgc hM hMr ht hrr hML
      go_wp2
      go_roundw
      case rel => exact ⟨j + 1, by omega, by go_num, _, by simpa using HN.out, HM'.out, by first | exact HO.out.set HN.out r _ | (have := HO.out.set HN.out r ((t : Int) + 1); simpa using this), hBr.setCell (p := ⟨H, r, none⟩) (Nat.le_refl _) _⟩
      case measure => simp [intOf]; omega
    · obtain rfl : j = gs.length := by omega
      have HM : Hid (∀ f (h : f < M.length), M[f] = (Fo.tally k' n' f : Int)) := by have := hM; rw [HL.out] at this; exact this
      have HN : Hid (M.length = k') := hML
      have HO : Hid (Li.Own wr w.heap.size (.slice (some ⟨H, 0, none⟩) k' k') M) := hown
      have hBf := hB.trans ((HH.out ▸ hBr : Below w4.heap.size w4 wr).mono hB.size)
      clear hM hML hown hBr hB hB5 hown' hlt ig
      go_wp2
      go_loopw [8] (fun i wr' => ∃ f : Nat, f ≤ k' ∧ i = .int .i64 f ∧ ∃ c, wr' = wr.drewN c) (fun i _ => k' - (intOf i).toNat)
      case atStart => exact ⟨0, Nat.zero_le _, rfl, 0, rfl⟩
      case round =>
        obtain ⟨f, hf, rfl, c, rfl⟩ := hrel
        by_cases hfk : f < k'
        · have cm : wr.cell? ⟨H, f, none⟩ = some (.int .i64 (Fo.tally k' n' f : Int)) := by
            have := HO.out.cell HN.out f (by rw [HN.out]; exact hfk)
            rw [HM.out] at this
            exact this
          have he := Fo.tally_end_all k' (by omega) n' (by omega) f hfk
          have ht : (n' : Int).tdiv (k' : Int) = ((n' / k' : Nat) : Int) := Fo.tdiv_nat _ _
          have hq : n' / k' ≤ 40 := Nat.le_trans (Nat.div_le_self _ _) (by omega)
          obtain ⟨t, et⟩ : ∃ t, Fo.tally k' n' f = t := ⟨_, rfl⟩
          obtain ⟨q, eq⟩ : ∃ q, n' / k' = q := ⟨_, rfl⟩
          rw [et] at cm he
          rw [eq] at he ht hq
          clear et eq
          have d1 : decide ((t : Int) < (q : Int)) = false := decide_eq_false (by omega)
          have d2 : decide ((q : Int) + 1 < (t : Int)) = false := decide_eq_false (by omega)
          have i1 : (0 : Int) ≤ (f : Int) := by omega
          have hk0 : ¬ k' = 0 := by omega
          have hkb : ((k' : Int) == 0) = false := by rw [beq_eq_false_iff_ne]; omega
          have i2 : (f : Int) < (k' : Int) := by omega
          have wq : IntKind.i64.wrap ((q : Int)) = q := by rw [IntKind.wrap_i64]; omega
          have wq1 : IntKind.i64.wrap ((q : Int) + 1) = q + 1 := by rw [IntKind.wrap_i64]; omega
          go_wp2
          go_quiet (fail)
          go_wp2
          go_roundw
          case rel => exact ⟨f + 1, by omega, by go_num, c + nq, by first | rfl | rw [World.drewN_drewN]⟩
          case measure => simp [intOf]; omega
        · have hee : ((gs.length : Int) == (n' : Int)) = true := by rw [beq_iff_eq, HL.out]
          clear HM HN HO HE
          go_wp2
          go_ret
          exact ⟨rfl, hBf.trans ⟨rfl, rfl, rfl, by simp, fun _ _ => rfl⟩⟩

/-! ### THE ROW's STEP: WRITTEN OUT: LEAVE IT -/
set_option maxRecDepth 100000 in
theorem lifted (os : Os) (started : os.Started) (H : Type) (enc : TypeId × Value → H) :
    ReturnsInHanded {} Try.checked os 4 .any (Rows.fnFoldsSpec.pre6 enc Try.prog Try.f4 Rows.fnFoldsRow.domain false) (Rows.fnFoldsSpec.post enc Try.prog Try.f4 false true false false) := by
  refine returnsInHanded_of_change (C := Try.checked) own started (by kernel_rfl) Try.func4
    (ChangeSpec.witness6 (enc := enc) (C := Try.checked) false ⟨#[], #[.slice none 0 0], []⟩ 8 (by kernel_rfl) (by kernel_rfl) (by kernel_rfl) (by kernel_rfl)) ?_
  intro W base args ds gs before hval0 hW hcnd _
  have hval : ∀ (j : Nat) t v, Try.f4.params[j]? = some t → args[j]? = some v → Value.okWide Try.prog W .any base t v := hval0
  have hW' := hW
  obtain ⟨p, q, hA0, hV, rfl, hfz, hnd⟩ := hW
  have hA : DataW.TrodAll enc Try.prog W 0 (fun _ => true) true Try.f4.params.toList args.toList ds p := hA0
  rw [Try.params4] at hA hval
  obtain ⟨v0, vs0, d0, ds0, p0, q0, hargs, rfl, rfl, h0, r0⟩ := trodAll_cons hA
  obtain ⟨rfl, rfl, rfl⟩ := trodAll_nil r0
  obtain rfl : args = #[v0] := by cases args; simp_all
  obtain ⟨rfl, rfl⟩ := trodVars_none hV
  obtain ⟨a0, len0, cap0, rfl⟩ := okWide_slice Try.underlying22 (hval 0 22 v0 rfl rfl)
  have k0 := h0
  have lt0 : ∀ x ∈ p0, x.block < W.heap.size := by obtain ⟨m, hm⟩ := k0; exact DataW.trod_lt m _ _ _ hm
  obtain ⟨z0, w0⟩ : ∃ zs, IsRow .u8 W a0 len0 cap0 zs := by
    obtain ⟨fuel, hf⟩ := h0
    rcases open_ints Try.underlying22 Try.underlying5 (by kernel_rfl) hf with ⟨hcs, _⟩ | ⟨x, l, c, zs, hcs, _, hl, hm, hz, _, hcell, hwz⟩
    · simp [Value.cells] at hcs
      obtain ⟨rfl, rfl, rfl⟩ := hcs
      exact ⟨[], .inl ⟨rfl, rfl, rfl, rfl⟩⟩
    · simp [Value.cells] at hcs
      obtain ⟨rfl, rfl, rfl⟩ := hcs
      exact ⟨zs, .inr ⟨_, rfl, hl, hm, by simpa using hz, hcell, hwz⟩⟩
  clear hA0 hval0
  refine (walk a0 len0 cap0 z0 W w0).mono fun e W' ⟨he, bel⟩ => ?_
  subst he
  exact ⟨_, rfl, _, _, _, [], _, [], hW', trodAll_mk1 (shut_bool Try.underlying4 _), (trodAll_cons_mk (Below.trod laidOut (by kernel_rfl) (of_decide_eq_true (by kernel_rfl)) k0 bel lt0) trodAll_mk0), rfl, bel.frame _, fun h => by cases h⟩

theorem over : Rows.fnFoldsRow.holds Try.pinned (OpenSpec.ofChange Rows.fnFoldsSpec) :=
  OpenClaim.holds_of_wide 4 Try.f4 rfl rfl rfl rfl rfl rfl rfl ⟨rfl, rfl, rfl, rfl, rfl⟩ rfl rfl rfl rfl rfl (by kernel_rfl) Try.func4 (by kernel_rfl)
    (of_decide_eq_true (by kernel_rfl)) (by unfold Func.isWrapper; first | (rw [if_pos (by decide +kernel)]; kernel_rfl) | (rw [if_neg (by decide +kernel)]; exact ⟨rfl, rfl⟩))
    (fun os started H enc _ => lifted os started H enc)

/-- THE STATEMENT -/
theorem proved : Rows.FnFoldsSaid := over
#print axioms proved
end Go.Proofs.Ytdcbcacgppffgaa.fnFolds
