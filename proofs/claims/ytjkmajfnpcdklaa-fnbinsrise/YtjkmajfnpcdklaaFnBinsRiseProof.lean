/-
  Proved here: the Go function laws.FnBinsRise, called with any arguments that can be read, returns true, and each argument reads afterwards as it read before ('Rows.FnBinsRiseSaid', no condition beyond the row's own). The frame was written by the guide's program; the walk and its contracts are by hand.
-/
import Derived.Test.YtjkmajfnpcdklaaRows
import Derived.WalkKit
import Derived.ProofKit
import Derived.OpenShut
import Derived.ShutString
import Derived.ChangeOld
import Derived.Below
import Derived.Test.YtjkmajfnpcdklaaDrawO
import Derived.Test.YtjkmajfnpcdklaaBinB
namespace Go.Proofs.Ytjkmajfnpcdklaa.fnBinsRise
open Go.ChangeShapes Go.WideShapes Go.ChangeAt Go.RowKit
open Go.ChangeMaps (open_string shut_string)
set_option linter.unusedVariables false

theorem own : ownKnob Try.prog.godebug = none := by kernel_rfl
theorem laidOut : laidOutB Try.prog = true := by kernel_rfl

/-- WHAT THE WALK IS TOLD OF A SLICE OF INTEGERS THAT CAME IN: it is nil; or it leads to a row of 'cap' cells, the numbers 'zs' (the first 'len' are its elements, the rest its spare room), each fitting its kind. -/
def IsRow (k : IntKind) (w : World) (a : Option Addr) (len cap : Nat) (zs : List Int) : Prop :=
  (a = none ∧ len = 0 ∧ cap = 0 ∧ zs = []) ∨
  ∃ x, a = some x ∧ len ≤ cap ∧ cap ≤ maxLen ∧ zs.length = cap ∧ (∀ i, i < zs.length → w.cell? (x.add i) = some (.int k (zs.getD i 0))) ∧ ∀ n ∈ zs, (Lit.int k n).wf = true

/-! ### STEP 1: THE WALK: the Go text returns true, AND WRITES NOTHING THAT WAS THERE: 'Below w.heap.size w w'' (Derived/Below.lean: '.refl', '.alloc', '.drew', '.setCell' at a new block, '.trans'). Open each 'IsRow' by 'rcases' AHEAD of 'go_enter'; part every test ahead of the walk. -/
set_option maxHeartbeats 4000000 in
theorem walk (a0 : Option Addr) (len0 cap0 : Nat) (z0 : List Int) (a1 : Option Addr) (len1 cap1 : Nat) (z1 : List Int) (w : World) (w0 : IsRow .u8 w a0 len0 cap0 z0) (w1 : IsRow .u8 w a1 len1 cap1 z1) :
    Calls Try.prog 3 #[.slice a0 len0 cap0, .slice a1 len1 cap1] w fun e w' => e = .returned (.bool true) ∧ Below w.heap.size w w' := by
  have key : ∀ (a : Option Addr) (len cap : Nat) (z : List Int), IsRow .u8 w a len cap z → Cu.Bytes w w.heap.size a len := by
    intro a len cap z h
    rcases h with ⟨rfl, rfl, rfl, rfl⟩ | ⟨x, rfl, hl, _, hz, hc, hw⟩
    · exact .inl rfl
    · exact Cu.bytes_of _ (Nat.le_refl _) hl hz hc hw
  have B0 := key _ _ _ _ w0
  have B1 := key _ _ _ _ w1
  clear key w0 w1
  by_cases hb0 : 1048576 < len0
  · have e0 : decide (1048576 < len0) = true := by simpa using hb0
    go_enter Try.func3, Try.ntmps3
    go_wp2_with (go_at_call 7; refine (Cu.big_any _ _ _ _).mono ?_; rintro e w' ⟨rfl, hw⟩; subst w')
    go_ret
    exact ⟨rfl, Below.refl _ _⟩
  · by_cases hb1 : 1048576 < len1
    · have e0 : decide (1048576 < len0) = false := by simpa using hb0
      have e1 : decide (1048576 < len1) = true := by simpa using hb1
      go_enter Try.func3, Try.ntmps3
      go_wp2_with (go_at_call 7; refine (Cu.big_any _ _ _ _).mono ?_; rintro e w' ⟨rfl, hw⟩; subst w')
      go_ret
      exact ⟨rfl, Below.refl _ _⟩
    · have e0 : decide (1048576 < len0) = false := by simpa using hb0
      have e1 : decide (1048576 < len1) = false := by simpa using hb1
      go_enter Try.func3, Try.ntmps3
      go_wp2_with (go_at_call 7; refine (Cu.big_any _ _ _ _).mono ?_; rintro e w' ⟨rfl, hw⟩; subst w')
      refine (Dn.drawBin_any _ _ _ _ B0 (by omega)).mono ?_
      rintro e w1 ⟨vb, bs, x, rfl, hbl, hob, hB⟩
      have B1 : Cu.Bytes w1 w1.heap.size _ len1 := B1.keptB hB.size (fun k hk => hB.block k hk)
      go_wp2_with fail
      refine (Dn.drawBin_any _ _ _ _ B1 (by omega)).mono ?_
      rintro e w2 ⟨vc, cs, y, rfl, hcl, hoc, hB2⟩
      have hob := hob.below hB2
      have hB := hB.trans (hB2.mono hB.size)
      clear hB2 hoc hcl B0 B1 hb0 hb1 e0 e1
      obtain ⟨ab, cb, rfl, ib⟩ := hob.isl
      obtain ⟨r, hr⟩ : ∃ r, Bo.bok bs = r := ⟨_, rfl⟩
      have HR : Hid (Bo.bok bs = r) := hr
      clear hr
      go_wp2_with fail
      refine (Bw.ibokB _ _ _ bs ib (by omega)).mono ?_
      rintro e w3 ⟨rfl, hB3⟩
      rw [HR.out]
      have hob := hob.below hB3
      have ib := ib.below hB3
      have hB := hB.trans (hB3.mono hB.size)
      clear hB3
      go_wp2_with fail
      refine (Bw.sbokB _ _ _ bs ib (by omega)).mono ?_
      rintro e w4 ⟨rfl, hB4⟩
      rw [HR.out]
      have ib := ib.below hB4
      have hB := hB.trans (hB4.mono hB.size)
      clear hB4 hob
      have hrr : (!(r == r)) = false := by simp
      have hrr' : (r != r) = false := by simp
      have hil := Bo.bin_le bs x
      have hmono : x ≤ y → Bo.bin bs x ≤ Bo.bin bs y := fun h => Bo.bin_mono bs h
      have HAT : Hid (r = true → ∀ (n : Nat) (h : n < bs.length), bs[n] < x ↔ n < Bo.bin bs x) := fun h => Bo.bin_at (Bo.bok_iff.1 (HR.out.trans h)).2.2 x
      go_wp2_with fail
      refine (Bw.ibin _ _ _ bs x ib (by omega)).mono ?_
      rintro e w' ⟨rfl, hw⟩
      subst w'
      go_wp2_with fail
      refine (Bw.ibin _ _ _ bs y ib (by omega)).mono ?_
      rintro e w' ⟨rfl, hw⟩
      subst w'
      go_wp2_with fail
      refine (Bw.sbin _ _ _ bs x ib (by omega)).mono ?_
      rintro e w' ⟨rfl, hw⟩
      subst w'
      obtain ⟨I, hI⟩ : ∃ I, Bo.bin bs x = I := ⟨_, rfl⟩
      rw [hI] at hil hmono HAT ⊢
      clear hI
      obtain ⟨J, hJ⟩ : ∃ J, Bo.bin bs y = J := ⟨_, rfl⟩
      rw [hJ] at hmono ⊢
      clear hJ
      have hne : ((I : Int) != (I : Int)) = false := by simp
      have hn0 : decide ((I : Int) < 0) = false := decide_eq_false (by omega)
      have hnl : decide ((bs.length : Int) < (I : Int)) = false := decide_eq_false (by omega)
      have hnl' : decide (bs.length < I) = false := decide_eq_false (by omega)
      have HM : Hid (x ≤ y → I ≤ J) := hmono
      have hnn : ∀ z : Bool, (z && decide (J < I)) = false ∨ x ≤ y ∨ z = true := fun z => by cases z <;> simp
      clear hmono hnn
      by_cases hxy : x ≤ y
      case' pos =>
        have hx1 : decide (x ≤ y) = true := decide_eq_true hxy
        have hx2 : decide ((J : Int) < (I : Int)) = false := decide_eq_false (by have := HM.out hxy; omega)
        have hx3 : decide (J < I) = false := decide_eq_false (by have := HM.out hxy; omega)
      case' neg =>
        have hx1 : decide (x ≤ y) = false := decide_eq_false hxy
      all_goals
        clear hxy
        go_wp2_with fail
        refine (Bw.sbokB _ _ _ bs ib (by omega)).mono ?_
        rintro e w5 ⟨rfl, hB5⟩
        rw [HR.out]
        have ib := ib.below hB5
        have hB := hB.trans (hB5.mono hB.size)
        clear hB5
        cases r
        · go_wp2
          go_ret
          exact ⟨rfl, hB⟩
        go_wp2
        go_loop [11] (fun i => ∃ k : Nat, k ≤ bs.length ∧ i = .int .i64 k) (fun i => bs.length - (intOf i).toNat)
        · exact ⟨0, Nat.zero_le _, rfl⟩
        · obtain ⟨k, hk, rfl⟩ := hrel
          by_cases hlt : k < bs.length
          · rcases ib with h0 | ⟨b, off, rfl, hb, hc⟩
            · rw [h0] at hlt; simp at hlt
            have hcx := hc k hlt
            clear hc
            have hat := HAT.out (by first | rfl | trivial) k hlt
            obtain ⟨t, ht⟩ : ∃ t, bs[k] = t := ⟨_, rfl⟩
            rw [ht] at hcx hat
            clear ht
            by_cases hv : t < x
            · have h1 : decide (t < x) = true := decide_eq_true hv
              have h2 : decide ((k : Int) < (I : Int)) = true := decide_eq_true (by have := hat.1 hv; omega)
              have h3 : decide (k < I) = true := decide_eq_true (hat.1 hv)
              clear hat
              go_wp2
              go_round
              · exact ⟨k + 1, by omega, by go_num⟩
              · simp [intOf]; omega
            · have h1 : decide (t < x) = false := decide_eq_false hv
              have h2 : decide ((k : Int) < (I : Int)) = false := decide_eq_false (fun h => hv (hat.2 (by omega)))
              have h3 : decide (k < I) = false := decide_eq_false (fun h => hv (hat.2 h))
              clear hat
              go_wp2
              go_round
              · exact ⟨k + 1, by omega, by go_num⟩
              · simp [intOf]; omega
          · go_wp2
            go_ret
            exact ⟨rfl, hB⟩

/-! ### THE ROW's STEP: WRITTEN OUT: LEAVE IT -/
set_option maxRecDepth 100000 in
theorem lifted (os : Os) (started : os.Started) (H : Type) (enc : TypeId × Value → H) :
    ReturnsInHanded {} Try.checked os 3 .any (Rows.fnBinsRiseSpec.pre6 enc Try.prog Try.f3 Rows.fnBinsRiseRow.domain false) (Rows.fnBinsRiseSpec.post enc Try.prog Try.f3 false true false false) := by
  refine returnsInHanded_of_change (C := Try.checked) own started (by kernel_rfl) Try.func3
    (ChangeSpec.witness6 (enc := enc) (C := Try.checked) false ⟨#[], #[.slice none 0 0, .slice none 0 0], []⟩ 8 (by kernel_rfl) (by kernel_rfl) (by kernel_rfl) (by kernel_rfl)) ?_
  intro W base args ds gs before hval0 hW hcnd _
  have hval : ∀ (j : Nat) t v, Try.f3.params[j]? = some t → args[j]? = some v → Value.okWide Try.prog W .any base t v := hval0
  have hW' := hW
  obtain ⟨p, q, hA0, hV, rfl, hfz, hnd⟩ := hW
  have hA : DataW.TrodAll enc Try.prog W 0 (fun _ => true) true Try.f3.params.toList args.toList ds p := hA0
  rw [Try.params3] at hA hval
  obtain ⟨v0, vs0, d0, ds0, p0, q0, hargs, rfl, rfl, h0, r0⟩ := trodAll_cons hA
  obtain ⟨v1, vs1, d1, ds1, p1, q1, rfl, rfl, rfl, h1, r1⟩ := trodAll_cons r0
  obtain ⟨rfl, rfl, rfl⟩ := trodAll_nil r1
  obtain rfl : args = #[v0, v1] := by cases args; simp_all
  obtain ⟨rfl, rfl⟩ := trodVars_none hV
  obtain ⟨a0, len0, cap0, rfl⟩ := okWide_slice Try.underlying22 (hval 0 22 v0 rfl rfl)
  have k0 := h0
  have lt0 : ∀ x ∈ p0, x.block < W.heap.size := by obtain ⟨m, hm⟩ := k0; exact DataW.trod_lt m _ _ _ hm
  obtain ⟨z0, w0⟩ : ∃ zs, IsRow .u8 W a0 len0 cap0 zs := by
    obtain ⟨fuel, hf⟩ := h0
    rcases open_ints Try.underlying22 Try.underlying5 (by kernel_rfl) hf with ⟨hcs, _⟩ | ⟨x, l, c, zs, hcs, _, hl, hm, hz, _, hcell, hwz⟩
    · simp [Value.cells] at hcs
      obtain ⟨rfl, rfl, rfl⟩ := hcs
      exact ⟨[], .inl ⟨rfl, rfl, rfl, rfl⟩⟩
    · simp [Value.cells] at hcs
      obtain ⟨rfl, rfl, rfl⟩ := hcs
      exact ⟨zs, .inr ⟨_, rfl, hl, hm, by simpa using hz, hcell, hwz⟩⟩
  obtain ⟨a1, len1, cap1, rfl⟩ := okWide_slice Try.underlying22 (hval 1 22 v1 rfl rfl)
  have k1 := h1
  have lt1 : ∀ x ∈ p1, x.block < W.heap.size := by obtain ⟨m, hm⟩ := k1; exact DataW.trod_lt m _ _ _ hm
  obtain ⟨z1, w1⟩ : ∃ zs, IsRow .u8 W a1 len1 cap1 zs := by
    obtain ⟨fuel, hf⟩ := h1
    rcases open_ints Try.underlying22 Try.underlying5 (by kernel_rfl) hf with ⟨hcs, _⟩ | ⟨x, l, c, zs, hcs, _, hl, hm, hz, _, hcell, hwz⟩
    · simp [Value.cells] at hcs
      obtain ⟨rfl, rfl, rfl⟩ := hcs
      exact ⟨[], .inl ⟨rfl, rfl, rfl, rfl⟩⟩
    · simp [Value.cells] at hcs
      obtain ⟨rfl, rfl, rfl⟩ := hcs
      exact ⟨zs, .inr ⟨_, rfl, hl, hm, by simpa using hz, hcell, hwz⟩⟩
  clear hA0 hval0
  refine (walk a0 len0 cap0 z0 a1 len1 cap1 z1 W w0 w1).mono fun e W' ⟨he, bel⟩ => ?_
  subst he
  exact ⟨_, rfl, _, _, _, [], _, [], hW', trodAll_mk1 (shut_bool Try.underlying4 _), (trodAll_cons_mk (Below.trod laidOut (by kernel_rfl) (of_decide_eq_true (by kernel_rfl)) k0 bel lt0) (trodAll_cons_mk (Below.trod laidOut (by kernel_rfl) (of_decide_eq_true (by kernel_rfl)) k1 bel lt1) trodAll_mk0)), rfl, bel.frame _, fun h => by cases h⟩

theorem over : Rows.fnBinsRiseRow.holds Try.pinned (OpenSpec.ofChange Rows.fnBinsRiseSpec) :=
  OpenClaim.holds_of_wide 3 Try.f3 rfl rfl rfl rfl rfl rfl rfl ⟨rfl, rfl, rfl, rfl, rfl⟩ rfl rfl rfl rfl rfl (by kernel_rfl) Try.func3 (by kernel_rfl)
    (of_decide_eq_true (by kernel_rfl)) (by unfold Func.isWrapper; first | (rw [if_pos (by decide +kernel)]; kernel_rfl) | (rw [if_neg (by decide +kernel)]; exact ⟨rfl, rfl⟩))
    (fun os started H enc _ => lifted os started H enc)

/-- THE STATEMENT -/
theorem proved : Rows.FnBinsRiseSaid := over
#print axioms proved
end Go.Proofs.Ytjkmajfnpcdklaa.fnBinsRise
