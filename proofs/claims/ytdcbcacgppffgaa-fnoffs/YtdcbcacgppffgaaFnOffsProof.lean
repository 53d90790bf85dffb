/-
  Proved here: the Go function laws.FnOffs, called with any arguments that can be read, returns true, and each argument reads afterwards as it read before ('Rows.FnOffsSaid', no condition beyond the row's own). The frame was written by the guide's program; the walk and its contracts are by hand.
-/
import Derived.Test.YtdcbcacgppffgaaRows
import Derived.WalkKit
import Derived.ProofKit
import Derived.OpenShut
import Derived.ShutString
import Derived.ChangeOld
import Derived.Below
import Derived.Test.YtdcbcacgppffgaaDrawQ
import Derived.Test.YtdcbcacgppffgaaOffP
import Derived.Test.YtdcbcacgppffgaaPik
import Derived.Test.YtdcbcacgppffgaaBinW
import Derived.Deep.QuietTactic
import Derived.BigQuiet
namespace Go.Proofs.Ytdcbcacgppffgaa.fnOffs
open Go.ChangeShapes Go.WideShapes Go.ChangeAt Go.RowKit
open Go.Proofs.Ytdcbcacgppffgaa.Li
open Go.Proofs.Ytdcbcacgppffgaa.Ai (own_empty own_snoc below_app one_cell one_one)
open Go.ChangeMaps (open_string shut_string)
set_option linter.unusedVariables false

theorem own : ownKnob Try.prog.godebug = none := by kernel_rfl
theorem laidOut : laidOutB Try.prog = true := by kernel_rfl

/-- WHAT THE WALK IS TOLD OF A SLICE OF INTEGERS THAT CAME IN: it is nil; or it leads to a row of 'cap' cells, the numbers 'zs' (the first 'len' are its elements, the rest its spare room), each fitting its kind. -/
def IsRow (k : IntKind) (w : World) (a : Option Addr) (len cap : Nat) (zs : List Int) : Prop :=
  (a = none ∧ len = 0 ∧ cap = 0 ∧ zs = []) ∨
  ∃ x, a = some x ∧ len ≤ cap ∧ cap ≤ maxLen ∧ zs.length = cap ∧ (∀ i, i < zs.length → w.cell? (x.add i) = some (.int k (zs.getD i 0))) ∧ ∀ n ∈ zs, (Lit.int k n).wf = true

/-! ### STEP 1: THE WALK: the Go text returns true, AND WRITES NOTHING THAT WAS THERE: 'Below w.heap.size w w'' (Derived/Below.lean: '.refl', '.alloc', '.drew', '.setCell' at a new block, '.trans'). Open each 'IsRow' by 'rcases' AHEAD of 'go_enter'; part every test ahead of the walk. -/
set_option maxRecDepth 100000 in
set_option maxHeartbeats 40000000 in
theorem walk (a0 : Option Addr) (len0 cap0 : Nat) (z0 : List Int) (a1 : Option Addr) (len1 cap1 : Nat) (z1 : List Int) (w : World) (w0 : IsRow .u8 w a0 len0 cap0 z0) (w1 : IsRow .u8 w a1 len1 cap1 z1) :
    Calls Try.prog 3 #[.slice a0 len0 cap0, .slice a1 len1 cap1] w fun e w' => e = .returned (.bool true) ∧ Below w.heap.size w w' := by
  have key : ∀ (a : Option Addr) (len cap : Nat) (z : List Int), IsRow .u8 w a len cap z → Cu.Bytes w w.heap.size a len := by
    intro a len cap z h
    rcases h with ⟨rfl, rfl, rfl, rfl⟩ | ⟨x, rfl, hl, _, hz, hc, hw⟩
    · exact .inl rfl
    · exact Cu.bytes_of _ (Nat.le_refl _) hl hz hc hw
  have B0 := key _ _ _ _ w0
  have B1 := key _ _ _ _ w1
  clear key w0 w1
  by_cases hb0 : 1048576 < len0
  · have e0 : decide (1048576 < len0) = true := by simpa using hb0
    go_enter Try.func3, Try.ntmps3
    go_wp2_with (go_at_call 7; refine (Cu.big_any _ _ _ _).mono ?_; rintro e w' ⟨rfl, hw⟩; subst w')
    go_ret
    exact ⟨rfl, Below.refl _ _⟩
  have e0 : decide (1048576 < len0) = false := by simpa using hb0
  by_cases hb1 : 1048576 < len1
  · have e1 : decide (1048576 < len1) = true := by simpa using hb1
    go_enter Try.func3, Try.ntmps3
    go_wp2_with (go_at_call 7; refine (Cu.big_any _ _ _ _).mono ?_; rintro e w' ⟨rfl, hw⟩; subst w')
    go_ret
    exact ⟨rfl, Below.refl _ _⟩
  have e1 : decide (1048576 < len1) = false := by simpa using hb1
  go_enter Try.func3, Try.ntmps3
  go_wp2_with (go_at_call 7; refine (Cu.big_any _ _ _ _).mono ?_; rintro e w' ⟨rfl, hw⟩; subst w')
  refine (Of.drawOff _ _ _ _ B0 (by omega)).mono ?_
  rintro e w2 ⟨vl, vp, xs, ys, rfl, hal, hbl, oa, ob, hB⟩
  have hb1' : (len1 : Int) ≤ 1048576 := by omega
  clear B0 hb0 e0 e1 hb1
  obtain ⟨aa, ca, ea, ia⟩ := oa.isl
  subst ea
  obtain ⟨ab, cb, eb, ib⟩ := ob.isl
  subst eb
  clear oa ob
  go_wp2_with fail
  refine (Of.ioff _ _ _ _ _ xs ys ia ib (by omega) (by omega)).mono ?_
  rintro e w3 ⟨rfl, hb⟩
  have ia := ia.below hb
  have ib := ib.below hb
  have hB := hB.trans (hb.mono hB.size)
  clear hb
  go_wp2_with fail
  refine (Of.ioff _ _ _ _ _ ys xs ib ia (by omega) (by omega)).mono ?_
  rintro e w4 ⟨rfl, hb⟩
  rw [← Of.off_comm xs ys, ← Of.oko_comm xs ys]
  have ia := ia.below hb
  have ib := ib.below hb
  have hB := hB.trans (hb.mono hB.size)
  clear hb
  go_wp2_with fail
  refine (Of.soff _ _ _ _ _ xs ys ia ib (by omega) (by omega)).mono ?_
  rintro e w5 ⟨rfl, hb⟩
  have ia := ia.below hb
  have ib := ib.below hb
  have hB := hB.trans (hb.mono hB.size)
  clear hb
  have HX0 : Hid (Of.oko xs ys = false → Of.off xs ys = 0) := Of.off_no
  have HTR : Hid (∀ zs : List Int, Of.oko xs ys = true → zs.length = xs.length → Of.off xs ys ≤ Of.off xs zs + Of.off zs ys) := fun zs h hz => Of.off_tri h hz
  have HZR : Hid (Of.oko xs ys = true → xs.all Bo.fok = true → ys.all Bo.fok = true → decide (Of.off xs ys = 0) = eqs xs ys) := Of.off_zero
  have HLN : Hid (Of.oko xs ys = true → xs.length = ys.length) := fun h => by unfold Of.oko at h; simp at h; exact h.1
  obtain ⟨x, hx⟩ : ∃ x, Of.off xs ys = x := ⟨_, rfl⟩
  rw [hx] at HX0 HTR HZR ⊢
  obtain ⟨ok, hok⟩ : ∃ ok, Of.oko xs ys = ok := ⟨_, rfl⟩
  rw [hok] at HX0 HTR HZR HLN ⊢
  have hxb : 0 ≤ x ∧ x ≤ 80000000000000 := by rw [← hx]; exact Of.off_bd xs ys
  clear hx hok
  have hxx : (x != x) = false := by simp
  have hoo : (ok != ok) = false := by simp
  cases ok
  · have hx0 : x = 0 := HX0.out rfl
    clear HX0 HTR HZR HLN
    subst hx0
    go_wp2
    go_ret
    exact ⟨rfl, hB⟩
  have hln := HLN.out rfl
  have HLE : Hid (xs.length = ys.length) := hln
  clear HX0 HLN hln
  obtain ⟨i0, hi, hz0, hz1, hz2⟩ := info_parts info_int
  have hB5 := hB.size
  go_wp2
  go_loopw [13, 14, 15] (fun v fv i wr => ∃ k : Nat, k ≤ xs.length ∧ i = .int .i64 k ∧ ∃ m : List Int, m.length = k ∧ fv = .bool ((xs.take k).all Bo.fok && (ys.take k).all Bo.fok) ∧ Own wr w5.heap.size v m ∧ Below w5.heap.size w5 wr) (fun _ _ i _ => xs.length - (intOf i).toNat)
  case atStart => exact ⟨0, Nat.zero_le _, rfl, [], rfl, by simp, own_empty _ _ (Nat.le_refl _), (Below.refl _ _).alloc (Nat.le_refl _) _⟩
  case round =>
    obtain ⟨k, hk, rfl, m, hml, rfl, hown, hBr⟩ := hrel
    have HM : Hid (m.length = k) := hml
    have hm10 : m.length ≤ 10 := by omega
    clear hml
    by_cases hlt : k < xs.length
    · have hlt' : k < ys.length := by have := HLE.out; omega
      have hs := hBr.size
      have hba : Below w.heap.size w wr := hB.trans (hBr.mono hB.size)
      go_wp2_with fail
      refine (Pk.lpick _ _ _ _ _ (B1.below (Nat.le_refl _) hba.size hba.block) hb1' _ (by omega) (by omega) _ (by omega) (by omega)).mono ?_
      rintro e w6 ⟨y, rfl, y0, y1, hw6⟩
      subst w6
      obtain ⟨d, hd⟩ : ∃ d : Int, 1000 * (y - 20) = d := ⟨_, rfl⟩
      have wd1 : IntKind.i64.wrap (y - 20) = y - 20 := by rw [IntKind.wrap_i64]; omega
      have wd2 : IntKind.i64.wrap (1000 * (y - 20)) = d := by rw [IntKind.wrap_i64]; omega
      clear hba hd
      go_wp2_with (at_builtin; refine wpList_append_own _ rfl _ _ 24 rfl w5.heap.size 3 i0 (.int .i64 0) 1 8 Try.underlying24 hi hz0 hz1 hz2 rfl (by decide) _ m.length (iv m) rfl (World.ownsRow.alloc hown _) ⟨wr.heap.size, 0, none⟩ 1 1 [.int .i64 _] rfl rfl (one_cell _ _ _) (one_one _) (by unfold maxLen; omega) (by omega) (by simp; omega) ?_)
      intro v' w6 hown' hgrow hnn
      clear hnn
      have ho6 := own_snoc rfl hown'
      have hB6 : Below w5.heap.size w5 w6 := below_app (hBr.alloc hBr.size _) (by have := hBr.size; simp; omega) hgrow (fun k hk => (hown.ge k hk).1)
      clear hown' hgrow hown hBr
      rcases ia.below hB6 with h0 | ⟨ba, oa, rfl, hba, hca⟩
      · rw [h0] at hlt; simp at hlt
      rcases ib.below hB6 with h0 | ⟨bb, ob, rfl, hbb, hcb⟩
      · rw [h0] at hlt'; simp at hlt'
      have cA : w6.cell? ⟨ba, oa + k, none⟩ = some (.int .i64 xs[k]) := hca k hlt
      have cB : w6.cell? ⟨bb, ob + k, none⟩ = some (.int .i64 ys[k]) := hcb k hlt'
      have HF : Hid (((xs.take (k + 1)).all Bo.fok && (ys.take (k + 1)).all Bo.fok) = (((xs.take k).all Bo.fok && (ys.take k).all Bo.fok) && Bo.fok xs[k] && Bo.fok ys[k])) := by
        show _ = _
        rw [List.take_succ_eq_append_getElem hlt, List.take_succ_eq_append_getElem hlt', List.all_append, List.all_append]
        simp only [List.all_cons, List.all_nil, Bool.and_true]
        cases (xs.take k).all Bo.fok <;> cases (ys.take k).all Bo.fok <;> cases Bo.fok xs[k] <;> cases Bo.fok ys[k] <;> rfl
      obtain ⟨p, ep⟩ : ∃ p, xs[k] = p := ⟨_, rfl⟩
      obtain ⟨q, eq⟩ : ∃ q, ys[k] = q := ⟨_, rfl⟩
      rw [ep] at cA HF
      rw [eq] at cB HF
      obtain ⟨fv, ef⟩ : ∃ fv, ((xs.take k).all Bo.fok && (ys.take k).all Bo.fok) = fv := ⟨_, rfl⟩
      rw [ef] at HF ⊢
      clear ep eq ef hca hcb
      cases fv
      · go_wp2
        go_roundw
        case rel => exact ⟨k + 1, by omega, by go_num, _, by have := HM.out; simp; omega, by rw [HF.out]; rfl, ho6, hB6⟩
        case measure => simp [intOf]; omega
      · cases hp : Bo.fok p
        · go_wp2_with (first | (go_at_call_of 12 (Value.int .i64 p); refine (Bw.sokv _ _ hp _).mono ?_; rintro e w7 ⟨rfl, hw7⟩; subst w7))
          go_roundw
          case rel => exact ⟨k + 1, by omega, by go_num, _, by have := HM.out; simp; omega, by rw [HF.out, hp]; rfl, ho6, hB6⟩
          case measure => simp [intOf]; omega
        · cases hq : Bo.fok q
          all_goals
            go_wp2_with (first | (go_at_call_of 12 (Value.int .i64 p); refine (Bw.sokv _ _ hp _).mono ?_; rintro e w7 ⟨rfl, hw7⟩; subst w7) | (go_at_call_of 12 (Value.int .i64 q); refine (Bw.sokv _ _ hq _).mono ?_; rintro e w7 ⟨rfl, hw7⟩; subst w7))
            go_roundw
            case rel => exact ⟨k + 1, by omega, by go_num, _, by have := HM.out; simp; omega, by rw [HF.out, hp, hq]; rfl, ho6, hB6⟩
            case measure => simp [intOf]; omega
    · obtain rfl : k = xs.length := by omega
      have HT2 : Hid (x ≤ Of.off xs m + Of.off m ys) := HTR.out m trivial HM.out
      have HZ2 : Hid (xs.all Bo.fok = true → ys.all Bo.fok = true → decide (x = 0) = eqs xs ys) := HZR.out trivial
      rw [List.take_length, List.take_of_length_le (by have := HLE.out; omega)]
      have ia := ia.below hBr
      have ib := ib.below hBr
      have hB := hB.trans (hBr.mono hB.size)
      obtain ⟨am, cm, em, im⟩ := hown.isl
      subst em
      clear hown hBr HTR HZR HM hlt hk
      go_wp2_with fail
      refine (Of.ioff _ _ _ _ _ xs m ia im (by omega) (by omega)).mono ?_
      rintro e w6 ⟨rfl, hb⟩
      have ia := ia.below hb
      have ib := ib.below hb
      have im := im.below hb
      have hB := hB.trans (hb.mono hB.size)
      clear hb
      go_wp2_with fail
      refine (Of.ioff _ _ _ _ _ m ys im ib (by omega) (by omega)).mono ?_
      rintro e w7 ⟨rfl, hb⟩
      have ia := ia.below hb
      have ib := ib.below hb
      have hB := hB.trans (hb.mono hB.size)
      clear hb im
      have bp := Of.off_bd xs m
      have bq := Of.off_bd m ys
      obtain ⟨p, ep⟩ : ∃ p, Of.off xs m = p := ⟨_, rfl⟩
      obtain ⟨q, eq⟩ : ∃ q, Of.off m ys = q := ⟨_, rfl⟩
      rw [ep] at bp HT2 ⊢
      rw [eq] at bq HT2 ⊢
      clear ep eq
      have d1 : decide (x ≤ p + q) = true := decide_eq_true HT2.out
      have wpq : IntKind.i64.wrap (p + q) = p + q := by rw [IntKind.wrap_i64]; omega
      obtain ⟨fa, efa⟩ : ∃ fa, xs.all Bo.fok = fa := ⟨_, rfl⟩
      obtain ⟨fb, efb⟩ : ∃ fb, ys.all Bo.fok = fb := ⟨_, rfl⟩
      rw [efa, efb] at HZ2
      rw [efa, efb]
      obtain ⟨fv, ef⟩ : ∃ fv, (fa && fb) = fv := ⟨_, rfl⟩
      rw [ef]
      cases fv
      · clear HZ2 efa efb ef
        go_wp2
        go_ret
        exact ⟨rfl, hB⟩
      · have hfa : fa = true := by cases fa <;> simp_all
        have hfb : fb = true := by cases fb <;> simp_all
        have HE : Hid (eqs xs ys = (x == 0)) := by show _ = _; rw [← HZ2.out hfa hfb]; rfl
        clear HZ2 efa efb ef hfa hfb
        go_wp2_with fail
        refine (Li.same_bel _ _ _ _ _ xs ys ia ib (by omega) (by omega)).mono ?_
        rintro e w8 ⟨rfl, hb⟩
        rw [HE.out]
        have hB := hB.trans (hb.mono hB.size)
        clear hb
        obtain ⟨z, ez⟩ : ∃ z, (x == 0) = z := ⟨_, rfl⟩
        rw [ez]
        have hzz : (z == z) = true := by simp
        go_wp2
        go_ret
        exact ⟨rfl, hB⟩

/-! ### THE ROW's STEP: WRITTEN OUT: LEAVE IT -/
set_option maxRecDepth 100000 in
theorem lifted (os : Os) (started : os.Started) (H : Type) (enc : TypeId × Value → H) :
    ReturnsInHanded {} Try.checked os 3 .any (Rows.fnOffsSpec.pre6 enc Try.prog Try.f3 Rows.fnOffsRow.domain false) (Rows.fnOffsSpec.post enc Try.prog Try.f3 false true false false) := by
  refine returnsInHanded_of_change (C := Try.checked) own started (by kernel_rfl) Try.func3
    (ChangeSpec.witness6 (enc := enc) (C := Try.checked) false ⟨#[], #[.slice none 0 0, .slice none 0 0], []⟩ 8 (by kernel_rfl) (by kernel_rfl) (by kernel_rfl) (by kernel_rfl)) ?_
  intro W base args ds gs before hval0 hW hcnd _
  have hval : ∀ (j : Nat) t v, Try.f3.params[j]? = some t → args[j]? = some v → Value.okWide Try.prog W .any base t v := hval0
  have hW' := hW
  obtain ⟨p, q, hA0, hV, rfl, hfz, hnd⟩ := hW
  have hA : DataW.TrodAll enc Try.prog W 0 (fun _ => true) true Try.f3.params.toList args.toList ds p := hA0
  rw [Try.params3] at hA hval
  obtain ⟨v0, vs0, d0, ds0, p0, q0, hargs, rfl, rfl, h0, r0⟩ := trodAll_cons hA
  obtain ⟨v1, vs1, d1, ds1, p1, q1, rfl, rfl, rfl, h1, r1⟩ := trodAll_cons r0
  obtain ⟨rfl, rfl, rfl⟩ := trodAll_nil r1
  obtain rfl : args = #[v0, v1] := by cases args; simp_all
  obtain ⟨rfl, rfl⟩ := trodVars_none hV
  obtain ⟨a0, len0, cap0, rfl⟩ := okWide_slice Try.underlying22 (hval 0 22 v0 rfl rfl)
  have k0 := h0
  have lt0 : ∀ x ∈ p0, x.block < W.heap.size := by obtain ⟨m, hm⟩ := k0; exact DataW.trod_lt m _ _ _ hm
  obtain ⟨z0, w0⟩ : ∃ zs, IsRow .u8 W a0 len0 cap0 zs := by
    obtain ⟨fuel, hf⟩ := h0
    rcases open_ints Try.underlying22 Try.underlying5 (by kernel_rfl) hf with ⟨hcs, _⟩ | ⟨x, l, c, zs, hcs, _, hl, hm, hz, _, hcell, hwz⟩
    · simp [Value.cells] at hcs
      obtain ⟨rfl, rfl, rfl⟩ := hcs
      exact ⟨[], .inl ⟨rfl, rfl, rfl, rfl⟩⟩
    · simp [Value.cells] at hcs
      obtain ⟨rfl, rfl, rfl⟩ := hcs
      exact ⟨zs, .inr ⟨_, rfl, hl, hm, by simpa using hz, hcell, hwz⟩⟩
  obtain ⟨a1, len1, cap1, rfl⟩ := okWide_slice Try.underlying22 (hval 1 22 v1 rfl rfl)
  have k1 := h1
  have lt1 : ∀ x ∈ p1, x.block < W.heap.size := by obtain ⟨m, hm⟩ := k1; exact DataW.trod_lt m _ _ _ hm
  obtain ⟨z1, w1⟩ : ∃ zs, IsRow .u8 W a1 len1 cap1 zs := by
    obtain ⟨fuel, hf⟩ := h1
    rcases open_ints Try.underlying22 Try.underlying5 (by kernel_rfl) hf with ⟨hcs, _⟩ | ⟨x, l, c, zs, hcs, _, hl, hm, hz, _, hcell, hwz⟩
    · simp [Value.cells] at hcs
      obtain ⟨rfl, rfl, rfl⟩ := hcs
      exact ⟨[], .inl ⟨rfl, rfl, rfl, rfl⟩⟩
    · simp [Value.cells] at hcs
      obtain ⟨rfl, rfl, rfl⟩ := hcs
      exact ⟨zs, .inr ⟨_, rfl, hl, hm, by simpa using hz, hcell, hwz⟩⟩
  clear hA0 hval0
  refine (walk a0 len0 cap0 z0 a1 len1 cap1 z1 W w0 w1).mono fun e W' ⟨he, bel⟩ => ?_
  subst he
  exact ⟨_, rfl, _, _, _, [], _, [], hW', trodAll_mk1 (shut_bool Try.underlying4 _), (trodAll_cons_mk (Below.trod laidOut (by kernel_rfl) (of_decide_eq_true (by kernel_rfl)) k0 bel lt0) (trodAll_cons_mk (Below.trod laidOut (by kernel_rfl) (of_decide_eq_true (by kernel_rfl)) k1 bel lt1) trodAll_mk0)), rfl, bel.frame _, fun h => by cases h⟩

theorem over : Rows.fnOffsRow.holds Try.pinned (OpenSpec.ofChange Rows.fnOffsSpec) :=
  OpenClaim.holds_of_wide 3 Try.f3 rfl rfl rfl rfl rfl rfl rfl ⟨rfl, rfl, rfl, rfl, rfl⟩ rfl rfl rfl rfl rfl (by kernel_rfl) Try.func3 (by kernel_rfl)
    (of_decide_eq_true (by kernel_rfl)) (by unfold Func.isWrapper; first | (rw [if_pos (by decide +kernel)]; kernel_rfl) | (rw [if_neg (by decide +kernel)]; exact ⟨rfl, rfl⟩))
    (fun os started H enc _ => lifted os started H enc)

/-- THE STATEMENT -/
theorem proved : Rows.FnOffsSaid := over
#print axioms proved
end Go.Proofs.Ytdcbcacgppffgaa.fnOffs
