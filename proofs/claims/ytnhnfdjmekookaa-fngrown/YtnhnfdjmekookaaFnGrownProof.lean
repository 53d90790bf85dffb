/-
  Proved here: the Go function laws.FnGrown, called with any arguments that can be read, returns true, and each argument reads afterwards as it read before ('Rows.FnGrownSaid', no condition beyond the row's own). The frame was written by the guide's program; the walk and its contracts are by hand.
-/
import Derived.Test.YtnhnfdjmekookaaRows
import Derived.WalkKit
import Derived.ProofKit
import Derived.OpenShut
import Derived.ShutString
import Derived.ChangeOld
import Derived.Below
import Derived.Test.YtnhnfdjmekookaaDrawE
import Derived.Test.YtnhnfdjmekookaaGrJ
import Derived.Test.YtnhnfdjmekookaaGrOk
import Derived.Test.YtnhnfdjmekookaaWkW
import Derived.Test.YtnhnfdjmekookaaTrE
import Derived.Deep.RegionHeld3
namespace Go.Proofs.Ytnhnfdjmekookaa.fnGrown
open Go.ChangeShapes Go.WideShapes Go.ChangeAt Go.RowKit
open Go.ChangeMaps (open_string shut_string)
set_option linter.unusedVariables false

theorem own : ownKnob Try.prog.godebug = none := by kernel_rfl
theorem laidOut : laidOutB Try.prog = true := by kernel_rfl

/-- WHAT THE WALK IS TOLD OF A SLICE OF INTEGERS THAT CAME IN: it is nil; or it leads to a row of 'cap' cells, the numbers 'zs' (the first 'len' are its elements, the rest its spare room), each fitting its kind. -/
def IsRow (k : IntKind) (w : World) (a : Option Addr) (len cap : Nat) (zs : List Int) : Prop :=
  (a = none ∧ len = 0 ∧ cap = 0 ∧ zs = []) ∨
  ∃ x, a = some x ∧ len ≤ cap ∧ cap ≤ maxLen ∧ zs.length = cap ∧ (∀ i, i < zs.length → w.cell? (x.add i) = some (.int k (zs.getD i 0))) ∧ ∀ n ∈ zs, (Lit.int k n).wf = true

/-! ### STEP 1: THE WALK: the Go text returns true, AND WRITES NOTHING THAT WAS THERE: 'Below w.heap.size w w'' (Derived/Below.lean: '.refl', '.alloc', '.drew', '.setCell' at a new block, '.trans'). Open each 'IsRow' by 'rcases' AHEAD of 'go_enter'; part every test ahead of the walk. -/
set_option maxHeartbeats 4000000 in
theorem walk (a0 : Option Addr) (len0 cap0 : Nat) (z0 : List Int) (w : World) (w0 : IsRow .u8 w a0 len0 cap0 z0) :
    Calls Try.prog 3 #[.slice a0 len0 cap0] w fun e w' => e = .returned (.bool true) ∧ Below w.heap.size w w' := by
  have key : ∀ (a : Option Addr) (len cap : Nat) (z : List Int), IsRow .u8 w a len cap z → Cu.Bytes w w.heap.size a len := by
    intro a len cap z h
    rcases h with ⟨rfl, rfl, rfl, rfl⟩ | ⟨x, rfl, hl, _, hz, hc, hw⟩
    · exact .inl rfl
    · exact Cu.bytes_of _ (Nat.le_refl _) hl hz hc hw
  have B0 := key _ _ _ _ w0
  clear key w0
  by_cases hb0 : 1048576 < len0
  · have e0 : decide (1048576 < len0) = true := by simpa using hb0
    go_enter Try.func3, Try.ntmps3
    go_wp2_with (go_at_call 6; refine (Cu.big_any _ _ _ _).mono ?_; rintro e w' ⟨rfl, hw⟩; subst w')
    go_ret
    exact ⟨rfl, Below.refl _ _⟩
  have e0 : decide (1048576 < len0) = false := by simpa using hb0
  go_enter Try.func3, Try.ntmps3
  go_wp2_with (go_at_call 6; refine (Cu.big_any _ _ _ _).mono ?_; rintro e w' ⟨rfl, hw⟩; subst w')
  refine (Df.drawEval_any _ _ _ _ B0 (by omega)).mono ?_
  rintro e w1 ⟨v0, v1, t, ax, cx, xs, rfl, hlen, hxs, o0, o1, _, isx, _, hB⟩
  obtain ⟨a0, c0, rfl, _, ip⟩ := o0.isp
  obtain ⟨a1, c1, rfl, il⟩ := o1.isl
  clear o0 o1 B0 hb0 e0
  go_wp2_with fail
  obtain ⟨W, hW, hsz, hb, bx⟩ := Tm.boxes1 w1 (.slice a0 t.sp.length c0) (.slice a1 t.lv.length c1) 27
  rw [hW]
  have ip := ip.below hb
  have il := il.below hb
  have isx := isx.below hb
  have hB := hB.trans (hb.mono hB.size)
  clear hW hsz hb
  refine (Gi.igrown _ _ _ _ _ t ip il (by omega)).mono ?_
  rintro e w2 ⟨v, rfl, on, hb⟩
  obtain ⟨an, cn, rfl, _, isn⟩ := on.isn
  have hgl := Tr.grown_le t
  have ip := ip.below hb
  have il := il.below hb
  have isx := isx.below hb
  have bx := bx.below hb
  have hB := hB.trans (hb.mono hB.size)
  clear hb on
  obtain ⟨E, hE⟩ : ∃ E, Tr.eval t xs = E := ⟨_, rfl⟩
  have HE : Hid (Tr.eval t xs = E) := hE
  clear hE
  obtain ⟨_, ⟨x0, x1⟩, _⟩ := id bx
  go_wp2_with fail
  clear x0 x1
  refine (Tw.ieval _ _ _ _ _ _ _ t xs ip il isx (by omega) (by omega)).mono ?_
  rintro e w3 ⟨rfl, hb⟩
  rw [HE.out]
  have ip := ip.below hb
  have il := il.below hb
  have isx := isx.below hb
  have isn := isn.below hb
  have bx := bx.below hb
  have hB := hB.trans (hb.mono hB.size)
  clear hb
  obtain ⟨_, ⟨x0, x1⟩, _⟩ := id bx
  go_wp2_with fail
  clear x0 x1
  refine (Tw.seval _ _ _ _ _ _ _ t xs ip il isx (by omega) (by omega)).mono ?_
  rintro e w4 ⟨rfl, hb⟩
  rw [HE.out]
  have ip := ip.below hb
  have il := il.below hb
  have isx := isx.below hb
  have isn := isn.below hb
  have bx := bx.below hb
  have hB := hB.trans (hb.mono hB.size)
  clear hb
  have hEE : (E != E) = false := by simp
  obtain ⟨_, ⟨x0, x1⟩, _⟩ := id bx
  go_wp2_with fail
  clear x0 x1
  refine (Tw.stok _ _ _ _ _ t ip il (by omega)).mono ?_
  rintro e w5 ⟨rfl, hb⟩
  have ip := ip.below hb
  have il := il.below hb
  have isx := isx.below hb
  have isn := isn.below hb
  have bx := bx.below hb
  have hB := hB.trans (hb.mono hB.size)
  clear hb
  obtain ⟨_, ⟨x0, x1⟩, _⟩ := id bx
  cases ht : Tr.tok t
  · have hG : (Tr.grown t).length = 0 := by rw [Tr.grown_no ht]; rfl
    rw [hG]
    clear hG ht
    go_wp2
    go_ret
    exact ⟨rfl, hB⟩
  have hG := Tr.grown_length ht
  have hl1 : 0 < t.lv.length := by rw [(Tr.tok_iff.1 ht).1.2]; exact Nat.pow_pos (by decide)
  have HT : Hid (Tr.tok t = true) := ht
  have HG : Hid ((Tr.grown t).length = 2 * t.lv.length - 1) := hG
  have hGi : decide (((Tr.grown t).length : Int) = 2 * (t.lv.length : Int) - 1) = true := by simp; omega
  have hGn : (((Tr.grown t).length : Int) != 2 * (t.lv.length : Int) - 1) = false := by simp; omega
  clear hG ht
  go_wp2_with fail
  clear x0 x1
  refine (Wk.iwalk _ _ _ _ _ (Tr.grown t) xs isn isx (by omega) (by omega) (fun j hj => Tm.grown_ok t j hj)).mono ?_
  rintro e w6 ⟨rfl, hb⟩
  have ip := ip.below hb
  have il := il.below hb
  have isx := isx.below hb
  have bx := bx.below hb
  have hB := hB.trans (hb.mono hB.size)
  clear hb isn
  by_cases h6 : xs.length = 6
  rotate_left
  · rw [Tr.walk_no (Or.inr h6)]
    have hE0 : E = 0 := by rw [← HE.out]; exact Tr.eval_no (Tr.askb_len h6)
    subst hE0
    have h6d : ((xs.length : Int) != 6) = true := by simp; omega
    go_wp2
    go_ret
    exact ⟨rfl, hB⟩
  rw [Tr.walk_grown HT.out h6, HE.out]
  have h6d : ((xs.length : Int) != 6) = false := by simp; omega
  obtain ⟨g, off, rfl, hgb, hcs⟩ := Tw.isl_pos il hl1
  have hll := Tr.leaf_le t xs HT.out
  have hat : t.lv[Tr.leafOf t xs]'hll = E := by
    have hask := Tr.askb_iff.2 ⟨HT.out, h6⟩
    rw [← HE.out, Tr.eval_at hask]
    congr 1
    exact Tr.leafOf_yes hask
  have hcell := hcs _ hll
  rw [hat] at hcell
  obtain ⟨L, hL⟩ : ∃ L, Tr.leafOf t xs = L := ⟨_, rfl⟩
  have HL : Hid (Tr.leafOf t xs = L) := hL
  rw [hL] at hcell hll
  clear hL hcs hat
  have hLi : (L : Int) < (t.lv.length : Int) := by omega
  have hEq : (E == E) = true := by simp
  have hEd : decide (E = E) = true := by simp
  obtain ⟨hxl, ⟨x0, x1⟩, xf0, xf1⟩ := id bx
  have h6' : Hid (xs.length = 6) := h6
  have HIP : Hid (Tm.IsP w6 a0 t.sp) := ip
  have HIL : Hid (Li.IsL w6 (some ⟨g, off, none⟩) t.lv) := il
  have HIX : Hid (Li.IsL w6 ax xs) := isx
  have HBX : Hid (type_of% bx) := bx
  have HHB : Hid (type_of% hB) := hB
  have HLE : Hid (type_of% hlen) := hlen
  have hL0 : (0 : Int) ≤ (L : Int) := by omega
  clear h6 ip il isx bx hB hlen HE HT HG hGi hGn hgl hll
  go_wp2
  go_region_held3 (fun w' => (w'.cell? ⟨w1.heap.size, 0, none⟩ = some (.slice a0 t.sp.length c0) ∧ w'.cell? ⟨w1.heap.size, 1, none⟩ = some (.slice (some ⟨g, off, none⟩) t.lv.length c1)) ∧ w'.cell? ⟨g, off + L, none⟩ = some (.int .i64 E)) (go_keep) (first
    | (go_at_call 13; refine (Tw.ileaf w6.drew _ _ _ _ _ _ t xs (show Tm.IsP _ _ _ from HIP.out) (show Li.IsL _ _ _ from HIL.out) (show Li.IsL _ _ _ from HIX.out) (by have := HLE.out; omega) (by omega)).mono ?_; rintro e w7 ⟨rfl, hb⟩; rw [HL.out]; have HY : Hid (Below w6.heap.size w6 w7) := (Tm.below_drew w6).trans hb; obtain ⟨_, ⟨z0, z1⟩, _⟩ := HBX.out.below HY.out; have hc7 : w7.cell? ⟨g, off + L, none⟩ = some (.int .i64 E) := ((HY.out.cell (by exact hgb)).trans hcell); clear hb))
  all_goals
    have hB7 := HHB.out.trans (HY.out.mono HHB.out.size)
    go_wp2
    go_ret
    exact ⟨rfl, hB7⟩

/-! ### THE ROW's STEP: WRITTEN OUT: LEAVE IT -/
set_option maxRecDepth 100000 in
theorem lifted (os : Os) (started : os.Started) (H : Type) (enc : TypeId × Value → H) :
    ReturnsInHanded {} Try.checked os 3 .any (Rows.fnGrownSpec.pre6 enc Try.prog Try.f3 Rows.fnGrownRow.domain false) (Rows.fnGrownSpec.post enc Try.prog Try.f3 false true false false) := by
  refine returnsInHanded_of_change (C := Try.checked) own started (by kernel_rfl) Try.func3
    (ChangeSpec.witness6 (enc := enc) (C := Try.checked) false ⟨#[], #[.slice none 0 0], []⟩ 8 (by kernel_rfl) (by kernel_rfl) (by kernel_rfl) (by kernel_rfl)) ?_
  intro W base args ds gs before hval0 hW hcnd _
  have hval : ∀ (j : Nat) t v, Try.f3.params[j]? = some t → args[j]? = some v → Value.okWide Try.prog W .any base t v := hval0
  have hW' := hW
  obtain ⟨p, q, hA0, hV, rfl, hfz, hnd⟩ := hW
  have hA : DataW.TrodAll enc Try.prog W 0 (fun _ => true) true Try.f3.params.toList args.toList ds p := hA0
  rw [Try.params3] at hA hval
  obtain ⟨v0, vs0, d0, ds0, p0, q0, hargs, rfl, rfl, h0, r0⟩ := trodAll_cons hA
  obtain ⟨rfl, rfl, rfl⟩ := trodAll_nil r0
  obtain rfl : args = #[v0] := by cases args; simp_all
  obtain ⟨rfl, rfl⟩ := trodVars_none hV
  obtain ⟨a0, len0, cap0, rfl⟩ := okWide_slice Try.underlying22 (hval 0 22 v0 rfl rfl)
  have k0 := h0
  have lt0 : ∀ x ∈ p0, x.block < W.heap.size := by obtain ⟨m, hm⟩ := k0; exact DataW.trod_lt m _ _ _ hm
  obtain ⟨z0, w0⟩ : ∃ zs, IsRow .u8 W a0 len0 cap0 zs := by
    obtain ⟨fuel, hf⟩ := h0
    rcases open_ints Try.underlying22 Try.underlying5 (by kernel_rfl) hf with ⟨hcs, _⟩ | ⟨x, l, c, zs, hcs, _, hl, hm, hz, _, hcell, hwz⟩
    · simp [Value.cells] at hcs
      obtain ⟨rfl, rfl, rfl⟩ := hcs
      exact ⟨[], .inl ⟨rfl, rfl, rfl, rfl⟩⟩
    · simp [Value.cells] at hcs
      obtain ⟨rfl, rfl, rfl⟩ := hcs
      exact ⟨zs, .inr ⟨_, rfl, hl, hm, by simpa using hz, hcell, hwz⟩⟩
  clear hA0 hval0
  refine (walk a0 len0 cap0 z0 W w0).mono fun e W' ⟨he, bel⟩ => ?_
  subst he
  exact ⟨_, rfl, _, _, _, [], _, [], hW', trodAll_mk1 (shut_bool Try.underlying4 _), (trodAll_cons_mk (Below.trod laidOut (by kernel_rfl) (of_decide_eq_true (by kernel_rfl)) k0 bel lt0) trodAll_mk0), rfl, bel.frame _, fun h => by cases h⟩

theorem over : Rows.fnGrownRow.holds Try.pinned (OpenSpec.ofChange Rows.fnGrownSpec) :=
  OpenClaim.holds_of_wide 3 Try.f3 rfl rfl rfl rfl rfl rfl rfl ⟨rfl, rfl, rfl, rfl, rfl⟩ rfl rfl rfl rfl rfl (by kernel_rfl) Try.func3 (by kernel_rfl)
    (of_decide_eq_true (by kernel_rfl)) (by unfold Func.isWrapper; first | (rw [if_pos (by decide +kernel)]; kernel_rfl) | (rw [if_neg (by decide +kernel)]; exact ⟨rfl, rfl⟩))
    (fun os started H enc _ => lifted os started H enc)

/-- THE STATEMENT -/
theorem proved : Rows.FnGrownSaid := over
#print axioms proved
end Go.Proofs.Ytnhnfdjmekookaa.fnGrown
