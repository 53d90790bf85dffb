/-
  Proved here: the Go function laws.FnExactModelRead, called with any arguments that can be read, returns true, and each argument reads afterwards as it read before ('Rows.FnExactModelReadCardSaid'): the row lists package-level variables of Go's library (see the row) with what they hold; the card ties that to the program's text (the tie is given). The cards tie the listed variables to the pruned copy of the project alone.
-/
import Derived.Test.YtifemdjookmboaaGreatDoorRows
import Derived.Test.YtifemdjookmboaaGreatDoorTie
import Derived.Test.YtifemdjookmboaaGreatDoorCards
import Derived.WalkKit
import Derived.ProofKit
import Derived.OpenShut
import Derived.ShutString
import Derived.ChangeOld
import Derived.Below
import Derived.LaidMore
import Derived.Stop.Joined
import Derived.SevenTiedAt
import Derived.Test.YtifemdjookmboaaGreatDoorPart1
import Derived.Test.YtifemdjookmboaaGreatDoorPart19
import Derived.Test.YtifemdjookmboaaGreatDoorPart20
namespace Go.Proofs.YtifemdjookmboaaGreatDoor.fnExactModelRead
open Go.ChangeShapes Go.WideShapes Go.ChangeAt Go.RowKit
open Go.ChangeMaps (open_string shut_string)
set_option linter.unusedVariables false

theorem own : ownKnob Tryz.prog.godebug = none := by kernel_rfl
theorem laidOut : laidOutB Tryz.prog = true := by kernel_rfl

/-- WHAT THE WALK IS TOLD OF A SLICE OF BYTES THAT CAME IN. -/
def IsRow (k : IntKind) (w : World) (a : Option Addr) (len cap : Nat) (zs : List Int) : Prop :=
  (a = none ∧ len = 0 ∧ cap = 0 ∧ zs = []) ∨
  ∃ x, a = some x ∧ len ≤ cap ∧ cap ≤ maxLen ∧ zs.length = cap ∧ (∀ i, i < zs.length → w.cell? (x.add i) = some (.int k (zs.getD i 0))) ∧ ∀ n ∈ zs, (Lit.int k n).wf = true

theorem mm_rm {w : World} {B : Nat → Prop} {ak ax : Option Addr} {ck ct : Nat} {q : Int} {m : Md.M} (h : Md.OwM w B (.slice ak m.ks.length ck) (.slice ax m.ts.length ct) (Md.mm q m)) : Md.Rm w ak ax (Md.mm q m) := by
  obtain ⟨_, _, _, _, ek, et, rm⟩ := h.rm
  injection ek with e1 e2 e3
  injection et with f1 f2 f3
  subst e1 f1
  exact rm

/-! ### THE WALK: the Go text returns true, and writes nothing that was there -/
set_option maxRecDepth 100000 in
set_option maxHeartbeats 4000000 in
theorem walk (w : World) (a0 : ByteArray) (w0 : a0.size ≤ maxLen) (hL : laidMetH Tryz.prog Rows.fnExactModelReadRow.laid w) (hsh : w.ShapedOpen Tryz.prog) :
    Calls Tryz.prog 3 #[.string a0] w fun e w' => e = .returned (.bool true) ∧ Below w.heap.size w w' := by
  have HV : Hid (Rm.Vs w) := by
    rw [MakeChecks.laidMetH_plain _ _ _ (by kernel_rfl)] at hL
    exact Vr.vs_of hL hsh
  clear hL hsh
  go_enter Tryz.func3, Tryz.ntmps3
  by_cases hbig : 1048576 < a0.size
  · go_wp2
    go_ret
    exact ⟨rfl, Below.refl _ _⟩
  go_wp2_with fail
  refine (Rs.smread w a0 (by omega)).mono ?_
  rintro e w1 ⟨r, ok, vkw, vtw, hr, rfl, ow, hlr0, hB⟩
  have HRR : Hid (Rm.Reads a0.data.toList r ok) := hr
  have hlr : r.sz ≤ 1048576 := by omega
  have ow := ow.bound
  have hs1 := hB.size
  clear hr hlr0
  obtain ⟨akw, ckw, axw, ctw, ek, et, _⟩ := ow.rm
  subst ek et
  have hok : (ok != ok) = false := by simp
  go_wp2_with fail
  obtain ⟨w2, hWx, hszx, hb, bw⟩ := Sv.new1 w1 [.int .i64 r.n, .int .i64 r.c, .int .i64 r.prior, .int .i64 r.base, .slice akw r.ks.length ckw, .slice axw r.ts.length ctw] 27
  rw [hWx]
  clear hWx
  have hx_bw : w1.heap.size < w2.heap.size := by omega
  have ow := ow.below hb
  have hB := hB.trans (hb.mono hB.size)
  clear hb hszx
  refine (Rm.imread w2 a0 (by omega) (HV.out.below hB)).mono ?_
  rintro e w3 ⟨rg, okg, vkg, vtg, hr, rfl, og, _, hb⟩
  obtain ⟨rfl, rfl⟩ := Rm.reads_one HRR.out hr
  clear hr
  have og := og.bound
  have bw := bw.below hb
  have ow := ow.below hb
  have hB := hB.trans (hb.mono hB.size)
  have hs_w3 := hb.size
  clear hb
  obtain ⟨akg, ckg, axg, ctg, ek, et, _⟩ := og.rm
  subst ek et
  obtain ⟨_, ⟨cy0, cy1, cy2, cy3, cy4, cy5⟩, _⟩ := Md.wr6 (bw)
  have hbw1 := bw.1
  go_wp2_with fail
  obtain ⟨w4, hWx, hszx, hb, bg⟩ := Sv.new1 w3 [.int .i64 r.n, .int .i64 r.c, .int .i64 r.prior, .int .i64 r.base, .slice akg r.ks.length ckg, .slice axg r.ts.length ctg] 27
  rw [hWx]
  clear hWx
  have hx_bg : w3.heap.size < w4.heap.size := by omega
  have bw := bw.below hb
  have ow := ow.below hb
  have og := og.below hb
  have hB := hB.trans (hb.mono hB.size)
  clear hb hszx
  clear hbw1 cy0 cy1 cy2 cy3 cy4 cy5
  obtain ⟨_, _, _, _, ek, et, rm1⟩ := og.rm
  cases ek
  cases et
  obtain ⟨_, _, _, _, ek, et, rm2⟩ := ow.rm
  cases ek
  cases et
  refine (Md.eqModel _ _ _ _ _ _ _ _ _ r rm1 rm2 hlr).mono ?_
  rintro e w5 ⟨rfl, hb⟩
  have bw := bw.below hb
  have bg := bg.below hb
  have ow := ow.below hb
  have og := og.below hb
  have hB := hB.trans (hb.mono hB.size)
  clear hb rm1 rm2
  have hwr := Md.wt_le r
  obtain ⟨_, ⟨cx0, cx1, cx2, cx3, cx4, cx5⟩, _⟩ := Md.wr6 (bg)
  go_wp2_with fail
  refine (Md.markModel _ _ _ _ 1 r og hlr (by omega) (by omega)).mono ?_
  rintro e w6 ⟨rfl, oq, hfr⟩
  have bw := bw.keptAt hfr.size (hfr.block _ bw.1 (fun e => by omega))
  have bg := bg.keptAt hfr.size (hfr.block _ bg.1 (fun e => by omega))
  have ow := ow.fr hfr (fun k e e2 => by omega)
  have hB : Below w.heap.size w w6 := hB.trans (hfr.bel (fun k hk => by omega) hB.size)
  clear hfr og cx0 cx1 cx2 cx3 cx4 cx5
  obtain ⟨T, hT⟩ : ∃ T : Int, 1 + (Md.wt r : Int) = T := ⟨_, rfl⟩
  have hT0 : ¬ T < 0 := by omega
  have hTT : (T != T) = false := by simp
  have HTT : Hid (1 + (Md.wt r : Int) = T) := hT
  rw [hT]
  clear hT
  have iq := mm_rm oq
  clear oq
  obtain ⟨_, ⟨cx0, cx1, cx2, cx3, cx4, cx5⟩, _⟩ := Md.wr6 (bg)
  go_wp2_with fail
  refine (Md.heldModel _ _ _ _ _ 1 r iq hlr (by omega) (by omega)).mono ?_
  rintro e w7 ⟨rfl, hb⟩
  rw [HTT.out]
  have bw := bw.below hb
  have bg := bg.below hb
  have ow := ow.below hb
  have iq := iq.below hb
  have hB := hB.trans (hb.mono hB.size)
  clear hb cx0 cx1 cx2 cx3 cx4 cx5
  go_wp2_with fail
  refine (Rm.imread w7 a0 (by omega) (HV.out.below hB)).mono ?_
  rintro e w8 ⟨rh, okh, vkh, vth, hr, rfl, oh, _, hb⟩
  obtain ⟨rfl, rfl⟩ := Rm.reads_one HRR.out hr
  clear hr
  have oh := oh.bound
  have bw := bw.below hb
  have bg := bg.below hb
  have ow := ow.below hb
  have iq := iq.below hb
  have hB := hB.trans (hb.mono hB.size)
  have hs_w8 := hb.size
  clear hb
  obtain ⟨akh, ckh, axh, cth, ek, et, _⟩ := oh.rm
  subst ek et
  obtain ⟨_, ⟨cy0, cy1, cy2, cy3, cy4, cy5⟩, _⟩ := Md.wr6 (bw)
  have hbw1 := bw.1
  go_wp2_with fail
  obtain ⟨w9, hWx, hszx, hb, bh⟩ := Sv.new1 w8 [.int .i64 r.n, .int .i64 r.c, .int .i64 r.prior, .int .i64 r.base, .slice akh r.ks.length ckh, .slice axh r.ts.length cth] 27
  rw [hWx]
  clear hWx
  have hx_bh : w8.heap.size < w9.heap.size := by omega
  have bw := bw.below hb
  have bg := bg.below hb
  have ow := ow.below hb
  have iq := iq.below hb
  have oh := oh.below hb
  have hB := hB.trans (hb.mono hB.size)
  clear hb hszx
  clear hbw1 cy0 cy1 cy2 cy3 cy4 cy5
  obtain ⟨_, _, _, _, ek, et, rm1⟩ := oh.rm
  cases ek
  cases et
  obtain ⟨_, _, _, _, ek, et, rm2⟩ := ow.rm
  cases ek
  cases et
  refine (Md.eqModel _ _ _ _ _ _ _ _ _ r rm1 rm2 hlr).mono ?_
  rintro e w10 ⟨rfl, hb⟩
  have bw := bw.below hb
  have bg := bg.below hb
  have bh := bh.below hb
  have ow := ow.below hb
  have iq := iq.below hb
  have oh := oh.below hb
  have hB := hB.trans (hb.mono hB.size)
  clear hb rm1 rm2
  obtain ⟨_, ⟨cx0, cx1, cx2, cx3, cx4, cx5⟩, _⟩ := Md.wr6 (bg)
  go_wp2_with fail
  refine (Md.heldModel _ _ _ _ _ 1 r iq hlr (by omega) (by omega)).mono ?_
  rintro e w11 ⟨rfl, hb⟩
  rw [HTT.out]
  have bw := bw.below hb
  have bg := bg.below hb
  have bh := bh.below hb
  have ow := ow.below hb
  have iq := iq.below hb
  have oh := oh.below hb
  have hB := hB.trans (hb.mono hB.size)
  clear hb cx0 cx1 cx2 cx3 cx4 cx5
  go_wp2
  go_ret
  exact ⟨rfl, hB⟩

/-! ### THE ROW's STEP -/

set_option maxRecDepth 100000 in
theorem lifted (os : Os) (started : os.Started) (H : Type) (enc : TypeId × Value → H) :
    ReturnsInHanded {} Tryz.checked os 3 .any (fun w args => (Rows.fnExactModelReadSpec.pre enc Tryz.prog Tryz.f3 [] false w args ∧ laidMetH Tryz.prog Rows.fnExactModelReadRow.laid w) ∧ sizedMet enc Tryz.prog Tryz.f3 (OpenSpec.ofChange Rows.fnExactModelReadSpec) false w args)
      (Rows.fnExactModelReadSpec.post enc Tryz.prog Tryz.f3 false true false false) := by
  refine wrap_listed (C := Tryz.checked) (X := fun w _ => laidMetH Tryz.prog Rows.fnExactModelReadRow.laid w) (fun _ _ _ hh h => h.of_heap hh) own started (by kernel_rfl) Tryz.func3
    (ChangeSpec.witness_shaped (enc := enc) (C := Tryz.checked) (os := os) (X := fun w _ => laidMetH Tryz.prog Rows.fnExactModelReadRow.laid w) false (Vr.wit os) #[.string ByteArray.empty] 8 (Vr.wit_os os) (World.shaped_of_ZipB (by kernel_rfl) (by kernel_rfl)) (by kernel_rfl) (by kernel_rfl) (by kernel_rfl) (Vr.wit_met os _)) ?_
  intro W base args ds gs before hval0 hW hL hsh
  have hval : ∀ (j : Nat) t v, Tryz.f3.params[j]? = some t → args[j]? = some v → Value.okWide Tryz.prog W .any base t v := hval0
  have hW' := hW
  obtain ⟨p, q, hA0, hV, rfl, hfz, hnd⟩ := hW
  have hA : DataW.TrodAll enc Tryz.prog W 0 (fun _ => true) true Tryz.f3.params.toList args.toList ds p := hA0
  rw [Tryz.params3] at hA hval
  obtain ⟨v0, vs0, d0, ds0, p0, q0, hargs, rfl, rfl, h0, r0⟩ := trodAll_cons hA
  obtain ⟨rfl, rfl, rfl⟩ := trodAll_nil r0
  obtain rfl : args = #[v0] := by cases args; simp_all
  obtain ⟨rfl, rfl⟩ := trodVars_none hV
  obtain ⟨a0, rfl, rfl, rfl, w0⟩ := open_string Tryz.underlying9 (hval 0 9 v0 rfl rfl) h0
  clear hA0 hval0
  refine (walk W a0 w0 hL hsh).mono fun e W' ⟨he, bel⟩ => ?_
  subst he
  exact ⟨_, rfl, _, _, _, [], _, [], hW', trodAll_mk1 (shut_bool Tryz.underlying4 _), (trodAll_cons_mk (shut_string Tryz.underlying9 w0) trodAll_mk0), rfl, bel.frame _, fun h => by cases h⟩

theorem over : Rows.fnExactModelReadRow.holds Tryz.pinned (OpenSpec.ofChange Rows.fnExactModelReadSpec) :=
  OpenClaim.holds_of_wide 3 Tryz.f3 rfl rfl rfl rfl rfl rfl rfl ⟨rfl, rfl, rfl, rfl, rfl⟩ rfl rfl rfl rfl rfl (by kernel_rfl) Tryz.func3 (by kernel_rfl)
    (of_decide_eq_true (by kernel_rfl)) (by unfold Func.isWrapper; first | (rw [if_pos (by decide +kernel)]; kernel_rfl) | (rw [if_neg (by decide +kernel)]; exact ⟨rfl, rfl⟩))
    (fun os started H enc _ => lifted os started H enc)

/-- THE STATEMENT -/
theorem proved : Rows.FnExactModelReadCardSaid :=
  Claim7.holds_tied_plain_at .later [] [.data, .data, .data, .data, .sentinel, .sentinel, .listed, .data, .pinned] true (true, "873bd2aaa487dd12220f4c42956b55ccf04be17b111daaf5be5a8f0c486da248") true
    over (fun _ h => by cases h) (by kernel_rfl) (fun _ h => by cases h) fnExactModelRead_row_tie rfl ⟨rfl, rfl⟩ (by kernel_rfl) rfl
    (fun f fn hf hfn => by
      obtain rfl : f = 3 := Option.some.inj ((show Tryz.prog.funcNamed Rows.fnExactModelReadRow.func = some 3 by kernel_rfl).symm.trans hf) |>.symm
      obtain rfl : fn = Tryz.f3 := (Option.some.inj (Tryz.func3.symm.trans hfn)).symm
      exact ⟨by kernel_rfl, fun j t ht => by
        rw [Tryz.params3] at ht
        have hm : t ∈ [9] := by simpa using Array.mem_of_getElem? ht
        have hall : ([9].all fun u => !Tryz.prog.wantsStandIn u) = true := by kernel_rfl
        exact (show Tryz.prog.wantsStandIn t = false by simpa using List.all_eq_true.1 hall t hm)⟩)
    (by kernel_rfl)
#print axioms proved
end Go.Proofs.YtifemdjookmboaaGreatDoor.fnExactModelRead
