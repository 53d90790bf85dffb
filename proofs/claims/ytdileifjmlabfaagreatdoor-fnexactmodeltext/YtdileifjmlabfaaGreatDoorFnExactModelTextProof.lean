/-
  Proved here: the Go function laws.FnExactModelText, called with any arguments that can be read, returns true, and each argument reads afterwards as it read before ('Rows.FnExactModelTextCardSaid'): the row lists package-level variables of Go's library (see the row) with what they hold; the card ties that to the program's text (the tie is given). The cards tie the listed variables to the pruned copy of the project alone.
-/
import Derived.Test.YtdileifjmlabfaaGreatDoorRows
import Derived.Test.YtdileifjmlabfaaGreatDoorTie
import Derived.Test.YtdileifjmlabfaaGreatDoorCards
import Derived.WalkKit
import Derived.ProofKit
import Derived.OpenShut
import Derived.ShutString
import Derived.ChangeOld
import Derived.Below
import Derived.LaidMore
import Derived.Stop.Joined
import Derived.SevenTiedAt
import Derived.Test.YtdileifjmlabfaaGreatDoorPart1
import Derived.Test.YtdileifjmlabfaaGreatDoorPart12
import Derived.Test.YtdileifjmlabfaaGreatDoorPart13
import Derived.Lib.LaidTab
import Derived.Stop.LaidErr
namespace Go.Proofs.YtdileifjmlabfaaGreatDoor.fnExactModelText
open Go.ChangeShapes Go.WideShapes Go.ChangeAt Go.RowKit
open Go.ChangeMaps (open_string shut_string)
set_option linter.unusedVariables false

theorem own : ownKnob Tryz.prog.godebug = none := by kernel_rfl
theorem laidOut : laidOutB Tryz.prog = true := by kernel_rfl

/-- WHAT THE WALK IS TOLD OF A SLICE OF BYTES THAT CAME IN. -/
def IsRow (k : IntKind) (w : World) (a : Option Addr) (len cap : Nat) (zs : List Int) : Prop :=
  (a = none ∧ len = 0 ∧ cap = 0 ∧ zs = []) ∨
  ∃ x, a = some x ∧ len ≤ cap ∧ cap ≤ maxLen ∧ zs.length = cap ∧ (∀ i, i < zs.length → w.cell? (x.add i) = some (.int k (zs.getD i 0))) ∧ ∀ n ∈ zs, (Lit.int k n).wf = true


/-! ### THE WALK: the Go text returns true, and writes nothing that was there -/
set_option maxRecDepth 100000 in
set_option maxHeartbeats 4000000 in
theorem walk (w : World) (m0 : Md.M) (p0k p0t : Option Addr) (s0k s0t : Nat) (hm0 : Md.Rm w p0k p0t m0) (hf0 : Md.FitsM m0) (hL : laidMetH Tryz.prog Rows.fnExactModelTextRow.laid w) (hsh : w.ShapedOpen Tryz.prog) :
    Calls Tryz.prog 3 #[.agg #[.int .i64 m0.n, .int .i64 m0.c, .int .i64 m0.prior, .int .i64 m0.base, .slice p0k m0.ks.length s0k, .slice p0t m0.ts.length s0t]] w fun e w' => e = .returned (.bool true) ∧ Below w.heap.size w w' := by
  have hT : Nu.Tab w := by
    rw [MakeChecks.laidMetH_plain _ _ _ (by kernel_rfl)] at hL
    exact Lib.tabIs_of_head Nu.gTab Nu.tTab Tryz.underlying144 Tryz.underlying138 (by kernel_rfl) (by kernel_rfl) (laidMet.tail (laidMet.tail hL))
  clear hL hsh
  go_enter Tryz.func3, Tryz.ntmps3
  go_wp2_with fail
  obtain ⟨W, hW, hsz, hB, bm⟩ := Sv.new1 w [.int .i64 m0.n, .int .i64 m0.c, .int .i64 m0.prior, .int .i64 m0.base, .slice p0k m0.ks.length s0k, .slice p0t m0.ts.length s0t] 27
  rw [hW]
  clear hW hsz
  have hT := hT.below hB
  refine (Md.szModel _ _ _ _ _ _ m0 (hm0.below hB) hf0 (by omega) (by omega)).mono ?_
  rintro e w1 ⟨rfl, hb⟩
  have bm := bm.below hb
  have hT := hT.below hb
  have hB := hB.trans (hb.mono hB.size)
  clear hb
  by_cases hl : (m0.sz : Int) ≤ 1048576
  rotate_left
  · rw [Tb.sub_no hl]
    go_wp2
    go_ret
    exact ⟨rfl, hB⟩
  rw [Tb.sub_yes hl]
  have hl0 : m0.sz ≤ 1048576 := by omega
  obtain ⟨q, hq⟩ : ∃ q : Int, 1048576 - (m0.sz : Int) = q := ⟨_, rfl⟩
  rw [hq]
  have q0 : 0 ≤ q := by omega
  have q1 : q ≤ 1048576 := by omega
  clear hq hl
  obtain ⟨tx, htx⟩ : ∃ tx : ByteArray, (⟨(Mt.mtext m0).toArray⟩ : ByteArray) = tx := ⟨_, rfl⟩
  have HTX : Hid ((⟨(Mt.mtext m0).toArray⟩ : ByteArray) = tx) := htx
  have htt : (tx.toList == tx.toList) = true := Ls.tl_eq rfl
  clear htx
  obtain ⟨_, ⟨cx0, cx1, cx2, cx3, cx4, cx5⟩, _⟩ := Md.wr6 (bm)
  go_wp2_with fail
  refine (Md.toModel _ _ _ _ _ m0 (hm0.below hB) hl0).mono ?_
  rintro e w1a ⟨vk1, vt1, rfl, om, hb⟩
  have bm := bm.below hb
  have hT := hT.below hb
  have hB := hB.trans (hb.mono hB.size)
  clear hb cx0 cx1 cx2 cx3 cx4 cx5
  obtain ⟨ak1, ck1, ax1, ct1, ek, et, rm⟩ := om.rm
  subst ek et
  go_wp2_with fail
  refine (Mt.smtext _ _ _ _ _ m0 rm hl0).mono ?_
  rintro e w1c ⟨rfl, hb⟩
  rw [HTX.out]
  have bm := bm.below hb
  have hT := hT.below hb
  have hB := hB.trans (hb.mono hB.size)
  clear hb om rm
  obtain ⟨_, ⟨cx0, cx1, cx2, cx3, cx4, cx5⟩, _⟩ := Md.wr6 (bm)
  go_wp2_with fail
  refine (Md.toModel _ _ _ _ _ m0 (hm0.below hB) hl0).mono ?_
  rintro e w2 ⟨vk2, vt2, rfl, om, hb⟩
  have bm := bm.below hb
  have hT := hT.below hb
  have hB := hB.trans (hb.mono hB.size)
  have h12 := hb.size
  clear hb cx0 cx1 cx2 cx3 cx4 cx5
  obtain ⟨ak2, ck2, ax2, ct2, ek, et, _⟩ := om.rm
  subst ek et
  go_wp2_with fail
  obtain ⟨w3, hW3, hsz3, hb, b0⟩ := Sv.new1 w2 [.int .i64 m0.n, .int .i64 m0.c, .int .i64 m0.prior, .int .i64 m0.base, .slice ak2 m0.ks.length ck2, .slice ax2 m0.ts.length ct2] 34
  rw [hW3]
  clear hW3
  have h23 : w2.heap.size < w3.heap.size := by omega
  have bm := bm.below hb
  have hT := hT.below hb
  have om := om.below hb
  have hB := hB.trans (hb.mono hB.size)
  clear hb hsz3
  obtain ⟨_, ⟨cx0, cx1, cx2, cx3, cx4, cx5⟩, _⟩ := Md.wr6 (b0)
  obtain ⟨_, _, _, _, ek, et, rm⟩ := om.rm
  cases ek
  cases et
  go_wp2_with fail
  refine (Mt.imtext _ _ _ _ _ m0 rm hl0 hT).mono ?_
  rintro e w6 ⟨rfl, hb⟩
  rw [HTX.out]
  have bm := bm.below hb
  have b0 := b0.below hb
  have hT := hT.below hb
  have om := om.below hb
  have hB := hB.trans (hb.mono hB.size)
  have h56 := hb.size
  clear hb rm cx0 cx1 cx2 cx3 cx4 cx5
  obtain ⟨_, ⟨r8b00, r8b01, r8b02, r8b03, r8b04, r8b05⟩, _⟩ := Md.wr6 (b0)
  obtain ⟨_, ⟨r8bm0, r8bm1, r8bm2, r8bm3, r8bm4, r8bm5⟩, _⟩ := Md.wr6 (bm)
  have H_bm : Hid (type_of% bm) := bm
  have H_b0 : Hid (type_of% b0) := b0
  have H_hT : Hid (type_of% hT) := hT
  have H_om : Hid (type_of% om) := om
  have HHB : Hid (type_of% hB) := hB
  have HBD : Hid (Below w6.heap.size w6 w6.drew) := (Below.refl w6.heap.size w6).drew
  clear hB bm b0 hT om
  go_wp2_with fail
  go_region_held3 (fun w' => w'.cell? ⟨w2.heap.size, 0, none⟩ = some (.int .i64 m0.n) ∧ w'.cell? ⟨w2.heap.size, 1, none⟩ = some (.int .i64 m0.c) ∧ w'.cell? ⟨w2.heap.size, 2, none⟩ = some (.int .i64 m0.prior) ∧ w'.cell? ⟨w2.heap.size, 3, none⟩ = some (.int .i64 m0.base) ∧ w'.cell? ⟨w2.heap.size, 4, none⟩ = some (.slice ak2 m0.ks.length ck2) ∧ w'.cell? ⟨w2.heap.size, 5, none⟩ = some (.slice ax2 m0.ts.length ct2) ∧ w'.cell? ⟨w.heap.size, 0, none⟩ = some (.int .i64 m0.n) ∧ w'.cell? ⟨w.heap.size, 1, none⟩ = some (.int .i64 m0.c) ∧ w'.cell? ⟨w.heap.size, 2, none⟩ = some (.int .i64 m0.prior) ∧ w'.cell? ⟨w.heap.size, 3, none⟩ = some (.int .i64 m0.base) ∧ w'.cell? ⟨w.heap.size, 4, none⟩ = some (.slice p0k m0.ks.length s0k) ∧ w'.cell? ⟨w.heap.size, 5, none⟩ = some (.slice p0t m0.ts.length s0t)) (go_keep) (first
    | (go_at_call 6
       refine (Md.toModel w6.drew _ _ _ _ m0 (hm0.below (HHB.out.trans (HBD.out.mono HHB.out.size))) hl0).mono ?_
       rintro e w8a ⟨vk8, vt8, rfl, om8, hb⟩
       have HY0 : Hid (Below w6.heap.size w6 w8a) := HBD.out.trans hb
       obtain ⟨_, ⟨s80b00, s80b01, s80b02, s80b03, s80b04, s80b05⟩, _⟩ := Md.wr6 (H_b0.out.below HY0.out)
       obtain ⟨_, ⟨s80bm0, s80bm1, s80bm2, s80bm3, s80bm4, s80bm5⟩, _⟩ := Md.wr6 (H_bm.out.below HY0.out)
       obtain ⟨ak8, ck8, ax8, ct8, ek, et, rm⟩ := om8.rm
       subst ek et
       have HR8 : Hid (Md.Rm w8a ak8 ax8 m0) := rm
       have HR9 : Hid (Md.Rm w8a ak2 ax2 m0) := by obtain ⟨_, _, _, _, ek, et, rm⟩ := (H_om.out.below HY0.out).rm; cases ek; cases et; exact rm
       clear om8 rm
       clear hb)
    | (go_at_call 8
       refine (Md.eqModel _ _ _ _ _ _ _ _ _ m0 HR9.out HR8.out hl0).mono ?_
       rintro e w8b ⟨rfl, hb⟩
       have HY1 : Hid (Below w6.heap.size w6 w8b) := HY0.out.trans (hb.mono HY0.out.size)
       obtain ⟨_, ⟨s81b00, s81b01, s81b02, s81b03, s81b04, s81b05⟩, _⟩ := Md.wr6 (H_b0.out.below HY1.out)
       obtain ⟨_, ⟨s81bm0, s81bm1, s81bm2, s81bm3, s81bm4, s81bm5⟩, _⟩ := Md.wr6 (H_bm.out.below HY1.out)
       clear hb))
  have hB := HHB.out
  have bm := H_bm.out
  have b0 := H_b0.out
  have hT := H_hT.out
  have om := H_om.out
  have hb := HY1.out
  clear HHB HBD H_bm H_b0 H_hT H_om
  try clear r8b00 r8b01 r8b02 r8b03 r8b04 r8b05
  try clear s80b00 s80b01 s80b02 s80b03 s80b04 s80b05
  try clear s81b00 s81b01 s81b02 s81b03 s81b04 s81b05
  try clear r8bm0 r8bm1 r8bm2 r8bm3 r8bm4 r8bm5
  try clear s80bm0 s80bm1 s80bm2 s80bm3 s80bm4 s80bm5
  try clear s81bm0 s81bm1 s81bm2 s81bm3 s81bm4 s81bm5
  have bm := bm.below hb
  have b0 := b0.below hb
  have hT := hT.below hb
  have om := om.below hb
  have hB := hB.trans (hb.mono hB.size)
  clear hb HY0 HY1 HR8 HR9
  go_wp2
  go_ret
  exact ⟨rfl, hB⟩

/-! ### THE ROW's STEP -/
theorem door_met (os : Os) (args : Array Value) : laidMetH Tryz.prog Rows.fnExactModelTextRow.laid ((World.doorLaid Tryz.prog 24 os).forCall (fun _ _ => 0) ⟨#[], args, []⟩).memory :=
  laidMetH_of_parts3 (fuel := 8) (laidMet_of_run' 8 (by kernel_rfl) (by kernel_rfl)) (by kernel_rfl) (by kernel_rfl)

set_option maxRecDepth 100000 in
theorem lifted (os : Os) (started : os.Started) (H : Type) (enc : TypeId × Value → H) :
    ReturnsInHanded {} Tryz.checked os 3 .any (fun w args => (Rows.fnExactModelTextSpec.pre enc Tryz.prog Tryz.f3 [] false w args ∧ laidMetH Tryz.prog Rows.fnExactModelTextRow.laid w) ∧ sizedMet enc Tryz.prog Tryz.f3 (OpenSpec.ofChange Rows.fnExactModelTextSpec) false w args)
      (Rows.fnExactModelTextSpec.post enc Tryz.prog Tryz.f3 false true false false) := by
  refine wrap_listed (C := Tryz.checked) (X := fun w _ => laidMetH Tryz.prog Rows.fnExactModelTextRow.laid w) (fun _ _ _ hh h => h.of_heap hh) own started (by kernel_rfl) Tryz.func3
    (ChangeSpec.witness_shaped (enc := enc) (C := Tryz.checked) (os := os) (X := fun w _ => laidMetH Tryz.prog Rows.fnExactModelTextRow.laid w) false (World.doorLaid Tryz.prog 24 os) #[.agg #[.int .i64 0, .int .i64 0, .int .i64 0, .int .i64 0, .slice none 0 0, .slice none 0 0]] 8 rfl (World.shaped_of_RefB (by kernel_rfl) (by kernel_rfl)) (by kernel_rfl) (by kernel_rfl) (by kernel_rfl) (door_met os _)) ?_
  intro W base args ds gs before hval0 hW hL hsh
  have hval : ∀ (j : Nat) t v, Tryz.f3.params[j]? = some t → args[j]? = some v → Value.okWide Tryz.prog W .any base t v := hval0
  have hW' := hW
  obtain ⟨p, q, hA0, hV, rfl, hfz, hnd⟩ := hW
  have hA : DataW.TrodAll enc Tryz.prog W 0 (fun _ => true) true Tryz.f3.params.toList args.toList ds p := hA0
  rw [Tryz.params3] at hA hval
  obtain ⟨v0, vs0, d0, ds0, p0, q0, hargs, rfl, rfl, h0, r0⟩ := trodAll_cons hA
  obtain ⟨rfl, rfl, rfl⟩ := trodAll_nil r0
  obtain rfl : args = #[v0] := by cases args; simp_all
  obtain ⟨rfl, rfl⟩ := trodVars_none hV
  have k0 := h0
  have lt0 : ∀ x ∈ p0, x.block < W.heap.size := by obtain ⟨m, hm⟩ := k0; exact DataW.trod_lt m _ _ _ hm
  obtain ⟨m0, p0k, s0k, p0t, s0t, rfl, hm0, hf0⟩ := Op.model_open (hval 0 27 v0 rfl rfl) h0
  clear hA0 hval0
  refine (walk W m0 p0k p0t s0k s0t hm0 hf0 hL hsh).mono fun e W' ⟨he, bel⟩ => ?_
  subst he
  exact ⟨_, rfl, _, _, _, [], _, [], hW', trodAll_mk1 (shut_bool Tryz.underlying4 _), (trodAll_cons_mk (Below.trod laidOut (by kernel_rfl) (of_decide_eq_true (by kernel_rfl)) k0 bel lt0) trodAll_mk0), rfl, bel.frame _, fun h => by cases h⟩

theorem over : Rows.fnExactModelTextRow.holds Tryz.pinned (OpenSpec.ofChange Rows.fnExactModelTextSpec) :=
  OpenClaim.holds_of_wide 3 Tryz.f3 rfl rfl rfl rfl rfl rfl rfl ⟨rfl, rfl, rfl, rfl, rfl⟩ rfl rfl rfl rfl rfl (by kernel_rfl) Tryz.func3 (by kernel_rfl)
    (of_decide_eq_true (by kernel_rfl)) (by unfold Func.isWrapper; first | (rw [if_pos (by decide +kernel)]; kernel_rfl) | (rw [if_neg (by decide +kernel)]; exact ⟨rfl, rfl⟩))
    (fun os started H enc _ => lifted os started H enc)

/-- THE STATEMENT -/
theorem proved : Rows.FnExactModelTextCardSaid :=
  Claim7.holds_tied_plain_at .later [] [.data, .data, .data] true (true, "48bcca3e73bb8aad736231c53f9bd65781dbf71c3b2ef159783b7f07b4e0b8e2") false
    over (fun _ h => by cases h) (by kernel_rfl) (fun _ h => by cases h) fnExactModelText_row_tie rfl ⟨rfl, rfl⟩ (by kernel_rfl) rfl
    (fun f fn hf hfn => by
      obtain rfl : f = 3 := Option.some.inj ((show Tryz.prog.funcNamed Rows.fnExactModelTextRow.func = some 3 by kernel_rfl).symm.trans hf) |>.symm
      obtain rfl : fn = Tryz.f3 := (Option.some.inj (Tryz.func3.symm.trans hfn)).symm
      exact ⟨by kernel_rfl, fun j t ht => by
        rw [Tryz.params3] at ht
        have hm : t ∈ [27] := by simpa using Array.mem_of_getElem? ht
        have hall : ([27].all fun u => !Tryz.prog.wantsStandIn u) = true := by kernel_rfl
        exact (show Tryz.prog.wantsStandIn t = false by simpa using List.all_eq_true.1 hall t hm)⟩)
    (by kernel_rfl)
#print axioms proved
end Go.Proofs.YtdileifjmlabfaaGreatDoor.fnExactModelText
