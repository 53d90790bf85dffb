/-
  Proved here: the Go function laws.FnTableBack, called with any arguments that can be read, returns true, and each argument reads afterwards as it read before ('Rows.FnTableBackCardSaid'): the row lists package-level variables of Go's library (see the row) with what they hold; the card ties that to the program's text (the tie is given). The cards tie the listed variables to the pruned copy of the project alone.
-/
import Derived.Test.YtdippfdobieefaaGreatDoorRows
import Derived.Test.YtdippfdobieefaaGreatDoorTie
import Derived.Test.YtdippfdobieefaaGreatDoorCards
import Derived.WalkKit
import Derived.ProofKit
import Derived.OpenShut
import Derived.ShutString
import Derived.ChangeOld
import Derived.Below
import Derived.LaidMore
import Derived.Stop.Joined
import Derived.SevenTiedAt
import Derived.Test.YtdippfdobieefaaGreatDoorWrap
import Derived.Test.YtdippfdobieefaaGreatDoorDrawTT
import Derived.Test.YtdippfdobieefaaGreatDoorSameT
import Derived.Test.YtdippfdobieefaaGreatDoorRnd
import Derived.Test.YtdippfdobieefaaGreatDoorSpU
import Derived.Test.YtdippfdobieefaaGreatDoorVrs
namespace Go.Proofs.YtdippfdobieefaaGreatDoor.fnTableBack
open Go.ChangeShapes Go.WideShapes Go.ChangeAt Go.RowKit
open Go.ChangeMaps (open_string shut_string)
set_option linter.unusedVariables false

theorem own : ownKnob Tryz.prog.godebug = none := by kernel_rfl
theorem laidOut : laidOutB Tryz.prog = true := by kernel_rfl

/-- WHAT THE WALK IS TOLD OF A SLICE OF BYTES THAT CAME IN. -/
def IsRow (k : IntKind) (w : World) (a : Option Addr) (len cap : Nat) (zs : List Int) : Prop :=
  (a = none ∧ len = 0 ∧ cap = 0 ∧ zs = []) ∨
  ∃ x, a = some x ∧ len ≤ cap ∧ cap ≤ maxLen ∧ zs.length = cap ∧ (∀ i, i < zs.length → w.cell? (x.add i) = some (.int k (zs.getD i 0))) ∧ ∀ n ∈ zs, (Lit.int k n).wf = true

open Go.Proofs.YtdippfdobieefaaGreatDoor.Tb
theorem al {w : World} (o : Obj) : Below w.heap.size w (w.alloc o) := (Below.refl _ _).alloc (Nat.le_refl _) _
theorem szR60 : ∀ (rs : List Row), (∀ r ∈ rs, Row.sz r ≤ 60 ∧ Row.fits r) → szR rs ≤ 60 * rs.length
  | [], _ => by simp [szR]
  | r :: rs, h => by
    have h1 := (h r (by simp)).1
    have h2 := szR60 rs (fun r' hr' => h r' (by simp [hr']))
    simp only [szR, List.length_cons]; omega
theorem text_small {n c : Int} {rs : List Row} (h : Tk.tok n c rs = true) : (Tt.ttext rs).length ≤ 11200 := by
  have := Tt.ttext_pre h rs.length
  rwa [List.take_length] at this

/-! ### THE WALK: the Go text returns true, and writes nothing that was there -/
set_option maxRecDepth 100000 in
set_option maxHeartbeats 4000000 in
theorem walk (w : World) (a0 : Option Addr) (len0 cap0 : Nat) (z0 : List Int) (w0 : IsRow .u8 w a0 len0 cap0 z0) (hL : laidMetH Tryz.prog Rows.fnTableBackRow.laid w) (hsh : w.ShapedOpen Tryz.prog) :
    Calls Tryz.prog 3 #[.slice a0 len0 cap0] w fun e w' => e = .returned (.bool true) ∧ Below w.heap.size w w' := by
  have hV : Re.Vars w := Vr.vars_of hL hsh
  have hE := Vr.hand_of hL
  have hEb := World.block_lt_of_cell? w _ hE
  have HE : Hid (∀ w' : World, Below w.heap.size w w' → w'.cell? ⟨0, 0, none⟩ = some (.iface 113 (.agg #[.pointer (some ⟨9, 53, none⟩)]))) := fun w' h => (h.cell (by exact hEb)).trans hE
  have HV : Hid (∀ w' : World, Below w.heap.size w w' → Re.Vars w') := fun w' h => hV.below h
  clear hL hsh hV hE hEb
  have key : ∀ (a : Option Addr) (len cap : Nat) (z : List Int), IsRow .u8 w a len cap z → Cu.Bytes w w.heap.size a len := by
    intro a len cap z h
    rcases h with ⟨rfl, rfl, rfl, rfl⟩ | ⟨x, rfl, hl, _, hz, hc, hw⟩
    · exact .inl rfl
    · exact Cu.bytes_of _ (Nat.le_refl _) hl hz hc hw
  have B0 := key _ _ _ _ w0
  clear key w0
  by_cases hb0 : 1048576 < len0
  · have e0 : decide (1048576 < len0) = true := by simpa using hb0
    go_enter Tryz.func3, Tryz.ntmps3
    go_wp2_with (go_at_call 6; refine (Cu.big_any _ _ _ _).mono ?_; rintro e w' ⟨rfl, hw⟩; subst w')
    go_ret
    exact ⟨rfl, Below.refl _ _⟩
  have e0 : decide (1048576 < len0) = false := by simpa using hb0
  go_enter Tryz.func3, Tryz.ntmps3
  go_wp2_with (go_at_call 6; refine (Cu.big_any _ _ _ _).mono ?_; rintro e w' ⟨rfl, hw⟩; subst w')
  refine (Db.drawTableText _ _ _ _ B0 (by omega)).mono ?_
  rintro e w1 ⟨n, c, ar, cp, rs, rfl, hb, hR, hB⟩
  have hsz := szR60 rs hb.2
  have hl : rs.length + szR rs ≤ 1048576 := by have := hb.1; omega
  have bt := box3_new w1 (.int .i64 n) (.int .i64 c) (.slice ar rs.length cp) 28
  have hA := al (w := w1) (.cells #[.int .i64 n, .int .i64 c, .slice ar rs.length cp] 28)
  have hR := hR.below hA
  have hB := hB.trans (hA.mono hB.size)
  clear B0 hb0 e0 hb hsz hA
  go_wp2_with fail
  refine (Tt.ittext _ n c ar cp rs hR hl (HV.out _ hB).1).mono ?_
  rintro e w2 ⟨rfl, hB2⟩
  have bt := bt.below hB2
  have hR := hR.below hB2
  have hB := hB.trans (hB2.mono hB.size)
  clear hB2
  obtain ⟨hbt, ⟨t0, t1, t2⟩, _⟩ := id bt
  go_wp2_with fail
  refine (Tk.stab _ n c ar cp rs hR hl).mono ?_
  rintro e w3 ⟨rfl, hB3⟩
  have bt := bt.below hB3
  have hR := hR.below hB3
  have hB := hB.trans (hB3.mono hB.size)
  clear hB3 t0 t1 t2 hbt
  obtain ⟨hbt, ⟨t0, t1, t2⟩, _⟩ := id bt
  cases hk : Tk.tok n c rs with
  | false =>
    have ht : (⟨(Tt.tabtext n c rs).toArray⟩ : ByteArray) = ⟨#[]⟩ := by unfold Tt.tabtext; rw [if_neg (by rw [hk]; simp)]
    rw [ht]
    clear hk ht
    go_wp2
    go_ret
    exact ⟨rfl, hB⟩
  | true =>
    have hts := text_small hk
    have ht : Tt.tabtext n c rs = Tt.ttext rs := by unfold Tt.tabtext; rw [if_pos hk]
    have HL : Hid ((Tt.ttext rs).length ≤ 6000 → Pc.tread n c (Tt.ttext rs) = (0, 0, rs)) := fun h => Rt.tread_text hk h
    have HM : Hid (¬ (Tt.ttext rs).length ≤ 6000 → Pc.tread n c (Tt.ttext rs) = (0, 1, [])) := fun h => Rt.tread_long (Tk.tok_iff.1 hk).1 h
    obtain ⟨s, es⟩ : ∃ s, (⟨(Tt.tabtext n c rs).toArray⟩ : ByteArray) = s := ⟨_, rfl⟩
    have hd : s.data.toList = Tt.ttext rs := by rw [← es, ht]
    have hss : s.size = (Tt.ttext rs).length := by rw [← hd]; simp
    rw [es]
    have HD : Hid (s.data.toList = Tt.ttext rs) := hd
    have hs1 : s.size ≤ 1048576 := by omega
    have HSS : Hid (s.size = (Tt.ttext rs).length) := hss
    clear hk ht es hd hss hts
    go_wp2_with fail
    refine (Rd.iread _ n c s hs1 (HV.out _ hB) (HE.out _ hB)).mono ?_
    rintro e w4 ⟨he, hB4⟩
    rw [HD.out] at he
    by_cases h6 : s.size ≤ 6000
    · rw [HL.out (by rw [← HSS.out]; exact h6)] at he
      rcases he with ⟨_, v, he, ho⟩ | ⟨h0, _⟩
      · subst he
        have ho : OwnT w4 w3.heap.size w4.heap.size v rs := ho
        obtain ⟨au, cu, rfl, iu⟩ := ho.isr
        have bt := bt.below hB4
        have hR := hR.below hB4
        have hB := hB.trans (hB4.mono hB.size)
        have hA := al (w := w4) (.cells #[.int .i64 n, .int .i64 c, .slice au rs.length cu] 28)
        obtain ⟨hbt4, ⟨u0, u1, u2⟩, _⟩ := id bt
        have hR := hR.below hA
        have iu := iu.below hA
        have hB := hB.trans (hA.mono hB.size)
        have h6d : decide ((6000 : Int) < (s.size : Int)) = false := decide_eq_false (by omega)
        have h6d' : decide (6000 < s.size) = false := decide_eq_false (by omega)
        clear hB4 hA t0 t1 t2 hbt bt ho
        go_wp2_with (go_at_call 11; refine (Sm.sameTab _ n c ar au cp cu rs hR iu hl).mono ?_; rintro e w6 ⟨rfl, hB6⟩)
        go_ret
        exact ⟨rfl, hB.trans (hB6.mono hB.size)⟩
      · exact absurd rfl h0
    · rw [HM.out (by rw [← HSS.out]; exact h6)] at he
      rcases he with ⟨h0, _⟩ | ⟨_, he⟩
      · exact absurd h0 (by decide)
      · subst he
        have hB := hB.trans (hB4.mono hB.size)
        have hA := al (w := w4) (.cells #[.int .i64 0, .int .i64 0, .slice none 0 0] 28)
        have hB := hB.trans (hA.mono hB.size)
        have h6d : decide ((6000 : Int) < (s.size : Int)) = true := decide_eq_true (by omega)
        have h6d' : decide (6000 < s.size) = true := decide_eq_true (by omega)
        clear hB4 hA t0 t1 t2 hbt bt
        go_wp2
        go_ret
        exact ⟨rfl, hB⟩

/-! ### THE ROW's STEP -/

set_option maxRecDepth 100000 in
theorem lifted (os : Os) (started : os.Started) (H : Type) (enc : TypeId × Value → H) :
    ReturnsInHanded {} Tryz.checked os 3 .any (fun w args => (Rows.fnTableBackSpec.pre enc Tryz.prog Tryz.f3 [] false w args ∧ laidMetH Tryz.prog Rows.fnTableBackRow.laid w) ∧ sizedMet enc Tryz.prog Tryz.f3 (OpenSpec.ofChange Rows.fnTableBackSpec) false w args)
      (Rows.fnTableBackSpec.post enc Tryz.prog Tryz.f3 false true false false) := by
  refine wrap_listed (C := Tryz.checked) (X := fun w _ => laidMetH Tryz.prog Rows.fnTableBackRow.laid w) (fun _ _ _ hh h => h.of_heap hh) own started (by kernel_rfl) Tryz.func3
    (ChangeSpec.witness_shaped (enc := enc) (C := Tryz.checked) (os := os) (X := fun w _ => laidMetH Tryz.prog Rows.fnTableBackRow.laid w) false (Vr.wit os) #[.slice none 0 0] 8 (Vr.wit_os os) (World.shaped_of_ZipB (by kernel_rfl) (by kernel_rfl)) (by kernel_rfl) (by kernel_rfl) (by kernel_rfl) (Vr.wit_met os _)) ?_
  intro W base args ds gs before hval0 hW hL hsh
  have hval : ∀ (j : Nat) t v, Tryz.f3.params[j]? = some t → args[j]? = some v → Value.okWide Tryz.prog W .any base t v := hval0
  have hW' := hW
  obtain ⟨p, q, hA0, hV, rfl, hfz, hnd⟩ := hW
  have hA : DataW.TrodAll enc Tryz.prog W 0 (fun _ => true) true Tryz.f3.params.toList args.toList ds p := hA0
  rw [Tryz.params3] at hA hval
  obtain ⟨v0, vs0, d0, ds0, p0, q0, hargs, rfl, rfl, h0, r0⟩ := trodAll_cons hA
  obtain ⟨rfl, rfl, rfl⟩ := trodAll_nil r0
  obtain rfl : args = #[v0] := by cases args; simp_all
  obtain ⟨rfl, rfl⟩ := trodVars_none hV
  obtain ⟨a0, len0, cap0, rfl⟩ := okWide_slice Tryz.underlying22 (hval 0 22 v0 rfl rfl)
  have k0 := h0
  have lt0 : ∀ x ∈ p0, x.block < W.heap.size := by obtain ⟨m, hm⟩ := k0; exact DataW.trod_lt m _ _ _ hm
  obtain ⟨z0, w0⟩ : ∃ zs, IsRow .u8 W a0 len0 cap0 zs := by
    obtain ⟨fuel, hf⟩ := h0
    rcases open_ints Tryz.underlying22 Tryz.underlying5 (by kernel_rfl) hf with ⟨hcs, _⟩ | ⟨x, l, c, zs, hcs, _, hl, hm, hz, _, hcell, hwz⟩
    · simp [Value.cells] at hcs
      obtain ⟨rfl, rfl, rfl⟩ := hcs
      exact ⟨[], .inl ⟨rfl, rfl, rfl, rfl⟩⟩
    · simp [Value.cells] at hcs
      obtain ⟨rfl, rfl, rfl⟩ := hcs
      exact ⟨zs, .inr ⟨_, rfl, hl, hm, by simpa using hz, hcell, hwz⟩⟩
  clear hA0 hval0
  refine (walk W a0 len0 cap0 z0 w0 hL hsh).mono fun e W' ⟨he, bel⟩ => ?_
  subst he
  exact ⟨_, rfl, _, _, _, [], _, [], hW', trodAll_mk1 (shut_bool Tryz.underlying4 _), (trodAll_cons_mk (Below.trod laidOut (by kernel_rfl) (of_decide_eq_true (by kernel_rfl)) k0 bel lt0) trodAll_mk0), rfl, bel.frame _, fun h => by cases h⟩

theorem over : Rows.fnTableBackRow.holds Tryz.pinned (OpenSpec.ofChange Rows.fnTableBackSpec) :=
  OpenClaim.holds_of_wide 3 Tryz.f3 rfl rfl rfl rfl rfl rfl rfl ⟨rfl, rfl, rfl, rfl, rfl⟩ rfl rfl rfl rfl rfl (by kernel_rfl) Tryz.func3 (by kernel_rfl)
    (of_decide_eq_true (by kernel_rfl)) (by unfold Func.isWrapper; first | (rw [if_pos (by decide +kernel)]; kernel_rfl) | (rw [if_neg (by decide +kernel)]; exact ⟨rfl, rfl⟩))
    (fun os started H enc _ => lifted os started H enc)

/-- THE STATEMENT -/
theorem proved : Rows.FnTableBackCardSaid :=
  Claim7.holds_tied_plain_at .later [] [.data, .data, .data, .data, .handle, .sentinel, .sentinel, .pinned] true (true, "6ef232954c734f99cb353a0a6df3888c5cdc5bb299e2b88c033d826112975855") true
    over (fun _ h => by cases h) (by kernel_rfl) (fun _ h => by cases h) fnTableBack_row_tie rfl ⟨rfl, rfl⟩ (by kernel_rfl) rfl
    (fun f fn hf hfn => by
      obtain rfl : f = 3 := Option.some.inj ((show Tryz.prog.funcNamed Rows.fnTableBackRow.func = some 3 by kernel_rfl).symm.trans hf) |>.symm
      obtain rfl : fn = Tryz.f3 := (Option.some.inj (Tryz.func3.symm.trans hfn)).symm
      exact ⟨by kernel_rfl, fun j t ht => by
        rw [Tryz.params3] at ht
        have hm : t ∈ [22] := by simpa using Array.mem_of_getElem? ht
        have hall : ([22].all fun u => !Tryz.prog.wantsStandIn u) = true := by kernel_rfl
        exact (show Tryz.prog.wantsStandIn t = false by simpa using List.all_eq_true.1 hall t hm)⟩)
    (by kernel_rfl)
#print axioms proved
end Go.Proofs.YtdippfdobieefaaGreatDoor.fnTableBack
