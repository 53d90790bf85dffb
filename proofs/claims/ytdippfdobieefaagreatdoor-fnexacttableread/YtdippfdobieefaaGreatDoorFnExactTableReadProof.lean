/-
  Proved here: the Go function laws.FnExactTableRead, called with any arguments that can be read, returns true, and each argument reads afterwards as it read before ('Rows.FnExactTableReadCardSaid'): the row lists package-level variables of Go's library (see the row) with what they hold; the card ties that to the program's text (the tie is given). The cards tie the listed variables to the pruned copy of the project alone.
-/
import Derived.Test.YtdippfdobieefaaGreatDoorRows
import Derived.Test.YtdippfdobieefaaGreatDoorTie
import Derived.Test.YtdippfdobieefaaGreatDoorCards
import Derived.WalkKit
import Derived.ProofKit
import Derived.OpenShut
import Derived.ShutString
import Derived.ChangeOld
import Derived.Below
import Derived.LaidMore
import Derived.Stop.Joined
import Derived.SevenTiedAt
import Derived.Test.YtdippfdobieefaaGreatDoorWrap
import Derived.Test.YtdippfdobieefaaGreatDoorOpn
import Derived.Test.YtdippfdobieefaaGreatDoorSpR
import Derived.Test.YtdippfdobieefaaGreatDoorSpU
import Derived.Test.YtdippfdobieefaaGreatDoorHeldT
import Derived.Test.YtdippfdobieefaaGreatDoorVrs
namespace Go.Proofs.YtdippfdobieefaaGreatDoor.fnExactTableRead
open Go.ChangeShapes Go.WideShapes Go.ChangeAt Go.RowKit
open Go.ChangeMaps (open_string shut_string)
set_option linter.unusedVariables false

theorem own : ownKnob Tryz.prog.godebug = none := by kernel_rfl
theorem laidOut : laidOutB Tryz.prog = true := by kernel_rfl

/-- WHAT THE WALK IS TOLD OF A SLICE OF BYTES THAT CAME IN. -/
def IsRow (k : IntKind) (w : World) (a : Option Addr) (len cap : Nat) (zs : List Int) : Prop :=
  (a = none ∧ len = 0 ∧ cap = 0 ∧ zs = []) ∨
  ∃ x, a = some x ∧ len ≤ cap ∧ cap ≤ maxLen ∧ zs.length = cap ∧ (∀ i, i < zs.length → w.cell? (x.add i) = some (.int k (zs.getD i 0))) ∧ ∀ n ∈ zs, (Lit.int k n).wf = true

open Go.Proofs.YtdippfdobieefaaGreatDoor.Tb
theorem b2_new (w : World) (n c : Int) (T : TypeId) : Tk.Box2 (w.alloc (.cells #[.int .i64 n, .int .i64 c] T)) w.heap.size (.int .i64 n) (.int .i64 c) := ⟨by simp, by simp, by simp⟩
theorem b2_alloc {w : World} {b : Nat} {u v : Value} (h : Tk.Box2 w b u v) (o : Obj) : Tk.Box2 (w.alloc o) b u v := h.below ((Below.refl _ _).alloc (Nat.le_refl _) _)
theorem al {w : World} (o : Obj) : Below w.heap.size w (w.alloc o) := (Below.refl _ _).alloc (Nat.le_refl _) _
theorem isr_at {w : World} {lo hi : Nat} {a : Option Addr} {cap n : Nat} {rs : List Row} (hn : rs.length = n) (h : OwnT w lo hi (.slice a n cap) rs) : IsR w a rs := by
  obtain ⟨a', c', e, hr⟩ := h.isr
  cases e
  exact hr
/-- What lies below the marked window stays. -/
theorem win_own {lo hi lo' hi' : Nat} {w w' : World} {v : Value} {rs : List Row} (h : Mk.Win lo hi w w') (ho : OwnT w lo' hi' v rs) (hh : hi' ≤ lo) : OwnT w' lo' hi' v rs :=
  ho.keptAt fun k _ h2 hk => h.block k hk (.inl (by omega))
theorem win_box3 {lo hi b : Nat} {w w' : World} {v0 v1 v2 : Value} (h : Mk.Win lo hi w w') (hb : Box3 w b v0 v1 v2) (hh : b < lo ∨ hi ≤ b) : Box3 w' b v0 v1 v2 := hb.keptAt h.size (h.block b hb.1 hh)
theorem win_box2 {lo hi b : Nat} {w w' : World} {u v : Value} (h : Mk.Win lo hi w w') (hb : Tk.Box2 w b u v) (hh : b < lo ∨ hi ≤ b) : Tk.Box2 w' b u v := by
  obtain ⟨hlt, c0, c1⟩ := hb
  have e := h.block b hlt hh
  exact ⟨Nat.lt_of_lt_of_le hlt h.size, by rw [World.cell?_of_block (a := ⟨b, 0, none⟩) e]; exact c0, by rw [World.cell?_of_block (a := ⟨b, 1, none⟩) e]; exact c1⟩

/-! ### THE WALK: the Go text returns true, and writes nothing that was there -/
set_option maxRecDepth 100000 in
set_option maxHeartbeats 4000000 in
theorem walk (w : World) (n0 c0 : Int) (b0 : (-9223372036854775808 ≤ n0 ∧ n0 ≤ 9223372036854775807) ∧ (-9223372036854775808 ≤ c0 ∧ c0 ≤ 9223372036854775807)) (a1 : ByteArray) (w1 : a1.size ≤ maxLen) (hL : laidMetH Tryz.prog Rows.fnExactTableReadRow.laid w) (hsh : w.ShapedOpen Tryz.prog) :
    Calls Tryz.prog 5 #[.agg #[.int .i64 n0, .int .i64 c0], .string a1] w fun e w' => e = .returned (.bool true) ∧ Below w.heap.size w w' := by
  have hV : Re.Vars w := Vr.vars_of hL hsh
  have hE := Vr.hand_of hL
  have hEb := World.block_lt_of_cell? w _ hE
  have HE : Hid (∀ w' : World, Below w.heap.size w w' → w'.cell? ⟨0, 0, none⟩ = some (.iface 113 (.agg #[.pointer (some ⟨9, 53, none⟩)]))) := fun w' h => (h.cell (by exact hEb)).trans hE
  have HV : Hid (∀ w' : World, Below w.heap.size w w' → Re.Vars w') := fun w' h => hV.below h
  clear hL hsh hV hE hEb
  by_cases hbig : 1048576 < a1.size
  · go_enter Tryz.func5, Tryz.ntmps5
    go_wp2
    go_ret
    exact ⟨rfl, al _⟩
  have hsm : a1.size ≤ 1048576 := by omega
  obtain ⟨T, hT⟩ : ∃ T, Pc.tread n0 c0 a1.data.toList = T := ⟨_, rfl⟩
  have hsz := Su.tread_sz n0 c0 a1.data.toList
  rw [hT] at hsz
  have HT : Hid (Pc.tread n0 c0 a1.data.toList = T) := hT
  clear hT
  obtain ⟨rs, hrs⟩ : ∃ rs, Su.rsT T = rs := ⟨_, rfl⟩
  rw [hrs] at hsz
  have HRS : Hid (Su.rsT T = rs) := hrs
  obtain ⟨i, hi'⟩ : ∃ i, Su.inT T n0 = i := ⟨_, rfl⟩
  have HI : Hid (Su.inT T n0 = i) := hi'
  obtain ⟨j, hj'⟩ : ∃ j, Su.inT T c0 = j := ⟨_, rfl⟩
  have HJ : Hid (Su.inT T c0 = j) := hj'
  obtain ⟨ln, hln⟩ : ∃ l, Su.lnT T = l := ⟨_, rfl⟩
  have HLN : Hid (Su.lnT T = ln) := hln
  obtain ⟨co, hco⟩ : ∃ l, T.2.1 = l := ⟨_, rfl⟩
  have HCO : Hid (T.2.1 = co) := hco
  clear hrs hi' hj' hln hco
  have HAN : Hid (∀ {w1 w2 : World} {e : Ending}, Rd.Ans w1 w2 n0 c0 (Pc.tread n0 c0 a1.data.toList) e → ∃ a cap, e = .returned (.tuple #[.agg #[.int .i64 i, .int .i64 j, .slice a rs.length cap], .int .i64 ln, .int .i64 co]) ∧ OwnT w2 w1.heap.size w2.heap.size (.slice a rs.length cap) rs) := by
    intro w1 w2 e h
    rw [HT.out] at h
    have := Su.ans h
    rw [HRS.out, HI.out, HJ.out, HLN.out, HCO.out] at this
    exact this
  have hl : rs.length + szR rs ≤ 1048576 := by omega
  have hln : (ln != ln) = false := by simp
  have hco : (co != co) = false := by simp
  clear HT HRS HI HJ HLN HCO
  have b0 := b2_new w n0 c0 39
  have hB := al (w := w) (.cells #[.int .i64 n0, .int .i64 c0] 39)
  go_enter Tryz.func5, Tryz.ntmps5
  go_wp2_with fail
  refine (Tb.toSchema _ _ _).mono ?_
  rintro e w1 ⟨rfl, hB1⟩
  have b0 := b0.below hB1
  have hB := hB.trans (hB1.mono hB.size)
  clear hB1
  go_wp2_with fail
  refine (Sp.sread _ n0 c0 a1 hsm).mono ?_
  rintro e w2 ⟨he, hB2⟩
  obtain ⟨p, pc, he, hp⟩ := HAN.out he
  subst he
  have b0 := b0.below hB2
  have hB := hB.trans (hB2.mono hB.size)
  obtain ⟨hb0, d0, d1⟩ := id b0
  have hs2 : w.heap.size < w2.heap.size := hb0
  have bp := box3_new w2 (.int .i64 i) (.int .i64 j) (.slice p rs.length pc) 28
  have b0 := b2_alloc b0 (.cells #[.int .i64 i, .int .i64 j, .slice p rs.length pc] 28)
  have hp := hp.below (al (.cells #[.int .i64 i, .int .i64 j, .slice p rs.length pc] 28))
  have hB := hB.trans ((al (w := w2) (.cells #[.int .i64 i, .int .i64 j, .slice p rs.length pc] 28)).mono hB.size)
  clear hB2
  go_wp2_with fail
  refine (Tb.toSchema _ _ _).mono ?_
  rintro e w3 ⟨rfl, hB3⟩
  have b0 := b0.below hB3
  have bp := bp.below hB3
  have hp := hp.below hB3
  have hB := hB.trans (hB3.mono hB.size)
  have hs3 : w2.heap.size < w3.heap.size := bp.1
  clear hB3 d0 d1 hb0
  go_wp2_with fail
  refine (Rd.iread _ n0 c0 a1 hsm (HV.out _ hB) (HE.out _ hB)).mono ?_
  rintro e w4 ⟨he, hB4⟩
  obtain ⟨g, gc, he, hg⟩ := HAN.out he
  subst he
  have b0 := b0.below hB4
  have bp := bp.below hB4
  have hp := hp.below hB4
  have hB := hB.trans (hB4.mono hB.size)
  have hs4 : w3.heap.size ≤ w4.heap.size := hB4.size
  have bg := box3_new w4 (.int .i64 i) (.int .i64 j) (.slice g rs.length gc) 28
  obtain ⟨hbp, ⟨p0, p1, p2⟩, _⟩ := id bp
  have hA := al (w := w4) (.cells #[.int .i64 i, .int .i64 j, .slice g rs.length gc] 28)
  have b0 := b0.below hA
  have bp := bp.below hA
  have hp := hp.below hA
  have hg := hg.below hA
  have hB := hB.trans (hA.mono hB.size)
  clear hB4 hA
  go_wp2_with fail
  refine (Tb.eqTables _ _ _ _ _ _ _ _ _ rs rs (isr_at rfl hg) (isr_at rfl hp) hl hl).mono ?_
  rintro e w5 ⟨q5, rfl, hq5, hB5⟩
  obtain rfl : q5 = true := hq5.2 ⟨rfl, rfl, rfl⟩
  have b0 := b0.below hB5
  have bp := bp.below hB5
  have bg := bg.below hB5
  have hp := hp.below hB5
  have hg := hg.below hB5
  have hB := hB.trans (hB5.mono hB.size)
  clear hB5 hq5 p0 p1 p2
  obtain ⟨hbg, ⟨g0, g1, g2⟩, _⟩ := id bg
  go_wp2_with fail
  refine (Mk.mark_tab _ _ _ i j g rs.length gc 1 rs rfl hg (by omega) (by omega)).mono ?_
  rintro e w6 ⟨rfl, hg, hW⟩
  have hlo : w.heap.size ≤ w3.heap.size := by omega
  have b0 := win_box2 hW b0 (.inl (by omega))
  have bp := win_box3 hW bp (.inl (by omega))
  have bg := win_box3 hW bg (.inr (Nat.le_refl _))
  have hp := win_own hW hp (by omega)
  have hB := hB.trans ((hW.toBelow (by omega)).mono hlo)
  clear hW g0 g1 g2 hbg
  obtain ⟨M, hM⟩ : ∃ M, 1 + Mk.wts rs = M := ⟨_, rfl⟩
  have HM : Hid (1 + Mk.wts rs = M) := hM
  have hMb : M ≤ 1000001 := by have := Mk.wts_le rs; omega
  rw [hM]
  clear hM
  obtain ⟨hbg, ⟨g0, g1, g2⟩, _⟩ := id bg
  go_wp2_with fail
  refine (Mk.held_tab _ i j g rs.length gc 1 rs rfl (isr_at (Mk.mrows_length 1 rs) hg) (by omega) (by omega)).mono ?_
  rintro e w7 ⟨rfl, hB7⟩
  rw [HM.out]
  have b0 := b0.below hB7
  have bp := bp.below hB7
  have bg := bg.below hB7
  have hp := hp.below hB7
  have hg := hg.below hB7
  have hB := hB.trans (hB7.mono hB.size)
  clear hB7 g0 g1 g2 hbg
  have hMM : ((M : Int) != (M : Int)) = false := by simp
  obtain ⟨hb0, d0, d1⟩ := id b0
  go_wp2_with fail
  refine (Tb.toSchema _ _ _).mono ?_
  rintro e w8 ⟨rfl, hB8⟩
  have bp := bp.below hB8
  have bg := bg.below hB8
  have hp := hp.below hB8
  have hg := hg.below hB8
  have hB := hB.trans (hB8.mono hB.size)
  clear hB8 d0 d1 hb0 b0
  go_wp2_with fail
  refine (Rd.iread _ n0 c0 a1 hsm (HV.out _ hB) (HE.out _ hB)).mono ?_
  rintro e w9 ⟨he, hB9⟩
  obtain ⟨h, hc, he, hh⟩ := HAN.out he
  subst he
  have bp := bp.below hB9
  have bg := bg.below hB9
  have hp := hp.below hB9
  have hg := hg.below hB9
  have hB := hB.trans (hB9.mono hB.size)
  have hA := al (w := w9) (.cells #[.int .i64 i, .int .i64 j, .slice h rs.length hc] 28)
  obtain ⟨hbp, ⟨p0, p1, p2⟩, _⟩ := id bp
  have bg := bg.below hA
  have hp := hp.below hA
  have hg := hg.below hA
  have hh := hh.below hA
  have hB := hB.trans (hA.mono hB.size)
  clear hB9 hA bp
  go_wp2_with fail
  refine (Tb.eqTables _ _ _ _ _ _ _ _ _ rs rs (isr_at rfl hh) (isr_at rfl hp) hl hl).mono ?_
  rintro e w10 ⟨q5, rfl, hq5, hB5⟩
  obtain rfl : q5 = true := hq5.2 ⟨rfl, rfl, rfl⟩
  have bg := bg.below hB5
  have hg := hg.below hB5
  have hB := hB.trans (hB5.mono hB.size)
  clear hB5 hq5 p0 p1 p2 hh hp
  obtain ⟨hbg, ⟨g0, g1, g2⟩, _⟩ := id bg
  go_wp2_with fail
  refine (Mk.held_tab _ i j g rs.length gc 1 rs rfl (isr_at (Mk.mrows_length 1 rs) hg) (by omega) (by omega)).mono ?_
  rintro e w11 ⟨rfl, hB11⟩
  rw [HM.out]
  have hB := hB.trans (hB11.mono hB.size)
  clear hB11 g0 g1 g2 hbg hg bg
  go_wp2
  go_ret
  exact ⟨rfl, hB⟩

/-! ### THE ROW's STEP -/

set_option maxRecDepth 100000 in
theorem lifted (os : Os) (started : os.Started) (H : Type) (enc : TypeId × Value → H) :
    ReturnsInHanded {} Tryz.checked os 5 .any (fun w args => (Rows.fnExactTableReadSpec.pre enc Tryz.prog Tryz.f5 [] false w args ∧ laidMetH Tryz.prog Rows.fnExactTableReadRow.laid w) ∧ sizedMet enc Tryz.prog Tryz.f5 (OpenSpec.ofChange Rows.fnExactTableReadSpec) false w args)
      (Rows.fnExactTableReadSpec.post enc Tryz.prog Tryz.f5 false true false false) := by
  refine wrap_listed (C := Tryz.checked) (X := fun w _ => laidMetH Tryz.prog Rows.fnExactTableReadRow.laid w) (fun _ _ _ hh h => h.of_heap hh) own started (by kernel_rfl) Tryz.func5
    (ChangeSpec.witness_shaped (enc := enc) (C := Tryz.checked) (os := os) (X := fun w _ => laidMetH Tryz.prog Rows.fnExactTableReadRow.laid w) false (Vr.wit os) #[.agg #[.int .i64 0, .int .i64 0], .string ByteArray.empty] 8 (Vr.wit_os os) (World.shaped_of_ZipB (by kernel_rfl) (by kernel_rfl)) (by kernel_rfl) (by kernel_rfl) (by kernel_rfl) (Vr.wit_met os _)) ?_
  intro W base args ds gs before hval0 hW hL hsh
  have hval : ∀ (j : Nat) t v, Tryz.f5.params[j]? = some t → args[j]? = some v → Value.okWide Tryz.prog W .any base t v := hval0
  have hW' := hW
  obtain ⟨p, q, hA0, hV, rfl, hfz, hnd⟩ := hW
  have hA : DataW.TrodAll enc Tryz.prog W 0 (fun _ => true) true Tryz.f5.params.toList args.toList ds p := hA0
  rw [Tryz.params5] at hA hval
  obtain ⟨v0, vs0, d0, ds0, p0, q0, hargs, rfl, rfl, h0, r0⟩ := trodAll_cons hA
  obtain ⟨v1, vs1, d1, ds1, p1, q1, rfl, rfl, rfl, h1, r1⟩ := trodAll_cons r0
  obtain ⟨rfl, rfl, rfl⟩ := trodAll_nil r1
  obtain rfl : args = #[v0, v1] := by cases args; simp_all
  obtain ⟨rfl, rfl⟩ := trodVars_none hV
  have k0 := h0
  have lt0 : ∀ x ∈ p0, x.block < W.heap.size := by obtain ⟨m, hm⟩ := k0; exact DataW.trod_lt m _ _ _ hm
  obtain ⟨n0, c0, rfl, b0⟩ := Op.schema_open (hval 0 39 v0 rfl rfl) h0
  obtain ⟨a1, rfl, rfl, rfl, w1⟩ := open_string Tryz.underlying9 (hval 1 9 v1 rfl rfl) h1
  clear hA0 hval0
  refine (walk W n0 c0 b0 a1 w1 hL hsh).mono fun e W' ⟨he, bel⟩ => ?_
  subst he
  exact ⟨_, rfl, _, _, _, [], _, [], hW', trodAll_mk1 (shut_bool Tryz.underlying4 _), (trodAll_cons_mk (Below.trod laidOut (by kernel_rfl) (of_decide_eq_true (by kernel_rfl)) k0 bel lt0) (trodAll_cons_mk (shut_string Tryz.underlying9 w1) trodAll_mk0)), rfl, bel.frame _, fun h => by cases h⟩

theorem over : Rows.fnExactTableReadRow.holds Tryz.pinned (OpenSpec.ofChange Rows.fnExactTableReadSpec) :=
  OpenClaim.holds_of_wide 5 Tryz.f5 rfl rfl rfl rfl rfl rfl rfl ⟨rfl, rfl, rfl, rfl, rfl⟩ rfl rfl rfl rfl rfl (by kernel_rfl) Tryz.func5 (by kernel_rfl)
    (of_decide_eq_true (by kernel_rfl)) (by unfold Func.isWrapper; first | (rw [if_pos (by decide +kernel)]; kernel_rfl) | (rw [if_neg (by decide +kernel)]; exact ⟨rfl, rfl⟩))
    (fun os started H enc _ => lifted os started H enc)

/-- THE STATEMENT -/
theorem proved : Rows.FnExactTableReadCardSaid :=
  Claim7.holds_tied_plain_at .later [] [.data, .data, .data, .data, .handle, .sentinel, .sentinel, .pinned] true (true, "6ef232954c734f99cb353a0a6df3888c5cdc5bb299e2b88c033d826112975855") true
    over (fun _ h => by cases h) (by kernel_rfl) (fun _ h => by cases h) fnExactTableRead_row_tie rfl ⟨rfl, rfl⟩ (by kernel_rfl) rfl
    (fun f fn hf hfn => by
      obtain rfl : f = 5 := Option.some.inj ((show Tryz.prog.funcNamed Rows.fnExactTableReadRow.func = some 5 by kernel_rfl).symm.trans hf) |>.symm
      obtain rfl : fn = Tryz.f5 := (Option.some.inj (Tryz.func5.symm.trans hfn)).symm
      exact ⟨by kernel_rfl, fun j t ht => by
        rw [Tryz.params5] at ht
        have hm : t ∈ [39, 9] := by simpa using Array.mem_of_getElem? ht
        have hall : ([39, 9].all fun u => !Tryz.prog.wantsStandIn u) = true := by kernel_rfl
        exact (show Tryz.prog.wantsStandIn t = false by simpa using List.all_eq_true.1 hall t hm)⟩)
    (by kernel_rfl)
#print axioms proved
end Go.Proofs.YtdippfdobieefaaGreatDoor.fnExactTableRead
