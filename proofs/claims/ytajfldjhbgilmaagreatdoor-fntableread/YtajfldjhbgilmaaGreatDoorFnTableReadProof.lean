/-
  Proved here: the Go function laws.FnTableRead, called with any arguments that can be read, returns true, and each argument reads afterwards as it read before ('Rows.FnTableReadCardSaid'): the row lists package-level variables of Go's library (see the row) with what they hold; the card ties that to the program's text (the tie is given). The cards tie the listed variables to the pruned copy of the project alone.
-/
import Derived.Test.YtajfldjhbgilmaaGreatDoorRows
import Derived.Test.YtajfldjhbgilmaaGreatDoorTie
import Derived.Test.YtajfldjhbgilmaaGreatDoorCards
import Derived.WalkKit
import Derived.ProofKit
import Derived.OpenShut
import Derived.ShutString
import Derived.ChangeOld
import Derived.Below
import Derived.LaidMore
import Derived.Stop.Joined
import Derived.SevenTiedAt
import Derived.Test.YtajfldjhbgilmaaGreatDoorWrap
import Derived.Test.YtajfldjhbgilmaaGreatDoorDrawY
import Derived.Test.YtajfldjhbgilmaaGreatDoorDrawTR
import Derived.Test.YtajfldjhbgilmaaGreatDoorCols
import Derived.Test.YtajfldjhbgilmaaGreatDoorRnd
import Derived.Test.YtajfldjhbgilmaaGreatDoorSpU
import Derived.Test.YtajfldjhbgilmaaGreatDoorSpR
import Derived.Test.YtajfldjhbgilmaaGreatDoorVrs
import Derived.Deep.RegionHeld
namespace Go.Proofs.YtajfldjhbgilmaaGreatDoor.fnTableRead
open Go.ChangeShapes Go.WideShapes Go.ChangeAt Go.RowKit
open Go.ChangeMaps (open_string shut_string)
set_option linter.unusedVariables false

theorem own : ownKnob Tryz.prog.godebug = none := by kernel_rfl
theorem laidOut : laidOutB Tryz.prog = true := by kernel_rfl

/-- WHAT THE WALK IS TOLD OF A SLICE OF BYTES THAT CAME IN. -/
def IsRow (k : IntKind) (w : World) (a : Option Addr) (len cap : Nat) (zs : List Int) : Prop :=
  (a = none ∧ len = 0 ∧ cap = 0 ∧ zs = []) ∨
  ∃ x, a = some x ∧ len ≤ cap ∧ cap ≤ maxLen ∧ zs.length = cap ∧ (∀ i, i < zs.length → w.cell? (x.add i) = some (.int k (zs.getD i 0))) ∧ ∀ n ∈ zs, (Lit.int k n).wf = true

open Go.Proofs.YtajfldjhbgilmaaGreatDoor.Tb
theorem al {w : World} (o : Obj) : Below w.heap.size w (w.alloc o) := (Below.refl _ _).alloc (Nat.le_refl _) _
theorem tb_drew {W : World} : Below W.heap.size W W.drew := (Below.refl _ _).drew
theorem r_ok {w : World} {n c : Int} {a : Option Addr} {cap : Nat} {rs : List Row} (hx : IsR w a rs) (hl : rs.length + szR rs ≤ 1048576) (hk : Tk.tok n c rs = true) :
    Calls Tryz.prog 8 #[.agg #[.int .i64 n, .int .i64 c, .slice a rs.length cap]] w fun e w' => e = .returned (.bool true) ∧ Below w.heap.size w w' := by
  have := Tk.itab w n c a cap rs hx hl
  rwa [hk] at this
theorem r_text {w : World} {n c : Int} {a : Option Addr} {cap : Nat} {rs : List Row} {s : ByteArray} (hx : IsR w a rs) (hl : rs.length + szR rs ≤ 1048576) (hT : Nu.Tab w) (hk : Tk.tok n c rs = true) (hs : Tt.ttext rs = s.data.toList) :
    Calls Tryz.prog 9 #[.agg #[.int .i64 n, .int .i64 c, .slice a rs.length cap]] w fun e w' => e = .returned (.string s) ∧ Below w.heap.size w w' := by
  have := Tt.ittext w n c a cap rs hx hl hT
  have e : (⟨(Tt.tabtext n c rs).toArray⟩ : ByteArray) = s := by
    unfold Tt.tabtext
    rw [if_pos hk, hs]
  rwa [e] at this
theorem r_labels {w : World} {n c : Int} {a : Option Addr} {cap : Nat} {rs : List Row} (hx : IsR w a rs) (hl : rs.length + szR rs ≤ 1048576) (hk : Tk.tok n c rs = true) :
    Calls Tryz.prog 10 #[.agg #[.int .i64 n, .int .i64 c, .slice a rs.length cap]] w fun e w' => ∃ p q, e = .returned (.slice p rs.length q) ∧ Below w.heap.size w w' := by
  refine (Co.ilabels w n c a cap rs hx hl).mono ?_
  rintro e w' ⟨v, rfl, ho, hB⟩
  obtain ⟨p, q, rfl, _⟩ := ho.isl
  refine ⟨p, q, ?_, hB⟩
  have : (Co.labels n c rs).length = rs.length := by unfold Co.labels; rw [if_pos hk, Co.labs_length]
  rw [this]

/-! ### THE WALK: the Go text returns true, and writes nothing that was there -/
set_option maxRecDepth 100000 in
set_option maxHeartbeats 4000000 in
theorem walk (w : World) (a0 : Option Addr) (len0 cap0 : Nat) (z0 : List Int) (w0 : IsRow .u8 w a0 len0 cap0 z0) (hL : laidMetH Tryz.prog Rows.fnTableReadRow.laid w) (hsh : w.ShapedOpen Tryz.prog) :
    Calls Tryz.prog 3 #[.slice a0 len0 cap0] w fun e w' => e = .returned (.bool true) ∧ Below w.heap.size w w' := by
  have hV : Re.Vars w := Vr.vars_of hL hsh
  have hE := Vr.hand_of hL
  have hEb := World.block_lt_of_cell? w _ hE
  have HE : Hid (∀ w' : World, Below w.heap.size w w' → w'.cell? ⟨0, 0, none⟩ = some (.iface 97 (.agg #[.pointer (some ⟨9, 44, none⟩)]))) := fun w' h => (h.cell (by exact hEb)).trans hE
  have HV : Hid (∀ w' : World, Below w.heap.size w w' → Re.Vars w') := fun w' h => hV.below h
  clear hL hsh hV hE hEb
  have key : ∀ (a : Option Addr) (len cap : Nat) (z : List Int), IsRow .u8 w a len cap z → Cu.Bytes w w.heap.size a len := by
    intro a len cap z h
    rcases h with ⟨rfl, rfl, rfl, rfl⟩ | ⟨x, rfl, hl, _, hz, hc, hw⟩
    · exact .inl rfl
    · exact Cu.bytes_of _ (Nat.le_refl _) hl hz hc hw
  have B0 := key _ _ _ _ w0
  clear key w0
  by_cases hb0 : 1048576 < len0
  · have e0 : decide (1048576 < len0) = true := by simpa using hb0
    go_enter Tryz.func3, Tryz.ntmps3
    go_wp2_with (go_at_call 4; refine (Cu.big_any _ _ _ _).mono ?_; rintro e w' ⟨rfl, hw⟩; subst w')
    go_ret
    exact ⟨rfl, Below.refl _ _⟩
  have e0 : decide (1048576 < len0) = false := by simpa using hb0
  go_enter Tryz.func3, Tryz.ntmps3
  go_wp2_with (go_at_call 4; refine (Cu.big_any _ _ _ _).mono ?_; rintro e w' ⟨rfl, hw⟩; subst w')
  refine (Dq.drawTableRead (fun w b K hc hK => Db.anyTable_any w b K hc hK) _ _ _ _ B0 (by omega)).mono ?_
  rintro e w1 ⟨n, c, s, rfl, hss, hB⟩
  have hs1 : s.size ≤ 1048576 := by omega
  have bs := Dq.cell2_new w1 (.int .i64 n) (.int .i64 c) 25
  have hA := al (w := w1) (.cells #[.int .i64 n, .int .i64 c] 25)
  have hB := hB.trans (hA.mono hB.size)
  clear B0 hb0 e0 hA hss
  go_wp2_with fail
  refine (Rd.iread _ n c s hs1 (HV.out _ hB) (HE.out _ hB)).mono ?_
  rintro e w2 ⟨he, hB2⟩
  have bs := bs.below hB2
  have hB := hB.trans (hB2.mono hB.size)
  have hsz := Su.tread_sz n c s.data.toList
  have hbk := fun h => Rt.tread_back (n := n) (c := c) (t := s.data.toList) h
  obtain ⟨T, hT⟩ : ∃ T, Pc.tread n c s.data.toList = T := ⟨_, rfl⟩
  have HT : Hid (Pc.tread n c s.data.toList = T) := hT
  rw [hT] at he hsz hbk
  obtain ⟨l, b, rs⟩ := T
  clear hT hB2
  rcases he with ⟨h0, v, rfl, ho⟩ | ⟨h0, rfl⟩
  · obtain rfl : b = 0 := h0
    obtain ⟨hk, htx, hl0⟩ := hbk rfl
    have hk : Tk.tok n c rs = true := hk
    have htx : Tt.ttext rs = s.data.toList := htx
    have hsz : rs.length + szR rs ≤ 200000 := hsz
    have HK : Hid (Tk.tok n c rs = true) := hk
    have HX : Hid (Tt.ttext rs = s.data.toList) := htx
    have hl : rs.length + szR rs ≤ 1048576 := by omega
    have ho : OwnT w2 _ w2.heap.size v rs := ho
    obtain ⟨au, cu, rfl, iu⟩ := ho.isr
    have bt := box3_new w2 (.int .i64 n) (.int .i64 c) (.slice au rs.length cu) 30
    have hA := al (w := w2) (.cells #[.int .i64 n, .int .i64 c, .slice au rs.length cu] 30)
    have bs := bs.below hA
    have iu := iu.below hA
    have hB := hB.trans (hA.mono hB.size)
    clear hk htx hbk ho hA hl0
    obtain ⟨_, s0, s1, _, _⟩ := id bs
    go_wp2_with fail
    refine (Sp.sread _ n c s hs1).mono ?_
    rintro e w3 ⟨he, hB3⟩
    rw [HT.out] at he
    rcases he with ⟨_, v3, rfl, ho⟩ | ⟨h1, _⟩
    · have bt := bt.below hB3
      have iu := iu.below hB3
      have hB := hB.trans (hB3.mono hB.size)
      have ho : OwnT w3 _ w3.heap.size v3 rs := ho
      obtain ⟨a3, c3, rfl, _⟩ := ho.isr
      have hA := al (w := w3) (.cells #[.int .i64 n, .int .i64 c, .slice a3 rs.length c3] 30)
      have bt := bt.below hA
      have iu := iu.below hA
      have hB := hB.trans (hA.mono hB.size)
      clear hA hB3 ho bs s0 s1
      obtain ⟨W, hW⟩ : ∃ W, w3.alloc (.cells #[.int .i64 n, .int .i64 c, .slice a3 rs.length c3] 30) = W := ⟨_, rfl⟩
      have HW : Hid (w3.alloc (.cells #[.int .i64 n, .int .i64 c, .slice a3 rs.length c3] 30) = W) := hW
      rw [hW] at bt iu hB
      clear hW
      go_wp2_with fail
      rw [HW.out]
      clear HW
      have bt := bt.below tb_drew
      have iu := iu.below tb_drew
      have hB := hB.trans (tb_drew.mono hB.size)
      have HBT : Hid (Box3 W.drew w2.heap.size (.int .i64 n) (.int .i64 c) (.slice au rs.length cu)) := bt
      have HIU : Hid (IsR W.drew au rs) := iu
      have HBB : Hid (Below w.heap.size w W.drew) := hB
      obtain ⟨_, ⟨t0, t1, t2⟩, _⟩ := id bt
      have ht : (s.toList == s.toList) = true := Ls.tl_eq rfl
      clear bt iu hB hsz
      go_region_held (fun w' => w'.cell? ⟨w2.heap.size, 0, none⟩ = some (.int .i64 n) ∧ w'.cell? ⟨w2.heap.size, 1, none⟩ = some (.int .i64 c) ∧ w'.cell? ⟨w2.heap.size, 2, none⟩ = some (.slice au rs.length cu)) (go_keep) (first
        | (go_at_call 8; refine (r_ok HIU.out hl HK.out).mono ?_; rintro e w4 ⟨rfl, hB4⟩; have HBT4 : Hid (Box3 w4 w2.heap.size (.int .i64 n) (.int .i64 c) (.slice au rs.length cu)) := HBT.out.below hB4; have HIU4 : Hid (IsR w4 au rs) := HIU.out.below hB4; have HBB4 : Hid (Below w.heap.size w w4) := HBB.out.trans (hB4.mono HBB.out.size); obtain ⟨_, ⟨u0, u1, u2⟩, _⟩ := id HBT4.out; clear hB4)
        | (go_at_call 9; refine (r_text HIU4.out hl (HV.out _ HBB4.out).1 HK.out HX.out).mono ?_; rintro e w5 ⟨rfl, hB5⟩; have HBT5 : Hid (Box3 w5 w2.heap.size (.int .i64 n) (.int .i64 c) (.slice au rs.length cu)) := HBT4.out.below hB5; have HIU5 : Hid (IsR w5 au rs) := HIU4.out.below hB5; have HBB5 : Hid (Below w.heap.size w w5) := HBB4.out.trans (hB5.mono HBB4.out.size); obtain ⟨_, ⟨v0, v1, v2⟩, _⟩ := id HBT5.out; clear hB5)
        | (go_at_call 10; refine (r_labels HIU5.out hl HK.out).mono ?_; rintro e w6 ⟨p, q, rfl, hB6⟩; have HBT6 : Hid (Box3 w6 w2.heap.size (.int .i64 n) (.int .i64 c) (.slice au rs.length cu)) := HBT5.out.below hB6; have HBB6 : Hid (Below w.heap.size w w6) := HBB5.out.trans (hB6.mono HBB5.out.size); obtain ⟨_, ⟨x0, x1, x2⟩, _⟩ := id HBT6.out; clear hB6))
      all_goals
        go_wp2
        go_ret
        exact ⟨rfl, HBB6.out⟩
    · exact absurd rfl h1
  · have h0 : ¬ b = 0 := h0
    have hA := al (w := w2) (.cells #[.int .i64 0, .int .i64 0, .slice none 0 0] 30)
    have bt := box3_new w2 (.int .i64 0) (.int .i64 0) (.slice none 0 0) 30
    have bs := bs.below hA
    have hB := hB.trans (hA.mono hB.size)
    clear hbk hsz hA
    obtain ⟨_, s0, s1, _, _⟩ := id bs
    go_wp2_with fail
    refine (Sp.sread _ n c s hs1).mono ?_
    rintro e w3 ⟨he, hB3⟩
    rw [HT.out] at he
    rcases he with ⟨h1, _⟩ | ⟨_, rfl⟩
    · exact absurd h1 h0
    · have bt := bt.below hB3
      have hB := hB.trans (hB3.mono hB.size)
      have hA := al (w := w3) (.cells #[.int .i64 0, .int .i64 0, .slice none 0 0] 30)
      have bt := bt.below hA
      have hB := hB.trans (hA.mono hB.size)
      obtain ⟨_, ⟨t0, t1, t2⟩, _⟩ := id bt
      clear hA hB3 bs s0 s1
      have hb' : decide (b = 0) = false := decide_eq_false h0
      go_wp2
      go_ret
      exact ⟨rfl, hB⟩

/-! ### THE ROW's STEP -/

set_option maxRecDepth 100000 in
theorem lifted (os : Os) (started : os.Started) (H : Type) (enc : TypeId × Value → H) :
    ReturnsInHanded {} Tryz.checked os 3 .any (fun w args => (Rows.fnTableReadSpec.pre enc Tryz.prog Tryz.f3 [] false w args ∧ laidMetH Tryz.prog Rows.fnTableReadRow.laid w) ∧ sizedMet enc Tryz.prog Tryz.f3 (OpenSpec.ofChange Rows.fnTableReadSpec) false w args)
      (Rows.fnTableReadSpec.post enc Tryz.prog Tryz.f3 false true false false) := by
  refine wrap_listed (C := Tryz.checked) (X := fun w _ => laidMetH Tryz.prog Rows.fnTableReadRow.laid w) (fun _ _ _ hh h => h.of_heap hh) own started (by kernel_rfl) Tryz.func3
    (ChangeSpec.witness_shaped (enc := enc) (C := Tryz.checked) (os := os) (X := fun w _ => laidMetH Tryz.prog Rows.fnTableReadRow.laid w) false (Vr.wit os) #[.slice none 0 0] 8 (Vr.wit_os os) (World.shaped_of_ZipB (by kernel_rfl) (by kernel_rfl)) (by kernel_rfl) (by kernel_rfl) (by kernel_rfl) (Vr.wit_met os _)) ?_
  intro W base args ds gs before hval0 hW hL hsh
  have hval : ∀ (j : Nat) t v, Tryz.f3.params[j]? = some t → args[j]? = some v → Value.okWide Tryz.prog W .any base t v := hval0
  have hW' := hW
  obtain ⟨p, q, hA0, hV, rfl, hfz, hnd⟩ := hW
  have hA : DataW.TrodAll enc Tryz.prog W 0 (fun _ => true) true Tryz.f3.params.toList args.toList ds p := hA0
  rw [Tryz.params3] at hA hval
  obtain ⟨v0, vs0, d0, ds0, p0, q0, hargs, rfl, rfl, h0, r0⟩ := trodAll_cons hA
  obtain ⟨rfl, rfl, rfl⟩ := trodAll_nil r0
  obtain rfl : args = #[v0] := by cases args; simp_all
  obtain ⟨rfl, rfl⟩ := trodVars_none hV
  obtain ⟨a0, len0, cap0, rfl⟩ := okWide_slice Tryz.underlying22 (hval 0 22 v0 rfl rfl)
  have k0 := h0
  have lt0 : ∀ x ∈ p0, x.block < W.heap.size := by obtain ⟨m, hm⟩ := k0; exact DataW.trod_lt m _ _ _ hm
  obtain ⟨z0, w0⟩ : ∃ zs, IsRow .u8 W a0 len0 cap0 zs := by
    obtain ⟨fuel, hf⟩ := h0
    rcases open_ints Tryz.underlying22 Tryz.underlying5 (by kernel_rfl) hf with ⟨hcs, _⟩ | ⟨x, l, c, zs, hcs, _, hl, hm, hz, _, hcell, hwz⟩
    · simp [Value.cells] at hcs
      obtain ⟨rfl, rfl, rfl⟩ := hcs
      exact ⟨[], .inl ⟨rfl, rfl, rfl, rfl⟩⟩
    · simp [Value.cells] at hcs
      obtain ⟨rfl, rfl, rfl⟩ := hcs
      exact ⟨zs, .inr ⟨_, rfl, hl, hm, by simpa using hz, hcell, hwz⟩⟩
  clear hA0 hval0
  refine (walk W a0 len0 cap0 z0 w0 hL hsh).mono fun e W' ⟨he, bel⟩ => ?_
  subst he
  exact ⟨_, rfl, _, _, _, [], _, [], hW', trodAll_mk1 (shut_bool Tryz.underlying4 _), (trodAll_cons_mk (Below.trod laidOut (by kernel_rfl) (of_decide_eq_true (by kernel_rfl)) k0 bel lt0) trodAll_mk0), rfl, bel.frame _, fun h => by cases h⟩

theorem over : Rows.fnTableReadRow.holds Tryz.pinned (OpenSpec.ofChange Rows.fnTableReadSpec) :=
  OpenClaim.holds_of_wide 3 Tryz.f3 rfl rfl rfl rfl rfl rfl rfl ⟨rfl, rfl, rfl, rfl, rfl⟩ rfl rfl rfl rfl rfl (by kernel_rfl) Tryz.func3 (by kernel_rfl)
    (of_decide_eq_true (by kernel_rfl)) (by unfold Func.isWrapper; first | (rw [if_pos (by decide +kernel)]; kernel_rfl) | (rw [if_neg (by decide +kernel)]; exact ⟨rfl, rfl⟩))
    (fun os started H enc _ => lifted os started H enc)

/-- THE STATEMENT -/
theorem proved : Rows.FnTableReadCardSaid :=
  Claim7.holds_tied_plain_at .later [] [.data, .data, .data, .data, .handle, .sentinel, .sentinel, .pinned] true (true, "c8d11aaa4ed092735e7378909f47e81b1fb77759a4fba884942db3f95c224037") true
    over (fun _ h => by cases h) (by kernel_rfl) (fun _ h => by cases h) fnTableRead_row_tie rfl ⟨rfl, rfl⟩ (by kernel_rfl) rfl
    (fun f fn hf hfn => by
      obtain rfl : f = 3 := Option.some.inj ((show Tryz.prog.funcNamed Rows.fnTableReadRow.func = some 3 by kernel_rfl).symm.trans hf) |>.symm
      obtain rfl : fn = Tryz.f3 := (Option.some.inj (Tryz.func3.symm.trans hfn)).symm
      exact ⟨by kernel_rfl, fun j t ht => by
        rw [Tryz.params3] at ht
        have hm : t ∈ [22] := by simpa using Array.mem_of_getElem? ht
        have hall : ([22].all fun u => !Tryz.prog.wantsStandIn u) = true := by kernel_rfl
        exact (show Tryz.prog.wantsStandIn t = false by simpa using List.all_eq_true.1 hall t hm)⟩)
    (by kernel_rfl)
#print axioms proved
end Go.Proofs.YtajfldjhbgilmaaGreatDoor.fnTableRead
