/-
  Proved here: the Go function laws.FnFixText, called with any arguments that can be read, returns true, and each argument reads afterwards as it read before ('Rows.FnFixTextCardSaid'): the row lists package-level variables of Go's library (see the row) with what they hold; the card ties that to the program's text (the tie is given). The cards tie the listed variables to the pruned copy of the project alone.
-/
import Derived.Test.YtjiplokdamkccaaDoorRows
import Derived.Test.YtjiplokdamkccaaDoorTie
import Derived.Test.YtjiplokdamkccaaDoorCards
import Derived.WalkKit
import Derived.ProofKit
import Derived.OpenShut
import Derived.ShutString
import Derived.ChangeOld
import Derived.Below
import Derived.LaidMore
import Derived.Stop.Joined
import Derived.SevenTiedAt
import Derived.Test.YtjiplokdamkccaaDoorWrap
import Derived.Test.YtjiplokdamkccaaDoorRead
import Derived.Test.YtjiplokdamkccaaDoorDrawT
import Derived.Lay
import Derived.Lib.LaidTab
import Derived.Stop.LaidErr
namespace Go.Proofs.YtjiplokdamkccaaDoor.fnFixText
open Go.ChangeShapes Go.WideShapes Go.ChangeAt Go.RowKit
open Go.ChangeMaps (open_string shut_string)
set_option linter.unusedVariables false

theorem own : ownKnob Tryd.prog.godebug = none := by kernel_rfl
theorem laidOut : laidOutB Tryd.prog = true := by kernel_rfl

/-- WHAT THE WALK IS TOLD OF A SLICE OF BYTES THAT CAME IN. -/
def IsRow (k : IntKind) (w : World) (a : Option Addr) (len cap : Nat) (zs : List Int) : Prop :=
  (a = none ∧ len = 0 ∧ cap = 0 ∧ zs = []) ∨
  ∃ x, a = some x ∧ len ≤ cap ∧ cap ≤ maxLen ∧ zs.length = cap ∧ (∀ i, i < zs.length → w.cell? (x.add i) = some (.int k (zs.getD i 0))) ∧ ∀ n ∈ zs, (Lit.int k n).wf = true

theorem star : "*" ++ "errors.errorString" = "*errors.errorString" := by decide
theorem rowErr (u : TypeId) (h : Tryd.prog.typeName? 3 u = some "*errors.errorString") : u = 82 :=
  typeName_ptr_named (nm := "errors.errorString") (by rw [star]; kernel_rfl) (by kernel_rfl) (by decide) u (by rw [star]; exact h)
set_option maxHeartbeats 4000000 in
theorem second (w0 w : World) (a : Option Addr) (len cap : Nat) (hB : Cu.Bytes w0 w0.heap.size a len) (hl : (len : Int) ≤ 1048576) (hb : Below w0.heap.size w0 w) : Cu.Bytes w w.heap.size a len :=
  hB.below hb.size hb.size (fun k hk => hb.block k hk)

/-! ### THE WALK: the Go text returns true, and writes nothing that was there -/
set_option maxHeartbeats 4000000 in
theorem walk (w : World) (a0 : Option Addr) (len0 cap0 : Nat) (z0 : List Int) (w0 : IsRow .u8 w a0 len0 cap0 z0) (hL : laidMetH Tryd.prog Rows.fnFixTextRow.laid w) (hsh : w.ShapedOpen Tryd.prog) :
    Calls Tryd.prog 3 #[.slice a0 len0 cap0] w fun e w' => e = .returned (.bool true) ∧ Below w.heap.size w w' := by
  have hV : Re.Vars w := by
    have hM := Tryd.laysM154.s1_3 w hsh
    rw [MakeChecks.laidMetH_plain _ _ _ (by kernel_rfl)] at hL
    have hT : Nu.Tab w := Lib.tabIs_of_head Nu.gTab Nu.tTab Tryd.underlying94 Tryd.underlying64 (by kernel_rfl) (by kernel_rfl) (laidMet.tail (laidMet.tail hL))
    have hL4 := laidMet.tail (laidMet.tail (laidMet.tail (laidMet.tail hL)))
    obtain ⟨a0, s0, hv0, -, -, -⟩ := laid_sentinel hL4 Re.gER Re.tER Tryd.underlying37 rowErr Tryd.underlying82 Tryd.underlying84 rfl rfl Tryd.underlying9 (by kernel_rfl) (by kernel_rfl)
    obtain ⟨a1, s1, hv1, -, -, -⟩ := laid_sentinel (laidMet.tail hL4) Re.gES Re.tES Tryd.underlying37 rowErr Tryd.underlying82 Tryd.underlying84 rfl rfl Tryd.underlying9 (by kernel_rfl) (by kernel_rfl)
    exact ⟨hT, hM, ⟨_, _, hv1⟩, ⟨_, _, hv0⟩⟩
  have B0 : Cu.Bytes w w.heap.size a0 len0 := by
    rcases w0 with ⟨rfl, rfl, rfl, rfl⟩ | ⟨x, rfl, hl, _, hz, hc, hw⟩
    · exact .inl rfl
    · exact Cu.bytes_of _ (Nat.le_refl _) hl hz hc hw
  clear hL hsh w0
  by_cases hb0 : 1048576 < len0
  · have e0 : decide (1048576 < len0) = true := by simpa using hb0
    go_enter Tryd.func3, Tryd.ntmps3
    go_wp2_with (go_at_call 4; refine (Cu.big_any _ _ _ _).mono ?_; rintro e w' ⟨rfl, hw⟩; subst w')
    go_ret
    exact ⟨rfl, Below.refl _ _⟩
  · have e0 : decide (1048576 < len0) = false := by simpa using hb0
    go_enter Tryd.func3, Tryd.ntmps3
    go_wp2_with (go_at_call 4; refine (Cu.big_any _ _ _ _).mono ?_; rintro e w' ⟨rfl, hw⟩; subst w')
    refine (Dt.drawText _ _ _ _ B0 (by omega)).mono ?_
    rintro e w1 ⟨x, rfl, x0, x1, hB1⟩
    go_wp2_with fail
    refine (Tx.itext _ _ (hV.below hB1).1).mono ?_
    rintro e w2 ⟨rfl, hB2⟩
    have hB2' := hB1.trans (hB2.mono hB1.size)
    have tl : ∀ wx, Below w.heap.size w wx → Calls Tryd.prog 9 #[.slice a0 len0 cap0] wx fun e w' => ∃ s : ByteArray, e = .returned (.string s) ∧ s.size ≤ 1000 ∧ Below w.heap.size w w' := by
      intro wx hx
      refine (Dt.drawRead wx a0 len0 cap0 (second w wx _ _ cap0 B0 (by omega) hx) (by omega)).mono ?_
      rintro e w' ⟨s, rfl, hs, hb⟩
      exact ⟨s, rfl, hs, hx.trans (hb.mono hx.size)⟩
    have TL := Nu.hide tl
    clear tl hB2
    by_cases hf : Tx.fok x = true
    · have hlen := Re.ftext_len hf
      go_wp2_with (go_at_call 7; refine (Tx.sok_any _ _).mono ?_; rintro e w' ⟨rfl, hw⟩; subst w')
      refine (Re.iread ⟨(Tx.ftext x).toArray⟩ _ (by simp [ByteArray.size]; omega) (hV.below hB2')).mono ?_
      rintro e w3 ⟨he, hB3⟩
      have htx : Re.Text (ByteArray.mk (Tx.ftext x).toArray).data.toList := ⟨x, hf, by simp⟩
      obtain rfl : e = .returned (.tuple #[.int .i64 x, .bool true]) := by
        rcases he with ⟨_, h⟩ | ⟨h, _⟩
        · rw [h, show (ByteArray.mk (Tx.ftext x).toArray).data.toList = Tx.ftext x by simp, Re.guess_of hf]
        · exact absurd htx h
      have hB3' := hB2'.trans (hB3.mono hB2'.size)
      clear he htx hB3 hlen
      go_wp2_with fail
      refine ((Nu.unhide TL) _ hB3').mono ?_
      rintro e w4 ⟨t, rfl, ht, hB4⟩
      go_wp2_with fail
      refine (Re.iread t _ (by omega) (hV.below hB4)).mono ?_
      rintro e w5 ⟨he5, hB5⟩
      have hB5' := hB4.trans (hB5.mono hB4.size)
      by_cases hT : Re.Text t.data.toList
      · obtain rfl : e = .returned (.tuple #[.int .i64 (Re.guess t.data.toList), .bool true]) := by
          rcases he5 with ⟨_, h⟩ | ⟨h, _⟩
          · exact h
          · exact absurd hT h
        clear he5
        have hg := (Re.text_guess hT).2
        obtain ⟨g, hgg⟩ : ∃ g, Re.guess t.data.toList = g := ⟨_, rfl⟩
        rw [hgg] at hg ⊢
        have HG := Nu.hide hg
        have HGG := Nu.hide hgg
        clear hg hgg
        go_wp2_with fail
        refine (Re.sread t _ (by omega)).mono ?_
        rintro e w6 ⟨he6, hB6⟩
        have hB6' := hB5'.trans (hB6.mono hB5'.size)
        obtain rfl : e = .returned (.tuple #[.int .i64 g, .bool true]) := by
          rcases he6 with ⟨_, h⟩ | ⟨h, _⟩
          · rw [h, HGG.out]
          · exact absurd hT h
        clear he6
        go_wp2_with fail
        refine (Tx.itext _ _ (hV.below hB6').1).mono ?_
        rintro e w7 ⟨rfl, hB7⟩
        have hcmp : (Tx.ftext g == t.toList) = true := by rw [Re.blist, HG.out]; simp
        go_wp2
        go_ret
        exact ⟨rfl, hB6'.trans (hB7.mono hB6'.size)⟩
      · obtain rfl : e = .returned (.tuple #[.int .i64 0, .bool false]) := by
          rcases he5 with ⟨h, _⟩ | ⟨_, h⟩
          · exact absurd h hT
          · exact h
        clear he5
        go_wp2_with fail
        refine (Re.sread t _ (by omega)).mono ?_
        rintro e w6 ⟨he6, hB6⟩
        have hB6' := hB5'.trans (hB6.mono hB5'.size)
        obtain rfl : e = .returned (.tuple #[.int .i64 0, .bool false]) := by
          rcases he6 with ⟨h, _⟩ | ⟨_, h⟩
          · exact absurd h hT
          · exact h
        clear he6
        go_wp2
        go_ret
        exact ⟨rfl, hB6'⟩
    · have hf' : Tx.fok x = false := by simpa using hf
      have hnil : Tx.ftext x = [] := Re.ftext_no hf
      rw [hnil]
      clear hnil
      go_wp2_with (go_at_call 7; refine (Tx.sok_any _ _).mono ?_; rintro e w' ⟨rfl, hw⟩; subst w')
      refine ((Nu.unhide TL) _ hB2').mono ?_
      rintro e w4 ⟨t, rfl, ht, hB4⟩
      go_wp2_with fail
      refine (Re.iread t _ (by omega) (hV.below hB4)).mono ?_
      rintro e w5 ⟨he5, hB5⟩
      have hB5' := hB4.trans (hB5.mono hB4.size)
      by_cases hT : Re.Text t.data.toList
      · obtain rfl : e = .returned (.tuple #[.int .i64 (Re.guess t.data.toList), .bool true]) := by
          rcases he5 with ⟨_, h⟩ | ⟨h, _⟩
          · exact h
          · exact absurd hT h
        clear he5
        have hg := (Re.text_guess hT).2
        obtain ⟨g, hgg⟩ : ∃ g, Re.guess t.data.toList = g := ⟨_, rfl⟩
        rw [hgg] at hg ⊢
        have HG := Nu.hide hg
        have HGG := Nu.hide hgg
        clear hg hgg
        go_wp2_with fail
        refine (Re.sread t _ (by omega)).mono ?_
        rintro e w6 ⟨he6, hB6⟩
        have hB6' := hB5'.trans (hB6.mono hB5'.size)
        obtain rfl : e = .returned (.tuple #[.int .i64 g, .bool true]) := by
          rcases he6 with ⟨_, h⟩ | ⟨h, _⟩
          · rw [h, HGG.out]
          · exact absurd hT h
        clear he6
        go_wp2_with fail
        refine (Tx.itext _ _ (hV.below hB6').1).mono ?_
        rintro e w7 ⟨rfl, hB7⟩
        have hcmp : (Tx.ftext g == t.toList) = true := by rw [Re.blist, HG.out]; simp
        go_wp2
        go_ret
        exact ⟨rfl, hB6'.trans (hB7.mono hB6'.size)⟩
      · obtain rfl : e = .returned (.tuple #[.int .i64 0, .bool false]) := by
          rcases he5 with ⟨h, _⟩ | ⟨_, h⟩
          · exact absurd h hT
          · exact h
        clear he5
        go_wp2_with fail
        refine (Re.sread t _ (by omega)).mono ?_
        rintro e w6 ⟨he6, hB6⟩
        have hB6' := hB5'.trans (hB6.mono hB5'.size)
        obtain rfl : e = .returned (.tuple #[.int .i64 0, .bool false]) := by
          rcases he6 with ⟨h, _⟩ | ⟨_, h⟩
          · exact absurd h hT
          · exact h
        clear he6
        go_wp2
        go_ret
        exact ⟨rfl, hB6'⟩

/-! ### THE ROW's STEP -/

set_option maxRecDepth 100000 in
theorem lifted (os : Os) (started : os.Started) (H : Type) (enc : TypeId × Value → H) :
    ReturnsInHanded {} Tryd.checked os 3 .any (fun w args => (Rows.fnFixTextSpec.pre enc Tryd.prog Tryd.f3 [] false w args ∧ laidMetH Tryd.prog Rows.fnFixTextRow.laid w) ∧ sizedMet enc Tryd.prog Tryd.f3 (OpenSpec.ofChange Rows.fnFixTextSpec) false w args)
      (Rows.fnFixTextSpec.post enc Tryd.prog Tryd.f3 false true false false) := by
  refine wrap_listed (C := Tryd.checked) (X := fun w _ => laidMetH Tryd.prog Rows.fnFixTextRow.laid w) (fun _ _ _ hh h => h.of_heap hh) own started (by kernel_rfl) Tryd.func3
    (ChangeSpec.witness_shaped (enc := enc) (C := Tryd.checked) (os := os) (X := fun w _ => laidMetH Tryd.prog Rows.fnFixTextRow.laid w) false (World.laidAll Tryd.prog os Rows.fnFixTextRow.laid) #[.slice none 0 0] 8 (World.laidAll_os _ _ _) (World.shaped_of_ZipB (by kernel_rfl) (by kernel_rfl)) (by kernel_rfl) (by kernel_rfl) (by kernel_rfl) (by rw [MakeChecks.laidMetH_plain _ _ _ (by kernel_rfl)]; exact laidMet_laidAll _ (by kernel_rfl) (by kernel_rfl))) ?_
  intro W base args ds gs before hval0 hW hL hsh
  have hval : ∀ (j : Nat) t v, Tryd.f3.params[j]? = some t → args[j]? = some v → Value.okWide Tryd.prog W .any base t v := hval0
  have hW' := hW
  obtain ⟨p, q, hA0, hV, rfl, hfz, hnd⟩ := hW
  have hA : DataW.TrodAll enc Tryd.prog W 0 (fun _ => true) true Tryd.f3.params.toList args.toList ds p := hA0
  rw [Tryd.params3] at hA hval
  obtain ⟨v0, vs0, d0, ds0, p0, q0, hargs, rfl, rfl, h0, r0⟩ := trodAll_cons hA
  obtain ⟨rfl, rfl, rfl⟩ := trodAll_nil r0
  obtain rfl : args = #[v0] := by cases args; simp_all
  obtain ⟨rfl, rfl⟩ := trodVars_none hV
  obtain ⟨a0, len0, cap0, rfl⟩ := okWide_slice Tryd.underlying22 (hval 0 22 v0 rfl rfl)
  have k0 := h0
  have lt0 : ∀ x ∈ p0, x.block < W.heap.size := by obtain ⟨m, hm⟩ := k0; exact DataW.trod_lt m _ _ _ hm
  obtain ⟨z0, w0⟩ : ∃ zs, IsRow .u8 W a0 len0 cap0 zs := by
    obtain ⟨fuel, hf⟩ := h0
    rcases open_ints Tryd.underlying22 Tryd.underlying5 (by kernel_rfl) hf with ⟨hcs, _⟩ | ⟨x, l, c, zs, hcs, _, hl, hm, hz, _, hcell, hwz⟩
    · simp [Value.cells] at hcs
      obtain ⟨rfl, rfl, rfl⟩ := hcs
      exact ⟨[], .inl ⟨rfl, rfl, rfl, rfl⟩⟩
    · simp [Value.cells] at hcs
      obtain ⟨rfl, rfl, rfl⟩ := hcs
      exact ⟨zs, .inr ⟨_, rfl, hl, hm, by simpa using hz, hcell, hwz⟩⟩
  clear hA0 hval0
  refine (walk W a0 len0 cap0 z0 w0 hL hsh).mono fun e W' ⟨he, bel⟩ => ?_
  subst he
  exact ⟨_, rfl, _, _, _, [], _, [], hW', trodAll_mk1 (shut_bool Tryd.underlying4 _), (trodAll_cons_mk (Below.trod laidOut (by kernel_rfl) (of_decide_eq_true (by kernel_rfl)) k0 bel lt0) trodAll_mk0), rfl, bel.frame _, fun h => by cases h⟩

theorem over : Rows.fnFixTextRow.holds Tryd.pinned (OpenSpec.ofChange Rows.fnFixTextSpec) :=
  OpenClaim.holds_of_wide 3 Tryd.f3 rfl rfl rfl rfl rfl rfl rfl ⟨rfl, rfl, rfl, rfl, rfl⟩ rfl rfl rfl rfl rfl (by kernel_rfl) Tryd.func3 (by kernel_rfl)
    (of_decide_eq_true (by kernel_rfl)) (by unfold Func.isWrapper; first | (rw [if_pos (by decide +kernel)]; kernel_rfl) | (rw [if_neg (by decide +kernel)]; exact ⟨rfl, rfl⟩))
    (fun os started H enc _ => lifted os started H enc)

/-- THE STATEMENT -/
theorem proved : Rows.FnFixTextCardSaid :=
  Claim7.holds_tied_plain_at .later [] [.data, .data, .data, .data, .sentinel, .sentinel, .pinned] true (true, "66d97841900f421bc00a01319f88a889f2499b3dd6b5313f54f0faa8cbef7402") true
    over (fun _ h => by cases h) (by kernel_rfl) (fun _ h => by cases h) fnFixText_row_tie rfl ⟨rfl, rfl⟩ (by kernel_rfl) rfl
    (fun f fn hf hfn => by
      obtain rfl : f = 3 := Option.some.inj ((show Tryd.prog.funcNamed Rows.fnFixTextRow.func = some 3 by kernel_rfl).symm.trans hf) |>.symm
      obtain rfl : fn = Tryd.f3 := (Option.some.inj (Tryd.func3.symm.trans hfn)).symm
      exact ⟨by kernel_rfl, fun j t ht => by
        rw [Tryd.params3] at ht
        have hm : t ∈ [22] := by simpa using Array.mem_of_getElem? ht
        have hall : ([22].all fun u => !Tryd.prog.wantsStandIn u) = true := by kernel_rfl
        exact (show Tryd.prog.wantsStandIn t = false by simpa using List.all_eq_true.1 hall t hm)⟩)
    (by kernel_rfl)
#print axioms proved
end Go.Proofs.YtjiplokdamkccaaDoor.fnFixText
