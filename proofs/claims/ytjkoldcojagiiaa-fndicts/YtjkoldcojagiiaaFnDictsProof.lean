/-
  Proved here: the Go function laws.FnDicts, called with any arguments that can be read, returns true, and each argument reads afterwards as it read before ('Rows.FnDictsSaid', no condition beyond the row's own). The frame was written by the guide's program; the walk and its contracts are by hand.
-/
import Derived.Test.YtjkoldcojagiiaaRows
import Derived.WalkKit
import Derived.ProofKit
import Derived.OpenShut
import Derived.ShutString
import Derived.ChangeOld
import Derived.Below
import Derived.Test.YtjkoldcojagiiaaDrawV
import Derived.Test.YtjkoldcojagiiaaDictW
namespace Go.Proofs.Ytjkoldcojagiiaa.fnDicts
open Go.ChangeShapes Go.WideShapes Go.ChangeAt Go.RowKit
open Go.ChangeMaps (open_string shut_string)
set_option linter.unusedVariables false

theorem own : ownKnob Try.prog.godebug = none := by kernel_rfl
theorem laidOut : laidOutB Try.prog = true := by kernel_rfl

/-- WHAT THE WALK IS TOLD OF A SLICE OF INTEGERS THAT CAME IN: it is nil; or it leads to a row of 'cap' cells, the numbers 'zs' (the first 'len' are its elements, the rest its spare room), each fitting its kind. -/
def IsRow (k : IntKind) (w : World) (a : Option Addr) (len cap : Nat) (zs : List Int) : Prop :=
  (a = none ∧ len = 0 ∧ cap = 0 ∧ zs = []) ∨
  ∃ x, a = some x ∧ len ≤ cap ∧ cap ≤ maxLen ∧ zs.length = cap ∧ (∀ i, i < zs.length → w.cell? (x.add i) = some (.int k (zs.getD i 0))) ∧ ∀ n ∈ zs, (Lit.int k n).wf = true

/-! ### STEP 1: THE WALK: the Go text returns true, AND WRITES NOTHING THAT WAS THERE: 'Below w.heap.size w w'' (Derived/Below.lean: '.refl', '.alloc', '.drew', '.setCell' at a new block, '.trans'). Open each 'IsRow' by 'rcases' AHEAD of 'go_enter'; part every test ahead of the walk. -/
set_option maxHeartbeats 4000000 in
theorem walk (a0 : Option Addr) (len0 cap0 : Nat) (z0 : List Int) (w : World) (w0 : IsRow .u8 w a0 len0 cap0 z0) :
    Calls Try.prog 4 #[.slice a0 len0 cap0] w fun e w' => e = .returned (.bool true) ∧ Below w.heap.size w w' := by
  have B0 : Cu.Bytes w w.heap.size a0 len0 := by
    rcases w0 with ⟨rfl, rfl, rfl, rfl⟩ | ⟨x, rfl, hl, _, hz, hc, hw⟩
    · exact .inl rfl
    · exact Cu.bytes_of _ (Nat.le_refl _) hl hz hc hw
  clear w0
  by_cases hb0 : 1048576 < len0
  · have e0 : decide (1048576 < len0) = true := by simpa using hb0
    go_enter Try.func4, Try.ntmps4
    go_wp2_with (go_at_call 9; refine (Cu.big_any _ _ _ _).mono ?_; rintro e w' ⟨rfl, hw⟩; subst w')
    go_ret
    exact ⟨rfl, Below.refl _ _⟩
  have e0 : decide (1048576 < len0) = false := by simpa using hb0
  go_enter Try.func4, Try.ntmps4
  go_wp2_with (go_at_call 9; refine (Cu.big_any _ _ _ _).mono ?_; rintro e w' ⟨rfl, hw⟩; subst w')
  refine (Dw.drawDict _ _ _ _ B0 (by omega)).mono ?_
  rintro e w1 ⟨vw, ws, rfl, hwl, h3, ow, hB⟩
  have hz : ∀ j (h : j < ws.length), ws[j].size ≤ 1048576 := fun j h => by have := h3.at j h; omega
  obtain ⟨aw, cw, ew, iw⟩ := ow.iss
  subst ew
  have hdl := Wd.dictOf_len ws
  have HD : Hid (Wd.dictOf (Wd.dictOf ws) = Wd.dictOf ws) := Wd.dictOf_dictOf ws
  have hdz : ∀ j (h : j < (Wd.dictOf ws).length), (Wd.dictOf ws)[j].size ≤ 1048576 := fun j h => by
    have := h3 _ (Wd.dictOf_mem.1 (List.getElem_mem h)); omega
  have hin : ∀ k (hk : k < ws.length), Wd.fst ws[k] (Wd.dictOf ws) < (Wd.dictOf ws).length := fun k hk => Wd.fst_lt.2 (Wd.dictOf_mem.2 (List.getElem_mem hk))
  have hat : ∀ k (hk : k < ws.length), Wd.fst ws[k] (Wd.dictOf ws) ≤ k := fun k hk => Wd.dict_place hk
  obtain ⟨ds, hds⟩ : ∃ ds, Wd.dictOf ws = ds := ⟨_, rfl⟩
  rw [hds] at hdl HD
  have HDS : Hid (Wd.dictOf ws = ds) := hds
  have HZ : Hid (∀ j (h : j < ds.length), ds[j].size ≤ 1048576) := by rw [← hds]; exact hdz
  have HIN : Hid (∀ k (hk : k < ws.length), Wd.fst ws[k] ds < ds.length) := by rw [← hds]; exact hin
  have HAT : Hid (∀ k (hk : k < ws.length), Wd.fst ws[k] ds ≤ k) := by rw [← hds]; exact hat
  clear hdz hin hat hds
  -- d := impl.DictOf(words)
  go_wp2_with fail
  refine (Di.idict _ _ _ ws iw (by omega) hz).mono ?_
  rintro e w2 ⟨vd, rfl, od, hB2⟩
  rw [HDS.out] at od
  have ow := ow.below hB2
  have od := od.mono (base' := w.heap.size) hB.size
  have hB := hB.trans (hB2.mono hB.size)
  clear hB2 iw
  obtain ⟨ad, cd, ed, id⟩ := od.iss
  subst ed
  obtain ⟨_, _, ee, iw⟩ := ow.iss
  cases ee
  -- spec.DictOf(words)
  go_wp2_with fail
  refine (Di.sdict _ _ _ ws iw (by omega)).mono ?_
  rintro e w3 ⟨vs, rfl, os, hB3⟩
  rw [HDS.out] at os
  have ow := ow.below hB3
  have od := od.below hB3
  have hB := hB.trans (hB3.mono hB.size)
  clear hB3 iw id
  obtain ⟨as', cs, es, is'⟩ := os.iss
  subst es
  obtain ⟨_, _, ee, id⟩ := od.iss
  cases ee
  have hs := Ls.eqs_self ds
  go_wp2_with fail
  refine (Ls.same_bel _ _ _ _ _ ds ds id is' (by omega) (by omega)).mono ?_
  rintro e w4 ⟨rfl, hB4⟩
  have ow := ow.below hB4
  have od := od.below hB4
  have hB := hB.trans (hB4.mono hB.size)
  clear hB4 os is' id
  obtain ⟨_, _, ee, id⟩ := od.iss
  cases ee
  rw [hs]
  -- impl.DictOf(d)
  go_wp2_with fail
  refine (Di.idict _ _ _ ds id (by omega) HZ.out).mono ?_
  rintro e w5 ⟨v5, rfl, o5, hB5⟩
  rw [HD.out] at o5
  have ow := ow.below hB5
  have od := od.below hB5
  have hB := hB.trans (hB5.mono hB.size)
  clear hB5 id
  obtain ⟨a5, c5, e5, i5⟩ := o5.iss
  subst e5
  obtain ⟨_, _, ee, id⟩ := od.iss
  cases ee
  go_wp2_with fail
  refine (Ls.same_bel _ _ _ _ _ ds ds i5 id (by omega) (by omega)).mono ?_
  rintro e w6 ⟨rfl, hB6⟩
  have ow := ow.below hB6
  have od := od.below hB6
  have hB := hB.trans (hB6.mono hB.size)
  clear hB6 o5 i5 id
  rw [hs]
  obtain ⟨_, _, ee, id⟩ := od.iss
  cases ee
  obtain ⟨_, _, ee, iw⟩ := ow.iss
  cases ee
  clear hs HD HZ ow od hz
  go_wp2
  go_loopw [5, 6] (fun i _ wr => ∃ k : Nat, k ≤ ws.length ∧ i = .int .i64 k ∧ ∃ n, wr = w6.drewN n) (fun i _ _ => ws.length - (intOf i).toNat)
  case atStart => exact ⟨0, Nat.zero_le _, rfl, 0, rfl⟩
  case round =>
    obtain ⟨k, hk, rfl, n, rfl⟩ := hrel
    by_cases hlt : k < ws.length
    · have h1 := HIN.out k hlt
      have h2 := HAT.out k hlt
      have h4 := Wd.fst_at h1
      have hid : Wd.idOf ds ws[k] = (Wd.fst ws[k] ds : Int) := by unfold Wd.idOf; rw [if_pos h1]
      rcases iw with rfl | ⟨wb, wo, rfl, hwb, hwc⟩
      · simp at hlt
      have hcw := hwc k hlt
      obtain ⟨x, hx⟩ : ∃ x, ws[k] = x := ⟨_, rfl⟩
      have hi0 : Ls.IsS w6 ad ds := id
      rcases id with rfl | ⟨db, do', rfl, hdb, hdc⟩
      · simp at h1
      have hcd := hdc _ h1
      rw [h4] at hcd
      rw [hx] at h1 h2 hid hcw hcd
      clear hx hwc hdc h4
      obtain ⟨q, hq⟩ : ∃ q, Wd.fst x ds = q := ⟨_, rfl⟩
      rw [hq] at h1 h2 hid hcd
      clear hq
      have g1 : ¬ (q : Int) < 0 := by omega
      have g1' : decide ((q : Int) < 0) = false := by simp
      have g2' : decide ((ds.length : Int) ≤ (q : Int)) = false := by simp; omega
      have g3' : decide ((k : Int) < (q : Int)) = false := by simp; omega
      have g4 : (x.toList == x.toList) = true := Ls.tl_eq rfl
      go_wp2_with (go_at_call 18; refine (Di.iid0 _ _ _ ds x (by exact hi0) (by omega)).mono ?_; rintro e w' ⟨rfl, hw⟩; subst w'; rw [hid])
      go_quiet (fail)
      go_wp2
      go_roundw
      case rel => exact ⟨k + 1, by omega, by go_num, _, rfl⟩
      case measure => simp [intOf]; omega
    · have hle : decide ((ds.length : Int) ≤ (ws.length : Int)) = true := by simp; omega
      go_wp2
      go_ret
      exact ⟨by first | rfl | (rw [hle]; rfl), below_drewN hB _⟩

/-! ### THE ROW's STEP: WRITTEN OUT: LEAVE IT -/
set_option maxRecDepth 100000 in
theorem lifted (os : Os) (started : os.Started) (H : Type) (enc : TypeId × Value → H) :
    ReturnsInHanded {} Try.checked os 4 .any (Rows.fnDictsSpec.pre6 enc Try.prog Try.f4 Rows.fnDictsRow.domain false) (Rows.fnDictsSpec.post enc Try.prog Try.f4 false true false false) := by
  refine returnsInHanded_of_change (C := Try.checked) own started (by kernel_rfl) Try.func4
    (ChangeSpec.witness6 (enc := enc) (C := Try.checked) false ⟨#[], #[.slice none 0 0], []⟩ 8 (by kernel_rfl) (by kernel_rfl) (by kernel_rfl) (by kernel_rfl)) ?_
  intro W base args ds gs before hval0 hW hcnd _
  have hval : ∀ (j : Nat) t v, Try.f4.params[j]? = some t → args[j]? = some v → Value.okWide Try.prog W .any base t v := hval0
  have hW' := hW
  obtain ⟨p, q, hA0, hV, rfl, hfz, hnd⟩ := hW
  have hA : DataW.TrodAll enc Try.prog W 0 (fun _ => true) true Try.f4.params.toList args.toList ds p := hA0
  rw [Try.params4] at hA hval
  obtain ⟨v0, vs0, d0, ds0, p0, q0, hargs, rfl, rfl, h0, r0⟩ := trodAll_cons hA
  obtain ⟨rfl, rfl, rfl⟩ := trodAll_nil r0
  obtain rfl : args = #[v0] := by cases args; simp_all
  obtain ⟨rfl, rfl⟩ := trodVars_none hV
  obtain ⟨a0, len0, cap0, rfl⟩ := okWide_slice Try.underlying22 (hval 0 22 v0 rfl rfl)
  have k0 := h0
  have lt0 : ∀ x ∈ p0, x.block < W.heap.size := by obtain ⟨m, hm⟩ := k0; exact DataW.trod_lt m _ _ _ hm
  obtain ⟨z0, w0⟩ : ∃ zs, IsRow .u8 W a0 len0 cap0 zs := by
    obtain ⟨fuel, hf⟩ := h0
    rcases open_ints Try.underlying22 Try.underlying5 (by kernel_rfl) hf with ⟨hcs, _⟩ | ⟨x, l, c, zs, hcs, _, hl, hm, hz, _, hcell, hwz⟩
    · simp [Value.cells] at hcs
      obtain ⟨rfl, rfl, rfl⟩ := hcs
      exact ⟨[], .inl ⟨rfl, rfl, rfl, rfl⟩⟩
    · simp [Value.cells] at hcs
      obtain ⟨rfl, rfl, rfl⟩ := hcs
      exact ⟨zs, .inr ⟨_, rfl, hl, hm, by simpa using hz, hcell, hwz⟩⟩
  clear hA0 hval0
  refine (walk a0 len0 cap0 z0 W w0).mono fun e W' ⟨he, bel⟩ => ?_
  subst he
  exact ⟨_, rfl, _, _, _, [], _, [], hW', trodAll_mk1 (shut_bool Try.underlying4 _), (trodAll_cons_mk (Below.trod laidOut (by kernel_rfl) (of_decide_eq_true (by kernel_rfl)) k0 bel lt0) trodAll_mk0), rfl, bel.frame _, fun h => by cases h⟩

theorem over : Rows.fnDictsRow.holds Try.pinned (OpenSpec.ofChange Rows.fnDictsSpec) :=
  OpenClaim.holds_of_wide 4 Try.f4 rfl rfl rfl rfl rfl rfl rfl ⟨rfl, rfl, rfl, rfl, rfl⟩ rfl rfl rfl rfl rfl (by kernel_rfl) Try.func4 (by kernel_rfl)
    (of_decide_eq_true (by kernel_rfl)) (by unfold Func.isWrapper; first | (rw [if_pos (by decide +kernel)]; kernel_rfl) | (rw [if_neg (by decide +kernel)]; exact ⟨rfl, rfl⟩))
    (fun os started H enc _ => lifted os started H enc)

/-- THE STATEMENT -/
theorem proved : Rows.FnDictsSaid := over
#print axioms proved
end Go.Proofs.Ytjkoldcojagiiaa.fnDicts
