/-
  Proved here: the Go function laws.FnCtrEach, called with any arguments that can be read, returns true, and each argument reads afterwards as it read before ('Rows.FnCtrEachSaid', no condition beyond the row's own). The frame was written by the guide's program; the walk and its contracts are by hand.
-/
import Derived.Test.YthgjcplkladepaaRows
import Derived.WalkKit
import Derived.ProofKit
import Derived.OpenShut
import Derived.ShutString
import Derived.ChangeOld
import Derived.Below
import Derived.Test.YthgjcplkladepaaDrawV
import Derived.Test.YthgjcplkladepaaCtrL
import Derived.Test.YthgjcplkladepaaSiz
namespace Go.Proofs.Ythgjcplkladepaa.fnCtrEach
open Go.ChangeShapes Go.WideShapes Go.ChangeAt Go.RowKit
open Go.ChangeMaps (open_string shut_string)
set_option linter.unusedVariables false

theorem own : ownKnob Try.prog.godebug = none := by kernel_rfl
theorem laidOut : laidOutB Try.prog = true := by kernel_rfl

/-- WHAT THE WALK IS TOLD OF A SLICE OF INTEGERS THAT CAME IN: it is nil; or it leads to a row of 'cap' cells, the numbers 'zs' (the first 'len' are its elements, the rest its spare room), each fitting its kind. -/
def IsRow (k : IntKind) (w : World) (a : Option Addr) (len cap : Nat) (zs : List Int) : Prop :=
  (a = none ∧ len = 0 ∧ cap = 0 ∧ zs = []) ∨
  ∃ x, a = some x ∧ len ≤ cap ∧ cap ≤ maxLen ∧ zs.length = cap ∧ (∀ i, i < zs.length → w.cell? (x.add i) = some (.int k (zs.getD i 0))) ∧ ∀ n ∈ zs, (Lit.int k n).wf = true

/-! ### STEP 1: THE WALK: the Go text returns true, AND WRITES NOTHING THAT WAS THERE: 'Below w.heap.size w w'' (Derived/Below.lean: '.refl', '.alloc', '.drew', '.setCell' at a new block, '.trans'). Open each 'IsRow' by 'rcases' AHEAD of 'go_enter'; part every test ahead of the walk. -/
set_option maxRecDepth 100000 in
set_option maxHeartbeats 40000000 in
theorem walk (a0 : Option Addr) (len0 cap0 : Nat) (z0 : List Int) (w : World) (w0 : IsRow .u8 w a0 len0 cap0 z0) :
    Calls Try.prog 5 #[.slice a0 len0 cap0] w fun e w' => e = .returned (.bool true) ∧ Below w.heap.size w w' := by
  have B0 : Cu.Bytes w w.heap.size a0 len0 := by
    rcases w0 with ⟨rfl, rfl, rfl, rfl⟩ | ⟨x, rfl, hl, _, hz, hc, hw⟩
    · exact .inl rfl
    · exact Cu.bytes_of _ (Nat.le_refl _) hl hz hc hw
  clear w0
  by_cases hb0 : 1048576 < len0
  · have e0 : decide (1048576 < len0) = true := by simpa using hb0
    go_enter Try.func5, Try.ntmps5
    go_wp2_with (go_at_call 9; refine (Cu.big_any _ _ _ _).mono ?_; rintro e w' ⟨rfl, hw⟩; subst w')
    go_ret
    exact ⟨rfl, Below.refl _ _⟩
  have e0 : decide (1048576 < len0) = false := by simpa using hb0
  go_enter Try.func5, Try.ntmps5
  go_wp2_with (go_at_call 9; refine (Cu.big_any _ _ _ _).mono ?_; rintro e w' ⟨rfl, hw⟩; subst w')
  refine (Dw.drawAll _ _ _ _ B0 (by omega)).mono ?_
  rintro e w1 ⟨vw, vl, vp, ws, ls, ps, p, rfl, hwl, h3, hll, hpl, ow, ol, op, hB⟩
  have hz : ∀ j (h : j < ws.length), ws[j].size ≤ maxLen := fun j h => by have := h3.at j h; unfold maxLen; omega
  obtain ⟨aw, cw, ew, iw⟩ := ow.iss
  subst ew
  obtain ⟨al, cl, el, il⟩ := ol.isl
  subst el
  obtain ⟨ap, cp, ep, hcap, ip⟩ := Tb.isl_cap op
  subst ep
  -- list, ok := impl.CtrAll
  go_wp2_with fail
  refine (Ct.iall _ _ _ _ _ _ _ ws ls ps p iw il ip (by omega) (by omega) (by omega) hz).mono ?_
  rintro e w2 ⟨vg, rfl, og, hB2⟩
  have iw := iw.below hB2
  have il := il.below hB2
  have ip := ip.below hB2
  have og := og.mono (base' := w.heap.size) hB.size
  have hB := hB.trans (hB2.mono hB.size)
  clear hB2 ow ol op
  -- want, must := spec.CtrAll
  go_wp2_with fail
  refine (Ct.sall _ _ _ _ _ _ _ ws ls ps p iw il ip (by omega) (by omega) (by omega)).mono ?_
  rintro e w3 ⟨vs, rfl, os, hB3⟩
  have iw := iw.below hB3
  have il := il.below hB3
  have ip := ip.below hB3
  have og := og.below hB3
  have hB := hB.trans (hB3.mono hB.size)
  clear hB3
  have hcl := Ct.cAll_le ws ls ps p
  obtain ⟨rs, hrs⟩ : ∃ rs, Ct.cAll ws ls ps p = rs := ⟨_, rfl⟩
  rw [hrs] at og os hcl
  obtain ⟨ag, cg, eg, ig⟩ := og.isl
  subst eg
  obtain ⟨as', cs, es, is'⟩ := os.isl
  subst es
  have hs := Li.eqs_self rs
  cases ho : Ct.ord ws.length ls ps p
  · have hr0 : rs = [] := by rw [← hrs, Ct.cAll_no ho]
    subst hr0
    clear hrs
    go_wp2_with (go_at_call 20; refine (Li.same_bel _ _ _ _ _ [] [] ig is' (by simp) (by simp)).mono ?_; rintro e w4 ⟨rfl, hB4⟩; rw [hs])
    go_ret
    exact ⟨rfl, hB.trans (hB4.mono hB.size)⟩
  obtain ⟨hr, hpn, hpk⟩ := Ct.ord_iff.1 ho
  have hso := Ct.allN_some (ls := ls) (p := p) hpk hpn
  rw [← Ct.cAll_yes ho, hrs] at hso
  have HPN : Hid (ps.length = ws.length) := hpn
  have HRL : Hid (rs.length = ws.length) := hso.1
  have HSO : Hid (∀ q (hq : q < ps.length), rs[ps[q].toNat]? = some (Ct.atNum ws ls ps q p)) := fun q hq => hso.2 q hq (Nat.zero_le _) hq
  clear hpn hso hrs hr
  go_wp2_with fail
  refine (Li.same_bel _ _ _ _ _ rs rs ig is' (by omega) (by omega)).mono ?_
  rintro e w4 ⟨rfl, hB4⟩
  rw [hs]
  have iw := iw.below hB4
  have il := il.below hB4
  have ip := ip.below hB4
  have ig := ig.below hB4
  have hB := hB.trans (hB4.mono hB.size)
  clear hB4 og os is' hs
  go_wp2
  go_loopw [11] (fun i wr => ∃ k : Nat, k ≤ ps.length ∧ i = .int .i64 k ∧ Below w4.heap.size w4 wr) (fun i _ => ps.length - (intOf i).toNat)
  case atStart => exact ⟨0, Nat.zero_le _, rfl, Below.refl _ _⟩
  case round =>
    obtain ⟨k, hk, rfl, hBr⟩ := hrel
    by_cases hlt : k < ps.length
    · have iw := iw.below hBr
      have il := il.below hBr
      have ip := ip.below hBr
      have ig := ig.below hBr
      have hc := Ct.cOk_yes (k := (k : Int)) ho ⟨by omega, by omega⟩
      have hn := Ct.cNum_yes hc
      rw [show ((k : Int)).toNat = k by omega] at hn
      have hrng := hpk.rng k hlt
      have hjr : ps[k].toNat < rs.length := by have := HPN.out; have := HRL.out; omega
      have hval := HSO.out k hlt
      rw [List.getElem?_eq_getElem hjr] at hval
      have hval := Option.some.inj hval
      rw [← hn] at hval
      obtain ⟨x, hx⟩ : ∃ x, ps[k] = x := ⟨_, rfl⟩
      obtain ⟨y, hy⟩ : ∃ y, Ct.cNum ws ls ps (k : Int) p = y := ⟨_, rfl⟩
      have hyy : (y != y) = false := by simp
      go_wp2_with fail
      refine (Ct.iat _ _ _ _ _ _ _ ws ls ps _ p iw il ip (by omega) (by omega) (by omega) hcap hz).mono ?_
      rintro e w5 ⟨rfl, hB5⟩
      have ip := ip.below hB5
      have ig := ig.below hB5
      rcases ip with h0 | ⟨pb, po, rfl, hpb, hpc⟩
      · subst h0; simp at hlt
      rcases ig with h0 | ⟨gb, go', rfl, hgb, hgc⟩
      · subst h0; simp at hjr
      have hcp := hpc k hlt
      have hcg := hgc _ hjr
      rw [hval] at hcg
      rw [hc, hy]
      rw [hx] at hcp hcg hrng hjr
      rw [hy] at hcg
      have hBr5 := hBr.trans (hB5.mono hBr.size)
      clear hpc hgc hval hx hy hn hc hB5
      go_wp2
      go_roundw
      case rel => exact ⟨k + 1, by omega, by go_num, hBr5⟩
      case measure => simp [intOf]; omega
    · have hle : ((rs.length : Int) == (ws.length : Int)) = true := by have := HRL.out; simp; omega
      go_wp2
      go_ret
      exact ⟨rfl, hB.trans (hBr.mono hB.size)⟩

/-! ### THE ROW's STEP: WRITTEN OUT: LEAVE IT -/
set_option maxRecDepth 100000 in
theorem lifted (os : Os) (started : os.Started) (H : Type) (enc : TypeId × Value → H) :
    ReturnsInHanded {} Try.checked os 5 .any (Rows.fnCtrEachSpec.pre6 enc Try.prog Try.f5 Rows.fnCtrEachRow.domain false) (Rows.fnCtrEachSpec.post enc Try.prog Try.f5 false true false false) := by
  refine returnsInHanded_of_change (C := Try.checked) own started (by kernel_rfl) Try.func5
    (ChangeSpec.witness6 (enc := enc) (C := Try.checked) false ⟨#[], #[.slice none 0 0], []⟩ 8 (by kernel_rfl) (by kernel_rfl) (by kernel_rfl) (by kernel_rfl)) ?_
  intro W base args ds gs before hval0 hW hcnd _
  have hval : ∀ (j : Nat) t v, Try.f5.params[j]? = some t → args[j]? = some v → Value.okWide Try.prog W .any base t v := hval0
  have hW' := hW
  obtain ⟨p, q, hA0, hV, rfl, hfz, hnd⟩ := hW
  have hA : DataW.TrodAll enc Try.prog W 0 (fun _ => true) true Try.f5.params.toList args.toList ds p := hA0
  rw [Try.params5] at hA hval
  obtain ⟨v0, vs0, d0, ds0, p0, q0, hargs, rfl, rfl, h0, r0⟩ := trodAll_cons hA
  obtain ⟨rfl, rfl, rfl⟩ := trodAll_nil r0
  obtain rfl : args = #[v0] := by cases args; simp_all
  obtain ⟨rfl, rfl⟩ := trodVars_none hV
  obtain ⟨a0, len0, cap0, rfl⟩ := okWide_slice Try.underlying22 (hval 0 22 v0 rfl rfl)
  have k0 := h0
  have lt0 : ∀ x ∈ p0, x.block < W.heap.size := by obtain ⟨m, hm⟩ := k0; exact DataW.trod_lt m _ _ _ hm
  obtain ⟨z0, w0⟩ : ∃ zs, IsRow .u8 W a0 len0 cap0 zs := by
    obtain ⟨fuel, hf⟩ := h0
    rcases open_ints Try.underlying22 Try.underlying5 (by kernel_rfl) hf with ⟨hcs, _⟩ | ⟨x, l, c, zs, hcs, _, hl, hm, hz, _, hcell, hwz⟩
    · simp [Value.cells] at hcs
      obtain ⟨rfl, rfl, rfl⟩ := hcs
      exact ⟨[], .inl ⟨rfl, rfl, rfl, rfl⟩⟩
    · simp [Value.cells] at hcs
      obtain ⟨rfl, rfl, rfl⟩ := hcs
      exact ⟨zs, .inr ⟨_, rfl, hl, hm, by simpa using hz, hcell, hwz⟩⟩
  clear hA0 hval0
  refine (walk a0 len0 cap0 z0 W w0).mono fun e W' ⟨he, bel⟩ => ?_
  subst he
  exact ⟨_, rfl, _, _, _, [], _, [], hW', trodAll_mk1 (shut_bool Try.underlying4 _), (trodAll_cons_mk (Below.trod laidOut (by kernel_rfl) (of_decide_eq_true (by kernel_rfl)) k0 bel lt0) trodAll_mk0), rfl, bel.frame _, fun h => by cases h⟩

theorem over : Rows.fnCtrEachRow.holds Try.pinned (OpenSpec.ofChange Rows.fnCtrEachSpec) :=
  OpenClaim.holds_of_wide 5 Try.f5 rfl rfl rfl rfl rfl rfl rfl ⟨rfl, rfl, rfl, rfl, rfl⟩ rfl rfl rfl rfl rfl (by kernel_rfl) Try.func5 (by kernel_rfl)
    (of_decide_eq_true (by kernel_rfl)) (by unfold Func.isWrapper; first | (rw [if_pos (by decide +kernel)]; kernel_rfl) | (rw [if_neg (by decide +kernel)]; exact ⟨rfl, rfl⟩))
    (fun os started H enc _ => lifted os started H enc)

/-- THE STATEMENT -/
theorem proved : Rows.FnCtrEachSaid := over
#print axioms proved
end Go.Proofs.Ythgjcplkladepaa.fnCtrEach
