/-
  Proved here: the Go function laws.FnServed, called with any arguments that can be read, returns true, and each argument reads afterwards as it read before ('Rows.FnServedSaid', no condition beyond the row's own). The frame was written by the guide's program; the walk and its contracts are by hand.
-/
import Derived.Test.YthgjcplkladepaaRows
import Derived.WalkKit
import Derived.ProofKit
import Derived.OpenShut
import Derived.ShutString
import Derived.ChangeOld
import Derived.Below
import Derived.Test.YthgjcplkladepaaDrawV
import Derived.Test.YthgjcplkladepaaCtrP
import Derived.Test.YthgjcplkladepaaSiz
namespace Go.Proofs.Ythgjcplkladepaa.fnServed
open Go.ChangeShapes Go.WideShapes Go.ChangeAt Go.RowKit
open Go.ChangeMaps (open_string shut_string)
set_option linter.unusedVariables false

theorem own : ownKnob Try.prog.godebug = none := by kernel_rfl
theorem laidOut : laidOutB Try.prog = true := by kernel_rfl

/-- WHAT THE WALK IS TOLD OF A SLICE OF INTEGERS THAT CAME IN: it is nil; or it leads to a row of 'cap' cells, the numbers 'zs' (the first 'len' are its elements, the rest its spare room), each fitting its kind. -/
def IsRow (k : IntKind) (w : World) (a : Option Addr) (len cap : Nat) (zs : List Int) : Prop :=
  (a = none ∧ len = 0 ∧ cap = 0 ∧ zs = []) ∨
  ∃ x, a = some x ∧ len ≤ cap ∧ cap ≤ maxLen ∧ zs.length = cap ∧ (∀ i, i < zs.length → w.cell? (x.add i) = some (.int k (zs.getD i 0))) ∧ ∀ n ∈ zs, (Lit.int k n).wf = true

/-! ### STEP 1: THE WALK: the Go text returns true, AND WRITES NOTHING THAT WAS THERE: 'Below w.heap.size w w'' (Derived/Below.lean: '.refl', '.alloc', '.drew', '.setCell' at a new block, '.trans'). Open each 'IsRow' by 'rcases' AHEAD of 'go_enter'; part every test ahead of the walk. -/
set_option maxRecDepth 100000 in
set_option maxHeartbeats 40000000 in
theorem walk (a0 : Option Addr) (len0 cap0 : Nat) (z0 : List Int) (w : World) (w0 : IsRow .u8 w a0 len0 cap0 z0) :
    Calls Try.prog 4 #[.slice a0 len0 cap0] w fun e w' => e = .returned (.bool true) ∧ Below w.heap.size w w' := by
  have B0 : Cu.Bytes w w.heap.size a0 len0 := by
    rcases w0 with ⟨rfl, rfl, rfl, rfl⟩ | ⟨x, rfl, hl, _, hz, hc, hw⟩
    · exact .inl rfl
    · exact Cu.bytes_of _ (Nat.le_refl _) hl hz hc hw
  clear w0
  by_cases hb0 : 1048576 < len0
  · have e0 : decide (1048576 < len0) = true := by simpa using hb0
    go_enter Try.func4, Try.ntmps4
    go_wp2_with (go_at_call 9; refine (Cu.big_any _ _ _ _).mono ?_; rintro e w' ⟨rfl, hw⟩; subst w')
    go_ret
    exact ⟨rfl, Below.refl _ _⟩
  have e0 : decide (1048576 < len0) = false := by simpa using hb0
  obtain ⟨i0, hi, hz0, hz1, hz2⟩ := info_parts Li.info_int
  obtain ⟨j0, hj, jz0, jz1, jz2⟩ := info_parts Ls.info_str
  go_enter Try.func4, Try.ntmps4
  go_wp2_with (go_at_call 9; refine (Cu.big_any _ _ _ _).mono ?_; rintro e w' ⟨rfl, hw⟩; subst w')
  refine (Dw.drawOf _ _ _ _ B0 (by omega)).mono ?_
  rintro e w1 ⟨vw, vl, ws, ls, s, p, rfl, hwl, h3, hs3, hll, ow, ol, hB, nw, nl⟩
  have hz : ∀ j (h : j < ws.length), ws[j].size ≤ maxLen := fun j h => by have := h3.at j h; unfold maxLen; omega
  have hsz : s.size ≤ maxLen := by unfold maxLen; omega
  have hz' : ∀ j (h : j < (ws ++ [s]).length), (ws ++ [s])[j].size ≤ maxLen := fun j h => by
    have := Dw.sml3_snoc h3 hs3 _ (List.getElem_mem h); unfold maxLen; omega
  obtain ⟨aw, cw, ew, iw⟩ := ow.iss
  subst ew
  obtain ⟨al, cl, el, il⟩ := ol.isl
  subst el
  obtain ⟨gw, rfl⟩ : ∃ g, aw = some g := by
    cases aw with
    | none =>
      rcases ow.2 with ⟨h, _⟩ | ⟨g, c, cur, h, _⟩
      · exact absurd h nw
      · simp at h
    | some g => exact ⟨g, rfl⟩
  obtain ⟨gl, rfl⟩ : ∃ g, al = some g := by
    cases al with
    | none =>
      rcases ol.2 with ⟨h, _⟩ | ⟨g, c, cur, h, _⟩
      · exact absurd h nl
      · simp at h
    | some g => exact ⟨g, rfl⟩
  clear nw nl ow ol h3
  go_wp2_with fail
  refine (Ct.iof _ _ _ _ _ ws ls s p iw il (by omega) (by omega) hz hsz).mono ?_
  rintro e w2 ⟨rfl, hB2⟩
  have iw := iw.below hB2
  have il := il.below hB2
  have hB := hB.trans (hB2.mono hB.size)
  clear hB2
  go_wp2_with fail
  refine (Ct.sof _ _ _ _ _ ws ls s p iw il (by omega) (by omega)).mono ?_
  rintro e w' ⟨rfl, hw'⟩
  subst w'
  obtain ⟨x, hx⟩ : ∃ x, Ct.oNum ws ls s p = x := ⟨_, rfl⟩
  rw [hx]
  have hxx : (x != x) = false := by simp
  cases hr : Ct.rgt ws.length ls p
  · go_wp2
    go_ret
    exact ⟨rfl, hB⟩
  have h40 : decide (40 ≤ (ws.length : Int)) = false := by simp; omega
  have hok := Ct.served_ok (s := s) hr (by omega)
  have hnum := Ct.served_num (s := s) hr (by omega)
  rw [hx] at hnum
  have HIL := Wd.idx_len
  have HIS := Wd.idx_succ
  have HOK : Hid (Ct.cOk (ws ++ [s]) (ls ++ [0]) (Wd.idx (ws.length + 1)) (ws.length : Int) p = true) := hok
  have HNUM : Hid (Ct.cNum (ws ++ [s]) (ls ++ [0]) (Wd.idx (ws.length + 1)) (ws.length : Int) p = x) := hnum
  have HIL : Hid (∀ n, (Wd.idx n).length = n) := HIL
  have HIS : Hid (∀ n, Wd.idx (n + 1) = Wd.idx n ++ [(n : Int)]) := HIS
  clear hok hnum hx hr hz
  have oe := Ap.own_empty w2 w2.heap.size (Nat.le_refl _)
  have hBe : Below w2.heap.size w2 (w2.alloc (.cells #[] 3)) := (Below.refl _ _).alloc (Nat.le_refl _) _
  go_wp2
  go_loopw [11, 12] (fun v i wr => ∃ k : Nat, k ≤ ws.length + 1 ∧ i = .int .i64 k ∧ Li.Own wr w2.heap.size v (Wd.idx k) ∧ Below w2.heap.size w2 wr) (fun _ i _ => ws.length + 1 - (intOf i).toNat)
  case atStart => exact ⟨0, Nat.zero_le _, rfl, by simpa [Wd.idx] using oe, hBe⟩
  case round =>
    obtain ⟨k, hk, rfl, op, hBr⟩ := hrel
    clear oe hBe
    have hBs := hBr.size
    by_cases hlt : k ≤ ws.length
    · have hle : decide ((k : Int) ≤ (ws.length : Int)) = true := by simp; omega
      have hil := HIL.out k
      obtain ⟨ks, hks⟩ : ∃ ks, Wd.idx k = ks := ⟨_, rfl⟩
      have HKS : Hid (Wd.idx k = ks) := hks
      rw [hks] at op hil
      have HKL : Hid (ks.length = k) := hil
      clear hks hil
      go_wp2_with (at_builtin; refine wpList_append_own _ rfl _ _ 25 rfl w2.heap.size 3 i0 (.int .i64 0) 1 8 Try.underlying25 hi hz0 hz1 hz2 rfl (by decide) _ _ _ rfl (World.ownsRow.alloc op _) ⟨wr.heap.size, 0, none⟩ 1 1 [.int .i64 (k : Int)] rfl rfl (Ap.one_cell _ _ _ rfl) (Ap.one_one _ rfl) (by have := HKL.out; unfold maxLen; omega) (by have := HKL.out; omega) (by simp; omega) ?_; intro v5 w5 hown5 hgrow hnn)
      have ho5 := Ap.own_snoc rfl hown5
      have hB5 : Below w2.heap.size w2 w5 := Ap.below_app (hBr.alloc hBs _) (by simp; omega) hgrow (fun j hj => (op.ge j hj).1)
      clear hown5 hgrow hnn
      go_wp2
      go_roundw
      case rel => exact ⟨k + 1, by omega, by go_num, by rw [HIS.out, HKS.out]; exact ho5, hB5⟩
      case measure => simp [intOf]; omega
    · obtain rfl : k = ws.length + 1 := by omega
      have hle : decide (((ws.length + 1 : Nat) : Int) ≤ (ws.length : Int)) = false := by simp; omega
      have iw := iw.below hBr
      have il := il.below hBr
      have hB := hB.trans (hBr.mono hB.size)
      clear hBr
      obtain ⟨ap, cp, ep, hcap, ip⟩ := Tb.isl_cap op
      have hil := HIL.out (ws.length + 1)
      rw [hil] at ep hcap
      subst ep
      have HCAP : Hid (ws.length + 1 ≤ cp) := hcap
      clear hcap op hil
      have oS := Ap.sown_empty wr wr.heap.size (Nat.le_refl _)
      have oS' : (wr.alloc (.cells #[] 9)).ownsRow wr.heap.size 9 1 (.slice (some ⟨wr.heap.size, 0, none⟩) 0 0) 0 [] := oS
      have hB1 : Below wr.heap.size wr (wr.alloc (.cells #[] 9)) := (Below.refl _ _).alloc (Nat.le_refl _) _
      go_wp2_with (first
        | (at_builtin; refine wpList_append_own _ rfl _ _ 24 rfl wr.heap.size 9 j0 (.string ⟨#[]⟩) 1 16 Try.underlying24 hj jz0 jz1 jz2 rfl (by decide) _ _ _ rfl oS' gw ws.length cw (Ls.sv ws) rfl (by simp [Ls.sv]) (Ap.news_s (iw.below hB1)) (Ls.sv_one _) (by unfold maxLen; omega) (by omega) (by simp) ?_; intro v6 w6 hown6 hgrow6 hnn6
           have o6 : Ls.Own w6 wr.heap.size v6 ws := Ap.sown_all hown6
           have hB6 : Below wr.heap.size wr w6 := Ap.below_app hB1 (by simp) hgrow6 (fun j hj => (oS.ge j hj).1)
           have hs6 := hB6.size
           clear hown6 hgrow6 hnn6)
        | (at_builtin; refine wpList_append_own _ rfl _ _ 24 rfl wr.heap.size 9 j0 (.string ⟨#[]⟩) 1 16 Try.underlying24 hj jz0 jz1 jz2 rfl (by decide) _ _ _ rfl (World.ownsRow.alloc o6 _) ⟨w6.heap.size, 0, none⟩ 1 1 [.string s] rfl rfl (Ap.one_cell _ _ _ rfl) (Ap.one_one _ rfl) (by unfold maxLen; omega) (by omega) (by simp; omega) ?_; intro v7 w7 hown7 hgrow7 hnn7
           have o7 := Ap.sown_snoc rfl hown7
           have hB7 : Below wr.heap.size wr w7 := Ap.below_app (hB6.alloc hs6 _) (by simp; omega) hgrow7 (fun j hj => (o6.ge j hj).1)
           have hs7 := hB7.size
           have oI := Ap.own_empty w7 w7.heap.size (Nat.le_refl _)
           have oI' : (w7.alloc (.cells #[] 3)).ownsRow w7.heap.size 3 1 (.slice (some ⟨w7.heap.size, 0, none⟩) 0 0) 0 [] := oI
           have hB8 : Below w7.heap.size w7 (w7.alloc (.cells #[] 3)) := (Below.refl _ _).alloc (Nat.le_refl _) _
           clear hown7 hgrow7 hnn7)
        | (at_builtin; refine wpList_append_own _ rfl _ _ 25 rfl w7.heap.size 3 i0 (.int .i64 0) 1 8 Try.underlying25 hi hz0 hz1 hz2 rfl (by decide) _ _ _ rfl oI' gl ls.length cl (Li.iv ls) rfl (by simp [Li.iv]) (Ap.news_i ((il.below hB7).below hB8)) (Li.iv_one _) (by unfold maxLen; omega) (by omega) (by simp) ?_; intro v8 w8 hown8 hgrow8 hnn8
           have o8 : Li.Own w8 w7.heap.size v8 ls := Ap.own_all hown8
           have hB9 : Below w7.heap.size w7 w8 := Ap.below_app hB8 (by simp) hgrow8 (fun j hj => (oI.ge j hj).1)
           have hs8 := hB9.size
           clear hown8 hgrow8 hnn8)
        | (at_builtin; refine wpList_append_own _ rfl _ _ 25 rfl w7.heap.size 3 i0 (.int .i64 0) 1 8 Try.underlying25 hi hz0 hz1 hz2 rfl (by decide) _ _ _ rfl (World.ownsRow.alloc o8 _) ⟨w8.heap.size, 0, none⟩ 1 1 [.int .i64 0] rfl rfl (Ap.one_cell _ _ _ rfl) (Ap.one_one _ rfl) (by unfold maxLen; omega) (by omega) (by simp; omega) ?_; intro v9 w9 hown9 hgrow9 hnn9
           have o9 := Ap.own_snoc rfl hown9
           have hB10 : Below w7.heap.size w7 w9 := Ap.below_app (hB9.alloc hs8 _) (by simp; omega) hgrow9 (fun j hj => (o8.ge j hj).1)
           have o7 := o7.below hB10
           clear hown9 hgrow9 hnn9
           obtain ⟨a7, c7, e7, i7⟩ := o7.iss
           subst e7
           obtain ⟨a9, c9, e9, i9⟩ := o9.isl
           subst e9))
      have hBall : Below wr.heap.size wr w9 := hB7.trans (hB10.mono hs7)
      have ip := ip.below hBall
      have hB := hB.trans (hBall.mono hB.size)
      clear hB7 hB10 hBall
      have hcall := Ct.iat w9 a7 a9 ap c7 c9 cp (ws ++ [s]) (ls ++ [0]) (Wd.idx (ws.length + 1)) (ws.length : Int) p i7 i9 ip (by simp; omega) (by simp; omega) (by rw [HIL.out]; omega) (by rw [HIL.out]; exact HCAP.out) hz'
      rw [HOK.out, HNUM.out, HIL.out, List.length_append, List.length_append, List.length_singleton, List.length_singleton] at hcall
      refine hcall.mono ?_
      rintro e w10 ⟨rfl, hB11⟩
      have hxe : (x == x) = true := by simp
      go_wp2
      go_ret
      exact ⟨by first | rfl | (rw [hxe]; rfl), hB.trans (hB11.mono hB.size)⟩

/-! ### THE ROW's STEP: WRITTEN OUT: LEAVE IT -/
set_option maxRecDepth 100000 in
theorem lifted (os : Os) (started : os.Started) (H : Type) (enc : TypeId × Value → H) :
    ReturnsInHanded {} Try.checked os 4 .any (Rows.fnServedSpec.pre6 enc Try.prog Try.f4 Rows.fnServedRow.domain false) (Rows.fnServedSpec.post enc Try.prog Try.f4 false true false false) := by
  refine returnsInHanded_of_change (C := Try.checked) own started (by kernel_rfl) Try.func4
    (ChangeSpec.witness6 (enc := enc) (C := Try.checked) false ⟨#[], #[.slice none 0 0], []⟩ 8 (by kernel_rfl) (by kernel_rfl) (by kernel_rfl) (by kernel_rfl)) ?_
  intro W base args ds gs before hval0 hW hcnd _
  have hval : ∀ (j : Nat) t v, Try.f4.params[j]? = some t → args[j]? = some v → Value.okWide Try.prog W .any base t v := hval0
  have hW' := hW
  obtain ⟨p, q, hA0, hV, rfl, hfz, hnd⟩ := hW
  have hA : DataW.TrodAll enc Try.prog W 0 (fun _ => true) true Try.f4.params.toList args.toList ds p := hA0
  rw [Try.params4] at hA hval
  obtain ⟨v0, vs0, d0, ds0, p0, q0, hargs, rfl, rfl, h0, r0⟩ := trodAll_cons hA
  obtain ⟨rfl, rfl, rfl⟩ := trodAll_nil r0
  obtain rfl : args = #[v0] := by cases args; simp_all
  obtain ⟨rfl, rfl⟩ := trodVars_none hV
  obtain ⟨a0, len0, cap0, rfl⟩ := okWide_slice Try.underlying22 (hval 0 22 v0 rfl rfl)
  have k0 := h0
  have lt0 : ∀ x ∈ p0, x.block < W.heap.size := by obtain ⟨m, hm⟩ := k0; exact DataW.trod_lt m _ _ _ hm
  obtain ⟨z0, w0⟩ : ∃ zs, IsRow .u8 W a0 len0 cap0 zs := by
    obtain ⟨fuel, hf⟩ := h0
    rcases open_ints Try.underlying22 Try.underlying5 (by kernel_rfl) hf with ⟨hcs, _⟩ | ⟨x, l, c, zs, hcs, _, hl, hm, hz, _, hcell, hwz⟩
    · simp [Value.cells] at hcs
      obtain ⟨rfl, rfl, rfl⟩ := hcs
      exact ⟨[], .inl ⟨rfl, rfl, rfl, rfl⟩⟩
    · simp [Value.cells] at hcs
      obtain ⟨rfl, rfl, rfl⟩ := hcs
      exact ⟨zs, .inr ⟨_, rfl, hl, hm, by simpa using hz, hcell, hwz⟩⟩
  clear hA0 hval0
  refine (walk a0 len0 cap0 z0 W w0).mono fun e W' ⟨he, bel⟩ => ?_
  subst he
  exact ⟨_, rfl, _, _, _, [], _, [], hW', trodAll_mk1 (shut_bool Try.underlying4 _), (trodAll_cons_mk (Below.trod laidOut (by kernel_rfl) (of_decide_eq_true (by kernel_rfl)) k0 bel lt0) trodAll_mk0), rfl, bel.frame _, fun h => by cases h⟩

theorem over : Rows.fnServedRow.holds Try.pinned (OpenSpec.ofChange Rows.fnServedSpec) :=
  OpenClaim.holds_of_wide 4 Try.f4 rfl rfl rfl rfl rfl rfl rfl ⟨rfl, rfl, rfl, rfl, rfl⟩ rfl rfl rfl rfl rfl (by kernel_rfl) Try.func4 (by kernel_rfl)
    (of_decide_eq_true (by kernel_rfl)) (by unfold Func.isWrapper; first | (rw [if_pos (by decide +kernel)]; kernel_rfl) | (rw [if_neg (by decide +kernel)]; exact ⟨rfl, rfl⟩))
    (fun os started H enc _ => lifted os started H enc)

/-- THE STATEMENT -/
theorem proved : Rows.FnServedSaid := over
#print axioms proved
end Go.Proofs.Ythgjcplkladepaa.fnServed
