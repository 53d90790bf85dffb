/-
  Proved here: the Go function laws.FnColumns, called with any arguments that can be read, returns true, and each argument reads afterwards as it read before ('Rows.FnColumnsSaid', no condition beyond the row's own). The frame was written by the guide's program; the walk and its contracts are by hand.
-/
import Derived.Test.YtcegnkjmjogilaaRows
import Derived.WalkKit
import Derived.ProofKit
import Derived.OpenShut
import Derived.ShutString
import Derived.ChangeOld
import Derived.Below
import Derived.Test.YtcegnkjmjogilaaDrawL
import Derived.Test.YtcegnkjmjogilaaColsW
namespace Go.Proofs.Ytcegnkjmjogilaa.fnColumns
open Go.ChangeShapes Go.WideShapes Go.ChangeAt Go.RowKit
open Go.ChangeMaps (open_string shut_string)
set_option linter.unusedVariables false

theorem own : ownKnob Try.prog.godebug = none := by kernel_rfl
theorem laidOut : laidOutB Try.prog = true := by kernel_rfl

/-- WHAT THE WALK IS TOLD OF A SLICE OF INTEGERS THAT CAME IN: it is nil; or it leads to a row of 'cap' cells, the numbers 'zs' (the first 'len' are its elements, the rest its spare room), each fitting its kind. -/
def IsRow (k : IntKind) (w : World) (a : Option Addr) (len cap : Nat) (zs : List Int) : Prop :=
  (a = none ∧ len = 0 ∧ cap = 0 ∧ zs = []) ∨
  ∃ x, a = some x ∧ len ≤ cap ∧ cap ≤ maxLen ∧ zs.length = cap ∧ (∀ i, i < zs.length → w.cell? (x.add i) = some (.int k (zs.getD i 0))) ∧ ∀ n ∈ zs, (Lit.int k n).wf = true

theorem szR_bound (rs : List Tb.Row) (h : ∀ r ∈ rs, Tb.Row.sz r ≤ 60) : Tb.szR rs ≤ 60 * rs.length := by
  induction rs with
  | nil => simp [Tb.szR]
  | cons r rs ih =>
    have h1 := h r (by simp)
    have h2 := ih (fun t ht => h t (by simp [ht]))
    simp only [Tb.szR, List.length_cons]
    omega
/-! ### STEP 1: THE WALK: the Go text returns true, AND WRITES NOTHING THAT WAS THERE: 'Below w.heap.size w w'' (Derived/Below.lean: '.refl', '.alloc', '.drew', '.setCell' at a new block, '.trans'). Open each 'IsRow' by 'rcases' AHEAD of 'go_enter'; part every test ahead of the walk. -/
set_option maxHeartbeats 4000000 in
theorem walk (a0 : Option Addr) (len0 cap0 : Nat) (z0 : List Int) (w : World) (w0 : IsRow .u8 w a0 len0 cap0 z0) :
    Calls Try.prog 3 #[.slice a0 len0 cap0] w fun e w' => e = .returned (.bool true) ∧ Below w.heap.size w w' := by
  have B0 : Cu.Bytes w w.heap.size a0 len0 := by
    rcases w0 with ⟨rfl, rfl, rfl, rfl⟩ | ⟨x, rfl, hl, _, hz, hc, hw⟩
    · exact .inl rfl
    · exact Cu.bytes_of _ (Nat.le_refl _) hl hz hc hw
  clear w0
  by_cases hb0 : 1048576 < len0
  · have e0 : decide (1048576 < len0) = true := by simpa using hb0
    go_enter Try.func3, Try.ntmps3
    go_wp2_with (go_at_call 4; refine (Cu.big_any _ _ _ _).mono ?_; rintro e w' ⟨rfl, hw⟩; subst w')
    go_ret
    exact ⟨rfl, Below.refl _ _⟩
  have e0 : decide (1048576 < len0) = false := by simpa using hb0
  go_enter Try.func3, Try.ntmps3
  go_wp2_with (go_at_call 4; refine (Cu.big_any _ _ _ _).mono ?_; rintro e w' ⟨rfl, hw⟩; subst w')
  refine (Db.drawLabels _ _ _ _ B0 (by omega)).mono ?_
  rintro e w1 ⟨n, c, ar, cp, rs, rfl, hbd, hR, hB⟩
  have hsz : rs.length + Tb.szR rs ≤ 1048576 := by have := szR_bound rs (fun r hr => (hbd.2 r hr).1); have := hbd.1; omega
  have hr41 := hbd.1
  obtain ⟨W, hW, hWs, hBW, bx⟩ := Tk.box3_new' w1 (.int .i64 n) (.int .i64 c) (.slice ar rs.length cp) 28
  have HW : Hid (w1.alloc (.cells #[.int .i64 n, .int .i64 c, .slice ar rs.length cp] 28) = W) := hW
  have hR := hR.below hBW
  have hB := hB.trans (hBW.mono hB.size)
  obtain ⟨x, hx⟩ : ∃ x, w1.heap.size = x := ⟨_, rfl⟩
  clear hW hbd hBW hWs
  go_wp2_with fail
  rw [HW.out]
  rw [hx] at bx
  clear HW hx
  obtain ⟨hbx, ⟨cx0, cx1, cx2⟩, _⟩ := id bx
  refine (Co.ilabels _ _ _ _ _ rs hR hsz).mono ?_
  rintro e w2 ⟨vl, rfl, ol, hB2⟩
  have bx := bx.below hB2
  have hR := hR.below hB2
  have hB := hB.trans (hB2.mono hB.size)
  clear hB2 cx0 cx1 cx2 hbx
  obtain ⟨hbx, ⟨cx0, cx1, cx2⟩, _⟩ := id bx
  go_wp2_with fail
  refine (Tk.stab _ _ _ _ _ rs hR hsz).mono ?_
  rintro e w3 ⟨rfl, hB3⟩
  have bx := bx.below hB3
  have hR := hR.below hB3
  have ol := ol.below hB3
  have hB := hB.trans (hB3.mono hB.size)
  clear hB3 cx0 cx1 cx2 hbx
  obtain ⟨al, cl, el, il⟩ := ol.isl
  subst el
  cases ht : Tk.tok n c rs
  · have hl0 : Co.labels n c rs = [] := by unfold Co.labels; rw [ht]; rfl
    rw [hl0]
    go_wp2
    go_ret
    exact ⟨rfl, hB⟩
  have hl1 : Co.labels n c rs = Co.labs rs := by unfold Co.labels; rw [if_pos ht]
  rw [hl1] at il ⊢
  have hll := Co.labs_length rs
  rw [hll]
  have hsk := Tk.sok_iff.1 (Tk.tok_iff.1 ht).1
  have HT : Hid (Tk.tok n c rs = true) := ht
  have HG : Hid (∀ k (h : k < rs.length) (h' : k < (Co.labs rs).length), (Co.labs rs)[k] = rs[k].label) := fun k h h' => Co.labs_get rs k h
  have HLL : Hid ((Co.labs rs).length = rs.length) := hll
  obtain ⟨⟨n0, n1⟩, c0, c1⟩ := hsk
  clear hl1 ht hll ol
  obtain ⟨hbx, ⟨cx0, cx1, cx2⟩, _⟩ := id bx
  go_wp2
  go_loopw [5] (fun i wr => ∃ k : Nat, k ≤ rs.length ∧ i = .int .i64 k ∧ ∃ m, wr = w3.drewN m) (fun i _ => rs.length - (intOf i).toNat)
  case atStart => exact ⟨0, Nat.zero_le _, rfl, 0, rfl⟩
  case round =>
    obtain ⟨k, hk, rfl, m, rfl⟩ := hrel
    by_cases hlt : k < rs.length
    · rcases hR with h0 | ⟨rb, ro, rfl, hrb, hrc⟩
      · subst h0; simp at hlt
      obtain ⟨v0, v1, v2, ⟨d0, d1, d2⟩, hr⟩ := hrc k hlt
      obtain ⟨a0', q0, a1', q1, rfl, rfl, rfl, _, _⟩ := hr
      have hkl : k < (Co.labs rs).length := by rw [HLL.out]; exact hlt
      have hval := HG.out k hlt hkl
      rcases il with h0 | ⟨lb, lo, rfl, hlb, hlc⟩
      · rw [h0] at hkl; simp at hkl
      have hcl := hlc k hkl
      rw [hval] at hcl
      obtain ⟨y, hy⟩ : ∃ y, rs[k].label = y := ⟨_, rfl⟩
      rw [hy] at hcl d2
      have hyy : (y != y) = false := by simp
      clear hrc hlc hval hy
      go_wp2
      go_quiet (fail)
      go_wp2
      go_roundw
      case rel => exact ⟨k + 1, by omega, by go_num, _, rfl⟩
      case measure => simp [intOf]; omega
    · obtain rfl : k = rs.length := by omega
      have hB : Below w.heap.size w (w3.drewN m) := below_drewN hB m
      have bx : Tb.Box3 (w3.drewN m) x (.int .i64 n) (.int .i64 c) (.slice ar rs.length cp) := bx
      have hR : Tb.IsR (w3.drewN m) ar rs := hR
      obtain ⟨w4, hw4⟩ : ∃ w4, w3.drewN m = w4 := ⟨_, rfl⟩
      rw [hw4] at hB bx hR ⊢
      clear hw4 cx0 cx1 cx2 hbx il
      obtain ⟨hbx, ⟨cx0, cx1, cx2⟩, _⟩ := id bx
      go_wp2
      go_loopw [6] (fun i wr => ∃ k : Nat, (k : Int) ≤ n ∧ i = .int .i64 k ∧ Below w4.heap.size w4 wr) (fun i _ => (n - intOf i).toNat)
      case atStart => exact ⟨0, by omega, rfl, Below.refl _ _⟩
      case round =>
        obtain ⟨k, hk, rfl, hB4⟩ := hrel
        have bx := bx.below hB4
        have hR := hR.below hB4
        have hB := hB.trans (hB4.mono hB.size)
        clear cx0 cx1 cx2 hbx
        obtain ⟨hbx, ⟨cx0, cx1, cx2⟩, _⟩ := id bx
        by_cases hkn : (k : Int) < n
        · go_wp2_with fail
          refine (Co.icolumn _ _ _ _ _ rs _ hR hsz).mono ?_
          rintro e w5 ⟨v5, rfl, o5, hB5⟩
          have hcol : Co.column n c rs (k : Int) = Co.nat rs k := by unfold Co.column; rw [if_pos ⟨HT.out, by omega, hkn⟩]; simp
          rw [hcol] at o5
          have bx := bx.below hB5
          have hR := hR.below hB5
          have hBq := hB4.trans (hB5.mono hB4.size)
          clear hB5 hcol cx0 cx1 cx2 hbx
          obtain ⟨hbx, ⟨cx0, cx1, cx2⟩, _⟩ := id bx
          obtain ⟨a5, c5, e5, i5⟩ := o5.isl
          subst e5
          have hnl := Co.nat_length rs k
          rw [hnl]
          have HNL : Hid ((Co.nat rs k).length = rs.length) := hnl
          have hee : ((rs.length : Int) != (rs.length : Int)) = false := by simp
          clear hnl o5
          go_wp2
          go_loopw [8] (fun i wq => ∃ j : Nat, j ≤ rs.length ∧ i = .int .i64 j ∧ ∃ m, wq = w5.drewN m) (fun i _ => rs.length - (intOf i).toNat)
          case atStart => exact ⟨0, Nat.zero_le _, rfl, 0, rfl⟩
          case round =>
            obtain ⟨j, hj, rfl, m, rfl⟩ := hrel
            by_cases hlt : j < rs.length
            · rcases hR with h0 | ⟨rb, ro, rfl, hrb, hrc⟩
              · subst h0; simp at hlt
              obtain ⟨v0, v1, v2, ⟨d0, d1, d2⟩, hr⟩ := hrc j hlt
              obtain ⟨a0', q0, a1', q1, rfl, rfl, rfl, jn, _⟩ := hr
              have hnk : k < rs[j].nums.length := by have := (Co.tok_nums HT.out j hlt).1; omega
              have hnk' : (k : Int) < (rs[j].nums.length : Int) := by omega
              have hkl : j < (Co.nat rs k).length := by rw [HNL.out]; exact hlt
              have hval := Co.nat_get rs k j hlt hnk
              rcases i5 with h0 | ⟨lb, lo, rfl, hlb, hlc⟩
              · rw [h0] at hkl; simp at hkl
              rcases jn with h0 | ⟨nb, no, rfl, hnb, hnc⟩
              · rw [h0] at hnk; simp at hnk
              have hcl := hlc j hkl
              have hcn := hnc k hnk
              rw [hval] at hcl
              obtain ⟨y, hy⟩ : ∃ y, rs[j].nums[k] = y := ⟨_, rfl⟩
              rw [hy] at hcl hcn
              have hyy : (y != y) = false := by simp
              clear hrc hlc hnc hval hy
              go_wp2
              go_quiet (fail)
              go_wp2
              go_roundw
              case rel => exact ⟨j + 1, by omega, by go_num, _, rfl⟩
              case measure => simp [intOf]; omega
            · obtain rfl : j = rs.length := by omega
              go_wp2
              go_roundw
              case rel => exact ⟨k + 1, by omega, by go_num, below_drewN hBq _⟩
              case measure => simp [intOf]; omega
        · have hdn : decide ((k : Int) < n) = false := by simp; omega
          obtain ⟨w6, hw6⟩ : ∃ w6, wr = w6 := ⟨_, rfl⟩
          rw [hw6] at hB bx hR ⊢
          clear hw6 hB4 cx0 cx1 cx2 hbx
          obtain ⟨hbx, ⟨cx0, cx1, cx2⟩, _⟩ := id bx
          go_wp2
          go_loopw [9] (fun i wr => ∃ k : Nat, (k : Int) ≤ c ∧ i = .int .i64 k ∧ Below w6.heap.size w6 wr) (fun i _ => (c - intOf i).toNat)
          case atStart => exact ⟨0, by omega, rfl, Below.refl _ _⟩
          case round =>
            obtain ⟨k, hk, rfl, hB4⟩ := hrel
            have bx := bx.below hB4
            have hR := hR.below hB4
            have hB := hB.trans (hB4.mono hB.size)
            clear cx0 cx1 cx2 hbx
            obtain ⟨hbx, ⟨cx0, cx1, cx2⟩, _⟩ := id bx
            by_cases hkn : (k : Int) < c
            · go_wp2_with fail
              refine (Co.iwords _ _ _ _ _ rs _ hR hsz).mono ?_
              rintro e w5 ⟨v5, rfl, o5, hB5⟩
              have hcol : Co.words n c rs (k : Int) = Co.cat rs k := by unfold Co.words; rw [if_pos ⟨HT.out, by omega, hkn⟩]; simp
              rw [hcol] at o5
              have bx := bx.below hB5
              have hR := hR.below hB5
              have hBq := hB4.trans (hB5.mono hB4.size)
              clear hB5 hcol cx0 cx1 cx2 hbx
              obtain ⟨hbx, ⟨cx0, cx1, cx2⟩, _⟩ := id bx
              obtain ⟨a5, c5, e5, i5⟩ := o5.iss
              subst e5
              have hnl := Co.cat_length rs k
              rw [hnl]
              have HNL : Hid ((Co.cat rs k).length = rs.length) := hnl
              have hee : ((rs.length : Int) != (rs.length : Int)) = false := by simp
              clear hnl o5
              go_wp2
              go_loopw [11] (fun i wq => ∃ j : Nat, j ≤ rs.length ∧ i = .int .i64 j ∧ ∃ m, wq = w5.drewN m) (fun i _ => rs.length - (intOf i).toNat)
              case atStart => exact ⟨0, Nat.zero_le _, rfl, 0, rfl⟩
              case round =>
                obtain ⟨j, hj, rfl, m, rfl⟩ := hrel
                by_cases hlt : j < rs.length
                · rcases hR with h0 | ⟨rb, ro, rfl, hrb, hrc⟩
                  · subst h0; simp at hlt
                  obtain ⟨v0, v1, v2, ⟨d0, d1, d2⟩, hr⟩ := hrc j hlt
                  obtain ⟨a0', q0, a1', q1, rfl, rfl, rfl, _, jn⟩ := hr
                  have hnk : k < rs[j].cats.length := by have := (Co.tok_nums HT.out j hlt).2; omega
                  have hnk' : (k : Int) < (rs[j].cats.length : Int) := by omega
                  have hkl : j < (Co.cat rs k).length := by rw [HNL.out]; exact hlt
                  have hval := Co.cat_get rs k j hlt hnk
                  rcases i5 with h0 | ⟨lb, lo, rfl, hlb, hlc⟩
                  · rw [h0] at hkl; simp at hkl
                  rcases jn with h0 | ⟨nb, no, rfl, hnb, hnc⟩
                  · rw [h0] at hnk; simp at hnk
                  have hcl := hlc j hkl
                  have hcn := hnc k hnk
                  rw [hval] at hcl
                  obtain ⟨y, hy⟩ : ∃ y, rs[j].cats[k] = y := ⟨_, rfl⟩
                  rw [hy] at hcl hcn
                  have hyy : (y.toList == y.toList) = true := Ls.tl_eq rfl
                  clear hrc hlc hnc hval hy
                  go_wp2
                  go_quiet (fail)
                  go_wp2
                  go_roundw
                  case rel => exact ⟨j + 1, by omega, by go_num, _, rfl⟩
                  case measure => simp [intOf]; omega
                · obtain rfl : j = rs.length := by omega
                  go_wp2
                  go_roundw
                  case rel => exact ⟨k + 1, by omega, by go_num, below_drewN hBq _⟩
                  case measure => simp [intOf]; omega
            · obtain rfl : (k : Int) = c := by omega
              have hee : ((rs.length : Int) == (rs.length : Int)) = true := by simp
              go_wp2
              go_ret
              exact ⟨rfl, hB⟩

/-! ### THE ROW's STEP: WRITTEN OUT: LEAVE IT -/
set_option maxRecDepth 100000 in
theorem lifted (os : Os) (started : os.Started) (H : Type) (enc : TypeId × Value → H) :
    ReturnsInHanded {} Try.checked os 3 .any (Rows.fnColumnsSpec.pre6 enc Try.prog Try.f3 Rows.fnColumnsRow.domain false) (Rows.fnColumnsSpec.post enc Try.prog Try.f3 false true false false) := by
  refine returnsInHanded_of_change (C := Try.checked) own started (by kernel_rfl) Try.func3
    (ChangeSpec.witness6 (enc := enc) (C := Try.checked) false ⟨#[], #[.slice none 0 0], []⟩ 8 (by kernel_rfl) (by kernel_rfl) (by kernel_rfl) (by kernel_rfl)) ?_
  intro W base args ds gs before hval0 hW hcnd _
  have hval : ∀ (j : Nat) t v, Try.f3.params[j]? = some t → args[j]? = some v → Value.okWide Try.prog W .any base t v := hval0
  have hW' := hW
  obtain ⟨p, q, hA0, hV, rfl, hfz, hnd⟩ := hW
  have hA : DataW.TrodAll enc Try.prog W 0 (fun _ => true) true Try.f3.params.toList args.toList ds p := hA0
  rw [Try.params3] at hA hval
  obtain ⟨v0, vs0, d0, ds0, p0, q0, hargs, rfl, rfl, h0, r0⟩ := trodAll_cons hA
  obtain ⟨rfl, rfl, rfl⟩ := trodAll_nil r0
  obtain rfl : args = #[v0] := by cases args; simp_all
  obtain ⟨rfl, rfl⟩ := trodVars_none hV
  obtain ⟨a0, len0, cap0, rfl⟩ := okWide_slice Try.underlying22 (hval 0 22 v0 rfl rfl)
  have k0 := h0
  have lt0 : ∀ x ∈ p0, x.block < W.heap.size := by obtain ⟨m, hm⟩ := k0; exact DataW.trod_lt m _ _ _ hm
  obtain ⟨z0, w0⟩ : ∃ zs, IsRow .u8 W a0 len0 cap0 zs := by
    obtain ⟨fuel, hf⟩ := h0
    rcases open_ints Try.underlying22 Try.underlying5 (by kernel_rfl) hf with ⟨hcs, _⟩ | ⟨x, l, c, zs, hcs, _, hl, hm, hz, _, hcell, hwz⟩
    · simp [Value.cells] at hcs
      obtain ⟨rfl, rfl, rfl⟩ := hcs
      exact ⟨[], .inl ⟨rfl, rfl, rfl, rfl⟩⟩
    · simp [Value.cells] at hcs
      obtain ⟨rfl, rfl, rfl⟩ := hcs
      exact ⟨zs, .inr ⟨_, rfl, hl, hm, by simpa using hz, hcell, hwz⟩⟩
  clear hA0 hval0
  refine (walk a0 len0 cap0 z0 W w0).mono fun e W' ⟨he, bel⟩ => ?_
  subst he
  exact ⟨_, rfl, _, _, _, [], _, [], hW', trodAll_mk1 (shut_bool Try.underlying4 _), (trodAll_cons_mk (Below.trod laidOut (by kernel_rfl) (of_decide_eq_true (by kernel_rfl)) k0 bel lt0) trodAll_mk0), rfl, bel.frame _, fun h => by cases h⟩

theorem over : Rows.fnColumnsRow.holds Try.pinned (OpenSpec.ofChange Rows.fnColumnsSpec) :=
  OpenClaim.holds_of_wide 3 Try.f3 rfl rfl rfl rfl rfl rfl rfl ⟨rfl, rfl, rfl, rfl, rfl⟩ rfl rfl rfl rfl rfl (by kernel_rfl) Try.func3 (by kernel_rfl)
    (of_decide_eq_true (by kernel_rfl)) (by unfold Func.isWrapper; first | (rw [if_pos (by decide +kernel)]; kernel_rfl) | (rw [if_neg (by decide +kernel)]; exact ⟨rfl, rfl⟩))
    (fun os started H enc _ => lifted os started H enc)

/-- THE STATEMENT -/
theorem proved : Rows.FnColumnsSaid := over
#print axioms proved
end Go.Proofs.Ytcegnkjmjogilaa.fnColumns
