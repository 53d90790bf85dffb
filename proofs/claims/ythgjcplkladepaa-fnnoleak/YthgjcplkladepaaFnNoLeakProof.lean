/-
  Proved here: the Go function laws.FnNoLeak, called with any arguments that can be read, returns true, and each argument reads afterwards as it read before ('Rows.FnNoLeakSaid', no condition beyond the row's own). The frame was written by the guide's program; the walk and its contracts are by hand.
-/
import Derived.Test.YthgjcplkladepaaRows
import Derived.WalkKit
import Derived.ProofKit
import Derived.OpenShut
import Derived.ShutString
import Derived.ChangeOld
import Derived.Below
import Derived.Test.YthgjcplkladepaaDrawV
import Derived.Test.YthgjcplkladepaaCtrP
import Derived.Test.YthgjcplkladepaaSiz
import Derived.Deep.RegionWith
namespace Go.Proofs.Ythgjcplkladepaa.fnNoLeak
open Go.ChangeShapes Go.WideShapes Go.ChangeAt Go.RowKit
open Go.ChangeMaps (open_string shut_string)
set_option linter.unusedVariables false

theorem own : ownKnob Try.prog.godebug = none := by kernel_rfl
theorem laidOut : laidOutB Try.prog = true := by kernel_rfl

/-- WHAT THE WALK IS TOLD OF A SLICE OF INTEGERS THAT CAME IN: it is nil; or it leads to a row of 'cap' cells, the numbers 'zs' (the first 'len' are its elements, the rest its spare room), each fitting its kind. -/
def IsRow (k : IntKind) (w : World) (a : Option Addr) (len cap : Nat) (zs : List Int) : Prop :=
  (a = none ∧ len = 0 ∧ cap = 0 ∧ zs = []) ∨
  ∃ x, a = some x ∧ len ≤ cap ∧ cap ≤ maxLen ∧ zs.length = cap ∧ (∀ i, i < zs.length → w.cell? (x.add i) = some (.int k (zs.getD i 0))) ∧ ∀ n ∈ zs, (Lit.int k n).wf = true

/-! ### STEP 1: THE WALK: the Go text returns true, AND WRITES NOTHING THAT WAS THERE: 'Below w.heap.size w w'' (Derived/Below.lean: '.refl', '.alloc', '.drew', '.setCell' at a new block, '.trans'). Open each 'IsRow' by 'rcases' AHEAD of 'go_enter'; part every test ahead of the walk. -/
set_option maxRecDepth 100000 in
set_option maxHeartbeats 40000000 in
theorem walk (a0 : Option Addr) (len0 cap0 : Nat) (z0 : List Int) (a1 : Option Addr) (len1 cap1 : Nat) (z1 : List Int) (w : World) (w0 : IsRow .u8 w a0 len0 cap0 z0) (w1 : IsRow .u8 w a1 len1 cap1 z1) :
    Calls Try.prog 3 #[.slice a0 len0 cap0, .slice a1 len1 cap1] w fun e w' => e = .returned (.bool true) ∧ Below w.heap.size w w' := by
  have key : ∀ (a : Option Addr) (len cap : Nat) (z : List Int), IsRow .u8 w a len cap z → Cu.Bytes w w.heap.size a len := by
    intro a len cap z h
    rcases h with ⟨rfl, rfl, rfl, rfl⟩ | ⟨x, rfl, hl, _, hz, hc, hw⟩
    · exact .inl rfl
    · exact Cu.bytes_of _ (Nat.le_refl _) hl hz hc hw
  have B0 := key _ _ _ _ w0
  have B1 := key _ _ _ _ w1
  clear key w0 w1
  by_cases hb0 : 1048576 < len0
  · have e0 : decide (1048576 < len0) = true := by simpa using hb0
    go_enter Try.func3, Try.ntmps3
    go_wp2_with (go_at_call 9; refine (Cu.big_any _ _ _ _).mono ?_; rintro e w' ⟨rfl, hw⟩; subst w')
    go_ret
    exact ⟨rfl, Below.refl _ _⟩
  have e0 : decide (1048576 < len0) = false := by simpa using hb0
  by_cases hb1 : 1048576 < len1
  · have e1 : decide (1048576 < len1) = true := by simpa using hb1
    go_enter Try.func3, Try.ntmps3
    go_wp2_with (go_at_call 9; refine (Cu.big_any _ _ _ _).mono ?_; rintro e w' ⟨rfl, hw⟩; subst w')
    go_ret
    exact ⟨rfl, Below.refl _ _⟩
  have e1 : decide (1048576 < len1) = false := by simpa using hb1
  obtain ⟨i0, hi, hz0, hz1, hz2⟩ := info_parts Li.info_int
  go_enter Try.func3, Try.ntmps3
  go_wp2_with (go_at_call 9; refine (Cu.big_any _ _ _ _).mono ?_; rintro e w' ⟨rfl, hw⟩; subst w')
  refine (Dw.drawAt _ _ _ _ B0 (by omega)).mono ?_
  rintro e w1 ⟨vw, vl, vp, ws, ls, ps, k, p, rfl, hwl, h3, hll, hpl, ow, ol, op, hB, nw, nl⟩
  have hz : ∀ j (h : j < ws.length), ws[j].size ≤ maxLen := fun j h => by have := h3.at j h; unfold maxLen; omega
  obtain ⟨aw, cw, ew, iw⟩ := ow.iss
  subst ew
  obtain ⟨al, cl, el, il⟩ := ol.isl
  subst el
  obtain ⟨ap, cp, ep, hcap, ip⟩ := Tb.isl_cap op
  subst ep
  obtain ⟨gl, rfl⟩ : ∃ g, al = some g := by
    cases al with
    | none =>
      rcases ol.2 with ⟨h, _⟩ | ⟨g, c, cur, h, _⟩
      · exact absurd h nl
      · simp at h
    | some g => exact ⟨g, rfl⟩
  clear nw nl ow ol op h3
  -- x, ok := impl.CtrAt
  go_wp2_with fail
  refine (Ct.iat _ _ _ _ _ _ _ ws ls ps k p iw il ip (by omega) (by omega) (by omega) hcap hz).mono ?_
  rintro e w2 ⟨rfl, hB2⟩
  have iw := iw.below hB2
  have il := il.below hB2
  have ip := ip.below hB2
  have hB := hB.trans (hB2.mono hB.size)
  clear hB2
  go_wp2_with fail
  refine (Ct.satB _ _ _ _ _ _ _ ws ls ps k p iw il ip (by omega) (by omega) (by omega)).mono ?_
  rintro e w3 ⟨rfl, hB3⟩
  have iw := iw.below hB3
  have il := il.below hB3
  have ip := ip.below hB3
  have hB := hB.trans (hB3.mono hB.size)
  clear hB3
  obtain ⟨x, hx⟩ : ∃ x, Ct.cNum ws ls ps k p = x := ⟨_, rfl⟩
  have hxx : (x != x) = false := by simp
  cases hc : Ct.cOk ws ls ps k p
  · have hx0 : x = 0 := by rw [← hx, Ct.cNum_no hc]
    rw [hx]
    subst hx0
    clear hx hxx
    go_wp2
    go_ret
    exact ⟨rfl, hB⟩
  rw [hx]
  obtain ⟨ho, hk0, hk1⟩ := Ct.cOk_iff.1 hc
  obtain ⟨hr, hpn, hpk⟩ := Ct.ord_iff.1 ho
  obtain ⟨⟨hn40, hln, p0, p1⟩, hal⟩ := Ct.rgt_iff.1 hr
  obtain ⟨kn, rfl⟩ : ∃ kn : Nat, k = (kn : Int) := ⟨k.toNat, by omega⟩
  have HPN : Hid (ps.length = ws.length) := hpn
  have HLN : Hid (ls.length = ws.length) := hln
  have HAL : Hid (ls.all Tk.lok = true) := hal
  have hkn : kn < ps.length := by omega
  clear hx hc hpn hln hal hr
  have oI := Ap.own_empty w3 w3.heap.size (Nat.le_refl _)
  have oI' : (w3.alloc (.cells #[] 3)).ownsRow w3.heap.size 3 1 (.slice (some ⟨w3.heap.size, 0, none⟩) 0 0) 0 [] := oI
  have hB4 : Below w3.heap.size w3 (w3.alloc (.cells #[] 3)) := (Below.refl _ _).alloc (Nat.le_refl _) _
  -- other := append([]int{}, labels...)
  go_wp2_with (at_builtin; refine wpList_append_own _ rfl _ _ 25 rfl w3.heap.size 3 i0 (.int .i64 0) 1 8 Try.underlying25 hi hz0 hz1 hz2 rfl (by decide) _ _ _ rfl oI' gl ls.length cl (Li.iv ls) rfl (by simp [Li.iv]) (Ap.news_i (il.below hB4)) (Li.iv_one _) (by unfold maxLen; omega) (by omega) (by simp) ?_; intro v5 w5 hown5 hgrow5 hnn5)
  have o5 : Li.Own w5 w3.heap.size v5 ls := Ap.own_all hown5
  have hB5 : Below w3.heap.size w3 w5 := Ap.below_app hB4 (by simp) hgrow5 (fun j hj => (oI.ge j hj).1)
  clear hown5 hgrow5 hnn5 oI oI' hB4
  obtain ⟨g, cap', hv, hg3, hgl⟩ : ∃ g cap', v5 = .slice (some ⟨g, 0, none⟩) ls.length cap' ∧ w3.heap.size ≤ g ∧ g < w5.heap.size := by
    rcases o5.2 with ⟨_, h0⟩ | ⟨g, c, cur, h, hb, hh, _⟩
    · have := HLN.out; have := HPN.out; omega
    · exact ⟨g, c, h, hb, (Array.getElem?_eq_some_iff.1 hh).1⟩
  subst hv
  have hw3s := hB.size
  have B1 : Cu.Bytes w5 w.heap.size a1 len1 := B1.keptB (Nat.le_refl _) (fun q hq => (hB.trans (hB5.mono hB.size)).block q hq)
  go_loopw [15] (fun i wr => ∃ m : Nat, kn ≤ m ∧ m ≤ ps.length ∧ i = .int .i64 m ∧ ∃ o : List Int, o.length = ls.length ∧ o.all Tk.lok = true ∧ (∀ q (hq : q < ps.length), q < kn → Wd.lat o ps[q] = Wd.lat ls ps[q]) ∧ Li.Own wr w3.heap.size (.slice (some ⟨g, 0, none⟩) ls.length cap') o ∧ Below w3.heap.size w3 wr ∧ Cu.Bytes wr w.heap.size a1 len1) (fun i _ => ps.length - (intOf i).toNat)
  case atStart => exact ⟨kn, Nat.le_refl _, by omega, rfl, ls, rfl, HAL.out, fun q hq _ => rfl, o5, hB5, B1⟩
  case round =>
    obtain ⟨m, hkm, hm, rfl, o, hol, hoa, hsame, oo, hBr, Br⟩ := hrel
    clear o5 hB5 B1
    have HOL : Hid (o.length = ls.length) := hol
    have HOA : Hid (o.all Tk.lok = true) := hoa
    have HS : Hid (∀ q (hq : q < ps.length), q < kn → Wd.lat o ps[q] = Wd.lat ls ps[q]) := hsame
    clear hol hoa hsame
    by_cases hlt : m < ps.length
    · have hrng := hpk.rng m hlt
      have hjo : ps[m].toNat < o.length := by have := HOL.out; have := HLN.out; have := HPN.out; omega
      have HN : Hid (∀ v q (hq : q < ps.length), q < kn → Wd.lat (o.set ps[m].toNat v) ps[q] = Wd.lat ls ps[q]) := fun v q hq hqk => by
        have hrq := hpk.rng q hq
        rw [Ct.lat_set hrng.1 hrq.1 (fun e => by have := hpk.inj m q hlt hq e; omega)]
        exact HS.out q hq hqk
      rcases ip.below hBr with h0 | ⟨pb, po, rfl, hpb, hpc⟩
      · subst h0; simp at hlt
      have hcp := hpc m hlt
      have hpb3 : pb < w3.heap.size := by
        rcases ip with h0 | ⟨b', o', e', hb', _⟩
        · subst h0; simp at hlt
        · cases e'; exact hb'
      have hm40 : m ≤ 1000 := by omega
      obtain ⟨y, hy⟩ : ∃ y, ps[m] = y := ⟨_, rfl⟩
      rw [hy] at hrng hjo HN hcp
      clear hy hpc
      have hjl : y < (ls.length : Int) := by have := HOL.out; omega
      obtain ⟨cv, hcv⟩ : ∃ cv : Int, wr.cell? ⟨g, y.toNat, none⟩ = some (.int .i64 cv) := ⟨_, oo.cell HOL.out y.toNat hjo⟩
      have hcf := oo.frozen HOL.out y.toNat
      go_wp2
      go_region_with (go_at_call 13; refine (Dw.lpick _ w.heap.size _ _ _ (by exact Br) (by omega) _ (by omega) (by omega) _ (by omega) (by omega)).mono ?_; rintro e w6 ⟨z, rfl, z0, z1, hw6⟩; subst w6)
      all_goals
        have hlv : Tk.lok (1000 * (z - 10)) = true := by unfold Tk.lok; exact decide_eq_true (by omega)
        have HO6 : Hid ((o.set y.toNat (1000 * (z - 10))).all Tk.lok = true) := Ct.all_set HOA.out hlv
        have HO7 : Hid (∀ v, Li.Own (wr.setCell ⟨g, y.toNat, none⟩ (.int .i64 v)) w3.heap.size (.slice (some ⟨g, 0, none⟩) ls.length cap') (o.set y.toNat v)) := fun v => oo.set HOL.out y.toNat v
        have HB7 : Hid (∀ v, Below w3.heap.size w3 (wr.setCell ⟨g, y.toNat, none⟩ v)) := fun v => hBr.setCell (p := ⟨g, y.toNat, none⟩) hg3 _
        have HC7 : Hid (∀ v, Cu.Bytes (wr.setCell ⟨g, y.toNat, none⟩ v) w.heap.size a1 len1) := fun v => Br.keptB (Nat.le_refl _) (fun q hq => Below.heap_setCell _ _ _ _ (fun e => by have : q = g := e; omega))
        clear oo hBr Br
        go_wp2
        go_roundw
        case rel => exact ⟨m + 1, by omega, by omega, by go_num, o.set y.toNat (1000 * (z - 10)), by simpa using HOL.out, HO6.out, HN.out _, HO7.out _, by first | exact HB7.out _ | exact Below.drew (HB7.out _), HC7.out _⟩
        case measure => simp [intOf]; omega
    · obtain rfl : m = ps.length := by omega
      have hro : Ct.ord ws.length o ps p = true := by
        obtain ⟨hr, hpn, hpk'⟩ := Ct.ord_iff.1 ho
        obtain ⟨⟨q0, q1, q2, q3⟩, _⟩ := Ct.rgt_iff.1 hr
        exact Ct.ord_iff.2 ⟨Ct.rgt_iff.2 ⟨⟨q0, by rw [HOL.out]; exact q1, q2, q3⟩, HOA.out⟩, hpn, hpk'⟩
      have iw := iw.below hBr
      have il := il.below hBr
      have ip := ip.below hBr
      have hB := hB.trans (hBr.mono hB.size)
      obtain ⟨_, _, ee, io⟩ := oo.isl
      rw [HOL.out] at ee
      cases ee
      have hol : o.length ≤ 1048577 := by have := HOL.out; omega
      clear hBr oo Br HOA hm
      go_wp2
      go_loopw [16] (fun i wq => ∃ q : Nat, q ≤ kn + 1 ∧ i = .int .i64 q ∧ Below wr.heap.size wr wq) (fun i _ => kn + 1 - (intOf i).toNat)
      case atStart => exact ⟨0, Nat.zero_le _, rfl, Below.refl _ _⟩
      case round =>
        obtain ⟨q, hq, rfl, hBq⟩ := hrel
        by_cases hql : q ≤ kn
        · have hqd : decide ((q : Int) ≤ (kn : Int)) = true := by simp; omega
          have c1 := Ct.cOk_yes (k := (q : Int)) ho ⟨by omega, by omega⟩
          have c2 := Ct.cOk_yes (k := (q : Int)) hro ⟨by omega, by omega⟩
          have n1 := Ct.cNum_yes c1
          have n2 := Ct.cNum_yes c2
          rw [show ((q : Int)).toNat = q by omega] at n1 n2
          rw [Ct.ahead_same HS.out q hql, ← n1] at n2
          obtain ⟨y, hy⟩ : ∃ y, Ct.cNum ws ls ps (q : Int) p = y := ⟨_, rfl⟩
          rw [hy] at n2
          have hyy : (y != y) = false := by simp
          clear n1
          have iw := iw.below hBq
          have il := il.below hBq
          have ip := ip.below hBq
          have io := io.below hBq
          have k1 := Ct.iat _ aw (some gl) ap cw cl cp ws ls ps (q : Int) p iw il ip (by omega) (by omega) (by omega) hcap hz
          rw [c1, hy] at k1
          go_wp2_with fail
          refine k1.mono ?_
          rintro e w6 ⟨rfl, hB6⟩
          have k2 := Ct.iat w6 aw (some ⟨g, 0, none⟩) ap cw cap' cp ws o ps (q : Int) p (iw.below hB6) (io.below hB6) (ip.below hB6) (by omega) hol (by omega) hcap hz
          rw [c2, n2, HOL.out] at k2
          clear k1
          go_wp2_with fail
          refine k2.mono ?_
          rintro e w7 ⟨rfl, hB7⟩
          have hBq := hBq.trans ((hB6.trans (hB7.mono hB6.size)).mono hBq.size)
          clear k2 hB6 hB7 c1 c2 n2 hy
          go_wp2
          go_roundw
          case rel => exact ⟨q + 1, by omega, by go_num, hBq⟩
          case measure => simp [intOf]; omega
        · have hqd : decide ((q : Int) ≤ (kn : Int)) = false := by simp; omega
          go_wp2
          go_ret
          exact ⟨rfl, hB.trans (hBq.mono hB.size)⟩

/-! ### THE ROW's STEP: WRITTEN OUT: LEAVE IT -/
set_option maxRecDepth 100000 in
theorem lifted (os : Os) (started : os.Started) (H : Type) (enc : TypeId × Value → H) :
    ReturnsInHanded {} Try.checked os 3 .any (Rows.fnNoLeakSpec.pre6 enc Try.prog Try.f3 Rows.fnNoLeakRow.domain false) (Rows.fnNoLeakSpec.post enc Try.prog Try.f3 false true false false) := by
  refine returnsInHanded_of_change (C := Try.checked) own started (by kernel_rfl) Try.func3
    (ChangeSpec.witness6 (enc := enc) (C := Try.checked) false ⟨#[], #[.slice none 0 0, .slice none 0 0], []⟩ 8 (by kernel_rfl) (by kernel_rfl) (by kernel_rfl) (by kernel_rfl)) ?_
  intro W base args ds gs before hval0 hW hcnd _
  have hval : ∀ (j : Nat) t v, Try.f3.params[j]? = some t → args[j]? = some v → Value.okWide Try.prog W .any base t v := hval0
  have hW' := hW
  obtain ⟨p, q, hA0, hV, rfl, hfz, hnd⟩ := hW
  have hA : DataW.TrodAll enc Try.prog W 0 (fun _ => true) true Try.f3.params.toList args.toList ds p := hA0
  rw [Try.params3] at hA hval
  obtain ⟨v0, vs0, d0, ds0, p0, q0, hargs, rfl, rfl, h0, r0⟩ := trodAll_cons hA
  obtain ⟨v1, vs1, d1, ds1, p1, q1, rfl, rfl, rfl, h1, r1⟩ := trodAll_cons r0
  obtain ⟨rfl, rfl, rfl⟩ := trodAll_nil r1
  obtain rfl : args = #[v0, v1] := by cases args; simp_all
  obtain ⟨rfl, rfl⟩ := trodVars_none hV
  obtain ⟨a0, len0, cap0, rfl⟩ := okWide_slice Try.underlying22 (hval 0 22 v0 rfl rfl)
  have k0 := h0
  have lt0 : ∀ x ∈ p0, x.block < W.heap.size := by obtain ⟨m, hm⟩ := k0; exact DataW.trod_lt m _ _ _ hm
  obtain ⟨z0, w0⟩ : ∃ zs, IsRow .u8 W a0 len0 cap0 zs := by
    obtain ⟨fuel, hf⟩ := h0
    rcases open_ints Try.underlying22 Try.underlying5 (by kernel_rfl) hf with ⟨hcs, _⟩ | ⟨x, l, c, zs, hcs, _, hl, hm, hz, _, hcell, hwz⟩
    · simp [Value.cells] at hcs
      obtain ⟨rfl, rfl, rfl⟩ := hcs
      exact ⟨[], .inl ⟨rfl, rfl, rfl, rfl⟩⟩
    · simp [Value.cells] at hcs
      obtain ⟨rfl, rfl, rfl⟩ := hcs
      exact ⟨zs, .inr ⟨_, rfl, hl, hm, by simpa using hz, hcell, hwz⟩⟩
  obtain ⟨a1, len1, cap1, rfl⟩ := okWide_slice Try.underlying22 (hval 1 22 v1 rfl rfl)
  have k1 := h1
  have lt1 : ∀ x ∈ p1, x.block < W.heap.size := by obtain ⟨m, hm⟩ := k1; exact DataW.trod_lt m _ _ _ hm
  obtain ⟨z1, w1⟩ : ∃ zs, IsRow .u8 W a1 len1 cap1 zs := by
    obtain ⟨fuel, hf⟩ := h1
    rcases open_ints Try.underlying22 Try.underlying5 (by kernel_rfl) hf with ⟨hcs, _⟩ | ⟨x, l, c, zs, hcs, _, hl, hm, hz, _, hcell, hwz⟩
    · simp [Value.cells] at hcs
      obtain ⟨rfl, rfl, rfl⟩ := hcs
      exact ⟨[], .inl ⟨rfl, rfl, rfl, rfl⟩⟩
    · simp [Value.cells] at hcs
      obtain ⟨rfl, rfl, rfl⟩ := hcs
      exact ⟨zs, .inr ⟨_, rfl, hl, hm, by simpa using hz, hcell, hwz⟩⟩
  clear hA0 hval0
  refine (walk a0 len0 cap0 z0 a1 len1 cap1 z1 W w0 w1).mono fun e W' ⟨he, bel⟩ => ?_
  subst he
  exact ⟨_, rfl, _, _, _, [], _, [], hW', trodAll_mk1 (shut_bool Try.underlying4 _), (trodAll_cons_mk (Below.trod laidOut (by kernel_rfl) (of_decide_eq_true (by kernel_rfl)) k0 bel lt0) (trodAll_cons_mk (Below.trod laidOut (by kernel_rfl) (of_decide_eq_true (by kernel_rfl)) k1 bel lt1) trodAll_mk0)), rfl, bel.frame _, fun h => by cases h⟩

theorem over : Rows.fnNoLeakRow.holds Try.pinned (OpenSpec.ofChange Rows.fnNoLeakSpec) :=
  OpenClaim.holds_of_wide 3 Try.f3 rfl rfl rfl rfl rfl rfl rfl ⟨rfl, rfl, rfl, rfl, rfl⟩ rfl rfl rfl rfl rfl (by kernel_rfl) Try.func3 (by kernel_rfl)
    (of_decide_eq_true (by kernel_rfl)) (by unfold Func.isWrapper; first | (rw [if_pos (by decide +kernel)]; kernel_rfl) | (rw [if_neg (by decide +kernel)]; exact ⟨rfl, rfl⟩))
    (fun os started H enc _ => lifted os started H enc)

/-- THE STATEMENT -/
theorem proved : Rows.FnNoLeakSaid := over
#print axioms proved
end Go.Proofs.Ythgjcplkladepaa.fnNoLeak
