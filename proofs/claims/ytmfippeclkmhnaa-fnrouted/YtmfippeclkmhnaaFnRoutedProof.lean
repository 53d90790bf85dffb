/-
  Proved here: the Go function laws.FnRouted, called with any arguments that can be read, returns true, and each argument reads afterwards as it read before ('Rows.FnRoutedSaid', no condition beyond the row's own). The frame was written by the guide's program; the walk and its contracts are by hand.
-/
import Derived.Test.YtmfippeclkmhnaaRows
import Derived.WalkKit
import Derived.ProofKit
import Derived.OpenShut
import Derived.ShutString
import Derived.ChangeOld
import Derived.Below
import Derived.Test.YtmfippeclkmhnaaDrawAs
import Derived.Test.YtmfippeclkmhnaaRtJ
import Derived.Test.YtmfippeclkmhnaaRtS
import Derived.Test.YtmfippeclkmhnaaRtP
namespace Go.Proofs.Ytmfippeclkmhnaa.fnRouted
open Go.ChangeShapes Go.WideShapes Go.ChangeAt Go.RowKit
open Go.ChangeMaps (open_string shut_string)
set_option linter.unusedVariables false

theorem own : ownKnob Try.prog.godebug = none := by kernel_rfl
theorem laidOut : laidOutB Try.prog = true := by kernel_rfl

/-- WHAT THE WALK IS TOLD OF A SLICE OF INTEGERS THAT CAME IN: it is nil; or it leads to a row of 'cap' cells, the numbers 'zs' (the first 'len' are its elements, the rest its spare room), each fitting its kind. -/
def IsRow (k : IntKind) (w : World) (a : Option Addr) (len cap : Nat) (zs : List Int) : Prop :=
  (a = none ∧ len = 0 ∧ cap = 0 ∧ zs = []) ∨
  ∃ x, a = some x ∧ len ≤ cap ∧ cap ≤ maxLen ∧ zs.length = cap ∧ (∀ i, i < zs.length → w.cell? (x.add i) = some (.int k (zs.getD i 0))) ∧ ∀ n ∈ zs, (Lit.int k n).wf = true

/-! ### STEP 1: THE WALK: the Go text returns true, AND WRITES NOTHING THAT WAS THERE: 'Below w.heap.size w w'' (Derived/Below.lean: '.refl', '.alloc', '.drew', '.setCell' at a new block, '.trans'). Open each 'IsRow' by 'rcases' AHEAD of 'go_enter'; part every test ahead of the walk. -/
set_option maxRecDepth 100000 in
set_option maxHeartbeats 40000000 in
theorem walk (a0 : Option Addr) (len0 cap0 : Nat) (z0 : List Int) (w : World) (w0 : IsRow .u8 w a0 len0 cap0 z0) :
    Calls Try.prog 4 #[.slice a0 len0 cap0] w fun e w' => e = .returned (.bool true) ∧ Below w.heap.size w w' := by
  have key : ∀ (a : Option Addr) (len cap : Nat) (z : List Int), IsRow .u8 w a len cap z → Cu.Bytes w w.heap.size a len := by
    intro a len cap z h
    rcases h with ⟨rfl, rfl, rfl, rfl⟩ | ⟨x, rfl, hl, _, hz, hc, hw⟩
    · exact .inl rfl
    · exact Cu.bytes_of _ (Nat.le_refl _) hl hz hc hw
  have B0 := key _ _ _ _ w0
  clear key w0
  by_cases hb0 : 1048576 < len0
  · have e0 : decide (1048576 < len0) = true := by simpa using hb0
    go_enter Try.func4, Try.ntmps4
    go_wp2_with (go_at_call 5; refine (Cu.big_any _ _ _ _).mono ?_; rintro e w' ⟨rfl, hw⟩; subst w')
    go_ret
    exact ⟨rfl, Below.refl _ _⟩
  have e0 : decide (1048576 < len0) = false := by simpa using hb0
  have lcall : ∀ {w8 wr : World} {d0 d1 ya : Option Addr} {f0 f1 yc : Nat} {t : Tr.T} {y : List Int}, Tm.IsP w8 d0 t.sp → Li.IsL w8 d1 t.lv → Li.IsL wr ya y → Below w8.heap.size w8 wr → y.length = 6 → t.sp.length + t.lv.length ≤ 100 → Calls Try.prog 18 #[.agg #[.slice d0 t.sp.length f0, .slice d1 t.lv.length f1], .slice ya 6 yc] wr.drew fun e w' => e = .returned (.int .i64 (Tr.leafOf t y)) ∧ Below wr.heap.size wr w' := by
    intro w8 wr d0 d1 ya f0 f1 yc t y hp hx hy hb h6 hl
    have hb' : Below w8.heap.size w8 wr.drew := hb.trans ((Tm.below_drew wr).mono hb.size)
    have := Tw.ileaf wr.drew d0 d1 ya f0 f1 yc t y (hp.below hb') (hx.below hb') hy (by omega) (by omega)
    rw [h6] at this
    exact this.mono (fun e w' h => ⟨h.1, (Tm.below_drew wr).trans h.2⟩)
  have LC : Hid (type_of% @lcall) := @lcall
  clear lcall
  go_enter Try.func4, Try.ntmps4
  go_wp2_with (go_at_call 5; refine (Cu.big_any _ _ _ _).mono ?_; rintro e w' ⟨rfl, hw⟩; subst w')
  refine (Dr.drawRouted_any _ _ _ _ B0 (by omega)).mono ?_
  rintro e w1 ⟨b0, c0, b1, c1, b2, c2, r, d0, d1, f0, f1, t, rfl, hsm, htl, hp, hx, hr, hB⟩
  have HSM : Hid (Dr.Small r) := hsm
  have HSZ : Hid ((Rt.routed r t).ids.length ≤ 1000000) := by
    show _ ≤ _
    have h1 := Rt.szr_routed r t
    have h2 : Sv.szr r ≤ 1000 := Dr.small_sz hsm
    have h3 : (Rt.routed r t).ids.length ≤ Sv.szr (Rt.routed r t) := by unfold Sv.szr; omega
    omega
  clear B0 hb0 e0 hsm
  go_wp2_with fail
  obtain ⟨W, hW, hsz, hBW, bx, bt⟩ := Sv.new2 w1 [.slice b0 r.x.length c0, .slice b1 r.g.length c1, .slice b2 r.ids.length c2, .int .i64 r.lv, .int .i64 r.l2] [.slice d0 t.sp.length f0, .slice d1 t.lv.length f1] 27 42
  rw [hW]
  refine (Rt.irouted W _ _ _ _ _ _ _ _ _ _ r t (hr.below hBW) (hp.below hBW) (hx.below hBW) (by omega)).mono ?_
  rintro e w2 ⟨v0, v1, v2, rfl, ho, hb⟩
  obtain ⟨q, hq⟩ : ∃ q, Rt.routed r t = q := ⟨_, rfl⟩
  have HQ : Hid (Rt.routed r t = q) := hq
  rw [hq] at ho ⊢
  have hqz : q.ids.length ≤ 1000000 := by
    rw [← hq]
    exact HSZ.out
  obtain ⟨g0, k0, g1, k1, g2, k2, rfl, rfl, rfl, hrd⟩ := ho.rd
  have hB := hB.trans ((hBW.mono (Nat.le_refl _)).trans (hb.mono hBW.size) |>.mono hB.size)
  have bx := bx.below hb
  have bt := bt.below hb
  have hr := (hr.below hBW).below hb
  have hp := (hp.below hBW).below hb
  have hx := (hx.below hBW).below hb
  clear hW hsz hBW hb ho hq
  obtain ⟨_, ⟨x0, x1, x2, x3, x4⟩, _⟩ := Sv.wr5 bx
  obtain ⟨_, ⟨t0, t1⟩, _⟩ := Sv.wr2 bt
  go_wp2_with fail
  obtain ⟨W3, hW3, hsz3, hb3, bq⟩ := Sv.new1 w2 [.slice g0 q.x.length k0, .slice g1 q.g.length k1, .slice g2 q.ids.length k2, .int .i64 q.lv, .int .i64 q.l2] 27
  rw [hW3]
  refine (Rt.srouted W3 _ _ _ _ _ _ _ _ _ _ r t (hr.below hb3) (hp.below hb3) (hx.below hb3) (by omega)).mono ?_
  rintro e w4 ⟨v0, v1, v2, rfl, ho, hb4⟩
  have hb34 := hb3.trans (hb4.mono hb3.size)
  rw [HQ.out] at ho ⊢
  obtain ⟨h0, j0, h1, j1, h2, j2, rfl, rfl, rfl, hrd2⟩ := ho.rd
  have hB := hB.trans (hb34.mono hB.size)
  have bx := bx.below hb34
  have bt := bt.below hb34
  have bq := bq.below hb4
  have hr := hr.below hb34
  have hp := hp.below hb34
  have hx := hx.below hb34
  have hrd := hrd.below hb34
  obtain ⟨P, hP⟩ : ∃ P, w1.heap.size = P := ⟨_, rfl⟩
  obtain ⟨N, hN⟩ : ∃ N, w2.heap.size = N := ⟨_, rfl⟩
  rw [hP] at bx bt x0 x1 x2 x3 x4 t0 t1 ⊢
  rw [hN] at bq ⊢
  clear hW3 hsz3 hb3 hb4 ho x0 x1 x2 x3 x4 t0 t1
  obtain ⟨hlq, ⟨x0, x1, x2, x3, x4⟩, _⟩ := Sv.wr5 bq
  go_wp2_with fail
  obtain ⟨W5, hW5, hsz5, hb5, bw⟩ := Sv.new1 w4 [.slice h0 q.x.length j0, .slice h1 q.g.length j1, .slice h2 q.ids.length j2, .int .i64 q.lv, .int .i64 q.l2] 27
  rw [hW5]
  have hB := hB.trans (hb5.mono hB.size)
  have bx := bx.below hb5
  have bt := bt.below hb5
  have bq := bq.below hb5
  have hr := hr.below hb5
  have hp := hp.below hb5
  have hx := hx.below hb5
  have hrd := hrd.below hb5
  have hrd2 := hrd2.below hb5
  obtain ⟨M, hM⟩ : ∃ M, w4.heap.size = M := ⟨_, rfl⟩
  rw [hM] at bw ⊢
  clear hW5 hsz5 hb5 hb34 hlq x0 x1 x2 x3 x4
  refine (Li.same_bel _ _ _ _ _ q.ids q.ids hrd.2.2 hrd2.2.2 (by omega) (by omega)).mono ?_
  rintro e w6 ⟨rfl, hb6⟩
  rw [Li.eqs_self]
  have hB := hB.trans (hb6.mono hB.size)
  have bx := bx.below hb6
  have bt := bt.below hb6
  have bq := bq.below hb6
  have bw := bw.below hb6
  have hr := hr.below hb6
  have hp := hp.below hb6
  have hx := hx.below hb6
  have hrd := hrd.below hb6
  clear hb6 hrd2
  obtain ⟨hlq, ⟨x0, x1, x2, x3, x4⟩, _⟩ := Sv.wr5 bq
  obtain ⟨hlw, ⟨y0, y1, y2, y3, y4⟩, _⟩ := Sv.wr5 bw
  obtain ⟨hlr, ⟨z0, z1, z2, z3, z4⟩, _⟩ := Sv.wr5 bx
  obtain ⟨hlt, ⟨t0, t1⟩, _⟩ := Sv.wr2 bt
  have q0 : (q.lv != q.lv) = false := by simp
  go_wp2_with fail
  refine (Sw7.srows _ _ _ _ _ _ _ r hr).mono ?_
  rintro e w7 ⟨rfl, hb7⟩
  have hB := hB.trans (hb7.mono hB.size)
  have bx := bx.below hb7
  have bt := bt.below hb7
  have bq := bq.below hb7
  have hr := hr.below hb7
  have hp := hp.below hb7
  have hx := hx.below hb7
  have hrd := hrd.below hb7
  clear hb7 x0 x1 x2 x3 x4 y0 y1 y2 y3 y4 hlq hlw z0 z1 z2 z3 z4 hlr t0 t1 hlt bw
  obtain ⟨hlq, ⟨x0, x1, x2, x3, x4⟩, _⟩ := Sv.wr5 bq
  obtain ⟨hlr, ⟨z0, z1, z2, z3, z4⟩, _⟩ := Sv.wr5 bx
  obtain ⟨hlt, ⟨t0, t1⟩, _⟩ := Sv.wr2 bt
  have HB : Hid (type_of% hB) := hB
  clear hB
  by_cases hrt : Rt.rtok r t = true
  rotate_left
  · have hq0 : q.lv = 0 := by
      rw [← HQ.out, Rt.routed_no (by simpa using hrt)]
    have hqd : (q.lv == 0) = true := by rw [hq0]; rfl
    clear hq0
    cases hu : Se.rok r with
    | false =>
      clear hrt
      go_wp2_with fail
      go_ret
      exact ⟨rfl, HB.out⟩
    | true =>
      by_cases h1 : r.lv = 1
      · have hne : (r.lv != 1) = false := by simp [h1]
        have htk : Tr.tok t = false := by
          cases h : Tr.tok t
          · rfl
          · exact absurd (Rt.rtok_iff.2 ⟨hu, h1, h⟩) hrt
        have HBQ : Hid (type_of% bq) := bq
        have HP : Hid (type_of% hp) := hp
        have HX : Hid (type_of% hx) := hx
        clear h1 hrt hu bq bx bt hr hp hx hrd
        go_wp2_with (go_at_call 17; refine (Tw.stok _ _ _ _ _ t HP.out HX.out (by omega)).mono ?_; rintro e w8 ⟨rfl, hb8⟩; rw [htk]; have HB8 : Hid (Below w7.heap.size w7 w8) := hb8; obtain ⟨hlq8, ⟨k0, k1, k2, k3, k4⟩, _⟩ := Sv.wr5 (HBQ.out.below hb8); clear hb8)
        go_ret
        exact ⟨rfl, HB.out.trans (HB8.out.mono HB.out.size)⟩
      · have hne : (r.lv != 1) = true := by simpa using h1
        clear h1 hrt hu bq bx bt hr hp hx hrd
        go_wp2_with fail
        go_ret
        exact ⟨rfl, HB.out⟩
  obtain ⟨hu, h1, htk⟩ := Rt.rtok_iff.1 hrt
  have hne : (r.lv != 1) = false := by simp [h1]
  have HBQ : Hid (type_of% bq) := bq
  have HBX : Hid (type_of% bx) := bx
  have HBT : Hid (type_of% bt) := bt
  have HP : Hid (type_of% hp) := hp
  have HX : Hid (type_of% hx) := hx
  have HR : Hid (type_of% hr) := hr
  have HRD : Hid (type_of% hrd) := hrd
  have HT : Hid (Rt.rtok r t = true) := hrt
  have hx40 : r.x.length ≤ 40 := (Se.rok_iff.1 hu).1.1
  have HX6 : Hid (∀ i, i < r.x.length → (r.x.getD i []).length = 6) := fun i hi => ((Se.rok_iff.1 hu).2 i hi).1
  rw [hu]
  clear h1 hrt hu bq bx bt hr hp hx hrd
  go_wp2_with (go_at_call 17; refine (Tw.stok _ _ _ _ _ t HP.out HX.out (by omega)).mono ?_; rintro e w8 ⟨rfl, hb8⟩; rw [htk]; have HB8 : Hid (Below w7.heap.size w7 w8) := hb8; clear hb8)
  clear x0 x1 x2 x3 x4 z0 z1 z2 z3 z4 t0 t1 htk hne q0 hlq hlr hlt
  have HBW : Hid (Below w.heap.size w w8) := HB.out.trans (HB8.out.mono HB.out.size)
  have HBQ : Hid (type_of% (HBQ.out.below HB8.out)) := HBQ.out.below HB8.out
  have HBX : Hid (type_of% (HBX.out.below HB8.out)) := HBX.out.below HB8.out
  have HBT : Hid (type_of% (HBT.out.below HB8.out)) := HBT.out.below HB8.out
  have HP : Hid (type_of% (HP.out.below HB8.out)) := HP.out.below HB8.out
  have HX : Hid (type_of% (HX.out.below HB8.out)) := HX.out.below HB8.out
  have HR : Hid (type_of% (HR.out.below HB8.out)) := HR.out.below HB8.out
  have HRD : Hid (type_of% (HRD.out.below HB8.out)) := HRD.out.below HB8.out
  clear HB HB8
  go_loopw [7] (fun i wr => ∃ k : Nat, k ≤ r.x.length ∧ i = .int .i64 k ∧ Below w8.heap.size w8 wr) (fun i _ => r.x.length - (intOf i).toNat)
  case atStart => exact ⟨0, Nat.zero_le _, rfl, Below.refl _ _⟩
  case round =>
    obtain ⟨k, hk, rfl, hbr⟩ := hrel
    have HBR : Hid (Below w8.heap.size w8 wr) := hbr
    obtain ⟨hlq, ⟨x0, x1, x2, x3, x4⟩, _⟩ := Sv.wr5 (HBQ.out.below hbr)
    obtain ⟨hlr, ⟨z0, z1, z2, z3, z4⟩, _⟩ := Sv.wr5 (HBX.out.below hbr)
    obtain ⟨hlt, ⟨t0, t1⟩, _⟩ := Sv.wr2 (HBT.out.below hbr)
    clear hbr
    by_cases hkl : k < r.x.length
    · have hki : (k : Int) < r.x.length := by omega
      have hql : q.ids.length = r.x.length := by rw [← HQ.out]; exact Rt.routed_len HT.out
      have hid : k < q.ids.length := by omega
      rcases (HRD.out.below HBR.out).2.2 with h0 | ⟨ib, io, ia, hib, hic⟩
      · exfalso; rw [h0] at hid; simp at hid
      subst ia
      rcases (HR.out.below HBR.out).1 with h0 | ⟨xb, xo, xa, hxb, hxc⟩
      · exfalso; rw [h0] at hkl; simp at hkl
      subst xa
      obtain ⟨ya, yc, hyc, hyi⟩ := hxc k hkl
      have hi1 := hic k hid
      obtain ⟨z, hz⟩ : ∃ z, q.ids[k] = z := ⟨_, rfl⟩
      obtain ⟨y, hy⟩ : ∃ y, r.x[k] = y := ⟨_, rfl⟩
      have hy6 : y.length = 6 := by
        have := HX6.out k hkl
        rw [List.getD_eq_getElem?_getD, List.getElem?_eq_getElem hkl] at this
        rw [← hy]; exact this
      have HZ : Hid (z = (Tr.leafOf t y : Nat)) := by
        show _ = _
        have h1 := Rt.routed_leaf HT.out k hkl
        rw [HQ.out, List.getD_eq_getElem?_getD, List.getElem?_eq_getElem hid, List.getD_eq_getElem?_getD, List.getElem?_eq_getElem hkl] at h1
        rw [← hz, ← hy]; exact h1
      rw [hz] at hi1
      rw [hy, hy6] at hyc
      rw [hy] at hyi
      have HYI : Hid (Li.IsL wr ya y) := hyi
      have HY6 : Hid (y.length = 6) := hy6
      have HQL : Hid (q.ids.length = r.x.length) := hql
      have hin : (k : Int) < q.ids.length := by omega
      clear hxc hic hz hy hy6 hyi hql
      go_wp2_with fail
      go_region_held3 (fun w' => w'.cell? ⟨N, 2, none⟩ = some (.slice (some ⟨ib, io, none⟩) q.ids.length k2) ∧ w'.cell? ⟨ib, io + k, none⟩ = some (.int .i64 z) ∧ w'.cell? ⟨P + 1, 0, none⟩ = some (.slice d0 t.sp.length f0) ∧ w'.cell? ⟨P + 1, 1, none⟩ = some (.slice d1 t.lv.length f1) ∧ w'.cell? ⟨P, 0, none⟩ = some (.slice (some ⟨xb, xo, none⟩) r.x.length c0) ∧ w'.cell? ⟨xb, xo + k, none⟩ = some (.slice ya 6 yc)) (go_keep) (first | (go_at_call 18; refine (LC.out HP.out HX.out HYI.out HBR.out HY6.out (by omega)).mono ?_; rintro e w9 ⟨rfl, hb9⟩; have HB9 : Hid (Below wr.heap.size wr w9) := hb9; obtain ⟨hlq9, ⟨x90, x91, x92, x93, x94⟩, _⟩ := Sv.wr5 ((HBQ.out.below HBR.out).below hb9); obtain ⟨hlr9, ⟨z90, z91, z92, z93, z94⟩, _⟩ := Sv.wr5 ((HBX.out.below HBR.out).below hb9); obtain ⟨hlt9, ⟨t90, t91⟩, _⟩ := Sv.wr2 ((HBT.out.below HBR.out).below hb9); have i9 : w9.cell? ⟨ib, io + k, none⟩ = some (.int .i64 z) := (hb9.cell (by exact hib)).trans hi1; have y9 : w9.cell? ⟨xb, xo + k, none⟩ = some (.slice ya 6 yc) := (hb9.cell (by exact hxb)).trans hyc; have hzz := HZ.out; subst hzz; clear hb9))
      all_goals
        have hzq : (((Tr.leafOf t y : Nat) : Int) != ((Tr.leafOf t y : Nat) : Int)) = false := by simp
        go_wp2
        go_roundw
        case rel => exact ⟨k + 1, by omega, by go_num, HBR.out.trans (HB9.out.mono HBR.out.size)⟩
        case measure => simp [intOf]; omega
    · obtain rfl : k = r.x.length := by omega
      have hki : ¬ (r.x.length : Int) < r.x.length := by omega
      have hql : (q.lv == (t.lv.length : Int)) = true := by rw [← HQ.out, Rt.routed_lv HT.out]; simp
      go_wp2
      go_ret
      exact ⟨rfl, HBW.out.trans (HBR.out.mono HBW.out.size)⟩

/-! ### THE ROW's STEP: WRITTEN OUT: LEAVE IT -/
set_option maxRecDepth 100000 in
theorem lifted (os : Os) (started : os.Started) (H : Type) (enc : TypeId × Value → H) :
    ReturnsInHanded {} Try.checked os 4 .any (Rows.fnRoutedSpec.pre6 enc Try.prog Try.f4 Rows.fnRoutedRow.domain false) (Rows.fnRoutedSpec.post enc Try.prog Try.f4 false true false false) := by
  refine returnsInHanded_of_change (C := Try.checked) own started (by kernel_rfl) Try.func4
    (ChangeSpec.witness6 (enc := enc) (C := Try.checked) false ⟨#[], #[.slice none 0 0], []⟩ 8 (by kernel_rfl) (by kernel_rfl) (by kernel_rfl) (by kernel_rfl)) ?_
  intro W base args ds gs before hval0 hW hcnd _
  have hval : ∀ (j : Nat) t v, Try.f4.params[j]? = some t → args[j]? = some v → Value.okWide Try.prog W .any base t v := hval0
  have hW' := hW
  obtain ⟨p, q, hA0, hV, rfl, hfz, hnd⟩ := hW
  have hA : DataW.TrodAll enc Try.prog W 0 (fun _ => true) true Try.f4.params.toList args.toList ds p := hA0
  rw [Try.params4] at hA hval
  obtain ⟨v0, vs0, d0, ds0, p0, q0, hargs, rfl, rfl, h0, r0⟩ := trodAll_cons hA
  obtain ⟨rfl, rfl, rfl⟩ := trodAll_nil r0
  obtain rfl : args = #[v0] := by cases args; simp_all
  obtain ⟨rfl, rfl⟩ := trodVars_none hV
  obtain ⟨a0, len0, cap0, rfl⟩ := okWide_slice Try.underlying22 (hval 0 22 v0 rfl rfl)
  have k0 := h0
  have lt0 : ∀ x ∈ p0, x.block < W.heap.size := by obtain ⟨m, hm⟩ := k0; exact DataW.trod_lt m _ _ _ hm
  obtain ⟨z0, w0⟩ : ∃ zs, IsRow .u8 W a0 len0 cap0 zs := by
    obtain ⟨fuel, hf⟩ := h0
    rcases open_ints Try.underlying22 Try.underlying5 (by kernel_rfl) hf with ⟨hcs, _⟩ | ⟨x, l, c, zs, hcs, _, hl, hm, hz, _, hcell, hwz⟩
    · simp [Value.cells] at hcs
      obtain ⟨rfl, rfl, rfl⟩ := hcs
      exact ⟨[], .inl ⟨rfl, rfl, rfl, rfl⟩⟩
    · simp [Value.cells] at hcs
      obtain ⟨rfl, rfl, rfl⟩ := hcs
      exact ⟨zs, .inr ⟨_, rfl, hl, hm, by simpa using hz, hcell, hwz⟩⟩
  clear hA0 hval0
  refine (walk a0 len0 cap0 z0 W w0).mono fun e W' ⟨he, bel⟩ => ?_
  subst he
  exact ⟨_, rfl, _, _, _, [], _, [], hW', trodAll_mk1 (shut_bool Try.underlying4 _), (trodAll_cons_mk (Below.trod laidOut (by kernel_rfl) (of_decide_eq_true (by kernel_rfl)) k0 bel lt0) trodAll_mk0), rfl, bel.frame _, fun h => by cases h⟩

theorem over : Rows.fnRoutedRow.holds Try.pinned (OpenSpec.ofChange Rows.fnRoutedSpec) :=
  OpenClaim.holds_of_wide 4 Try.f4 rfl rfl rfl rfl rfl rfl rfl ⟨rfl, rfl, rfl, rfl, rfl⟩ rfl rfl rfl rfl rfl (by kernel_rfl) Try.func4 (by kernel_rfl)
    (of_decide_eq_true (by kernel_rfl)) (by unfold Func.isWrapper; first | (rw [if_pos (by decide +kernel)]; kernel_rfl) | (rw [if_neg (by decide +kernel)]; exact ⟨rfl, rfl⟩))
    (fun os started H enc _ => lifted os started H enc)

/-- THE STATEMENT -/
theorem proved : Rows.FnRoutedSaid := over
#print axioms proved
end Go.Proofs.Ytmfippeclkmhnaa.fnRouted
