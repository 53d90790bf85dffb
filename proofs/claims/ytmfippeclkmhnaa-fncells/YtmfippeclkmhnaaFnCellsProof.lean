/-
  Proved here: the Go function laws.FnCells, called with any arguments that can be read, returns true, and each argument reads afterwards as it read before ('Rows.FnCellsSaid', no condition beyond the row's own). The frame was written by the guide's program; the walk and its contracts are by hand.
-/
import Derived.Test.YtmfippeclkmhnaaRows
import Derived.WalkKit
import Derived.ProofKit
import Derived.OpenShut
import Derived.ShutString
import Derived.ChangeOld
import Derived.Below
import Derived.Test.YtmfippeclkmhnaaDrawAs
import Derived.Test.YtmfippeclkmhnaaSeJ
import Derived.Test.YtmfippeclkmhnaaSeC
import Derived.Test.YtmfippeclkmhnaaSeZ
import Derived.Test.YtmfippeclkmhnaaSeT
import Derived.Test.YtmfippeclkmhnaaHeldE
namespace Go.Proofs.Ytmfippeclkmhnaa.fnCells
open Go.ChangeShapes Go.WideShapes Go.ChangeAt Go.RowKit
open Go.ChangeMaps (open_string shut_string)
set_option linter.unusedVariables false

theorem own : ownKnob Try.prog.godebug = none := by kernel_rfl
theorem laidOut : laidOutB Try.prog = true := by kernel_rfl

/-- WHAT THE WALK IS TOLD OF A SLICE OF INTEGERS THAT CAME IN: it is nil; or it leads to a row of 'cap' cells, the numbers 'zs' (the first 'len' are its elements, the rest its spare room), each fitting its kind. -/
def IsRow (k : IntKind) (w : World) (a : Option Addr) (len cap : Nat) (zs : List Int) : Prop :=
  (a = none ∧ len = 0 ∧ cap = 0 ∧ zs = []) ∨
  ∃ x, a = some x ∧ len ≤ cap ∧ cap ≤ maxLen ∧ zs.length = cap ∧ (∀ i, i < zs.length → w.cell? (x.add i) = some (.int k (zs.getD i 0))) ∧ ∀ n ∈ zs, (Lit.int k n).wf = true

/-! ### STEP 1: THE WALK: the Go text returns true, AND WRITES NOTHING THAT WAS THERE: 'Below w.heap.size w w'' (Derived/Below.lean: '.refl', '.alloc', '.drew', '.setCell' at a new block, '.trans'). Open each 'IsRow' by 'rcases' AHEAD of 'go_enter'; part every test ahead of the walk. -/
set_option maxRecDepth 100000 in
set_option maxHeartbeats 40000000 in
theorem walk (a0 : Option Addr) (len0 cap0 : Nat) (z0 : List Int) (w : World) (w0 : IsRow .u8 w a0 len0 cap0 z0) :
    Calls Try.prog 3 #[.slice a0 len0 cap0] w fun e w' => e = .returned (.bool true) ∧ Below w.heap.size w w' := by
  have key : ∀ (a : Option Addr) (len cap : Nat) (z : List Int), IsRow .u8 w a len cap z → Cu.Bytes w w.heap.size a len := by
    intro a len cap z h
    rcases h with ⟨rfl, rfl, rfl, rfl⟩ | ⟨x, rfl, hl, _, hz, hc, hw⟩
    · exact .inl rfl
    · exact Cu.bytes_of _ (Nat.le_refl _) hl hz hc hw
  have B0 := key _ _ _ _ w0
  clear key w0
  by_cases hb0 : 1048576 < len0
  · have e0 : decide (1048576 < len0) = true := by simpa using hb0
    go_enter Try.func3, Try.ntmps3
    go_wp2_with (go_at_call 5; refine (Cu.big_any _ _ _ _).mono ?_; rintro e w' ⟨rfl, hw⟩; subst w')
    go_ret
    exact ⟨rfl, Below.refl _ _⟩
  have e0 : decide (1048576 < len0) = false := by simpa using hb0
  have scall0 : ∀ {X w8 : World} {ad : Option Addr} {cd m : Nat} {ds : List (Int × Int)} {l2 : Int}, Tm.IsP X ad ds → Below X.heap.size X w8 → ds.length = m → ds.length ≤ 1048576 → Calls Try.prog 12 #[.slice ad m cd, .int .i64 l2] w8 fun e w' => e = .returned (.int .i64 (Se.score ds l2)) ∧ Below w8.heap.size w8 w' := by
    intro X w8 ad cd m ds l2 hp hb hm hl
    subst hm
    exact Sw7.sscore w8 ad cd ds l2 (hp.below hb) hl
  have SCL : Hid (type_of% @scall0) := @scall0
  clear scall0
  go_enter Try.func3, Try.ntmps3
  go_wp2_with (go_at_call 5; refine (Cu.big_any _ _ _ _).mono ?_; rintro e w' ⟨rfl, hw⟩; subst w')
  refine (Dr.drawAsked_any _ _ _ _ B0 (by omega)).mono ?_
  rintro e w1 ⟨b0, c0, b1, c1, b2, c2, r, f, b, rfl, hsm, hr, hB⟩
  clear B0 hb0 e0
  have HSM : Hid (Dr.Small r) := hsm
  clear hsm
  go_wp2_with fail
  obtain ⟨W, hW, hsz, hBW, bx, bs⟩ := Sv.new2 w1 [.slice b0 r.x.length c0, .slice b1 r.g.length c1, .slice b2 r.ids.length c2, .int .i64 r.lv, .int .i64 r.l2] [.int .i64 f, .int .i64 b] 27 29
  rw [hW]
  refine (Sw7.icellsof W _ _ _ _ _ _ r (hr.below hBW)).mono ?_
  rintro e w2 ⟨v, rfl, oc, hb2⟩
  obtain ⟨cs, hcs⟩ : ∃ cs, Se.cells r = cs := ⟨_, rfl⟩
  have HCS : Hid (Se.cells r = cs) := hcs
  rw [hcs] at oc
  obtain ⟨ac, cc, rfl, hp⟩ := oc.isp
  have hcl : cs.length ≤ 16 := by rw [← hcs]; exact Sw7.cells_le r
  have hB := hB.trans ((hBW.trans (hb2.mono hBW.size)).mono hB.size)
  have bx := bx.below hb2
  have bs := bs.below hb2
  have hr := (hr.below hBW).below hb2
  obtain ⟨P, hP⟩ : ∃ P, w1.heap.size = P := ⟨_, rfl⟩
  rw [hP] at bx bs ⊢
  clear hW hsz hBW hb2 oc hcs
  obtain ⟨_, ⟨x0, x1, x2, x3, x4⟩, _⟩ := Sv.wr5 bx
  go_wp2_with fail
  refine (Sw7.srows _ _ _ _ _ _ _ r hr).mono ?_
  rintro e w3 ⟨rfl, hb3⟩
  have hB := hB.trans (hb3.mono hB.size)
  have bx := bx.below hb3
  have bs := bs.below hb3
  have hr := hr.below hb3
  have hp := hp.below hb3
  clear hb3 x0 x1 x2 x3 x4
  have HB : Hid (type_of% hB) := hB
  have HBX : Hid (type_of% bx) := bx
  have HBS : Hid (type_of% bs) := bs
  have HR : Hid (type_of% hr) := hr
  have HP : Hid (type_of% hp) := hp
  obtain ⟨n, hn⟩ : ∃ n, cs.length = n := ⟨_, rfl⟩
  have HN : Hid (cs.length = n) := hn
  rw [hn] at hcl ⊢
  clear hB bx bs hr hp hn
  cases hu : Se.rok r with
  | false =>
    have hz : n = 0 := by rw [← HN.out, ← HCS.out, Se.cells_no hu]; rfl
    subst hz
    go_wp2_with fail
    go_ret
    exact ⟨rfl, HB.out⟩
  | true =>
    have HU : Hid (Se.rok r = true) := hu
    have hx40 : r.x.length ≤ 40 := (Se.rok_iff.1 hu).1.1
    have HG : Hid (r.g.length = r.x.length) := (Se.rok_iff.1 hu).1.2.1
    have HCK : Hid (∀ k, k < n → Se.cok (cs.getD k (0, 0))) := fun k hk => by
      have hk' : k < cs.length := by rw [HN.out]; exact hk
      have h1 := Se.cells_cok HU.out
      rw [HCS.out] at h1
      rw [List.getD_eq_getElem?_getD, List.getElem?_eq_getElem hk']
      exact h1 _ (List.getElem_mem hk')
    clear hu
    go_wp2_with fail
    go_loopw [6, 7, 9] (fun nn gg i wr => ∃ k : Nat, k ≤ n ∧ i = .int .i64 k ∧ ∃ s t : Int, s = Se.sn cs k ∧ t = Se.sg cs k ∧ 0 ≤ s ∧ s ≤ 40 * k ∧ -80000000 * k ≤ t ∧ t ≤ 80000000 * k ∧ nn = .int .i64 s ∧ gg = .int .i64 t ∧ wr = w3) (fun _ _ i _ => n - (intOf i).toNat)
    case atStart => exact ⟨0, Nat.zero_le _, rfl, 0, 0, rfl, rfl, by omega, by omega, by omega, by omega, rfl, rfl, rfl⟩
    case round =>
      obtain ⟨k, hk, rfl, s, t, hs, ht, s0, s1, t0, t1, rfl, rfl, rfl⟩ := hrel
      have HS : Hid (s = Se.sn cs k) := hs
      have HT : Hid (t = Se.sg cs k) := ht
      clear hs ht
      by_cases hkn : k < n
      · rcases HP.out with h0 | ⟨cb, co, rfl, hcb, hcc⟩
        · exfalso; have := HN.out; rw [h0] at this; simp at this; omega
        obtain ⟨q0, q1⟩ := hcc k (by rw [HN.out]; exact hkn)
        have hck := HCK.out k hkn
        obtain ⟨N, hN⟩ : ∃ N, (cs[k]'(by rw [HN.out]; exact hkn)).1 = N := ⟨_, rfl⟩
        obtain ⟨G, hG⟩ : ∃ G, (cs[k]'(by rw [HN.out]; exact hkn)).2 = G := ⟨_, rfl⟩
        have hgd : cs.getD k (0, 0) = (N, G) := by rw [List.getD_eq_getElem?_getD, List.getElem?_eq_getElem (by rw [HN.out]; exact hkn), Option.getD_some, ← hN, ← hG]
        rw [hgd] at hck
        obtain ⟨⟨n0, n1⟩, g0, g1⟩ := hck
        simp only at n0 n1 g0 g1
        rw [hN] at q0
        rw [hG] at q1
        have HS1 : Hid (s + N = Se.sn cs (k + 1)) := by show _ = _; simp only [Se.sn]; rw [hgd, ← HS.out]
        have HT1 : Hid (t + G = Se.sg cs (k + 1)) := by show _ = _; simp only [Se.sg]; rw [hgd, ← HT.out]
        clear hcc hN hG hgd
        have hki : (k : Int) < n := by omega
        go_wp2
        go_roundw
        case rel => exact ⟨k + 1, by omega, by go_num, s + N, t + G, HS1.out, HT1.out, by omega, by omega, by omega, by omega, by go_num, by go_num, by first | rfl | trivial⟩
        case measure => simp [intOf]; omega
      · obtain rfl : k = n := by omega
        have hki : ¬ (k : Int) < k := by omega
        have HSX : Hid (s = r.x.length) := by
          show _ = _
          have := Se.cells_sn HU.out
          rw [HCS.out, HN.out] at this
          rw [HS.out]; exact this
        have HTX : Hid (t = Se.sm r.g r.g.length) := by
          show _ = _
          have := Se.cells_sg HU.out
          rw [HCS.out, HN.out] at this
          rw [HT.out]; exact this
        have HLV : Hid ((k : Int) = r.lv) := by
          show _ = _
          have := Se.cells_len HU.out
          rw [HCS.out, HN.out] at this
          exact this
        go_wp2_with fail
        obtain ⟨g, hgl⟩ : ∃ g, r.g.length = g := ⟨_, rfl⟩
        have HGL : Hid (r.g.length = g) := hgl
        have hg40 : g ≤ 40 := by rw [← hgl, HG.out]; exact hx40
        have HBX3 : Hid (type_of% HBX.out) := HBX.out
        have HGR : Hid (∀ i, i < g → -2000000 ≤ r.g.getD i 0 ∧ r.g.getD i 0 ≤ 2000000) := fun i hi => ((Se.rok_iff.1 HU.out).2 i (by have := HG.out; have := HGL.out; omega)).2.1
        clear hgl
        go_loopw [8, 10] (fun aa i wr' => ∃ j : Nat, j ≤ g ∧ i = .int .i64 j ∧ ∃ u : Int, u = Se.sm r.g j ∧ -2000000 * j ≤ u ∧ u ≤ 2000000 * j ∧ aa = .int .i64 u ∧ wr' = wr) (fun _ i _ => g - (intOf i).toNat)
        case atStart => exact ⟨0, Nat.zero_le _, rfl, 0, rfl, by omega, by omega, rfl, rfl⟩
        case round =>
          obtain ⟨j, hj, rfl, u, hu, u0, u1, rfl, rfl⟩ := hrel
          have HV : Hid (u = Se.sm r.g j) := hu
          clear hu
          obtain ⟨hlx, ⟨x0, x1, x2, x3, x4⟩, _⟩ := Sv.wr5 HBX3.out
          rw [HGL.out] at x1
          by_cases hjg : j < g
          · have hjl : j < r.g.length := by rw [HGL.out]; exact hjg
            rcases HR.out.2.1 with h0 | ⟨cb, co, rfl, hcb, hcc⟩
            · exfalso; rw [h0] at hjl; simp at hjl
            have q0 := hcc j hjl
            have hck := HGR.out j hjg
            obtain ⟨N, hN⟩ : ∃ N, r.g[j] = N := ⟨_, rfl⟩
            have hgd : r.g.getD j 0 = N := by rw [List.getD_eq_getElem?_getD, List.getElem?_eq_getElem hjl, Option.getD_some, ← hN]
            rw [hgd] at hck
            rw [hN] at q0
            have HV1 : Hid (u + N = Se.sm r.g (j + 1)) := by show _ = _; simp only [Se.sm]; rw [hgd, ← HV.out]
            obtain ⟨n0, n1⟩ := hck
            clear hcc hN hgd
            have hki : (j : Int) < g := by omega
            go_wp2
            go_roundw
            case rel => exact ⟨j + 1, by omega, by go_num, u + N, HV1.out, by omega, by omega, by go_num, by first | rfl | trivial⟩
            case measure => simp [intOf]; omega
          · obtain rfl : j = g := by omega
            have hji : ¬ (j : Int) < j := by omega
            have hut : u = t := by rw [HV.out, HTX.out, HGL.out]
            have hd1 : ((k : Int) != r.lv) = false := by rw [HLV.out]; simp
            have hd2 : (s != (r.x.length : Int)) = false := by rw [HSX.out]; simp
            have hd3 : (t != u) = false := by rw [hut]; simp
            clear hut
            obtain ⟨hls, ⟨y0, y1⟩, _⟩ := Sv.wr2 HBS.out
            go_wp2_with fail
            rw [show (Value.slice b1 j c1) = Value.slice b1 r.g.length c1 by rw [HGL.out]]
            refine (Sw7.iasked _ _ _ _ _ _ _ r f b HR.out).mono ?_
            rintro e w4 ⟨v0, v1, v2, rfl, ho, hb4⟩
            obtain ⟨q, hq⟩ : ∃ q, Se.asked r f b = q := ⟨_, rfl⟩
            have HQ : Hid (Se.asked r f b = q) := hq
            rw [hq] at ho ⊢
            obtain ⟨g0, k0, g1, k1, g2, k2, rfl, rfl, rfl, hrd⟩ := ho.rd
            obtain ⟨W5, hW5, hsz5, hb5, bq⟩ := Sv.new1 w4 [.slice g0 q.x.length k0, .slice g1 q.g.length k1, .slice g2 q.ids.length k2, .int .i64 q.lv, .int .i64 q.l2] 27
            have hb45 := hb4.trans (hb5.mono hb4.size)
            have HB4 : Hid (Below w.heap.size w w4) := HB.out.trans (hb4.mono HB.out.size)
            have HB5 : Hid (Below w.heap.size w W5) := HB.out.trans (hb45.mono HB.out.size)
            have HRD : Hid (type_of% (hrd.below hb5)) := hrd.below hb5
            have HR5 : Hid (type_of% (HR.out.below hb45)) := HR.out.below hb45
            have HP5 : Hid (type_of% (HP.out.below hb45)) := HP.out.below hb45
            have HBQ : Hid (type_of% bq) := bq
            have HBX5 : Hid (type_of% (HBX.out.below hb45)) := HBX.out.below hb45
            have HBS5 : Hid (type_of% (HBS.out.below hb45)) := HBS.out.below hb45
            obtain ⟨hlx4, ⟨u0', u1', u2', u3', u4'⟩, _⟩ := Sv.wr5 (HBX.out.below hb4)
            obtain ⟨hls4, ⟨z0', z1'⟩, _⟩ := Sv.wr2 (HBS.out.below hb4)
            have hWq : Hid (w4.alloc (.cells #[.slice g0 q.x.length k0, .slice g1 q.g.length k1, .slice g2 q.ids.length k2, .int .i64 q.lv, .int .i64 q.l2] 27) = W5) := hW5
            clear ho hq hrd hW5 hsz5 hb5 hb4 hb45 bq x0 x1 x2 x3 x4 y0 y1 hlx hls hd1 hd2 hd3
            by_cases hcan : Se.can r f = true
            rotate_left
            · have hq0 : q = ⟨[], [], [], 0, 0⟩ := by rw [← HQ.out, Se.asked_no b (by simpa using hcan)]
              subst hq0
              have hc3 : 8 < r.lv ∨ f < 0 ∨ 6 ≤ f := by
                by_cases h : 8 < r.lv
                · exact .inl h
                · by_cases h2 : f < 0
                  · exact .inr (.inl h2)
                  · by_cases h3 : 6 ≤ f
                    · exact .inr (.inr h3)
                    · exact absurd (Se.can_iff.2 ⟨Se.rok_iff.1 HU.out, by omega, by omega, by omega⟩) hcan
              clear hcan
              by_cases h8 : 8 < r.lv
              · go_wp2_with fail
                go_ret
                exact ⟨rfl, HB4.out.alloc HB4.out.size _⟩
              · by_cases hf : f < 0
                · go_wp2_with fail
                  go_ret
                  exact ⟨rfl, HB4.out.alloc HB4.out.size _⟩
                · have hf6 : 6 ≤ f := by omega
                  go_wp2_with fail
                  go_ret
                  exact ⟨rfl, HB4.out.alloc HB4.out.size _⟩
            have h8 := (Se.can_iff.1 hcan).2.1
            have hf0 := (Se.can_iff.1 hcan).2.2.1
            have hf5 := (Se.can_iff.1 hcan).2.2.2
            have HCAN : Hid (Se.can r f = true) := hcan
            have h8' : ¬ 8 < r.lv := by omega
            have hf0' : ¬ f < 0 := by omega
            have hf6' : ¬ 6 ≤ f := by omega
            clear hcan h8 hf0 hf5
            go_wp2_with fail
            rw [hWq.out]
            refine (Sw7.icellsof _ _ _ _ _ _ _ q HRD.out).mono ?_
            rintro e w6 ⟨v, rfl, oc, hb6⟩
            obtain ⟨ds, hds⟩ : ∃ ds, Se.cells q = ds := ⟨_, rfl⟩
            have HDS : Hid (Se.cells q = ds) := hds
            rw [hds] at oc
            obtain ⟨ad, cd, rfl, hpd⟩ := oc.isp
            have hdl : ds.length = 2 * k := by rw [← hds, ← HQ.out, Se.parts_len b HCAN.out, HCS.out, HN.out]
            have hdle : ds.length ≤ 16 := by rw [← hds]; exact Sw7.cells_le q
            obtain ⟨m, hm⟩ : ∃ m, ds.length = m := ⟨_, rfl⟩
            have HM : Hid (ds.length = m) := hm
            rw [hm] at hdl hdle ⊢
            have HB6 : Hid (Below w.heap.size w w6) := HB5.out.trans (hb6.mono HB5.out.size)
            have HRD : Hid (type_of% (HRD.out.below hb6)) := HRD.out.below hb6
            have HR5 : Hid (type_of% (HR5.out.below hb6)) := HR5.out.below hb6
            have HP5 : Hid (type_of% (HP5.out.below hb6)) := HP5.out.below hb6
            have HBQ : Hid (type_of% (HBQ.out.below hb6)) := HBQ.out.below hb6
            have HBX5 : Hid (type_of% (HBX5.out.below hb6)) := HBX5.out.below hb6
            have HBS5 : Hid (type_of% (HBS5.out.below hb6)) := HBS5.out.below hb6
            have HPD : Hid (type_of% hpd) := hpd
            obtain ⟨hlq6, ⟨x0, x1, x2, x3, x4⟩, _⟩ := Sv.wr5 HBQ.out
            have HDL : Hid (m = 2 * k) := hdl
            have hk8 : k ≤ 8 := by omega
            have hwk : IntKind.i64.wrap (2 * (k : Int)) = (m : Int) := by rw [IntKind.wrap_i64]; omega
            have hmm : ((m : Int) != (m : Int)) = false := by simp
            clear hb6 oc hds hpd hm hdl u0' u1' u2' u3' u4' z0' z1' hlx4 hls4 hWq h8' hf0' hf6'
            go_wp2_with fail
            refine (Sw7.irows _ _ _ _ _ _ _ q HRD.out).mono ?_
            rintro e w7 ⟨rfl, hb7⟩
            rw [show Se.rok q = true by rw [← HQ.out]; exact Se.asked_rok b HCAN.out]
            have HB7 : Hid (Below w.heap.size w w7) := HB6.out.trans (hb7.mono HB6.out.size)
            have HR5 : Hid (type_of% (HR5.out.below hb7)) := HR5.out.below hb7
            have HP5 : Hid (type_of% (HP5.out.below hb7)) := HP5.out.below hb7
            have HBX5 : Hid (type_of% (HBX5.out.below hb7)) := HBX5.out.below hb7
            have HBS5 : Hid (type_of% (HBS5.out.below hb7)) := HBS5.out.below hb7
            have HPD : Hid (type_of% (HPD.out.below hb7)) := HPD.out.below hb7
            clear hb7 x0 x1 x2 x3 x4 hlq6
            go_wp2_with fail
            have HKN : Hid (cs.length = k) := HN.out
            go_loopw [13] (fun i wr7 => ∃ z : Nat, z ≤ k ∧ i = .int .i64 z ∧ ∃ nz, wr7 = w7.drewN nz) (fun i _ => k - (intOf i).toNat)
            case atStart => exact ⟨0, Nat.zero_le _, rfl, 0, rfl⟩
            case round =>
              obtain ⟨z, hz, rfl, nz, rfl⟩ := hrel
              by_cases hzk : z < k
              · have hz1 : z < cs.length := by rw [HKN.out]; exact hzk
                have hz2 : z < ds.length := by rw [HM.out, HDL.out]; omega
                have hz3 : z + k < ds.length := by rw [HM.out, HDL.out]; omega
                rcases HP5.out with h0 | ⟨cb, co, rfl, hcb, hcc⟩
                · exfalso; rw [h0] at hz1; simp at hz1
                rcases HPD.out with h0 | ⟨db, dof, rfl, hdb, hdc⟩
                · exfalso; rw [h0] at hz2; simp at hz2
                obtain ⟨p0, p1⟩ := hcc z hz1
                obtain ⟨q0, q1⟩ := hdc z hz2
                obtain ⟨r0, r1⟩ := hdc (z + k) hz3
                have hpt := Se.parts b HCAN.out z (by rw [HCS.out]; exact hz1)
                rw [HQ.out, HDS.out, HCS.out, HKN.out] at hpt
                rw [List.getD_eq_getElem?_getD, List.getElem?_eq_getElem hz2, List.getD_eq_getElem?_getD, List.getElem?_eq_getElem hz3, List.getD_eq_getElem?_getD, List.getElem?_eq_getElem hz1] at hpt
                simp only [Option.getD_some] at hpt
                have hck := HCK.out z hzk
                rw [List.getD_eq_getElem?_getD, List.getElem?_eq_getElem hz1, Option.getD_some] at hck
                obtain ⟨A0, hA0⟩ : ∃ x, ds[z].1 = x := ⟨_, rfl⟩
                obtain ⟨A1, hA1⟩ : ∃ x, ds[z].2 = x := ⟨_, rfl⟩
                obtain ⟨C0, hC0⟩ : ∃ x, ds[z + k].1 = x := ⟨_, rfl⟩
                obtain ⟨C1, hC1⟩ : ∃ x, ds[z + k].2 = x := ⟨_, rfl⟩
                obtain ⟨E0, hE0⟩ : ∃ x, cs[z].1 = x := ⟨_, rfl⟩
                obtain ⟨E1, hE1⟩ : ∃ x, cs[z].2 = x := ⟨_, rfl⟩
                rw [hA0, hA1, hC0, hC1, hE0, hE1] at hpt
                rw [hA0] at q0
                rw [hA1] at q1
                rw [hC0] at r0
                rw [hC1] at r1
                rw [hE0] at p0
                rw [hE1] at p1
                have hcE : (0 ≤ E0 ∧ E0 ≤ 40) ∧ (-80000000 ≤ E1 ∧ E1 ≤ 80000000) := by rw [← hE0, ← hE1]; exact hck
                have hs0 : IntKind.i64.wrap (A0 + C0) = E0 := by rw [IntKind.wrap_i64, hpt.1]; omega
                have hs1 : IntKind.i64.wrap (A1 + C1) = E1 := by rw [IntKind.wrap_i64, hpt.2]; omega
                have hb0 : (E0 != E0) = false := by simp
                have hb1 : (E1 != E1) = false := by simp
                have hzi : (z : Int) < k := by omega
                have hzm : (z : Int) < m := by have := HDL.out; omega
                have hzkm : (z : Int) + k < m := by have := HDL.out; omega
                have hzt : ((z : Int) + k).toNat = z + k := by omega
                have hzn : 0 ≤ (z : Int) + k := by omega
                clear hpt hck hcE hcc hdc hA0 hA1 hC0 hC1 hE0 hE1
                go_wp2_with fail
                go_quiet (fail)
                go_wp2
                go_roundw
                case rel => exact ⟨z + 1, by omega, by go_num, _, rfl⟩
                case measure => simp [intOf]; omega
              · obtain rfl : z = k := by omega
                have hzi : ¬ (z : Int) < z := by omega
                go_wp2_with fail
                obtain ⟨X, hX⟩ : ∃ X, w7.drewN nz = X := ⟨_, rfl⟩
                have hXB : Below w7.heap.size w7 X := by rw [← hX]; exact Tm.below_drewN' _ _
                rw [hX]
                have HBX : Hid (Below w.heap.size w X) := HB7.out.trans (hXB.mono HB7.out.size)
                have HRX : Hid (type_of% (HR5.out.below hXB)) := HR5.out.below hXB
                have HPX : Hid (type_of% (HPD.out.below hXB)) := HPD.out.below hXB
                have HBXX : Hid (type_of% (HBX5.out.below hXB)) := HBX5.out.below hXB
                have HBSX : Hid (type_of% (HBS5.out.below hXB)) := HBS5.out.below hXB
                clear hX hXB
                obtain ⟨hlx, ⟨x0, x1, x2, x3, x4⟩, _⟩ := Sv.wr5 HBXX.out
                obtain ⟨hls, ⟨y0, y1⟩, _⟩ := Sv.wr2 HBSX.out
                have HGN : Hid (Se.gain r f b = Se.score ds r.l2) := by
                  show _ = _
                  unfold Se.gain
                  rw [HQ.out, HDS.out]
                  have : q.l2 = r.l2 := by rw [← HQ.out, Se.asked_ok b HCAN.out]
                  rw [this]
                obtain ⟨sc, hsc⟩ : ∃ sc, Se.score ds r.l2 = sc := ⟨_, rfl⟩
                have HSC : Hid (Se.score ds r.l2 = sc) := hsc
                have HD16 : Hid (ds.length ≤ 1048576) := by show _ ≤ _; rw [HM.out]; omega
                have hbe : (sc == sc) = true := by simp
                clear hsc hwk hmm hk8 hdle hcl hx40 s0 s1 t0 t1 u0 u1 hg40 hji hki hzi hj hz hk
                clear HCK HGR HV HSX HTX HLV HS HT HR HP HBS HBX3 HKN HN HP5 HPD HR5 HBX5 HBS5 HB7 HB6 HB5 HB4 HB HBQ HRD HSM HG HU HGL
                have S0 : (fun X : World => X.cell? ⟨P, 0, none⟩ = some (.slice b0 r.x.length c0) ∧ X.cell? ⟨P, 1, none⟩ = some (.slice b1 r.g.length c1) ∧ X.cell? ⟨P, 2, none⟩ = some (.slice b2 r.ids.length c2) ∧ X.cell? ⟨P, 3, none⟩ = some (.int .i64 r.lv) ∧ X.cell? ⟨P, 4, none⟩ = some (.int .i64 r.l2) ∧ X.cell? ⟨P + 1, 0, none⟩ = some (.int .i64 f) ∧ X.cell? ⟨P + 1, 1, none⟩ = some (.int .i64 b)) X.drew := ⟨x0, x1, x2, x3, x4, y0, y1⟩
                have R0 : Hid (Sv.Rd X.drew b0 b1 b2 r) := HRX.out.drew
                have HXD : Hid (Below X.heap.size X X.drew) := Tm.below_drew X
                clear x0 x1 x2 x3 x4 y0 y1 hlx hls
                refine Hd.start (fun X => X.cell? ⟨P, 0, none⟩ = some (.slice b0 r.x.length c0) ∧ X.cell? ⟨P, 1, none⟩ = some (.slice b1 r.g.length c1) ∧ X.cell? ⟨P, 2, none⟩ = some (.slice b2 r.ids.length c2) ∧ X.cell? ⟨P, 3, none⟩ = some (.int .i64 r.lv) ∧ X.cell? ⟨P, 4, none⟩ = some (.int .i64 r.l2) ∧ X.cell? ⟨P + 1, 0, none⟩ = some (.int .i64 f) ∧ X.cell? ⟨P + 1, 1, none⟩ = some (.int .i64 b)) 8 (by kernel_rfl) ?_
                generalize X.drew = w0 at S0 R0 HXD ⊢
                refine Hd.After.takeD (i := 0) (some 165) (.agg #[.slice b0 r.x.length c0, .slice b1 r.g.length c1, .slice b2 r.ids.length c2, .int .i64 r.lv, .int .i64 r.l2]) rfl rfl (by kernel_rfl) (by kernel_rfl) (by kernel_rfl) (by kernel_rfl) (by kernel_rfl) (fun _ _ _ h => h) (S0) (Or.inl ⟨by rfl, ?_⟩) ?_
                · rintro X ⟨x0, x1, x2, x3, x4, y0, y1⟩; go_simp; try with_reducible rfl
                (first | simp only [Act.put, List.setIfInBounds_toArray, List.set_cons_zero, List.set_cons_succ] | skip)
                refine Hd.After.takeD (i := 1) (some 166) (.agg #[.int .i64 f, .int .i64 b]) rfl rfl (by kernel_rfl) (by kernel_rfl) (by kernel_rfl) (by kernel_rfl) (by kernel_rfl) (fun _ _ _ h => h) (S0) (Or.inl ⟨by rfl, ?_⟩) ?_
                · rintro X ⟨x0, x1, x2, x3, x4, y0, y1⟩; go_simp; try with_reducible rfl
                (first | simp only [Act.put, List.setIfInBounds_toArray, List.set_cons_zero, List.set_cons_succ] | skip)
                refine Hd.After.pureD (i := 3) (some 168) (.slice ad m cd) rfl rfl (by kernel_rfl) (by decide) (by kernel_rfl) (by kernel_rfl) (fun _ _ _ h => h) (S0) (Or.inl ⟨by rfl, ?_⟩) ?_
                · intro X; go_simp; try with_reducible rfl
                (first | simp only [Act.put, List.setIfInBounds_toArray, List.set_cons_zero, List.set_cons_succ] | skip)
                refine Hd.After.pureD (i := 4) (some 169) (.pointer (some ⟨P, 4, none⟩)) rfl rfl (by kernel_rfl) (by decide) (by kernel_rfl) (by kernel_rfl) (fun _ _ _ h => h) (S0) (Or.inl ⟨by rfl, ?_⟩) ?_
                · intro X; go_simp; try with_reducible rfl
                (first | simp only [Act.put, List.setIfInBounds_toArray, List.set_cons_zero, List.set_cons_succ] | skip)
                refine Hd.After.takeD (i := 5) (some 170) (.int .i64 r.l2) rfl rfl (by kernel_rfl) (by kernel_rfl) (by kernel_rfl) (by kernel_rfl) (by kernel_rfl) (fun _ _ _ h => h) (S0) (Or.inl ⟨by rfl, ?_⟩) ?_
                · rintro X ⟨x0, x1, x2, x3, x4, y0, y1⟩; go_simp; try with_reducible rfl
                (first | simp only [Act.put, List.setIfInBounds_toArray, List.set_cons_zero, List.set_cons_succ] | skip)
                refine Hd.After.one (i := 2) (by kernel_rfl) rfl rfl ?_
                intro K hK
                go_simp
                go_wp2_with (go_at_call 11; refine (Sw7.igain w0 _ _ _ _ _ _ r f b R0.out).mono ?_; rintro e w8 ⟨rfl, hb8⟩; rw [HGN.out, HSC.out])
                have HY : Hid (Below X.heap.size X w8) := HXD.out.trans (hb8.mono HXD.out.size)
                clear hb8
                obtain ⟨_, ⟨k0, k1, k2, k3, k4⟩, _⟩ := Sv.wr5 (HBXX.out.below HY.out)
                obtain ⟨_, ⟨k5, k6⟩, _⟩ := Sv.wr2 (HBSX.out.below HY.out)
                refine hK _ _ (fun _ => ⟨k0, k1, k2, k3, k4, k5, k6⟩) ?_
                clear hK K
                (first | simp only [Act.put, List.setIfInBounds_toArray, List.set_cons_zero, List.set_cons_succ] | skip)
                clear k0 k1 k2 k3 k4 k5 k6
                refine Hd.After.one (i := 6) (by kernel_rfl) rfl rfl ?_
                intro K hK
                go_simp
                go_wp2_with (go_at_call 12; refine (SCL.out HPX.out HY.out HM.out HD16.out).mono ?_; rintro e w9 ⟨rfl, hb9⟩; rw [HSC.out])
                have HZ : Hid (Below X.heap.size X w9) := HY.out.trans (hb9.mono HY.out.size)
                clear hb9
                obtain ⟨_, ⟨k0, k1, k2, k3, k4⟩, _⟩ := Sv.wr5 (HBXX.out.below HZ.out)
                obtain ⟨_, ⟨k5, k6⟩, _⟩ := Sv.wr2 (HBSX.out.below HZ.out)
                refine hK _ _ (fun _ => ⟨k0, k1, k2, k3, k4, k5, k6⟩) ?_
                clear hK K
                (first | simp only [Act.put, List.setIfInBounds_toArray, List.set_cons_zero, List.set_cons_succ] | skip)
                refine Hd.After.pureD (i := 7) (some 172) (.bool true) rfl rfl (by kernel_rfl) (by decide) (by kernel_rfl) (by kernel_rfl) (fun _ _ _ h => h) (⟨k0, k1, k2, k3, k4, k5, k6⟩) (Or.inl ⟨by rfl, ?_⟩) ?_
                · intro X; go_simp; try with_reducible rfl
                (first | simp only [Act.put, List.setIfInBounds_toArray, List.set_cons_zero, List.set_cons_succ] | skip)
                clear k0 k1 k2 k3 k4 k5 k6
                refine Hd.After.one (i := 8) (by kernel_rfl) rfl rfl ?_
                intro K hK
                go_simp
                refine hK _ _ (fun h => by cases h) ?_
                clear hK K
                refine Hd.After.done (by kernel_rfl) ?_ _
                go_wp2
                go_ret
                exact ⟨rfl, HBX.out.trans (HZ.out.mono HBX.out.size)⟩

/-! ### THE ROW's STEP: WRITTEN OUT: LEAVE IT -/
set_option maxRecDepth 100000 in
theorem lifted (os : Os) (started : os.Started) (H : Type) (enc : TypeId × Value → H) :
    ReturnsInHanded {} Try.checked os 3 .any (Rows.fnCellsSpec.pre6 enc Try.prog Try.f3 Rows.fnCellsRow.domain false) (Rows.fnCellsSpec.post enc Try.prog Try.f3 false true false false) := by
  refine returnsInHanded_of_change (C := Try.checked) own started (by kernel_rfl) Try.func3
    (ChangeSpec.witness6 (enc := enc) (C := Try.checked) false ⟨#[], #[.slice none 0 0], []⟩ 8 (by kernel_rfl) (by kernel_rfl) (by kernel_rfl) (by kernel_rfl)) ?_
  intro W base args ds gs before hval0 hW hcnd _
  have hval : ∀ (j : Nat) t v, Try.f3.params[j]? = some t → args[j]? = some v → Value.okWide Try.prog W .any base t v := hval0
  have hW' := hW
  obtain ⟨p, q, hA0, hV, rfl, hfz, hnd⟩ := hW
  have hA : DataW.TrodAll enc Try.prog W 0 (fun _ => true) true Try.f3.params.toList args.toList ds p := hA0
  rw [Try.params3] at hA hval
  obtain ⟨v0, vs0, d0, ds0, p0, q0, hargs, rfl, rfl, h0, r0⟩ := trodAll_cons hA
  obtain ⟨rfl, rfl, rfl⟩ := trodAll_nil r0
  obtain rfl : args = #[v0] := by cases args; simp_all
  obtain ⟨rfl, rfl⟩ := trodVars_none hV
  obtain ⟨a0, len0, cap0, rfl⟩ := okWide_slice Try.underlying22 (hval 0 22 v0 rfl rfl)
  have k0 := h0
  have lt0 : ∀ x ∈ p0, x.block < W.heap.size := by obtain ⟨m, hm⟩ := k0; exact DataW.trod_lt m _ _ _ hm
  obtain ⟨z0, w0⟩ : ∃ zs, IsRow .u8 W a0 len0 cap0 zs := by
    obtain ⟨fuel, hf⟩ := h0
    rcases open_ints Try.underlying22 Try.underlying5 (by kernel_rfl) hf with ⟨hcs, _⟩ | ⟨x, l, c, zs, hcs, _, hl, hm, hz, _, hcell, hwz⟩
    · simp [Value.cells] at hcs
      obtain ⟨rfl, rfl, rfl⟩ := hcs
      exact ⟨[], .inl ⟨rfl, rfl, rfl, rfl⟩⟩
    · simp [Value.cells] at hcs
      obtain ⟨rfl, rfl, rfl⟩ := hcs
      exact ⟨zs, .inr ⟨_, rfl, hl, hm, by simpa using hz, hcell, hwz⟩⟩
  clear hA0 hval0
  refine (walk a0 len0 cap0 z0 W w0).mono fun e W' ⟨he, bel⟩ => ?_
  subst he
  exact ⟨_, rfl, _, _, _, [], _, [], hW', trodAll_mk1 (shut_bool Try.underlying4 _), (trodAll_cons_mk (Below.trod laidOut (by kernel_rfl) (of_decide_eq_true (by kernel_rfl)) k0 bel lt0) trodAll_mk0), rfl, bel.frame _, fun h => by cases h⟩

theorem over : Rows.fnCellsRow.holds Try.pinned (OpenSpec.ofChange Rows.fnCellsSpec) :=
  OpenClaim.holds_of_wide 3 Try.f3 rfl rfl rfl rfl rfl rfl rfl ⟨rfl, rfl, rfl, rfl, rfl⟩ rfl rfl rfl rfl rfl (by kernel_rfl) Try.func3 (by kernel_rfl)
    (of_decide_eq_true (by kernel_rfl)) (by unfold Func.isWrapper; first | (rw [if_pos (by decide +kernel)]; kernel_rfl) | (rw [if_neg (by decide +kernel)]; exact ⟨rfl, rfl⟩))
    (fun os started H enc _ => lifted os started H enc)

/-- THE STATEMENT -/
theorem proved : Rows.FnCellsSaid := over
#print axioms proved
end Go.Proofs.Ytmfippeclkmhnaa.fnCells
