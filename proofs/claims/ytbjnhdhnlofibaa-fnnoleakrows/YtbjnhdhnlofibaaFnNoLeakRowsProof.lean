/-
  Proved here: the Go function laws.FnNoLeakRows, called with any arguments that can be read, returns true, and each argument reads afterwards as it read before ('Rows.FnNoLeakRowsSaid', no condition beyond the row's own). The frame was written by the guide's program; the walk and its contracts are by hand.
-/
import Derived.Test.YtbjnhdhnlofibaaRows
import Derived.WalkKit
import Derived.ProofKit
import Derived.OpenShut
import Derived.ShutString
import Derived.ChangeOld
import Derived.Below
import Derived.Test.YtbjnhdhnlofibaaNlR
import Derived.Test.YtbjnhdhnlofibaaNlp
import Derived.Deep.RegionWith
import Derived.Deep.RegionLaw
import Derived.Deep.AppendLies
namespace Go.Proofs.Ytbjnhdhnlofibaa.fnNoLeakRows
open Go.ChangeShapes Go.WideShapes Go.ChangeAt Go.RowKit
open Go.ChangeMaps (open_string shut_string)
set_option linter.unusedVariables false

theorem own : ownKnob Try.prog.godebug = none := by kernel_rfl
theorem laidOut : laidOutB Try.prog = true := by kernel_rfl

/-- WHAT THE WALK IS TOLD OF A SLICE OF INTEGERS THAT CAME IN: it is nil; or it leads to a row of 'cap' cells, the numbers 'zs' (the first 'len' are its elements, the rest its spare room), each fitting its kind. -/
def IsRow (k : IntKind) (w : World) (a : Option Addr) (len cap : Nat) (zs : List Int) : Prop :=
  (a = none ∧ len = 0 ∧ cap = 0 ∧ zs = []) ∨
  ∃ x, a = some x ∧ len ≤ cap ∧ cap ≤ maxLen ∧ zs.length = cap ∧ (∀ i, i < zs.length → w.cell? (x.add i) = some (.int k (zs.getD i 0))) ∧ ∀ n ∈ zs, (Lit.int k n).wf = true

/-! ### STEP 1: THE WALK: the Go text returns true, AND WRITES NOTHING THAT WAS THERE: 'Below w.heap.size w w'' (Derived/Below.lean: '.refl', '.alloc', '.drew', '.setCell' at a new block, '.trans'). Open each 'IsRow' by 'rcases' AHEAD of 'go_enter'; part every test ahead of the walk. -/
set_option maxRecDepth 100000 in
set_option maxHeartbeats 40000000 in
theorem walk (a0 : Option Addr) (len0 cap0 : Nat) (z0 : List Int) (a1 : Option Addr) (len1 cap1 : Nat) (z1 : List Int) (w : World) (w0 : IsRow .u8 w a0 len0 cap0 z0) (w1 : IsRow .u8 w a1 len1 cap1 z1) :
    Calls Try.prog 3 #[.slice a0 len0 cap0, .slice a1 len1 cap1] w fun e w' => e = .returned (.bool true) ∧ Below w.heap.size w w' := by
  have key : ∀ (a : Option Addr) (len cap : Nat) (z : List Int), IsRow .u8 w a len cap z → Cu.Bytes w w.heap.size a len := by
    intro a len cap z h
    rcases h with ⟨rfl, rfl, rfl, rfl⟩ | ⟨x, rfl, hl, _, hz, hc, hw⟩
    · exact .inl rfl
    · exact Cu.bytes_of _ (Nat.le_refl _) hl hz hc hw
  have B0 := key _ _ _ _ w0
  have B1 := key _ _ _ _ w1
  clear key w0 w1
  by_cases hb0 : 1048576 < len0
  · have e0 : decide (1048576 < len0) = true := by simpa using hb0
    go_enter Try.func3, Try.ntmps3
    go_wp2_with (go_at_call 6; refine (Cu.big_any _ _ _ _).mono ?_; rintro e w' ⟨rfl, hw⟩; subst w')
    go_ret
    exact ⟨rfl, Below.refl _ _⟩
  have e0 : decide (1048576 < len0) = false := by simpa using hb0
  by_cases hb1 : 1048576 < len1
  · have e1 : decide (1048576 < len1) = true := by simpa using hb1
    go_enter Try.func3, Try.ntmps3
    go_wp2_with (go_at_call 6; refine (Cu.big_any _ _ _ _).mono ?_; rintro e w' ⟨rfl, hw⟩; subst w')
    go_ret
    exact ⟨rfl, Below.refl _ _⟩
  have e1 : decide (1048576 < len1) = false := by simpa using hb1
  obtain ⟨i0, hi, hz0, hz1, hz2⟩ := info_parts Tb.info_smp
  go_enter Try.func3, Try.ntmps3
  go_wp2_with (go_at_call 6; refine (Cu.big_any _ _ _ _).mono ?_; rintro e w' ⟨rfl, hw⟩; subst w')
  refine (Nl.drawMat _ _ _ _ B0 (by omega)).mono ?_
  rintro e w1 ⟨n, c, p, q, rs, k, rfl, ⟨hrl, hrz⟩, hir, hB⟩
  have hl : rs.length + Tb.szR rs ≤ 1048576 := by have := Np.szR_bd rs (fun r hr => (hrz r hr).1); omega
  have hw1s : w.heap.size ≤ w1.heap.size := hB.size
  have HB1w : Hid (Cu.Bytes w w.heap.size a1 len1) := B1
  clear B0 hb0 e0 e1 hrz B1
  go_wp2_with fail
  obtain ⟨W1, hW, hsz, hb, bt⟩ := Tk.box3_new' w1 (.int .i64 n) (.int .i64 c) (.slice p rs.length q) 28
  rw [hW]
  clear hW
  obtain ⟨W, hW2, hsz2, hb2, bc⟩ := Cf.bx_new W1 k 30
  rw [hW2]
  clear hW2
  rw [hsz] at bc
  have bt := bt.below hb2
  have hb := hb.trans (hb2.mono hb.size)
  have hir := hir.below hb
  have hB := hB.trans (hb.mono hB.size)
  have hTW : w1.heap.size + 1 < W.heap.size := by omega
  have hTw : w.heap.size ≤ w1.heap.size := hw1s
  obtain ⟨T, hT⟩ : ∃ T, w1.heap.size = T := ⟨_, rfl⟩
  rw [hT] at bt bc hTW hTw
  try rw [hT]
  clear hb hb2 hsz hsz2 hT
  -- x, ok := impl.Matrix(t, c)
  refine (Mx.imat _ _ _ _ _ rs k hir hl).mono ?_
  rintro e w2 ⟨vx, rfl, ox, hb⟩
  have bt := bt.below hb
  have bc := bc.below hb (by omega)
  have hir := hir.below hb
  have hB := hB.trans (hb.mono hB.size)
  have hTW : T + 1 < w2.heap.size := by have := hb.size; omega
  clear hb
  obtain ⟨ax, cx, rfl, ix⟩ := ox.isv
  clear ox
  obtain ⟨_, ⟨t0, t1, t2⟩, _⟩ := id bt
  obtain ⟨_, c0, c1, c2, c3, c4, c5, c6⟩ := id bc
  -- w, want := spec.Matrix(t, c)
  go_wp2_with fail
  refine (Mx.smat _ _ _ _ _ rs k hir hl).mono ?_
  rintro e w3 ⟨vs, rfl, os, hb⟩
  have bt := bt.below hb
  have bc := bc.below hb (by omega)
  have hir := hir.below hb
  have ix := ix.below hb
  have hB := hB.trans (hb.mono hB.size)
  have hTW : T + 1 < w3.heap.size := by have := hb.size; omega
  clear hb t0 t1 t2 c0 c1 c2 c3 c4 c5 c6
  obtain ⟨ay, cy, rfl, iy⟩ := os.isv
  clear os
  have hsz := Mx.mat_sz n c rs k
  cases hv : (Tk.tok n c rs && Cf.cok k)
  · have hm := Np.mat_none hv
    rw [hm] at ix iy hsz ⊢
    go_wp2_with fail
    refine (Nl.sameVecs _ _ _ _ _ [] ix iy (by simp [Sv.tot])).mono ?_
    rintro e w4 ⟨rfl, hb⟩
    have hB := hB.trans (hb.mono hB.size)
    clear hb hm hsz
    go_wp2
    go_ret
    exact ⟨rfl, hB⟩
  obtain ⟨ht, hk⟩ : Tk.tok n c rs = true ∧ Cf.cok k = true := by simpa using hv
  have hml := Np.mat_len ht hk
  have HT : Hid (Tk.tok n c rs = true) := ht
  have HK : Hid (Cf.cok k = true) := hk
  have HML : Hid ((Mx.mat n c rs k).length = rs.length) := hml
  obtain ⟨xs, hxs⟩ : ∃ xs, Mx.mat n c rs k = xs := ⟨_, rfl⟩
  have HXS : Hid (Mx.mat n c rs k = xs) := hxs
  rw [hxs] at ix iy hsz HML ⊢
  clear ht hk hml hxs hv
  go_wp2_with fail
  refine (Nl.sameVecs _ _ _ _ _ xs ix iy hsz).mono ?_
  rintro e w4 ⟨rfl, hb⟩
  have bt := bt.below hb
  have bc := bc.below hb (by omega)
  have hir := hir.below hb
  have ix := ix.below hb
  have hB := hB.trans (hb.mono hB.size)
  have hTW : T + 1 < w4.heap.size := by have := hb.size; omega
  clear hb iy
  obtain ⟨_, ⟨t0, t1, t2⟩, _⟩ := id bt
  obtain ⟨_, _, _, _, _, _, _, c6⟩ := id bc
  by_cases hr0 : rs.length = 0
  · have hzn : ((rs.length : Int) == 0) = true := by rw [beq_iff_eq]; omega
    have hzm : ((xs.length : Int) == 0) = true := by rw [beq_iff_eq]; have := HML.out; omega
    clear hr0
    go_wp2
    go_ret
    exact ⟨rfl, hB⟩
  have hzn : ((rs.length : Int) == 0) = false := by rw [beq_eq_false_iff_ne]; omega
  have hpk := Vc.permR_pok k.seed rs.length (by omega)
  have HPK : Hid (Pe.POk (Po.permR k.seed rs.length)) := hpk.1
  have HPL : Hid ((Po.permR k.seed rs.length).length = rs.length) := hpk.2
  clear hpk
  go_wp2_with fail
  refine (Po.sperm_any _ _ _).mono ?_
  rintro e w5 ⟨vp, rfl, op, hb⟩
  have bt := bt.below hb
  have bc := bc.below hb (by omega)
  have hir := hir.below hb
  have ix := ix.below hb
  have hB := hB.trans (hb.mono hB.size)
  have hTW : T + 1 < w5.heap.size := by have := hb.size; omega
  clear hb t0 t1 t2 c6
  obtain ⟨ps, hps⟩ : ∃ ps, Po.permR k.seed rs.length = ps := ⟨_, rfl⟩
  have HPS : Hid (Po.permR k.seed rs.length = ps) := hps
  rw [hps] at op HPK HPL
  clear hps
  obtain ⟨ap, cp, rfl, ip⟩ := op.isl
  clear op
  have hpl1 : 1 ≤ ps.length := by have := HPL.out; omega
  have hpl2 : ps.length ≤ 41 := by have := HPL.out; omega
  have B1 : Cu.Bytes w5 w.heap.size a1 len1 := HB1w.out.keptB (Nat.le_refl _) (fun q hq => hB.block q hq)
  go_wp2_with fail
  refine (Nl.lpick1 _ w.heap.size _ _ _ B1 (by omega) _ (by omega) (by omega) _ (by omega) (by omega)).mono ?_
  rintro e w6 ⟨kk, rfl, k0, k1, hw6⟩
  subst w6
  obtain ⟨kn, rfl⟩ : ∃ kn : Nat, kk = (kn : Int) := ⟨kk.toNat, by omega⟩
  go_wp2_with fail
  obtain ⟨pb, po, hpe, hpb, hpc⟩ : ∃ pb po, p = some ⟨pb, po, none⟩ ∧ pb < w5.heap.size ∧ ∀ j (hj : j < rs.length), ∃ v0 v1 v2, (w5.cell? ⟨pb, po + j * 3, none⟩ = some v0 ∧ w5.cell? ⟨pb, po + j * 3 + 1, none⟩ = some v1 ∧ w5.cell? ⟨pb, po + j * 3 + 2, none⟩ = some v2) ∧ Tb.RowIs w5 v0 v1 v2 rs[j] := by
    rcases hir with h0 | h
    · rw [h0] at hr0; simp at hr0
    · exact h
  subst hpe
  have HIR : Hid (Tb.IsR w5 (some ⟨pb, po, none⟩) rs) := hir
  have hcl : (Np.cellsOf w5 pb po (rs.length * 3)).length = rs.length * 3 := Np.cellsOf_length _ _ _ _
  have HNEW : Hid (∀ j u, (Np.cellsOf w5 pb po (rs.length * 3))[j]? = some u → w5.cell? ⟨pb, po + j, none⟩ = some u ∧ u.oneCell' = true) := fun j u hu => by
    have hj : j < rs.length * 3 := by have := (List.getElem?_eq_some_iff.1 hu).1; omega
    obtain ⟨i, hi', hj3⟩ := Np.three hj
    obtain ⟨v0, v1, v2, ⟨d0, d1, d2⟩, z0, y0, z1, y1, rfl, rfl, rfl, _, _⟩ := hpc i hi'
    rw [Np.cellsOf_get _ _ _ _ _ hj] at hu
    rcases hj3 with rfl | rfl | rfl
    · rw [d0] at hu ⊢; simp at hu; subst hu; exact ⟨rfl, rfl⟩
    · rw [← Nat.add_assoc] at hu ⊢; rw [d1] at hu ⊢; simp at hu; subst hu; exact ⟨rfl, rfl⟩
    · rw [← Nat.add_assoc] at hu ⊢; rw [d2] at hu ⊢; simp at hu; subst hu; exact ⟨rfl, rfl⟩
  have HLB : Hid (Np.Labd w5 pb po rs.length (Co.labs rs) (Np.cellsOf w5 pb po (rs.length * 3))) := ⟨hcl, fun j hj => by
    obtain ⟨v0, v1, v2, ⟨d0, d1, d2⟩, z0, y0, z1, y1, rfl, rfl, rfl, _, _⟩ := hpc j hj
    refine ⟨?_, ?_, ?_⟩
    · rw [Np.cellsOf_get _ _ _ _ _ (by omega), d0]; rfl
    · rw [Np.cellsOf_get _ _ _ _ _ (by omega), ← Nat.add_assoc, d1]; rfl
    · rw [Np.cellsOf_get _ _ _ _ _ (by omega), ← Nat.add_assoc, d2, List.getElem?_eq_getElem (by rw [Co.labs_length]; exact hj), Co.labs_get rs j hj]; rfl⟩
  obtain ⟨cs, hcs⟩ : ∃ cs, Np.cellsOf w5 pb po (rs.length * 3) = cs := ⟨_, rfl⟩
  rw [hcs] at hcl HNEW HLB
  have HCL : Hid (cs.length = rs.length * 3) := hcl
  have hc0 : 0 < rs.length := by omega
  have hc41 : rs.length ≤ 41 := hrl
  obtain ⟨_, ⟨t0, t1, t2⟩, _⟩ := id bt
  clear hpc hcs hcl hir hr0
  have HBT : Hid (Tb.Box3 w5 T (.int .i64 n) (.int .i64 c) (.slice (some ⟨pb, po, none⟩) rs.length q)) := bt
  have HBC : Hid (Cf.Bx w5 (T + 1) k) := bc
  have HBB : Hid (Below w.heap.size w w5) := hB
  have HIX : Hid (Sv.IsV w5 ax xs) := ix
  have HIP : Hid (Li.IsL w5 ap ps) := ip
  clear bt bc hB ix ip B1
  go_cut [13] from 71 (fun s13 wx => ∃ V g cap', s13 = .pointer (some ⟨V, 0, none⟩) ∧ Np.UU w5 wx V g cap' rs.length n c cs)
  case first =>
    go_region_law (first
                   | (refine step_append_lies (((w5.alloc (.cells #[] 42)).alloc (.cells #[.int .i64 0, .int .i64 0, .slice none 0 0] 28)).drew) rfl _ _ 26 rfl w5.heap.size 42 i0 (.agg #[.slice none 0 0, .slice none 0 0, .int .i64 0]) 3 56 Try.underlying26 hi hz0 hz1 hz2 rfl (by decide) _ 0 [] rfl (Np.eB _ _) ⟨pb, po, none⟩ rs.length q cs rfl HCL.out (fun j u hu => Np.newsX (Np.bB _ _ _) hpb (HNEW.out j u hu).1) (fun u hu => by obtain ⟨j, hj, rfl⟩ := List.getElem_of_mem hu; exact (HNEW.out j _ (List.getElem?_eq_getElem hj)).2) hc0 (by unfold maxLen; omega) (by omega) (Np.szX (Np.bB _ _ _)) _ rfl ?_
                      intro g cap' w7 hown hgrow hpos hglt
                      have HOWN : Hid (type_of% hown) := hown
                      have HGROW : Hid (type_of% hgrow) := hgrow
                      have HPOS : Hid (type_of% hpos) := hpos
                      have hs7 := hgrow.size
                      obtain ⟨hVl, ⟨x0, x1, x2⟩, y0, y1, y2⟩ := Np.wr3 (Np.varB hgrow)
                      obtain ⟨_, ⟨s0, s1, s2⟩, _⟩ := id (HBT.out.below (Np.varB7 hgrow))
                      clear hown hgrow hpos)
                   | (refine step_append_lies (((w5.alloc (.cells #[.int .i64 0, .int .i64 0, .slice none 0 0] 28)).alloc (.cells #[] 42)).drew) rfl _ _ 26 rfl w5.heap.size 42 i0 (.agg #[.slice none 0 0, .slice none 0 0, .int .i64 0]) 3 56 Try.underlying26 hi hz0 hz1 hz2 rfl (by decide) _ 0 [] rfl (Np.eC _ _) ⟨pb, po, none⟩ rs.length q cs rfl HCL.out (fun j u hu => Np.newsX (Np.bB _ _ _) hpb (HNEW.out j u hu).1) (fun u hu => by obtain ⟨j, hj, rfl⟩ := List.getElem_of_mem hu; exact (HNEW.out j _ (List.getElem?_eq_getElem hj)).2) hc0 (by unfold maxLen; omega) (by omega) (Np.szX (Np.bB _ _ _)) _ rfl ?_
                      intro g cap' w7 hown hgrow hpos hglt
                      have HOWN : Hid (type_of% hown) := hown
                      have HGROW : Hid (type_of% hgrow) := hgrow
                      have HPOS : Hid (type_of% hpos) := hpos
                      have hs7 := hgrow.size
                      obtain ⟨hVl, ⟨x0, x1, x2⟩, y0, y1, y2⟩ := Np.wr3 (Np.varC hgrow)
                      obtain ⟨_, ⟨s0, s1, s2⟩, _⟩ := id (HBT.out.below (Np.varC7 hgrow))
                      clear hown hgrow hpos)
                   | (refine step_append_lies ((w5.alloc (.cells #[] 42)).drew) rfl _ _ 26 rfl w5.heap.size 42 i0 (.agg #[.slice none 0 0, .slice none 0 0, .int .i64 0]) 3 56 Try.underlying26 hi hz0 hz1 hz2 rfl (by decide) _ 0 [] rfl (Np.eA _) ⟨pb, po, none⟩ rs.length q cs rfl HCL.out (fun j u hu => Np.newsX (Np.bA _ _) hpb (HNEW.out j u hu).1) (fun u hu => by obtain ⟨j, hj, rfl⟩ := List.getElem_of_mem hu; exact (HNEW.out j _ (List.getElem?_eq_getElem hj)).2) hc0 (by unfold maxLen; omega) (by omega) (Np.szX (Np.bA _ _)) _ rfl ?_
                      intro g cap' w7 hown hgrow hpos hglt
                      have HOWN : Hid (type_of% hown) := hown
                      have HGROW : Hid (type_of% hgrow) := hgrow
                      have HPOS : Hid (type_of% hpos) := hpos
                      have hs7 := hgrow.size
                      obtain ⟨_, ⟨s0, s1, s2⟩, _⟩ := id (HBT.out.below (Np.b7A hgrow))
                      clear hown hgrow hpos))
    all_goals
      go_wp2_with fail
      go_meet
      case rel =>
        first
          | exact ⟨_, _, _, rfl, Np.uA (W := w5) HOWN.out HGROW.out hglt⟩
          | exact ⟨_, _, _, rfl, Np.uB (W := w5) HOWN.out HGROW.out HPOS.out⟩
          | exact ⟨_, _, _, rfl, Np.uC (W := w5) HOWN.out HGROW.out HPOS.out⟩
  case rest =>
    obtain ⟨V, g, cap', rfl, hBc, hVl, hgl, hgV, bu, hown⟩ := hcut
    clear hi hz0 hz1 hz2 HNEW HCL t0 t1 t2
    have hlr : (Co.labs rs).length = rs.length := Co.labs_length rs
    have HLR : Hid ((Co.labs rs).length = rs.length) := hlr
    have HLO : Hid ((Co.labs rs).all Tk.lok = true) := Vc.labs_lok HT.out
    clear hlr
    have hsc := hBc.size
    have hcell : ∀ (wr : World), Below w5.heap.size w5 wr → ∀ t, t < rs.length * 3 → wr.cell? ⟨pb, po + t, none⟩ = w5.cell? ⟨pb, po + t, none⟩ := fun wr hb t _ => hb.cell (p := ⟨pb, po + t, none⟩) hpb
    have HCE : Hid (type_of% hcell) := hcell
    clear hcell
    go_wp2
    go_loopw [14] (fun i wr => ∃ m : Nat, kn ≤ m ∧ m ≤ ps.length ∧ i = .int .i64 m ∧ ∃ ls vs, ls.length = rs.length ∧ ls.all Tk.lok = true ∧ (∀ r (hr : r < ps.length), r < kn → Wd.lat ls ps[r] = Wd.lat (Co.labs rs) ps[r]) ∧ Np.Labd w5 pb po rs.length ls vs ∧ wr.ownsRow w5.heap.size 42 3 (.slice (some ⟨g, 0, none⟩) rs.length cap') rs.length vs ∧ Sv.Wr wr V 0 [.int .i64 n, .int .i64 c, .slice (some ⟨g, 0, none⟩) rs.length cap'] ∧ Below w5.heap.size w5 wr) (fun i _ => ps.length - (intOf i).toNat)
    case atStart => exact ⟨kn, Nat.le_refl _, by omega, rfl, _, _, HLR.out, HLO.out, fun _ _ _ => rfl, HLB.out, hown, bu, hBc⟩
    case round =>
      obtain ⟨m, hkm, hm, rfl, ls, vs, hll, hla, hsame, hlab, ho, bu, hBr⟩ := hrel
      have HLL : Hid (ls.length = rs.length) := hll
      have HLA2 : Hid (ls.all Tk.lok = true) := hla
      have HSA : Hid (∀ r (hr : r < ps.length), r < kn → Wd.lat ls ps[r] = Wd.lat (Co.labs rs) ps[r]) := hsame
      have HLD : Hid (Np.Labd w5 pb po rs.length ls vs) := hlab
      clear hll hla hsame hlab hown hBc
      obtain ⟨hVw, ⟨x0, x1, x2⟩, _⟩ := Np.wr3 bu
      have ip := HIP.out.below hBr
      have hsr := hBr.size
      by_cases hlt : m < ps.length
      · have hrng := HPK.out.rng m hlt
        rcases ip with h0 | ⟨qb, qo, rfl, hqb, hqc⟩
        · rw [h0] at hlt; simp at hlt
        have hcp := hqc m hlt
        have hjl : ps[m].toNat < rs.length := by have := HPL.out; omega
        have HN : Hid (∀ v r (hr : r < ps.length), r < kn → Wd.lat (ls.set ps[m].toNat v) ps[r] = Wd.lat (Co.labs rs) ps[r]) := fun v r hr hrk => by
          have hrq := HPK.out.rng r hr
          rw [Ct.lat_set hrng.1 hrq.1 (fun e => by have := HPK.out.inj m r hlt hr (by rw [e]); omega)]
          exact HSA.out r hr hrk
        obtain ⟨y, hy⟩ : ∃ y, ps[m] = y := ⟨_, rfl⟩
        rw [hy] at hrng hjl HN hcp
        have hyl : y < (rs.length : Int) := by omega
        have hvl := HLD.out.1
        have hcg := World.ownsRow.cellAt ho (y.toNat * 3 + 2) (by omega)
        rw [List.getElem?_eq_getElem (by omega)] at hcg
        obtain ⟨cv, hcv⟩ : ∃ cv, wr.cell? ⟨g, y.toNat * 3 + 2, none⟩ = some cv := ⟨_, hcg⟩
        have hcf := World.ownsRow.frozenAt ho (y.toNat * 3 + 2)
        have hgw := (World.ownsRow.lt ho g rfl).2
        have B1 : Cu.Bytes wr w.heap.size a1 len1 := HB1w.out.keptB (Nat.le_refl _) (fun q hq => (HBB.out.trans (hBr.mono HBB.out.size)).block q hq)
        have hw5w : w.heap.size ≤ w5.heap.size := HBB.out.size
        clear hqc hy hvl hcg
        go_wp2
        go_region_with (go_at_call 12; refine (Nl.lpick _ w.heap.size _ _ _ (by exact B1) (by omega) _ (by omega) (by omega) _ (by omega) (by omega)).mono ?_; rintro e w6 ⟨z, rfl, z0, z1, hw6⟩; subst w6)
        all_goals
          have hlv : Tk.lok (1000 * (z - 10)) = true := by unfold Tk.lok; exact decide_eq_true (by omega)
          have HO6 : Hid ((ls.set y.toNat (1000 * (z - 10))).all Tk.lok = true) := Ct.all_set HLA2.out hlv
          have HW6 : Hid ((wr.setCell ⟨g, y.toNat * 3 + 2, none⟩ (.int .i64 (1000 * (z - 10)))).ownsRow w5.heap.size 42 3 (.slice (some ⟨g, 0, none⟩) rs.length cap') rs.length (vs.set (y.toNat * 3 + 2) (.int .i64 (1000 * (z - 10))))) := (World.ownsRow.stored ho (y.toNat * 3 + 2) (.int .i64 (1000 * (z - 10)))).1
          have HU6 : Hid (Sv.Wr (wr.setCell ⟨g, y.toNat * 3 + 2, none⟩ (.int .i64 (1000 * (z - 10)))) V 0 [.int .i64 n, .int .i64 c, .slice (some ⟨g, 0, none⟩) rs.length cap']) := bu.setOther (fun e => hgV e.symm)
          have HB6 : Hid (Below w5.heap.size w5 (wr.setCell ⟨g, y.toNat * 3 + 2, none⟩ (.int .i64 (1000 * (z - 10))))) := hBr.setCell (p := ⟨g, y.toNat * 3 + 2, none⟩) hgl _
          have HL6 : Hid (Np.Labd w5 pb po rs.length (ls.set y.toNat (1000 * (z - 10))) (vs.set (y.toNat * 3 + 2) (.int .i64 (1000 * (z - 10))))) := Np.labd_set HLD.out y.toNat hjl HLL.out _
          clear ho bu hBr B1
          go_wp2
          go_roundw
          case rel => exact ⟨m + 1, by omega, by omega, by go_num, _, _, by simpa using HLL.out, HO6.out, HN.out _, HL6.out, HW6.out, HU6.out, by first | exact HB6.out | exact Below.drew HB6.out⟩
          case measure => simp [intOf]; omega
      · obtain rfl : m = ps.length := by omega
        have irc := Np.labd_isr HIR.out (HIR.out.below hBr) (HCE.out wr hBr) HLL.out HLD.out ho
        obtain ⟨_, c0, c1, c2, c3, c4, c5, c6⟩ := HBC.out.below hBr (by omega)
        have hRL := Np.relab_length HLL.out
        have htR := Np.relab_tok HT.out HLL.out HLA2.out
        have hsm := fun r hr hrk => Np.same_mat (n := n) (c := c) HT.out HK.out HLL.out HLA2.out kn (by rw [HPS.out]; exact HSA.out) r (by rw [HPS.out]; exact hr) hrk
        simp only [HPS.out] at hsm
        rw [HXS.out] at hsm
        have hsz2 := Np.relab_sz rs ls
        have hmR := Mx.mat_sz n c (Np.relab rs ls) k
        obtain ⟨R, hR⟩ : ∃ R, Np.relab rs ls = R := ⟨_, rfl⟩
        rw [hR] at irc hRL htR hsz2 hmR hsm
        have k1 := Mx.imat wr n c (some ⟨g, 0, none⟩) cap' R k irc (by omega)
        rw [hRL] at k1
        have hbR : (Tk.tok n c R && Cf.cok k) = true := by rw [htR, HK.out]; rfl
        rw [hbR] at k1
        obtain ⟨ysR, hys⟩ : ∃ ysR, Mx.mat n c R k = ysR := ⟨_, rfl⟩
        rw [hys] at k1 hmR hsm
        have HSM : Hid (type_of% hsm) := hsm
        clear hsm hR hRL htR hsz2 hbR hys irc hlt
        go_wp2_with fail
        refine k1.mono ?_
        rintro e w8 ⟨vy, rfl, oy, hb⟩
        have hBr := hBr.trans (hb.mono hBr.size)
        obtain ⟨ay2, cy2, ey, iy⟩ := oy.isv
        have HYL : Hid (vy = .slice ay2 ysR.length cy2) := ey
        subst ey
        have ix := HIX.out.below hBr
        have ip := HIP.out.below hBr
        have hBe := HBB.out.trans (hBr.mono HBB.out.size)
        clear hb k1 oy x0 x1 x2 c0 c1 c2 c3 c4 c5 c6 hBr ho bu
        go_wp2
        go_loopw [17] (fun i wq => ∃ r : Nat, r ≤ kn + 1 ∧ i = .int .i64 r ∧ Below w8.heap.size w8 wq) (fun i _ => kn + 1 - (intOf i).toNat)
        case atStart => exact ⟨0, Nat.zero_le _, rfl, Below.refl _ _⟩
        case round =>
          obtain ⟨r, hr, rfl, hBq⟩ := hrel
          by_cases hrk : r ≤ kn
          · have hqd : decide ((r : Int) ≤ (kn : Int)) = true := by simp; omega
            have hrl2 : r < ps.length := by omega
            have hrng := HPK.out.rng r hrl2
            have hsm := HSM.out r hrl2 hrk
            have hxl : ps[r].toNat < xs.length := by have := HML.out; have := HPL.out; omega
            have hyl2 : ps[r].toNat < ysR.length := by
              rw [List.getElem?_eq_getElem hxl] at hsm
              exact (List.getElem?_eq_some_iff.1 hsm).1
            rw [List.getElem?_eq_getElem hxl, List.getElem?_eq_getElem hyl2] at hsm
            have hsm := Option.some.inj hsm
            rcases ip.below hBq with h0 | ⟨qb, qo, rfl, hqb, hqc⟩
            · rw [h0] at hrl2; simp at hrl2
            rcases ix.below hBq with h0 | ⟨xb, xo, rfl, hxb, hxc⟩
            · rw [h0] at hxl; simp at hxl
            rcases iy.below hBq with h0 | ⟨yb, yo, rfl, hyb, hyc⟩
            · rw [h0] at hyl2; simp at hyl2
            have dq := hqc r hrl2
            obtain ⟨e0, f0, dx, jx⟩ := hxc _ hxl
            obtain ⟨e1, f1, dy, jy⟩ := hyc _ hyl2
            have hta := Sv.tot_at xs _ hxl
            rw [hsm] at dy jy
            obtain ⟨t, ht⟩ : ∃ t, xs[ps[r].toNat] = t := ⟨_, rfl⟩
            rw [ht] at dx jx dy jy hta
            obtain ⟨y, hy⟩ : ∃ y, ps[r] = y := ⟨_, rfl⟩
            have hxi : y < (xs.length : Int) := by rw [← hy]; omega
            have hyi : y < (ysR.length : Int) := by rw [← hy]; omega
            rw [hy] at dq dx dy hrng hxl hyl2
            have HJX : Hid (Li.IsL wr e0 t) := jx
            have HJY : Hid (Li.IsL wr e1 t) := jy
            have HBQ : Hid (Below w8.heap.size w8 wr) := hBq
            have HBD : Hid (Below wr.heap.size wr wr.drew) := (Below.refl wr.heap.size wr).drew
            clear hqc hxc hyc hsm ht hy jx jy hBq
            go_wp2_with fail
            go_region_held3 (fun w' => w'.cell? ⟨qb, qo + r, none⟩ = some (.int .i64 y) ∧ w'.cell? ⟨xb, xo + y.toNat, none⟩ = some (.slice e0 t.length f0) ∧ w'.cell? ⟨yb, yo + y.toNat, none⟩ = some (.slice e1 t.length f1)) (go_keep) (first
              | (go_at_call 13
                 refine (Li.same_bel wr.drew _ _ _ _ t t (HJX.out.below HBD.out) (HJY.out.below HBD.out) (by omega) (by omega)).mono ?_
                 rintro e w9 ⟨rfl, hb⟩
                 rw [Li.eqs_self]
                 have HY0 : Hid (Below wr.heap.size wr w9) := HBD.out.trans hb
                 have z0 := (HY0.out.cell (p := ⟨qb, qo + r, none⟩) hqb).trans dq
                 have z1 := (HY0.out.cell (p := ⟨xb, xo + y.toNat, none⟩) hxb).trans dx
                 have z2 := (HY0.out.cell (p := ⟨yb, yo + y.toNat, none⟩) hyb).trans dy
                 clear hb))
            have hB9 := HBQ.out.trans (HY0.out.mono HBQ.out.size)
            clear HY0 HBQ HJX HJY HBD
            go_wp2
            go_roundw
            case rel => exact ⟨r + 1, by omega, by go_num, hB9⟩
            case measure => simp [intOf]; omega
          · have hqd : decide ((r : Int) ≤ (kn : Int)) = false := by simp; omega
            go_wp2
            go_ret
            exact ⟨rfl, hBe.trans (hBq.mono hBe.size)⟩

/-! ### THE ROW's STEP: WRITTEN OUT: LEAVE IT -/
set_option maxRecDepth 100000 in
theorem lifted (os : Os) (started : os.Started) (H : Type) (enc : TypeId × Value → H) :
    ReturnsInHanded {} Try.checked os 3 .any (Rows.fnNoLeakRowsSpec.pre6 enc Try.prog Try.f3 Rows.fnNoLeakRowsRow.domain false) (Rows.fnNoLeakRowsSpec.post enc Try.prog Try.f3 false true false false) := by
  refine returnsInHanded_of_change (C := Try.checked) own started (by kernel_rfl) Try.func3
    (ChangeSpec.witness6 (enc := enc) (C := Try.checked) false ⟨#[], #[.slice none 0 0, .slice none 0 0], []⟩ 8 (by kernel_rfl) (by kernel_rfl) (by kernel_rfl) (by kernel_rfl)) ?_
  intro W base args ds gs before hval0 hW hcnd _
  have hval : ∀ (j : Nat) t v, Try.f3.params[j]? = some t → args[j]? = some v → Value.okWide Try.prog W .any base t v := hval0
  have hW' := hW
  obtain ⟨p, q, hA0, hV, rfl, hfz, hnd⟩ := hW
  have hA : DataW.TrodAll enc Try.prog W 0 (fun _ => true) true Try.f3.params.toList args.toList ds p := hA0
  rw [Try.params3] at hA hval
  obtain ⟨v0, vs0, d0, ds0, p0, q0, hargs, rfl, rfl, h0, r0⟩ := trodAll_cons hA
  obtain ⟨v1, vs1, d1, ds1, p1, q1, rfl, rfl, rfl, h1, r1⟩ := trodAll_cons r0
  obtain ⟨rfl, rfl, rfl⟩ := trodAll_nil r1
  obtain rfl : args = #[v0, v1] := by cases args; simp_all
  obtain ⟨rfl, rfl⟩ := trodVars_none hV
  obtain ⟨a0, len0, cap0, rfl⟩ := okWide_slice Try.underlying22 (hval 0 22 v0 rfl rfl)
  have k0 := h0
  have lt0 : ∀ x ∈ p0, x.block < W.heap.size := by obtain ⟨m, hm⟩ := k0; exact DataW.trod_lt m _ _ _ hm
  obtain ⟨z0, w0⟩ : ∃ zs, IsRow .u8 W a0 len0 cap0 zs := by
    obtain ⟨fuel, hf⟩ := h0
    rcases open_ints Try.underlying22 Try.underlying5 (by kernel_rfl) hf with ⟨hcs, _⟩ | ⟨x, l, c, zs, hcs, _, hl, hm, hz, _, hcell, hwz⟩
    · simp [Value.cells] at hcs
      obtain ⟨rfl, rfl, rfl⟩ := hcs
      exact ⟨[], .inl ⟨rfl, rfl, rfl, rfl⟩⟩
    · simp [Value.cells] at hcs
      obtain ⟨rfl, rfl, rfl⟩ := hcs
      exact ⟨zs, .inr ⟨_, rfl, hl, hm, by simpa using hz, hcell, hwz⟩⟩
  obtain ⟨a1, len1, cap1, rfl⟩ := okWide_slice Try.underlying22 (hval 1 22 v1 rfl rfl)
  have k1 := h1
  have lt1 : ∀ x ∈ p1, x.block < W.heap.size := by obtain ⟨m, hm⟩ := k1; exact DataW.trod_lt m _ _ _ hm
  obtain ⟨z1, w1⟩ : ∃ zs, IsRow .u8 W a1 len1 cap1 zs := by
    obtain ⟨fuel, hf⟩ := h1
    rcases open_ints Try.underlying22 Try.underlying5 (by kernel_rfl) hf with ⟨hcs, _⟩ | ⟨x, l, c, zs, hcs, _, hl, hm, hz, _, hcell, hwz⟩
    · simp [Value.cells] at hcs
      obtain ⟨rfl, rfl, rfl⟩ := hcs
      exact ⟨[], .inl ⟨rfl, rfl, rfl, rfl⟩⟩
    · simp [Value.cells] at hcs
      obtain ⟨rfl, rfl, rfl⟩ := hcs
      exact ⟨zs, .inr ⟨_, rfl, hl, hm, by simpa using hz, hcell, hwz⟩⟩
  clear hA0 hval0
  refine (walk a0 len0 cap0 z0 a1 len1 cap1 z1 W w0 w1).mono fun e W' ⟨he, bel⟩ => ?_
  subst he
  exact ⟨_, rfl, _, _, _, [], _, [], hW', trodAll_mk1 (shut_bool Try.underlying4 _), (trodAll_cons_mk (Below.trod laidOut (by kernel_rfl) (of_decide_eq_true (by kernel_rfl)) k0 bel lt0) (trodAll_cons_mk (Below.trod laidOut (by kernel_rfl) (of_decide_eq_true (by kernel_rfl)) k1 bel lt1) trodAll_mk0)), rfl, bel.frame _, fun h => by cases h⟩

theorem over : Rows.fnNoLeakRowsRow.holds Try.pinned (OpenSpec.ofChange Rows.fnNoLeakRowsSpec) :=
  OpenClaim.holds_of_wide 3 Try.f3 rfl rfl rfl rfl rfl rfl rfl ⟨rfl, rfl, rfl, rfl, rfl⟩ rfl rfl rfl rfl rfl (by kernel_rfl) Try.func3 (by kernel_rfl)
    (of_decide_eq_true (by kernel_rfl)) (by unfold Func.isWrapper; first | (rw [if_pos (by decide +kernel)]; kernel_rfl) | (rw [if_neg (by decide +kernel)]; exact ⟨rfl, rfl⟩))
    (fun os started H enc _ => lifted os started H enc)

/-- THE STATEMENT -/
theorem proved : Rows.FnNoLeakRowsSaid := over
#print axioms proved
end Go.Proofs.Ytbjnhdhnlofibaa.fnNoLeakRows
