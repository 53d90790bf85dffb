/-
  Contracts that the proof leans on, put together in the order in which they build.
-/
import Derived.Test.YtglllflleabmbaaGreatPart18
import Derived.Test.YtglllflleabmbaaGreatPart2
import Derived.Test.YtglllflleabmbaaGreatPart21
import Derived.Deep.Cut
import Derived.Deep.CutRange
/-
  What the model draws for tables: a table that may be spoilt.
-/
namespace Go.Proofs.YtglllflleabmbaaGreat.Db
set_option maxRecDepth 100000
open Go.RowKit
open Go.Proofs.YtglllflleabmbaaGreat.Tb Go.Proofs.YtglllflleabmbaaGreat.Tk
open Go.Proofs.YtglllflleabmbaaGreat.Li (Own info_int)

theorem tabW {w w1 : World} {b : Nat} (cs : Array Value) (T : TypeId) (hg : (w.drew.alloc (.cells cs T)).grownBy w1 (some b)) (hb : b < w.heap.size) (hall : (cs.toList.all okT) = true) (x : Int) (h0 : 0 ≤ x) (h1 : x < (cs.size : Int)) :
  ∃ v : ByteArray, w1.cell? ⟨w.heap.size, x.toNat, none⟩ = some (.string v) ∧ v.size ≤ 13 := by
 have hlt : x.toNat < cs.size := by omega
 obtain ⟨v, hv, hb'⟩ := okT_str ((List.all_eq_true.1 hall) cs[x.toNat] (by simp))
 refine ⟨v, ?_, hb'⟩
 refine hg.cell (a := ⟨w.heap.size, x.toNat, none⟩) ?_ (by simp; omega)
 have e := World.cell?_alloc_new w.drew cs T x.toNat
 rw [Array.getElem?_eq_getElem hlt, hv] at e
 exact e
theorem tabN (w : World) (cs : Array Value) (T : TypeId) (hall : (cs.toList.all okT) = true) (x : Int) (h0 : 0 ≤ x) (h1 : x < (cs.size : Int)) :
  ∃ v : ByteArray, (w.alloc (.cells cs T)).cell? ⟨w.heap.size, x.toNat, none⟩ = some (.string v) ∧ v.size ≤ 13 := by
 have hlt : x.toNat < cs.size := by omega
 obtain ⟨v, hv, hb'⟩ := okT_str ((List.all_eq_true.1 hall) cs[x.toNat] (by simp))
 refine ⟨v, ?_, hb'⟩
 rw [World.cell?_alloc_new, Array.getElem?_eq_getElem hlt, hv]
set_option maxHeartbeats 40000000 in
theorem anyTable_any (w : World) (b : Nat) (K : Int) (hc : Cu.Cur w b K) (hK : K ≤ 10000000000000) :
    Calls Tryz.prog 22 #[.pointer (some ⟨b, 0, none⟩)] w (Any w b K) := by
  obtain ⟨i0, hi, hz0, hz1, hz2⟩ := info_parts info_smp
  obtain ⟨j0, hj, jz0, jz1, jz2⟩ := info_parts info_int
  obtain ⟨l0, hl, lz0, lz1, lz2⟩ := info_parts Ls.info_str
  have hbw := hc.lt
  have br := box3_new w (.int .i64 0) (.int .i64 0) (.slice none 0 0) 32
  go_enter Tryz.func22, Tryz.ntmps22
  go_wp2_with fail
  refine (table_any _ _ _ (hc.alloc _) (by omega)).mono ?_
  rintro e w1 ⟨n, c, v, rs, rfl, hb, ho, hg1, hc1⟩
  have br := box3_cur br hg1 (by omega)
  have hg := Cu.grown_trans (World.grownBy_alloc w _ (some b)) hg1
  have hs1 : w.heap.size < w1.heap.size := by have := hg1.size; simp at this; omega
  obtain ⟨a, cap, rfl, _⟩ := ho.isr
  clear hg1 hc
  have tt : Tt w b w1.heap.size (K + 300) n c (.slice a rs.length cap) (w1.alloc (.cells #[.int .i64 n, .int .i64 c, .slice a rs.length cap] 32)) :=
    ⟨box3_new _ _ _ _ _, br.alloc _, Cu.grown_alloc hg _, hc1.alloc _⟩
  obtain ⟨x, hx⟩ : ∃ x, w1.heap.size = x := ⟨_, rfl⟩
  have ox : OwnX x (w1.alloc (.cells #[.int .i64 n, .int .i64 c, .slice a rs.length cap] 32)) (w.heap.size + 1) x (.slice a rs.length cap) rs := by
    refine OwnX.alloc (OwnX.of ?_ (Nat.le_refl _)) _
    rw [← hx]
    have e := size_alloc w (.cells #[.int .i64 0, .int .i64 0, .slice none 0 0] 32)
    rw [e] at ho
    exact ho
  have HB : Hid (rs.length ≤ 11 ∧ ∀ r ∈ rs, Row.sz r ≤ 30 ∧ Row.fits r) := ⟨hb.2.2.2.2.1, hb.2.2.2.2.2⟩
  have hb' := And.intro hb.1 (And.intro hb.2.1 (And.intro hb.2.2.1 hb.2.2.2.1))
  have hr11 : rs.length ≤ 11 := hb.2.2.2.2.1
  clear hb ho
  go_wp2_with fail
  rw [hx] at tt
  have hxs : w.heap.size < x := by omega
  refine (Cu.once_any _ _ _ tt.cu (by omega) _ (by omega) (by omega)).mono ?_
  rintro e w2 ⟨t, rfl, hg2, hq2, hc2⟩
  have tt := tt.pick hbw (by omega) hg2 hc2
  have ox := ox.off hg2 (by omega)
  clear hg2 hq2 hc2 hc1 hg br hs1 hx
  cases t
  · obtain ⟨⟨hxl, ⟨x0, x1, x2⟩, xf0, xf1, xf2⟩, ⟨hrl, ⟨r0, r1, r2⟩, rf0, rf1, rf2⟩, _, cu⟩ := id tt
    go_wp2
    refine bodyPost_ret (v := .agg #[.int .i64 n, .int .i64 c, .slice a rs.length cap]) (by rw [results_cell rfl]; go_simp) rfl (fin_same tt ox hbw HB.out (by omega))
  · go_wp2_with fail
    refine (Cu.pick_any _ _ _ tt.cu (by omega) _ (by omega)).mono ?_
    rintro e w3 ⟨z, rfl, z0, z1, hg3, hq3, hc3⟩
    have z2 : z < 6 := z1 (by omega)
    have tt := tt.pick hbw (by omega) hg3 hc3
    have ox := ox.off hg3 (by omega)
    clear hg3 hq3 hc3 z1
    obtain ⟨⟨hxl, ⟨x0, x1, x2⟩, xf0, xf1, xf2⟩, ⟨hrl, ⟨r0, r1, r2⟩, rf0, rf1, rf2⟩, _, cu⟩ := id tt
    rcases (show z = 0 ∨ z = 1 ∨ z = 2 ∨ z = 3 ∨ z = 4 ∨ z = 5 by omega) with rfl | rfl | rfl | rfl | rfl | rfl
    · go_wp2_with fail
      refine (Cu.raw_any _ _ _ cu (by omega)).mono ?_
      rintro e w4 ⟨y, rfl, y0, y1, hg4, hc4⟩
      have tt := tt.pick hbw (by omega) hg4 hc4
      have ox := ox.off hg4 (by omega)
      obtain ⟨⟨hxl, ⟨x0, x1, x2⟩, xf0, xf1, xf2⟩, ⟨hrl, ⟨r0, r1, r2⟩, rf0, rf1, rf2⟩, _, _⟩ := id tt
      have HT : Hid (Tt w b x (K + 300 + 1 + 1 + 2) y c (.slice a rs.length cap) (w4.setCell ⟨x, 0, none⟩ (.int .i64 y))) := ⟨tt.bx.set0 _, tt.br.setOther (by omega), grown_setN tt.gr (by omega), cur_set tt.cu (by omega)⟩
      have HX : Hid (OwnX x (w4.setCell ⟨x, 0, none⟩ (.int .i64 y)) (w.heap.size + 1) x (.slice a rs.length cap) rs) := ox.off (grown_set' _ _ _ _) (.inr (.inr rfl))
      clear hg4 hc4 tt ox cu
      go_wp2
      refine bodyPost_ret (v := .agg #[.int .i64 y, .int .i64 c, .slice a rs.length cap]) (by rw [results_cell rfl]; go_simp) rfl (fin_same HT.out HX.out hbw HB.out (by omega))
    · go_wp2_with fail
      refine (Cu.pick_any _ _ _ cu (by omega) _ (by omega)).mono ?_
      rintro e w4 ⟨y, rfl, y0, y1, hg4, _, hc4⟩
      have tt := tt.pick hbw (by omega) hg4 hc4
      have ox := ox.off hg4 (by omega)
      obtain ⟨⟨hxl, ⟨x0, x1, x2⟩, xf0, xf1, xf2⟩, ⟨hrl, ⟨r0, r1, r2⟩, rf0, rf1, rf2⟩, _, _⟩ := id tt
      have HT : Hid (Tt w b x (K + 300 + 1 + 1 + 1) n y (.slice a rs.length cap) (w4.setCell ⟨x, 1, none⟩ (.int .i64 y))) := ⟨tt.bx.set1 _, tt.br.setOther (by omega), grown_setN tt.gr (by omega), cur_set tt.cu (by omega)⟩
      have HX : Hid (OwnX x (w4.setCell ⟨x, 1, none⟩ (.int .i64 y)) (w.heap.size + 1) x (.slice a rs.length cap) rs) := ox.off (grown_set' _ _ _ _) (.inr (.inr rfl))
      clear hg4 hc4 tt ox cu
      go_wp2
      refine bodyPost_ret (v := .agg #[.int .i64 n, .int .i64 y, .slice a rs.length cap]) (by rw [results_cell rfl]; go_simp) rfl (fin_same HT.out HX.out hbw HB.out (by omega))
    · by_cases h0 : 0 < rs.length
      · obtain ⟨g, hga⟩ : ∃ g, a = some ⟨g, 0, none⟩ := by
          obtain ⟨_, _, _, _, ⟨_, hown, _⟩, _⟩ := ox
          obtain ⟨g, _, e, _⟩ := hown.form h0
          simp at e
          exact ⟨g, e.1⟩
        subst hga
        go_wp2_with fail
        have hb3 : b < w3.heap.size := cu.lt
        go_region_with (first
          | (go_at_call 37
             refine (Cu.raw_any _ _ _ cu.drew (by omega)).mono ?_
             rintro e w4 ⟨y, rfl, y0, y1, hg4, hc4⟩
             have hb4 : b < w4.heap.size := hc4.lt
             have tt4 := tt.drew.pick hbw (by omega) hg4 hc4
             have ox4 := OwnX.off (w := World.drew _) ox hg4 (by omega)
             obtain ⟨⟨hxl4, ⟨p0, p1, p2⟩, _, _, _⟩, _, _, _⟩ := id tt4
             clear hg4)
          | (go_at_call 36
             refine (Cu.pick_any _ _ _ (by first | exact hc4 | exact hc4.alloc _) (by omega) _ (by omega)).mono ?_
             rintro e w5 ⟨u, rfl, ub0, ub1, hg5, hq5, hc5⟩
             have hb5 : b < w5.heap.size := hc5.lt
             have ub2 : u < 2 := ub1 (by omega)
             obtain ⟨q, hv, v0, v1⟩ := tabI [.int .i64 y, .int .i64 1000001] (-9223372036854775808) 9223372036854775807 (by simp [Cu.okv]; omega) u ub0 (by simp; omega)
             have tt5 := Tt.pick (by first | exact tt4 | exact tt4.alloc _) hbw (by omega) hg5 hc5
             have ox5 : OwnX x w5 _ _ _ _ := (by first | exact ox4.off hg5 (by omega) | exact (ox4.alloc _).off hg5 (by omega))
             have hk5 := kept hg5
             have hz5' := Nat.le_of_eq hq5.symm
             have hz5'' := Nat.le_of_eq hq5
             try simp at hz5'
             try simp at hz5''
             try simp at hk5
             obtain ⟨g', xs, V0, V1, ⟨hg', hown, hN, _⟩, hgx, _⟩ := id ox5
             obtain rfl : g = g' := (hg' g rfl).1
             have hgl := World.ownsRow.lt hown g rfl
             have hgl' : g < w5.heap.size := hgl.2
             have hgR := hgl.1
             have hgx' : ¬ g = x := (fun e => hgx (by rw [← e]; rfl))
             have hgf := World.ownsRow.frozenAt hown 2
             have hg2 : w5.cell? ⟨g, 2, none⟩ = some (.int .i64 rs[0].label) := (World.ownsRow.cellAt hown 2 (by omega)).trans (by simpa using (hN.1 0 h0 h0).1.2.2)
             obtain ⟨⟨hxl5, ⟨p0, p1, p2⟩, _, _, _⟩, _, _, _⟩ := id tt5
             clear hq5 ub1 hg5 hN hown hg' ox4))
        all_goals
          obtain ⟨rs', hlen', hB', hR⟩ := read_lab (q := q) rfl ox5 h0 HB.out
          have tS := tt5.setAt (o := 2) (v := .int .i64 q) hbw hgR hgx'
          have HT : Hid (Tt w b x (K + 300 + 1 + 1 + 2 + 1) n c (.slice (some ⟨g, 0, none⟩) rs.length cap) (w5.setCell ⟨g, 2, none⟩ (.int .i64 q))) := tS
          clear tS tt5 ox5 tt4 tt ox hk5 hv hg2 hgf p0 p1 p2 cu x0 x1 x2 xf0 xf1 xf2 r0 r1 r2 rf0 rf1 rf2
          first
            | (obtain ⟨W1, hW⟩ : ∃ W1, (w5.setCell ⟨g, 2, none⟩ (.int .i64 q)).alloc (.cells #[.int .i64 y, .int .i64 1000001] 3) = W1 := ⟨_, rfl⟩
               rw [hW])
            | (obtain ⟨W1, hW⟩ : ∃ W1, w5.setCell ⟨g, 2, none⟩ (.int .i64 q) = W1 := ⟨_, rfl⟩
               rw [hW])
          have t1 : Tt w b x (K + 300 + 1 + 1 + 2 + 1) n c (.slice (some ⟨g, 0, none⟩) rs.length cap) W1 := (by subst hW; first | exact HT.out.alloc _ | exact HT.out)
          have R1 : ReadT W1 w.heap.size (some ⟨g, 0, none⟩) rs' := (by subst hW; first | exact hR.alloc _ | exact hR)
          clear hW
          obtain ⟨⟨hxl, ⟨x0, x1, x2⟩, xf0, xf1, xf2⟩, ⟨hrl, ⟨r0, r1, r2⟩, rf0, rf1, rf2⟩, _, _⟩ := id t1
          have HE : Hid (rs.length = rs'.length) := hlen'
          clear hlen'
          go_wp2
          refine bodyPost_ret (v := .agg #[.int .i64 n, .int .i64 c, .slice (some ⟨g, 0, none⟩) rs.length cap]) (by rw [results_cell rfl]; go_simp) rfl (fin_any t1 HE.out R1 hbw hB' (by omega))
      · go_wp2
        refine bodyPost_ret (v := .agg #[.int .i64 n, .int .i64 c, .slice a rs.length cap]) (by rw [results_cell rfl]; go_simp) rfl (fin_same tt ox hbw HB.out (by omega))
    · by_cases h0 : 0 < rs.length
      · obtain ⟨g, hga⟩ : ∃ g, a = some ⟨g, 0, none⟩ := by
          obtain ⟨_, _, _, _, ⟨_, hown, _⟩, _⟩ := ox
          obtain ⟨g, _, e, _⟩ := hown.form h0
          simp at e
          exact ⟨g, e.1⟩
        subst hga
        go_wp2_with fail
        have hb3 : b < w3.heap.size := cu.lt
        obtain ⟨g', xs, V0, V1, cx⟩ := id ox
        have cx : CompX x w3 (w.heap.size + 1) x (.slice (some ⟨g, 0, none⟩) rs.length cap) rs g' xs V0 V1 := cx
        obtain rfl : g = g' := (cx.1.1 g rfl).1
        obtain ⟨k0, k1, k2, kf, hgR, hg3, hgx⟩ := cx.cells h0
        have kf0 := kf 0
        have bnd := HB.out.2 rs[0] (List.getElem_mem h0)
        have hnl : rs[0].nums.length ≤ 30 := by have := bnd.1; simp only [Row.sz] at this; omega
        clear bnd kf
        have hS : w3.drew.cell? ⟨x, 2, none⟩ = some (.slice (some ⟨g, 0, none⟩) rs.length cap) ∧ w3.drew.cell? ⟨g, 0, none⟩ = some (V0 0) := ⟨x2, k0⟩
        refine Hd.start (fun w' => w'.cell? ⟨x, 2, none⟩ = some (.slice (some ⟨g, 0, none⟩) rs.length cap) ∧ w'.cell? ⟨g, 0, none⟩ = some (V0 0)) 13 (by kernel_rfl) ?_
        refine Hd.After.pure (i := 0) (.pointer (some ⟨x, 2, none⟩)) rfl (by kernel_rfl) (by decide) (by kernel_rfl) (by kernel_rfl) (fun _ _ _ h => h) hS (Or.inl ⟨by rfl, ?_⟩) ?_
        · intro W; go_simp
        simp only [Act.put]
        refine Hd.After.take (i := 1) (.slice (some ⟨g, 0, none⟩) rs.length cap) rfl (by kernel_rfl) (by kernel_rfl) (by kernel_rfl) (by kernel_rfl) (by kernel_rfl) (fun _ _ _ h => h) hS (Or.inl ⟨by rfl, ?_⟩) ?_
        · rintro W ⟨hW1, hW2⟩; go_simp
        simp only [Act.put]
        refine Hd.After.pure (i := 2) (.pointer (some ⟨x, 2, none⟩)) rfl (by kernel_rfl) (by decide) (by kernel_rfl) (by kernel_rfl) (fun _ _ _ h => h) hS (Or.inl ⟨by rfl, ?_⟩) ?_
        · intro W; go_simp
        simp only [Act.put]
        refine Hd.After.take (i := 3) (.slice (some ⟨g, 0, none⟩) rs.length cap) rfl (by kernel_rfl) (by kernel_rfl) (by kernel_rfl) (by kernel_rfl) (by kernel_rfl) (fun _ _ _ h => h) hS (Or.inl ⟨by rfl, ?_⟩) ?_
        · rintro W ⟨hW1, hW2⟩; go_simp
        simp only [Act.put]
        refine Hd.After.pure (i := 4) (.pointer (some ⟨g, 0, none⟩)) rfl (by kernel_rfl) (by decide) (by kernel_rfl) (by kernel_rfl) (fun _ _ _ h => h) hS (Or.inl ⟨by rfl, ?_⟩) ?_
        · intro W; go_simp
        simp only [Act.put]
        refine Hd.After.pure (i := 5) (.pointer (some ⟨g, 0, none⟩)) rfl (by kernel_rfl) (by decide) (by kernel_rfl) (by kernel_rfl) (fun _ _ _ h => h) hS (Or.inl ⟨by rfl, ?_⟩) ?_
        · intro W; go_simp
        simp only [Act.put]
        refine Hd.After.take (i := 6) (V0 0) rfl (by kernel_rfl) (by kernel_rfl) (by kernel_rfl) (by kernel_rfl) (by kernel_rfl) (fun _ _ _ h => h) hS (Or.inl ⟨by rfl, ?_⟩) ?_
        · rintro W ⟨hW1, hW2⟩; go_simp
        simp only [Act.put]
        refine Hd.After.pure (i := 7) (.pointer (some ⟨b, 0, none⟩)) rfl (by kernel_rfl) (by decide) (by kernel_rfl) (by kernel_rfl) (fun _ _ _ h => h) hS (Or.inl ⟨by rfl, ?_⟩) ?_
        · intro W; go_simp
        simp only [Act.put]
        refine Hd.After.one (i := 8) (by kernel_rfl) rfl rfl ?_
        intro K8 hK8
        go_simp
        go_wp2_with (
          go_at_call 37
          refine (Cu.raw_any _ _ _ cu.drew (by omega)).mono ?_
          rintro e w4 ⟨y, rfl, y0, y1, hg4, hc4⟩)
        have hb4 : b < w4.heap.size := hc4.lt
        have tt4 := tt.drew.pick hbw (by omega) hg4 hc4
        have cx4 := CompX.off (w := World.drew _) cx hg4 (by omega)
        obtain ⟨m0, m1, m2, mf, _, hg4', _⟩ := cx4.cells h0
        have mf0 := mf 0
        have hS4 : w4.cell? ⟨x, 2, none⟩ = some (.slice (some ⟨g, 0, none⟩) rs.length cap) ∧ w4.cell? ⟨g, 0, none⟩ = some (V0 0) := ⟨tt4.bx.2.1.2.2, m0⟩
        clear hg4 mf
        refine hK8 _ _ (fun _ => hS4) ?_
        clear hK8 K8
        refine Hd.After.one (i := 9) (by kernel_rfl) rfl rfl ?_
        intro K9 hK9
        go_simp
        refine hK9 _ _ (fun _ => ⟨(tt4.alloc _).bx.2.1.2.2, by have h := (cx4.alloc (.cells #[.int .i64 y] 3)).cells h0; exact h.1⟩) ?_
        clear hK9 K9
        refine Hd.After.one (i := 10) (by kernel_rfl) rfl rfl ?_
        intro K10 hK10
        refine wp_append_lies _ _ _ 37 rfl (w.heap.size + 1) 3 j0 (.int .i64 0) 1 8 Tryz.underlying37 hj jz0 jz1 jz2 rfl (by decide) (V0 0) rs[0].nums.length (Li.iv rs[0].nums) rfl (World.ownsRow.alloc (cx4.1.2.2.1.1 0 h0 h0).2.1 _) _ 1 1 [.int .i64 y] rfl rfl (one_at (by simp)) (one_one _) (by decide) (by unfold maxLen; omega) (by omega) (by have := tt4.bx.1; simp; omega) _ rfl ?_
        intro g5 cap5 w5 hown5 hgrow hpos hglt
        have tt5 := Tt.grow' (tt4.alloc _) hbw hgrow (fun k hk => ⟨((cx4.1.2.2.1.1 0 h0 h0).2.1.ge k hk).1, fun e => (cx4.2.2 0 h0).1 (by rw [hk, e])⟩)
        have eb := hgrow.block g (by simp; omega) (fun e => (cx4.1.2.2.1.2.1 0 h0).1 e.symm)
        rw [Below.heap_alloc _ _ _ hg4'] at eb
        have s0 : w5.cell? ⟨g, 0, none⟩ = some (V0 0) := (World.cell?_of_block (a := ⟨g, 0, none⟩) eb).trans m0
        have sf0 : w5.frozen? ⟨g, 0, none⟩ = false := (World.frozen?_of_block (a := ⟨g, 0, none⟩) eb).trans mf0
        have hS5 : w5.cell? ⟨x, 2, none⟩ = some (.slice (some ⟨g, 0, none⟩) rs.length cap) ∧ w5.cell? ⟨g, 0, none⟩ = some (V0 0) := ⟨tt5.bx.2.1.2.2, s0⟩
        refine hK10 _ _ (fun _ => hS5) ?_
        clear hK10 K10
        simp only [Act.put]
        refine Hd.After.pure (i := 11) (.pointer (some ⟨g, 0, none⟩)) rfl (by kernel_rfl) (by decide) (by kernel_rfl) (by kernel_rfl) (fun _ _ _ h => h) hS5 (Or.inl ⟨by rfl, ?_⟩) ?_
        · intro W; go_simp
        simp only [Act.put]
        refine Hd.After.pure (i := 12) (.pointer (some ⟨g, 0, none⟩)) rfl (by kernel_rfl) (by decide) (by kernel_rfl) (by kernel_rfl) (fun _ _ _ h => h) hS5 (Or.inl ⟨by rfl, ?_⟩) ?_
        · intro W; go_simp
        simp only [Act.put]
        refine Hd.After.one (i := 13) (by kernel_rfl) rfl rfl ?_
        intro K13 hK13
        go_simp
        refine hK13 _ _ (fun h => by cases h) ?_
        clear hK13 K13
        refine Hd.After.done (by kernel_rfl) ?_ _
        obtain ⟨rs', hlen', hB', hR⟩ := read_nums rfl (cx4.alloc _) h0 HB.out rfl hgrow hpos hown5
        have tS := tt5.setAt (o := 0) (v := .slice (some ⟨g5, 0, none⟩) (rs[0].nums.length + 1) cap5) hbw hgR hgx
        clear hS hS4 hS5 tt5 tt4 tt ox cx cx4 cu x0 x1 x2 xf0 xf1 xf2 r0 r1 r2 rf0 rf1 rf2 hown5 hgrow hpos s0 sf0 m0 m1 m2 mf0 k0 k1 k2 kf0 eb
        obtain ⟨W1, hW⟩ : ∃ W1, w5.setCell ⟨g, 0, none⟩ (.slice (some ⟨g5, 0, none⟩) (rs[0].nums.length + 1) cap5) = W1 := ⟨_, rfl⟩
        rw [hW] at hR tS ⊢
        clear hW
        obtain ⟨⟨hxl, ⟨x0, x1, x2⟩, xf0, xf1, xf2⟩, ⟨hrl, ⟨r0, r1, r2⟩, rf0, rf1, rf2⟩, _, _⟩ := id tS
        have HE : Hid (rs.length = rs'.length) := hlen'
        clear hlen'
        go_wp2
        refine bodyPost_ret (v := .agg #[.int .i64 n, .int .i64 c, .slice (some ⟨g, 0, none⟩) rs.length cap]) (by rw [results_cell rfl]; go_simp) rfl (fin_any tS HE.out hR hbw hB' (by omega))
      · go_wp2
        refine bodyPost_ret (v := .agg #[.int .i64 n, .int .i64 c, .slice a rs.length cap]) (by rw [results_cell rfl]; go_simp) rfl (fin_same tt ox hbw HB.out (by omega))
    · by_cases h0 : 0 < rs.length
      · obtain ⟨g, hga⟩ : ∃ g, a = some ⟨g, 0, none⟩ := by
          obtain ⟨_, _, _, _, ⟨_, hown, _⟩, _⟩ := ox
          obtain ⟨g, _, e, _⟩ := hown.form h0
          simp at e
          exact ⟨g, e.1⟩
        subst hga
        go_wp2_with fail
        have hb3 : b < w3.heap.size := cu.lt
        obtain ⟨g', xs, V0, V1, cx⟩ := id ox
        have cx : CompX x w3 (w.heap.size + 1) x (.slice (some ⟨g, 0, none⟩) rs.length cap) rs g' xs V0 V1 := cx
        obtain rfl : g = g' := (cx.1.1 g rfl).1
        obtain ⟨k0, k1, k2, kf, hgR, hg3, hgx⟩ := cx.cells h0
        have kf0 := kf 1
        have bnd := HB.out.2 rs[0] (List.getElem_mem h0)
        have hnl : rs[0].cats.length ≤ 30 := by have := bnd.1; simp only [Row.sz] at this; omega
        clear bnd kf
        have hS : w3.drew.cell? ⟨x, 2, none⟩ = some (.slice (some ⟨g, 0, none⟩) rs.length cap) ∧ w3.drew.cell? ⟨g, 1, none⟩ = some (V1 0) := ⟨x2, k1⟩
        refine Hd.start (fun w' => w'.cell? ⟨x, 2, none⟩ = some (.slice (some ⟨g, 0, none⟩) rs.length cap) ∧ w'.cell? ⟨g, 1, none⟩ = some (V1 0)) 16 (by kernel_rfl) ?_
        refine Hd.After.pure (i := 0) (.pointer (some ⟨x, 2, none⟩)) rfl (by kernel_rfl) (by decide) (by kernel_rfl) (by kernel_rfl) (fun _ _ _ h => h) hS (Or.inl ⟨by rfl, ?_⟩) ?_
        · intro W; go_simp
        simp only [Act.put]
        refine Hd.After.take (i := 1) (.slice (some ⟨g, 0, none⟩) rs.length cap) rfl (by kernel_rfl) (by kernel_rfl) (by kernel_rfl) (by kernel_rfl) (by kernel_rfl) (fun _ _ _ h => h) hS (Or.inl ⟨by rfl, ?_⟩) ?_
        · rintro W ⟨hW1, hW2⟩; go_simp
        simp only [Act.put]
        refine Hd.After.pure (i := 2) (.pointer (some ⟨x, 2, none⟩)) rfl (by kernel_rfl) (by decide) (by kernel_rfl) (by kernel_rfl) (fun _ _ _ h => h) hS (Or.inl ⟨by rfl, ?_⟩) ?_
        · intro W; go_simp
        simp only [Act.put]
        refine Hd.After.take (i := 3) (.slice (some ⟨g, 0, none⟩) rs.length cap) rfl (by kernel_rfl) (by kernel_rfl) (by kernel_rfl) (by kernel_rfl) (by kernel_rfl) (fun _ _ _ h => h) hS (Or.inl ⟨by rfl, ?_⟩) ?_
        · rintro W ⟨hW1, hW2⟩; go_simp
        simp only [Act.put]
        refine Hd.After.pure (i := 4) (.pointer (some ⟨g, 0, none⟩)) rfl (by kernel_rfl) (by decide) (by kernel_rfl) (by kernel_rfl) (fun _ _ _ h => h) hS (Or.inl ⟨by rfl, ?_⟩) ?_
        · intro W; go_simp
        simp only [Act.put]
        refine Hd.After.pure (i := 5) (.pointer (some ⟨g, 1, none⟩)) rfl (by kernel_rfl) (by decide) (by kernel_rfl) (by kernel_rfl) (fun _ _ _ h => h) hS (Or.inl ⟨by rfl, ?_⟩) ?_
        · intro W; go_simp
        simp only [Act.put]
        refine Hd.After.take (i := 6) (V1 0) rfl (by kernel_rfl) (by kernel_rfl) (by kernel_rfl) (by kernel_rfl) (by kernel_rfl) (fun _ _ _ h => h) hS (Or.inl ⟨by rfl, ?_⟩) ?_
        · rintro W ⟨hW1, hW2⟩; go_simp
        simp only [Act.put]
        refine Hd.After.pure (i := 8) (.pointer (some ⟨b, 0, none⟩)) rfl (by kernel_rfl) (by decide) (by kernel_rfl) (by kernel_rfl) (fun _ _ _ h => h) hS (Or.inl ⟨by rfl, ?_⟩) ?_
        · intro W; go_simp
        simp only [Act.put]
        refine Hd.After.two (i := 7) (j := 9) (by kernel_rfl) rfl rfl rfl rfl ?_ ?_
        · intro K7 hK7
          go_simp
          refine hK7 _ _ (fun _ => ⟨(tt.drew.alloc _).bx.2.1.2.2, by have h := (CompX.alloc (w := World.drew _) cx (.cells #[.string ⟨#[]⟩, .string ⟨#[65]⟩, .string ⟨#[97, 98, 99, 100, 101, 102, 103, 104, 105, 106, 107, 108, 109]⟩] 9)).cells h0; exact h.2.1⟩) ?_
          clear hK7 K7
          refine Hd.After.one (i := 9) (by kernel_rfl) rfl rfl ?_
          intro K9 hK9
          go_simp
          go_wp2_with (
            go_at_call 36
            refine (Cu.pick_any _ _ _ (cu.drew.alloc _) (by omega) _ (by omega)).mono ?_
            rintro e w4 ⟨y, rfl, yb0, yb1, hg4, hq4, hc4⟩)
          have hb4 : b < w4.heap.size := hc4.lt
          have yb2 : y < 3 := yb1 (by omega)
          obtain ⟨q, hqc, hq13⟩ := tabW _ _ hg4 hb3 (by decide) y yb0 yb2
          have ttW := Tt.pick (tt.drew.alloc _) hbw (by omega) hg4 hc4
          have cxW : CompX x w4 (w.heap.size + 1) x (.slice (some ⟨g, 0, none⟩) rs.length cap) rs g xs V0 V1 := CompX.off (CompX.alloc (w := World.drew _) cx _) hg4 (by omega)
          obtain ⟨m0, m1, m2, mf, _, hgW, _⟩ := cxW.cells h0
          have mfW := mf 1
          have hSW : w4.cell? ⟨x, 2, none⟩ = some (.slice (some ⟨g, 0, none⟩) rs.length cap) ∧ w4.cell? ⟨g, 1, none⟩ = some (V1 0) := ⟨ttW.bx.2.1.2.2, m1⟩
          clear hg4 mf hq4 yb1 m0 m1 m2
          refine hK9 _ _ (fun _ => hSW) ?_
          clear hK9 K9
          refine Hd.After.one (i := 10) (by kernel_rfl) rfl rfl ?_
          intro K10 hK10
          go_simp
          refine hK10 _ _ (fun _ => hSW) ?_
          clear hK10 K10
          refine Hd.After.one (i := 11) (by kernel_rfl) rfl rfl ?_
          intro K11 hK11
          go_simp
          refine hK11 _ _ (fun _ => hSW) ?_
          clear hK11 K11
          refine Hd.After.one (i := 12) (by kernel_rfl) rfl rfl ?_
          intro K12 hK12
          go_simp
          refine hK12 _ _ (fun _ => ⟨(ttW.alloc _).bx.2.1.2.2, by have h := (cxW.alloc (.cells #[.string q] 9)).cells h0; exact h.2.1⟩) ?_
          clear hK12 K12
          refine Hd.After.one (i := 13) (by kernel_rfl) rfl rfl ?_
          intro K13 hK13
          refine wp_append_lies _ _ _ 48 rfl (w.heap.size + 1) 9 l0 (.string ⟨#[]⟩) 1 16 Tryz.underlying48 hl lz0 lz1 lz2 rfl (by decide) (V1 0) rs[0].cats.length (Ls.sv rs[0].cats) rfl (World.ownsRow.alloc (cxW.1.2.2.1.1 0 h0 h0).2.2 _) _ 1 1 [.string q] rfl rfl (sone_at (by simp)) (sone_one _) (by decide) (by unfold maxLen; omega) (by omega) (by have := ttW.bx.1; simp; omega) _ rfl ?_
          intro g5 cap5 w5 hown5 hgrow hpos hglt
          have tt5 := Tt.grow' (ttW.alloc _) hbw hgrow (fun k hk => ⟨((cxW.1.2.2.1.1 0 h0 h0).2.2.ge k hk).1, fun e => (cxW.2.2 0 h0).2 (by rw [hk, e])⟩)
          have eb := hgrow.block g (by simp; omega) (fun e => (cxW.1.2.2.1.2.1 0 h0).2 e.symm)
          rw [Below.heap_alloc _ _ _ hgW] at eb
          have s0 : w5.cell? ⟨g, 1, none⟩ = some (V1 0) := (World.cell?_of_block (a := ⟨g, 1, none⟩) eb).trans hSW.2
          have sf0 : w5.frozen? ⟨g, 1, none⟩ = false := (World.frozen?_of_block (a := ⟨g, 1, none⟩) eb).trans mfW
          have hS5 : w5.cell? ⟨x, 2, none⟩ = some (.slice (some ⟨g, 0, none⟩) rs.length cap) ∧ w5.cell? ⟨g, 1, none⟩ = some (V1 0) := ⟨tt5.bx.2.1.2.2, s0⟩
          obtain ⟨rs', hlen', hB', hR⟩ := read_cats (len := rs.length) (cap := cap) rfl (cxW.alloc _) h0 HB.out rfl hq13 hgrow hpos hown5
          have HE : Hid (rs.length = rs'.length) := hlen'
          clear hlen'
          refine hK13 _ _ (fun _ => hS5) ?_
          clear hK13 K13
          simp only [Act.put]
          refine Hd.After.pure (i := 14) (.pointer (some ⟨g, 0, none⟩)) rfl (by kernel_rfl) (by decide) (by kernel_rfl) (by kernel_rfl) (fun _ _ _ h => h) hS5 (Or.inl ⟨by rfl, ?_⟩) ?_
          · intro W; go_simp
          simp only [Act.put]
          refine Hd.After.pure (i := 15) (.pointer (some ⟨g, 1, none⟩)) rfl (by kernel_rfl) (by decide) (by kernel_rfl) (by kernel_rfl) (fun _ _ _ h => h) hS5 (Or.inl ⟨by rfl, ?_⟩) ?_
          · intro W; go_simp
          simp only [Act.put]
          refine Hd.After.one (i := 16) (by kernel_rfl) rfl rfl ?_
          intro K16 hK16
          go_simp
          refine hK16 _ _ (fun h => by cases h) ?_
          clear hK16 K16
          refine Hd.After.done (by kernel_rfl) ?_ _
          have tS := tt5.setAt (o := 1) (v := .slice (some ⟨g5, 0, none⟩) (rs[0].cats.length + 1) cap5) hbw hgR hgx
          clear hS hSW hS5 tt5 ttW tt ox cx cxW cu x0 x1 x2 xf0 xf1 xf2 r0 r1 r2 rf0 rf1 rf2 hown5 hgrow hpos s0 sf0 mfW k0 k1 k2 kf0 eb hqc
          obtain ⟨W1, hW⟩ : ∃ W1, w5.setCell ⟨g, 1, none⟩ (.slice (some ⟨g5, 0, none⟩) (rs[0].cats.length + 1) cap5) = W1 := ⟨_, rfl⟩
          rw [hW] at hR tS ⊢
          clear hW
          obtain ⟨⟨hxl, ⟨x0, x1, x2⟩, xf0, xf1, xf2⟩, ⟨hrl, ⟨r0, r1, r2⟩, rf0, rf1, rf2⟩, _, _⟩ := id tS
          go_wp2
          refine bodyPost_ret (v := .agg #[.int .i64 n, .int .i64 c, .slice (some ⟨g, 0, none⟩) rs.length cap]) (by rw [results_cell rfl]; go_simp) rfl (fin_any tS HE.out hR hbw hB' (by omega))
        · intro K9 hK9
          go_simp
          go_wp2_with (
            go_at_call 36
            refine (Cu.pick_any _ _ _ cu.drew (by omega) _ (by omega)).mono ?_
            rintro e w4 ⟨y, rfl, yb0, yb1, hg4, hq4, hc4⟩)
          have hb4 : b < w4.heap.size := hc4.lt
          have yb2 : y < 3 := yb1 (by omega)
          have tt4 := Tt.pick tt.drew hbw (by omega) hg4 hc4
          have cx4 : CompX x w4 (w.heap.size + 1) x (.slice (some ⟨g, 0, none⟩) rs.length cap) rs g xs V0 V1 := CompX.off (w := World.drew _) cx hg4 (by omega)
          have ttW := tt4.alloc (.cells #[.string ⟨#[]⟩, .string ⟨#[65]⟩, .string ⟨#[97, 98, 99, 100, 101, 102, 103, 104, 105, 106, 107, 108, 109]⟩] 9)
          have cxW := cx4.alloc (.cells #[.string ⟨#[]⟩, .string ⟨#[65]⟩, .string ⟨#[97, 98, 99, 100, 101, 102, 103, 104, 105, 106, 107, 108, 109]⟩] 9)
          obtain ⟨q, hqc, hq13⟩ := tabN w4 (#[.string ⟨#[]⟩, .string ⟨#[65]⟩, .string ⟨#[97, 98, 99, 100, 101, 102, 103, 104, 105, 106, 107, 108, 109]⟩]) 9 (by decide) y yb0 yb2
          obtain ⟨m0, m1, m2, mf, _, hgW, _⟩ := cxW.cells h0
          obtain ⟨m0', m1', m2', _⟩ := cx4.cells h0
          have mfW := mf 1
          have hS4 : w4.cell? ⟨x, 2, none⟩ = some (.slice (some ⟨g, 0, none⟩) rs.length cap) ∧ w4.cell? ⟨g, 1, none⟩ = some (V1 0) := ⟨tt4.bx.2.1.2.2, m1'⟩
          have hSW : (w4.alloc (.cells #[.string ⟨#[]⟩, .string ⟨#[65]⟩, .string ⟨#[97, 98, 99, 100, 101, 102, 103, 104, 105, 106, 107, 108, 109]⟩] 9)).cell? ⟨x, 2, none⟩ = some (.slice (some ⟨g, 0, none⟩) rs.length cap) ∧ (w4.alloc (.cells #[.string ⟨#[]⟩, .string ⟨#[65]⟩, .string ⟨#[97, 98, 99, 100, 101, 102, 103, 104, 105, 106, 107, 108, 109]⟩] 9)).cell? ⟨g, 1, none⟩ = some (V1 0) := ⟨ttW.bx.2.1.2.2, m1⟩
          clear hg4 mf hq4 yb1 m0 m1 m2 m0' m1' m2'
          refine hK9 _ _ (fun _ => hS4) ?_
          clear hK9 K9
          refine Hd.After.one (i := 7) (by kernel_rfl) rfl rfl ?_
          intro K7 hK7
          go_simp
          refine hK7 _ _ (fun _ => hSW) ?_
          clear hK7 K7 hS4 tt4 cx4
          obtain ⟨W, hWW⟩ : ∃ W, w4.alloc (.cells #[.string ⟨#[]⟩, .string ⟨#[65]⟩, .string ⟨#[97, 98, 99, 100, 101, 102, 103, 104, 105, 106, 107, 108, 109]⟩] 9) = W := ⟨_, rfl⟩
          rw [hWW] at ttW cxW hqc hgW mfW hSW ⊢
          clear hWW
          refine Hd.After.one (i := 10) (by kernel_rfl) rfl rfl ?_
          intro K10 hK10
          go_simp
          refine hK10 _ _ (fun _ => hSW) ?_
          clear hK10 K10
          refine Hd.After.one (i := 11) (by kernel_rfl) rfl rfl ?_
          intro K11 hK11
          go_simp
          refine hK11 _ _ (fun _ => hSW) ?_
          clear hK11 K11
          refine Hd.After.one (i := 12) (by kernel_rfl) rfl rfl ?_
          intro K12 hK12
          go_simp
          refine hK12 _ _ (fun _ => ⟨(ttW.alloc _).bx.2.1.2.2, by have h := (cxW.alloc (.cells #[.string q] 9)).cells h0; exact h.2.1⟩) ?_
          clear hK12 K12
          refine Hd.After.one (i := 13) (by kernel_rfl) rfl rfl ?_
          intro K13 hK13
          refine wp_append_lies _ _ _ 48 rfl (w.heap.size + 1) 9 l0 (.string ⟨#[]⟩) 1 16 Tryz.underlying48 hl lz0 lz1 lz2 rfl (by decide) (V1 0) rs[0].cats.length (Ls.sv rs[0].cats) rfl (World.ownsRow.alloc (cxW.1.2.2.1.1 0 h0 h0).2.2 _) _ 1 1 [.string q] rfl rfl (sone_at (by simp)) (sone_one _) (by decide) (by unfold maxLen; omega) (by omega) (by have := ttW.bx.1; simp; omega) _ rfl ?_
          intro g5 cap5 w5 hown5 hgrow hpos hglt
          have tt5 := Tt.grow' (ttW.alloc _) hbw hgrow (fun k hk => ⟨((cxW.1.2.2.1.1 0 h0 h0).2.2.ge k hk).1, fun e => (cxW.2.2 0 h0).2 (by rw [hk, e])⟩)
          have eb := hgrow.block g (by simp; omega) (fun e => (cxW.1.2.2.1.2.1 0 h0).2 e.symm)
          rw [Below.heap_alloc _ _ _ hgW] at eb
          have s0 : w5.cell? ⟨g, 1, none⟩ = some (V1 0) := (World.cell?_of_block (a := ⟨g, 1, none⟩) eb).trans hSW.2
          have sf0 : w5.frozen? ⟨g, 1, none⟩ = false := (World.frozen?_of_block (a := ⟨g, 1, none⟩) eb).trans mfW
          have hS5 : w5.cell? ⟨x, 2, none⟩ = some (.slice (some ⟨g, 0, none⟩) rs.length cap) ∧ w5.cell? ⟨g, 1, none⟩ = some (V1 0) := ⟨tt5.bx.2.1.2.2, s0⟩
          obtain ⟨rs', hlen', hB', hR⟩ := read_cats (len := rs.length) (cap := cap) rfl (cxW.alloc _) h0 HB.out rfl hq13 hgrow hpos hown5
          have HE : Hid (rs.length = rs'.length) := hlen'
          clear hlen'
          refine hK13 _ _ (fun _ => hS5) ?_
          clear hK13 K13
          simp only [Act.put]
          refine Hd.After.pure (i := 14) (.pointer (some ⟨g, 0, none⟩)) rfl (by kernel_rfl) (by decide) (by kernel_rfl) (by kernel_rfl) (fun _ _ _ h => h) hS5 (Or.inl ⟨by rfl, ?_⟩) ?_
          · intro W; go_simp
          simp only [Act.put]
          refine Hd.After.pure (i := 15) (.pointer (some ⟨g, 1, none⟩)) rfl (by kernel_rfl) (by decide) (by kernel_rfl) (by kernel_rfl) (fun _ _ _ h => h) hS5 (Or.inl ⟨by rfl, ?_⟩) ?_
          · intro W; go_simp
          simp only [Act.put]
          refine Hd.After.one (i := 16) (by kernel_rfl) rfl rfl ?_
          intro K16 hK16
          go_simp
          refine hK16 _ _ (fun h => by cases h) ?_
          clear hK16 K16
          refine Hd.After.done (by kernel_rfl) ?_ _
          have tS := tt5.setAt (o := 1) (v := .slice (some ⟨g5, 0, none⟩) (rs[0].cats.length + 1) cap5) hbw hgR hgx
          clear hS hSW hS5 tt5 ttW tt ox cx cxW cu x0 x1 x2 xf0 xf1 xf2 r0 r1 r2 rf0 rf1 rf2 hown5 hgrow hpos s0 sf0 mfW k0 k1 k2 kf0 eb hqc
          obtain ⟨W1, hW⟩ : ∃ W1, w5.setCell ⟨g, 1, none⟩ (.slice (some ⟨g5, 0, none⟩) (rs[0].cats.length + 1) cap5) = W1 := ⟨_, rfl⟩
          rw [hW] at hR tS ⊢
          clear hW
          obtain ⟨⟨hxl, ⟨x0, x1, x2⟩, xf0, xf1, xf2⟩, ⟨hrl, ⟨r0, r1, r2⟩, rf0, rf1, rf2⟩, _, _⟩ := id tS
          go_wp2
          refine bodyPost_ret (v := .agg #[.int .i64 n, .int .i64 c, .slice (some ⟨g, 0, none⟩) rs.length cap]) (by rw [results_cell rfl]; go_simp) rfl (fin_any tS HE.out hR hbw hB' (by omega))
      · go_wp2
        refine bodyPost_ret (v := .agg #[.int .i64 n, .int .i64 c, .slice a rs.length cap]) (by rw [results_cell rfl]; go_simp) rfl (fin_same tt ox hbw HB.out (by omega))
    · have HM : Hid (∀ r ∈ rs, Row.sz r ≤ 30 ∧ Row.fits r) := HB.out.2
      have ox' := ox.mono (hi' := w3.heap.size) (Nat.le_of_lt hxl)
      go_wp2
      go_loopw [] (fun wr => ∃ a cap, ∃ rs : List Row, rs.length ≤ 41 ∧ (∀ r ∈ rs, Row.sz r ≤ 30 ∧ Row.fits r) ∧ Tt w b x (K + 302 + 20 * rs.length) n c (.slice a rs.length cap) wr ∧ OwnX x wr (w.heap.size + 1) wr.heap.size (.slice a rs.length cap) rs) (fun wr => 41 - lenOf (wr.cell? ⟨x, 2, none⟩))
      case atStart => exact ⟨a, cap, rs, by omega, HM.out, (by have h := tt; exact ⟨h.bx, h.br, h.gr, h.cu.mono (by omega)⟩), ox'⟩
      case round =>
        obtain ⟨a, cap, rs, hrl, hrs, tt, ox⟩ := hrel
        have HR : Hid (∀ r ∈ rs, Row.sz r ≤ 30 ∧ Row.fits r) := hrs
        clear hrs
        obtain ⟨⟨hxl, ⟨x0, x1, x2⟩, xf0, xf1, xf2⟩, ⟨hrl', ⟨r0, r1, r2⟩, rf0, rf1, rf2⟩, _, cu⟩ := id tt
        by_cases hk : rs.length ≤ 40
        · obtain ⟨g', xs, V0, V1, cx⟩ := id ox
          have cx : CompX x wr (w.heap.size + 1) wr.heap.size (.slice a rs.length cap) rs g' xs V0 V1 := cx
          go_wp2_with fail
          go_region_law (first
            | (refine step_append_lies _ rfl _ _ 30 rfl (w.heap.size + 1) 50 i0 (.agg #[.slice none 0 0, .slice none 0 0, .int .i64 0]) 3 56 Tryz.underlying30 hi hz0 hz1 hz2 rfl (by decide) (.slice a rs.length cap) rs.length xs rfl (World.ownsRow.alloc cx4.1.2.1 _) _ 1 1 [.slice a0 r.nums.length q0, .slice a1 r.cats.length q1, .int .i64 r.label] rfl rfl (three_at (by simp)) three_one (by decide) (by unfold maxLen; omega) (by omega) (by have := tt4.bx.1; simp; omega) _ rfl ?_
               intro g cap5 w5 hown5 hgrow hpos hglt
               have tt5 := Tt.grow' (tt4.alloc _) hbw hgrow (fun k hk => ⟨(World.ownsRow.lt cx4.1.2.1 k hk).1, fun e => cx4.2.1 (by rw [hk, e])⟩)
               obtain ⟨⟨hxl5, ⟨y0, y1, y2⟩, yf0, yf1, yf2⟩, _, _, _⟩ := id tt5)
            | (go_simp
               go_wp2_with (
                   go_at_call 20
                   refine (sample_any _ _ _ cu.drew (by omega) _ _).mono ?_
                   rintro e w4 ⟨u0, u1, r, rfl, hr, o0, o1, ha, hg4, hc4⟩
                   have HRr : Hid (Row.sz r ≤ 30 ∧ Row.fits r) := hr
                   have tt4 := Tt.pick tt.drew hbw (by omega) hg4 hc4
                   have cx4 := CompX.off (w := World.drew _) cx hg4 (by omega)
                   have hs4 : wr.heap.size ≤ w4.heap.size := hg4.size
                   obtain ⟨a0, q0, rfl, _⟩ := o0.isl
                   obtain ⟨a1, q1, rfl, _⟩ := o1.iss
                   obtain ⟨⟨hxl3, ⟨p0, p1, p2⟩, _, _, _⟩, _, _, _⟩ := id tt4
                   clear hr hg4)))
          all_goals
            have HT : Hid (Tt w b x (K + 302 + 20 * rs.length + 20) n c (.slice (some ⟨g, 0, none⟩) (rs.length + 1) cap5) (w5.setCell ⟨x, 2, none⟩ (.slice (some ⟨g, 0, none⟩) (rs.length + 1) cap5))) := Tt.set2 tt5 hbw hxs _
            have HO : Hid (OwnX x (w5.setCell ⟨x, 2, none⟩ (.slice (some ⟨g, 0, none⟩) (rs.length + 1) cap5)) (w.heap.size + 1) (w5.setCell ⟨x, 2, none⟩ (.slice (some ⟨g, 0, none⟩) (rs.length + 1) cap5)).heap.size (.slice (some ⟨g, 0, none⟩) (rs.length + 1) cap5) (rs ++ [r])) := by
              refine OwnX.mono (hi := w5.heap.size) ?_ (by simp [World.setCell])
              refine OwnX.off ?_ (grown_set' _ _ _ _) (.inr (.inr rfl))
              exact pushX (W := w4.alloc _) rfl (cx4.alloc _) (World.ownsRow.alloc o0 _) (World.ownsRow.alloc o1 _) ha (by show _ ≤ wr.heap.size; omega) hxl (by show wr.heap.size ≤ _; simp; omega) hgrow hpos hglt hown5
            have HC : Hid ((w5.setCell ⟨x, 2, none⟩ (.slice (some ⟨g, 0, none⟩) (rs.length + 1) cap5)).cell? ⟨x, 2, none⟩ = some (.slice (some ⟨g, 0, none⟩) (rs.length + 1) cap5)) := HT.out.bx.2.1.2.2
            have HX2 : Hid (wr.cell? ⟨x, 2, none⟩ = some (.slice a rs.length cap)) := x2
            clear hown5 hgrow hpos tt5 tt4 tt ox cx cx4 o0 o1 ha
            go_wp2
            go_roundw
            case rel =>
              refine ⟨_, _, rs ++ [r], by simp; omega, ?_, (by have h := HT.out; rw [List.length_append]; exact ⟨h.bx, h.br, h.gr, h.cu.mono (by simp; omega)⟩), (by rw [List.length_append]; exact HO.out)⟩
              intro s hs
              rcases List.mem_append.1 hs with hs | hs
              · exact HR.out s hs
              · obtain rfl := List.mem_singleton.1 hs
                exact HRr.out
            case measure => rw [HC.out, HX2.out]; simp only [lenOf]; omega
        · go_wp2
          refine bodyPost_ret (v := .agg #[.int .i64 n, .int .i64 c, .slice a rs.length cap]) (by rw [results_cell rfl]; go_simp) rfl (fin_any tt rfl ox.read hbw ⟨hrl, fun r hr => ⟨by have := (HR.out r hr).1; omega, (HR.out r hr).2⟩⟩ (by omega))
end Go.Proofs.YtglllflleabmbaaGreat.Db
/-
  What the model draws for a model and a table.
-/
namespace Go.Proofs.YtglllflleabmbaaGreat.Dm
set_option maxRecDepth 100000
open Go.RowKit
open Go.Proofs.YtglllflleabmbaaGreat.Tb Go.Proofs.YtglllflleabmbaaGreat.Tk
open Go.Proofs.YtglllflleabmbaaGreat.Md (M OwM wr6 wr3)
open Go.Proofs.YtglllflleabmbaaGreat.Tt (set6)
open Go.Proofs.YtglllflleabmbaaGreat.Db (ReadT push three_at three_one nest_alloc le60)
open Go.Proofs.YtglllflleabmbaaGreat.Sv (Wr Fr fr_grown fr_below new1 new2 new3 wr_new wr2)
set_option linter.unusedVariables false
theorem results_cc4 {fn : Func} {p q : Tmp} {ty ty2 : TypeId} (h : fn.results = #[.cell p ty, .cell q ty2]) (tmps : Array Value) (P : Program) (w : World) :
  (results fn tmps).run P w = ((asAddr (tmps.getD p undef)).run P w).andThen fun a w₁ => ((loadVar ty a).run P w₁).andThen fun v w₂ => ((asAddr (tmps.getD q undef)).run P w₂).andThen fun a w₃ => ((loadVar ty2 a).run P w₃).andThen fun u w₄ => .ok (.tuple #[v, u]) w₄ := by
 simp only [results, h]
 simp [Sem.run_bind, Result.andThen]
set_option maxHeartbeats 20000000 in
theorem drawPredictAll_any (w : World) (a : Option Addr) (len cap : Nat) (hB : Cu.Bytes w w.heap.size a len) (hl : (len : Int) ≤ 1048576) :
    Calls Tryz.prog 10 #[.slice a len cap] w fun e w' => ∃ (m : M) (vk vt : Value) (n c : Int) (ar : Option Addr) (cp : Nat) (rs : List Row), e = .returned (.tuple #[.agg #[.int .i64 m.n, .int .i64 m.c, .int .i64 m.prior, .int .i64 m.base, vk, vt], .agg #[.int .i64 n, .int .i64 c, .slice ar rs.length cp]]) ∧ m.sz ≤ 4500 ∧ (rs.length ≤ 41 ∧ ∀ r ∈ rs, Row.sz r ≤ 60 ∧ Row.fits r) ∧ OwM w' (fun q => w.heap.size ≤ q ∧ q < w'.heap.size) vk vt m ∧ ReadT w' w.heap.size ar rs ∧ Below w.heap.size w w' := by
  obtain ⟨i0, hi, hz0, hz1, hz2⟩ := info_parts info_smp
  go_enter Tryz.func10, Tryz.ntmps10
  go_wp2_with fail
  obtain ⟨W, hW, hsz, hBW, b2, b3⟩ := new2 w z6 y3 29 32
  have hW2 : (w.alloc (.cells #[.int .i64 0, .int .i64 0, .int .i64 0, .int .i64 0, .slice none 0 0, .slice none 0 0] 29)).alloc (.cells #[.int .i64 0, .int .i64 0, .slice none 0 0] 32) = W := hW
  rw [hW2]
  have hB := hB.keptB hBW.size (fun k hk => hBW.block k hk)
  clear hW hW2
  refine (Cu.open_any _ _ _ _ hB hl).mono ?_
  rintro e w1 ⟨rfl, hg, hc⟩
  have hF1 : Fr (fun q => q = W.heap.size) W w1 := fr_grown hg rfl
  have B2 : Wr w1 w.heap.size 0 z6 := wrB b2 hF1 (by omega)
  have B3 : Wr w1 (w.heap.size + 1) 0 y3 := wrB b3 hF1 (by omega)
  have hBw : Below w.heap.size w w1 := hBW.trans (hF1.bel (fun q e => by omega) hBW.size)
  obtain ⟨b, hb⟩ : ∃ b, W.heap.size = b := ⟨_, rfl⟩
  rw [hb] at hc ⊢
  have hb1 := hc.lt
  obtain ⟨X2, hX2⟩ : ∃ x, w.heap.size = x := ⟨_, rfl⟩
  have HX2 : Hid (w.heap.size = X2) := hX2
  rw [hX2] at B2 B3 ⊢
  have hX2b : X2 + 1 < b := by omega
  clear hg hBW hB b2 b3 hF1 hsz hb
  go_wp2_with fail
  refine (model_any w1 b 0 hc (by omega) (by omega)).mono ?_
  rintro e w2 ⟨m, vk, vt, rfl, hz, om, hf2, hc2⟩
  obtain ⟨ak, ck, ax, ct, rfl, rfl, -⟩ := om.rm
  have HB2 : Hid (Wr w2 X2 0 z6) := wrB B2 hf2 (by omega)
  have HB3 : Hid (Wr w2 (X2 + 1) 0 y3) := wrB B3 hf2 (by omega)
  have hs2 := hf2.size
  have HBw : Hid (Below w.heap.size w w2) := hBw.trans (hf2.bel (fun q e => by omega) hBw.size)
  have HOM : Hid (type_of% om) := om
  have HC2 : Hid (type_of% hc2) := hc2
  have HZ : Hid (m.sz ≤ 4500) := hz
  clear B2 B3 hBw hc om hf2 hc2 hz hX2
  go_wp2_with fail
  obtain ⟨W3, hW3, hsz3, hB3, b5⟩ := new1 w2 (mc m (.slice ak m.ks.length ck) (.slice ax m.ts.length ct)) 29
  obtain ⟨W4, hW4, hsz4, hB4, b6⟩ := new1 W3 (tc m.n m.c (.slice none 0 0)) 32
  have hW4b : (w2.alloc (.cells #[.int .i64 m.n, .int .i64 m.c, .int .i64 m.prior, .int .i64 m.base, .slice ak m.ks.length ck, .slice ax m.ts.length ct] 29)).alloc (.cells #[.int .i64 m.n, .int .i64 m.c, .slice none 0 0] 32) = W4 := by rw [← hW4, ← hW3]; rfl
  rw [hW4b]
  obtain ⟨X5, hX5⟩ : ∃ x, w2.heap.size = x := ⟨_, rfl⟩
  rw [hX5] at b5 ⊢
  obtain ⟨X6, hX6⟩ : ∃ x, W3.heap.size = x := ⟨_, rfl⟩
  rw [hX6] at b6
  have hX56 : X5 + 1 = X6 := by omega
  rw [hX56]
  have hbX : b < X5 := by omega
  have h56 : X5 < X6 := by omega
  have HMT : Hid (Mt w W4 b X2 X5 X6 1000 m (.slice ak m.ks.length ck) (.slice ax m.ts.length ct) m.n m.c (.slice none 0 0)) := ⟨(curF (B := fun _ => False) HC2.out (fr_below (hB3.trans (hB4.mono hB3.size))) (fun _ e => e.elim)).mono (by omega), HBw.out.trans ((hB3.trans (hB4.mono hB3.size)).mono HBw.out.size), HX2.out, hX2b, hbX, h56, (HB2.out.below hB3).below hB4, (HB3.out.below hB3).below hB4, b5.below hB4, b6, ((HOM.out.below hB3).below hB4).mono (fun q hq => ⟨by omega, by omega⟩), HZ.out⟩
  have hX6W : X6 < W4.heap.size := b6.1
  clear hW3 hW4 hW4b hsz3 hsz4 hB3 hB4 b5 b6 hX5 hX6 hX56 HB2 HB3 HBw HOM HC2 hs2 hb1
  refine (Db.size_any W4 b 1000 HMT.out.cu (by omega) 6 (by omega) (by omega)).mono ?_
  rintro e w5 ⟨N', rfl, N0, N1, hg5, hq5, hc5⟩
  obtain ⟨N, rfl⟩ : ∃ N : Nat, N' = (N : Int) := ⟨N'.toNat, by omega⟩
  have HM5 : Hid (Mt w w5 b X2 X5 X6 1001 m (.slice ak m.ks.length ck) (.slice ax m.ts.length ct) m.n m.c (.slice none 0 0)) := HMT.out.step hg5 (hc5.mono (by omega))
  clear hg5 hq5 hc5 HMT hX6W
  go_wp2_with fail
  go_loopw [7] (fun i wr => ∃ k j : Nat, j + k = N ∧ i = .int .i64 k ∧ ∃ u, ∃ rs : List Row, rs.length = j ∧ (∀ r ∈ rs, Row.sz r ≤ 30 ∧ Row.fits r) ∧ Mt w wr b X2 X5 X6 (1001 + 20 * j) m (.slice ak m.ks.length ck) (.slice ax m.ts.length ct) m.n m.c u ∧ OwnT wr (X6 + 1) wr.heap.size u rs) (fun i _ => (intOf i).toNat)
  case atStart => exact ⟨N, 0, by omega, rfl, _, [], rfl, by simp, HM5.out.lower (by omega), OwnT.nil _ _ _⟩
  case round =>
    clear HM5
    obtain ⟨k, j, hjk, rfl, u, rs, hrl, hrs, tt, ho⟩ := hrel
    have HL : Hid (rs.length = j) := hrl
    have HR : Hid (∀ r ∈ rs, Row.sz r ≤ 30 ∧ Row.fits r) := hrs
    have HJ : Hid (j + k = N) := hjk
    have hj6 : j ≤ 6 := by omega
    have hk6 : k ≤ 6 := by omega
    clear hrl hrs hjk
    obtain ⟨au, cu_, rfl, -⟩ := ho.isr
    obtain ⟨hxl, ⟨x0, x1, x2⟩, xf0, xf1, xf2⟩ := wr3 tt.w6
    have HTT : Hid (type_of% tt) := tt
    have HHO : Hid (type_of% ho) := ho
    clear tt ho
    by_cases hk : 0 < k
    · have hki : (0 : Int) < k := by omega
      go_wp2_with fail
      go_region_law (first
        | (refine step_append_lies _ rfl _ _ 30 rfl (X6 + 1) 50 i0 (.agg #[.slice none 0 0, .slice none 0 0, .int .i64 0]) 3 56 Tryz.underlying30 hi hz0 hz1 hz2 rfl (by decide) (.slice au rs.length cu_) rs.length xs3 rfl (World.ownsRow.alloc hown3 _) _ 1 1 [.slice a0 r.nums.length q0, .slice a1 r.cats.length q1, .int .i64 r.label] rfl rfl (three_at (by simp)) three_one (by decide) (by have := HL.out; unfold maxLen; omega) (by have := HL.out; omega) (by have := tt3.w6.1; simp; omega) _ rfl ?_
           intro g cap w5 hown5 hgrow hpos hglt
           have tt5 := Mt.grow (tt3.alloc _) hgrow (fun k hk => (World.ownsRow.lt hown3 k hk).1)
           obtain ⟨hxl5, ⟨y0, y1, y2⟩, yf0, yf1, yf2⟩ := wr3 tt5.w6)
        | (go_simp
           go_wp2_with (
               go_at_call 20
               refine (Db.sample_any _ _ _ HTT.out.drew.cu (by omega) _ _).mono ?_
               rintro e w3 ⟨u0, u1, r, rfl, hr, o0, o1, ha, hg3, hc3⟩
               have HRr : Hid (Row.sz r ≤ 30 ∧ Row.fits r) := hr
               have tt3 := HTT.out.drew.step hg3 hc3
               have ho3 : OwnT w3 (X6 + 1) _ (.slice au rs.length cu_) rs := OwnT.off (w := World.drew _) HHO.out hg3 (by omega)
               obtain ⟨a0, q0, rfl, _⟩ := o0.isl
               obtain ⟨a1, q1, rfl, _⟩ := o1.iss
               obtain ⟨g3, xs3, V03, V13, hgo3, hown3, hN3, hv3⟩ := id ho3
               obtain ⟨hxl3, ⟨p0, p1, p2⟩, pf⟩ := wr3 tt3.w6
               clear hr pf)))
      all_goals
        have HT : Hid (type_of% (tt5.set2 (.slice (some ⟨g, 0, none⟩) (rs.length + 1) cap))) := tt5.set2 (.slice (some ⟨g, 0, none⟩) (rs.length + 1) cap)
        have HO : Hid (OwnT (w5.setCell ⟨X6, 2, none⟩ (.slice (some ⟨g, 0, none⟩) (rs.length + 1) cap)) (X6 + 1) (w5.setCell ⟨X6, 2, none⟩ (.slice (some ⟨g, 0, none⟩) (rs.length + 1) cap)).heap.size (.slice (some ⟨g, 0, none⟩) (rs.length + 1) cap) (rs ++ [r])) := by
          refine OwnT.mono (lo := X6 + 1) (hi := w5.heap.size) ?_ (Nat.le_refl _) (by simp [World.setCell])
          refine OwnT.off ?_ (grown_set' _ _ _ _) (.inl (Nat.lt_succ_self _))
          exact push (W := w3.alloc _) rfl hgo3 (World.ownsRow.alloc hown3 _) (nest_alloc hN3 _) (World.ownsRow.alloc o0 _) (World.ownsRow.alloc o1 _) ha (by exact hxl) hv3 hgrow hpos hglt hown5
        clear hown5 hgrow hpos tt5 tt3 ho3 hgo3 hown3 hN3 hv3 o0 o1 ha HTT HHO
        go_wp2
        go_roundw
        case rel =>
          refine ⟨k - 1, j + 1, by have := HJ.out; omega, by go_num, _, rs ++ [r], by have := HL.out; simp; omega, ?_, HT.out.lower (by omega), HO.out⟩
          intro s hs
          rcases List.mem_append.1 hs with hs | hs
          · exact HR.out s hs
          · obtain rfl := List.mem_singleton.1 hs
            exact HRr.out
        case measure => simp [intOf]; omega
    · have hki : ¬ (0 : Int) < k := by omega
      have HRT : Hid (ReadT wr X6 au rs) := OwnT.readT HHO.out
      have HBD : Hid (rs.length ≤ 41 ∧ ∀ r ∈ rs, Row.sz r ≤ 60 ∧ Row.fits r) := le60 ⟨by have := HL.out; omega, HR.out⟩
      have HM7 : Hid (Mt w wr b X2 X5 X6 1200 m (.slice ak m.ks.length ck) (.slice ax m.ts.length ct) m.n m.c (.slice au rs.length cu_)) := HTT.out.lower (by omega)
      clear HTT HHO HR HJ x0 x1 x2 xf0 xf1 xf2 hxl
      go_wp2_with fail
      refine (Cu.once_any wr b 1200 HM7.out.cu (by omega) 10 (by omega) (by omega)).mono ?_
      rintro e w8 ⟨oc, rfl, hg8, hs8, hc8⟩
      have HM8 : Hid (Mt w w8 b X2 X5 X6 1201 m (.slice ak m.ks.length ck) (.slice ax m.ts.length ct) m.n m.c (.slice au rs.length cu_)) := HM7.out.step hg8 (hc8.mono (by omega))
      have HRT8 : Hid (ReadT w8 X6 au rs) := Dm.ReadT.fr HRT.out (fr_grown (B := fun q => q = b) hg8 rfl) (fun q e => by omega)
      clear hg8 hs8 hc8 HM7 HRT
      go_upto_if 31 with fail
      go_cut [] from 31 (fun wx => ∃ (n c : Int) (a : Option Addr) (cap : Nat) (rs : List Row), (rs.length ≤ 41 ∧ ∀ r ∈ rs, Row.sz r ≤ 60 ∧ Row.fits r) ∧ ReadT wx X6 a rs ∧ Mt w wx b X2 X5 X6 10000 m (.slice ak m.ks.length ck) (.slice ax m.ts.length ct) n c (.slice a rs.length cap))
      case first =>
        cases oc with
        | false =>
          go_wp2_with fail
          go_meet
          case rel => exact ⟨m.n, m.c, au, cu_, rs, HBD.out, HRT8.out, HM8.out.lower (by omega)⟩
        | true =>
          go_wp2_with fail
          refine (Db.anyTable_any w8 b 1201 HM8.out.cu (by omega)).mono ?_
          rintro e w9 ⟨n9, c9, a9, cp9, rs9, rfl, hbd9, hR9, hg9, hc9⟩
          have hlt8 : X6 < w8.heap.size := HM8.out.w6.1
          have HM9 : Hid (Mt w w9 b X2 X5 X6 9000 m (.slice ak m.ks.length ck) (.slice ax m.ts.length ct) m.n m.c (.slice au rs.length cu_)) := HM8.out.step hg9 (hc9.mono (by omega))
          have HR9 : Hid (ReadT w9 X6 a9 rs9) := Dm.ReadT.low hR9 (by omega)
          have HB9 : Hid (rs9.length ≤ 41 ∧ ∀ r ∈ rs9, Row.sz r ≤ 60 ∧ Row.fits r) := hbd9
          clear hbd9 hR9 hg9 hc9
          obtain ⟨hxl, ⟨x0, x1, x2⟩, xf0, xf1, xf2⟩ := wr3 HM9.out.w6
          have HM10 : Hid (type_of% (HM9.out.set3 n9 c9 (.slice a9 rs9.length cp9))) := HM9.out.set3 n9 c9 (.slice a9 rs9.length cp9)
          have HR10 : Hid (type_of% (Dm.ReadT.fr HR9.out (Dm.set3 w9 X6 (.int .i64 n9) (.int .i64 c9) (.slice a9 rs9.length cp9)) (fun q e => Nat.le_of_eq e))) := Dm.ReadT.fr HR9.out (Dm.set3 w9 X6 (.int .i64 n9) (.int .i64 c9) (.slice a9 rs9.length cp9)) (fun q e => Nat.le_of_eq e)
          go_wp2_with fail
          go_meet
          case rel => exact ⟨n9, c9, a9, cp9, rs9, HB9.out, HR10.out, HM10.out.lower (by omega)⟩
      case rest =>
        clear HM8 HRT8 HBD HL
        obtain ⟨n, c, ar, cp, rs, hbd, hR, mt⟩ := hcut
        have HBD : Hid (rs.length ≤ 41 ∧ ∀ r ∈ rs, Row.sz r ≤ 60 ∧ Row.fits r) := hbd
        have HRD : Hid (ReadT wc X6 ar rs) := hR
        have HMC : Hid (type_of% mt) := mt
        clear hbd hR mt
        go_upto_region 10 with fail
        have st : Below wc.heap.size wc wc.drew := Tm.below_drew wc
        have HMD : Hid (type_of% (HMC.out.drew)) := HMC.out.drew
        have HRE : Hid (ReadT wc.drew X6 ar rs) := Dm.ReadT.fr HRD.out (fr_below (B := fun _ => False) st) (fun _ e => e.elim)
        have hS := And.intro (wr6 HMD.out.w5).2.1 (wr3 HMD.out.w6).2.1
        clear st HRD HMC
        refine Hd.start (fun X => (X.cell? ⟨X5, 0, none⟩ = some (.int .i64 m.n) ∧ X.cell? ⟨X5, 1, none⟩ = some (.int .i64 m.c) ∧ X.cell? ⟨X5, 2, none⟩ = some (.int .i64 m.prior) ∧ X.cell? ⟨X5, 3, none⟩ = some (.int .i64 m.base) ∧ X.cell? ⟨X5, 4, none⟩ = some (.slice ak m.ks.length ck) ∧ X.cell? ⟨X5, 5, none⟩ = some (.slice ax m.ts.length ct)) ∧ (X.cell? ⟨X6, 0, none⟩ = some (.int .i64 n) ∧ X.cell? ⟨X6, 1, none⟩ = some (.int .i64 c) ∧ X.cell? ⟨X6, 2, none⟩ = some (.slice ar rs.length cp))) 3 (by kernel_rfl) ?_
        generalize wc.drew = w0 at HMD HRE hS ⊢
        refine Hd.After.takeD (i := 0) (some 34) (.agg #[.int .i64 m.n, .int .i64 m.c, .int .i64 m.prior, .int .i64 m.base, .slice ak m.ks.length ck, .slice ax m.ts.length ct]) rfl rfl (by kernel_rfl) (by kernel_rfl) (by kernel_rfl) (by kernel_rfl) (by kernel_rfl) (fun _ _ _ h => h) (hS) (Or.inl ⟨by rfl, ?_⟩) ?_
        · rintro X ⟨⟨s0, s1, s2, s3, s4, s5⟩, s6, s7, s8⟩; go_simp; try with_reducible rfl
        (first | simp only [Act.put, List.setIfInBounds_toArray, List.set_cons_zero, List.set_cons_succ] | skip)
        refine Hd.After.takeD (i := 1) (some 35) (.agg #[.int .i64 n, .int .i64 c, .slice ar rs.length cp]) rfl rfl (by kernel_rfl) (by kernel_rfl) (by kernel_rfl) (by kernel_rfl) (by kernel_rfl) (fun _ _ _ h => h) (hS) (Or.inl ⟨by rfl, ?_⟩) ?_
        · rintro X ⟨⟨s0, s1, s2, s3, s4, s5⟩, s6, s7, s8⟩; go_simp; try with_reducible rfl
        (first | simp only [Act.put, List.setIfInBounds_toArray, List.set_cons_zero, List.set_cons_succ] | skip)
        obtain ⟨hl2, ⟨r0, r1, r2, r3, r4, r5⟩, f0, f1, f2, f3, f4, f5⟩ := wr6 HMD.out.r2
        have hF6 : Fr (fun q => q = X2) w0 ((((((w0.setCell ⟨X2, 0, none⟩ (.int .i64 m.n)).setCell ⟨X2, 1, none⟩ (.int .i64 m.c)).setCell ⟨X2, 2, none⟩ (.int .i64 m.prior)).setCell ⟨X2, 3, none⟩ (.int .i64 m.base)).setCell ⟨X2, 4, none⟩ (.slice ak m.ks.length ck)).setCell ⟨X2, 5, none⟩ (.slice ax m.ts.length ct)) := set6 _ _ _ _ _ _ _ _
        have l2 := HMD.out.b2
        have l3 := HMD.out.b5
        have l4 := HMD.out.b6
        have hX2b : Wr ((((((w0.setCell ⟨X2, 0, none⟩ (.int .i64 m.n)).setCell ⟨X2, 1, none⟩ (.int .i64 m.c)).setCell ⟨X2, 2, none⟩ (.int .i64 m.prior)).setCell ⟨X2, 3, none⟩ (.int .i64 m.base)).setCell ⟨X2, 4, none⟩ (.slice ak m.ks.length ck)).setCell ⟨X2, 5, none⟩ (.slice ax m.ts.length ct)) X2 0 (mc m (.slice ak m.ks.length ck) (.slice ax m.ts.length ct)) := (((((HMD.out.r2.set 0 (by simp [z6]) _).set 1 (by simp [z6]) _).set 2 (by simp [z6]) _).set 3 (by simp [z6]) _).set 4 (by simp [z6]) _).set 5 (by simp [z6]) _
        have HX2b : Hid (type_of% hX2b) := hX2b
        have h4b := wrB HMD.out.w5 hF6 (by omega)
        have h5b := wrB HMD.out.w6 hF6 (by omega)
        have h3b := wrB HMD.out.r3 hF6 (by omega)
        have HOM : Hid (type_of% (HMD.out.om.fr hF6 (fun q hq e => by omega))) := HMD.out.om.fr hF6 (fun q hq e => by omega)
        have HRF : Hid (type_of% (Dm.ReadT.fr HRE.out hF6 (fun q e => by omega))) := Dm.ReadT.fr HRE.out hF6 (fun q e => by omega)
        have HBB : Hid (type_of% (HMD.out.bw.trans (hF6.bel (fun q e => by have := HX2.out; omega) HMD.out.bw.size))) := HMD.out.bw.trans (hF6.bel (fun q e => by have := HX2.out; omega) HMD.out.bw.size)
        clear hF6 hX2b
        refine Hd.After.one (i := 2) (by kernel_rfl) rfl rfl ?_
        intro K hK
        go_simp
        obtain ⟨w1, hw1⟩ : ∃ X, (((((w0.setCell ⟨X2, 0, none⟩ (.int .i64 m.n)).setCell ⟨X2, 1, none⟩ (.int .i64 m.c)).setCell ⟨X2, 2, none⟩ (.int .i64 m.prior)).setCell ⟨X2, 3, none⟩ (.int .i64 m.base)).setCell ⟨X2, 4, none⟩ (.slice ak m.ks.length ck)).setCell ⟨X2, 5, none⟩ (.slice ax m.ts.length ct) = X := ⟨_, rfl⟩
        rw [hw1] at HX2b h4b h5b h3b HOM HRF HBB ⊢
        clear hw1 r0 r1 r2 r3 r4 r5 f0 f1 f2 f3 f4 f5 hl2
        refine hK _ _ (fun _ => ⟨(wr6 h4b).2.1, (wr3 h5b).2.1⟩) ?_
        clear hK K
        (first | simp only [Act.put, List.setIfInBounds_toArray, List.set_cons_zero, List.set_cons_succ] | skip)
        obtain ⟨hl3, ⟨r6, r7, r8⟩, f6, f7, f8⟩ := wr3 h3b
        obtain ⟨hl2, ⟨r0, r1, r2, r3, r4, r5⟩, -⟩ := wr6 HX2b.out
        refine Hd.After.one (i := 3) (by kernel_rfl) rfl rfl ?_
        intro K hK
        go_simp
        refine hK _ _ (fun h => by cases h) ?_
        clear hK K
        refine Hd.After.done (by kernel_rfl) ?_ _
        have hF9 : Fr (fun q => q = X2 + 1) w1 (((w1.setCell ⟨X2 + 1, 0, none⟩ (.int .i64 n)).setCell ⟨X2 + 1, 1, none⟩ (.int .i64 c)).setCell ⟨X2 + 1, 2, none⟩ (.slice ar rs.length cp)) := Dm.set3 _ _ _ _ _
        have HE : Hid (OwM (((w1.setCell ⟨X2 + 1, 0, none⟩ (.int .i64 n)).setCell ⟨X2 + 1, 1, none⟩ (.int .i64 c)).setCell ⟨X2 + 1, 2, none⟩ (.slice ar rs.length cp)) (fun q => w.heap.size ≤ q ∧ q < (((w1.setCell ⟨X2 + 1, 0, none⟩ (.int .i64 n)).setCell ⟨X2 + 1, 1, none⟩ (.int .i64 c)).setCell ⟨X2 + 1, 2, none⟩ (.slice ar rs.length cp)).heap.size) (.slice ak m.ks.length ck) (.slice ax m.ts.length ct) m ∧ ReadT (((w1.setCell ⟨X2 + 1, 0, none⟩ (.int .i64 n)).setCell ⟨X2 + 1, 1, none⟩ (.int .i64 c)).setCell ⟨X2 + 1, 2, none⟩ (.slice ar rs.length cp)) w.heap.size ar rs ∧ Below w.heap.size w (((w1.setCell ⟨X2 + 1, 0, none⟩ (.int .i64 n)).setCell ⟨X2 + 1, 1, none⟩ (.int .i64 c)).setCell ⟨X2 + 1, 2, none⟩ (.slice ar rs.length cp))) := by
          refine ⟨((HOM.out.fr hF9 (fun q hq e => by omega)).bound).mono (fun q hq => ⟨by have := HX2.out; omega, hq.2⟩), Dm.ReadT.low (Dm.ReadT.fr HRF.out hF9 (fun q e => by omega)) (by have := HX2.out; omega), HBB.out.trans (hF9.bel (fun q e => by have := HX2.out; omega) HBB.out.size)⟩
        clear hF9 HX2b HOM HRF HBB h4b h5b h3b hS HMD HRE
        go_wp2_with fail
        refine bodyPost_ret (v := .tuple #[.agg #[.int .i64 m.n, .int .i64 m.c, .int .i64 m.prior, .int .i64 m.base, .slice ak m.ks.length ck, .slice ax m.ts.length ct], .agg #[.int .i64 n, .int .i64 c, .slice ar rs.length cp]]) (by rw [results_cc4 rfl]; go_simp) rfl ⟨m, _, _, n, c, ar, cp, rs, rfl, HZ.out, HBD.out, HE.out.1, HE.out.2.1, HE.out.2.2⟩
end Go.Proofs.YtglllflleabmbaaGreat.Dm
