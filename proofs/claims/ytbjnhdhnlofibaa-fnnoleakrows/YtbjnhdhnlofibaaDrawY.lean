/-
  What the model draws for tables: a table that may be spoilt.
-/
import Derived.Test.YtbjnhdhnlofibaaDrawX
import Derived.Test.YtbjnhdhnlofibaaHeldD
namespace Go.Proofs.Ytbjnhdhnlofibaa.Db
set_option maxRecDepth 100000
open Go.RowKit
open Go.Proofs.Ytbjnhdhnlofibaa.Tb Go.Proofs.Ytbjnhdhnlofibaa.Tk
open Go.Proofs.Ytbjnhdhnlofibaa.Li (Own info_int)

theorem tabW {w w1 : World} {b : Nat} (cs : Array Value) (T : TypeId) (hg : (w.drew.alloc (.cells cs T)).grownBy w1 (some b)) (hb : b < w.heap.size) (hall : (cs.toList.all okT) = true) (x : Int) (h0 : 0 ≤ x) (h1 : x < (cs.size : Int)) :
    ∃ v : ByteArray, w1.cell? ⟨w.heap.size, x.toNat, none⟩ = some (.string v) ∧ v.size ≤ 13 := by
  have hlt : x.toNat < cs.size := by omega
  obtain ⟨v, hv, hb'⟩ := okT_str ((List.all_eq_true.1 hall) cs[x.toNat] (by simp))
  refine ⟨v, ?_, hb'⟩
  refine hg.cell (a := ⟨w.heap.size, x.toNat, none⟩) ?_ (by simp; omega)
  have e := World.cell?_alloc_new w.drew cs T x.toNat
  rw [Array.getElem?_eq_getElem hlt, hv] at e
  exact e
theorem tabN (w : World) (cs : Array Value) (T : TypeId) (hall : (cs.toList.all okT) = true) (x : Int) (h0 : 0 ≤ x) (h1 : x < (cs.size : Int)) :
    ∃ v : ByteArray, (w.alloc (.cells cs T)).cell? ⟨w.heap.size, x.toNat, none⟩ = some (.string v) ∧ v.size ≤ 13 := by
  have hlt : x.toNat < cs.size := by omega
  obtain ⟨v, hv, hb'⟩ := okT_str ((List.all_eq_true.1 hall) cs[x.toNat] (by simp))
  refine ⟨v, ?_, hb'⟩
  rw [World.cell?_alloc_new, Array.getElem?_eq_getElem hlt, hv]
set_option maxHeartbeats 40000000 in
theorem anyTable_any (w : World) (b : Nat) (K : Int) (hc : Cu.Cur w b K) (hK : K ≤ 10000000000000) :
    Calls Try.prog 28 #[.pointer (some ⟨b, 0, none⟩)] w (Any w b K) := by
  obtain ⟨i0, hi, hz0, hz1, hz2⟩ := info_parts info_smp
  obtain ⟨j0, hj, jz0, jz1, jz2⟩ := info_parts info_int
  obtain ⟨l0, hl, lz0, lz1, lz2⟩ := info_parts Ls.info_str
  have hbw := hc.lt
  have br := box3_new w (.int .i64 0) (.int .i64 0) (.slice none 0 0) 28
  go_enter Try.func28, Try.ntmps28
  go_wp2_with fail
  refine (table_any _ _ _ (hc.alloc _) (by omega)).mono ?_
  rintro e w1 ⟨n, c, v, rs, rfl, hb, ho, hg1, hc1⟩
  have br := box3_cur br hg1 (by omega)
  have hg := Cu.grown_trans (World.grownBy_alloc w _ (some b)) hg1
  have hs1 : w.heap.size < w1.heap.size := by have := hg1.size; simp at this; omega
  obtain ⟨a, cap, rfl, _⟩ := ho.isr
  clear hg1 hc
  have tt : Tt w b w1.heap.size (K + 300) n c (.slice a rs.length cap) (w1.alloc (.cells #[.int .i64 n, .int .i64 c, .slice a rs.length cap] 28)) :=
    ⟨box3_new _ _ _ _ _, br.alloc _, Cu.grown_alloc hg _, hc1.alloc _⟩
  obtain ⟨x, hx⟩ : ∃ x, w1.heap.size = x := ⟨_, rfl⟩
  have ox : OwnX x (w1.alloc (.cells #[.int .i64 n, .int .i64 c, .slice a rs.length cap] 28)) (w.heap.size + 1) x (.slice a rs.length cap) rs := by
    refine OwnX.alloc (OwnX.of ?_ (Nat.le_refl _)) _
    rw [← hx]
    have e := size_alloc w (.cells #[.int .i64 0, .int .i64 0, .slice none 0 0] 28)
    rw [e] at ho
    exact ho
  have HB : Hid (rs.length ≤ 11 ∧ ∀ r ∈ rs, Row.sz r ≤ 30 ∧ Row.fits r) := ⟨hb.2.2.2.2.1, hb.2.2.2.2.2⟩
  have hb' := And.intro hb.1 (And.intro hb.2.1 (And.intro hb.2.2.1 hb.2.2.2.1))
  have hr11 : rs.length ≤ 11 := hb.2.2.2.2.1
  clear hb ho
  go_wp2_with fail
  rw [hx] at tt
  have hxs : w.heap.size < x := by omega
  refine (Cu.once_any _ _ _ tt.cu (by omega) _ (by omega) (by omega)).mono ?_
  rintro e w2 ⟨t, rfl, hg2, hq2, hc2⟩
  have tt := tt.pick hbw (by omega) hg2 hc2
  have ox := ox.off hg2 (by omega)
  clear hg2 hq2 hc2 hc1 hg br hs1 hx
  cases t
  · obtain ⟨⟨hxl, ⟨x0, x1, x2⟩, xf0, xf1, xf2⟩, ⟨hrl, ⟨r0, r1, r2⟩, rf0, rf1, rf2⟩, _, cu⟩ := id tt
    go_wp2
    refine bodyPost_ret (v := .agg #[.int .i64 n, .int .i64 c, .slice a rs.length cap]) (by rw [results_cell rfl]; go_simp) rfl (fin_same tt ox hbw HB.out (by omega))
  · go_wp2_with fail
    refine (Cu.pick_any _ _ _ tt.cu (by omega) _ (by omega)).mono ?_
    rintro e w3 ⟨z, rfl, z0, z1, hg3, hq3, hc3⟩
    have z2 : z < 6 := z1 (by omega)
    have tt := tt.pick hbw (by omega) hg3 hc3
    have ox := ox.off hg3 (by omega)
    clear hg3 hq3 hc3 z1
    obtain ⟨⟨hxl, ⟨x0, x1, x2⟩, xf0, xf1, xf2⟩, ⟨hrl, ⟨r0, r1, r2⟩, rf0, rf1, rf2⟩, _, cu⟩ := id tt
    rcases (show z = 0 ∨ z = 1 ∨ z = 2 ∨ z = 3 ∨ z = 4 ∨ z = 5 by omega) with rfl | rfl | rfl | rfl | rfl | rfl
    · go_wp2_with fail
      refine (Cu.raw_any _ _ _ cu (by omega)).mono ?_
      rintro e w4 ⟨y, rfl, y0, y1, hg4, hc4⟩
      have tt := tt.pick hbw (by omega) hg4 hc4
      have ox := ox.off hg4 (by omega)
      obtain ⟨⟨hxl, ⟨x0, x1, x2⟩, xf0, xf1, xf2⟩, ⟨hrl, ⟨r0, r1, r2⟩, rf0, rf1, rf2⟩, _, _⟩ := id tt
      have HT : Hid (Tt w b x (K + 300 + 1 + 1 + 2) y c (.slice a rs.length cap) (w4.setCell ⟨x, 0, none⟩ (.int .i64 y))) := ⟨tt.bx.set0 _, tt.br.setOther (by omega), grown_setN tt.gr (by omega), cur_set tt.cu (by omega)⟩
      have HX : Hid (OwnX x (w4.setCell ⟨x, 0, none⟩ (.int .i64 y)) (w.heap.size + 1) x (.slice a rs.length cap) rs) := ox.off (grown_set' _ _ _ _) (.inr (.inr rfl))
      clear hg4 hc4 tt ox cu
      go_wp2
      refine bodyPost_ret (v := .agg #[.int .i64 y, .int .i64 c, .slice a rs.length cap]) (by rw [results_cell rfl]; go_simp) rfl (fin_same HT.out HX.out hbw HB.out (by omega))
    · go_wp2_with fail
      refine (Cu.pick_any _ _ _ cu (by omega) _ (by omega)).mono ?_
      rintro e w4 ⟨y, rfl, y0, y1, hg4, _, hc4⟩
      have tt := tt.pick hbw (by omega) hg4 hc4
      have ox := ox.off hg4 (by omega)
      obtain ⟨⟨hxl, ⟨x0, x1, x2⟩, xf0, xf1, xf2⟩, ⟨hrl, ⟨r0, r1, r2⟩, rf0, rf1, rf2⟩, _, _⟩ := id tt
      have HT : Hid (Tt w b x (K + 300 + 1 + 1 + 1) n y (.slice a rs.length cap) (w4.setCell ⟨x, 1, none⟩ (.int .i64 y))) := ⟨tt.bx.set1 _, tt.br.setOther (by omega), grown_setN tt.gr (by omega), cur_set tt.cu (by omega)⟩
      have HX : Hid (OwnX x (w4.setCell ⟨x, 1, none⟩ (.int .i64 y)) (w.heap.size + 1) x (.slice a rs.length cap) rs) := ox.off (grown_set' _ _ _ _) (.inr (.inr rfl))
      clear hg4 hc4 tt ox cu
      go_wp2
      refine bodyPost_ret (v := .agg #[.int .i64 n, .int .i64 y, .slice a rs.length cap]) (by rw [results_cell rfl]; go_simp) rfl (fin_same HT.out HX.out hbw HB.out (by omega))
    · by_cases h0 : 0 < rs.length
      · obtain ⟨g, hga⟩ : ∃ g, a = some ⟨g, 0, none⟩ := by
          obtain ⟨_, _, _, _, ⟨_, hown, _⟩, _⟩ := ox
          obtain ⟨g, _, e, _⟩ := hown.form h0
          simp at e
          exact ⟨g, e.1⟩
        subst hga
        go_wp2_with fail
        have hb3 : b < w3.heap.size := cu.lt
        go_region_with (first
          | (go_at_call 60
             refine (Cu.raw_any _ _ _ cu.drew (by omega)).mono ?_
             rintro e w4 ⟨y, rfl, y0, y1, hg4, hc4⟩
             have hb4 : b < w4.heap.size := hc4.lt
             have tt4 := tt.drew.pick hbw (by omega) hg4 hc4
             have ox4 := OwnX.off (w := World.drew _) ox hg4 (by omega)
             obtain ⟨⟨hxl4, ⟨p0, p1, p2⟩, _, _, _⟩, _, _, _⟩ := id tt4
             clear hg4)
          | (go_at_call 59
             refine (Cu.pick_any _ _ _ (by first | exact hc4 | exact hc4.alloc _) (by omega) _ (by omega)).mono ?_
             rintro e w5 ⟨u, rfl, ub0, ub1, hg5, hq5, hc5⟩
             have hb5 : b < w5.heap.size := hc5.lt
             have ub2 : u < 2 := ub1 (by omega)
             obtain ⟨q, hv, v0, v1⟩ := tabI [.int .i64 y, .int .i64 1000001] (-9223372036854775808) 9223372036854775807 (by simp [Cu.okv]; omega) u ub0 (by simp; omega)
             have tt5 := Tt.pick (by first | exact tt4 | exact tt4.alloc _) hbw (by omega) hg5 hc5
             have ox5 : OwnX x w5 _ _ _ _ := (by first | exact ox4.off hg5 (by omega) | exact (ox4.alloc _).off hg5 (by omega))
             have hk5 := kept hg5
             have hz5' := Nat.le_of_eq hq5.symm
             have hz5'' := Nat.le_of_eq hq5
             try simp at hz5'
             try simp at hz5''
             try simp at hk5
             obtain ⟨g', xs, V0, V1, ⟨hg', hown, hN, _⟩, hgx, _⟩ := id ox5
             obtain rfl : g = g' := (hg' g rfl).1
             have hgl := World.ownsRow.lt hown g rfl
             have hgl' : g < w5.heap.size := hgl.2
             have hgR := hgl.1
             have hgx' : ¬ g = x := (fun e => hgx (by rw [← e]; rfl))
             have hgf := World.ownsRow.frozenAt hown 2
             have hg2 : w5.cell? ⟨g, 2, none⟩ = some (.int .i64 rs[0].label) := (World.ownsRow.cellAt hown 2 (by omega)).trans (by simpa using (hN.1 0 h0 h0).1.2.2)
             obtain ⟨⟨hxl5, ⟨p0, p1, p2⟩, _, _, _⟩, _, _, _⟩ := id tt5
             clear hq5 ub1 hg5 hN hown hg' ox4))
        all_goals
          obtain ⟨rs', hlen', hB', hR⟩ := read_lab (q := q) rfl ox5 h0 HB.out
          have tS := tt5.setAt (o := 2) (v := .int .i64 q) hbw hgR hgx'
          have HT : Hid (Tt w b x (K + 300 + 1 + 1 + 2 + 1) n c (.slice (some ⟨g, 0, none⟩) rs.length cap) (w5.setCell ⟨g, 2, none⟩ (.int .i64 q))) := tS
          clear tS tt5 ox5 tt4 tt ox hk5 hv hg2 hgf p0 p1 p2 cu x0 x1 x2 xf0 xf1 xf2 r0 r1 r2 rf0 rf1 rf2
          first
            | (obtain ⟨W1, hW⟩ : ∃ W1, (w5.setCell ⟨g, 2, none⟩ (.int .i64 q)).alloc (.cells #[.int .i64 y, .int .i64 1000001] 3) = W1 := ⟨_, rfl⟩
               rw [hW])
            | (obtain ⟨W1, hW⟩ : ∃ W1, w5.setCell ⟨g, 2, none⟩ (.int .i64 q) = W1 := ⟨_, rfl⟩
               rw [hW])
          have t1 : Tt w b x (K + 300 + 1 + 1 + 2 + 1) n c (.slice (some ⟨g, 0, none⟩) rs.length cap) W1 := (by subst hW; first | exact HT.out.alloc _ | exact HT.out)
          have R1 : ReadT W1 w.heap.size (some ⟨g, 0, none⟩) rs' := (by subst hW; first | exact hR.alloc _ | exact hR)
          clear hW
          obtain ⟨⟨hxl, ⟨x0, x1, x2⟩, xf0, xf1, xf2⟩, ⟨hrl, ⟨r0, r1, r2⟩, rf0, rf1, rf2⟩, _, _⟩ := id t1
          have HE : Hid (rs.length = rs'.length) := hlen'
          clear hlen'
          go_wp2
          refine bodyPost_ret (v := .agg #[.int .i64 n, .int .i64 c, .slice (some ⟨g, 0, none⟩) rs.length cap]) (by rw [results_cell rfl]; go_simp) rfl (fin_any t1 HE.out R1 hbw hB' (by omega))
      · go_wp2
        refine bodyPost_ret (v := .agg #[.int .i64 n, .int .i64 c, .slice a rs.length cap]) (by rw [results_cell rfl]; go_simp) rfl (fin_same tt ox hbw HB.out (by omega))
    · by_cases h0 : 0 < rs.length
      · obtain ⟨g, hga⟩ : ∃ g, a = some ⟨g, 0, none⟩ := by
          obtain ⟨_, _, _, _, ⟨_, hown, _⟩, _⟩ := ox
          obtain ⟨g, _, e, _⟩ := hown.form h0
          simp at e
          exact ⟨g, e.1⟩
        subst hga
        go_wp2_with fail
        have hb3 : b < w3.heap.size := cu.lt
        obtain ⟨g', xs, V0, V1, cx⟩ := id ox
        have cx : CompX x w3 (w.heap.size + 1) x (.slice (some ⟨g, 0, none⟩) rs.length cap) rs g' xs V0 V1 := cx
        obtain rfl : g = g' := (cx.1.1 g rfl).1
        obtain ⟨k0, k1, k2, kf, hgR, hg3, hgx⟩ := cx.cells h0
        have kf0 := kf 0
        have bnd := HB.out.2 rs[0] (List.getElem_mem h0)
        have hnl : rs[0].nums.length ≤ 30 := by have := bnd.1; simp only [Row.sz] at this; omega
        clear bnd kf
        have hS : w3.drew.cell? ⟨x, 2, none⟩ = some (.slice (some ⟨g, 0, none⟩) rs.length cap) ∧ w3.drew.cell? ⟨g, 0, none⟩ = some (V0 0) := ⟨x2, k0⟩
        refine Hd.start (fun w' => w'.cell? ⟨x, 2, none⟩ = some (.slice (some ⟨g, 0, none⟩) rs.length cap) ∧ w'.cell? ⟨g, 0, none⟩ = some (V0 0)) 13 (by kernel_rfl) ?_
        refine Hd.After.pure (i := 0) (.pointer (some ⟨x, 2, none⟩)) rfl (by kernel_rfl) (by decide) (by kernel_rfl) (by kernel_rfl) (fun _ _ _ h => h) hS (Or.inl ⟨by rfl, ?_⟩) ?_
        · intro W; go_simp
        simp only [Act.put]
        refine Hd.After.take (i := 1) (.slice (some ⟨g, 0, none⟩) rs.length cap) rfl (by kernel_rfl) (by kernel_rfl) (by kernel_rfl) (by kernel_rfl) (by kernel_rfl) (fun _ _ _ h => h) hS (Or.inl ⟨by rfl, ?_⟩) ?_
        · rintro W ⟨hW1, hW2⟩; go_simp
        simp only [Act.put]
        refine Hd.After.pure (i := 2) (.pointer (some ⟨x, 2, none⟩)) rfl (by kernel_rfl) (by decide) (by kernel_rfl) (by kernel_rfl) (fun _ _ _ h => h) hS (Or.inl ⟨by rfl, ?_⟩) ?_
        · intro W; go_simp
        simp only [Act.put]
        refine Hd.After.take (i := 3) (.slice (some ⟨g, 0, none⟩) rs.length cap) rfl (by kernel_rfl) (by kernel_rfl) (by kernel_rfl) (by kernel_rfl) (by kernel_rfl) (fun _ _ _ h => h) hS (Or.inl ⟨by rfl, ?_⟩) ?_
        · rintro W ⟨hW1, hW2⟩; go_simp
        simp only [Act.put]
        refine Hd.After.pure (i := 4) (.pointer (some ⟨g, 0, none⟩)) rfl (by kernel_rfl) (by decide) (by kernel_rfl) (by kernel_rfl) (fun _ _ _ h => h) hS (Or.inl ⟨by rfl, ?_⟩) ?_
        · intro W; go_simp
        simp only [Act.put]
        refine Hd.After.pure (i := 5) (.pointer (some ⟨g, 0, none⟩)) rfl (by kernel_rfl) (by decide) (by kernel_rfl) (by kernel_rfl) (fun _ _ _ h => h) hS (Or.inl ⟨by rfl, ?_⟩) ?_
        · intro W; go_simp
        simp only [Act.put]
        refine Hd.After.take (i := 6) (V0 0) rfl (by kernel_rfl) (by kernel_rfl) (by kernel_rfl) (by kernel_rfl) (by kernel_rfl) (fun _ _ _ h => h) hS (Or.inl ⟨by rfl, ?_⟩) ?_
        · rintro W ⟨hW1, hW2⟩; go_simp
        simp only [Act.put]
        refine Hd.After.pure (i := 7) (.pointer (some ⟨b, 0, none⟩)) rfl (by kernel_rfl) (by decide) (by kernel_rfl) (by kernel_rfl) (fun _ _ _ h => h) hS (Or.inl ⟨by rfl, ?_⟩) ?_
        · intro W; go_simp
        simp only [Act.put]
        refine Hd.After.one (i := 8) (by kernel_rfl) rfl rfl ?_
        intro K8 hK8
        go_simp
        go_wp2_with (
          go_at_call 60
          refine (Cu.raw_any _ _ _ cu.drew (by omega)).mono ?_
          rintro e w4 ⟨y, rfl, y0, y1, hg4, hc4⟩)
        have hb4 : b < w4.heap.size := hc4.lt
        have tt4 := tt.drew.pick hbw (by omega) hg4 hc4
        have cx4 := CompX.off (w := World.drew _) cx hg4 (by omega)
        obtain ⟨m0, m1, m2, mf, _, hg4', _⟩ := cx4.cells h0
        have mf0 := mf 0
        have hS4 : w4.cell? ⟨x, 2, none⟩ = some (.slice (some ⟨g, 0, none⟩) rs.length cap) ∧ w4.cell? ⟨g, 0, none⟩ = some (V0 0) := ⟨tt4.bx.2.1.2.2, m0⟩
        clear hg4 mf
        refine hK8 _ _ (fun _ => hS4) ?_
        clear hK8 K8
        refine Hd.After.one (i := 9) (by kernel_rfl) rfl rfl ?_
        intro K9 hK9
        go_simp
        refine hK9 _ _ (fun _ => ⟨(tt4.alloc _).bx.2.1.2.2, by have h := (cx4.alloc (.cells #[.int .i64 y] 3)).cells h0; exact h.1⟩) ?_
        clear hK9 K9
        refine Hd.After.one (i := 10) (by kernel_rfl) rfl rfl ?_
        intro K10 hK10
        refine wp_append_lies _ _ _ 37 rfl (w.heap.size + 1) 3 j0 (.int .i64 0) 1 8 Try.underlying37 hj jz0 jz1 jz2 rfl (by decide) (V0 0) rs[0].nums.length (Li.iv rs[0].nums) rfl (World.ownsRow.alloc (cx4.1.2.2.1.1 0 h0 h0).2.1 _) _ 1 1 [.int .i64 y] rfl rfl (one_at (by simp)) (one_one _) (by decide) (by unfold maxLen; omega) (by omega) (by have := tt4.bx.1; simp; omega) _ rfl ?_
        intro g5 cap5 w5 hown5 hgrow hpos hglt
        have tt5 := Tt.grow' (tt4.alloc _) hbw hgrow (fun k hk => ⟨((cx4.1.2.2.1.1 0 h0 h0).2.1.ge k hk).1, fun e => (cx4.2.2 0 h0).1 (by rw [hk, e])⟩)
        have eb := hgrow.block g (by simp; omega) (fun e => (cx4.1.2.2.1.2.1 0 h0).1 e.symm)
        rw [Below.heap_alloc _ _ _ hg4'] at eb
        have s0 : w5.cell? ⟨g, 0, none⟩ = some (V0 0) := (World.cell?_of_block (a := ⟨g, 0, none⟩) eb).trans m0
        have sf0 : w5.frozen? ⟨g, 0, none⟩ = false := (World.frozen?_of_block (a := ⟨g, 0, none⟩) eb).trans mf0
        have hS5 : w5.cell? ⟨x, 2, none⟩ = some (.slice (some ⟨g, 0, none⟩) rs.length cap) ∧ w5.cell? ⟨g, 0, none⟩ = some (V0 0) := ⟨tt5.bx.2.1.2.2, s0⟩
        refine hK10 _ _ (fun _ => hS5) ?_
        clear hK10 K10
        simp only [Act.put]
        refine Hd.After.pure (i := 11) (.pointer (some ⟨g, 0, none⟩)) rfl (by kernel_rfl) (by decide) (by kernel_rfl) (by kernel_rfl) (fun _ _ _ h => h) hS5 (Or.inl ⟨by rfl, ?_⟩) ?_
        · intro W; go_simp
        simp only [Act.put]
        refine Hd.After.pure (i := 12) (.pointer (some ⟨g, 0, none⟩)) rfl (by kernel_rfl) (by decide) (by kernel_rfl) (by kernel_rfl) (fun _ _ _ h => h) hS5 (Or.inl ⟨by rfl, ?_⟩) ?_
        · intro W; go_simp
        simp only [Act.put]
        refine Hd.After.one (i := 13) (by kernel_rfl) rfl rfl ?_
        intro K13 hK13
        go_simp
        refine hK13 _ _ (fun h => by cases h) ?_
        clear hK13 K13
        refine Hd.After.done (by kernel_rfl) ?_ _
        obtain ⟨rs', hlen', hB', hR⟩ := read_nums rfl (cx4.alloc _) h0 HB.out rfl hgrow hpos hown5
        have tS := tt5.setAt (o := 0) (v := .slice (some ⟨g5, 0, none⟩) (rs[0].nums.length + 1) cap5) hbw hgR hgx
        clear hS hS4 hS5 tt5 tt4 tt ox cx cx4 cu x0 x1 x2 xf0 xf1 xf2 r0 r1 r2 rf0 rf1 rf2 hown5 hgrow hpos s0 sf0 m0 m1 m2 mf0 k0 k1 k2 kf0 eb
        obtain ⟨W1, hW⟩ : ∃ W1, w5.setCell ⟨g, 0, none⟩ (.slice (some ⟨g5, 0, none⟩) (rs[0].nums.length + 1) cap5) = W1 := ⟨_, rfl⟩
        rw [hW] at hR tS ⊢
        clear hW
        obtain ⟨⟨hxl, ⟨x0, x1, x2⟩, xf0, xf1, xf2⟩, ⟨hrl, ⟨r0, r1, r2⟩, rf0, rf1, rf2⟩, _, _⟩ := id tS
        have HE : Hid (rs.length = rs'.length) := hlen'
        clear hlen'
        go_wp2
        refine bodyPost_ret (v := .agg #[.int .i64 n, .int .i64 c, .slice (some ⟨g, 0, none⟩) rs.length cap]) (by rw [results_cell rfl]; go_simp) rfl (fin_any tS HE.out hR hbw hB' (by omega))
      · go_wp2
        refine bodyPost_ret (v := .agg #[.int .i64 n, .int .i64 c, .slice a rs.length cap]) (by rw [results_cell rfl]; go_simp) rfl (fin_same tt ox hbw HB.out (by omega))
    · by_cases h0 : 0 < rs.length
      · obtain ⟨g, hga⟩ : ∃ g, a = some ⟨g, 0, none⟩ := by
          obtain ⟨_, _, _, _, ⟨_, hown, _⟩, _⟩ := ox
          obtain ⟨g, _, e, _⟩ := hown.form h0
          simp at e
          exact ⟨g, e.1⟩
        subst hga
        go_wp2_with fail
        have hb3 : b < w3.heap.size := cu.lt
        obtain ⟨g', xs, V0, V1, cx⟩ := id ox
        have cx : CompX x w3 (w.heap.size + 1) x (.slice (some ⟨g, 0, none⟩) rs.length cap) rs g' xs V0 V1 := cx
        obtain rfl : g = g' := (cx.1.1 g rfl).1
        obtain ⟨k0, k1, k2, kf, hgR, hg3, hgx⟩ := cx.cells h0
        have kf0 := kf 1
        have bnd := HB.out.2 rs[0] (List.getElem_mem h0)
        have hnl : rs[0].cats.length ≤ 30 := by have := bnd.1; simp only [Row.sz] at this; omega
        clear bnd kf
        have hS : w3.drew.cell? ⟨x, 2, none⟩ = some (.slice (some ⟨g, 0, none⟩) rs.length cap) ∧ w3.drew.cell? ⟨g, 1, none⟩ = some (V1 0) := ⟨x2, k1⟩
        refine Hd.start (fun w' => w'.cell? ⟨x, 2, none⟩ = some (.slice (some ⟨g, 0, none⟩) rs.length cap) ∧ w'.cell? ⟨g, 1, none⟩ = some (V1 0)) 16 (by kernel_rfl) ?_
        refine Hd.After.pure (i := 0) (.pointer (some ⟨x, 2, none⟩)) rfl (by kernel_rfl) (by decide) (by kernel_rfl) (by kernel_rfl) (fun _ _ _ h => h) hS (Or.inl ⟨by rfl, ?_⟩) ?_
        · intro W; go_simp
        simp only [Act.put]
        refine Hd.After.take (i := 1) (.slice (some ⟨g, 0, none⟩) rs.length cap) rfl (by kernel_rfl) (by kernel_rfl) (by kernel_rfl) (by kernel_rfl) (by kernel_rfl) (fun _ _ _ h => h) hS (Or.inl ⟨by rfl, ?_⟩) ?_
        · rintro W ⟨hW1, hW2⟩; go_simp
        simp only [Act.put]
        refine Hd.After.pure (i := 2) (.pointer (some ⟨x, 2, none⟩)) rfl (by kernel_rfl) (by decide) (by kernel_rfl) (by kernel_rfl) (fun _ _ _ h => h) hS (Or.inl ⟨by rfl, ?_⟩) ?_
        · intro W; go_simp
        simp only [Act.put]
        refine Hd.After.take (i := 3) (.slice (some ⟨g, 0, none⟩) rs.length cap) rfl (by kernel_rfl) (by kernel_rfl) (by kernel_rfl) (by kernel_rfl) (by kernel_rfl) (fun _ _ _ h => h) hS (Or.inl ⟨by rfl, ?_⟩) ?_
        · rintro W ⟨hW1, hW2⟩; go_simp
        simp only [Act.put]
        refine Hd.After.pure (i := 4) (.pointer (some ⟨g, 0, none⟩)) rfl (by kernel_rfl) (by decide) (by kernel_rfl) (by kernel_rfl) (fun _ _ _ h => h) hS (Or.inl ⟨by rfl, ?_⟩) ?_
        · intro W; go_simp
        simp only [Act.put]
        refine Hd.After.pure (i := 5) (.pointer (some ⟨g, 1, none⟩)) rfl (by kernel_rfl) (by decide) (by kernel_rfl) (by kernel_rfl) (fun _ _ _ h => h) hS (Or.inl ⟨by rfl, ?_⟩) ?_
        · intro W; go_simp
        simp only [Act.put]
        refine Hd.After.take (i := 6) (V1 0) rfl (by kernel_rfl) (by kernel_rfl) (by kernel_rfl) (by kernel_rfl) (by kernel_rfl) (fun _ _ _ h => h) hS (Or.inl ⟨by rfl, ?_⟩) ?_
        · rintro W ⟨hW1, hW2⟩; go_simp
        simp only [Act.put]
        refine Hd.After.pure (i := 8) (.pointer (some ⟨b, 0, none⟩)) rfl (by kernel_rfl) (by decide) (by kernel_rfl) (by kernel_rfl) (fun _ _ _ h => h) hS (Or.inl ⟨by rfl, ?_⟩) ?_
        · intro W; go_simp
        simp only [Act.put]
        refine Hd.After.two (i := 7) (j := 9) (by kernel_rfl) rfl rfl rfl rfl ?_ ?_
        · intro K7 hK7
          go_simp
          refine hK7 _ _ (fun _ => ⟨(tt.drew.alloc _).bx.2.1.2.2, by have h := (CompX.alloc (w := World.drew _) cx (.cells #[.string ⟨#[]⟩, .string ⟨#[65]⟩, .string ⟨#[97, 98, 99, 100, 101, 102, 103, 104, 105, 106, 107, 108, 109]⟩] 9)).cells h0; exact h.2.1⟩) ?_
          clear hK7 K7
          refine Hd.After.one (i := 9) (by kernel_rfl) rfl rfl ?_
          intro K9 hK9
          go_simp
          go_wp2_with (
            go_at_call 59
            refine (Cu.pick_any _ _ _ (cu.drew.alloc _) (by omega) _ (by omega)).mono ?_
            rintro e w4 ⟨y, rfl, yb0, yb1, hg4, hq4, hc4⟩)
          have hb4 : b < w4.heap.size := hc4.lt
          have yb2 : y < 3 := yb1 (by omega)
          obtain ⟨q, hqc, hq13⟩ := tabW _ _ hg4 hb3 (by decide) y yb0 yb2
          have ttW := Tt.pick (tt.drew.alloc _) hbw (by omega) hg4 hc4
          have cxW : CompX x w4 (w.heap.size + 1) x (.slice (some ⟨g, 0, none⟩) rs.length cap) rs g xs V0 V1 := CompX.off (CompX.alloc (w := World.drew _) cx _) hg4 (by omega)
          obtain ⟨m0, m1, m2, mf, _, hgW, _⟩ := cxW.cells h0
          have mfW := mf 1
          have hSW : w4.cell? ⟨x, 2, none⟩ = some (.slice (some ⟨g, 0, none⟩) rs.length cap) ∧ w4.cell? ⟨g, 1, none⟩ = some (V1 0) := ⟨ttW.bx.2.1.2.2, m1⟩
          clear hg4 mf hq4 yb1 m0 m1 m2
          refine hK9 _ _ (fun _ => hSW) ?_
          clear hK9 K9
          refine Hd.After.one (i := 10) (by kernel_rfl) rfl rfl ?_
          intro K10 hK10
          go_simp
          refine hK10 _ _ (fun _ => hSW) ?_
          clear hK10 K10
          refine Hd.After.one (i := 11) (by kernel_rfl) rfl rfl ?_
          intro K11 hK11
          go_simp
          refine hK11 _ _ (fun _ => hSW) ?_
          clear hK11 K11
          refine Hd.After.one (i := 12) (by kernel_rfl) rfl rfl ?_
          intro K12 hK12
          go_simp
          refine hK12 _ _ (fun _ => ⟨(ttW.alloc _).bx.2.1.2.2, by have h := (cxW.alloc (.cells #[.string q] 9)).cells h0; exact h.2.1⟩) ?_
          clear hK12 K12
          refine Hd.After.one (i := 13) (by kernel_rfl) rfl rfl ?_
          intro K13 hK13
          refine wp_append_lies _ _ _ 40 rfl (w.heap.size + 1) 9 l0 (.string ⟨#[]⟩) 1 16 Try.underlying40 hl lz0 lz1 lz2 rfl (by decide) (V1 0) rs[0].cats.length (Ls.sv rs[0].cats) rfl (World.ownsRow.alloc (cxW.1.2.2.1.1 0 h0 h0).2.2 _) _ 1 1 [.string q] rfl rfl (sone_at (by simp)) (sone_one _) (by decide) (by unfold maxLen; omega) (by omega) (by have := ttW.bx.1; simp; omega) _ rfl ?_
          intro g5 cap5 w5 hown5 hgrow hpos hglt
          have tt5 := Tt.grow' (ttW.alloc _) hbw hgrow (fun k hk => ⟨((cxW.1.2.2.1.1 0 h0 h0).2.2.ge k hk).1, fun e => (cxW.2.2 0 h0).2 (by rw [hk, e])⟩)
          have eb := hgrow.block g (by simp; omega) (fun e => (cxW.1.2.2.1.2.1 0 h0).2 e.symm)
          rw [Below.heap_alloc _ _ _ hgW] at eb
          have s0 : w5.cell? ⟨g, 1, none⟩ = some (V1 0) := (World.cell?_of_block (a := ⟨g, 1, none⟩) eb).trans hSW.2
          have sf0 : w5.frozen? ⟨g, 1, none⟩ = false := (World.frozen?_of_block (a := ⟨g, 1, none⟩) eb).trans mfW
          have hS5 : w5.cell? ⟨x, 2, none⟩ = some (.slice (some ⟨g, 0, none⟩) rs.length cap) ∧ w5.cell? ⟨g, 1, none⟩ = some (V1 0) := ⟨tt5.bx.2.1.2.2, s0⟩
          obtain ⟨rs', hlen', hB', hR⟩ := read_cats (len := rs.length) (cap := cap) rfl (cxW.alloc _) h0 HB.out rfl hq13 hgrow hpos hown5
          have HE : Hid (rs.length = rs'.length) := hlen'
          clear hlen'
          refine hK13 _ _ (fun _ => hS5) ?_
          clear hK13 K13
          simp only [Act.put]
          refine Hd.After.pure (i := 14) (.pointer (some ⟨g, 0, none⟩)) rfl (by kernel_rfl) (by decide) (by kernel_rfl) (by kernel_rfl) (fun _ _ _ h => h) hS5 (Or.inl ⟨by rfl, ?_⟩) ?_
          · intro W; go_simp
          simp only [Act.put]
          refine Hd.After.pure (i := 15) (.pointer (some ⟨g, 1, none⟩)) rfl (by kernel_rfl) (by decide) (by kernel_rfl) (by kernel_rfl) (fun _ _ _ h => h) hS5 (Or.inl ⟨by rfl, ?_⟩) ?_
          · intro W; go_simp
          simp only [Act.put]
          refine Hd.After.one (i := 16) (by kernel_rfl) rfl rfl ?_
          intro K16 hK16
          go_simp
          refine hK16 _ _ (fun h => by cases h) ?_
          clear hK16 K16
          refine Hd.After.done (by kernel_rfl) ?_ _
          have tS := tt5.setAt (o := 1) (v := .slice (some ⟨g5, 0, none⟩) (rs[0].cats.length + 1) cap5) hbw hgR hgx
          clear hS hSW hS5 tt5 ttW tt ox cx cxW cu x0 x1 x2 xf0 xf1 xf2 r0 r1 r2 rf0 rf1 rf2 hown5 hgrow hpos s0 sf0 mfW k0 k1 k2 kf0 eb hqc
          obtain ⟨W1, hW⟩ : ∃ W1, w5.setCell ⟨g, 1, none⟩ (.slice (some ⟨g5, 0, none⟩) (rs[0].cats.length + 1) cap5) = W1 := ⟨_, rfl⟩
          rw [hW] at hR tS ⊢
          clear hW
          obtain ⟨⟨hxl, ⟨x0, x1, x2⟩, xf0, xf1, xf2⟩, ⟨hrl, ⟨r0, r1, r2⟩, rf0, rf1, rf2⟩, _, _⟩ := id tS
          go_wp2
          refine bodyPost_ret (v := .agg #[.int .i64 n, .int .i64 c, .slice (some ⟨g, 0, none⟩) rs.length cap]) (by rw [results_cell rfl]; go_simp) rfl (fin_any tS HE.out hR hbw hB' (by omega))
        · intro K9 hK9
          go_simp
          go_wp2_with (
            go_at_call 59
            refine (Cu.pick_any _ _ _ cu.drew (by omega) _ (by omega)).mono ?_
            rintro e w4 ⟨y, rfl, yb0, yb1, hg4, hq4, hc4⟩)
          have hb4 : b < w4.heap.size := hc4.lt
          have yb2 : y < 3 := yb1 (by omega)
          have tt4 := Tt.pick tt.drew hbw (by omega) hg4 hc4
          have cx4 : CompX x w4 (w.heap.size + 1) x (.slice (some ⟨g, 0, none⟩) rs.length cap) rs g xs V0 V1 := CompX.off (w := World.drew _) cx hg4 (by omega)
          have ttW := tt4.alloc (.cells #[.string ⟨#[]⟩, .string ⟨#[65]⟩, .string ⟨#[97, 98, 99, 100, 101, 102, 103, 104, 105, 106, 107, 108, 109]⟩] 9)
          have cxW := cx4.alloc (.cells #[.string ⟨#[]⟩, .string ⟨#[65]⟩, .string ⟨#[97, 98, 99, 100, 101, 102, 103, 104, 105, 106, 107, 108, 109]⟩] 9)
          obtain ⟨q, hqc, hq13⟩ := tabN w4 (#[.string ⟨#[]⟩, .string ⟨#[65]⟩, .string ⟨#[97, 98, 99, 100, 101, 102, 103, 104, 105, 106, 107, 108, 109]⟩]) 9 (by decide) y yb0 yb2
          obtain ⟨m0, m1, m2, mf, _, hgW, _⟩ := cxW.cells h0
          obtain ⟨m0', m1', m2', _⟩ := cx4.cells h0
          have mfW := mf 1
          have hS4 : w4.cell? ⟨x, 2, none⟩ = some (.slice (some ⟨g, 0, none⟩) rs.length cap) ∧ w4.cell? ⟨g, 1, none⟩ = some (V1 0) := ⟨tt4.bx.2.1.2.2, m1'⟩
          have hSW : (w4.alloc (.cells #[.string ⟨#[]⟩, .string ⟨#[65]⟩, .string ⟨#[97, 98, 99, 100, 101, 102, 103, 104, 105, 106, 107, 108, 109]⟩] 9)).cell? ⟨x, 2, none⟩ = some (.slice (some ⟨g, 0, none⟩) rs.length cap) ∧ (w4.alloc (.cells #[.string ⟨#[]⟩, .string ⟨#[65]⟩, .string ⟨#[97, 98, 99, 100, 101, 102, 103, 104, 105, 106, 107, 108, 109]⟩] 9)).cell? ⟨g, 1, none⟩ = some (V1 0) := ⟨ttW.bx.2.1.2.2, m1⟩
          clear hg4 mf hq4 yb1 m0 m1 m2 m0' m1' m2'
          refine hK9 _ _ (fun _ => hS4) ?_
          clear hK9 K9
          refine Hd.After.one (i := 7) (by kernel_rfl) rfl rfl ?_
          intro K7 hK7
          go_simp
          refine hK7 _ _ (fun _ => hSW) ?_
          clear hK7 K7 hS4 tt4 cx4
          obtain ⟨W, hWW⟩ : ∃ W, w4.alloc (.cells #[.string ⟨#[]⟩, .string ⟨#[65]⟩, .string ⟨#[97, 98, 99, 100, 101, 102, 103, 104, 105, 106, 107, 108, 109]⟩] 9) = W := ⟨_, rfl⟩
          rw [hWW] at ttW cxW hqc hgW mfW hSW ⊢
          clear hWW
          refine Hd.After.one (i := 10) (by kernel_rfl) rfl rfl ?_
          intro K10 hK10
          go_simp
          refine hK10 _ _ (fun _ => hSW) ?_
          clear hK10 K10
          refine Hd.After.one (i := 11) (by kernel_rfl) rfl rfl ?_
          intro K11 hK11
          go_simp
          refine hK11 _ _ (fun _ => hSW) ?_
          clear hK11 K11
          refine Hd.After.one (i := 12) (by kernel_rfl) rfl rfl ?_
          intro K12 hK12
          go_simp
          refine hK12 _ _ (fun _ => ⟨(ttW.alloc _).bx.2.1.2.2, by have h := (cxW.alloc (.cells #[.string q] 9)).cells h0; exact h.2.1⟩) ?_
          clear hK12 K12
          refine Hd.After.one (i := 13) (by kernel_rfl) rfl rfl ?_
          intro K13 hK13
          refine wp_append_lies _ _ _ 40 rfl (w.heap.size + 1) 9 l0 (.string ⟨#[]⟩) 1 16 Try.underlying40 hl lz0 lz1 lz2 rfl (by decide) (V1 0) rs[0].cats.length (Ls.sv rs[0].cats) rfl (World.ownsRow.alloc (cxW.1.2.2.1.1 0 h0 h0).2.2 _) _ 1 1 [.string q] rfl rfl (sone_at (by simp)) (sone_one _) (by decide) (by unfold maxLen; omega) (by omega) (by have := ttW.bx.1; simp; omega) _ rfl ?_
          intro g5 cap5 w5 hown5 hgrow hpos hglt
          have tt5 := Tt.grow' (ttW.alloc _) hbw hgrow (fun k hk => ⟨((cxW.1.2.2.1.1 0 h0 h0).2.2.ge k hk).1, fun e => (cxW.2.2 0 h0).2 (by rw [hk, e])⟩)
          have eb := hgrow.block g (by simp; omega) (fun e => (cxW.1.2.2.1.2.1 0 h0).2 e.symm)
          rw [Below.heap_alloc _ _ _ hgW] at eb
          have s0 : w5.cell? ⟨g, 1, none⟩ = some (V1 0) := (World.cell?_of_block (a := ⟨g, 1, none⟩) eb).trans hSW.2
          have sf0 : w5.frozen? ⟨g, 1, none⟩ = false := (World.frozen?_of_block (a := ⟨g, 1, none⟩) eb).trans mfW
          have hS5 : w5.cell? ⟨x, 2, none⟩ = some (.slice (some ⟨g, 0, none⟩) rs.length cap) ∧ w5.cell? ⟨g, 1, none⟩ = some (V1 0) := ⟨tt5.bx.2.1.2.2, s0⟩
          obtain ⟨rs', hlen', hB', hR⟩ := read_cats (len := rs.length) (cap := cap) rfl (cxW.alloc _) h0 HB.out rfl hq13 hgrow hpos hown5
          have HE : Hid (rs.length = rs'.length) := hlen'
          clear hlen'
          refine hK13 _ _ (fun _ => hS5) ?_
          clear hK13 K13
          simp only [Act.put]
          refine Hd.After.pure (i := 14) (.pointer (some ⟨g, 0, none⟩)) rfl (by kernel_rfl) (by decide) (by kernel_rfl) (by kernel_rfl) (fun _ _ _ h => h) hS5 (Or.inl ⟨by rfl, ?_⟩) ?_
          · intro W; go_simp
          simp only [Act.put]
          refine Hd.After.pure (i := 15) (.pointer (some ⟨g, 1, none⟩)) rfl (by kernel_rfl) (by decide) (by kernel_rfl) (by kernel_rfl) (fun _ _ _ h => h) hS5 (Or.inl ⟨by rfl, ?_⟩) ?_
          · intro W; go_simp
          simp only [Act.put]
          refine Hd.After.one (i := 16) (by kernel_rfl) rfl rfl ?_
          intro K16 hK16
          go_simp
          refine hK16 _ _ (fun h => by cases h) ?_
          clear hK16 K16
          refine Hd.After.done (by kernel_rfl) ?_ _
          have tS := tt5.setAt (o := 1) (v := .slice (some ⟨g5, 0, none⟩) (rs[0].cats.length + 1) cap5) hbw hgR hgx
          clear hS hSW hS5 tt5 ttW tt ox cx cxW cu x0 x1 x2 xf0 xf1 xf2 r0 r1 r2 rf0 rf1 rf2 hown5 hgrow hpos s0 sf0 mfW k0 k1 k2 kf0 eb hqc
          obtain ⟨W1, hW⟩ : ∃ W1, w5.setCell ⟨g, 1, none⟩ (.slice (some ⟨g5, 0, none⟩) (rs[0].cats.length + 1) cap5) = W1 := ⟨_, rfl⟩
          rw [hW] at hR tS ⊢
          clear hW
          obtain ⟨⟨hxl, ⟨x0, x1, x2⟩, xf0, xf1, xf2⟩, ⟨hrl, ⟨r0, r1, r2⟩, rf0, rf1, rf2⟩, _, _⟩ := id tS
          go_wp2
          refine bodyPost_ret (v := .agg #[.int .i64 n, .int .i64 c, .slice (some ⟨g, 0, none⟩) rs.length cap]) (by rw [results_cell rfl]; go_simp) rfl (fin_any tS HE.out hR hbw hB' (by omega))
      · go_wp2
        refine bodyPost_ret (v := .agg #[.int .i64 n, .int .i64 c, .slice a rs.length cap]) (by rw [results_cell rfl]; go_simp) rfl (fin_same tt ox hbw HB.out (by omega))
    · have HM : Hid (∀ r ∈ rs, Row.sz r ≤ 30 ∧ Row.fits r) := HB.out.2
      have ox' := ox.mono (hi' := w3.heap.size) (Nat.le_of_lt hxl)
      go_wp2
      go_loopw [] (fun wr => ∃ a cap, ∃ rs : List Row, rs.length ≤ 41 ∧ (∀ r ∈ rs, Row.sz r ≤ 30 ∧ Row.fits r) ∧ Tt w b x (K + 302 + 20 * rs.length) n c (.slice a rs.length cap) wr ∧ OwnX x wr (w.heap.size + 1) wr.heap.size (.slice a rs.length cap) rs) (fun wr => 41 - lenOf (wr.cell? ⟨x, 2, none⟩))
      case atStart => exact ⟨a, cap, rs, by omega, HM.out, (by have h := tt; exact ⟨h.bx, h.br, h.gr, h.cu.mono (by omega)⟩), ox'⟩
      case round =>
        obtain ⟨a, cap, rs, hrl, hrs, tt, ox⟩ := hrel
        have HR : Hid (∀ r ∈ rs, Row.sz r ≤ 30 ∧ Row.fits r) := hrs
        clear hrs
        obtain ⟨⟨hxl, ⟨x0, x1, x2⟩, xf0, xf1, xf2⟩, ⟨hrl', ⟨r0, r1, r2⟩, rf0, rf1, rf2⟩, _, cu⟩ := id tt
        by_cases hk : rs.length ≤ 40
        · obtain ⟨g', xs, V0, V1, cx⟩ := id ox
          have cx : CompX x wr (w.heap.size + 1) wr.heap.size (.slice a rs.length cap) rs g' xs V0 V1 := cx
          go_wp2_with fail
          go_region_law (first
            | (refine step_append_lies _ rfl _ _ 26 rfl (w.heap.size + 1) 42 i0 (.agg #[.slice none 0 0, .slice none 0 0, .int .i64 0]) 3 56 Try.underlying26 hi hz0 hz1 hz2 rfl (by decide) (.slice a rs.length cap) rs.length xs rfl (World.ownsRow.alloc cx4.1.2.1 _) _ 1 1 [.slice a0 r.nums.length q0, .slice a1 r.cats.length q1, .int .i64 r.label] rfl rfl (three_at (by simp)) three_one (by decide) (by unfold maxLen; omega) (by omega) (by have := tt4.bx.1; simp; omega) _ rfl ?_
               intro g cap5 w5 hown5 hgrow hpos hglt
               have tt5 := Tt.grow' (tt4.alloc _) hbw hgrow (fun k hk => ⟨(World.ownsRow.lt cx4.1.2.1 k hk).1, fun e => cx4.2.1 (by rw [hk, e])⟩)
               obtain ⟨⟨hxl5, ⟨y0, y1, y2⟩, yf0, yf1, yf2⟩, _, _, _⟩ := id tt5)
            | (go_simp
               go_wp2_with (
                   go_at_call 61
                   refine (sample_any _ _ _ cu.drew (by omega) _ _).mono ?_
                   rintro e w4 ⟨u0, u1, r, rfl, hr, o0, o1, ha, hg4, hc4⟩
                   have HRr : Hid (Row.sz r ≤ 30 ∧ Row.fits r) := hr
                   have tt4 := Tt.pick tt.drew hbw (by omega) hg4 hc4
                   have cx4 := CompX.off (w := World.drew _) cx hg4 (by omega)
                   have hs4 : wr.heap.size ≤ w4.heap.size := hg4.size
                   obtain ⟨a0, q0, rfl, _⟩ := o0.isl
                   obtain ⟨a1, q1, rfl, _⟩ := o1.iss
                   obtain ⟨⟨hxl3, ⟨p0, p1, p2⟩, _, _, _⟩, _, _, _⟩ := id tt4
                   clear hr hg4)))
          all_goals
            have HT : Hid (Tt w b x (K + 302 + 20 * rs.length + 20) n c (.slice (some ⟨g, 0, none⟩) (rs.length + 1) cap5) (w5.setCell ⟨x, 2, none⟩ (.slice (some ⟨g, 0, none⟩) (rs.length + 1) cap5))) := Tt.set2 tt5 hbw hxs _
            have HO : Hid (OwnX x (w5.setCell ⟨x, 2, none⟩ (.slice (some ⟨g, 0, none⟩) (rs.length + 1) cap5)) (w.heap.size + 1) (w5.setCell ⟨x, 2, none⟩ (.slice (some ⟨g, 0, none⟩) (rs.length + 1) cap5)).heap.size (.slice (some ⟨g, 0, none⟩) (rs.length + 1) cap5) (rs ++ [r])) := by
              refine OwnX.mono (hi := w5.heap.size) ?_ (by simp [World.setCell])
              refine OwnX.off ?_ (grown_set' _ _ _ _) (.inr (.inr rfl))
              exact pushX (W := w4.alloc _) rfl (cx4.alloc _) (World.ownsRow.alloc o0 _) (World.ownsRow.alloc o1 _) ha (by show _ ≤ wr.heap.size; omega) hxl (by show wr.heap.size ≤ _; simp; omega) hgrow hpos hglt hown5
            have HC : Hid ((w5.setCell ⟨x, 2, none⟩ (.slice (some ⟨g, 0, none⟩) (rs.length + 1) cap5)).cell? ⟨x, 2, none⟩ = some (.slice (some ⟨g, 0, none⟩) (rs.length + 1) cap5)) := HT.out.bx.2.1.2.2
            have HX2 : Hid (wr.cell? ⟨x, 2, none⟩ = some (.slice a rs.length cap)) := x2
            clear hown5 hgrow hpos tt5 tt4 tt ox cx cx4 o0 o1 ha
            go_wp2
            go_roundw
            case rel =>
              refine ⟨_, _, rs ++ [r], by simp; omega, ?_, (by have h := HT.out; rw [List.length_append]; exact ⟨h.bx, h.br, h.gr, h.cu.mono (by simp; omega)⟩), (by rw [List.length_append]; exact HO.out)⟩
              intro s hs
              rcases List.mem_append.1 hs with hs | hs
              · exact HR.out s hs
              · obtain rfl := List.mem_singleton.1 hs
                exact HRr.out
            case measure => rw [HC.out, HX2.out]; simp only [lenOf]; omega
        · go_wp2
          refine bodyPost_ret (v := .agg #[.int .i64 n, .int .i64 c, .slice a rs.length cap]) (by rw [results_cell rfl]; go_simp) rfl (fin_any tt rfl ox.read hbw ⟨hrl, fun r hr => ⟨by have := (HR.out r hr).1; omega, (HR.out r hr).2⟩⟩ (by omega))
end Go.Proofs.Ytbjnhdhnlofibaa.Db
