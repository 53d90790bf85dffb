/-
  What the model draws for tables: a table, a table that may be spoilt.
-/
import Derived.Test.YtbjnhdhnlofibaaDrawB
import Derived.Test.YtbjnhdhnlofibaaPush
namespace Go.Proofs.Ytbjnhdhnlofibaa.Db
set_option maxRecDepth 100000
open Go.RowKit
open Go.Proofs.Ytbjnhdhnlofibaa.Tb Go.Proofs.Ytbjnhdhnlofibaa.Tk
open Go.Proofs.Ytbjnhdhnlofibaa.Li (Own info_int)

/-- What stands while a table is drawn: its variable, the result, the cursor, the frame. -/
structure Tt (w : World) (b x : Nat) (K : Int) (n c : Int) (u : Value) (W : World) : Prop where
  bx : Box3 W x (.int .i64 n) (.int .i64 c) u
  br : Box3 W w.heap.size (.int .i64 0) (.int .i64 0) (.slice none 0 0)
  gr : w.grownBy W (some b)
  cu : Cu.Cur W b K
theorem Tt.alloc {w W : World} {b x : Nat} {K n c : Int} {u : Value} (h : Tt w b x K n c u W) (o : Obj) : Tt w b x K n c u (W.alloc o) :=
  ⟨h.bx.alloc _, h.br.alloc _, Cu.grown_alloc h.gr _, h.cu.alloc _⟩
theorem Tt.drew {w W : World} {b x : Nat} {K n c : Int} {u : Value} (h : Tt w b x K n c u W) : Tt w b x K n c u W.drew :=
  ⟨h.bx, h.br, Cu.grown_drew h.gr, h.cu.drew⟩
theorem Tt.pick {w W W' : World} {b x : Nat} {K K' n c : Int} {u : Value} (h : Tt w b x K n c u W) (hb : b < w.heap.size) (hx : b < x) (hg : W.grownBy W' (some b)) (hc : Cu.Cur W' b K') : Tt w b x K' n c u W' :=
  ⟨box3_cur h.bx hg (by omega), box3_cur h.br hg (by omega), Cu.grown_trans h.gr hg, hc⟩
theorem Tt.grow {w W W' : World} {b x : Nat} {K n c : Int} {u : Value} {r : Option Nat} (h : Tt w b x K n c u W) (hb : b < w.heap.size) (hx : w.heap.size < x) (hg : W.grownBy W' r) (hr : ∀ k, r = some k → x + 1 ≤ k) : Tt w b x K n c u W' := by
  have ne : ∀ k, k ≤ x → some k ≠ r := fun k hk e => by have := hr k e.symm; omega
  exact ⟨h.bx.keptAt hg.size (hg.block x h.bx.1 (ne _ (Nat.le_refl _))), h.br.keptAt hg.size (hg.block _ h.br.1 (ne _ (by omega))), grown_new h.gr hg (fun k hk => by have := hr k hk; omega), cur_new h.cu hg (fun k hk => by have := hr k hk; omega)⟩
theorem Tt.grow' {w W W' : World} {b x : Nat} {K n c : Int} {u : Value} {r : Option Nat} (h : Tt w b x K n c u W) (hb : b < w.heap.size) (hg : W.grownBy W' r) (hr : ∀ k, r = some k → w.heap.size + 1 ≤ k ∧ k ≠ x) : Tt w b x K n c u W' :=
  ⟨h.bx.keptAt hg.size (hg.block x h.bx.1 (fun e => (hr x e.symm).2 rfl)), h.br.keptAt hg.size (hg.block _ h.br.1 (fun e => by have := (hr _ e.symm).1; omega)), grown_new h.gr hg (fun k hk => by have := (hr k hk).1; omega), cur_new h.cu hg (fun k hk => by have := (hr k hk).1; omega)⟩
theorem box3_set2 {w : World} {b : Nat} {v0 v1 v2 : Value} (h : Box3 w b v0 v1 v2) (v : Value) : Box3 (w.setCell ⟨b, 2, none⟩ v) b v0 v1 v := by
  obtain ⟨hlt, ⟨c0, c1, c2⟩, f0, f1, f2⟩ := h
  refine ⟨by simpa [World.setCell] using hlt, ⟨?_, ?_, World.cell?_setCell_same _ _ _ c2⟩, ?_, ?_, ?_⟩
  · rw [World.cell?_setCell_other _ _ _ _ (by simp)]; exact c0
  · rw [World.cell?_setCell_other _ _ _ _ (by simp)]; exact c1
  all_goals (rw [World.frozen?_setCell]; assumption)
theorem Tt.set2 {w W : World} {b x : Nat} {K n c : Int} {u : Value} (h : Tt w b x K n c u W) (hb : b < w.heap.size) (hx : w.heap.size < x) (v : Value) : Tt w b x K n c v (W.setCell ⟨x, 2, none⟩ v) :=
  ⟨box3_set2 h.bx v, h.br.setOther (by omega), grown_setN h.gr (by omega), cur_set h.cu (by omega)⟩

set_option maxHeartbeats 4000000 in
theorem table_any (w : World) (b : Nat) (K : Int) (hc : Cu.Cur w b K) (hK : K ≤ 100000000000000) :
    Calls Try.prog 57 #[.pointer (some ⟨b, 0, none⟩)] w fun e w' => ∃ (n c : Int) (v : Value) (rs : List Row), e = .returned (.agg #[.int .i64 n, .int .i64 c, v]) ∧ (0 ≤ n ∧ n < 4 ∧ 0 ≤ c ∧ c < 3 ∧ rs.length ≤ 11 ∧ ∀ r ∈ rs, Row.sz r ≤ 30 ∧ Row.fits r) ∧ OwnT w' w.heap.size w'.heap.size v rs ∧ w.grownBy w' (some b) ∧ Cu.Cur w' b (K + 300) := by
  obtain ⟨i0, hi, hz0, hz1, hz2⟩ := info_parts info_smp
  have hbw := hc.lt
  have br := box3_new w (.int .i64 0) (.int .i64 0) (.slice none 0 0) 28
  go_enter Try.func57, Try.ntmps57
  go_wp2_with fail
  refine (schema_any _ _ _ (hc.alloc _) (by omega)).mono ?_
  rintro e w1 ⟨n, c, rfl, hnc, hg1, hc1⟩
  have br := box3_cur br hg1 (by omega)
  have hg := Cu.grown_trans (World.grownBy_alloc w _ (some b)) hg1
  have hs1 : w.heap.size < w1.heap.size := by have := hg1.size; simp at this; omega
  clear hg1 hc
  have tt : Tt w b w1.heap.size (K + 2) n c (.slice none 0 0) (w1.alloc (.cells #[.int .i64 n, .int .i64 c, .slice none 0 0] 28)) :=
    ⟨box3_new _ _ _ _ _, br.alloc _, Cu.grown_alloc hg _, hc1.alloc _⟩
  obtain ⟨x, hx⟩ : ∃ x, w1.heap.size = x := ⟨_, rfl⟩
  go_wp2_with fail
  rw [hx] at tt
  have hxs : w.heap.size < x := by omega
  refine (size_any _ _ _ tt.cu (by omega) _ (by omega) (by omega)).mono ?_
  rintro e w2 ⟨N', rfl, N0, N1, hg2, hq2, hc2⟩
  have tt := tt.pick hbw (by omega) hg2 hc2
  obtain ⟨N, rfl⟩ : ∃ N : Nat, N' = (N : Int) := ⟨N'.toNat, by omega⟩
  clear hg2 hq2 hc2 hc1 hg br hs1 hx
  go_wp2
  go_loopw [4] (fun i wr => ∃ k j : Nat, j + k = N ∧ i = .int .i64 k ∧ ∃ u, ∃ rs : List Row, rs.length = j ∧ (∀ r ∈ rs, Row.sz r ≤ 30 ∧ Row.fits r) ∧ Tt w b x (K + 3 + 20 * j) n c u wr ∧ OwnT wr (x + 1) wr.heap.size u rs) (fun i _ => (intOf i).toNat)
  case atStart => exact ⟨N, 0, by omega, rfl, _, [], rfl, by simp, (by have h := tt; exact ⟨h.bx, h.br, h.gr, h.cu.mono (by omega)⟩), OwnT.nil _ _ _⟩
  case round =>
    obtain ⟨k, j, hjk, rfl, u, rs, hrl, hrs, tt, ho⟩ := hrel
    have HL : Hid (rs.length = j) := hrl
    have HR : Hid (∀ r ∈ rs, Row.sz r ≤ 30 ∧ Row.fits r) := hrs
    have HJ : Hid (j + k = N) := hjk
    have hj11 : j ≤ 11 := by omega
    have hk11 : k ≤ 11 := by omega
    clear hrl hrs hjk
    obtain ⟨⟨hxl, ⟨x0, x1, x2⟩, xf0, xf1, xf2⟩, ⟨hrl, ⟨r0, r1, r2⟩, rf0, rf1, rf2⟩, _, cu⟩ := id tt
    by_cases hk : 0 < k
    · go_wp2_with fail
      go_region_law (first
        | (refine step_append_lies _ rfl _ _ 26 rfl (x + 1) 42 i0 (.agg #[.slice none 0 0, .slice none 0 0, .int .i64 0]) 3 56 Try.underlying26 hi hz0 hz1 hz2 rfl (by decide) u rs.length xs3 rfl (World.ownsRow.alloc hown3 _) _ 1 1 [.slice a0 r.nums.length q0, .slice a1 r.cats.length q1, .int .i64 r.label] rfl rfl (three_at (by simp)) three_one (by decide) (by have := HL.out; unfold maxLen; omega) (by have := HL.out; omega) (by have := tt3.bx.1; simp; omega) _ rfl ?_
           intro g cap w5 hown5 hgrow hpos hglt
           have tt5 := Tt.grow (tt3.alloc _) hbw hxs hgrow (fun k hk => (World.ownsRow.lt hown3 k hk).1)
           obtain ⟨⟨hxl5, ⟨y0, y1, y2⟩, yf0, yf1, yf2⟩, _, _, _⟩ := id tt5)
        | (go_simp
           go_wp2_with (
               go_at_call 61
               refine (sample_any _ _ _ cu.drew (by omega) _ _).mono ?_
               rintro e w3 ⟨u0, u1, r, rfl, hr, o0, o1, ha, hg3, hc3⟩
               have HRr : Hid (Row.sz r ≤ 30 ∧ Row.fits r) := hr
               have tt3 := Tt.pick tt.drew hbw (by omega) hg3 hc3
               have ho3 : OwnT w3 (x + 1) _ u rs := OwnT.off (w := World.drew _) ho hg3 (by omega)
               obtain ⟨a0, q0, rfl, _⟩ := o0.isl
               obtain ⟨a1, q1, rfl, _⟩ := o1.iss
               obtain ⟨g3, xs3, V03, V13, hgo3, hown3, hN3, hv3⟩ := id ho3
               obtain ⟨⟨hxl3, ⟨p0, p1, p2⟩, _, _, _⟩, _, _, _⟩ := id tt3
               clear hr)))
      all_goals
        have HT : Hid (Tt w b x (K + 3 + 20 * j + 20) n c (.slice (some ⟨g, 0, none⟩) (rs.length + 1) cap) (w5.setCell ⟨x, 2, none⟩ (.slice (some ⟨g, 0, none⟩) (rs.length + 1) cap))) := Tt.set2 tt5 hbw hxs _
        have HO : Hid (OwnT (w5.setCell ⟨x, 2, none⟩ (.slice (some ⟨g, 0, none⟩) (rs.length + 1) cap)) (x + 1) (w5.setCell ⟨x, 2, none⟩ (.slice (some ⟨g, 0, none⟩) (rs.length + 1) cap)).heap.size (.slice (some ⟨g, 0, none⟩) (rs.length + 1) cap) (rs ++ [r])) := by
          refine OwnT.mono (lo := x + 1) (hi := w5.heap.size) ?_ (Nat.le_refl _) (by simp [World.setCell])
          refine OwnT.off ?_ (grown_set' _ _ _ _) (.inl (Nat.lt_succ_self _))
          exact push (W := w3.alloc _) rfl hgo3 (World.ownsRow.alloc hown3 _) (nest_alloc hN3 _) (World.ownsRow.alloc o0 _) (World.ownsRow.alloc o1 _) ha (by exact hxl) hv3 hgrow hpos hglt hown5
        clear hown5 hgrow hpos tt5 tt3 tt ho ho3 hgo3 hown3 hN3 hv3 o0 o1 ha
        go_wp2
        go_roundw
        case rel =>
          refine ⟨k - 1, j + 1, by have := HJ.out; omega, by go_num, _, rs ++ [r], by have := HL.out; simp; omega, ?_, (by have h := HT.out; exact ⟨h.bx, h.br, h.gr, h.cu.mono (by omega)⟩), HO.out⟩
          intro s hs
          rcases List.mem_append.1 hs with hs | hs
          · exact HR.out s hs
          · obtain rfl := List.mem_singleton.1 hs
            exact HRr.out
        case measure => simp [intOf]; omega
    · obtain ⟨a, cap, rfl, _⟩ := ho.isr
      go_wp2
      refine bodyPost_ret (v := .agg #[.int .i64 n, .int .i64 c, .slice a rs.length cap]) (by rw [results_cell rfl]; go_simp) rfl ⟨n, c, _, rs, rfl, ⟨hnc.1, hnc.2.1, hnc.2.2.1, hnc.2.2.2, by have := HL.out; omega, HR.out⟩, ?_, ?_, ?_⟩
      · refine OwnT.mono (lo := x + 1) (hi := wr.heap.size) ?_ (by omega) (by simp [World.setCell])
        exact ((ho.off (grown_set' _ _ _ _) (by omega)).off (grown_set' _ _ _ _) (by omega)).off (grown_set' _ _ _ _) (by omega)
      · exact grown_setN (grown_setN (grown_setN tt.gr (by omega)) (by omega)) (by omega)
      · exact (cur_set (cur_set (cur_set tt.cu (by omega)) (by omega)) (by omega)).mono (by omega)
/-- Rows of the call's own that keep clear of block x. -/
def OwnX (x : Nat) (w : World) (lo hi : Nat) (v : Value) (rs : List Row) : Prop :=
  ∃ g xs V0 V1, ((∀ k, v.ownBlock = some k → k = g ∧ k < hi) ∧ w.ownsRow lo 42 3 v rs.length xs ∧ Nest w lo g V0 V1 xs rs rs.length ∧
    ∀ i, i < rs.length → (∀ b, (V0 i).ownBlock = some b → b < hi) ∧ (∀ b, (V1 i).ownBlock = some b → b < hi)) ∧
    v.ownBlock ≠ some x ∧ ∀ i, i < rs.length → (V0 i).ownBlock ≠ some x ∧ (V1 i).ownBlock ≠ some x
theorem OwnX.own {x : Nat} {w : World} {lo hi : Nat} {v : Value} {rs : List Row} (h : OwnX x w lo hi v rs) : OwnT w lo hi v rs := by
  obtain ⟨g, xs, V0, V1, h, _⟩ := h
  exact ⟨g, xs, V0, V1, h⟩
theorem OwnX.of {x : Nat} {w : World} {lo hi : Nat} {v : Value} {rs : List Row} (h : OwnT w lo hi v rs) (hx : hi ≤ x) : OwnX x w lo hi v rs := by
  obtain ⟨g, xs, V0, V1, h1, h2, h3, h4⟩ := h
  exact ⟨g, xs, V0, V1, ⟨h1, h2, h3, h4⟩, fun e => by have := (h1 x e).2; omega, fun i hi => ⟨fun e => by have := (h4 i hi).1 x e; omega, fun e => by have := (h4 i hi).2 x e; omega⟩⟩
theorem OwnX.keptAt {x : Nat} {w w1 : World} {lo hi : Nat} {v : Value} {rs : List Row} (h : OwnX x w lo hi v rs) (hk : ∀ k, lo ≤ k → k < hi → k < w.heap.size → k ≠ x → w1.heap[k]? = w.heap[k]?) : OwnX x w1 lo hi v rs := by
  obtain ⟨g, xs, V0, V1, ⟨hg, hown, ⟨hn, hs⟩, hv⟩, hx, hvx⟩ := h
  refine ⟨g, xs, V0, V1, ⟨hg, ownsRow_at hown (fun k e => hk k (World.ownsRow.lt hown k e).1 (hg k e).2 (World.ownsRow.lt hown k e).2 (fun e' => hx (by rw [e, e']))), ⟨fun i hi' hik => ?_, hs⟩, hv⟩, hx, hvx⟩
  obtain ⟨hc, o0, o1⟩ := hn i hi' hik
  exact ⟨hc, ownsRow_at o0 (fun k e => hk k (o0.ge k e).1 ((hv i hi').1 k e) (o0.ge k e).2 (fun e' => (hvx i hi').1 (by rw [e, e']))), ownsRow_at o1 (fun k e => hk k (o1.ge k e).1 ((hv i hi').2 k e) (o1.ge k e).2 (fun e' => (hvx i hi').2 (by rw [e, e'])))⟩
theorem OwnX.off {x : Nat} {w w1 : World} {lo hi b : Nat} {v : Value} {rs : List Row} (h : OwnX x w lo hi v rs) (hg : w.grownBy w1 (some b)) (hb : b < lo ∨ hi ≤ b ∨ b = x) : OwnX x w1 lo hi v rs :=
  h.keptAt fun k h1 h2 hk hx => hg.block k hk (by simp; omega)
theorem OwnX.mono {x : Nat} {w : World} {lo hi hi' : Nat} {v : Value} {rs : List Row} (h : OwnX x w lo hi v rs) (hh : hi ≤ hi') : OwnX x w lo hi' v rs := by
  obtain ⟨g, xs, V0, V1, ⟨hg, hown, hn, hv⟩, r⟩ := h
  exact ⟨g, xs, V0, V1, ⟨fun k e => ⟨(hg k e).1, by have := (hg k e).2; omega⟩, hown, hn, fun i hi' => ⟨fun b e => by have := (hv i hi').1 b e; omega, fun b e => by have := (hv i hi').2 b e; omega⟩⟩, r⟩
theorem OwnX.alloc {x : Nat} {w : World} {lo hi : Nat} {v : Value} {rs : List Row} (h : OwnX x w lo hi v rs) (o : Obj) : OwnX x (w.alloc o) lo hi v rs :=
  h.keptAt fun _ _ _ hk _ => Below.heap_alloc _ _ _ hk
end Go.Proofs.Ytbjnhdhnlofibaa.Db
