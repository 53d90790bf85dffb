/-
  Contracts that the proof leans on, put together in the order in which they build.
-/
import Derived.Test.YtaojoamldoofpaaGreatDoorPart20
import Derived.Test.YtaojoamldoofpaaGreatDoorPart8
import Derived.Deep.RegionLaw
import Derived.Deep.RegionWith
/-
  What the model draws for trees: a tree.
-/
namespace Go.Proofs.YtaojoamldoofpaaGreatDoor.Df
open Go.RowKit
open Go.Proofs.YtaojoamldoofpaaGreatDoor.Li (iv ret_bool ret_int below_none)
open Go.Proofs.YtaojoamldoofpaaGreatDoor.Ai Go.Proofs.YtaojoamldoofpaaGreatDoor.Tr Go.Proofs.YtaojoamldoofpaaGreatDoor.Tm
set_option linter.unusedVariables false

theorem wrapB (n : Int) : -9223372036854775808 ≤ IntKind.i64.wrap n ∧ IntKind.i64.wrap n ≤ 9223372036854775807 := by
  simp [IntKind.wrap, IntKind.bits, IntKind.signed]; omega
theorem tabI (l : List Value) (lo hi : Int) (hall : l.all (Cu.okv lo hi) = true) (y : Int) (h0 : 0 ≤ y) (h1 : y < (l.length : Int)) : ∃ v : Int, (∀ h, l[y.toNat]'h = .int .i64 v) ∧ lo ≤ v ∧ v ≤ hi := by
  have hlt : y.toNat < l.length := by omega
  obtain ⟨v, hv, hb⟩ := Cu.okv_int ((List.all_eq_true.1 hall) l[y.toNat] (by simp))
  exact ⟨v, fun _ => hv, hb⟩
theorem kept {w w' : World} {b : Nat} (h : w.grownBy w' (some b)) : ∀ blk o, b < blk → blk < w.heap.size → w'.cell? ⟨blk, o, none⟩ = w.cell? ⟨blk, o, none⟩ :=
  fun blk o h1 h2 => World.cell?_of_block (a := ⟨blk, o, none⟩) (h.block blk h2 (fun e => by cases e; omega))
structure TS (w wr : World) (b : Nat) (K : Int) (v0 v1 : Value) (t : T) : Prop where
  bx : Box2 wr (w.heap.size + 1) v0 v1
  br : Box2 wr w.heap.size (.slice none 0 0) (.slice none 0 0)
  o0 : OwnP wr (w.heap.size + 2) v0 t.sp
  o1 : Li.Own wr (w.heap.size + 2) v1 t.lv
  ap : Apt v0 v1
  gr : w.grownBy wr (some b)
  cu : Cu.Cur wr b K
theorem ownP_cur {w w1 : World} {b B : Nat} {v : Value} {xs : List (Int × Int)} (h : OwnP w B v xs) (hg : w.grownBy w1 (some b)) (hb : b < B) : OwnP w1 B v xs := ownP_off h hg hb
theorem TS.cur {w wr w1 : World} {b : Nat} {K K' : Int} {v0 v1 : Value} {t : T} (h : TS w wr b K v0 v1 t) (hb : b < w.heap.size) (hg : wr.grownBy w1 (some b)) (hc : Cu.Cur w1 b K') : TS w w1 b K' v0 v1 t :=
  ⟨h.bx.keptAt hg.size (hg.block _ h.bx.1 (by simp; omega)), h.br.keptAt hg.size (hg.block _ h.br.1 (by simp; omega)), ownP_cur h.o0 hg (by omega), own_cur h.o1 hg (by omega), h.ap, Cu.grown_trans h.gr hg, hc⟩
theorem TS.alloc {w wr : World} {b : Nat} {K : Int} {v0 v1 : Value} {t : T} (h : TS w wr b K v0 v1 t) (o : Obj) : TS w (wr.alloc o) b K v0 v1 t :=
  ⟨h.bx.alloc o, h.br.alloc o, World.ownsRow.alloc h.o0 o, World.ownsRow.alloc h.o1 o, h.ap, Cu.grown_alloc h.gr o, h.cu.alloc o⟩
theorem TS.drew {w wr : World} {b : Nat} {K : Int} {v0 v1 : Value} {t : T} (h : TS w wr b K v0 v1 t) : TS w wr.drew b K v0 v1 t :=
  ⟨h.bx, h.br, h.o0, h.o1, h.ap, Cu.grown_drew h.gr, h.cu.drew⟩
theorem TS.mono {w wr : World} {b : Nat} {K K' : Int} {v0 v1 : Value} {t : T} (h : TS w wr b K v0 v1 t) (hK : K ≤ K') : TS w wr b K' v0 v1 t :=
  ⟨h.bx, h.br, h.o0, h.o1, h.ap, h.gr, h.cu.mono hK⟩
theorem TS.put0 {w wr w1 : World} {b g n cap : Nat} {K : Int} {v0 v1 : Value} {t : T} {ps : List (Int × Int)} (h : TS w wr b K v0 v1 t) (hb : b < w.heap.size) (hg : wr.grownBy w1 v0.ownBlock) (ho : OwnP w1 (w.heap.size + 2) (.slice (some ⟨g, 0, none⟩) n cap) ps) (hpos : v0.ownBlock = some g ∨ g = wr.heap.size) :
    TS w (w1.setCell ⟨w.heap.size + 1, 0, none⟩ (.slice (some ⟨g, 0, none⟩) n cap)) b K (.slice (some ⟨g, 0, none⟩) n cap) v1 ⟨ps, t.lv⟩ := by
  have hge := h.o0.ge
  have hg1 := h.o1.ge
  have hgg := ho.ge g rfl
  have hbx := h.bx.keptAt hg.size (hg.block _ h.bx.1 (fun e => by have := (hge _ e.symm).1; omega))
  have hbr := h.br.keptAt hg.size (hg.block _ h.br.1 (fun e => by have := (hge _ e.symm).1; omega))
  have ho1 := h.o1.kept hg h.ap.1
  refine ⟨hbx.set0 _, hbr.setOther (by omega), ownP_off ho (Li.grown_set _ _ _ _) (by omega), own_off ho1 (Li.grown_set _ _ _ _) (by omega), apt_of (fun k e e' => ?_), ?_, ?_⟩
  · simp [Value.ownBlock] at e
    subst e
    rcases hpos with h1 | h1
    · have := h.ap.1; rw [h1, e'] at this; simp at this
    · have := (hg1 _ e').2; omega
  · refine grown_new (grown_new h.gr hg (fun k hk => by have := (hge k hk).1; omega)) (Li.grown_set w1 (w.heap.size + 1) 0 _) (fun k hk => by cases hk; omega)
  · refine cur_new (cur_new h.cu hg (fun k hk => by have := (hge k hk).1; omega)) (Li.grown_set w1 (w.heap.size + 1) 0 _) (fun k hk => by cases hk; omega)
theorem TS.put1 {w wr w1 : World} {b g n cap : Nat} {K : Int} {v0 v1 : Value} {t : T} {ps : List Int} (h : TS w wr b K v0 v1 t) (hb : b < w.heap.size) (hg : wr.grownBy w1 v1.ownBlock) (ho : Li.Own w1 (w.heap.size + 2) (.slice (some ⟨g, 0, none⟩) n cap) ps) (hpos : v1.ownBlock = some g ∨ g = wr.heap.size) :
    TS w (w1.setCell ⟨w.heap.size + 1, 1, none⟩ (.slice (some ⟨g, 0, none⟩) n cap)) b K v0 (.slice (some ⟨g, 0, none⟩) n cap) ⟨t.sp, ps⟩ := by
  have hge := h.o1.ge
  have hg1 := h.o0.ge
  have hgg := ho.ge g rfl
  have hbx := h.bx.keptAt hg.size (hg.block _ h.bx.1 (fun e => by have := (hge _ e.symm).1; omega))
  have hbr := h.br.keptAt hg.size (hg.block _ h.br.1 (fun e => by have := (hge _ e.symm).1; omega))
  have ho0 := h.o0.kept hg h.ap.2
  refine ⟨hbx.set1 _, hbr.setOther (by omega), ownP_off ho0 (Li.grown_set _ _ _ _) (by omega), own_off ho (Li.grown_set _ _ _ _) (by omega), apt_of (fun k e e' => ?_), ?_, ?_⟩
  · simp [Value.ownBlock] at e'
    subst e'
    rcases hpos with h1 | h1
    · have := h.ap.2; rw [h1, e] at this; simp at this
    · have := (hg1 _ e).2; omega
  · refine grown_new (grown_new h.gr hg (fun k hk => by have := (hge k hk).1; omega)) (Li.grown_set w1 (w.heap.size + 1) 1 _) (fun k hk => by cases hk; omega)
  · refine cur_new (cur_new h.cu hg (fun k hk => by have := (hge k hk).1; omega)) (Li.grown_set w1 (w.heap.size + 1) 1 _) (fun k hk => by cases hk; omega)
theorem TS.done {w wr : World} {b : Nat} {K : Int} {v0 v1 : Value} {t : T} (h : TS w wr b K v0 v1 t) (hb : b < w.heap.size) :
    OwnP ((wr.setCell ⟨w.heap.size, 0, none⟩ v0).setCell ⟨w.heap.size, 1, none⟩ v1) w.heap.size v0 t.sp ∧ Li.Own ((wr.setCell ⟨w.heap.size, 0, none⟩ v0).setCell ⟨w.heap.size, 1, none⟩ v1) w.heap.size v1 t.lv ∧ w.grownBy ((wr.setCell ⟨w.heap.size, 0, none⟩ v0).setCell ⟨w.heap.size, 1, none⟩ v1) (some b) ∧ Cu.Cur ((wr.setCell ⟨w.heap.size, 0, none⟩ v0).setCell ⟨w.heap.size, 1, none⟩ v1) b K := by
  refine ⟨(ownP_off (ownP_off h.o0 (Li.grown_set wr w.heap.size 0 v0) (by omega)) (Li.grown_set (wr.setCell ⟨w.heap.size, 0, none⟩ v0) w.heap.size 1 v1) (by omega)).mono (by omega), (own_off (own_off h.o1 (Li.grown_set wr w.heap.size 0 v0) (by omega)) (Li.grown_set (wr.setCell ⟨w.heap.size, 0, none⟩ v0) w.heap.size 1 v1) (by omega)).mono (by omega), ?_, ?_⟩
  · exact grown_new (grown_new h.gr (Li.grown_set wr w.heap.size 0 v0) (fun k hk => by cases hk; omega)) (Li.grown_set (wr.setCell ⟨w.heap.size, 0, none⟩ v0) w.heap.size 1 v1) (fun k hk => by cases hk; omega)
  · exact cur_new (cur_new h.cu (Li.grown_set wr w.heap.size 0 v0) (fun k hk => by cases hk; omega)) (Li.grown_set (wr.setCell ⟨w.heap.size, 0, none⟩ v0) w.heap.size 1 v1) (fun k hk => by cases hk; omega)
theorem TS.set1 {w wr : World} {b g1 n c : Nat} {K : Int} {v0 : Value} {t : T} (h : TS w wr b K v0 (.slice (some ⟨g1, 0, none⟩) n c) t) (hb : b < w.heap.size) (hn : t.lv.length = n) (hg : w.heap.size + 2 ≤ g1) (x : Int) :
    TS w (wr.setCell ⟨g1, 0, none⟩ (.int .i64 x)) b K v0 (.slice (some ⟨g1, 0, none⟩) n c) ⟨t.sp, t.lv.set 0 x⟩ := by
  have hgr := Li.grown_set wr g1 0 (.int .i64 x)
  refine ⟨h.bx.setOther (by omega), h.br.setOther (by omega), h.o0.kept hgr h.ap.2, h.o1.set hn 0 x, h.ap, grown_new h.gr hgr (fun k hk => by cases hk; omega), cur_new h.cu hgr (fun k hk => by cases hk; omega)⟩
theorem pv_set1 (ps : List (Int × Int)) (h0 : 0 < ps.length) (y : Int) : (pv ps).set 1 (.int .i64 y) = pv (ps.set 0 (ps[0].1, y)) := by
  match ps, h0 with
  | p :: ps, _ => rfl
theorem TS.set0 {w wr : World} {b g0 n c : Nat} {K : Int} {v1 : Value} {t : T} (h : TS w wr b K (.slice (some ⟨g0, 0, none⟩) n c) v1 t) (hb : b < w.heap.size) (hn : t.sp.length = n) (hg : w.heap.size + 2 ≤ g0) (h0 : 0 < t.sp.length) (y : Int) :
    TS w (wr.setCell ⟨g0, 1, none⟩ (.int .i64 y)) b K (.slice (some ⟨g0, 0, none⟩) n c) v1 ⟨t.sp.set 0 (t.sp[0].1, y), t.lv⟩ := by
  have hgr := Li.grown_set wr g0 1 (.int .i64 y)
  refine ⟨h.bx.setOther (by omega), h.br.setOther (by omega), ?_, h.o1.kept hgr h.ap.1, h.ap, grown_new h.gr hgr (fun k hk => by cases hk; omega), cur_new h.cu hgr (fun k hk => by cases hk; omega)⟩
  subst hn
  have := (World.ownsRow.stored h.o0 1 (.int .i64 y)).1
  rw [pv_set1 _ h0] at this
  unfold OwnP
  rwa [List.length_set]
theorem two_cell (w : World) (T : TypeId) (x y : Int) (H : Nat) (hH : w.heap.size = H) : ∀ j u, ([Value.int .i64 x, .int .i64 y] : List Value)[j]? = some u → (w.alloc (.cells #[.int .i64 x, .int .i64 y] T)).cell? ((⟨H, 0, none⟩ : Addr).add j) = some u := by
  subst hH
  intro j u hj
  match j, hj with
  | 0, hj => simp at hj; subst hj; simp [Addr.add]
  | 1, hj => simp at hj; subst hj; simp [Addr.add]
  | j + 2, hj => simp at hj
theorem two_one (x y : Int) : ∀ u ∈ ([Value.int .i64 x, .int .i64 y] : List Value), u.oneCell' = true := by
  intro u hu; simp at hu; rcases hu with rfl | rfl <;> rfl
theorem ownP_snoc {w : World} {base n : Nat} {v : Value} {l : List (Int × Int)} {x y : Int} (hn : l.length = n) (h : w.ownsRow base 58 2 v (n + 1) (pv l ++ [.int .i64 x, .int .i64 y])) : OwnP w base v (l ++ [(x, y)]) := by
  subst hn
  unfold OwnP
  rw [← pv_append, List.length_append]
  exact h
theorem ts_start {w : World} {b : Nat} {K : Int} (hc : Cu.Cur w b K) (T : TypeId) : TS w ((w.alloc (.cells #[.slice none 0 0, .slice none 0 0] T)).alloc (.cells #[.slice none 0 0, .slice none 0 0] T)) b K (.slice none 0 0) (.slice none 0 0) ⟨[], []⟩ := by
  refine ⟨?_, (box2_new _ _ _ _).alloc _, World.ownsRow_nil _ _ _ _, World.ownsRow_nil _ _ _ _, apt_of (fun k e => by simp [Value.ownBlock] at e), Cu.grown_alloc (World.grownBy_alloc _ _ _) _, (hc.alloc _).alloc _⟩
  have := box2_new (w.alloc (.cells #[.slice none 0 0, .slice none 0 0] T)) (.slice none 0 0) (.slice none 0 0) T
  rwa [size_alloc] at this
set_option maxRecDepth 100000 in
set_option maxHeartbeats 8000000 in
theorem tree_any (w : World) (b : Nat) (K : Int) (hc : Cu.Cur w b K) (h0K : 0 ≤ K) (hK : K ≤ 1000000000000000) :
    Calls Tryz.prog 45 #[.pointer (some ⟨b, 0, none⟩)] w fun e w' => ∃ v0 v1 t, e = .returned (.agg #[v0, v1]) ∧ (t : T).sp.length + t.lv.length ≤ 100 ∧ OwnP w' w.heap.size v0 t.sp ∧ Li.Own w' w.heap.size v1 t.lv ∧ Apt v0 v1 ∧ w.grownBy w' (some b) ∧ Cu.Cur w' b (K + 200) := by
  obtain ⟨i0, hi, hz0, hz1, hz2⟩ := info_parts info_spl
  obtain ⟨j0, hj, hy0, hy1, hy2⟩ := info_parts Li.info_int
  have hbw := hc.lt
  have ts := ts_start hc 56
  go_enter Tryz.func45, Tryz.ntmps45
  go_wp2_with fail
  obtain ⟨W, hW⟩ : ∃ W, (w.alloc (.cells #[.slice none 0 0, .slice none 0 0] 56)).alloc (.cells #[.slice none 0 0, .slice none 0 0] 56) = W := ⟨_, rfl⟩
  rw [hW] at ts ⊢
  clear hW
  refine (Cu.pick_any _ _ _ ts.cu (by omega) _ (by omega)).mono ?_
  rintro e w1 ⟨s', rfl, s0, s1, hg1, hz1', hc1⟩
  obtain ⟨s, rfl⟩ : ∃ s : Nat, s' = (s : Int) := ⟨s'.toNat, by omega⟩
  have s4 : (s : Int) < 5 := s1 (by omega)
  have ts := ts.cur hbw hg1 hc1
  clear hg1 hz1' hc1 s1 hc
  go_wp2
  go_loopw [4] (fun i wr => ∃ k : Nat, k ≤ s ∧ i = .int .i64 k ∧ ∃ u0, ∃ ps : List (Int × Int), ps.length + k = s ∧ TS w wr b (K + 1 + 2 * (s - k)) u0 (.slice none 0 0) ⟨ps, []⟩) (fun i _ => (intOf i).toNat)
  case atStart => exact ⟨s, Nat.le_refl _, rfl, _, [], by simp, ts.mono (by omega)⟩
  case round =>
    clear ts
    obtain ⟨k, hk, rfl, u0, ps, hpk, ts⟩ := hrel
    have HPK : Hid (ps.length + k = s) := hpk
    have hpl : ps.length ≤ 4 := by omega
    clear hpk
    obtain ⟨hxl, ⟨x0, x1⟩, xf0, xf1⟩ := id ts.bx
    by_cases hlt : 0 < k
    · have hlti : (0 : Int) < (k : Int) := by omega
      have hcu := ts.cu
      go_wp2
      go_region_law (first
        | (refine step_append_lies _ rfl _ _ 54 rfl (w.heap.size + 2) 58 i0 (.agg #[.int .i64 0, .int .i64 0]) 2 16 Tryz.underlying54 hi hz0 hz1 hz2 rfl (by decide) u0 ps.length (pv ps) rfl (by first | exact World.ownsRow.alloc ts4.o0 _ | exact (ts4.alloc _).drew.o0) ⟨w4.heap.size, 0, none⟩ 1 1 [.int .i64 p6, .int .i64 (IntKind.i64.wrap (q * 1000))] rfl rfl (two_cell w4 58 p6 (IntKind.i64.wrap (q * 1000)) _ rfl) (two_one _ _) (by decide) (by unfold maxLen; omega) (by omega) (by have := ts4.bx.1; simp; omega) _ rfl ?_
           intro g cap w5 hown hgrow hpos hglt
           have hsn := ownP_snoc rfl hown
           have HTS : Hid (TS w (w5.setCell ⟨w.heap.size + 1, 0, none⟩ (.slice (some ⟨g, 0, none⟩) (ps.length + 1) cap)) b _ _ _ _) := TS.put0 (by first | exact ts4.alloc _ | exact (ts4.alloc _).drew) hbw hgrow hsn hpos
           obtain ⟨hxl5, ⟨y0, y1⟩, yf0, yf1⟩ := (by first | exact ts4.alloc _ | exact (ts4.alloc _).drew : TS w _ b _ _ _ _).bx.keptAt hgrow.size (hgrow.block _ (by have := ts4.bx.1; simp; omega) (fun e => by have := (ts4.o0.ge _ e.symm).1; omega))
           clear hown hgrow hpos hsn)
        | (go_simp
           go_wp2_with (first
            | (go_at_call_of 20 (Value.int .i64 6)
               refine (Cu.pick_any _ _ _ hcu.drew (by omega) _ (by omega)).mono ?_
               rintro e w3 ⟨p6, rfl, p60, p61, hg3, hz3, hc3⟩
               have ts3 := ts.drew.cur hbw hg3 hc3
               obtain ⟨hxl3, ⟨q0, q1⟩, _, _⟩ := id ts3.bx
               have p62 := p61 (by omega)
               have hcu3 := ts3.cu
               clear hg3 hz3 hc3 p61)
            | (go_at_call_of 20 (Value.int .i64 4)
               refine (Cu.pick_any _ _ _ (by first | exact hcu3 | exact hcu3.drew) (by omega) _ (by omega)).mono ?_
               rintro e w4 ⟨q, rfl, q40, q41, hg4, hz4, hc4⟩
               have q42 := q41 (by omega)
               have ts4 := (by first | exact ts3.cur hbw hg4 hc4 | exact ts3.drew.cur hbw hg4 hc4 : TS w w4 b _ _ _ _)
               obtain ⟨hxl4, ⟨r0, r1⟩, _, _⟩ := id ts4.bx
               clear hg4 hz4 hc4 q41))))
      all_goals
        have HL : Hid ((ps ++ [(p6, IntKind.i64.wrap (q * 1000))]).length + (k - 1) = s) := by have := HPK.out; show _ = _; simp; omega
        clear ts3 ts4 ts
        go_wp2
        go_roundw
        case rel => exact ⟨k - 1, by omega, by go_num, _, _, HL.out, HTS.out.mono (by omega)⟩
        case measure => simp [intOf]; omega
    · obtain rfl : k = 0 := by omega
      have ts := ts.mono (show K + 1 + 2 * ((s : Int) - ((0 : Nat) : Int)) ≤ K + 9 by omega)
      obtain ⟨au, cu, hu, _, _⟩ := ts.o0.isp
      subst hu
      have hpk : 2 ^ ps.length ≤ 16 := Nat.pow_le_pow_right (n := 2) (j := 4) (by decide) hpl
      have h1p : 0 < 2 ^ ps.length := Nat.pow_pos (by decide)
      have hpw := Tw.pow_d ps.length (by omega)
      obtain ⟨p, hp2⟩ : ∃ p, 2 ^ ps.length = p := ⟨_, rfl⟩
      rw [hp2] at hpk h1p hpw
      have hpv : Value.int .i64 (wrap64 (2 ^ ps.length)) = .int .i64 (p : Int) := by rw [hpw]
      clear hlt hpw hp2 HPK
      have HTS : Hid (type_of% ts) := ts
      clear ts
      go_wp2
      clear x0 x1 xf0 xf1
      go_loopw [5] (fun i wr => ∃ k : Nat, k ≤ p ∧ i = .int .i64 k ∧ ∃ u1, ∃ lv : List Int, lv.length + k = p ∧ TS w wr b (K + 9 + 4 * (p - k)) (.slice au ps.length cu) u1 ⟨ps, lv⟩) (fun i _ => (intOf i).toNat)
      case atStart => exact ⟨p, Nat.le_refl _, rfl, _, [], by simp, HTS.out.mono (by omega)⟩
      case round =>
        clear HTS
        obtain ⟨k, hk, rfl, u1, lv, hlk, ts⟩ := hrel
        have HLK : Hid (lv.length + k = p) := hlk
        have hll : lv.length ≤ 16 := by omega
        clear hlk
        obtain ⟨hxl, ⟨x0, x1⟩, xf0, xf1⟩ := id ts.bx
        by_cases hlt : 0 < k
        · have hlti : (0 : Int) < (k : Int) := by omega
          have hcu := ts.cu
          go_wp2
          go_region_law (first
            | (refine step_append_lies _ rfl _ _ 45 rfl (w.heap.size + 2) 3 j0 (.int .i64 0) 1 8 Tryz.underlying45 hj hy0 hy1 hy2 rfl (by decide) u1 lv.length (iv lv) rfl (by first | exact World.ownsRow.alloc ts5.o1 _ | exact World.ownsRow.alloc (World.ownsRow.alloc ts5.o1 _) _ | exact (ts5.alloc _).drew.o1) _ 1 1 [.int .i64 z] rfl rfl (one_at (by first | rfl | simp)) (one_one _) (by decide) (by unfold maxLen; omega) (by omega) (by have := ts5.bx.1; simp; omega) _ rfl ?_
               intro g cap w6 hown hgrow hpos hglt
               have hsn := own_snoc rfl hown
               have HTS : Hid (TS w (w6.setCell ⟨w.heap.size + 1, 1, none⟩ (.slice (some ⟨g, 0, none⟩) (lv.length + 1) cap)) b _ _ _ _) := TS.put1 (by first | exact ts5.alloc _ | exact (ts5.alloc _).alloc _ | exact (ts5.alloc _).drew) hbw hgrow hsn hpos
               obtain ⟨hxl6, ⟨y0, y1⟩, yf0, yf1⟩ := (by first | exact ts5.alloc _ | exact (ts5.alloc _).alloc _ | exact (ts5.alloc _).drew : TS w _ b _ _ _ _).bx.keptAt hgrow.size (hgrow.block _ (by have := ts5.bx.1; simp; omega) (fun e => by have := (ts5.o1.ge _ e.symm).1; omega))
               clear hown hgrow hpos hsn)
            | (go_simp
               go_wp2_with (first
                | (go_at_call_of 20 (Value.int .i64 20)
                   refine (Cu.pick_any _ _ _ hcu.drew (by omega) _ (by omega)).mono ?_
                   rintro e w3 ⟨x, rfl, xx0, xx1, hg3, hz3, hc3⟩
                   have ts3 := ts.drew.cur hbw hg3 hc3
                   obtain ⟨hxl3, ⟨q0, q1⟩, _, _⟩ := id ts3.bx
                   have xx2 := xx1 (by omega)
                   have hcu3 := ts3.cu
                   clear hg3 hz3 hc3 xx1)
                | (go_at_call 76
                   refine (Cu.fix_any _ _ _ (by first | exact hcu3 | exact hcu3.drew) (by omega)).mono ?_
                   rintro e w4 ⟨fx, rfl, fb0, fb1, hg4, hc4⟩
                   have ts4 := (by first | exact ts3.cur hbw hg4 hc4 | exact ts3.drew.cur hbw hg4 hc4 : TS w w4 b _ _ _ _)
                   obtain ⟨hxl4, ⟨r0, r1⟩, _, _⟩ := id ts4.bx
                   have hxm4 : w.heap.size < w4.heap.size := (by omega)
                   have hcu4 := ts4.cu
                   have hb4 : b < w4.heap.size := hcu4.lt
                   clear hg4 hc4)
                | (go_at_call_of 20 (Value.int .i64 2)
                   refine (Cu.pick_any _ _ _ (by first | exact hcu4 | exact hcu4.drew | exact hcu4.alloc _ | exact (hcu4.alloc _).drew) (by omega) _ (by omega)).mono ?_
                   rintro e w5 ⟨y, rfl, yb0, yb1, hg5, hq5, hc5⟩
                   have yb2 := yb1 (by omega)
                   obtain ⟨z, hv, v0, v1⟩ := tabI [.int .i64 (IntKind.i64.wrap (x * 100)), .int .i64 fx] (-9223372036854775808) 9223372036854775807 (by simp [Cu.okv]; have := wrapB (x * 100); omega) y yb0 (by simp; omega)
                   have ts5 := (by first | exact ts4.cur hbw hg5 hc5 | exact ts4.drew.cur hbw hg5 hc5 | exact (ts4.alloc _).cur hbw hg5 hc5 | exact (ts4.alloc _).drew.cur hbw hg5 hc5 : TS w w5 b _ _ _ _)
                   have hb5 : b < w5.heap.size := hc5.lt
                   have hk5 := kept hg5
                   have hz5' := Nat.le_of_eq hq5.symm
                   have hz5'' := Nat.le_of_eq hq5
                   (try simp at hz5')
                   (try simp at hz5'')
                   (try simp at hk5)
                   obtain ⟨hxl5, ⟨t0, t1⟩, _, _⟩ := id ts5.bx
                   have hxm5 : w.heap.size < w5.heap.size := (by omega)
                   clear hq5 yb1 hg5 hc5))))
          all_goals
            have HL : Hid ((lv ++ [z]).length + (k - 1) = p) := by have := HLK.out; show _ = _; simp; omega
            clear ts3 ts4 ts5 ts hk5 hv
            go_wp2
            go_roundw
            case rel => exact ⟨k - 1, by omega, by go_num, _, _, HL.out, HTS.out.mono (by omega)⟩
            case measure => simp [intOf]; omega
        · obtain rfl : k = 0 := by omega
          have ts := ts.mono (show K + 9 + 4 * ((p : Int) - ((0 : Nat) : Int)) ≤ K + 73 by omega)
          have hl1 : 0 < lv.length := by have := HLK.out; omega
          clear hlt HLK
          go_wp2_with fail
          refine (Cu.once_any _ _ _ ts.cu (by omega) _ (by omega) (by omega)).mono ?_
          rintro e w2 ⟨t1, rfl, hg2, hz2', hc2⟩
          have ts := ts.cur hbw hg2 hc2
          clear hg2 hz2' hc2 x0 x1 xf0 xf1
          obtain ⟨hxl2, ⟨x0, x1⟩, xf0, xf1⟩ := id ts.bx
          obtain ⟨hrl2, ⟨y0, y1⟩, yf0, yf1⟩ := id ts.br
          cases t1
          · have hd := ts.done hbw
            obtain ⟨a1, c1, hu1, _⟩ := ts.o1.isl
            subst hu1
            go_wp2
            refine bodyPost_ret (v := .agg #[.slice au ps.length cu, .slice a1 lv.length c1]) (by rw [results_cell rfl]; go_simp) rfl ⟨_, _, ⟨ps, lv⟩, rfl, by show ps.length + lv.length ≤ 100; omega, hd.1, hd.2.1, ts.ap, hd.2.2.1, hd.2.2.2.mono (by omega)⟩
          · clear y0 y1 yf0 yf1 hrl2
            go_wp2_with fail
            refine (Cu.pick_any _ _ _ ts.cu (by omega) _ (by omega)).mono ?_
            rintro e w3 ⟨m, rfl, m0, m1, hg3, hz3, hc3⟩
            have m4 : m < 4 := m1 (by omega)
            have ts := ts.cur hbw hg3 hc3
            clear hg3 hz3 hc3 x0 x1 xf0 xf1 m1
            obtain ⟨hxl3, ⟨x0, x1⟩, xf0, xf1⟩ := id ts.bx
            obtain ⟨hrl3, ⟨y0, y1⟩, yf0, yf1⟩ := id ts.br
            have hm : m = 0 ∨ m = 1 ∨ m = 2 ∨ m = 3 := by omega
            obtain ⟨g1, c1, hu1, hg1b, hg1c⟩ : ∃ g1 c1, u1 = .slice (some ⟨g1, 0, none⟩) lv.length c1 ∧ w.heap.size + 2 ≤ g1 ∧ g1 < w3.heap.size := by
              have hge := ts.o1.ge
              rcases ts.o1.2 with ⟨_, h0⟩ | ⟨g1, c1, cur, e, hb, _⟩
              · have h0' : lv.length = 0 := h0; omega
              · subst e; exact ⟨g1, c1, rfl, hb, (hge g1 rfl).2⟩
            subst hu1
            rcases hm with rfl | rfl | rfl | rfl
            · -- one leaf more
              have ts2 := ts.alloc (.cells #[.int .i64 1] 3)
              go_wp2_with (at_builtin; refine wpList_append_lies _ rfl _ _ 45 rfl (w.heap.size + 2) 3 j0 (.int .i64 0) 1 8 Tryz.underlying45 hj hy0 hy1 hy2 rfl (by decide) (.slice (some ⟨g1, 0, none⟩) lv.length c1) lv.length (iv lv) rfl ts2.o1 ⟨w3.heap.size, 0, none⟩ 1 1 [.int .i64 1] rfl rfl (one_cell _ _ _) (one_one _) (by decide) (by unfold maxLen; omega) (by omega) (by have := ts2.bx.1; omega) _ rfl ?_; intro g cap w6 hown hgrow hpos hglt; have hsn : Li.Own w6 (w.heap.size + 2) (.slice (some ⟨g, 0, none⟩) (lv.length + 1) cap) (lv ++ [1]) := own_snoc rfl hown; have tsz := TS.put1 ts2 hbw hgrow hsn hpos; obtain ⟨hxl6, ⟨z0, z1⟩, zf0, zf1⟩ := ts2.bx.keptAt hgrow.size (hgrow.block _ ts2.bx.1 (fun e => by have := (ts2.o1.ge _ e.symm).1; omega)); obtain ⟨hxl7, ⟨a0, a1⟩, af0, af1⟩ := id tsz.bx; obtain ⟨hrl7, ⟨b0, b1⟩, bf0, bf1⟩ := id tsz.br; have hd := tsz.done hbw; clear hown hgrow hpos hsn)
              refine bodyPost_ret (v := .agg #[.slice au ps.length cu, .slice (some ⟨g, 0, none⟩) (lv.length + 1) cap]) (by rw [results_cell rfl]; go_simp) rfl ?_
              first
                | exact ⟨_, _, ⟨ps, lv ++ [1]⟩, rfl, by show ps.length + (lv ++ [1]).length ≤ 100; simp; omega, hd.1, hd.2.1, tsz.ap, hd.2.2.1, hd.2.2.2.mono (by omega)⟩
                | exact ⟨_, _, rfl, ⟨ps, lv ++ [1]⟩, by show ps.length + (lv ++ [1]).length ≤ 100; simp; omega, hd.1, hd.2.1, tsz.ap, hd.2.2.1, hd.2.2.2.mono (by omega)⟩
            · -- one question more
              have hcu := ts.cu
              go_wp2
              go_region_law (first
                | (refine step_append_lies _ rfl _ _ 54 rfl (w.heap.size + 2) 58 i0 (.agg #[.int .i64 0, .int .i64 0]) 2 16 Tryz.underlying54 hi hz0 hz1 hz2 rfl (by decide) (.slice au ps.length cu) ps.length (pv ps) rfl (by first | exact World.ownsRow.alloc ts4.o0 _ | exact (ts4.alloc _).drew.o0) ⟨w4.heap.size, 0, none⟩ 1 1 [.int .i64 q, .int .i64 0] rfl rfl (two_cell w4 58 q 0 _ rfl) (two_one _ _) (by decide) (by unfold maxLen; omega) (by omega) (by have := ts4.bx.1; simp; omega) _ rfl ?_
                   intro g cap w5 hown hgrow hpos hglt
                   have hsn := ownP_snoc rfl hown
                   have HTS : Hid (TS w (w5.setCell ⟨w.heap.size + 1, 0, none⟩ (.slice (some ⟨g, 0, none⟩) (ps.length + 1) cap)) b _ _ _ _) := TS.put0 (by first | exact ts4.alloc _ | exact (ts4.alloc _).drew) hbw hgrow hsn hpos
                   obtain ⟨hxl5, ⟨z0, z1⟩, zf0, zf1⟩ := (by first | exact ts4.alloc _ | exact (ts4.alloc _).drew : TS w _ b _ _ _ _).bx.keptAt hgrow.size (hgrow.block _ (by have := ts4.bx.1; simp; omega) (fun e => by have := (ts4.o0.ge _ e.symm).1; omega))
                   clear hown hgrow hpos hsn)
                | (go_simp
                   go_wp2_with (go_at_call 44
                                refine (Cu.raw_any _ _ _ hcu.drew (by omega)).mono ?_
                                rintro e w4 ⟨q, rfl, q40, q41, hg4, hc4⟩
                                have ts4 := ts.drew.cur hbw hg4 hc4
                                obtain ⟨hxl4, ⟨r0, r1⟩, _, _⟩ := id ts4.bx
                                have hxm4 : w.heap.size < w4.heap.size := (by omega)
                                clear hg4 hc4)))
              all_goals
                have tsz := HTS.out
                have hd := tsz.done hbw
                obtain ⟨hxl7, ⟨a0, a1⟩, af0, af1⟩ := id tsz.bx
                obtain ⟨hrl7, ⟨b0, b1⟩, bf0, bf1⟩ := id tsz.br
                clear ts4 ts
                go_wp2
                refine bodyPost_ret (v := .agg #[.slice (some ⟨g, 0, none⟩) (ps.length + 1) cap, .slice (some ⟨g1, 0, none⟩) lv.length c1]) (by rw [results_cell rfl]; go_simp) rfl ?_
                first
                  | exact ⟨_, _, ⟨ps ++ [(q, 0)], lv⟩, rfl, by show (ps ++ [(q, 0)]).length + lv.length ≤ 100; simp; omega, hd.1, hd.2.1, tsz.ap, hd.2.2.1, hd.2.2.2.mono (by omega)⟩
                  | exact ⟨_, _, rfl, ⟨ps ++ [(q, 0)], lv⟩, by show (ps ++ [(q, 0)]).length + lv.length ≤ 100; simp; omega, hd.1, hd.2.1, tsz.ap, hd.2.2.1, hd.2.2.2.mono (by omega)⟩
            · -- the first leaf is another
              have hcu := ts.cu
              have hl0 := ts.o1.cell rfl 0 hl1
              have hf0 := ts.o1.frozen rfl 0
              go_wp2
              go_region_with (go_at_call 44; refine (Cu.raw_any _ _ _ hcu.drew (by omega)).mono ?_; rintro e w4 ⟨q, rfl, q40, q41, hg4, hc4⟩; have ts4 := ts.drew.cur hbw hg4 hc4; obtain ⟨hxl4, ⟨r0, r1⟩, _, _⟩ := id ts4.bx; have hl4 := ts4.o1.cell rfl 0 hl1; have hf4 := ts4.o1.frozen rfl 0; have hgl4 := (ts4.o1.ge g1 rfl).2; clear hg4 hc4)
              all_goals
                have HTS : Hid (TS w (w4.setCell ⟨g1, 0, none⟩ (.int .i64 q)) b _ _ _ _) := ts4.set1 hbw rfl hg1b q
                have tsz := HTS.out
                have hd := tsz.done hbw
                obtain ⟨hxl7, ⟨a0, a1⟩, af0, af1⟩ := id tsz.bx
                obtain ⟨hrl7, ⟨b0, b1⟩, bf0, bf1⟩ := id tsz.br
                clear ts4 ts
                go_wp2
                refine bodyPost_ret (v := .agg #[.slice au ps.length cu, .slice (some ⟨g1, 0, none⟩) lv.length c1]) (by rw [results_cell rfl]; go_simp) rfl ?_
                first
                  | exact ⟨_, _, ⟨ps, lv.set 0 q⟩, rfl, by show ps.length + (lv.set 0 q).length ≤ 100; simp; omega, hd.1, hd.2.1, tsz.ap, hd.2.2.1, hd.2.2.2.mono (by omega)⟩
                  | exact ⟨_, _, rfl, ⟨ps, lv.set 0 q⟩, by show ps.length + (lv.set 0 q).length ≤ 100; simp; omega, hd.1, hd.2.1, tsz.ap, hd.2.2.1, hd.2.2.2.mono (by omega)⟩
            · -- the first border is another, if there is one
              by_cases hp0 : 0 < ps.length
              · have hpi : (0 : Int) < (ps.length : Int) := by omega
                obtain ⟨g0, hau, hg0b⟩ : ∃ g0, au = some ⟨g0, 0, none⟩ ∧ w.heap.size + 2 ≤ g0 := by
                  rcases ts.o0.2 with ⟨_, h0⟩ | ⟨g0, c0, cur, e, hb, _⟩
                  · have h0' : ps.length = 0 := h0; omega
                  · cases e; exact ⟨g0, rfl, hb⟩
                subst hau
                have hcu := ts.cu
                go_wp2
                go_region_with (go_at_call 44; refine (Cu.raw_any _ _ _ hcu.drew (by omega)).mono ?_; rintro e w4 ⟨q, rfl, q40, q41, hg4, hc4⟩; have ts4 := ts.drew.cur hbw hg4 hc4; obtain ⟨hxl4, ⟨r0, r1⟩, _, _⟩ := id ts4.bx; obtain ⟨_, hl4⟩ := ts4.o0.cell rfl 0 hp0; have hf4 := ts4.o0.frozen rfl 1; have hgl4 := (ts4.o0.ge g0 rfl).2; (try simp at hl4); clear hg4 hc4)
                all_goals
                  have HTS : Hid (TS w (w4.setCell ⟨g0, 1, none⟩ (.int .i64 q)) b _ _ _ _) := ts4.set0 hbw rfl hg0b hp0 q
                  have tsz := HTS.out
                  have hd := tsz.done hbw
                  obtain ⟨hxl7, ⟨a0, a1⟩, af0, af1⟩ := id tsz.bx
                  obtain ⟨hrl7, ⟨b0, b1⟩, bf0, bf1⟩ := id tsz.br
                  clear ts4 ts
                  go_wp2
                  refine bodyPost_ret (v := .agg #[.slice (some ⟨g0, 0, none⟩) ps.length cu, .slice (some ⟨g1, 0, none⟩) lv.length c1]) (by rw [results_cell rfl]; go_simp) rfl ?_
                  first
                    | exact ⟨_, _, ⟨ps.set 0 (ps[0].1, q), lv⟩, rfl, by show (ps.set 0 (ps[0].1, q)).length + lv.length ≤ 100; simp; omega, hd.1, hd.2.1, tsz.ap, hd.2.2.1, hd.2.2.2.mono (by omega)⟩
                    | exact ⟨_, _, rfl, ⟨ps.set 0 (ps[0].1, q), lv⟩, by show (ps.set 0 (ps[0].1, q)).length + lv.length ≤ 100; simp; omega, hd.1, hd.2.1, tsz.ap, hd.2.2.1, hd.2.2.2.mono (by omega)⟩
              · have hpi : decide ((0 : Int) < (ps.length : Int)) = false := by rw [decide_eq_false_iff_not]; omega
                have tsz := ts
                have hd := tsz.done hbw
                go_wp2
                refine bodyPost_ret (v := .agg #[.slice au ps.length cu, .slice (some ⟨g1, 0, none⟩) lv.length c1]) (by rw [results_cell rfl]; go_simp) rfl ?_
                first
                  | exact ⟨_, _, ⟨ps, lv⟩, rfl, by show ps.length + lv.length ≤ 100; omega, hd.1, hd.2.1, tsz.ap, hd.2.2.1, hd.2.2.2.mono (by omega)⟩
                  | exact ⟨_, _, rfl, ⟨ps, lv⟩, by show ps.length + lv.length ≤ 100; omega, hd.1, hd.2.1, tsz.ap, hd.2.2.1, hd.2.2.2.mono (by omega)⟩
end Go.Proofs.YtaojoamldoofpaaGreatDoor.Df
