/-
  Contracts that the proof leans on, put together in the order in which they build.
-/
import Derived.Test.YtcadgeepknhmfaaGreatPart19
import Derived.Test.YtcadgeepknhmfaaGreatPart20
import Derived.Test.YtcadgeepknhmfaaGreatPart21
import Derived.Test.YtcadgeepknhmfaaGreatPart22
import Derived.Deep.Cut
import Derived.Deep.CutRange
/-
  What the model draws for a model: one that was trained, perhaps spoilt.
-/
namespace Go.Proofs.YtcadgeepknhmfaaGreat.Dm
set_option maxRecDepth 100000
open Go.RowKit
open Go.Proofs.YtcadgeepknhmfaaGreat.Tb Go.Proofs.YtcadgeepknhmfaaGreat.Tk
open Go.Proofs.YtcadgeepknhmfaaGreat.Md (M OwM wr6 wr3)
open Go.Proofs.YtcadgeepknhmfaaGreat.Kt (OwK Kv)
open Go.Proofs.YtcadgeepknhmfaaGreat.To (OwT)
open Go.Proofs.YtcadgeepknhmfaaGreat.Tt (mtrain strain mtrain_sz set6)
open Go.Proofs.YtcadgeepknhmfaaGreat.Sv (Wr Fr fr_grown fr_below new1 new2 new3 wr_new wr2)
set_option linter.unusedVariables false
theorem own_lit {w : World} {T : TypeId} {u0 u1 : Value} : (w.alloc (.cells #[u0, u1] T)).ownsRow w.heap.size T 1 (.slice (some ⟨w.heap.size, 0, none⟩) 2 2) 2 [u0, u1] :=
  ⟨by simp, .inr ⟨w.heap.size, 2, #[u0, u1], rfl, Nat.le_refl _, heap_alloc_new w _, Nat.le_refl _, by unfold maxLen; omega, by simp, by simp⟩⟩
set_option maxHeartbeats 20000000 in
theorem model_any (w : World) (b : Nat) (KC : Int) (hc : Cu.Cur w b KC) (h0K : 0 ≤ KC) (hK : KC ≤ 1000000000000) :
    Calls Tryz.prog 28 #[.pointer (some ⟨b, 0, none⟩)] w fun e w' => ∃ (m : M) (vk vt : Value), e = .returned (.agg #[.int .i64 m.n, .int .i64 m.c, .int .i64 m.prior, .int .i64 m.base, vk, vt]) ∧ m.sz ≤ 4500 ∧ OwM w' (fun q => w.heap.size ≤ q ∧ q < w'.heap.size) vk vt m ∧ Fr (fun q => q = b) w w' ∧ Cu.Cur w' b (KC + 1000) := by
  have hbw := hc.lt
  have HC : Hid (Cu.Cur w b KC) := hc
  clear hc
  go_enter Tryz.func28, Tryz.ntmps28
  go_wp2_with fail
  obtain ⟨W, hW, hsz, hB, b2⟩ := new1 w z6 29
  have hW2 : w.alloc (.cells #[.int .i64 0, .int .i64 0, .int .i64 0, .int .i64 0, .slice none 0 0, .slice none 0 0] 29) = W := hW
  rw [hW2]
  have hcW : Cu.Cur W b KC := by rw [← hW]; exact HC.out.alloc _
  clear hW hW2
  obtain ⟨X2, hX2⟩ : ∃ x, w.heap.size = x := ⟨_, rfl⟩
  have HX2 : Hid (w.heap.size = X2) := hX2
  rw [hX2] at b2 ⊢
  refine (Db.table_any W b KC hcW (by omega)).mono ?_
  rintro e w1 ⟨n, c, v, rs, rfl, hrs, ot, hg1, hc1⟩
  obtain ⟨a, cap, rfl, -⟩ := ot.isr
  have HRS : Hid (rs.length + szR rs ≤ 1048576) := by show _ ≤ _; have := szR_all (fun r hr => (hrs.2.2.2.2.2 r hr).1); have := hrs.2.2.2.2.1; omega
  have hb0 : b < X2 := by omega
  have hF1 : Fr (fun q => q = b) W w1 := fr_grown hg1 rfl
  have hs1 := hF1.size
  clear hrs hg1 hcW
  go_wp2_with fail
  obtain ⟨W1, hW1, hsz1, hB1, b3⟩ := new1 w1 [.int .i64 n, .int .i64 c, .slice a rs.length cap] 86
  rw [hW1]
  have hcW1 : Cu.Cur W1 b (KC + 300) := by rw [← hW1]; exact hc1.alloc _
  refine (Dc.conf_any W1 b (KC + 300) hcW1 (by omega)).mono ?_
  rintro e w2 ⟨k, rfl, hg2, hc2⟩
  have hF2 : Fr (fun q => q = b) W1 w2 := fr_grown hg2 rfl
  have hs2 := hF2.size
  clear hW1 hg2 hcW1
  obtain ⟨W2, hW2, hsz2, hB2, b4⟩ := new1 w2 k.cells 89
  have hW2b : w2.alloc (.cells #[.int .i64 k.trees, .int .i64 k.depth, .int .i64 k.most, .int .i64 k.rate, .int .i64 k.l2, .int .i64 k.prior, .int .i64 k.seed] 89) = W2 := hW2
  have hF : Fr (fun q => q = b) W W2 := ((hF1.trans (fr_below hB1)).trans hF2).trans (fr_below hB2)
  have hF0 : Fr (fun q => q = b) w W2 := (fr_below hB).trans hF
  have ot2 : OwnT W2 W.heap.size w1.heap.size (.slice a rs.length cap) rs := ot.keptAt (fun q h1 h2 h3 => (((fr_below hB1).trans hF2).trans (fr_below (B := fun q => q = b) hB2)).block q h3 (by omega))
  have hcW2 : Cu.Cur W2 b (KC + 400) := (by rw [← hW2]; exact hc2.alloc _ : Cu.Cur W2 b (KC + 300 + 100)).mono (by omega)
  have B2 : Wr W2 X2 0 z6 := wrB b2 hF (by omega)
  have B3 : Wr W2 w1.heap.size 0 [.int .i64 n, .int .i64 c, .slice a rs.length cap] := wrB b3 (hF2.trans (fr_below hB2)) (by omega)
  have HIS : Hid (∀ X, Below W2.heap.size W2 X → IsR X a rs) := fun X hX => by
    obtain ⟨_, _, e, i⟩ := (ot2.below hX).isr
    injection e with e
    subst e
    exact i
  have HB2 : Hid (type_of% B2) := B2
  have HB3 : Hid (type_of% B3) := B3
  have HB4 : Hid (type_of% b4) := b4
  have HF0 : Hid (type_of% hF0) := hF0
  have HCW : Hid (type_of% hcW2) := hcW2
  obtain ⟨D3, hD3⟩ : ∃ x, w1.heap.size = x := ⟨_, rfl⟩
  obtain ⟨D4, hD4⟩ : ∃ x, w2.heap.size = x := ⟨_, rfl⟩
  have h23 : X2 < D3 := by omega
  have h34 : D3 < D4 := by omega
  have h4W : D4 < W2.heap.size := by omega
  rw [hD3] at HB3 ⊢
  rw [hD4] at HB4
  obtain ⟨hl3, ⟨t0, t1, t2⟩, -⟩ := wr3 B3
  have hl3b := hl3
  rw [hD3] at t0 t1 t2 hl3
  obtain ⟨hl4, q0, q1, q2, q3, q4, q5, q6⟩ := Tn.wr7 b4
  rw [hD4] at q0 q1 q2 q3 q4 q5 q6 hl4
  go_wp2_with fail
  clear hB b2 ot hc1 hF1 hs1 hsz1 hB1 b3 hc2 hF2 hs2 hsz2 hB2 hF hF0 ot2 hcW2 b4 B2 B3 hW2 hW2b hD3 hD4 hsz hX2 hl3b
  refine (strain W2 n c a cap rs k (HIS.out _ (Below.refl _ _)) HRS.out).mono ?_
  rintro e w3 ⟨vk, vt, rfl, om, hb3⟩
  have hmz := mtrain_sz n c rs k
  generalize mtrain n c rs k = m at om hmz ⊢
  generalize (tok n c rs && Cf.cok k) = ok
  obtain ⟨ak, ck, ax, ct, rfl, rfl, -⟩ := om.rm
  have HOM : Hid (type_of% om) := om
  have HMZ : Hid (m.sz ≤ 4000) := hmz
  have HB3b : Hid (Below W2.heap.size W2 w3) := hb3
  have hs3 := hb3.size
  clear om hmz hb3
  go_upto_if 18 with fail
  obtain ⟨W3, hW3, hsz3, hB5, b5⟩ := new1 w3 (mc m (.slice ak m.ks.length ck) (.slice ax m.ts.length ct)) 29
  have hW3b : w3.alloc (.cells #[.int .i64 m.n, .int .i64 m.c, .int .i64 m.prior, .int .i64 m.base, .slice ak m.ks.length ck, .slice ax m.ts.length ct] 29) = W3 := hW3
  rw [hW3b]
  obtain ⟨X5, hX5⟩ : ∃ x, w3.heap.size = x := ⟨_, rfl⟩
  rw [hX5] at b5 ⊢
  have hBB : Below W2.heap.size W2 W3 := HB3b.out.trans (hB5.mono HB3b.out.size)
  have HMS : Hid (Ms w W3 b X2 X5 (KC + 400) 4000 m (.slice ak m.ks.length ck) (.slice ax m.ts.length ct)) := ⟨curF (B := fun _ => False) HCW.out (fr_below hBB) (fun _ e => e.elim), HF0.out.trans (fr_below hBB), by omega, HX2.out, by omega, HB2.out.below hBB, b5, (HOM.out.below hB5).mono (fun q hq => ⟨by omega, by omega⟩), HMZ.out⟩
  have HBT : Hid (Wr W3 D3 0 [.int .i64 n, .int .i64 c, .slice a rs.length cap]) := HB3.out.below hBB
  have HIS3 : Hid (∀ X, Below W3.heap.size W3 X → IsR X a rs) := fun X hX => HIS.out X (hBB.trans (hX.mono hBB.size))
  have hX5W : X5 < W3.heap.size := by omega
  have h25 : X2 < X5 := by omega
  clear hW3 hW3b hsz3 hB5 b5 hX5 hBB hs3 HOM HMZ HB3b HIS HB2 HB3 HB4 HF0 HCW t0 t1 t2 hl3 q0 q1 q2 q3 q4 q5 q6 hl4 h34 h4W
  go_cut [] from 17 (fun wx => ∃ (m : M) (vk vt : Value), Ms w wx b X2 X5 (KC + 400) 4000 m vk vt)
  case first =>
    cases ok with
    | true =>
      go_wp2_with fail
      go_meet
      case rel => exact ⟨_, _, _, HMS.out⟩
    | false =>
      obtain ⟨hl3, ⟨t0, t1, t2⟩, -⟩ := wr3 HBT.out
      obtain ⟨hl5, ⟨x0, x1, x2, x3, x4, x5⟩, f0, f1, f2, f3, f4, f5⟩ := wr6 HMS.out.b5
      go_wp2_with fail
      refine (strain W3 n c a cap rs ⟨2, 2, 3, 500, 1, 0, 5⟩ (HIS3.out _ (Below.refl _ _)) HRS.out).mono ?_
      rintro e w5 ⟨vk5, vt5, rfl, om5, hb5⟩
      have hmz5 := mtrain_sz n c rs ⟨2, 2, 3, 500, 1, 0, 5⟩
      generalize mtrain n c rs ⟨2, 2, 3, 500, 1, 0, 5⟩ = m5 at om5 hmz5 ⊢
      obtain ⟨ak5, ck5, ax5, ct5, rfl, rfl, -⟩ := om5.rm
      have HP : Hid (type_of% (HMS.out.put6 hb5 om5 hmz5)) := HMS.out.put6 hb5 om5 hmz5
      clear hl5 x0 x1 x2 x3 x4 x5 f0 f1 f2 f3 f4 f5 hl3 t0 t1 t2
      obtain ⟨hl5, ⟨x0, x1, x2, x3, x4, x5⟩, f0, f1, f2, f3, f4, f5⟩ := wr6 (HMS.out.b5.below hb5)
      clear om5 hmz5 hb5
      go_wp2_with fail
      go_meet
      case rel => exact ⟨_, _, _, HP.out⟩
  case rest =>
    clear HMS HBT HIS3 HRS
    obtain ⟨m, vk, vt, ms⟩ := hcut
    obtain ⟨ak, ck, ax, ct, rfl, rfl, -⟩ := ms.om.rm
    have HMS : Hid (type_of% ms) := ms
    clear ms
    go_wp2_with fail
    refine (Cu.once_any wc b (KC + 400) HMS.out.cu (by omega) 10 (by omega) (by omega)).mono ?_
    rintro e w6 ⟨oc, rfl, hg6, hs6, hc6⟩
    have HM6 : Hid (Ms w w6 b X2 X5 (KC + 401) 4000 m (.slice ak m.ks.length ck) (.slice ax m.ts.length ct)) := HMS.out.step hg6 (hc6.mono (by omega))
    clear hg6 hs6 hc6 HMS
    go_upto_if 26 with fail
    go_cut [] from 26 (fun wx => ∃ (m : M) (vk vt : Value), Ms w wx b X2 X5 (KC + 1000) 4500 m vk vt)
    case first =>
      cases oc with
      | false =>
        go_wp2_with fail
        go_meet
        case rel => exact ⟨_, _, _, HM6.out.lower (by omega) (by omega)⟩
      | true =>
        go_wp2_with fail
        refine (Cu.pick_any w6 b (KC + 401) HM6.out.cu (by omega) 5 (by omega)).mono ?_
        rintro e w7 ⟨y, rfl, y0, y1, hg7, hs7, hc7⟩
        have HM7 : Hid (Ms w w7 b X2 X5 (KC + 402) 4000 m (.slice ak m.ks.length ck) (.slice ax m.ts.length ct)) := HM6.out.step hg7 (hc7.mono (by omega))
        clear hg7 hs7 hc7 HM6
        have hy : y = 0 ∨ y = 1 ∨ y = 2 ∨ y = 3 ∨ y = 4 := by have := y1 (by omega); omega
        clear y0 y1
        rcases hy with rfl | rfl | rfl | rfl | rfl
        · go_wp2_with fail
          refine (Cu.raw_any w7 b (KC + 402) HM7.out.cu (by omega)).mono ?_
          rintro e w8 ⟨z, rfl, _, _, hg8, hc8⟩
          have HM8 : Hid (Ms w w8 b X2 X5 (KC + 404) 4000 m (.slice ak m.ks.length ck) (.slice ax m.ts.length ct)) := HM7.out.step hg8 (hc8.mono (by omega))
          clear hg8 hc8
          obtain ⟨hl5, ⟨x0, x1, x2, x3, x4, x5⟩, f0, f1, f2, f3, f4, f5⟩ := wr6 HM8.out.b5
          go_wp2_with fail
          go_meet
          case rel => exact ⟨⟨m.n, m.c, m.prior, z, m.ks, m.ts⟩, _, _, (HM8.out.num (m' := ⟨m.n, m.c, m.prior, z, m.ks, m.ts⟩) (o := 3) (by omega) (by simp [mc]) rfl rfl).lower (by omega) (by omega)⟩
        · go_wp2_with fail
          obtain ⟨B, hBn, hB0, hB1⟩ := HM7.out.forT
          have HBN : Hid (type_of% hBn) := hBn
          have HB0 : Hid (type_of% hB0) := hB0
          have HB1 : Hid (type_of% hB1) := hB1
          clear hBn hB0 hB1
          have HTL : Hid (m.ts.length ≤ 1048576) := by show _ ≤ _; have := HM7.out.sz; unfold M.sz at this; omega
          have st : Below w7.heap.size w7 w7.drew := Tm.below_drew w7
          have MD : Ms w w7.drew b X2 X5 (KC + 402) 4000 m (.slice ak m.ks.length ck) (.slice ax m.ts.length ct) := HM7.out.below st
          have HMD : Hid (type_of% MD) := MD
          have hS := (wr6 MD.b5).2.1.2.2.2.2.2
          clear MD
          refine Hd.start (fun X => X.cell? ⟨X5, 5, none⟩ = some (.slice ax m.ts.length ct)) 7 (by kernel_rfl) ?_
          generalize w7.drew = w0 at st HMD hS ⊢
          refine Hd.After.pureD (i := 0) (some 53) (.pointer (some ⟨X5, 5, none⟩)) rfl rfl (by kernel_rfl) (by decide) (by kernel_rfl) (by kernel_rfl) (fun _ _ _ h => h) (hS) (Or.inl ⟨by rfl, ?_⟩) ?_
          · intro X; go_simp; try with_reducible rfl
          (first | simp only [Act.put, List.setIfInBounds_toArray, List.set_cons_zero, List.set_cons_succ] | skip)
          refine Hd.After.takeD (i := 1) (some 54) (.slice ax m.ts.length ct) rfl rfl (by kernel_rfl) (by kernel_rfl) (by kernel_rfl) (by kernel_rfl) (by kernel_rfl) (fun _ _ _ h => h) (hS) (Or.inl ⟨by rfl, ?_⟩) ?_
          · rintro X s5; go_simp; try with_reducible rfl
          (first | simp only [Act.put, List.setIfInBounds_toArray, List.set_cons_zero, List.set_cons_succ] | skip)
          refine Hd.After.pureD (i := 2) (some 55) (.pointer (some ⟨b, 0, none⟩)) rfl rfl (by kernel_rfl) (by decide) (by kernel_rfl) (by kernel_rfl) (fun _ _ _ h => h) (hS) (Or.inl ⟨by rfl, ?_⟩) ?_
          · intro X; go_simp; try with_reducible rfl
          (first | simp only [Act.put, List.setIfInBounds_toArray, List.set_cons_zero, List.set_cons_succ] | skip)
          refine Hd.After.one (i := 3) (by kernel_rfl) rfl rfl ?_
          intro K hK
          go_simp
          go_wp2_with (go_at_call 60; refine (Df.tree_any w0 b (KC + 402) HMD.out.cu (by omega) (by omega)).mono ?_; rintro e w8 ⟨v0, v1, t, rfl, hzt, p0, p1, hap, hg8, hc8⟩)
          have M8 : Ms w w8 b X2 X5 (KC + 602) 4000 m (.slice ak m.ks.length ck) (.slice ax m.ts.length ct) := HMD.out.step hg8 (hc8.mono (by omega))
          have HM8 : Hid (type_of% M8) := M8
          have HF8 : Hid (Fr (fun q => q = b) w7 w8) := (fr_below st).trans (fr_grown hg8 rfl)
          have hs8 : w7.heap.size ≤ w8.heap.size := HF8.out.size
          have hS8 := (wr6 M8.b5).2.1.2.2.2.2.2
          obtain ⟨a0, c0, rfl, -, -⟩ := p0.isp
          obtain ⟨a1, c1, rfl, -⟩ := p1.isl
          have HP0 : Hid (type_of% p0) := p0
          have HP1 : Hid (type_of% p1) := p1
          have HAP : Hid (type_of% hap) := hap
          have HZT : Hid (type_of% hzt) := hzt
          clear M8 hg8 hc8 p0 p1 hap hzt
          refine hK _ _ (fun _ => hS8) ?_
          clear hK K
          (first | simp only [Act.put, List.setIfInBounds_toArray, List.set_cons_zero, List.set_cons_succ] | skip)
          have hA : Below w8.heap.size w8 (w8.alloc (.cells #[.slice a0 t.sp.length c0, .slice a1 t.lv.length c1] 57)) := (Below.refl _ _).alloc (Nat.le_refl _) _
          have hS9 := (wr6 (HM8.out.below hA).b5).2.1.2.2.2.2.2
          refine Hd.After.one (i := 4) (by kernel_rfl) rfl rfl ?_
          intro K hK
          go_simp
          refine hK _ _ (fun _ => hS9) ?_
          clear hK K
          (first | simp only [Act.put, List.setIfInBounds_toArray, List.set_cons_zero, List.set_cons_succ] | skip)
          refine Hd.After.one (i := 5) (by kernel_rfl) rfl rfl ?_
          intro K hK
          refine Ps.wp_pushT _ _ rfl (some 58) rfl B w7.heap.size _ m.ts (HB0.out _ (HF8.out.trans (fr_below hA))) w8.heap.size a0 a1 c0 c1 _ _ t rfl rfl (by simp) (by simp) ((HP0.out.below hA).mono st.size) ((HP1.out.below hA).mono st.size) (fun q e e2 => HAP.out.1.elim (fun h => by rw [h] at e2; cases e2) (fun h => h (e2.trans e.symm))) HBN.out (Nat.le_trans hs8 hA.size) HTL.out ?_
          intro a9 c9 w9 hok9 hg9
          have HMN : Hid (type_of% (HB1.out _ (KC + 1000) w9 (.slice a9 (m.ts.length + 1) c9) t (HF8.out.trans (fr_below hA)) ((HM8.out.below hA).cu.mono (by omega)) hok9 hg9 HZT.out)) := HB1.out _ (KC + 1000) w9 (.slice a9 (m.ts.length + 1) c9) t (HF8.out.trans (fr_below hA)) ((HM8.out.below hA).cu.mono (by omega)) hok9 hg9 HZT.out
          have hw9 := HM8.out.keptT hA hg9
          obtain ⟨hl9, ⟨_, _, _, _, _, z5⟩, _, _, _, _, _, g5⟩ := wr6 hw9
          clear hok9 hg9 hw9
          refine hK _ _ (fun _ => z5) ?_
          clear hK K
          (first | simp only [Act.put, List.setIfInBounds_toArray, List.set_cons_zero, List.set_cons_succ] | skip)
          refine Hd.After.pureD (i := 6) (some 59) (.pointer (some ⟨X5, 5, none⟩)) rfl rfl (by kernel_rfl) (by decide) (by kernel_rfl) (by kernel_rfl) (fun _ _ _ h => h) (z5) (Or.inl ⟨by rfl, ?_⟩) ?_
          · intro X; go_simp; try with_reducible rfl
          (first | simp only [Act.put, List.setIfInBounds_toArray, List.set_cons_zero, List.set_cons_succ] | skip)
          refine Hd.After.one (i := 7) (by kernel_rfl) rfl rfl ?_
          intro K hK
          go_simp
          refine hK _ _ (fun h => by cases h) ?_
          clear hK K
          refine Hd.After.done (by kernel_rfl) ?_ _
          go_wp2_with fail
          go_meet
          case rel => exact ⟨_, _, _, HMN.out.lower (by omega) (by omega)⟩
        · obtain ⟨hl5, ⟨x0, x1, x2, x3, x4, x5⟩, f0, f1, f2, f3, f4, f5⟩ := wr6 HM7.out.b5
          obtain ⟨B, hBn, hB0, hB1⟩ := HM7.out.forK
          have HBN : Hid (type_of% hBn) := hBn
          have HB0 : Hid (type_of% hB0) := hB0
          have HB1 : Hid (type_of% hB1) := hB1
          clear hBn hB0 hB1
          have HTL : Hid (m.ks.length ≤ 1048576) := by show _ ≤ _; have := HM7.out.sz; unfold M.sz at this; omega
          obtain ⟨WA, hWA⟩ : ∃ X, ((w7.alloc (.cells #[.string ⟨#[97]⟩, .string ⟨#[97]⟩] 9)).alloc (.cells #[.int .i64 1, .int .i64 2] 3)).alloc (.cells #[.slice (some ⟨w7.heap.size, 0, none⟩) 2 2, .slice (some ⟨w7.heap.size + 1, 0, none⟩) 2 2] 53) = X := ⟨_, rfl⟩
          have hA1 : Below w7.heap.size w7 (w7.alloc (.cells #[.string ⟨#[97]⟩, .string ⟨#[97]⟩] 9)) := (Below.refl _ _).alloc (Nat.le_refl _) _
          have hA2 : Below w7.heap.size w7 ((w7.alloc (.cells #[.string ⟨#[97]⟩, .string ⟨#[97]⟩] 9)).alloc (.cells #[.int .i64 1, .int .i64 2] 3)) := hA1.alloc hA1.size _
          have hA3 : Below w7.heap.size w7 WA := by rw [← hWA]; exact hA2.alloc hA2.size _
          have O1 : Ls.Own WA w7.heap.size (.slice (some ⟨w7.heap.size, 0, none⟩) 2 2) [⟨#[97]⟩, ⟨#[97]⟩] := by
            have h1 : Ls.Own (w7.alloc (.cells #[.string ⟨#[97]⟩, .string ⟨#[97]⟩] 9)) w7.heap.size (.slice (some ⟨w7.heap.size, 0, none⟩) 2 2) [⟨#[97]⟩, ⟨#[97]⟩] := own_lit
            rw [← hWA]
            exact (h1.below ((Below.refl _ _).alloc (Nat.le_refl _) _)).below ((Below.refl _ _).alloc (Nat.le_refl _) _)
          have O2 : Li.Own WA w7.heap.size (.slice (some ⟨w7.heap.size + 1, 0, none⟩) 2 2) [1, 2] := by
            have h1 : Li.Own ((w7.alloc (.cells #[.string ⟨#[97]⟩, .string ⟨#[97]⟩] 9)).alloc (.cells #[.int .i64 1, .int .i64 2] 3)) (w7.heap.size + 1) (.slice (some ⟨w7.heap.size + 1, 0, none⟩) 2 2) [1, 2] := by
              have h2 := own_lit (w := w7.alloc (.cells #[.string ⟨#[97]⟩, .string ⟨#[97]⟩] 9)) (T := 3) (u0 := .int .i64 1) (u1 := .int .i64 2)
              rw [World.size_alloc] at h2
              exact h2
            rw [← hWA]
            exact (h1.below ((Below.refl _ _).alloc (Nat.le_refl _) _)).mono (by omega)
          have hWE : WA.cell? ⟨w7.heap.size + 1 + 1, 0, none⟩ = some (.slice (some ⟨w7.heap.size, 0, none⟩) 2 2) ∧ WA.cell? ⟨w7.heap.size + 1 + 1, 1, none⟩ = some (.slice (some ⟨w7.heap.size + 1, 0, none⟩) 2 2) := by
            have h9 := (wr2 (wr_new ((w7.alloc (.cells #[.string ⟨#[97]⟩, .string ⟨#[97]⟩] 9)).alloc (.cells #[.int .i64 1, .int .i64 2] 3)) [.slice (some ⟨w7.heap.size, 0, none⟩) 2 2, .slice (some ⟨w7.heap.size + 1, 0, none⟩) 2 2] 53)).2.1
            rw [World.size_alloc, World.size_alloc] at h9
            rw [← hWA]
            exact h9
          have HWA : Hid (type_of% hWA) := hWA
          have HA3 : Hid (type_of% hA3) := hA3
          have HO1 : Hid (type_of% O1) := O1
          have HO2 : Hid (type_of% O2) := O2
          have HWE : Hid (type_of% hWE) := hWE
          clear hWA hA1 hA2 hA3 O1 O2 hWE
          go_wp2_with (at_builtin; rw [HWA.out]; refine Ps.wpl_pushK rfl _ _ rfl B w7.heap.size _ m.ks (HB0.out _ (fr_below HA3.out)) (w7.heap.size + 1 + 1) _ _ _ _ _ _ ⟨[⟨#[97]⟩, ⟨#[97]⟩], [1, 2]⟩ rfl rfl HWE.out.1 HWE.out.2 HO1.out HO2.out (fun q e e2 => by simp [Value.ownBlock] at e e2; omega) HBN.out HA3.out.size HTL.out ?_; intro a9 c9 w9 hok9 hg9; have HMN : Hid (type_of% (HB1.out _ (KC + 1000) w9 (.slice a9 (m.ks.length + 1) c9) _ (fr_below HA3.out) ((HM7.out.below HA3.out).cu.mono (by omega)) hok9 hg9 (by decide))) := HB1.out _ (KC + 1000) w9 (.slice a9 (m.ks.length + 1) c9) _ (fr_below HA3.out) ((HM7.out.below HA3.out).cu.mono (by omega)) hok9 hg9 (by decide); obtain ⟨hl9, ⟨z0, z1, z2, z3, z4, z5⟩, g0, g1, g2, g3, g4, g5⟩ := wr6 (HM7.out.keptK HA3.out hg9); clear hok9 hg9)
          go_meet
          case rel => exact ⟨_, _, _, HMN.out.lower (by omega) (by omega)⟩
        · go_wp2_with fail
          refine (Cu.raw_any w7 b (KC + 402) HM7.out.cu (by omega)).mono ?_
          rintro e w8 ⟨z, rfl, _, _, hg8, hc8⟩
          have HM8 : Hid (Ms w w8 b X2 X5 (KC + 404) 4000 m (.slice ak m.ks.length ck) (.slice ax m.ts.length ct)) := HM7.out.step hg8 (hc8.mono (by omega))
          clear hg8 hc8
          obtain ⟨hl5, ⟨x0, x1, x2, x3, x4, x5⟩, f0, f1, f2, f3, f4, f5⟩ := wr6 HM8.out.b5
          go_wp2_with fail
          go_meet
          case rel => exact ⟨⟨z, m.c, m.prior, m.base, m.ks, m.ts⟩, _, _, (HM8.out.num (m' := ⟨z, m.c, m.prior, m.base, m.ks, m.ts⟩) (o := 0) (by omega) (by simp [mc]) rfl rfl).lower (by omega) (by omega)⟩
        · obtain ⟨hl5, ⟨x0, x1, x2, x3, x4, x5⟩, f0, f1, f2, f3, f4, f5⟩ := wr6 HM7.out.b5
          by_cases hks : 0 < m.ks.length
          · have hks0 : (0 : Int) < (m.ks.length : Int) := by omega
            go_wp2_with fail
            obtain ⟨g, cv, a0, c0, n0, e0, en, k1, kf, hgl, hbg, hg5, hne, hnz, hown, hput⟩ := HM7.out.forV hks
            injection e0 with e0 _ e1
            subst e0
            subst e1
            have HOWN : Hid (type_of% hown) := hown
            have HPUT : Hid (type_of% hput) := hput
            have HNE : Hid (type_of% hne) := hne
            have HEN : Hid (type_of% en) := en
            clear hown hput hne en x0 x1 x2 x3 x4 x5 f0 f1 f2 f3 f4 f5 hl5
            have st : Below w7.heap.size w7 w7.drew := Tm.below_drew w7
            have MD : Ms w w7.drew b X2 X5 (KC + 402) 4000 m (.slice (some ⟨g, 0, none⟩) m.ks.length ck) (.slice ax m.ts.length ct) := HM7.out.below st
            have HMD : Hid (type_of% MD) := MD
            have hS : w7.drew.cell? ⟨X5, 4, none⟩ = some (.slice (some ⟨g, 0, none⟩) m.ks.length ck) ∧ w7.drew.cell? ⟨g, 1, none⟩ = some (.slice a0 n0 c0) := ⟨(wr6 MD.b5).2.1.2.2.2.2.1, (World.cell?_of_block (st.block g hgl)).trans k1⟩
            have hgf : w7.drew.heap.size = w7.heap.size := rfl
            have HK1 : Hid (type_of% k1) := k1
            have HKF : Hid (type_of% kf) := kf
            clear MD hgf k1 kf
            refine Hd.start (fun X => X.cell? ⟨X5, 4, none⟩ = some (.slice (some ⟨g, 0, none⟩) m.ks.length ck) ∧ X.cell? ⟨g, 1, none⟩ = some (.slice a0 n0 c0)) 13 (by kernel_rfl) ?_
            generalize w7.drew = w0 at st HMD hS ⊢
            refine Hd.After.pureD (i := 0) (some 33) (.pointer (some ⟨X5, 4, none⟩)) rfl rfl (by kernel_rfl) (by decide) (by kernel_rfl) (by kernel_rfl) (fun _ _ _ h => h) (hS) (Or.inl ⟨by rfl, ?_⟩) ?_
            · intro X; go_simp; try with_reducible rfl
            (first | simp only [Act.put, List.setIfInBounds_toArray, List.set_cons_zero, List.set_cons_succ] | skip)
            refine Hd.After.takeD (i := 1) (some 34) (.slice (some ⟨g, 0, none⟩) m.ks.length ck) rfl rfl (by kernel_rfl) (by kernel_rfl) (by kernel_rfl) (by kernel_rfl) (by kernel_rfl) (fun _ _ _ h => h) (hS) (Or.inl ⟨by rfl, ?_⟩) ?_
            · rintro X ⟨s0, s1⟩; go_simp; try with_reducible rfl
            (first | simp only [Act.put, List.setIfInBounds_toArray, List.set_cons_zero, List.set_cons_succ] | skip)
            refine Hd.After.pureD (i := 2) (some 35) (.pointer (some ⟨X5, 4, none⟩)) rfl rfl (by kernel_rfl) (by decide) (by kernel_rfl) (by kernel_rfl) (fun _ _ _ h => h) (hS) (Or.inl ⟨by rfl, ?_⟩) ?_
            · intro X; go_simp; try with_reducible rfl
            (first | simp only [Act.put, List.setIfInBounds_toArray, List.set_cons_zero, List.set_cons_succ] | skip)
            refine Hd.After.takeD (i := 3) (some 36) (.slice (some ⟨g, 0, none⟩) m.ks.length ck) rfl rfl (by kernel_rfl) (by kernel_rfl) (by kernel_rfl) (by kernel_rfl) (by kernel_rfl) (fun _ _ _ h => h) (hS) (Or.inl ⟨by rfl, ?_⟩) ?_
            · rintro X ⟨s0, s1⟩; go_simp; try with_reducible rfl
            (first | simp only [Act.put, List.setIfInBounds_toArray, List.set_cons_zero, List.set_cons_succ] | skip)
            refine Hd.After.pureD (i := 4) (some 37) (.pointer (some ⟨g, 0, none⟩)) rfl rfl (by kernel_rfl) (by decide) (by kernel_rfl) (by kernel_rfl) (fun _ _ _ h => h) (hS) (Or.inl ⟨by rfl, ?_⟩) ?_
            · intro X; go_simp; try with_reducible rfl
            (first | simp only [Act.put, List.setIfInBounds_toArray, List.set_cons_zero, List.set_cons_succ] | skip)
            refine Hd.After.pureD (i := 5) (some 38) (.pointer (some ⟨g, 1, none⟩)) rfl rfl (by kernel_rfl) (by decide) (by kernel_rfl) (by kernel_rfl) (fun _ _ _ h => h) (hS) (Or.inl ⟨by rfl, ?_⟩) ?_
            · intro X; go_simp; try with_reducible rfl
            (first | simp only [Act.put, List.setIfInBounds_toArray, List.set_cons_zero, List.set_cons_succ] | skip)
            refine Hd.After.takeD (i := 6) (some 39) (.slice a0 n0 c0) rfl rfl (by kernel_rfl) (by kernel_rfl) (by kernel_rfl) (by kernel_rfl) (by kernel_rfl) (fun _ _ _ h => h) (hS) (Or.inl ⟨by rfl, ?_⟩) ?_
            · rintro X ⟨s0, s1⟩; go_simp; try with_reducible rfl
            (first | simp only [Act.put, List.setIfInBounds_toArray, List.set_cons_zero, List.set_cons_succ] | skip)
            refine Hd.After.pureD (i := 7) (some 40) (.pointer (some ⟨b, 0, none⟩)) rfl rfl (by kernel_rfl) (by decide) (by kernel_rfl) (by kernel_rfl) (fun _ _ _ h => h) (hS) (Or.inl ⟨by rfl, ?_⟩) ?_
            · intro X; go_simp; try with_reducible rfl
            (first | simp only [Act.put, List.setIfInBounds_toArray, List.set_cons_zero, List.set_cons_succ] | skip)
            refine Hd.After.one (i := 8) (by kernel_rfl) rfl rfl ?_
            intro K hK
            go_simp
            go_wp2_with (go_at_call 59; refine (Cu.raw_any w0 b (KC + 402) HMD.out.cu (by omega)).mono ?_; rintro e w8 ⟨z, rfl, _, _, hg8, hc8⟩)
            have HM8 : Hid (Ms w w8 b X2 X5 (KC + 404) 4000 m (.slice (some ⟨g, 0, none⟩) m.ks.length ck) (.slice ax m.ts.length ct)) := HMD.out.step hg8 (hc8.mono (by omega))
            have HF8 : Hid (Fr (fun q => q = b) w7 w8) := (fr_below st).trans (fr_grown hg8 rfl)
            have hS8 : w8.cell? ⟨X5, 4, none⟩ = some (.slice (some ⟨g, 0, none⟩) m.ks.length ck) ∧ w8.cell? ⟨g, 1, none⟩ = some (.slice a0 n0 c0) := ⟨(wr6 HM8.out.b5).2.1.2.2.2.2.1, (World.cell?_of_block (HF8.out.block g hgl (by omega))).trans HK1.out⟩
            clear hg8 hc8
            refine hK _ _ (fun _ => hS8) ?_
            clear hK K
            (first | simp only [Act.put, List.setIfInBounds_toArray, List.set_cons_zero, List.set_cons_succ] | skip)
            have hA : Below w8.heap.size w8 (w8.alloc (.cells #[.int .i64 z] 3)) := (Below.refl _ _).alloc (Nat.le_refl _) _
            have HFA : Hid (Fr (fun q => q = b) w7 (w8.alloc (.cells #[.int .i64 z] 3))) := HF8.out.trans (fr_below hA)
            have hS9 : (w8.alloc (.cells #[.int .i64 z] 3)).cell? ⟨X5, 4, none⟩ = some (.slice (some ⟨g, 0, none⟩) m.ks.length ck) ∧ (w8.alloc (.cells #[.int .i64 z] 3)).cell? ⟨g, 1, none⟩ = some (.slice a0 n0 c0) := ⟨(wr6 (HM8.out.below hA).b5).2.1.2.2.2.2.1, (World.cell?_of_block (HFA.out.block g hgl (by omega))).trans HK1.out⟩
            refine Hd.After.one (i := 9) (by kernel_rfl) rfl rfl ?_
            intro K hK
            go_simp
            refine hK _ _ (fun _ => hS9) ?_
            clear hK K
            (first | simp only [Act.put, List.setIfInBounds_toArray, List.set_cons_zero, List.set_cons_succ] | skip)
            refine Hd.After.one (i := 10) (by kernel_rfl) rfl rfl ?_
            intro K hK
            refine Sn.wp_snocI _ _ rfl (some 43) rfl 0 (.slice a0 n0 c0) m.ks[0].vs w8.heap.size z rfl rfl (by simp) (HOWN.out _ HFA.out) (Nat.zero_le _) (by rw [HEN.out]; omega) ?_
            intro g9 c9 w9 hown9 hg9 hat9
            rw [HEN.out] at hown9 ⊢
            have HU : Hid ((Value.slice (some ⟨g9, 0, none⟩) (n0 + 1) c9).ownBlock = (Value.slice a0 n0 c0).ownBlock ∨ ∃ F, (Value.slice (some ⟨g9, 0, none⟩) (n0 + 1) c9).ownBlock = some F ∧ (w8.alloc (.cells #[.int .i64 z] 3)).heap.size ≤ F) := by
              show _ ∨ _
              rcases hat9 with e | e
              · exact .inl e.symm
              · exact .inr ⟨g9, rfl, e⟩
            have HMN : Hid (type_of% (HPUT.out _ (KC + 1000) w9 (.slice (some ⟨g9, 0, none⟩) (n0 + 1) c9) z HFA.out ((HM8.out.below hA).cu.mono (by omega)) hown9 hg9 HU.out)) := HPUT.out _ (KC + 1000) w9 (.slice (some ⟨g9, 0, none⟩) (n0 + 1) c9) z HFA.out ((HM8.out.below hA).cu.mono (by omega)) hown9 hg9 HU.out
            have hb9 := hg9.block g (Nat.lt_of_lt_of_le hgl HFA.out.size) (fun e => (HNE.out g e.symm).2.2 rfl)
            have hx9 := hg9.block X5 (HM8.out.below hA).b5.1 (fun e => (HNE.out X5 e.symm).2.1 rfl)
            have z4 : w9.cell? ⟨X5, 4, none⟩ = some (.slice (some ⟨g, 0, none⟩) m.ks.length ck) := (World.cell?_of_block hx9).trans hS9.1
            have k9 : w9.cell? ⟨g, 1, none⟩ = some (.slice a0 n0 c0) := (World.cell?_of_block hb9).trans hS9.2
            have kf9 : w9.frozen? ⟨g, 1, none⟩ = false := (World.frozen?_of_block (hb9.trans (HFA.out.block g hgl (by omega)))).trans HKF.out
            clear hown9 hg9 hat9 hb9 hx9
            refine hK _ _ (fun _ => ⟨z4, k9⟩) ?_
            clear hK K
            (first | simp only [Act.put, List.setIfInBounds_toArray, List.set_cons_zero, List.set_cons_succ] | skip)
            refine Hd.After.pureD (i := 11) (some 44) (.pointer (some ⟨g, 0, none⟩)) rfl rfl (by kernel_rfl) (by decide) (by kernel_rfl) (by kernel_rfl) (fun _ _ _ h => h) (⟨z4, k9⟩) (Or.inl ⟨by rfl, ?_⟩) ?_
            · intro X; go_simp; try with_reducible rfl
            (first | simp only [Act.put, List.setIfInBounds_toArray, List.set_cons_zero, List.set_cons_succ] | skip)
            refine Hd.After.pureD (i := 12) (some 45) (.pointer (some ⟨g, 1, none⟩)) rfl rfl (by kernel_rfl) (by decide) (by kernel_rfl) (by kernel_rfl) (fun _ _ _ h => h) (⟨z4, k9⟩) (Or.inl ⟨by rfl, ?_⟩) ?_
            · intro X; go_simp; try with_reducible rfl
            (first | simp only [Act.put, List.setIfInBounds_toArray, List.set_cons_zero, List.set_cons_succ] | skip)
            refine Hd.After.one (i := 13) (by kernel_rfl) rfl rfl ?_
            intro K hK
            go_simp
            refine hK _ _ (fun h => by cases h) ?_
            clear hK K
            refine Hd.After.done (by kernel_rfl) ?_ _
            go_wp2_with fail
            go_meet
            case rel => exact ⟨_, _, _, HMN.out.lower (by omega) (by omega)⟩
          · have hks0 : ¬ (0 : Int) < (m.ks.length : Int) := by omega
            go_wp2_with fail
            go_meet
            case rel => exact ⟨_, _, _, HM7.out.lower (by omega) (by omega)⟩
    case rest =>
      clear HM6
      obtain ⟨m, vk, vt, ms⟩ := hcut
      obtain ⟨ak, ck, ax, ct, rfl, rfl, -⟩ := ms.om.rm
      have HMS : Hid (type_of% ms) := ms
      clear ms
      obtain ⟨hl2, ⟨r0, r1, r2, r3, r4, r5⟩, e0, e1, e2, e3, e4, e5⟩ := wr6 HMS.out.b2
      obtain ⟨hl5, ⟨x0, x1, x2, x3, x4, x5⟩, f0, f1, f2, f3, f4, f5⟩ := wr6 HMS.out.b5
      have h25w := HMS.out.x5
      go_wp2_with fail
      refine bodyPost_ret (v := .agg #[.int .i64 m.n, .int .i64 m.c, .int .i64 m.prior, .int .i64 m.base, .slice ak m.ks.length ck, .slice ax m.ts.length ct]) (by rw [Tb.results_cell rfl]; go_simp) rfl ⟨m, _, _, rfl, HMS.out.sz, ?_, ?_, ?_⟩
      · have hS := set6 wc X2 (.int .i64 m.n) (.int .i64 m.c) (.int .i64 m.prior) (.int .i64 m.base) (.slice ak m.ks.length ck) (.slice ax m.ts.length ct)
        exact ((HMS.out.om.fr hS (fun q hq e => by omega)).bound).mono (fun q hq => ⟨by have := HX2.out; omega, hq.2⟩)
      · exact fr_out HMS.out.gr (set6 wc X2 _ _ _ _ _ _) (fun q e => by omega) HX2.out
      · exact curF HMS.out.cu (set6 wc X2 _ _ _ _ _ _) (fun q e => by have := HMS.out.bl; omega)
end Go.Proofs.YtcadgeepknhmfaaGreat.Dm
/-
  What the model draws for a model and a row.
-/
namespace Go.Proofs.YtcadgeepknhmfaaGreat.Dm
set_option maxRecDepth 100000
open Go.RowKit
open Go.Proofs.YtcadgeepknhmfaaGreat.Tb Go.Proofs.YtcadgeepknhmfaaGreat.Tk
open Go.Proofs.YtcadgeepknhmfaaGreat.Md (M OwM OwR wr6 wr3)
open Go.Proofs.YtcadgeepknhmfaaGreat.Tt (set6)
open Go.Proofs.YtcadgeepknhmfaaGreat.Sv (Wr Fr fr_grown fr_below new1 new2 new3 wr_new wr2)
set_option linter.unusedVariables false
theorem results_cc2 {fn : Func} {p q : Tmp} {ty ty2 : TypeId} (h : fn.results = #[.cell p ty, .cell q ty2]) (tmps : Array Value) (P : Program) (w : World) :
    (results fn tmps).run P w = ((asAddr (tmps.getD p undef)).run P w).andThen fun a w₁ => ((loadVar ty a).run P w₁).andThen fun v w₂ => ((asAddr (tmps.getD q undef)).run P w₂).andThen fun a w₃ => ((loadVar ty2 a).run P w₃).andThen fun u w₄ => .ok (.tuple #[v, u]) w₄ := by
  simp only [results, h]
  simp [Sem.run_bind, Result.andThen]
set_option maxHeartbeats 20000000 in
theorem asked_any (w : World) (b : Nat) (KC : Int) (hc : Cu.Cur w b KC) (h0K : 0 ≤ KC) (hK : KC ≤ 1000000000) :
    Calls Tryz.prog 16 #[.pointer (some ⟨b, 0, none⟩)] w fun e w' => ∃ (m : M) (vk vt u0 u1 : Value) (r : Row), e = .returned (.tuple #[.agg #[.int .i64 m.n, .int .i64 m.c, .int .i64 m.prior, .int .i64 m.base, vk, vt], .agg #[u0, u1, .int .i64 r.label]]) ∧ m.sz ≤ 4500 ∧ r.sz ≤ 60 ∧ OwM w' (fun q => w.heap.size ≤ q ∧ q < w'.heap.size) vk vt m ∧ OwR w' (fun q => w.heap.size ≤ q ∧ q < w'.heap.size) u0 u1 r ∧ Fr (fun q => q = b) w w' := by
  have hbw := hc.lt
  have HC : Hid (Cu.Cur w b KC) := hc
  clear hc
  go_enter Tryz.func16, Tryz.ntmps16
  go_wp2_with fail
  obtain ⟨W, hW, hsz, hB, b2, b3⟩ := new2 w z6 z3 29 33
  have hW2 : (w.alloc (.cells #[.int .i64 0, .int .i64 0, .int .i64 0, .int .i64 0, .slice none 0 0, .slice none 0 0] 29)).alloc (.cells #[.slice none 0 0, .slice none 0 0, .int .i64 0] 33) = W := hW
  rw [hW2]
  have hcW : Cu.Cur W b KC := curF (B := fun _ => False) HC.out (fr_below hB) (fun _ e => e.elim)
  clear hW hW2
  obtain ⟨X2, hX2⟩ : ∃ x, w.heap.size = x := ⟨_, rfl⟩
  have HX2 : Hid (w.heap.size = X2) := hX2
  rw [hX2] at b2 b3 ⊢
  refine (model_any W b KC hcW h0K (by omega)).mono ?_
  rintro e w2 ⟨m, vk, vt, rfl, hz, om, hf2, hc2⟩
  obtain ⟨ak, ck, ax, ct, rfl, rfl, -⟩ := om.rm
  have hs2 := hf2.size
  have HB2 : Hid (Wr w2 X2 0 z6) := wrB b2 hf2 (by omega)
  have HB3 : Hid (Wr w2 (X2 + 1) 0 z3) := wrB b3 hf2 (by omega)
  have HF2 : Hid (Fr (fun q => q = b) w w2) := (fr_below hB).trans hf2
  have HOM : Hid (type_of% om) := om
  have HC2 : Hid (type_of% hc2) := hc2
  have HZ : Hid (m.sz ≤ 4500) := hz
  have hb2 : b < X2 := by omega
  have hs2b : X2 + 2 ≤ w2.heap.size := by omega
  have HSW : Hid (W.heap.size = X2 + 2) := by show _ = _; omega
  clear hB b2 b3 hcW hf2 om hc2 hz hX2 hs2 hsz
  go_wp2_with fail
  obtain ⟨W3, hW3, hsz3, hB3, b4⟩ := new1 w2 (mc m (.slice ak m.ks.length ck) (.slice ax m.ts.length ct)) 29
  have hW3b : w2.alloc (.cells #[.int .i64 m.n, .int .i64 m.c, .int .i64 m.prior, .int .i64 m.base, .slice ak m.ks.length ck, .slice ax m.ts.length ct] 29) = W3 := hW3
  rw [hW3b]
  obtain ⟨X4, hX4⟩ : ∃ x, w2.heap.size = x := ⟨_, rfl⟩
  rw [hX4] at b4 ⊢
  have hc3 : Cu.Cur W3 b (KC + 1000) := curF (B := fun _ => False) HC2.out (fr_below hB3) (fun _ e => e.elim)
  refine (Db.sample_any W3 b (KC + 1000) hc3 (by omega) m.n m.c).mono ?_
  rintro e w4 ⟨u0, u1, r, rfl, hrz, o0, o1, hap, hg4, hc4⟩
  obtain ⟨d0, e0, rfl, -⟩ := o0.isl
  obtain ⟨d1, e1, rfl, -⟩ := o1.iss
  have hf4 : Fr (fun q => q = b) W3 w4 := fr_grown hg4 rfl
  have hf4b : Fr (fun q => q = b) w2 w4 := (fr_below hB3).trans hf4
  have hs4 := hf4.size
  have HB2b : Hid (Wr w4 X2 0 z6) := wrB HB2.out hf4b (by omega)
  have HB3b : Hid (Wr w4 (X2 + 1) 0 z3) := wrB HB3.out hf4b (by omega)
  have HB4b : Hid (Wr w4 X4 0 (mc m (.slice ak m.ks.length ck) (.slice ax m.ts.length ct))) := wrB b4 hf4 (by omega)
  have HF4 : Hid (Fr (fun q => q = b) w w4) := HF2.out.trans hf4b
  have HOM4 : Hid (OwM w4 (fun q => X2 + 1 < q ∧ q < X4) (.slice ak m.ks.length ck) (.slice ax m.ts.length ct) m) := (HOM.out.mono (fun q hq => by have := HSW.out; exact ⟨by omega, by omega⟩)).fr hf4b (fun q hq e => by omega)
  have hz60 : r.sz ≤ 60 := by have := hrz.1; omega
  have HR30 : Hid (r.sz ≤ 30) := hrz.1
  have HOR : Hid (OwR w4 (fun q => X4 < q ∧ q < w4.heap.size) (.slice d0 r.nums.length e0) (.slice d1 r.cats.length e1) r) := owr_of o0 o1 hap (fun q h1 h2 => ⟨by omega, h2⟩)
  have HC4 : Hid (type_of% hc4) := hc4
  have HRZ : Hid (r.sz ≤ 60) := hz60
  have hX4w : X4 < w4.heap.size := by omega
  have h24 : X2 + 1 < X4 := by omega
  clear hz60 hW3 hW3b hsz3 hB3 b4 hX4 hc3 hrz o0 o1 hap hg4 hc4 hf4 hf4b hs4 hs2b HB2 HB3 HF2 HOM HC2 HSW
  go_wp2_with fail
  obtain ⟨W5, hW5, hsz5, hB5, b5⟩ := new1 w4 (rc (.slice d0 r.nums.length e0) (.slice d1 r.cats.length e1) r) 33
  have hW5b : w4.alloc (.cells #[.slice d0 r.nums.length e0, .slice d1 r.cats.length e1, .int .i64 r.label] 33) = W5 := hW5
  rw [hW5b]
  obtain ⟨X5, hX5⟩ : ∃ x, w4.heap.size = x := ⟨_, rfl⟩
  rw [hX5] at b5 ⊢
  have h45 : X4 < X5 := by omega
  have HMA : Hid (Ma w W5 b X2 X4 X5 (KC + 1020) m (.slice ak m.ks.length ck) (.slice ax m.ts.length ct) (.slice d0 r.nums.length e0) (.slice d1 r.cats.length e1) r) := ⟨(curF (B := fun _ => False) HC4.out (fr_below hB5) (fun _ e => e.elim)).mono (by omega), HF4.out.trans (fr_below hB5), hb2, HX2.out, h24, h45, HB2b.out.below hB5, HB3b.out.below hB5, HB4b.out.below hB5, b5, HOM4.out.below hB5, ?_, HZ.out, HRZ.out⟩
  rotate_left
  · obtain ⟨h0, h1, h2, h3⟩ := HOR.out.below hB5
    exact ⟨h0, h1, fun k e => ⟨⟨(h2 k e).1.1, by have := (h2 k e).1.2; omega⟩, (h2 k e).2⟩, fun k e => ⟨(h3 k e).1, by have := (h3 k e).2; omega⟩⟩
  clear hW5 hW5b hsz5 hB5 b5 hX5 hX4w HB2b HB3b HB4b HF4 HOM4 HOR HC4 HRZ
  refine (Cu.once_any W5 b (KC + 1020) HMA.out.cu (by omega) 8 (by omega) (by omega)).mono ?_
  rintro e w6 ⟨oc, rfl, hg6, hs6, hc6⟩
  have HM6 : Hid (Ma w w6 b X2 X4 X5 (KC + 1021) m (.slice ak m.ks.length ck) (.slice ax m.ts.length ct) (.slice d0 r.nums.length e0) (.slice d1 r.cats.length e1) r) := HMA.out.step hg6 (hc6.mono (by omega))
  clear hg6 hs6 hc6 HMA
  go_upto_if 13 with fail
  go_cut [] from 13 (fun wx => ∃ (u0 u1 : Value) (r : Row), Ma w wx b X2 X4 X5 (KC + 1050) m (.slice ak m.ks.length ck) (.slice ax m.ts.length ct) u0 u1 r ∧ r.sz ≤ 30)
  case first =>
    cases oc with
    | false =>
      go_wp2_with fail
      go_meet
      case rel => exact ⟨_, _, _, HM6.out.lower (by omega), HR30.out⟩
    | true =>
      go_wp2_with fail
      refine (Db.schema_any w6 b (KC + 1021) HM6.out.cu (by omega)).mono ?_
      rintro e w7 ⟨x, y, rfl, -, hg7, hc7⟩
      have HF7 : Hid (Fr (fun q => q = b) w6 w7) := fr_grown hg7 rfl
      have HC7 : Hid (type_of% hc7) := hc7
      clear hg7 hc7
      go_wp2_with fail
      refine (Db.sample_any w7 b (KC + 1021 + 2) HC7.out (by omega) x y).mono ?_
      rintro e w8 ⟨u0, u1, r8, rfl, hrz, o0, o1, hap, hg8, hc8⟩
      obtain ⟨f0, j0, rfl, -⟩ := o0.isl
      obtain ⟨f1, j1, rfl, -⟩ := o1.iss
      have HF8 : Hid (Fr (fun q => q = b) w6 w8) := HF7.out.trans (fr_grown hg8 rfl)
      have hs7 := HF7.out.size
      have hz60 : r8.sz ≤ 60 := by have := hrz.1; omega
      have HMP : Hid (type_of% (HM6.out.put3 HF8.out hc8 (owr_of o0 o1 hap (fun q h1 h2 => by omega)) hz60)) := HM6.out.put3 HF8.out hc8 (owr_of o0 o1 hap (fun q h1 h2 => by omega)) hz60
      have HR38 : Hid (r8.sz ≤ 30) := hrz.1
      have HM8 : Hid (type_of% (HM6.out.frb HF8.out hc8)) := HM6.out.frb HF8.out hc8
      obtain ⟨hl5, ⟨x0, x1, x2⟩, f_0, f_1, f_2⟩ := wr3 HM8.out.b5
      clear hrz o0 o1 hap hg8 hc8 hs7 hz60
      go_wp2_with fail
      go_meet
      case rel => exact ⟨_, _, _, HMP.out.lower (by omega), HR38.out⟩
  case rest =>
    clear HM6 HR30
    obtain ⟨u0, u1, r, ma, hr30⟩ := hcut
    obtain ⟨⟨lo0, n0⟩, ⟨lo1, n1⟩, -⟩ := ma.ow
    obtain ⟨d0, e0, rfl, -⟩ := n0.isl
    obtain ⟨d1, e1, rfl, -⟩ := n1.iss
    have HMA : Hid (type_of% ma) := ma
    have HRZ : Hid (r.sz ≤ 40) := (by show _ ≤ _; omega)
    clear ma n0 n1 hr30
    go_upto_region 5 with fail
    go_cut [25] from 18 (fun s25 wx => ∃ t : Bool, s25 = .bool t ∧ (t = true → 0 < r.cats.length) ∧ Ma w wx b X2 X4 X5 (KC + 1051) m (.slice ak m.ks.length ck) (.slice ax m.ts.length ct) (.slice d0 r.nums.length e0) (.slice d1 r.cats.length e1) r)
    case first =>
      go_wp2_with fail
      refine (Cu.once_any wc b (KC + 1050) HMA.out.cu (by omega) 8 (by omega) (by omega)).mono ?_
      rintro e w6 ⟨oc, rfl, hg6, hs6, hc6⟩
      have HM6 : Hid (Ma w w6 b X2 X4 X5 (KC + 1051) m (.slice ak m.ks.length ck) (.slice ax m.ts.length ct) (.slice d0 r.nums.length e0) (.slice d1 r.cats.length e1) r) := HMA.out.step hg6 (hc6.mono (by omega))
      clear hg6 hs6 hc6
      cases oc with
      | false =>
        go_wp2_with fail
        go_meet
        case rel => exact ⟨false, rfl, (fun h => by cases h), HM6.out⟩
      | true =>
        obtain ⟨hl5, ⟨x0, x1, x2⟩, -⟩ := wr3 HM6.out.b5
        by_cases hcl : 0 < r.cats.length
        · have hcl2 : (0 : Int) < (r.cats.length : Int) := by omega
          have HCL : Hid (0 < r.cats.length) := hcl
          have hd : decide ((0 : Int) < (r.cats.length : Int)) = true := by simpa using hcl2
          clear hcl
          go_wp2_with fail
          go_meet
          case rel => exact ⟨true, (by first | rfl | (congr 1; rw [decide_eq_true_iff]; omega)), fun _ => HCL.out, HM6.out⟩
        · have hcl2 : ¬ (0 : Int) < (r.cats.length : Int) := by omega
          have hd : decide ((0 : Int) < (r.cats.length : Int)) = false := by simpa using hcl2
          clear hcl
          go_wp2_with fail
          go_meet
          case rel => exact ⟨false, (by first | rfl | (congr 1; rw [decide_eq_false_iff_not]; omega)), (fun h => by cases h), HM6.out⟩
    case rest =>
      obtain ⟨t, rfl, ht, ma⟩ := hcut
      have HMB : Hid (type_of% ma) := ma
      clear ma HMA
      go_upto_if 25 with fail
      go_cut [] from 26 (fun wx => ∃ (u0 u1 : Value) (r : Row), Ma w wx b X2 X4 X5 (KC + 1051) m (.slice ak m.ks.length ck) (.slice ax m.ts.length ct) u0 u1 r)
      case first =>
        cases t with
        | false =>
          clear ht
          go_wp2_with fail
          go_meet
          case rel => exact ⟨_, _, _, HMB.out⟩
        | true =>
          have hcl := ht rfl
          obtain ⟨g, cg, eg, k0, kf, hgl, hg4, hg5, hw⟩ := HMB.out.word hcl ⟨#[110, 101, 118, 101, 114]⟩ (by decide)
          injection eg with eg _ eg2
          subst eg
          subst eg2
          obtain ⟨hl5, ⟨x0, x1, x2⟩, -⟩ := wr3 HMB.out.b5
          have hcl2 : (0 : Int) < (r.cats.length : Int) := by omega
          have HW : Hid (type_of% hw) := hw
          clear hw ht
          go_wp2_with fail
          go_meet
          case rel => exact ⟨_, _, ⟨r.nums, r.cats.set 0 ⟨#[110, 101, 118, 101, 114]⟩, r.label⟩, HW.out HRZ.out⟩
      case rest =>
        clear HMB HRZ
        obtain ⟨u0, u1, r, ma⟩ := hcut
        obtain ⟨⟨lo0, n0⟩, ⟨lo1, n1⟩, -⟩ := ma.ow
        obtain ⟨d0, e0, rfl, -⟩ := n0.isl
        obtain ⟨d1, e1, rfl, -⟩ := n1.iss
        have HMC : Hid (type_of% ma) := ma
        clear ma n0 n1 ht
        go_upto_region 7 with fail
        have l1 := HMC.out.bl
        have st : Below wc.heap.size wc wc.drew := Tm.below_drew wc
        have HMD : Hid (type_of% (HMC.out.below st)) := HMC.out.below st
        have hS := And.intro (wr6 HMD.out.b4).2.1 (wr3 HMD.out.b5).2.1
        clear st
        refine Hd.start (fun X => (X.cell? ⟨X4, 0, none⟩ = some (.int .i64 m.n) ∧ X.cell? ⟨X4, 1, none⟩ = some (.int .i64 m.c) ∧ X.cell? ⟨X4, 2, none⟩ = some (.int .i64 m.prior) ∧ X.cell? ⟨X4, 3, none⟩ = some (.int .i64 m.base) ∧ X.cell? ⟨X4, 4, none⟩ = some (.slice ak m.ks.length ck) ∧ X.cell? ⟨X4, 5, none⟩ = some (.slice ax m.ts.length ct)) ∧ (X.cell? ⟨X5, 0, none⟩ = some (.slice d0 r.nums.length e0) ∧ X.cell? ⟨X5, 1, none⟩ = some (.slice d1 r.cats.length e1) ∧ X.cell? ⟨X5, 2, none⟩ = some (.int .i64 r.label))) 3 (by kernel_rfl) ?_
        generalize wc.drew = w0 at HMD hS ⊢
        refine Hd.After.takeD (i := 0) (some 29) (.agg #[.int .i64 m.n, .int .i64 m.c, .int .i64 m.prior, .int .i64 m.base, .slice ak m.ks.length ck, .slice ax m.ts.length ct]) rfl rfl (by kernel_rfl) (by kernel_rfl) (by kernel_rfl) (by kernel_rfl) (by kernel_rfl) (fun _ _ _ h => h) (hS) (Or.inl ⟨by rfl, ?_⟩) ?_
        · rintro X ⟨⟨s0, s1, s2, s3, s4, s5⟩, s6, s7, s8⟩; go_simp; try with_reducible rfl
        (first | simp only [Act.put, List.setIfInBounds_toArray, List.set_cons_zero, List.set_cons_succ] | skip)
        refine Hd.After.takeD (i := 1) (some 30) (.agg #[.slice d0 r.nums.length e0, .slice d1 r.cats.length e1, .int .i64 r.label]) rfl rfl (by kernel_rfl) (by kernel_rfl) (by kernel_rfl) (by kernel_rfl) (by kernel_rfl) (fun _ _ _ h => h) (hS) (Or.inl ⟨by rfl, ?_⟩) ?_
        · rintro X ⟨⟨s0, s1, s2, s3, s4, s5⟩, s6, s7, s8⟩; go_simp; try with_reducible rfl
        (first | simp only [Act.put, List.setIfInBounds_toArray, List.set_cons_zero, List.set_cons_succ] | skip)
        obtain ⟨hl2, ⟨r0, r1, r2, r3, r4, r5⟩, f0, f1, f2, f3, f4, f5⟩ := wr6 HMD.out.b2
        have hF6 : Fr (fun q => q = X2) w0 ((((((w0.setCell ⟨X2, 0, none⟩ (.int .i64 m.n)).setCell ⟨X2, 1, none⟩ (.int .i64 m.c)).setCell ⟨X2, 2, none⟩ (.int .i64 m.prior)).setCell ⟨X2, 3, none⟩ (.int .i64 m.base)).setCell ⟨X2, 4, none⟩ (.slice ak m.ks.length ck)).setCell ⟨X2, 5, none⟩ (.slice ax m.ts.length ct)) := set6 _ _ _ _ _ _ _ _
        have HF6 : Hid (type_of% hF6) := hF6
        have l2 := HMD.out.x4
        have l3 := HMD.out.x5
        have hX2b : Wr ((((((w0.setCell ⟨X2, 0, none⟩ (.int .i64 m.n)).setCell ⟨X2, 1, none⟩ (.int .i64 m.c)).setCell ⟨X2, 2, none⟩ (.int .i64 m.prior)).setCell ⟨X2, 3, none⟩ (.int .i64 m.base)).setCell ⟨X2, 4, none⟩ (.slice ak m.ks.length ck)).setCell ⟨X2, 5, none⟩ (.slice ax m.ts.length ct)) X2 0 (mc m (.slice ak m.ks.length ck) (.slice ax m.ts.length ct)) := (((((HMD.out.b2.set 0 (by simp [z6]) _).set 1 (by simp [z6]) _).set 2 (by simp [z6]) _).set 3 (by simp [z6]) _).set 4 (by simp [z6]) _).set 5 (by simp [z6]) _
        have HX2b : Hid (type_of% hX2b) := hX2b
        have h4b := wrB HMD.out.b4 hF6 (by omega)
        have h5b := wrB HMD.out.b5 hF6 (by omega)
        have h3b := wrB HMD.out.b3 hF6 (by omega)
        have HOM : Hid (type_of% (HMD.out.om.fr hF6 (fun q hq e => by omega))) := HMD.out.om.fr hF6 (fun q hq e => by omega)
        have HOR : Hid (type_of% (HMD.out.ow.fr hF6 (fun q hq e => by omega))) := HMD.out.ow.fr hF6 (fun q hq e => by omega)
        have HGR : Hid (type_of% (fr_out HMD.out.gr hF6 (fun q e => by omega) HX2.out)) := fr_out HMD.out.gr hF6 (fun q e => by omega) HX2.out
        clear hF6 hX2b
        refine Hd.After.one (i := 2) (by kernel_rfl) rfl rfl ?_
        intro K hK
        go_simp
        obtain ⟨w1, hw1⟩ : ∃ X, (((((w0.setCell ⟨X2, 0, none⟩ (.int .i64 m.n)).setCell ⟨X2, 1, none⟩ (.int .i64 m.c)).setCell ⟨X2, 2, none⟩ (.int .i64 m.prior)).setCell ⟨X2, 3, none⟩ (.int .i64 m.base)).setCell ⟨X2, 4, none⟩ (.slice ak m.ks.length ck)).setCell ⟨X2, 5, none⟩ (.slice ax m.ts.length ct) = X := ⟨_, rfl⟩
        rw [hw1] at HF6 HX2b h4b h5b h3b HOM HOR HGR ⊢
        clear hw1 r0 r1 r2 r3 r4 r5 f0 f1 f2 f3 f4 f5 hl2
        refine hK _ _ (fun _ => ⟨(wr6 h4b).2.1, (wr3 h5b).2.1⟩) ?_
        clear hK K
        (first | simp only [Act.put, List.setIfInBounds_toArray, List.set_cons_zero, List.set_cons_succ] | skip)
        obtain ⟨hl3, ⟨r6, r7, r8⟩, f6, f7, f8⟩ := wr3 h3b
        obtain ⟨hl2, ⟨r0, r1, r2, r3, r4, r5⟩, -⟩ := wr6 HX2b.out
        refine Hd.After.one (i := 3) (by kernel_rfl) rfl rfl ?_
        intro K hK
        go_simp
        refine hK _ _ (fun h => by cases h) ?_
        clear hK K
        refine Hd.After.done (by kernel_rfl) ?_ _
        have hF9 : Fr (fun q => q = X2 + 1) w1 (((w1.setCell ⟨X2 + 1, 0, none⟩ (.slice d0 r.nums.length e0)).setCell ⟨X2 + 1, 1, none⟩ (.slice d1 r.cats.length e1)).setCell ⟨X2 + 1, 2, none⟩ (.int .i64 r.label)) := set3 _ _ _ _ _
        have HE : Hid (OwM (((w1.setCell ⟨X2 + 1, 0, none⟩ (.slice d0 r.nums.length e0)).setCell ⟨X2 + 1, 1, none⟩ (.slice d1 r.cats.length e1)).setCell ⟨X2 + 1, 2, none⟩ (.int .i64 r.label)) (fun q => w.heap.size ≤ q ∧ q < (((w1.setCell ⟨X2 + 1, 0, none⟩ (.slice d0 r.nums.length e0)).setCell ⟨X2 + 1, 1, none⟩ (.slice d1 r.cats.length e1)).setCell ⟨X2 + 1, 2, none⟩ (.int .i64 r.label)).heap.size) (.slice ak m.ks.length ck) (.slice ax m.ts.length ct) m ∧ OwR (((w1.setCell ⟨X2 + 1, 0, none⟩ (.slice d0 r.nums.length e0)).setCell ⟨X2 + 1, 1, none⟩ (.slice d1 r.cats.length e1)).setCell ⟨X2 + 1, 2, none⟩ (.int .i64 r.label)) (fun q => w.heap.size ≤ q ∧ q < (((w1.setCell ⟨X2 + 1, 0, none⟩ (.slice d0 r.nums.length e0)).setCell ⟨X2 + 1, 1, none⟩ (.slice d1 r.cats.length e1)).setCell ⟨X2 + 1, 2, none⟩ (.int .i64 r.label)).heap.size) (.slice d0 r.nums.length e0) (.slice d1 r.cats.length e1) r ∧ Fr (fun q => q = b) w (((w1.setCell ⟨X2 + 1, 0, none⟩ (.slice d0 r.nums.length e0)).setCell ⟨X2 + 1, 1, none⟩ (.slice d1 r.cats.length e1)).setCell ⟨X2 + 1, 2, none⟩ (.int .i64 r.label))) := by
          refine ⟨((HOM.out.fr hF9 (fun q hq e => by omega)).bound).mono (fun q hq => ⟨by have := HX2.out; omega, hq.2⟩), ?_, fr_out HGR.out hF9 (fun q e => by omega) HX2.out⟩
          obtain ⟨h0, h1, h2, h3⟩ := HOR.out.fr hF9 (fun q hq e => by omega)
          obtain ⟨⟨l0, g0⟩, ⟨l1_, g1⟩⟩ := And.intro h0 h1
          exact ⟨⟨l0, g0⟩, ⟨l1_, g1⟩, fun k e => ⟨⟨by have := (h2 k e).1; have := HX2.out; omega, (g0.ge k e).2⟩, (h2 k e).2⟩, fun k e => ⟨by have := h3 k e; have := HX2.out; omega, (g1.ge k e).2⟩⟩
        have HZZ : Hid (r.sz ≤ 60) := HMD.out.rz
        clear hF9 HF6 HX2b HOM HOR HGR h4b h5b h3b hS HMD HMC
        go_wp2_with fail
        refine bodyPost_ret (v := .tuple #[.agg #[.int .i64 m.n, .int .i64 m.c, .int .i64 m.prior, .int .i64 m.base, .slice ak m.ks.length ck, .slice ax m.ts.length ct], .agg #[.slice d0 r.nums.length e0, .slice d1 r.cats.length e1, .int .i64 r.label]]) (by rw [results_cc2 rfl]; go_simp) rfl ⟨m, _, _, _, _, r, rfl, HZ.out, HZZ.out, HE.out.1, HE.out.2.1, HE.out.2.2⟩
set_option maxHeartbeats 20000000 in
theorem drawStaged_any (w : World) (a : Option Addr) (len cap : Nat) (hB : Cu.Bytes w w.heap.size a len) (hl : (len : Int) ≤ 1048576) :
    Calls Tryz.prog 6 #[.slice a len cap] w fun e w' => ∃ (m : M) (vk vt u0 u1 : Value) (r : Row), e = .returned (.tuple #[.agg #[.int .i64 m.n, .int .i64 m.c, .int .i64 m.prior, .int .i64 m.base, vk, vt], .agg #[u0, u1, .int .i64 r.label]]) ∧ m.sz ≤ 4500 ∧ r.sz ≤ 60 ∧ OwM w' (fun q => w.heap.size ≤ q ∧ q < w'.heap.size) vk vt m ∧ OwR w' (fun q => w.heap.size ≤ q ∧ q < w'.heap.size) u0 u1 r ∧ Below w.heap.size w w' := by
  go_enter Tryz.func6, Tryz.ntmps6
  go_wp2_with fail
  obtain ⟨W, hW, hsz, hBW, b2, b3⟩ := new2 w z6 z3 29 33
  have hW2 : (w.alloc (.cells #[.int .i64 0, .int .i64 0, .int .i64 0, .int .i64 0, .slice none 0 0, .slice none 0 0] 29)).alloc (.cells #[.slice none 0 0, .slice none 0 0, .int .i64 0] 33) = W := hW
  rw [hW2]
  have hB := hB.keptB hBW.size (fun k hk => hBW.block k hk)
  clear hW hW2
  refine (Cu.open_any _ _ _ _ hB hl).mono ?_
  rintro e w1 ⟨rfl, hg, hc⟩
  have hF1 : Fr (fun q => q = W.heap.size) W w1 := fr_grown hg rfl
  have B2 : Wr w1 w.heap.size 0 z6 := wrB b2 hF1 (by omega)
  have B3 : Wr w1 (w.heap.size + 1) 0 z3 := wrB b3 hF1 (by omega)
  have hBw : Below w.heap.size w w1 := hBW.trans (hF1.bel (fun q e => by omega) hBW.size)
  obtain ⟨b, hb⟩ : ∃ b, W.heap.size = b := ⟨_, rfl⟩
  rw [hb] at hc ⊢
  have hb1 := hc.lt
  have hX2b : w.heap.size + 2 = b := by omega
  clear hg hBW hB b2 b3 hF1 hsz hb
  go_wp2_with fail
  refine (asked_any w1 b 0 hc (by omega) (by omega)).mono ?_
  rintro e w2 ⟨m, vk, vt, u0, u1, r, rfl, hz, hrz, om, ow, hf2⟩
  obtain ⟨ak, ck, ax, ct, rfl, rfl, -⟩ := om.rm
  obtain ⟨⟨lo0, n0⟩, ⟨lo1, n1⟩, n2, n3⟩ := ow
  obtain ⟨d0, e0, rfl, -⟩ := n0.isl
  obtain ⟨d1, e1, rfl, -⟩ := n1.iss
  have B2 := wrB B2 hf2 (by omega)
  have B3 := wrB B3 hf2 (by omega)
  have hs2 := hf2.size
  have HBw : Hid (Below w.heap.size w w2) := hBw.trans (hf2.bel (fun q e => by omega) hBw.size)
  obtain ⟨hl2, ⟨r0, r1, r2, r3, r4, r5⟩, f0, f1, f2, f3, f4, f5⟩ := wr6 B2
  obtain ⟨hl3, ⟨r6, r7, r8⟩, f6, f7, f8⟩ := wr3 B3
  have HOR : Hid (OwR w2 (fun q => w1.heap.size ≤ q ∧ q < w2.heap.size) (.slice d0 r.nums.length e0) (.slice d1 r.cats.length e1) r) := ⟨⟨_, n0⟩, ⟨_, n1⟩, n2, n3⟩
  have HOM : Hid (type_of% om) := om
  have HZ : Hid (m.sz ≤ 4500) := hz
  have HRZ : Hid (r.sz ≤ 60) := hrz
  obtain ⟨P, hP⟩ : ∃ P, w.heap.size = P := ⟨_, rfl⟩
  have HP : Hid (w.heap.size = P) := hP
  rw [hP] at r0 r1 r2 r3 r4 r5 r6 r7 r8 f0 f1 f2 f3 f4 f5 f6 f7 f8 hl2 hl3 ⊢
  rw [hP] at hX2b
  have hFF : Fr (fun q => q = P ∨ q = P + 1) w2 (((((((((w2.setCell ⟨P, 0, none⟩ (.int .i64 m.n)).setCell ⟨P, 1, none⟩ (.int .i64 m.c)).setCell ⟨P, 2, none⟩ (.int .i64 m.prior)).setCell ⟨P, 3, none⟩ (.int .i64 m.base)).setCell ⟨P, 4, none⟩ (.slice ak m.ks.length ck)).setCell ⟨P, 5, none⟩ (.slice ax m.ts.length ct)).setCell ⟨P + 1, 0, none⟩ (.slice d0 r.nums.length e0)).setCell ⟨P + 1, 1, none⟩ (.slice d1 r.cats.length e1)).setCell ⟨P + 1, 2, none⟩ (.int .i64 r.label)) := ((set6 _ _ _ _ _ _ _ _).mono (fun q e => .inl e)).trans ((set3 _ _ _ _ _).mono (fun q e => .inr e))
  have HE : Hid (OwM (((((((((w2.setCell ⟨P, 0, none⟩ (.int .i64 m.n)).setCell ⟨P, 1, none⟩ (.int .i64 m.c)).setCell ⟨P, 2, none⟩ (.int .i64 m.prior)).setCell ⟨P, 3, none⟩ (.int .i64 m.base)).setCell ⟨P, 4, none⟩ (.slice ak m.ks.length ck)).setCell ⟨P, 5, none⟩ (.slice ax m.ts.length ct)).setCell ⟨P + 1, 0, none⟩ (.slice d0 r.nums.length e0)).setCell ⟨P + 1, 1, none⟩ (.slice d1 r.cats.length e1)).setCell ⟨P + 1, 2, none⟩ (.int .i64 r.label)) (fun q => w.heap.size ≤ q ∧ q < (((((((((w2.setCell ⟨P, 0, none⟩ (.int .i64 m.n)).setCell ⟨P, 1, none⟩ (.int .i64 m.c)).setCell ⟨P, 2, none⟩ (.int .i64 m.prior)).setCell ⟨P, 3, none⟩ (.int .i64 m.base)).setCell ⟨P, 4, none⟩ (.slice ak m.ks.length ck)).setCell ⟨P, 5, none⟩ (.slice ax m.ts.length ct)).setCell ⟨P + 1, 0, none⟩ (.slice d0 r.nums.length e0)).setCell ⟨P + 1, 1, none⟩ (.slice d1 r.cats.length e1)).setCell ⟨P + 1, 2, none⟩ (.int .i64 r.label)).heap.size) (.slice ak m.ks.length ck) (.slice ax m.ts.length ct) m ∧ OwR (((((((((w2.setCell ⟨P, 0, none⟩ (.int .i64 m.n)).setCell ⟨P, 1, none⟩ (.int .i64 m.c)).setCell ⟨P, 2, none⟩ (.int .i64 m.prior)).setCell ⟨P, 3, none⟩ (.int .i64 m.base)).setCell ⟨P, 4, none⟩ (.slice ak m.ks.length ck)).setCell ⟨P, 5, none⟩ (.slice ax m.ts.length ct)).setCell ⟨P + 1, 0, none⟩ (.slice d0 r.nums.length e0)).setCell ⟨P + 1, 1, none⟩ (.slice d1 r.cats.length e1)).setCell ⟨P + 1, 2, none⟩ (.int .i64 r.label)) (fun q => w.heap.size ≤ q ∧ q < (((((((((w2.setCell ⟨P, 0, none⟩ (.int .i64 m.n)).setCell ⟨P, 1, none⟩ (.int .i64 m.c)).setCell ⟨P, 2, none⟩ (.int .i64 m.prior)).setCell ⟨P, 3, none⟩ (.int .i64 m.base)).setCell ⟨P, 4, none⟩ (.slice ak m.ks.length ck)).setCell ⟨P, 5, none⟩ (.slice ax m.ts.length ct)).setCell ⟨P + 1, 0, none⟩ (.slice d0 r.nums.length e0)).setCell ⟨P + 1, 1, none⟩ (.slice d1 r.cats.length e1)).setCell ⟨P + 1, 2, none⟩ (.int .i64 r.label)).heap.size) (.slice d0 r.nums.length e0) (.slice d1 r.cats.length e1) r ∧ Below w.heap.size w (((((((((w2.setCell ⟨P, 0, none⟩ (.int .i64 m.n)).setCell ⟨P, 1, none⟩ (.int .i64 m.c)).setCell ⟨P, 2, none⟩ (.int .i64 m.prior)).setCell ⟨P, 3, none⟩ (.int .i64 m.base)).setCell ⟨P, 4, none⟩ (.slice ak m.ks.length ck)).setCell ⟨P, 5, none⟩ (.slice ax m.ts.length ct)).setCell ⟨P + 1, 0, none⟩ (.slice d0 r.nums.length e0)).setCell ⟨P + 1, 1, none⟩ (.slice d1 r.cats.length e1)).setCell ⟨P + 1, 2, none⟩ (.int .i64 r.label))) := by
    have hs9 := hFF.size
    refine ⟨(HOM.out.fr hFF (fun q hq e => by omega)).mono (fun q hq => ⟨by omega, by omega⟩), ?_, HBw.out.trans (hFF.bel (fun q e => by omega) HBw.out.size)⟩
    obtain ⟨h0, h1, h2, h3⟩ := HOR.out.fr hFF (fun q hq e => by omega)
    exact ⟨h0, h1, fun k e => ⟨⟨by have := (h2 k e).1; omega, by have := (h2 k e).1; omega⟩, (h2 k e).2⟩, fun k e => ⟨by have := h3 k e; omega, by have := h3 k e; omega⟩⟩
  clear hFF B2 B3 hf2 om hBw hc hz hrz n0 n1 n2 n3 HOR HOM HBw hP
  go_wp2_with fail
  refine bodyPost_ret (v := .tuple #[.agg #[.int .i64 m.n, .int .i64 m.c, .int .i64 m.prior, .int .i64 m.base, .slice ak m.ks.length ck, .slice ax m.ts.length ct], .agg #[.slice d0 r.nums.length e0, .slice d1 r.cats.length e1, .int .i64 r.label]]) (by rw [results_cc2 rfl]; go_simp) rfl ⟨m, _, _, _, _, r, rfl, HZ.out, HRZ.out, HE.out.1, HE.out.2.1, HE.out.2.2⟩
end Go.Proofs.YtcadgeepknhmfaaGreat.Dm
