/-
  Contracts that the proof leans on, put together in the order in which they build.
-/
import Derived.Test.YtaojoamldoofpaaGreatDoorPart18
import Derived.Test.YtaojoamldoofpaaGreatDoorPart19
import Derived.Test.YtaojoamldoofpaaGreatDoorPart20
import Derived.Test.YtaojoamldoofpaaGreatDoorPart21
import Derived.Deep.Cut
import Derived.Deep.CutRange
import Derived.Test.YtaojoamldoofpaaGreatDoorPart8
import Derived.Test.YtaojoamldoofpaaGreatDoorPart9
import Derived.Test.YtaojoamldoofpaaGreatDoorPart7
/-
  What the model draws for a model: one that was trained, perhaps spoilt.
-/
namespace Go.Proofs.YtaojoamldoofpaaGreatDoor.Dm
set_option maxRecDepth 100000
open Go.RowKit
open Go.Proofs.YtaojoamldoofpaaGreatDoor.Tb Go.Proofs.YtaojoamldoofpaaGreatDoor.Tk
open Go.Proofs.YtaojoamldoofpaaGreatDoor.Md (M OwM wr6 wr3)
open Go.Proofs.YtaojoamldoofpaaGreatDoor.Kt (OwK Kv)
open Go.Proofs.YtaojoamldoofpaaGreatDoor.To (OwT)
open Go.Proofs.YtaojoamldoofpaaGreatDoor.Tt (mtrain strain mtrain_sz set6)
open Go.Proofs.YtaojoamldoofpaaGreatDoor.Sv (Wr Fr fr_grown fr_below new1 new2 new3 wr_new wr2)
set_option linter.unusedVariables false
theorem own_lit {w : World} {T : TypeId} {u0 u1 : Value} : (w.alloc (.cells #[u0, u1] T)).ownsRow w.heap.size T 1 (.slice (some ⟨w.heap.size, 0, none⟩) 2 2) 2 [u0, u1] :=
  ⟨by simp, .inr ⟨w.heap.size, 2, #[u0, u1], rfl, Nat.le_refl _, heap_alloc_new w _, Nat.le_refl _, by unfold maxLen; omega, by simp, by simp⟩⟩
set_option maxHeartbeats 20000000 in
theorem model_any (w : World) (b : Nat) (KC : Int) (hc : Cu.Cur w b KC) (h0K : 0 ≤ KC) (hK : KC ≤ 1000000000000) :
    Calls Tryz.prog 18 #[.pointer (some ⟨b, 0, none⟩)] w fun e w' => ∃ (m : M) (vk vt : Value), e = .returned (.agg #[.int .i64 m.n, .int .i64 m.c, .int .i64 m.prior, .int .i64 m.base, vk, vt]) ∧ m.sz ≤ 4500 ∧ OwM w' (fun q => w.heap.size ≤ q ∧ q < w'.heap.size) vk vt m ∧ Fr (fun q => q = b) w w' ∧ Cu.Cur w' b (KC + 1000) := by
  have hbw := hc.lt
  have HC : Hid (Cu.Cur w b KC) := hc
  clear hc
  go_enter Tryz.func18, Tryz.ntmps18
  go_wp2_with fail
  obtain ⟨W, hW, hsz, hB, b2⟩ := new1 w z6 29
  have hW2 : w.alloc (.cells #[.int .i64 0, .int .i64 0, .int .i64 0, .int .i64 0, .slice none 0 0, .slice none 0 0] 29) = W := hW
  rw [hW2]
  have hcW : Cu.Cur W b KC := by rw [← hW]; exact HC.out.alloc _
  clear hW hW2
  obtain ⟨X2, hX2⟩ : ∃ x, w.heap.size = x := ⟨_, rfl⟩
  have HX2 : Hid (w.heap.size = X2) := hX2
  rw [hX2] at b2 ⊢
  refine (Db.table_any W b KC hcW (by omega)).mono ?_
  rintro e w1 ⟨n, c, v, rs, rfl, hrs, ot, hg1, hc1⟩
  obtain ⟨a, cap, rfl, -⟩ := ot.isr
  have HRS : Hid (rs.length + szR rs ≤ 1048576) := by show _ ≤ _; have := szR_all (fun r hr => (hrs.2.2.2.2.2 r hr).1); have := hrs.2.2.2.2.1; omega
  have hb0 : b < X2 := by omega
  have hF1 : Fr (fun q => q = b) W w1 := fr_grown hg1 rfl
  have hs1 := hF1.size
  clear hrs hg1 hcW
  go_wp2_with fail
  obtain ⟨W1, hW1, hsz1, hB1, b3⟩ := new1 w1 [.int .i64 n, .int .i64 c, .slice a rs.length cap] 79
  rw [hW1]
  have hcW1 : Cu.Cur W1 b (KC + 300) := by rw [← hW1]; exact hc1.alloc _
  refine (Dc.conf_any W1 b (KC + 300) hcW1 (by omega)).mono ?_
  rintro e w2 ⟨k, rfl, hg2, hc2⟩
  have hF2 : Fr (fun q => q = b) W1 w2 := fr_grown hg2 rfl
  have hs2 := hF2.size
  clear hW1 hg2 hcW1
  obtain ⟨W2, hW2, hsz2, hB2, b4⟩ := new1 w2 k.cells 82
  have hW2b : w2.alloc (.cells #[.int .i64 k.trees, .int .i64 k.depth, .int .i64 k.most, .int .i64 k.rate, .int .i64 k.l2, .int .i64 k.prior, .int .i64 k.seed] 82) = W2 := hW2
  have hF : Fr (fun q => q = b) W W2 := ((hF1.trans (fr_below hB1)).trans hF2).trans (fr_below hB2)
  have hF0 : Fr (fun q => q = b) w W2 := (fr_below hB).trans hF
  have ot2 : OwnT W2 W.heap.size w1.heap.size (.slice a rs.length cap) rs := ot.keptAt (fun q h1 h2 h3 => (((fr_below hB1).trans hF2).trans (fr_below (B := fun q => q = b) hB2)).block q h3 (by omega))
  have hcW2 : Cu.Cur W2 b (KC + 400) := (by rw [← hW2]; exact hc2.alloc _ : Cu.Cur W2 b (KC + 300 + 100)).mono (by omega)
  have B2 : Wr W2 X2 0 z6 := wrB b2 hF (by omega)
  have B3 : Wr W2 w1.heap.size 0 [.int .i64 n, .int .i64 c, .slice a rs.length cap] := wrB b3 (hF2.trans (fr_below hB2)) (by omega)
  have HIS : Hid (∀ X, Below W2.heap.size W2 X → IsR X a rs) := fun X hX => by
    obtain ⟨_, _, e, i⟩ := (ot2.below hX).isr
    injection e with e
    subst e
    exact i
  have HB2 : Hid (type_of% B2) := B2
  have HB3 : Hid (type_of% B3) := B3
  have HB4 : Hid (type_of% b4) := b4
  have HF0 : Hid (type_of% hF0) := hF0
  have HCW : Hid (type_of% hcW2) := hcW2
  obtain ⟨D3, hD3⟩ : ∃ x, w1.heap.size = x := ⟨_, rfl⟩
  obtain ⟨D4, hD4⟩ : ∃ x, w2.heap.size = x := ⟨_, rfl⟩
  have h23 : X2 < D3 := by omega
  have h34 : D3 < D4 := by omega
  have h4W : D4 < W2.heap.size := by omega
  rw [hD3] at HB3 ⊢
  rw [hD4] at HB4
  obtain ⟨hl3, ⟨t0, t1, t2⟩, -⟩ := wr3 B3
  have hl3b := hl3
  rw [hD3] at t0 t1 t2 hl3
  obtain ⟨hl4, q0, q1, q2, q3, q4, q5, q6⟩ := Tn.wr7 b4
  rw [hD4] at q0 q1 q2 q3 q4 q5 q6 hl4
  go_wp2_with fail
  clear hB b2 ot hc1 hF1 hs1 hsz1 hB1 b3 hc2 hF2 hs2 hsz2 hB2 hF hF0 ot2 hcW2 b4 B2 B3 hW2 hW2b hD3 hD4 hsz hX2 hl3b
  refine (strain W2 n c a cap rs k (HIS.out _ (Below.refl _ _)) HRS.out).mono ?_
  rintro e w3 ⟨vk, vt, rfl, om, hb3⟩
  have hmz := mtrain_sz n c rs k
  generalize mtrain n c rs k = m at om hmz ⊢
  generalize (tok n c rs && Cf.cok k) = ok
  obtain ⟨ak, ck, ax, ct, rfl, rfl, -⟩ := om.rm
  have HOM : Hid (type_of% om) := om
  have HMZ : Hid (m.sz ≤ 4000) := hmz
  have HB3b : Hid (Below W2.heap.size W2 w3) := hb3
  have hs3 := hb3.size
  clear om hmz hb3
  go_upto_if 18 with fail
  obtain ⟨W3, hW3, hsz3, hB5, b5⟩ := new1 w3 (mc m (.slice ak m.ks.length ck) (.slice ax m.ts.length ct)) 29
  have hW3b : w3.alloc (.cells #[.int .i64 m.n, .int .i64 m.c, .int .i64 m.prior, .int .i64 m.base, .slice ak m.ks.length ck, .slice ax m.ts.length ct] 29) = W3 := hW3
  rw [hW3b]
  obtain ⟨X5, hX5⟩ : ∃ x, w3.heap.size = x := ⟨_, rfl⟩
  rw [hX5] at b5 ⊢
  have hBB : Below W2.heap.size W2 W3 := HB3b.out.trans (hB5.mono HB3b.out.size)
  have HMS : Hid (Ms w W3 b X2 X5 (KC + 400) 4000 m (.slice ak m.ks.length ck) (.slice ax m.ts.length ct)) := ⟨curF (B := fun _ => False) HCW.out (fr_below hBB) (fun _ e => e.elim), HF0.out.trans (fr_below hBB), by omega, HX2.out, by omega, HB2.out.below hBB, b5, (HOM.out.below hB5).mono (fun q hq => ⟨by omega, by omega⟩), HMZ.out⟩
  have HBT : Hid (Wr W3 D3 0 [.int .i64 n, .int .i64 c, .slice a rs.length cap]) := HB3.out.below hBB
  have HIS3 : Hid (∀ X, Below W3.heap.size W3 X → IsR X a rs) := fun X hX => HIS.out X (hBB.trans (hX.mono hBB.size))
  have hX5W : X5 < W3.heap.size := by omega
  have h25 : X2 < X5 := by omega
  clear hW3 hW3b hsz3 hB5 b5 hX5 hBB hs3 HOM HMZ HB3b HIS HB2 HB3 HB4 HF0 HCW t0 t1 t2 hl3 q0 q1 q2 q3 q4 q5 q6 hl4 h34 h4W
  go_cut [] from 17 (fun wx => ∃ (m : M) (vk vt : Value), Ms w wx b X2 X5 (KC + 400) 4000 m vk vt)
  case first =>
    cases ok with
    | true =>
      go_wp2_with fail
      go_meet
      case rel => exact ⟨_, _, _, HMS.out⟩
    | false =>
      obtain ⟨hl3, ⟨t0, t1, t2⟩, -⟩ := wr3 HBT.out
      obtain ⟨hl5, ⟨x0, x1, x2, x3, x4, x5⟩, f0, f1, f2, f3, f4, f5⟩ := wr6 HMS.out.b5
      go_wp2_with fail
      refine (strain W3 n c a cap rs ⟨2, 2, 3, 500, 1, 0, 5⟩ (HIS3.out _ (Below.refl _ _)) HRS.out).mono ?_
      rintro e w5 ⟨vk5, vt5, rfl, om5, hb5⟩
      have hmz5 := mtrain_sz n c rs ⟨2, 2, 3, 500, 1, 0, 5⟩
      generalize mtrain n c rs ⟨2, 2, 3, 500, 1, 0, 5⟩ = m5 at om5 hmz5 ⊢
      obtain ⟨ak5, ck5, ax5, ct5, rfl, rfl, -⟩ := om5.rm
      have HP : Hid (type_of% (HMS.out.put6 hb5 om5 hmz5)) := HMS.out.put6 hb5 om5 hmz5
      clear hl5 x0 x1 x2 x3 x4 x5 f0 f1 f2 f3 f4 f5 hl3 t0 t1 t2
      obtain ⟨hl5, ⟨x0, x1, x2, x3, x4, x5⟩, f0, f1, f2, f3, f4, f5⟩ := wr6 (HMS.out.b5.below hb5)
      clear om5 hmz5 hb5
      go_wp2_with fail
      go_meet
      case rel => exact ⟨_, _, _, HP.out⟩
  case rest =>
    clear HMS HBT HIS3 HRS
    obtain ⟨m, vk, vt, ms⟩ := hcut
    obtain ⟨ak, ck, ax, ct, rfl, rfl, -⟩ := ms.om.rm
    have HMS : Hid (type_of% ms) := ms
    clear ms
    go_wp2_with fail
    refine (Cu.once_any wc b (KC + 400) HMS.out.cu (by omega) 10 (by omega) (by omega)).mono ?_
    rintro e w6 ⟨oc, rfl, hg6, hs6, hc6⟩
    have HM6 : Hid (Ms w w6 b X2 X5 (KC + 401) 4000 m (.slice ak m.ks.length ck) (.slice ax m.ts.length ct)) := HMS.out.step hg6 (hc6.mono (by omega))
    clear hg6 hs6 hc6 HMS
    go_upto_if 26 with fail
    go_cut [] from 26 (fun wx => ∃ (m : M) (vk vt : Value), Ms w wx b X2 X5 (KC + 1000) 4500 m vk vt)
    case first =>
      cases oc with
      | false =>
        go_wp2_with fail
        go_meet
        case rel => exact ⟨_, _, _, HM6.out.lower (by omega) (by omega)⟩
      | true =>
        go_wp2_with fail
        refine (Cu.pick_any w6 b (KC + 401) HM6.out.cu (by omega) 5 (by omega)).mono ?_
        rintro e w7 ⟨y, rfl, y0, y1, hg7, hs7, hc7⟩
        have HM7 : Hid (Ms w w7 b X2 X5 (KC + 402) 4000 m (.slice ak m.ks.length ck) (.slice ax m.ts.length ct)) := HM6.out.step hg7 (hc7.mono (by omega))
        clear hg7 hs7 hc7 HM6
        have hy : y = 0 ∨ y = 1 ∨ y = 2 ∨ y = 3 ∨ y = 4 := by have := y1 (by omega); omega
        clear y0 y1
        rcases hy with rfl | rfl | rfl | rfl | rfl
        · go_wp2_with fail
          refine (Cu.raw_any w7 b (KC + 402) HM7.out.cu (by omega)).mono ?_
          rintro e w8 ⟨z, rfl, _, _, hg8, hc8⟩
          have HM8 : Hid (Ms w w8 b X2 X5 (KC + 404) 4000 m (.slice ak m.ks.length ck) (.slice ax m.ts.length ct)) := HM7.out.step hg8 (hc8.mono (by omega))
          clear hg8 hc8
          obtain ⟨hl5, ⟨x0, x1, x2, x3, x4, x5⟩, f0, f1, f2, f3, f4, f5⟩ := wr6 HM8.out.b5
          go_wp2_with fail
          go_meet
          case rel => exact ⟨⟨m.n, m.c, m.prior, z, m.ks, m.ts⟩, _, _, (HM8.out.num (m' := ⟨m.n, m.c, m.prior, z, m.ks, m.ts⟩) (o := 3) (by omega) (by simp [mc]) rfl rfl).lower (by omega) (by omega)⟩
        · go_wp2_with fail
          obtain ⟨B, hBn, hB0, hB1⟩ := HM7.out.forT
          have HBN : Hid (type_of% hBn) := hBn
          have HB0 : Hid (type_of% hB0) := hB0
          have HB1 : Hid (type_of% hB1) := hB1
          clear hBn hB0 hB1
          have HTL : Hid (m.ts.length ≤ 1048576) := by show _ ≤ _; have := HM7.out.sz; unfold M.sz at this; omega
          have st : Below w7.heap.size w7 w7.drew := Tm.below_drew w7
          have MD : Ms w w7.drew b X2 X5 (KC + 402) 4000 m (.slice ak m.ks.length ck) (.slice ax m.ts.length ct) := HM7.out.below st
          have HMD : Hid (type_of% MD) := MD
          have hS := (wr6 MD.b5).2.1.2.2.2.2.2
          clear MD
          refine Hd.start (fun X => X.cell? ⟨X5, 5, none⟩ = some (.slice ax m.ts.length ct)) 7 (by kernel_rfl) ?_
          generalize w7.drew = w0 at st HMD hS ⊢
          refine Hd.After.pureD (i := 0) (some 53) (.pointer (some ⟨X5, 5, none⟩)) rfl rfl (by kernel_rfl) (by decide) (by kernel_rfl) (by kernel_rfl) (fun _ _ _ h => h) (hS) (Or.inl ⟨by rfl, ?_⟩) ?_
          · intro X; go_simp; try with_reducible rfl
          (first | simp only [Act.put, List.setIfInBounds_toArray, List.set_cons_zero, List.set_cons_succ] | skip)
          refine Hd.After.takeD (i := 1) (some 54) (.slice ax m.ts.length ct) rfl rfl (by kernel_rfl) (by kernel_rfl) (by kernel_rfl) (by kernel_rfl) (by kernel_rfl) (fun _ _ _ h => h) (hS) (Or.inl ⟨by rfl, ?_⟩) ?_
          · rintro X s5; go_simp; try with_reducible rfl
          (first | simp only [Act.put, List.setIfInBounds_toArray, List.set_cons_zero, List.set_cons_succ] | skip)
          refine Hd.After.pureD (i := 2) (some 55) (.pointer (some ⟨b, 0, none⟩)) rfl rfl (by kernel_rfl) (by decide) (by kernel_rfl) (by kernel_rfl) (fun _ _ _ h => h) (hS) (Or.inl ⟨by rfl, ?_⟩) ?_
          · intro X; go_simp; try with_reducible rfl
          (first | simp only [Act.put, List.setIfInBounds_toArray, List.set_cons_zero, List.set_cons_succ] | skip)
          refine Hd.After.one (i := 3) (by kernel_rfl) rfl rfl ?_
          intro K hK
          go_simp
          go_wp2_with (go_at_call 45; refine (Df.tree_any w0 b (KC + 402) HMD.out.cu (by omega) (by omega)).mono ?_; rintro e w8 ⟨v0, v1, t, rfl, hzt, p0, p1, hap, hg8, hc8⟩)
          have M8 : Ms w w8 b X2 X5 (KC + 602) 4000 m (.slice ak m.ks.length ck) (.slice ax m.ts.length ct) := HMD.out.step hg8 (hc8.mono (by omega))
          have HM8 : Hid (type_of% M8) := M8
          have HF8 : Hid (Fr (fun q => q = b) w7 w8) := (fr_below st).trans (fr_grown hg8 rfl)
          have hs8 : w7.heap.size ≤ w8.heap.size := HF8.out.size
          have hS8 := (wr6 M8.b5).2.1.2.2.2.2.2
          obtain ⟨a0, c0, rfl, -, -⟩ := p0.isp
          obtain ⟨a1, c1, rfl, -⟩ := p1.isl
          have HP0 : Hid (type_of% p0) := p0
          have HP1 : Hid (type_of% p1) := p1
          have HAP : Hid (type_of% hap) := hap
          have HZT : Hid (type_of% hzt) := hzt
          clear M8 hg8 hc8 p0 p1 hap hzt
          refine hK _ _ (fun _ => hS8) ?_
          clear hK K
          (first | simp only [Act.put, List.setIfInBounds_toArray, List.set_cons_zero, List.set_cons_succ] | skip)
          have hA : Below w8.heap.size w8 (w8.alloc (.cells #[.slice a0 t.sp.length c0, .slice a1 t.lv.length c1] 56)) := (Below.refl _ _).alloc (Nat.le_refl _) _
          have hS9 := (wr6 (HM8.out.below hA).b5).2.1.2.2.2.2.2
          refine Hd.After.one (i := 4) (by kernel_rfl) rfl rfl ?_
          intro K hK
          go_simp
          refine hK _ _ (fun _ => hS9) ?_
          clear hK K
          (first | simp only [Act.put, List.setIfInBounds_toArray, List.set_cons_zero, List.set_cons_succ] | skip)
          refine Hd.After.one (i := 5) (by kernel_rfl) rfl rfl ?_
          intro K hK
          refine Ps.wp_pushT _ _ rfl (some 58) rfl B w7.heap.size _ m.ts (HB0.out _ (HF8.out.trans (fr_below hA))) w8.heap.size a0 a1 c0 c1 _ _ t rfl rfl (by simp) (by simp) ((HP0.out.below hA).mono st.size) ((HP1.out.below hA).mono st.size) (fun q e e2 => HAP.out.1.elim (fun h => by rw [h] at e2; cases e2) (fun h => h (e2.trans e.symm))) HBN.out (Nat.le_trans hs8 hA.size) HTL.out ?_
          intro a9 c9 w9 hok9 hg9
          have HMN : Hid (type_of% (HB1.out _ (KC + 1000) w9 (.slice a9 (m.ts.length + 1) c9) t (HF8.out.trans (fr_below hA)) ((HM8.out.below hA).cu.mono (by omega)) hok9 hg9 HZT.out)) := HB1.out _ (KC + 1000) w9 (.slice a9 (m.ts.length + 1) c9) t (HF8.out.trans (fr_below hA)) ((HM8.out.below hA).cu.mono (by omega)) hok9 hg9 HZT.out
          have hw9 := HM8.out.keptT hA hg9
          obtain ⟨hl9, ⟨_, _, _, _, _, z5⟩, _, _, _, _, _, g5⟩ := wr6 hw9
          clear hok9 hg9 hw9
          refine hK _ _ (fun _ => z5) ?_
          clear hK K
          (first | simp only [Act.put, List.setIfInBounds_toArray, List.set_cons_zero, List.set_cons_succ] | skip)
          refine Hd.After.pureD (i := 6) (some 59) (.pointer (some ⟨X5, 5, none⟩)) rfl rfl (by kernel_rfl) (by decide) (by kernel_rfl) (by kernel_rfl) (fun _ _ _ h => h) (z5) (Or.inl ⟨by rfl, ?_⟩) ?_
          · intro X; go_simp; try with_reducible rfl
          (first | simp only [Act.put, List.setIfInBounds_toArray, List.set_cons_zero, List.set_cons_succ] | skip)
          refine Hd.After.one (i := 7) (by kernel_rfl) rfl rfl ?_
          intro K hK
          go_simp
          refine hK _ _ (fun h => by cases h) ?_
          clear hK K
          refine Hd.After.done (by kernel_rfl) ?_ _
          go_wp2_with fail
          go_meet
          case rel => exact ⟨_, _, _, HMN.out.lower (by omega) (by omega)⟩
        · obtain ⟨hl5, ⟨x0, x1, x2, x3, x4, x5⟩, f0, f1, f2, f3, f4, f5⟩ := wr6 HM7.out.b5
          obtain ⟨B, hBn, hB0, hB1⟩ := HM7.out.forK
          have HBN : Hid (type_of% hBn) := hBn
          have HB0 : Hid (type_of% hB0) := hB0
          have HB1 : Hid (type_of% hB1) := hB1
          clear hBn hB0 hB1
          have HTL : Hid (m.ks.length ≤ 1048576) := by show _ ≤ _; have := HM7.out.sz; unfold M.sz at this; omega
          obtain ⟨WA, hWA⟩ : ∃ X, ((w7.alloc (.cells #[.string ⟨#[97]⟩, .string ⟨#[97]⟩] 9)).alloc (.cells #[.int .i64 1, .int .i64 2] 3)).alloc (.cells #[.slice (some ⟨w7.heap.size, 0, none⟩) 2 2, .slice (some ⟨w7.heap.size + 1, 0, none⟩) 2 2] 47) = X := ⟨_, rfl⟩
          have hA1 : Below w7.heap.size w7 (w7.alloc (.cells #[.string ⟨#[97]⟩, .string ⟨#[97]⟩] 9)) := (Below.refl _ _).alloc (Nat.le_refl _) _
          have hA2 : Below w7.heap.size w7 ((w7.alloc (.cells #[.string ⟨#[97]⟩, .string ⟨#[97]⟩] 9)).alloc (.cells #[.int .i64 1, .int .i64 2] 3)) := hA1.alloc hA1.size _
          have hA3 : Below w7.heap.size w7 WA := by rw [← hWA]; exact hA2.alloc hA2.size _
          have O1 : Ls.Own WA w7.heap.size (.slice (some ⟨w7.heap.size, 0, none⟩) 2 2) [⟨#[97]⟩, ⟨#[97]⟩] := by
            have h1 : Ls.Own (w7.alloc (.cells #[.string ⟨#[97]⟩, .string ⟨#[97]⟩] 9)) w7.heap.size (.slice (some ⟨w7.heap.size, 0, none⟩) 2 2) [⟨#[97]⟩, ⟨#[97]⟩] := own_lit
            rw [← hWA]
            exact (h1.below ((Below.refl _ _).alloc (Nat.le_refl _) _)).below ((Below.refl _ _).alloc (Nat.le_refl _) _)
          have O2 : Li.Own WA w7.heap.size (.slice (some ⟨w7.heap.size + 1, 0, none⟩) 2 2) [1, 2] := by
            have h1 : Li.Own ((w7.alloc (.cells #[.string ⟨#[97]⟩, .string ⟨#[97]⟩] 9)).alloc (.cells #[.int .i64 1, .int .i64 2] 3)) (w7.heap.size + 1) (.slice (some ⟨w7.heap.size + 1, 0, none⟩) 2 2) [1, 2] := by
              have h2 := own_lit (w := w7.alloc (.cells #[.string ⟨#[97]⟩, .string ⟨#[97]⟩] 9)) (T := 3) (u0 := .int .i64 1) (u1 := .int .i64 2)
              rw [World.size_alloc] at h2
              exact h2
            rw [← hWA]
            exact (h1.below ((Below.refl _ _).alloc (Nat.le_refl _) _)).mono (by omega)
          have hWE : WA.cell? ⟨w7.heap.size + 1 + 1, 0, none⟩ = some (.slice (some ⟨w7.heap.size, 0, none⟩) 2 2) ∧ WA.cell? ⟨w7.heap.size + 1 + 1, 1, none⟩ = some (.slice (some ⟨w7.heap.size + 1, 0, none⟩) 2 2) := by
            have h9 := (wr2 (wr_new ((w7.alloc (.cells #[.string ⟨#[97]⟩, .string ⟨#[97]⟩] 9)).alloc (.cells #[.int .i64 1, .int .i64 2] 3)) [.slice (some ⟨w7.heap.size, 0, none⟩) 2 2, .slice (some ⟨w7.heap.size + 1, 0, none⟩) 2 2] 47)).2.1
            rw [World.size_alloc, World.size_alloc] at h9
            rw [← hWA]
            exact h9
          have HWA : Hid (type_of% hWA) := hWA
          have HA3 : Hid (type_of% hA3) := hA3
          have HO1 : Hid (type_of% O1) := O1
          have HO2 : Hid (type_of% O2) := O2
          have HWE : Hid (type_of% hWE) := hWE
          clear hWA hA1 hA2 hA3 O1 O2 hWE
          go_wp2_with (at_builtin; rw [HWA.out]; refine Ps.wpl_pushK rfl _ _ rfl B w7.heap.size _ m.ks (HB0.out _ (fr_below HA3.out)) (w7.heap.size + 1 + 1) _ _ _ _ _ _ ⟨[⟨#[97]⟩, ⟨#[97]⟩], [1, 2]⟩ rfl rfl HWE.out.1 HWE.out.2 HO1.out HO2.out (fun q e e2 => by simp [Value.ownBlock] at e e2; omega) HBN.out HA3.out.size HTL.out ?_; intro a9 c9 w9 hok9 hg9; have HMN : Hid (type_of% (HB1.out _ (KC + 1000) w9 (.slice a9 (m.ks.length + 1) c9) _ (fr_below HA3.out) ((HM7.out.below HA3.out).cu.mono (by omega)) hok9 hg9 (by decide))) := HB1.out _ (KC + 1000) w9 (.slice a9 (m.ks.length + 1) c9) _ (fr_below HA3.out) ((HM7.out.below HA3.out).cu.mono (by omega)) hok9 hg9 (by decide); obtain ⟨hl9, ⟨z0, z1, z2, z3, z4, z5⟩, g0, g1, g2, g3, g4, g5⟩ := wr6 (HM7.out.keptK HA3.out hg9); clear hok9 hg9)
          go_meet
          case rel => exact ⟨_, _, _, HMN.out.lower (by omega) (by omega)⟩
        · go_wp2_with fail
          refine (Cu.raw_any w7 b (KC + 402) HM7.out.cu (by omega)).mono ?_
          rintro e w8 ⟨z, rfl, _, _, hg8, hc8⟩
          have HM8 : Hid (Ms w w8 b X2 X5 (KC + 404) 4000 m (.slice ak m.ks.length ck) (.slice ax m.ts.length ct)) := HM7.out.step hg8 (hc8.mono (by omega))
          clear hg8 hc8
          obtain ⟨hl5, ⟨x0, x1, x2, x3, x4, x5⟩, f0, f1, f2, f3, f4, f5⟩ := wr6 HM8.out.b5
          go_wp2_with fail
          go_meet
          case rel => exact ⟨⟨z, m.c, m.prior, m.base, m.ks, m.ts⟩, _, _, (HM8.out.num (m' := ⟨z, m.c, m.prior, m.base, m.ks, m.ts⟩) (o := 0) (by omega) (by simp [mc]) rfl rfl).lower (by omega) (by omega)⟩
        · obtain ⟨hl5, ⟨x0, x1, x2, x3, x4, x5⟩, f0, f1, f2, f3, f4, f5⟩ := wr6 HM7.out.b5
          by_cases hks : 0 < m.ks.length
          · have hks0 : (0 : Int) < (m.ks.length : Int) := by omega
            go_wp2_with fail
            obtain ⟨g, cv, a0, c0, n0, e0, en, k1, kf, hgl, hbg, hg5, hne, hnz, hown, hput⟩ := HM7.out.forV hks
            injection e0 with e0 _ e1
            subst e0
            subst e1
            have HOWN : Hid (type_of% hown) := hown
            have HPUT : Hid (type_of% hput) := hput
            have HNE : Hid (type_of% hne) := hne
            have HEN : Hid (type_of% en) := en
            clear hown hput hne en x0 x1 x2 x3 x4 x5 f0 f1 f2 f3 f4 f5 hl5
            have st : Below w7.heap.size w7 w7.drew := Tm.below_drew w7
            have MD : Ms w w7.drew b X2 X5 (KC + 402) 4000 m (.slice (some ⟨g, 0, none⟩) m.ks.length ck) (.slice ax m.ts.length ct) := HM7.out.below st
            have HMD : Hid (type_of% MD) := MD
            have hS : w7.drew.cell? ⟨X5, 4, none⟩ = some (.slice (some ⟨g, 0, none⟩) m.ks.length ck) ∧ w7.drew.cell? ⟨g, 1, none⟩ = some (.slice a0 n0 c0) := ⟨(wr6 MD.b5).2.1.2.2.2.2.1, (World.cell?_of_block (st.block g hgl)).trans k1⟩
            have hgf : w7.drew.heap.size = w7.heap.size := rfl
            have HK1 : Hid (type_of% k1) := k1
            have HKF : Hid (type_of% kf) := kf
            clear MD hgf k1 kf
            refine Hd.start (fun X => X.cell? ⟨X5, 4, none⟩ = some (.slice (some ⟨g, 0, none⟩) m.ks.length ck) ∧ X.cell? ⟨g, 1, none⟩ = some (.slice a0 n0 c0)) 13 (by kernel_rfl) ?_
            generalize w7.drew = w0 at st HMD hS ⊢
            refine Hd.After.pureD (i := 0) (some 33) (.pointer (some ⟨X5, 4, none⟩)) rfl rfl (by kernel_rfl) (by decide) (by kernel_rfl) (by kernel_rfl) (fun _ _ _ h => h) (hS) (Or.inl ⟨by rfl, ?_⟩) ?_
            · intro X; go_simp; try with_reducible rfl
            (first | simp only [Act.put, List.setIfInBounds_toArray, List.set_cons_zero, List.set_cons_succ] | skip)
            refine Hd.After.takeD (i := 1) (some 34) (.slice (some ⟨g, 0, none⟩) m.ks.length ck) rfl rfl (by kernel_rfl) (by kernel_rfl) (by kernel_rfl) (by kernel_rfl) (by kernel_rfl) (fun _ _ _ h => h) (hS) (Or.inl ⟨by rfl, ?_⟩) ?_
            · rintro X ⟨s0, s1⟩; go_simp; try with_reducible rfl
            (first | simp only [Act.put, List.setIfInBounds_toArray, List.set_cons_zero, List.set_cons_succ] | skip)
            refine Hd.After.pureD (i := 2) (some 35) (.pointer (some ⟨X5, 4, none⟩)) rfl rfl (by kernel_rfl) (by decide) (by kernel_rfl) (by kernel_rfl) (fun _ _ _ h => h) (hS) (Or.inl ⟨by rfl, ?_⟩) ?_
            · intro X; go_simp; try with_reducible rfl
            (first | simp only [Act.put, List.setIfInBounds_toArray, List.set_cons_zero, List.set_cons_succ] | skip)
            refine Hd.After.takeD (i := 3) (some 36) (.slice (some ⟨g, 0, none⟩) m.ks.length ck) rfl rfl (by kernel_rfl) (by kernel_rfl) (by kernel_rfl) (by kernel_rfl) (by kernel_rfl) (fun _ _ _ h => h) (hS) (Or.inl ⟨by rfl, ?_⟩) ?_
            · rintro X ⟨s0, s1⟩; go_simp; try with_reducible rfl
            (first | simp only [Act.put, List.setIfInBounds_toArray, List.set_cons_zero, List.set_cons_succ] | skip)
            refine Hd.After.pureD (i := 4) (some 37) (.pointer (some ⟨g, 0, none⟩)) rfl rfl (by kernel_rfl) (by decide) (by kernel_rfl) (by kernel_rfl) (fun _ _ _ h => h) (hS) (Or.inl ⟨by rfl, ?_⟩) ?_
            · intro X; go_simp; try with_reducible rfl
            (first | simp only [Act.put, List.setIfInBounds_toArray, List.set_cons_zero, List.set_cons_succ] | skip)
            refine Hd.After.pureD (i := 5) (some 38) (.pointer (some ⟨g, 1, none⟩)) rfl rfl (by kernel_rfl) (by decide) (by kernel_rfl) (by kernel_rfl) (fun _ _ _ h => h) (hS) (Or.inl ⟨by rfl, ?_⟩) ?_
            · intro X; go_simp; try with_reducible rfl
            (first | simp only [Act.put, List.setIfInBounds_toArray, List.set_cons_zero, List.set_cons_succ] | skip)
            refine Hd.After.takeD (i := 6) (some 39) (.slice a0 n0 c0) rfl rfl (by kernel_rfl) (by kernel_rfl) (by kernel_rfl) (by kernel_rfl) (by kernel_rfl) (fun _ _ _ h => h) (hS) (Or.inl ⟨by rfl, ?_⟩) ?_
            · rintro X ⟨s0, s1⟩; go_simp; try with_reducible rfl
            (first | simp only [Act.put, List.setIfInBounds_toArray, List.set_cons_zero, List.set_cons_succ] | skip)
            refine Hd.After.pureD (i := 7) (some 40) (.pointer (some ⟨b, 0, none⟩)) rfl rfl (by kernel_rfl) (by decide) (by kernel_rfl) (by kernel_rfl) (fun _ _ _ h => h) (hS) (Or.inl ⟨by rfl, ?_⟩) ?_
            · intro X; go_simp; try with_reducible rfl
            (first | simp only [Act.put, List.setIfInBounds_toArray, List.set_cons_zero, List.set_cons_succ] | skip)
            refine Hd.After.one (i := 8) (by kernel_rfl) rfl rfl ?_
            intro K hK
            go_simp
            go_wp2_with (go_at_call 44; refine (Cu.raw_any w0 b (KC + 402) HMD.out.cu (by omega)).mono ?_; rintro e w8 ⟨z, rfl, _, _, hg8, hc8⟩)
            have HM8 : Hid (Ms w w8 b X2 X5 (KC + 404) 4000 m (.slice (some ⟨g, 0, none⟩) m.ks.length ck) (.slice ax m.ts.length ct)) := HMD.out.step hg8 (hc8.mono (by omega))
            have HF8 : Hid (Fr (fun q => q = b) w7 w8) := (fr_below st).trans (fr_grown hg8 rfl)
            have hS8 : w8.cell? ⟨X5, 4, none⟩ = some (.slice (some ⟨g, 0, none⟩) m.ks.length ck) ∧ w8.cell? ⟨g, 1, none⟩ = some (.slice a0 n0 c0) := ⟨(wr6 HM8.out.b5).2.1.2.2.2.2.1, (World.cell?_of_block (HF8.out.block g hgl (by omega))).trans HK1.out⟩
            clear hg8 hc8
            refine hK _ _ (fun _ => hS8) ?_
            clear hK K
            (first | simp only [Act.put, List.setIfInBounds_toArray, List.set_cons_zero, List.set_cons_succ] | skip)
            have hA : Below w8.heap.size w8 (w8.alloc (.cells #[.int .i64 z] 3)) := (Below.refl _ _).alloc (Nat.le_refl _) _
            have HFA : Hid (Fr (fun q => q = b) w7 (w8.alloc (.cells #[.int .i64 z] 3))) := HF8.out.trans (fr_below hA)
            have hS9 : (w8.alloc (.cells #[.int .i64 z] 3)).cell? ⟨X5, 4, none⟩ = some (.slice (some ⟨g, 0, none⟩) m.ks.length ck) ∧ (w8.alloc (.cells #[.int .i64 z] 3)).cell? ⟨g, 1, none⟩ = some (.slice a0 n0 c0) := ⟨(wr6 (HM8.out.below hA).b5).2.1.2.2.2.2.1, (World.cell?_of_block (HFA.out.block g hgl (by omega))).trans HK1.out⟩
            refine Hd.After.one (i := 9) (by kernel_rfl) rfl rfl ?_
            intro K hK
            go_simp
            refine hK _ _ (fun _ => hS9) ?_
            clear hK K
            (first | simp only [Act.put, List.setIfInBounds_toArray, List.set_cons_zero, List.set_cons_succ] | skip)
            refine Hd.After.one (i := 10) (by kernel_rfl) rfl rfl ?_
            intro K hK
            refine Sn.wp_snocI _ _ rfl (some 43) rfl 0 (.slice a0 n0 c0) m.ks[0].vs w8.heap.size z rfl rfl (by simp) (HOWN.out _ HFA.out) (Nat.zero_le _) (by rw [HEN.out]; omega) ?_
            intro g9 c9 w9 hown9 hg9 hat9
            rw [HEN.out] at hown9 ⊢
            have HU : Hid ((Value.slice (some ⟨g9, 0, none⟩) (n0 + 1) c9).ownBlock = (Value.slice a0 n0 c0).ownBlock ∨ ∃ F, (Value.slice (some ⟨g9, 0, none⟩) (n0 + 1) c9).ownBlock = some F ∧ (w8.alloc (.cells #[.int .i64 z] 3)).heap.size ≤ F) := by
              show _ ∨ _
              rcases hat9 with e | e
              · exact .inl e.symm
              · exact .inr ⟨g9, rfl, e⟩
            have HMN : Hid (type_of% (HPUT.out _ (KC + 1000) w9 (.slice (some ⟨g9, 0, none⟩) (n0 + 1) c9) z HFA.out ((HM8.out.below hA).cu.mono (by omega)) hown9 hg9 HU.out)) := HPUT.out _ (KC + 1000) w9 (.slice (some ⟨g9, 0, none⟩) (n0 + 1) c9) z HFA.out ((HM8.out.below hA).cu.mono (by omega)) hown9 hg9 HU.out
            have hb9 := hg9.block g (Nat.lt_of_lt_of_le hgl HFA.out.size) (fun e => (HNE.out g e.symm).2.2 rfl)
            have hx9 := hg9.block X5 (HM8.out.below hA).b5.1 (fun e => (HNE.out X5 e.symm).2.1 rfl)
            have z4 : w9.cell? ⟨X5, 4, none⟩ = some (.slice (some ⟨g, 0, none⟩) m.ks.length ck) := (World.cell?_of_block hx9).trans hS9.1
            have k9 : w9.cell? ⟨g, 1, none⟩ = some (.slice a0 n0 c0) := (World.cell?_of_block hb9).trans hS9.2
            have kf9 : w9.frozen? ⟨g, 1, none⟩ = false := (World.frozen?_of_block (hb9.trans (HFA.out.block g hgl (by omega)))).trans HKF.out
            clear hown9 hg9 hat9 hb9 hx9
            refine hK _ _ (fun _ => ⟨z4, k9⟩) ?_
            clear hK K
            (first | simp only [Act.put, List.setIfInBounds_toArray, List.set_cons_zero, List.set_cons_succ] | skip)
            refine Hd.After.pureD (i := 11) (some 44) (.pointer (some ⟨g, 0, none⟩)) rfl rfl (by kernel_rfl) (by decide) (by kernel_rfl) (by kernel_rfl) (fun _ _ _ h => h) (⟨z4, k9⟩) (Or.inl ⟨by rfl, ?_⟩) ?_
            · intro X; go_simp; try with_reducible rfl
            (first | simp only [Act.put, List.setIfInBounds_toArray, List.set_cons_zero, List.set_cons_succ] | skip)
            refine Hd.After.pureD (i := 12) (some 45) (.pointer (some ⟨g, 1, none⟩)) rfl rfl (by kernel_rfl) (by decide) (by kernel_rfl) (by kernel_rfl) (fun _ _ _ h => h) (⟨z4, k9⟩) (Or.inl ⟨by rfl, ?_⟩) ?_
            · intro X; go_simp; try with_reducible rfl
            (first | simp only [Act.put, List.setIfInBounds_toArray, List.set_cons_zero, List.set_cons_succ] | skip)
            refine Hd.After.one (i := 13) (by kernel_rfl) rfl rfl ?_
            intro K hK
            go_simp
            refine hK _ _ (fun h => by cases h) ?_
            clear hK K
            refine Hd.After.done (by kernel_rfl) ?_ _
            go_wp2_with fail
            go_meet
            case rel => exact ⟨_, _, _, HMN.out.lower (by omega) (by omega)⟩
          · have hks0 : ¬ (0 : Int) < (m.ks.length : Int) := by omega
            go_wp2_with fail
            go_meet
            case rel => exact ⟨_, _, _, HM7.out.lower (by omega) (by omega)⟩
    case rest =>
      clear HM6
      obtain ⟨m, vk, vt, ms⟩ := hcut
      obtain ⟨ak, ck, ax, ct, rfl, rfl, -⟩ := ms.om.rm
      have HMS : Hid (type_of% ms) := ms
      clear ms
      obtain ⟨hl2, ⟨r0, r1, r2, r3, r4, r5⟩, e0, e1, e2, e3, e4, e5⟩ := wr6 HMS.out.b2
      obtain ⟨hl5, ⟨x0, x1, x2, x3, x4, x5⟩, f0, f1, f2, f3, f4, f5⟩ := wr6 HMS.out.b5
      have h25w := HMS.out.x5
      go_wp2_with fail
      refine bodyPost_ret (v := .agg #[.int .i64 m.n, .int .i64 m.c, .int .i64 m.prior, .int .i64 m.base, .slice ak m.ks.length ck, .slice ax m.ts.length ct]) (by rw [Tb.results_cell rfl]; go_simp) rfl ⟨m, _, _, rfl, HMS.out.sz, ?_, ?_, ?_⟩
      · have hS := set6 wc X2 (.int .i64 m.n) (.int .i64 m.c) (.int .i64 m.prior) (.int .i64 m.base) (.slice ak m.ks.length ck) (.slice ax m.ts.length ct)
        exact ((HMS.out.om.fr hS (fun q hq e => by omega)).bound).mono (fun q hq => ⟨by have := HX2.out; omega, hq.2⟩)
      · exact fr_out HMS.out.gr (set6 wc X2 _ _ _ _ _ _) (fun q e => by omega) HX2.out
      · exact curF HMS.out.cu (set6 wc X2 _ _ _ _ _ _) (fun q e => by have := HMS.out.bl; omega)
end Go.Proofs.YtaojoamldoofpaaGreatDoor.Dm
/-
  What the model draws for a model that has a text, perhaps.
-/
namespace Go.Proofs.YtaojoamldoofpaaGreatDoor.Dm
set_option maxRecDepth 100000
open Go.RowKit
open Go.Proofs.YtaojoamldoofpaaGreatDoor.Tb Go.Proofs.YtaojoamldoofpaaGreatDoor.Tk
open Go.Proofs.YtaojoamldoofpaaGreatDoor.Md (M OwM wr6 wr3)
open Go.Proofs.YtaojoamldoofpaaGreatDoor.Kt (OwK Kv)
open Go.Proofs.YtaojoamldoofpaaGreatDoor.To (OwT)
open Go.Proofs.YtaojoamldoofpaaGreatDoor.Tt (set6)
open Go.Proofs.YtaojoamldoofpaaGreatDoor.Sv (Wr Fr fr_grown fr_below new1 new2 new3 wr_new wr2)
set_option linter.unusedVariables false
theorem elem3 {w : World} {g k : Nat} (h : Wr w g 0 [.string ⟨#[97, 10, 98]⟩, .string ⟨#[120, 32, 121]⟩, .string ⟨#[32]⟩]) (hk : k < 3) : ∃ s : ByteArray, w.cell? ⟨g, k, none⟩ = some (.string s) ∧ s.size ≤ 10 := by
  obtain ⟨_, ⟨c0, c1, c2⟩, _⟩ := wr3 h
  match k, hk with
  | 0, _ => exact ⟨_, c0, by decide⟩
  | 1, _ => exact ⟨_, c1, by decide⟩
  | 2, _ => exact ⟨_, c2, by decide⟩
theorem Mq.up {w wr : World} {b X5 : Nat} {K : Int} {Z Z' : Nat} {m : M} {vk vt : Value} (h : Mq w wr b X5 K Z m vk vt) (hz : Z ≤ Z') : Mq w wr b X5 K Z' m vk vt := { h with sz := Nat.le_trans h.sz hz }
set_option maxHeartbeats 20000000 in
theorem drawModelText_any (w : World) (a : Option Addr) (len cap : Nat) (hB : Cu.Bytes w w.heap.size a len) (hl : (len : Int) ≤ 1048576) :
    Calls Tryz.prog 6 #[.slice a len cap] w fun e w' => ∃ (m : M) (vk vt : Value), e = .returned (.agg #[.int .i64 m.n, .int .i64 m.c, .int .i64 m.prior, .int .i64 m.base, vk, vt]) ∧ m.sz ≤ 4510 ∧ OwM w' (fun q => w.heap.size ≤ q ∧ q < w'.heap.size) vk vt m ∧ Below w.heap.size w w' := by
  go_enter Tryz.func6, Tryz.ntmps6
  go_wp2_with fail
  obtain ⟨W, hW, hsz, hBW, br⟩ := new1 w z6 29
  have hW2 : w.alloc (.cells #[.int .i64 0, .int .i64 0, .int .i64 0, .int .i64 0, .slice none 0 0, .slice none 0 0] 29) = W := hW
  rw [hW2]
  have hB := hB.keptB hBW.size (fun k hk => hBW.block k hk)
  clear hW hW2
  refine (Cu.open_any _ _ _ _ hB hl).mono ?_
  rintro e w1 ⟨rfl, hg, hc⟩
  have hF1 : Fr (fun q => q = W.heap.size) W w1 := fr_grown hg rfl
  have br1 : Wr w1 w.heap.size 0 z6 := wrB br hF1 (by omega)
  have hBw : Below w.heap.size w w1 := hBW.trans (hF1.bel (fun q e => by omega) hBW.size)
  obtain ⟨b, hb⟩ : ∃ b, W.heap.size = b := ⟨_, rfl⟩
  rw [hb] at hc ⊢
  have hb1 := hc.lt
  have hX2b : w.heap.size < b := by omega
  clear hg hBW hB br hF1 hsz hb
  go_wp2_with fail
  refine (model_any w1 b 0 hc (by omega) (by omega)).mono ?_
  rintro e w2 ⟨m, vk, vt, rfl, hz, om, hf2, hc2⟩
  obtain ⟨ak, ck, ax, ct, rfl, rfl, -⟩ := om.rm
  have br2 : Wr w2 w.heap.size 0 z6 := wrB br1 hf2 (by omega)
  have hbw2 : Below w.heap.size w w2 := hBw.trans (hf2.bel (fun q e => by omega) hBw.size)
  have hs2 := hf2.size
  have HBR2 : Hid (type_of% br2) := br2
  have HBW2 : Hid (type_of% hbw2) := hbw2
  have HOM : Hid (type_of% om) := om
  have HC2 : Hid (type_of% hc2) := hc2
  have HZ : Hid (m.sz ≤ 4500) := hz
  clear br1 hBw hc br2 hbw2 om hf2 hc2 hz
  go_upto_region 3 with fail
  obtain ⟨W3, hW3, hsz3, hB3, b5⟩ := new1 w2 (mc m (.slice ak m.ks.length ck) (.slice ax m.ts.length ct)) 29
  have hW3b : w2.alloc (.cells #[.int .i64 m.n, .int .i64 m.c, .int .i64 m.prior, .int .i64 m.base, .slice ak m.ks.length ck, .slice ax m.ts.length ct] 29) = W3 := hW3
  rw [hW3b]
  obtain ⟨X5, hX5⟩ : ∃ x, w2.heap.size = x := ⟨_, rfl⟩
  rw [hX5] at b5 ⊢
  have hbX : b < X5 := by omega
  have h2X : w.heap.size < X5 := by omega
  have HMQ : Hid (Mq w W3 b X5 (0 + 1000) 4500 m (.slice ak m.ks.length ck) (.slice ax m.ts.length ct)) := ⟨curF (B := fun _ => False) HC2.out (fr_below hB3) (fun _ e => e.elim), HBW2.out.trans (hB3.mono HBW2.out.size), by omega, hbX, b5, (HOM.out.below hB3).mono (fun q hq => ⟨by omega, by omega⟩), HZ.out⟩
  have HBR : Hid (Wr W3 w.heap.size 0 z6) := HBR2.out.below hB3
  clear hW3 hW3b hB3 b5 hX5 HBR2 HBW2 HOM HC2 hs2 hsz3 hb1
  obtain ⟨X2, hX2⟩ : ∃ x, w.heap.size = x := ⟨_, rfl⟩
  have HX2 : Hid (w.heap.size = X2) := hX2
  rw [hX2] at HBR hX2b h2X ⊢
  clear hX2
  go_cut [25] from 9 (fun s25 wx => ∃ t : Bool, s25 = .bool t ∧ (t = true → ∃ h0 : 0 < m.ks.length, 0 < m.ks[0].ws.length) ∧ Mq w wx b X5 1010 4500 m (.slice ak m.ks.length ck) (.slice ax m.ts.length ct) ∧ Wr wx X2 0 z6)
  case first =>
    go_wp2_with fail
    refine (Cu.once_any W3 b (0 + 1000) HMQ.out.cu (by omega) 12 (by omega) (by omega)).mono ?_
    rintro e w6 ⟨oc, rfl, hg6, hs6, hc6⟩
    have HM6 : Hid (Mq w w6 b X5 1010 4500 m (.slice ak m.ks.length ck) (.slice ax m.ts.length ct)) := HMQ.out.step hg6 (hc6.mono (by omega))
    have HR6 : Hid (Wr w6 X2 0 z6) := wrB HBR.out (fr_grown (B := fun q => q = b) hg6 rfl) (by omega)
    clear hg6 hs6 hc6
    cases oc with
    | false =>
      go_wp2_with fail
      go_meet
      case rel => exact ⟨false, rfl, (fun h => by cases h), HM6.out, HR6.out⟩
    | true =>
      have x4 := HM6.out.cells.2.2.2.2.1
      by_cases hk0 : 0 < m.ks.length
      · have hk1 : (0 : Int) < (m.ks.length : Int) := by omega
        have hk2 : decide ((0 : Int) < (m.ks.length : Int)) = true := by simpa using hk1
        obtain ⟨g, cg, a0, c0, n0, e0, hn0, q0⟩ := HM6.out.hdr hk0
        injection e0 with e0 _ e1
        subst e0
        subst e1
        have HK0 : Hid (0 < m.ks.length) := hk0
        have HN0 : Hid (type_of% hn0) := hn0
        clear hn0
        by_cases hw0 : 0 < n0
        · have hw1 : (0 : Int) < (n0 : Int) := by omega
          have hw2 : decide ((0 : Int) < (n0 : Int)) = true := by simpa using hw1
          have HW0 : Hid (0 < n0) := hw0
          clear hw0
          go_wp2_with fail
          go_meet
          case rel => exact ⟨true, (by first | rfl | (congr 1; rw [decide_eq_true_iff]; omega)), fun _ => ⟨HK0.out, by rw [HN0.out]; exact HW0.out⟩, HM6.out, HR6.out⟩
        · have hw1 : ¬ (0 : Int) < (n0 : Int) := by omega
          have hw2 : decide ((0 : Int) < (n0 : Int)) = false := by simpa using hw1
          clear hw0
          go_wp2_with fail
          go_meet
          case rel => exact ⟨false, (by first | rfl | (congr 1; rw [decide_eq_false_iff_not]; omega)), (fun h => by cases h), HM6.out, HR6.out⟩
      · have hk1 : ¬ (0 : Int) < (m.ks.length : Int) := by omega
        have hk2 : decide ((0 : Int) < (m.ks.length : Int)) = false := by simpa using hk1
        clear hk0
        go_wp2_with fail
        go_meet
        case rel => exact ⟨false, (by first | rfl | (congr 1; rw [decide_eq_false_iff_not]; omega)), (fun h => by cases h), HM6.out, HR6.out⟩
  case rest =>
    clear HMQ HBR
    obtain ⟨t, rfl, ht, mq, r2⟩ := hcut
    have HMQ : Hid (type_of% mq) := mq
    have HBR : Hid (type_of% r2) := r2
    clear mq r2
    go_upto_if 25 with fail
    go_cut [] from 26 (fun wx => ∃ (m : M) (vk vt : Value), Mq w wx b X5 2000 4510 m vk vt ∧ Wr wx X2 0 z6)
    case first =>
      cases t with
      | false =>
        clear ht
        go_wp2_with fail
        go_meet
        case rel => exact ⟨m, _, _, (HMQ.out.lower (by omega)).up (by omega), HBR.out⟩
      | true =>
        obtain ⟨hk0, hw0⟩ := ht rfl
        obtain ⟨g, cg, wb, c0, n0, s0, e0, hn0, q0, q1, q2, q3, q4, q5, q6, q7, q8, q9, q10⟩ := HMQ.out.word hk0 hw0
        injection e0 with e0 _ e1
        subst e0
        subst e1
        have HPUT : Hid (type_of% q10) := q10
        clear q10 ht
        have HQ0 : Hid (type_of% q0) := q0
        have HQ1 : Hid (type_of% q1) := q1
        have HQ2 : Hid (type_of% q2) := q2
        have hk1 : (0 : Int) < (m.ks.length : Int) := by omega
        have hw1 : (0 : Int) < (n0 : Int) := by omega
        have hn1 : ¬ n0 = 0 := by omega
        clear q0 q1 q2 hw0
        go_wp2_with fail
        have st : Below wc.heap.size wc wc.drew := Tm.below_drew wc
        have HF0 : Hid (Fr (fun q => q = b) wc wc.drew) := fr_below st
        have HC0 : Hid (Cu.Cur wc.drew b 1010) := (HMQ.out.below st).cu
        have HSX : Hid (∀ X : World, Fr (fun q => q = b) wc X → X.cell? ⟨X5, 4, none⟩ = some (.slice (some ⟨g, 0, none⟩) m.ks.length ck) ∧ X.cell? ⟨g, 0, none⟩ = some (.slice (some ⟨wb, 0, none⟩) n0 c0)) := fun X hX => ⟨(World.cell?_of_block (hX.block X5 HMQ.out.w5.1 (by omega))).trans HMQ.out.cells.2.2.2.2.1, (World.cell?_of_block (hX.block g q3 (by omega))).trans HQ0.out⟩
        have hS := HSX.out _ HF0.out
        clear st
        refine Hd.start (fun X => X.cell? ⟨X5, 4, none⟩ = some (.slice (some ⟨g, 0, none⟩) m.ks.length ck) ∧ X.cell? ⟨g, 0, none⟩ = some (.slice (some ⟨wb, 0, none⟩) n0 c0)) 11 (by kernel_rfl) ?_
        generalize wc.drew = w0 at HF0 HC0 hS ⊢
        refine Hd.After.pureD (i := 0) (some 26) (.pointer (some ⟨X5, 4, none⟩)) rfl rfl (by kernel_rfl) (by decide) (by kernel_rfl) (by kernel_rfl) (fun _ _ _ h => h) (hS) (Or.inl ⟨by rfl, ?_⟩) ?_
        · intro X; go_simp; try with_reducible rfl
        (first | simp only [Act.put, List.setIfInBounds_toArray, List.set_cons_zero, List.set_cons_succ] | skip)
        refine Hd.After.takeD (i := 1) (some 27) (.slice (some ⟨g, 0, none⟩) m.ks.length ck) rfl rfl (by kernel_rfl) (by kernel_rfl) (by kernel_rfl) (by kernel_rfl) (by kernel_rfl) (fun _ _ _ h => h) (hS) (Or.inl ⟨by rfl, ?_⟩) ?_
        · rintro X ⟨s0_, s1_⟩; go_simp; try with_reducible rfl
        (first | simp only [Act.put, List.setIfInBounds_toArray, List.set_cons_zero, List.set_cons_succ] | skip)
        refine Hd.After.pureD (i := 2) (some 28) (.pointer (some ⟨g, 0, none⟩)) rfl rfl (by kernel_rfl) (by decide) (by kernel_rfl) (by kernel_rfl) (fun _ _ _ h => h) (hS) (Or.inl ⟨by rfl, ?_⟩) ?_
        · intro X; go_simp; try with_reducible rfl
        (first | simp only [Act.put, List.setIfInBounds_toArray, List.set_cons_zero, List.set_cons_succ] | skip)
        refine Hd.After.pureD (i := 3) (some 29) (.pointer (some ⟨g, 0, none⟩)) rfl rfl (by kernel_rfl) (by decide) (by kernel_rfl) (by kernel_rfl) (fun _ _ _ h => h) (hS) (Or.inl ⟨by rfl, ?_⟩) ?_
        · intro X; go_simp; try with_reducible rfl
        (first | simp only [Act.put, List.setIfInBounds_toArray, List.set_cons_zero, List.set_cons_succ] | skip)
        refine Hd.After.takeD (i := 4) (some 30) (.slice (some ⟨wb, 0, none⟩) n0 c0) rfl rfl (by kernel_rfl) (by kernel_rfl) (by kernel_rfl) (by kernel_rfl) (by kernel_rfl) (fun _ _ _ h => h) (hS) (Or.inl ⟨by rfl, ?_⟩) ?_
        · rintro X ⟨s0_, s1_⟩; go_simp; try with_reducible rfl
        (first | simp only [Act.put, List.setIfInBounds_toArray, List.set_cons_zero, List.set_cons_succ] | skip)
        refine Hd.After.pureD (i := 6) (some 32) (.pointer (some ⟨b, 0, none⟩)) rfl rfl (by kernel_rfl) (by decide) (by kernel_rfl) (by kernel_rfl) (fun _ _ _ h => h) (hS) (Or.inl ⟨by rfl, ?_⟩) ?_
        · intro X; go_simp; try with_reducible rfl
        (first | simp only [Act.put, List.setIfInBounds_toArray, List.set_cons_zero, List.set_cons_succ] | skip)
        refine Hd.After.two (i := 5) (j := 7) (by kernel_rfl) rfl rfl rfl rfl ?_ ?_
        · intro K hK
          go_simp
          obtain ⟨wf, hW_, hsz_, hB_, bt_⟩ := new1 w0 [.string ⟨#[97, 10, 98]⟩, .string ⟨#[120, 32, 121]⟩, .string ⟨#[32]⟩] 9
          have hW_2 : w0.alloc (.cells #[.string ⟨#[97, 10, 98]⟩, .string ⟨#[120, 32, 121]⟩, .string ⟨#[32]⟩] 9) = wf := hW_
          rw [hW_2]
          obtain ⟨gt, hgt⟩ : ∃ g, w0.heap.size = g := ⟨_, rfl⟩
          have hgs := HF0.out.size
          rw [hgt] at bt_ hgs ⊢
          have hgb : b < gt := by omega
          have HTf : Hid (Wr wf gt 0 [.string ⟨#[97, 10, 98]⟩, .string ⟨#[120, 32, 121]⟩, .string ⟨#[32]⟩]) := bt_
          have HFf : Hid (Fr (fun q => q = b) wc wf) := HF0.out.trans (fr_below hB_)
          have HCf : Hid (type_of% (curF (B := fun _ => False) HC0.out (fr_below hB_) (fun _ e => e.elim))) := curF (B := fun _ => False) HC0.out (fr_below hB_) (fun _ e => e.elim)
          have hSf := HSX.out _ HFf.out
          clear hW_ hW_2 hsz_ hB_ bt_ hgt
          refine hK _ _ (fun _ => hSf) ?_
          clear hK K
          (first | simp only [Act.put, List.setIfInBounds_toArray, List.set_cons_zero, List.set_cons_succ] | skip)
          refine Hd.After.one (i := 7) (by kernel_rfl) rfl rfl ?_
          intro K hK
          go_simp
          go_wp2_with (go_at_call 20; refine (Cu.pick_any wf b 1010 HCf.out (by omega) 3 (by omega)).mono ?_; rintro e wfh ⟨y, rfl, y0, y1, hg_, hz_, hc_⟩)
          have HFfh : Hid (Fr (fun q => q = b) wc wfh) := HFf.out.trans (fr_grown hg_ rfl)
          have HCfh : Hid (type_of% hc_) := hc_
          have y2 : y < 3 := y1 (by omega)
          have y3 : y.toNat < 3 := by omega
          have HTfh : Hid (Wr wfh gt 0 [.string ⟨#[97, 10, 98]⟩, .string ⟨#[120, 32, 121]⟩, .string ⟨#[32]⟩]) := wrB HTf.out (fr_grown (B := fun k => k = b) hg_ rfl) (by omega)
          have hSfh := HSX.out _ HFfh.out
          clear hg_ hz_ hc_
          refine hK _ _ (fun _ => hSfh) ?_
          clear hK K
          (first | simp only [Act.put, List.setIfInBounds_toArray, List.set_cons_zero, List.set_cons_succ] | skip)
          refine Hd.After.pureD (i := 8) (some 34) (.pointer (some ⟨gt, y.toNat, none⟩)) rfl rfl (by kernel_rfl) (by decide) (by kernel_rfl) (by kernel_rfl) (fun _ _ _ h => h) (hSfh) (Or.inl ⟨by rfl, ?_⟩) ?_
          · intro X; go_simp; try with_reducible rfl
          (first | simp only [Act.put, List.setIfInBounds_toArray, List.set_cons_zero, List.set_cons_succ] | skip)
          refine Hd.After.one (i := 9) (by kernel_rfl) rfl rfl ?_
          intro K hK
          obtain ⟨s9, hs9, hz9⟩ : ∃ s : ByteArray, wfh.cell? ⟨gt, y.toNat, none⟩ = some (.string s) ∧ s.size ≤ 10 := elem3 HTfh.out y3
          go_simp
          refine hK _ _ (fun _ => hSfh) ?_
          clear hK K
          (first | simp only [Act.put, List.setIfInBounds_toArray, List.set_cons_zero, List.set_cons_succ] | skip)
          refine Hd.After.pureD (i := 10) (some 36) (.pointer (some ⟨wb, 0, none⟩)) rfl rfl (by kernel_rfl) (by decide) (by kernel_rfl) (by kernel_rfl) (fun _ _ _ h => h) (hSfh) (Or.inl ⟨by rfl, ?_⟩) ?_
          · intro X; go_simp; try with_reducible rfl
          (first | simp only [Act.put, List.setIfInBounds_toArray, List.set_cons_zero, List.set_cons_succ] | skip)
          refine Hd.After.one (i := 11) (by kernel_rfl) rfl rfl ?_
          intro K hK
          have kc := (World.cell?_of_block (HFfh.out.block wb q6 (by omega))).trans HQ1.out
          have kf := (World.frozen?_of_block (HFfh.out.block wb q6 (by omega))).trans HQ2.out
          have HNEW : Hid (Mq w (wfh.setCell ⟨wb, 0, none⟩ (.string s9)) b X5 2000 4510 _ _ _) := ((HPUT.out _ _ s9 HFfh.out HCfh.out hz9).lower (by omega))
          have HRN : Hid (Wr (wfh.setCell ⟨wb, 0, none⟩ (.string s9)) X2 0 z6) := (wrB HBR.out HFfh.out (by omega)).setOther (by omega)
          go_simp
          refine hK _ _ (fun h => by cases h) ?_
          clear hK K
          refine Hd.After.done (by kernel_rfl) ?_ _
          go_wp2_with fail
          go_meet
          case rel => exact ⟨_, _, _, HNEW.out, HRN.out⟩
        · intro K hK
          go_simp
          go_wp2_with (go_at_call 20; refine (Cu.pick_any w0 b 1010 HC0.out (by omega) 3 (by omega)).mono ?_; rintro e wh ⟨y, rfl, y0, y1, hg_, hz_, hc_⟩)
          have HFh : Hid (Fr (fun q => q = b) wc wh) := HF0.out.trans (fr_grown hg_ rfl)
          have HCh : Hid (type_of% hc_) := hc_
          have y2 : y < 3 := y1 (by omega)
          have y3 : y.toNat < 3 := by omega
          have hSh := HSX.out _ HFh.out
          clear hg_ hz_ hc_
          refine hK _ _ (fun _ => hSh) ?_
          clear hK K
          (first | simp only [Act.put, List.setIfInBounds_toArray, List.set_cons_zero, List.set_cons_succ] | skip)
          refine Hd.After.one (i := 5) (by kernel_rfl) rfl rfl ?_
          intro K hK
          go_simp
          obtain ⟨whf, hW_, hsz_, hB_, bt_⟩ := new1 wh [.string ⟨#[97, 10, 98]⟩, .string ⟨#[120, 32, 121]⟩, .string ⟨#[32]⟩] 9
          have hW_2 : wh.alloc (.cells #[.string ⟨#[97, 10, 98]⟩, .string ⟨#[120, 32, 121]⟩, .string ⟨#[32]⟩] 9) = whf := hW_
          rw [hW_2]
          obtain ⟨gt, hgt⟩ : ∃ g, wh.heap.size = g := ⟨_, rfl⟩
          have hgs := HFh.out.size
          rw [hgt] at bt_ hgs ⊢
          have hgb : b < gt := by omega
          have HThf : Hid (Wr whf gt 0 [.string ⟨#[97, 10, 98]⟩, .string ⟨#[120, 32, 121]⟩, .string ⟨#[32]⟩]) := bt_
          have HFhf : Hid (Fr (fun q => q = b) wc whf) := HFh.out.trans (fr_below hB_)
          have HChf : Hid (type_of% (curF (B := fun _ => False) HCh.out (fr_below hB_) (fun _ e => e.elim))) := curF (B := fun _ => False) HCh.out (fr_below hB_) (fun _ e => e.elim)
          have hShf := HSX.out _ HFhf.out
          clear hW_ hW_2 hsz_ hB_ bt_ hgt
          refine hK _ _ (fun _ => hShf) ?_
          clear hK K
          (first | simp only [Act.put, List.setIfInBounds_toArray, List.set_cons_zero, List.set_cons_succ] | skip)
          refine Hd.After.pureD (i := 8) (some 34) (.pointer (some ⟨gt, y.toNat, none⟩)) rfl rfl (by kernel_rfl) (by decide) (by kernel_rfl) (by kernel_rfl) (fun _ _ _ h => h) (hShf) (Or.inl ⟨by rfl, ?_⟩) ?_
          · intro X; go_simp; try with_reducible rfl
          (first | simp only [Act.put, List.setIfInBounds_toArray, List.set_cons_zero, List.set_cons_succ] | skip)
          refine Hd.After.one (i := 9) (by kernel_rfl) rfl rfl ?_
          intro K hK
          obtain ⟨s9, hs9, hz9⟩ : ∃ s : ByteArray, whf.cell? ⟨gt, y.toNat, none⟩ = some (.string s) ∧ s.size ≤ 10 := elem3 HThf.out y3
          go_simp
          refine hK _ _ (fun _ => hShf) ?_
          clear hK K
          (first | simp only [Act.put, List.setIfInBounds_toArray, List.set_cons_zero, List.set_cons_succ] | skip)
          refine Hd.After.pureD (i := 10) (some 36) (.pointer (some ⟨wb, 0, none⟩)) rfl rfl (by kernel_rfl) (by decide) (by kernel_rfl) (by kernel_rfl) (fun _ _ _ h => h) (hShf) (Or.inl ⟨by rfl, ?_⟩) ?_
          · intro X; go_simp; try with_reducible rfl
          (first | simp only [Act.put, List.setIfInBounds_toArray, List.set_cons_zero, List.set_cons_succ] | skip)
          refine Hd.After.one (i := 11) (by kernel_rfl) rfl rfl ?_
          intro K hK
          have kc := (World.cell?_of_block (HFhf.out.block wb q6 (by omega))).trans HQ1.out
          have kf := (World.frozen?_of_block (HFhf.out.block wb q6 (by omega))).trans HQ2.out
          have HNEW : Hid (Mq w (whf.setCell ⟨wb, 0, none⟩ (.string s9)) b X5 2000 4510 _ _ _) := ((HPUT.out _ _ s9 HFhf.out HChf.out hz9).lower (by omega))
          have HRN : Hid (Wr (whf.setCell ⟨wb, 0, none⟩ (.string s9)) X2 0 z6) := (wrB HBR.out HFhf.out (by omega)).setOther (by omega)
          go_simp
          refine hK _ _ (fun h => by cases h) ?_
          clear hK K
          refine Hd.After.done (by kernel_rfl) ?_ _
          go_wp2_with fail
          go_meet
          case rel => exact ⟨_, _, _, HNEW.out, HRN.out⟩
    case rest =>
      clear HMQ HBR HZ
      obtain ⟨m, vk, vt, mq, r2⟩ := hcut
      obtain ⟨ak, ck, ax, ct, rfl, rfl, -⟩ := mq.om.rm
      have HMQ : Hid (type_of% mq) := mq
      obtain ⟨hl2, ⟨r0, r1, r2_, r3, r4, r5⟩, f0, f1, f2, f3, f4, f5⟩ := wr6 r2
      obtain ⟨x0, x1, x2, x3, x4, x5⟩ := HMQ.out.cells
      clear mq r2
      have hFF := set6 wc X2 (.int .i64 m.n) (.int .i64 m.c) (.int .i64 m.prior) (.int .i64 m.base) (.slice ak m.ks.length ck) (.slice ax m.ts.length ct)
      have HE : Hid (type_of% (HMQ.out.fin (hFF.mono (fun q e => ⟨by have := HX2.out; omega, by omega⟩)))) := HMQ.out.fin (hFF.mono (fun q e => ⟨by have := HX2.out; omega, by omega⟩))
      have HZZ : Hid (m.sz ≤ 4510) := HMQ.out.sz
      clear hFF
      go_wp2_with fail
      refine bodyPost_ret (v := .agg #[.int .i64 m.n, .int .i64 m.c, .int .i64 m.prior, .int .i64 m.base, .slice ak m.ks.length ck, .slice ax m.ts.length ct]) (by rw [Tb.results_cell rfl]; go_simp) rfl ⟨m, _, _, rfl, HZZ.out, HE.out.1, HE.out.2⟩
end Go.Proofs.YtaojoamldoofpaaGreatDoor.Dm
/-
  Sum of the program and of the model: what trees say, one behind the other.
-/
namespace Go.Proofs.YtaojoamldoofpaaGreatDoor.Sw
open Go.RowKit
open Go.Proofs.YtaojoamldoofpaaGreatDoor.Li (ret_bool ret_int below_none)
open Go.Proofs.YtaojoamldoofpaaGreatDoor.Tr Go.Proofs.YtaojoamldoofpaaGreatDoor.Tm Go.Proofs.YtaojoamldoofpaaGreatDoor.Ad
set_option linter.unusedVariables false

def allok (ts : List T) : Bool := ts.all tok
theorem allok_no {ts : List T} {k : Nat} (hk : k < ts.length) (h : tok ts[k] = false) : allok ts = false := by
  cases e : allok ts with
  | false => rfl
  | true =>
    unfold allok at e
    rw [List.all_eq_true] at e
    rw [e _ (List.getElem_mem hk)] at h
    cases h
theorem allok_all {ts : List T} (h : ∀ j (hj : j < ts.length), tok ts[j] = true) : allok ts = true := by
  unfold allok
  rw [List.all_eq_true]
  intro t ht
  obtain ⟨j, hj, rfl⟩ := List.getElem_of_mem ht
  exact h j hj
end Go.Proofs.YtaojoamldoofpaaGreatDoor.Sw
