/-
  Contracts that the proof leans on, put together in the order in which they build.
-/
import Derived.Test.YtglllflleabmbaaGreatPart16
import Derived.Test.YtglllflleabmbaaGreatPart19
import Derived.Test.YtglllflleabmbaaGreatPart17
import Derived.Test.YtglllflleabmbaaGreatPart20
import Derived.Deep.Cut
import Derived.Deep.CutRange
/-
  What the model draws for a model: one that was trained, perhaps spoilt.
-/
namespace Go.Proofs.YtglllflleabmbaaGreat.Dm
set_option maxRecDepth 100000
open Go.RowKit
open Go.Proofs.YtglllflleabmbaaGreat.Tb Go.Proofs.YtglllflleabmbaaGreat.Tk
open Go.Proofs.YtglllflleabmbaaGreat.Md (M OwM wr6 wr3)
open Go.Proofs.YtglllflleabmbaaGreat.Kt (OwK Kv)
open Go.Proofs.YtglllflleabmbaaGreat.To (OwT)
open Go.Proofs.YtglllflleabmbaaGreat.Tt (mtrain strain mtrain_sz set6)
open Go.Proofs.YtglllflleabmbaaGreat.Sv (Wr Fr fr_grown fr_below new1 new2 new3 wr_new wr2)
set_option linter.unusedVariables false
theorem own_lit {w : World} {T : TypeId} {u0 u1 : Value} : (w.alloc (.cells #[u0, u1] T)).ownsRow w.heap.size T 1 (.slice (some ⟨w.heap.size, 0, none⟩) 2 2) 2 [u0, u1] :=
 ⟨by simp, .inr ⟨w.heap.size, 2, #[u0, u1], rfl, Nat.le_refl _, heap_alloc_new w _, Nat.le_refl _, by unfold maxLen; omega, by simp, by simp⟩⟩
set_option maxHeartbeats 20000000 in
theorem model_any (w : World) (b : Nat) (KC : Int) (hc : Cu.Cur w b KC) (h0K : 0 ≤ KC) (hK : KC ≤ 1000000000000) :
  Calls Tryz.prog 18 #[.pointer (some ⟨b, 0, none⟩)] w fun e w' => ∃ (m : M) (vk vt : Value), e = .returned (.agg #[.int .i64 m.n, .int .i64 m.c, .int .i64 m.prior, .int .i64 m.base, vk, vt]) ∧ m.sz ≤ 4500 ∧ OwM w' (fun q => w.heap.size ≤ q ∧ q < w'.heap.size) vk vt m ∧ Fr (fun q => q = b) w w' ∧ Cu.Cur w' b (KC + 1000) := by
 have hbw := hc.lt
 have HC : Hid (Cu.Cur w b KC) := hc
 clear hc
 go_enter Tryz.func18, Tryz.ntmps18
 go_wp2_with fail
 obtain ⟨W, hW, hsz, hB, b2⟩ := new1 w z6 29
 have hW2 : w.alloc (.cells #[.int .i64 0, .int .i64 0, .int .i64 0, .int .i64 0, .slice none 0 0, .slice none 0 0] 29) = W := hW
 rw [hW2]
 have hcW : Cu.Cur W b KC := by rw [← hW]; exact HC.out.alloc _
 clear hW hW2
 obtain ⟨X2, hX2⟩ : ∃ x, w.heap.size = x := ⟨_, rfl⟩
 have HX2 : Hid (w.heap.size = X2) := hX2
 rw [hX2] at b2 ⊢
 refine (Db.table_any W b KC hcW (by omega)).mono ?_
 rintro e w1 ⟨n, c, v, rs, rfl, hrs, ot, hg1, hc1⟩
 obtain ⟨a, cap, rfl, -⟩ := ot.isr
 have HRS : Hid (rs.length + szR rs ≤ 1048576) := by show _ ≤ _; have := szR_all (fun r hr => (hrs.2.2.2.2.2 r hr).1); have := hrs.2.2.2.2.1; omega
 have hb0 : b < X2 := by omega
 have hF1 : Fr (fun q => q = b) W w1 := fr_grown hg1 rfl
 have hs1 := hF1.size
 clear hrs hg1 hcW
 go_wp2_with fail
 obtain ⟨W1, hW1, hsz1, hB1, b3⟩ := new1 w1 [.int .i64 n, .int .i64 c, .slice a rs.length cap] 32
 rw [hW1]
 have hcW1 : Cu.Cur W1 b (KC + 300) := by rw [← hW1]; exact hc1.alloc _
 refine (Dc.conf_any W1 b (KC + 300) hcW1 (by omega)).mono ?_
 rintro e w2 ⟨k, rfl, hg2, hc2⟩
 have hF2 : Fr (fun q => q = b) W1 w2 := fr_grown hg2 rfl
 have hs2 := hF2.size
 clear hW1 hg2 hcW1
 obtain ⟨W2, hW2, hsz2, hB2, b4⟩ := new1 w2 k.cells 69
 have hW2b : w2.alloc (.cells #[.int .i64 k.trees, .int .i64 k.depth, .int .i64 k.most, .int .i64 k.rate, .int .i64 k.l2, .int .i64 k.prior, .int .i64 k.seed] 69) = W2 := hW2
 have hF : Fr (fun q => q = b) W W2 := ((hF1.trans (fr_below hB1)).trans hF2).trans (fr_below hB2)
 have hF0 : Fr (fun q => q = b) w W2 := (fr_below hB).trans hF
 have ot2 : OwnT W2 W.heap.size w1.heap.size (.slice a rs.length cap) rs := ot.keptAt (fun q h1 h2 h3 => (((fr_below hB1).trans hF2).trans (fr_below (B := fun q => q = b) hB2)).block q h3 (by omega))
 have hcW2 : Cu.Cur W2 b (KC + 400) := (by rw [← hW2]; exact hc2.alloc _ : Cu.Cur W2 b (KC + 300 + 100)).mono (by omega)
 have B2 : Wr W2 X2 0 z6 := wrB b2 hF (by omega)
 have B3 : Wr W2 w1.heap.size 0 [.int .i64 n, .int .i64 c, .slice a rs.length cap] := wrB b3 (hF2.trans (fr_below hB2)) (by omega)
 have HIS : Hid (∀ X, Below W2.heap.size W2 X → IsR X a rs) := fun X hX => by
  obtain ⟨_, _, e, i⟩ := (ot2.below hX).isr
  injection e with e
  subst e
  exact i
 have HB2 : Hid (type_of% B2) := B2
 have HB3 : Hid (type_of% B3) := B3
 have HB4 : Hid (type_of% b4) := b4
 have HF0 : Hid (type_of% hF0) := hF0
 have HCW : Hid (type_of% hcW2) := hcW2
 obtain ⟨D3, hD3⟩ : ∃ x, w1.heap.size = x := ⟨_, rfl⟩
 obtain ⟨D4, hD4⟩ : ∃ x, w2.heap.size = x := ⟨_, rfl⟩
 have h23 : X2 < D3 := by omega
 have h34 : D3 < D4 := by omega
 have h4W : D4 < W2.heap.size := by omega
 rw [hD3] at HB3 ⊢
 rw [hD4] at HB4
 obtain ⟨hl3, ⟨t0, t1, t2⟩, -⟩ := wr3 B3
 have hl3b := hl3
 rw [hD3] at t0 t1 t2 hl3
 obtain ⟨hl4, q0, q1, q2, q3, q4, q5, q6⟩ := Tn.wr7 b4
 rw [hD4] at q0 q1 q2 q3 q4 q5 q6 hl4
 go_wp2_with fail
 clear hB b2 ot hc1 hF1 hs1 hsz1 hB1 b3 hc2 hF2 hs2 hsz2 hB2 hF hF0 ot2 hcW2 b4 B2 B3 hW2 hW2b hD3 hD4 hsz hX2 hl3b
 refine (strain W2 n c a cap rs k (HIS.out _ (Below.refl _ _)) HRS.out).mono ?_
 rintro e w3 ⟨vk, vt, rfl, om, hb3⟩
 have hmz := mtrain_sz n c rs k
 generalize mtrain n c rs k = m at om hmz ⊢
 generalize (tok n c rs && Cf.cok k) = ok
 obtain ⟨ak, ck, ax, ct, rfl, rfl, -⟩ := om.rm
 have HOM : Hid (type_of% om) := om
 have HMZ : Hid (m.sz ≤ 4000) := hmz
 have HB3b : Hid (Below W2.heap.size W2 w3) := hb3
 have hs3 := hb3.size
 clear om hmz hb3
 go_upto_if 18 with fail
 obtain ⟨W3, hW3, hsz3, hB5, b5⟩ := new1 w3 (mc m (.slice ak m.ks.length ck) (.slice ax m.ts.length ct)) 29
 have hW3b : w3.alloc (.cells #[.int .i64 m.n, .int .i64 m.c, .int .i64 m.prior, .int .i64 m.base, .slice ak m.ks.length ck, .slice ax m.ts.length ct] 29) = W3 := hW3
 rw [hW3b]
 obtain ⟨X5, hX5⟩ : ∃ x, w3.heap.size = x := ⟨_, rfl⟩
 rw [hX5] at b5 ⊢
 have hBB : Below W2.heap.size W2 W3 := HB3b.out.trans (hB5.mono HB3b.out.size)
 have HMS : Hid (Ms w W3 b X2 X5 (KC + 400) 4000 m (.slice ak m.ks.length ck) (.slice ax m.ts.length ct)) := ⟨curF (B := fun _ => False) HCW.out (fr_below hBB) (fun _ e => e.elim), HF0.out.trans (fr_below hBB), by omega, HX2.out, by omega, HB2.out.below hBB, b5, (HOM.out.below hB5).mono (fun q hq => ⟨by omega, by omega⟩), HMZ.out⟩
 have HBT : Hid (Wr W3 D3 0 [.int .i64 n, .int .i64 c, .slice a rs.length cap]) := HB3.out.below hBB
 have HIS3 : Hid (∀ X, Below W3.heap.size W3 X → IsR X a rs) := fun X hX => HIS.out X (hBB.trans (hX.mono hBB.size))
 have hX5W : X5 < W3.heap.size := by omega
 have h25 : X2 < X5 := by omega
 clear hW3 hW3b hsz3 hB5 b5 hX5 hBB hs3 HOM HMZ HB3b HIS HB2 HB3 HB4 HF0 HCW t0 t1 t2 hl3 q0 q1 q2 q3 q4 q5 q6 hl4 h34 h4W
 go_cut [] from 17 (fun wx => ∃ (m : M) (vk vt : Value), Ms w wx b X2 X5 (KC + 400) 4000 m vk vt)
 case first =>
  cases ok with
  | true =>
   go_wp2_with fail
   go_meet
   case rel => exact ⟨_, _, _, HMS.out⟩
  | false =>
   obtain ⟨hl3, ⟨t0, t1, t2⟩, -⟩ := wr3 HBT.out
   obtain ⟨hl5, ⟨x0, x1, x2, x3, x4, x5⟩, f0, f1, f2, f3, f4, f5⟩ := wr6 HMS.out.b5
   go_wp2_with fail
   refine (strain W3 n c a cap rs ⟨2, 2, 3, 500, 1, 0, 5⟩ (HIS3.out _ (Below.refl _ _)) HRS.out).mono ?_
   rintro e w5 ⟨vk5, vt5, rfl, om5, hb5⟩
   have hmz5 := mtrain_sz n c rs ⟨2, 2, 3, 500, 1, 0, 5⟩
   generalize mtrain n c rs ⟨2, 2, 3, 500, 1, 0, 5⟩ = m5 at om5 hmz5 ⊢
   obtain ⟨ak5, ck5, ax5, ct5, rfl, rfl, -⟩ := om5.rm
   have HP : Hid (type_of% (HMS.out.put6 hb5 om5 hmz5)) := HMS.out.put6 hb5 om5 hmz5
   clear hl5 x0 x1 x2 x3 x4 x5 f0 f1 f2 f3 f4 f5 hl3 t0 t1 t2
   obtain ⟨hl5, ⟨x0, x1, x2, x3, x4, x5⟩, f0, f1, f2, f3, f4, f5⟩ := wr6 (HMS.out.b5.below hb5)
   clear om5 hmz5 hb5
   go_wp2_with fail
   go_meet
   case rel => exact ⟨_, _, _, HP.out⟩
 case rest =>
  clear HMS HBT HIS3 HRS
  obtain ⟨m, vk, vt, ms⟩ := hcut
  obtain ⟨ak, ck, ax, ct, rfl, rfl, -⟩ := ms.om.rm
  have HMS : Hid (type_of% ms) := ms
  clear ms
  go_wp2_with fail
  refine (Cu.once_any wc b (KC + 400) HMS.out.cu (by omega) 10 (by omega) (by omega)).mono ?_
  rintro e w6 ⟨oc, rfl, hg6, hs6, hc6⟩
  have HM6 : Hid (Ms w w6 b X2 X5 (KC + 401) 4000 m (.slice ak m.ks.length ck) (.slice ax m.ts.length ct)) := HMS.out.step hg6 (hc6.mono (by omega))
  clear hg6 hs6 hc6 HMS
  go_upto_if 26 with fail
  go_cut [] from 26 (fun wx => ∃ (m : M) (vk vt : Value), Ms w wx b X2 X5 (KC + 1000) 4500 m vk vt)
  case first =>
   cases oc with
   | false =>
    go_wp2_with fail
    go_meet
    case rel => exact ⟨_, _, _, HM6.out.lower (by omega) (by omega)⟩
   | true =>
    go_wp2_with fail
    refine (Cu.pick_any w6 b (KC + 401) HM6.out.cu (by omega) 5 (by omega)).mono ?_
    rintro e w7 ⟨y, rfl, y0, y1, hg7, hs7, hc7⟩
    have HM7 : Hid (Ms w w7 b X2 X5 (KC + 402) 4000 m (.slice ak m.ks.length ck) (.slice ax m.ts.length ct)) := HM6.out.step hg7 (hc7.mono (by omega))
    clear hg7 hs7 hc7 HM6
    have hy : y = 0 ∨ y = 1 ∨ y = 2 ∨ y = 3 ∨ y = 4 := by have := y1 (by omega); omega
    clear y0 y1
    rcases hy with rfl | rfl | rfl | rfl | rfl
    ·
     go_wp2_with fail
     refine (Cu.raw_any w7 b (KC + 402) HM7.out.cu (by omega)).mono ?_
     rintro e w8 ⟨z, rfl, _, _, hg8, hc8⟩
     have HM8 : Hid (Ms w w8 b X2 X5 (KC + 404) 4000 m (.slice ak m.ks.length ck) (.slice ax m.ts.length ct)) := HM7.out.step hg8 (hc8.mono (by omega))
     clear hg8 hc8
     obtain ⟨hl5, ⟨x0, x1, x2, x3, x4, x5⟩, f0, f1, f2, f3, f4, f5⟩ := wr6 HM8.out.b5
     go_wp2_with fail
     go_meet
     case rel => exact ⟨⟨m.n, m.c, m.prior, z, m.ks, m.ts⟩, _, _, (HM8.out.num (m' := ⟨m.n, m.c, m.prior, z, m.ks, m.ts⟩) (o := 3) (by omega) (by simp [mc]) rfl rfl).lower (by omega) (by omega)⟩
    ·
     go_wp2_with fail
     obtain ⟨B, hBn, hB0, hB1⟩ := HM7.out.forT
     have HBN : Hid (type_of% hBn) := hBn
     have HB0 : Hid (type_of% hB0) := hB0
     have HB1 : Hid (type_of% hB1) := hB1
     clear hBn hB0 hB1
     have HTL : Hid (m.ts.length ≤ 1048576) := by show _ ≤ _; have := HM7.out.sz; unfold M.sz at this; omega
     have st : Below w7.heap.size w7 w7.drew := Tm.below_drew w7
     have MD : Ms w w7.drew b X2 X5 (KC + 402) 4000 m (.slice ak m.ks.length ck) (.slice ax m.ts.length ct) := HM7.out.below st
     have HMD : Hid (type_of% MD) := MD
     have hS := (wr6 MD.b5).2.1.2.2.2.2.2
     clear MD
     refine Hd.start (fun X => X.cell? ⟨X5, 5, none⟩ = some (.slice ax m.ts.length ct)) 7 (by kernel_rfl) ?_
     generalize w7.drew = w0 at st HMD hS ⊢
     refine Hd.After.pureD (i := 0) (some 53) (.pointer (some ⟨X5, 5, none⟩)) rfl rfl (by kernel_rfl) (by decide) (by kernel_rfl) (by kernel_rfl) (fun _ _ _ h => h) (hS) (Or.inl ⟨by rfl, ?_⟩) ?_
     ·
      intro X; go_simp; try with_reducible rfl
     (first | simp only [Act.put, List.setIfInBounds_toArray, List.set_cons_zero, List.set_cons_succ] | skip)
     refine Hd.After.takeD (i := 1) (some 54) (.slice ax m.ts.length ct) rfl rfl (by kernel_rfl) (by kernel_rfl) (by kernel_rfl) (by kernel_rfl) (by kernel_rfl) (fun _ _ _ h => h) (hS) (Or.inl ⟨by rfl, ?_⟩) ?_
     ·
      rintro X s5; go_simp; try with_reducible rfl
     (first | simp only [Act.put, List.setIfInBounds_toArray, List.set_cons_zero, List.set_cons_succ] | skip)
     refine Hd.After.pureD (i := 2) (some 55) (.pointer (some ⟨b, 0, none⟩)) rfl rfl (by kernel_rfl) (by decide) (by kernel_rfl) (by kernel_rfl) (fun _ _ _ h => h) (hS) (Or.inl ⟨by rfl, ?_⟩) ?_
     ·
      intro X; go_simp; try with_reducible rfl
     (first | simp only [Act.put, List.setIfInBounds_toArray, List.set_cons_zero, List.set_cons_succ] | skip)
     refine Hd.After.one (i := 3) (by kernel_rfl) rfl rfl ?_
     intro K hK
     go_simp
     go_wp2_with (go_at_call 38; refine (Df.tree_any w0 b (KC + 402) HMD.out.cu (by omega) (by omega)).mono ?_; rintro e w8 ⟨v0, v1, t, rfl, hzt, p0, p1, hap, hg8, hc8⟩)
     have M8 : Ms w w8 b X2 X5 (KC + 602) 4000 m (.slice ak m.ks.length ck) (.slice ax m.ts.length ct) := HMD.out.step hg8 (hc8.mono (by omega))
     have HM8 : Hid (type_of% M8) := M8
     have HF8 : Hid (Fr (fun q => q = b) w7 w8) := (fr_below st).trans (fr_grown hg8 rfl)
     have hs8 : w7.heap.size ≤ w8.heap.size := HF8.out.size
     have hS8 := (wr6 M8.b5).2.1.2.2.2.2.2
     obtain ⟨a0, c0, rfl, -, -⟩ := p0.isp
     obtain ⟨a1, c1, rfl, -⟩ := p1.isl
     have HP0 : Hid (type_of% p0) := p0
     have HP1 : Hid (type_of% p1) := p1
     have HAP : Hid (type_of% hap) := hap
     have HZT : Hid (type_of% hzt) := hzt
     clear M8 hg8 hc8 p0 p1 hap hzt
     refine hK _ _ (fun _ => hS8) ?_
     clear hK K
     (first | simp only [Act.put, List.setIfInBounds_toArray, List.set_cons_zero, List.set_cons_succ] | skip)
     have hA : Below w8.heap.size w8 (w8.alloc (.cells #[.slice a0 t.sp.length c0, .slice a1 t.lv.length c1] 60)) := (Below.refl _ _).alloc (Nat.le_refl _) _
     have hS9 := (wr6 (HM8.out.below hA).b5).2.1.2.2.2.2.2
     refine Hd.After.one (i := 4) (by kernel_rfl) rfl rfl ?_
     intro K hK
     go_simp
     refine hK _ _ (fun _ => hS9) ?_
     clear hK K
     (first | simp only [Act.put, List.setIfInBounds_toArray, List.set_cons_zero, List.set_cons_succ] | skip)
     refine Hd.After.one (i := 5) (by kernel_rfl) rfl rfl ?_
     intro K hK
     refine Ps.wp_pushT _ _ rfl (some 58) rfl B w7.heap.size _ m.ts (HB0.out _ (HF8.out.trans (fr_below hA))) w8.heap.size a0 a1 c0 c1 _ _ t rfl rfl (by simp) (by simp) ((HP0.out.below hA).mono st.size) ((HP1.out.below hA).mono st.size) (fun q e e2 => HAP.out.1.elim (fun h => by rw [h] at e2; cases e2) (fun h => h (e2.trans e.symm))) HBN.out (Nat.le_trans hs8 hA.size) HTL.out ?_
     intro a9 c9 w9 hok9 hg9
     have HMN : Hid (type_of% (HB1.out _ (KC + 1000) w9 (.slice a9 (m.ts.length + 1) c9) t (HF8.out.trans (fr_below hA)) ((HM8.out.below hA).cu.mono (by omega)) hok9 hg9 HZT.out)) := HB1.out _ (KC + 1000) w9 (.slice a9 (m.ts.length + 1) c9) t (HF8.out.trans (fr_below hA)) ((HM8.out.below hA).cu.mono (by omega)) hok9 hg9 HZT.out
     have hw9 := HM8.out.keptT hA hg9
     obtain ⟨hl9, ⟨_, _, _, _, _, z5⟩, _, _, _, _, _, g5⟩ := wr6 hw9
     clear hok9 hg9 hw9
     refine hK _ _ (fun _ => z5) ?_
     clear hK K
     (first | simp only [Act.put, List.setIfInBounds_toArray, List.set_cons_zero, List.set_cons_succ] | skip)
     refine Hd.After.pureD (i := 6) (some 59) (.pointer (some ⟨X5, 5, none⟩)) rfl rfl (by kernel_rfl) (by decide) (by kernel_rfl) (by kernel_rfl) (fun _ _ _ h => h) (z5) (Or.inl ⟨by rfl, ?_⟩) ?_
     ·
      intro X; go_simp; try with_reducible rfl
     (first | simp only [Act.put, List.setIfInBounds_toArray, List.set_cons_zero, List.set_cons_succ] | skip)
     refine Hd.After.one (i := 7) (by kernel_rfl) rfl rfl ?_
     intro K hK
     go_simp
     refine hK _ _ (fun h => by cases h) ?_
     clear hK K
     refine Hd.After.done (by kernel_rfl) ?_ _
     go_wp2_with fail
     go_meet
     case rel => exact ⟨_, _, _, HMN.out.lower (by omega) (by omega)⟩
    ·
     obtain ⟨hl5, ⟨x0, x1, x2, x3, x4, x5⟩, f0, f1, f2, f3, f4, f5⟩ := wr6 HM7.out.b5
     obtain ⟨B, hBn, hB0, hB1⟩ := HM7.out.forK
     have HBN : Hid (type_of% hBn) := hBn
     have HB0 : Hid (type_of% hB0) := hB0
     have HB1 : Hid (type_of% hB1) := hB1
     clear hBn hB0 hB1
     have HTL : Hid (m.ks.length ≤ 1048576) := by show _ ≤ _; have := HM7.out.sz; unfold M.sz at this; omega
     obtain ⟨WA, hWA⟩ : ∃ X, ((w7.alloc (.cells #[.string ⟨#[97]⟩, .string ⟨#[97]⟩] 9)).alloc (.cells #[.int .i64 1, .int .i64 2] 3)).alloc (.cells #[.slice (some ⟨w7.heap.size, 0, none⟩) 2 2, .slice (some ⟨w7.heap.size + 1, 0, none⟩) 2 2] 56) = X := ⟨_, rfl⟩
     have hA1 : Below w7.heap.size w7 (w7.alloc (.cells #[.string ⟨#[97]⟩, .string ⟨#[97]⟩] 9)) := (Below.refl _ _).alloc (Nat.le_refl _) _
     have hA2 : Below w7.heap.size w7 ((w7.alloc (.cells #[.string ⟨#[97]⟩, .string ⟨#[97]⟩] 9)).alloc (.cells #[.int .i64 1, .int .i64 2] 3)) := hA1.alloc hA1.size _
     have hA3 : Below w7.heap.size w7 WA := by rw [← hWA]; exact hA2.alloc hA2.size _
     have O1 : Ls.Own WA w7.heap.size (.slice (some ⟨w7.heap.size, 0, none⟩) 2 2) [⟨#[97]⟩, ⟨#[97]⟩] := by
      have h1 : Ls.Own (w7.alloc (.cells #[.string ⟨#[97]⟩, .string ⟨#[97]⟩] 9)) w7.heap.size (.slice (some ⟨w7.heap.size, 0, none⟩) 2 2) [⟨#[97]⟩, ⟨#[97]⟩] := own_lit
      rw [← hWA]
      exact (h1.below ((Below.refl _ _).alloc (Nat.le_refl _) _)).below ((Below.refl _ _).alloc (Nat.le_refl _) _)
     have O2 : Li.Own WA w7.heap.size (.slice (some ⟨w7.heap.size + 1, 0, none⟩) 2 2) [1, 2] := by
      have h1 : Li.Own ((w7.alloc (.cells #[.string ⟨#[97]⟩, .string ⟨#[97]⟩] 9)).alloc (.cells #[.int .i64 1, .int .i64 2] 3)) (w7.heap.size + 1) (.slice (some ⟨w7.heap.size + 1, 0, none⟩) 2 2) [1, 2] := by
       have h2 := own_lit (w := w7.alloc (.cells #[.string ⟨#[97]⟩, .string ⟨#[97]⟩] 9)) (T := 3) (u0 := .int .i64 1) (u1 := .int .i64 2)
       rw [World.size_alloc] at h2
       exact h2
      rw [← hWA]
      exact (h1.below ((Below.refl _ _).alloc (Nat.le_refl _) _)).mono (by omega)
     have hWE : WA.cell? ⟨w7.heap.size + 1 + 1, 0, none⟩ = some (.slice (some ⟨w7.heap.size, 0, none⟩) 2 2) ∧ WA.cell? ⟨w7.heap.size + 1 + 1, 1, none⟩ = some (.slice (some ⟨w7.heap.size + 1, 0, none⟩) 2 2) := by
      have h9 := (wr2 (wr_new ((w7.alloc (.cells #[.string ⟨#[97]⟩, .string ⟨#[97]⟩] 9)).alloc (.cells #[.int .i64 1, .int .i64 2] 3)) [.slice (some ⟨w7.heap.size, 0, none⟩) 2 2, .slice (some ⟨w7.heap.size + 1, 0, none⟩) 2 2] 56)).2.1
      rw [World.size_alloc, World.size_alloc] at h9
      rw [← hWA]
      exact h9
     have HWA : Hid (type_of% hWA) := hWA
     have HA3 : Hid (type_of% hA3) := hA3
     have HO1 : Hid (type_of% O1) := O1
     have HO2 : Hid (type_of% O2) := O2
     have HWE : Hid (type_of% hWE) := hWE
     clear hWA hA1 hA2 hA3 O1 O2 hWE
     go_wp2_with (at_builtin; rw [HWA.out]; refine Ps.wpl_pushK rfl _ _ rfl B w7.heap.size _ m.ks (HB0.out _ (fr_below HA3.out)) (w7.heap.size + 1 + 1) _ _ _ _ _ _ ⟨[⟨#[97]⟩, ⟨#[97]⟩], [1, 2]⟩ rfl rfl HWE.out.1 HWE.out.2 HO1.out HO2.out (fun q e e2 => by simp [Value.ownBlock] at e e2; omega) HBN.out HA3.out.size HTL.out ?_; intro a9 c9 w9 hok9 hg9; have HMN : Hid (type_of% (HB1.out _ (KC + 1000) w9 (.slice a9 (m.ks.length + 1) c9) _ (fr_below HA3.out) ((HM7.out.below HA3.out).cu.mono (by omega)) hok9 hg9 (by decide))) := HB1.out _ (KC + 1000) w9 (.slice a9 (m.ks.length + 1) c9) _ (fr_below HA3.out) ((HM7.out.below HA3.out).cu.mono (by omega)) hok9 hg9 (by decide); obtain ⟨hl9, ⟨z0, z1, z2, z3, z4, z5⟩, g0, g1, g2, g3, g4, g5⟩ := wr6 (HM7.out.keptK HA3.out hg9); clear hok9 hg9)
     go_meet
     case rel => exact ⟨_, _, _, HMN.out.lower (by omega) (by omega)⟩
    ·
     go_wp2_with fail
     refine (Cu.raw_any w7 b (KC + 402) HM7.out.cu (by omega)).mono ?_
     rintro e w8 ⟨z, rfl, _, _, hg8, hc8⟩
     have HM8 : Hid (Ms w w8 b X2 X5 (KC + 404) 4000 m (.slice ak m.ks.length ck) (.slice ax m.ts.length ct)) := HM7.out.step hg8 (hc8.mono (by omega))
     clear hg8 hc8
     obtain ⟨hl5, ⟨x0, x1, x2, x3, x4, x5⟩, f0, f1, f2, f3, f4, f5⟩ := wr6 HM8.out.b5
     go_wp2_with fail
     go_meet
     case rel => exact ⟨⟨z, m.c, m.prior, m.base, m.ks, m.ts⟩, _, _, (HM8.out.num (m' := ⟨z, m.c, m.prior, m.base, m.ks, m.ts⟩) (o := 0) (by omega) (by simp [mc]) rfl rfl).lower (by omega) (by omega)⟩
    ·
     obtain ⟨hl5, ⟨x0, x1, x2, x3, x4, x5⟩, f0, f1, f2, f3, f4, f5⟩ := wr6 HM7.out.b5
     by_cases hks : 0 < m.ks.length
     ·
      have hks0 : (0 : Int) < (m.ks.length : Int) := by omega
      go_wp2_with fail
      obtain ⟨g, cv, a0, c0, n0, e0, en, k1, kf, hgl, hbg, hg5, hne, hnz, hown, hput⟩ := HM7.out.forV hks
      injection e0 with e0 _ e1
      subst e0
      subst e1
      have HOWN : Hid (type_of% hown) := hown
      have HPUT : Hid (type_of% hput) := hput
      have HNE : Hid (type_of% hne) := hne
      have HEN : Hid (type_of% en) := en
      clear hown hput hne en x0 x1 x2 x3 x4 x5 f0 f1 f2 f3 f4 f5 hl5
      have st : Below w7.heap.size w7 w7.drew := Tm.below_drew w7
      have MD : Ms w w7.drew b X2 X5 (KC + 402) 4000 m (.slice (some ⟨g, 0, none⟩) m.ks.length ck) (.slice ax m.ts.length ct) := HM7.out.below st
      have HMD : Hid (type_of% MD) := MD
      have hS : w7.drew.cell? ⟨X5, 4, none⟩ = some (.slice (some ⟨g, 0, none⟩) m.ks.length ck) ∧ w7.drew.cell? ⟨g, 1, none⟩ = some (.slice a0 n0 c0) := ⟨(wr6 MD.b5).2.1.2.2.2.2.1, (World.cell?_of_block (st.block g hgl)).trans k1⟩
      have hgf : w7.drew.heap.size = w7.heap.size := rfl
      have HK1 : Hid (type_of% k1) := k1
      have HKF : Hid (type_of% kf) := kf
      clear MD hgf k1 kf
      refine Hd.start (fun X => X.cell? ⟨X5, 4, none⟩ = some (.slice (some ⟨g, 0, none⟩) m.ks.length ck) ∧ X.cell? ⟨g, 1, none⟩ = some (.slice a0 n0 c0)) 13 (by kernel_rfl) ?_
      generalize w7.drew = w0 at st HMD hS ⊢
      refine Hd.After.pureD (i := 0) (some 33) (.pointer (some ⟨X5, 4, none⟩)) rfl rfl (by kernel_rfl) (by decide) (by kernel_rfl) (by kernel_rfl) (fun _ _ _ h => h) (hS) (Or.inl ⟨by rfl, ?_⟩) ?_
      ·
       intro X; go_simp; try with_reducible rfl
      (first | simp only [Act.put, List.setIfInBounds_toArray, List.set_cons_zero, List.set_cons_succ] | skip)
      refine Hd.After.takeD (i := 1) (some 34) (.slice (some ⟨g, 0, none⟩) m.ks.length ck) rfl rfl (by kernel_rfl) (by kernel_rfl) (by kernel_rfl) (by kernel_rfl) (by kernel_rfl) (fun _ _ _ h => h) (hS) (Or.inl ⟨by rfl, ?_⟩) ?_
      ·
       rintro X ⟨s0, s1⟩; go_simp; try with_reducible rfl
      (first | simp only [Act.put, List.setIfInBounds_toArray, List.set_cons_zero, List.set_cons_succ] | skip)
      refine Hd.After.pureD (i := 2) (some 35) (.pointer (some ⟨X5, 4, none⟩)) rfl rfl (by kernel_rfl) (by decide) (by kernel_rfl) (by kernel_rfl) (fun _ _ _ h => h) (hS) (Or.inl ⟨by rfl, ?_⟩) ?_
      ·
       intro X; go_simp; try with_reducible rfl
      (first | simp only [Act.put, List.setIfInBounds_toArray, List.set_cons_zero, List.set_cons_succ] | skip)
      refine Hd.After.takeD (i := 3) (some 36) (.slice (some ⟨g, 0, none⟩) m.ks.length ck) rfl rfl (by kernel_rfl) (by kernel_rfl) (by kernel_rfl) (by kernel_rfl) (by kernel_rfl) (fun _ _ _ h => h) (hS) (Or.inl ⟨by rfl, ?_⟩) ?_
      ·
       rintro X ⟨s0, s1⟩; go_simp; try with_reducible rfl
      (first | simp only [Act.put, List.setIfInBounds_toArray, List.set_cons_zero, List.set_cons_succ] | skip)
      refine Hd.After.pureD (i := 4) (some 37) (.pointer (some ⟨g, 0, none⟩)) rfl rfl (by kernel_rfl) (by decide) (by kernel_rfl) (by kernel_rfl) (fun _ _ _ h => h) (hS) (Or.inl ⟨by rfl, ?_⟩) ?_
      ·
       intro X; go_simp; try with_reducible rfl
      (first | simp only [Act.put, List.setIfInBounds_toArray, List.set_cons_zero, List.set_cons_succ] | skip)
      refine Hd.After.pureD (i := 5) (some 38) (.pointer (some ⟨g, 1, none⟩)) rfl rfl (by kernel_rfl) (by decide) (by kernel_rfl) (by kernel_rfl) (fun _ _ _ h => h) (hS) (Or.inl ⟨by rfl, ?_⟩) ?_
      ·
       intro X; go_simp; try with_reducible rfl
      (first | simp only [Act.put, List.setIfInBounds_toArray, List.set_cons_zero, List.set_cons_succ] | skip)
      refine Hd.After.takeD (i := 6) (some 39) (.slice a0 n0 c0) rfl rfl (by kernel_rfl) (by kernel_rfl) (by kernel_rfl) (by kernel_rfl) (by kernel_rfl) (fun _ _ _ h => h) (hS) (Or.inl ⟨by rfl, ?_⟩) ?_
      ·
       rintro X ⟨s0, s1⟩; go_simp; try with_reducible rfl
      (first | simp only [Act.put, List.setIfInBounds_toArray, List.set_cons_zero, List.set_cons_succ] | skip)
      refine Hd.After.pureD (i := 7) (some 40) (.pointer (some ⟨b, 0, none⟩)) rfl rfl (by kernel_rfl) (by decide) (by kernel_rfl) (by kernel_rfl) (fun _ _ _ h => h) (hS) (Or.inl ⟨by rfl, ?_⟩) ?_
      ·
       intro X; go_simp; try with_reducible rfl
      (first | simp only [Act.put, List.setIfInBounds_toArray, List.set_cons_zero, List.set_cons_succ] | skip)
      refine Hd.After.one (i := 8) (by kernel_rfl) rfl rfl ?_
      intro K hK
      go_simp
      go_wp2_with (go_at_call 37; refine (Cu.raw_any w0 b (KC + 402) HMD.out.cu (by omega)).mono ?_; rintro e w8 ⟨z, rfl, _, _, hg8, hc8⟩)
      have HM8 : Hid (Ms w w8 b X2 X5 (KC + 404) 4000 m (.slice (some ⟨g, 0, none⟩) m.ks.length ck) (.slice ax m.ts.length ct)) := HMD.out.step hg8 (hc8.mono (by omega))
      have HF8 : Hid (Fr (fun q => q = b) w7 w8) := (fr_below st).trans (fr_grown hg8 rfl)
      have hS8 : w8.cell? ⟨X5, 4, none⟩ = some (.slice (some ⟨g, 0, none⟩) m.ks.length ck) ∧ w8.cell? ⟨g, 1, none⟩ = some (.slice a0 n0 c0) := ⟨(wr6 HM8.out.b5).2.1.2.2.2.2.1, (World.cell?_of_block (HF8.out.block g hgl (by omega))).trans HK1.out⟩
      clear hg8 hc8
      refine hK _ _ (fun _ => hS8) ?_
      clear hK K
      (first | simp only [Act.put, List.setIfInBounds_toArray, List.set_cons_zero, List.set_cons_succ] | skip)
      have hA : Below w8.heap.size w8 (w8.alloc (.cells #[.int .i64 z] 3)) := (Below.refl _ _).alloc (Nat.le_refl _) _
      have HFA : Hid (Fr (fun q => q = b) w7 (w8.alloc (.cells #[.int .i64 z] 3))) := HF8.out.trans (fr_below hA)
      have hS9 : (w8.alloc (.cells #[.int .i64 z] 3)).cell? ⟨X5, 4, none⟩ = some (.slice (some ⟨g, 0, none⟩) m.ks.length ck) ∧ (w8.alloc (.cells #[.int .i64 z] 3)).cell? ⟨g, 1, none⟩ = some (.slice a0 n0 c0) := ⟨(wr6 (HM8.out.below hA).b5).2.1.2.2.2.2.1, (World.cell?_of_block (HFA.out.block g hgl (by omega))).trans HK1.out⟩
      refine Hd.After.one (i := 9) (by kernel_rfl) rfl rfl ?_
      intro K hK
      go_simp
      refine hK _ _ (fun _ => hS9) ?_
      clear hK K
      (first | simp only [Act.put, List.setIfInBounds_toArray, List.set_cons_zero, List.set_cons_succ] | skip)
      refine Hd.After.one (i := 10) (by kernel_rfl) rfl rfl ?_
      intro K hK
      refine Sn.wp_snocI _ _ rfl (some 43) rfl 0 (.slice a0 n0 c0) m.ks[0].vs w8.heap.size z rfl rfl (by simp) (HOWN.out _ HFA.out) (Nat.zero_le _) (by rw [HEN.out]; omega) ?_
      intro g9 c9 w9 hown9 hg9 hat9
      rw [HEN.out] at hown9 ⊢
      have HU : Hid ((Value.slice (some ⟨g9, 0, none⟩) (n0 + 1) c9).ownBlock = (Value.slice a0 n0 c0).ownBlock ∨ ∃ F, (Value.slice (some ⟨g9, 0, none⟩) (n0 + 1) c9).ownBlock = some F ∧ (w8.alloc (.cells #[.int .i64 z] 3)).heap.size ≤ F) := by
       show _ ∨ _
       rcases hat9 with e | e
       ·
        exact .inl e.symm
       ·
        exact .inr ⟨g9, rfl, e⟩
      have HMN : Hid (type_of% (HPUT.out _ (KC + 1000) w9 (.slice (some ⟨g9, 0, none⟩) (n0 + 1) c9) z HFA.out ((HM8.out.below hA).cu.mono (by omega)) hown9 hg9 HU.out)) := HPUT.out _ (KC + 1000) w9 (.slice (some ⟨g9, 0, none⟩) (n0 + 1) c9) z HFA.out ((HM8.out.below hA).cu.mono (by omega)) hown9 hg9 HU.out
      have hb9 := hg9.block g (Nat.lt_of_lt_of_le hgl HFA.out.size) (fun e => (HNE.out g e.symm).2.2 rfl)
      have hx9 := hg9.block X5 (HM8.out.below hA).b5.1 (fun e => (HNE.out X5 e.symm).2.1 rfl)
      have z4 : w9.cell? ⟨X5, 4, none⟩ = some (.slice (some ⟨g, 0, none⟩) m.ks.length ck) := (World.cell?_of_block hx9).trans hS9.1
      have k9 : w9.cell? ⟨g, 1, none⟩ = some (.slice a0 n0 c0) := (World.cell?_of_block hb9).trans hS9.2
      have kf9 : w9.frozen? ⟨g, 1, none⟩ = false := (World.frozen?_of_block (hb9.trans (HFA.out.block g hgl (by omega)))).trans HKF.out
      clear hown9 hg9 hat9 hb9 hx9
      refine hK _ _ (fun _ => ⟨z4, k9⟩) ?_
      clear hK K
      (first | simp only [Act.put, List.setIfInBounds_toArray, List.set_cons_zero, List.set_cons_succ] | skip)
      refine Hd.After.pureD (i := 11) (some 44) (.pointer (some ⟨g, 0, none⟩)) rfl rfl (by kernel_rfl) (by decide) (by kernel_rfl) (by kernel_rfl) (fun _ _ _ h => h) (⟨z4, k9⟩) (Or.inl ⟨by rfl, ?_⟩) ?_
      ·
       intro X; go_simp; try with_reducible rfl
      (first | simp only [Act.put, List.setIfInBounds_toArray, List.set_cons_zero, List.set_cons_succ] | skip)
      refine Hd.After.pureD (i := 12) (some 45) (.pointer (some ⟨g, 1, none⟩)) rfl rfl (by kernel_rfl) (by decide) (by kernel_rfl) (by kernel_rfl) (fun _ _ _ h => h) (⟨z4, k9⟩) (Or.inl ⟨by rfl, ?_⟩) ?_
      ·
       intro X; go_simp; try with_reducible rfl
      (first | simp only [Act.put, List.setIfInBounds_toArray, List.set_cons_zero, List.set_cons_succ] | skip)
      refine Hd.After.one (i := 13) (by kernel_rfl) rfl rfl ?_
      intro K hK
      go_simp
      refine hK _ _ (fun h => by cases h) ?_
      clear hK K
      refine Hd.After.done (by kernel_rfl) ?_ _
      go_wp2_with fail
      go_meet
      case rel => exact ⟨_, _, _, HMN.out.lower (by omega) (by omega)⟩
     ·
      have hks0 : ¬ (0 : Int) < (m.ks.length : Int) := by omega
      go_wp2_with fail
      go_meet
      case rel => exact ⟨_, _, _, HM7.out.lower (by omega) (by omega)⟩
  case rest =>
   clear HM6
   obtain ⟨m, vk, vt, ms⟩ := hcut
   obtain ⟨ak, ck, ax, ct, rfl, rfl, -⟩ := ms.om.rm
   have HMS : Hid (type_of% ms) := ms
   clear ms
   obtain ⟨hl2, ⟨r0, r1, r2, r3, r4, r5⟩, e0, e1, e2, e3, e4, e5⟩ := wr6 HMS.out.b2
   obtain ⟨hl5, ⟨x0, x1, x2, x3, x4, x5⟩, f0, f1, f2, f3, f4, f5⟩ := wr6 HMS.out.b5
   have h25w := HMS.out.x5
   go_wp2_with fail
   refine bodyPost_ret (v := .agg #[.int .i64 m.n, .int .i64 m.c, .int .i64 m.prior, .int .i64 m.base, .slice ak m.ks.length ck, .slice ax m.ts.length ct]) (by rw [Tb.results_cell rfl]; go_simp) rfl ⟨m, _, _, rfl, HMS.out.sz, ?_, ?_, ?_⟩
   ·
    have hS := set6 wc X2 (.int .i64 m.n) (.int .i64 m.c) (.int .i64 m.prior) (.int .i64 m.base) (.slice ak m.ks.length ck) (.slice ax m.ts.length ct)
    exact ((HMS.out.om.fr hS (fun q hq e => by omega)).bound).mono (fun q hq => ⟨by have := HX2.out; omega, hq.2⟩)
   ·
    exact fr_out HMS.out.gr (set6 wc X2 _ _ _ _ _ _) (fun q e => by omega) HX2.out
   ·
    exact curF HMS.out.cu (set6 wc X2 _ _ _ _ _ _) (fun q e => by have := HMS.out.bl; omega)
end Go.Proofs.YtglllflleabmbaaGreat.Dm
