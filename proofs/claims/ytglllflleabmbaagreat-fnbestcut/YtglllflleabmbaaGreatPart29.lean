/-
  Contracts that the proof leans on, put together in the order in which they build.
-/
import Derived.Test.YtglllflleabmbaaGreatPart28
/-
  CutTo of the program.
-/
namespace Go.Proofs.YtglllflleabmbaaGreat.Ct
set_option maxRecDepth 100000
open Go.RowKit
open Go.Proofs.YtglllflleabmbaaGreat.Sv (Fr fr_below fr_grown Wr wr2 new1 new2)
open Go.Proofs.YtglllflleabmbaaGreat.Kt (Kv OwK IsK)
open Go.Proofs.YtglllflleabmbaaGreat.To (OwT)
open Go.Proofs.YtglllflleabmbaaGreat.Tm (OwnP IsT)
open Go.Proofs.YtglllflleabmbaaGreat.Md (M mok mok_parts OwM Rm wr6 imok ks_at ts_at)
open Go.Proofs.YtglllflleabmbaaGreat.Tb (results_cell)
set_option linter.unusedVariables false
theorem _root_.Go.Proofs.YtglllflleabmbaaGreat.Tb.lets_mem {s : ByteArray} : ∀ {ss : List ByteArray}, s ∈ ss → s.size ≤ Tb.lets ss := by
 intro ss hs
 obtain ⟨j, hj, rfl⟩ := List.getElem_of_mem hs
 exact Tb.lets_at ss j hj
set_option maxHeartbeats 8000000 in
theorem icut (w : World) (ak ax : Option Addr) (ck ct : Nat) (m : M) (n : Int) (h : Rm w ak ax m) (hl : m.sz ≤ 1048576) (hcap : m.ts.length ≤ ct) :
  Calls Tryz.prog 13 #[.agg #[.int .i64 m.n, .int .i64 m.c, .int .i64 m.prior, .int .i64 m.base, .slice ak m.ks.length ck, .slice ax m.ts.length ct], .int .i64 n] w fun e w' => ∃ vk vt, e = .returned (.agg #[.int .i64 (mcut m n).n, .int .i64 (mcut m n).c, .int .i64 (mcut m n).prior, .int .i64 (mcut m n).base, vk, vt]) ∧ OwM w' (fun y => w.heap.size ≤ y ∧ y < w'.heap.size) vk vt (mcut m n) ∧ Below w.heap.size w w' := by
 go_enter Tryz.func13, Tryz.ntmps13
 go_wp2_with fail
 obtain ⟨W, hW, hsz, hB, bm, br⟩ := new2 w [.int .i64 m.n, .int .i64 m.c, .int .i64 m.prior, .int .i64 m.base, .slice ak m.ks.length ck, .slice ax m.ts.length ct] [.int .i64 0, .int .i64 0, .int .i64 0, .int .i64 0, .slice none 0 0, .slice none 0 0] 29 29
 rw [hW]
 clear hW
 refine (imok _ _ _ _ _ m (h.below hB) hl).mono ?_
 rintro e w1 ⟨rfl, hb⟩
 have bm := bm.below hb
 have br := br.below hb
 have hB := hB.trans (hb.mono hB.size)
 have hsz1 : w.heap.size + 2 ≤ w1.heap.size := by have := hb.size; omega
 clear hb hsz
 cases h1 : mok m with
 | false =>
  have HR : Hid (mcut m n = zero) := mcut_no h1 n
  obtain ⟨hrl, ⟨r0, r1, r2, r3, r4, r5⟩, f0, f1, f2, f3, f4, f5⟩ := wr6 br
  go_wp2
  refine bodyPost_ret (v := .agg #[.int .i64 0, .int .i64 0, .int .i64 0, .int .i64 0, .slice none 0 0, .slice none 0 0]) (by rw [results_cell rfl]; go_simp) rfl ⟨.slice none 0 0, .slice none 0 0, by rw [HR.out]; rfl, ?_, ?_⟩
  ·
   rw [HR.out]; exact ⟨fun _ => True, OwK.nil _ _, OwT.nil _ _⟩
  ·
   exact (((((hB.setCell (by simp) _).setCell (by simp) _).setCell (by simp) _).setCell (by simp) _).setCell (by simp) _).setCell (by simp) _
 | true =>
 have HR : Hid (mcut m n = ⟨m.n, m.c, m.prior, m.base, m.ks, m.ts.take (cutn m n)⟩) := mcut_yes h1 n
 have HKL : Hid (m.ks.length ≤ 40 ∧ m.ts.length ≤ 12) := ⟨by have h2 := (mok_parts h1).2.2.2.2.1; have h3 := Tk.sok_iff.1 (mok_parts h1).1; unfold Md.ncol at h2; split at h2 <;> omega, (mok_parts h1).2.2.2.1⟩
 have HL : Hid (m.sz ≤ 1048576) := hl
 clear h1 hl
 obtain ⟨_, ⟨x0, x1, x2, x3, x4, x5⟩, _⟩ := wr6 bm
 go_wp2
 obtain ⟨w2, hW2, hs2, hb2, bx0⟩ := new1 w1 [.int .i64 m.n, .int .i64 m.c, .int .i64 m.prior, .int .i64 m.base, .slice none 0 0, .slice none 0 0] 29
 rw [hW2]
 obtain ⟨b2, hb2e⟩ : ∃ b2, w1.heap.size = b2 := ⟨_, rfl⟩
 rw [hb2e] at bx0 ⊢
 obtain ⟨M0, hM0⟩ : ∃ M0, w2.heap.size = M0 := ⟨_, rfl⟩
 have HBX0 : Hid (type_of% bx0) := bx0
 have HBM : Hid (type_of% (bm.below hb2)) := bm.below hb2
 have HBR : Hid (type_of% (br.below hb2)) := br.below hb2
 have HBW2 : Hid (Below w.heap.size w w2) := hB.trans (hb2.mono hB.size)
 have HWB : Hid (w.heap.size + 2 ≤ b2) := by show _ ≤ _; omega
 have HMB : Hid (b2 < M0) := by show _ < _; omega
 have HWM : Hid (w.heap.size + 2 ≤ M0) := by show _ ≤ _; omega
 have HWS : Hid (M0 ≤ w2.heap.size) := by show _ ≤ _; omega
 clear hW2 hs2 hb2 bx0 hb2e hM0 bm br hB hsz1 x0 x1 x2 x3 x4 x5
 go_loopw [24] (fun i wr => ∃ (k : Nat) (ka : Option Addr) (kc : Nat), k ≤ m.ks.length ∧ i = .int .i64 k ∧ Wr wr b2 0 [.int .i64 m.n, .int .i64 m.c, .int .i64 m.prior, .int .i64 m.base, .slice ka k kc, .slice none 0 0] ∧ OwK wr (fun y => M0 ≤ y) (.slice ka k kc) (m.ks.take k) ∧ Fr (Fx b2 M0) w2 wr) (fun i _ => m.ks.length - (intOf i).toNat)
 case atStart => exact ⟨0, none, 0, Nat.zero_le _, rfl, HBX0.out, OwK.nil _ _, Fr.refl _ _⟩
 case round =>
  clear HBX0
  obtain ⟨k, ka, kc, hk, rfl, bx, ok, hf⟩ := hrel
  have hs2 := hf.size
  have hBw : Below w.heap.size w wr := HBW2.out.trans (fx_bel hf (by have := HWB.out; omega) (by have := HWM.out; omega) HBW2.out.size)
  obtain ⟨hbl, ⟨x0, x1, x2, x3, x4, x5⟩, _⟩ := wr6 bx
  obtain ⟨_, ⟨y0, y1, y2, y3, y4, y5⟩, _⟩ := wr6 (HBM.out.keptAt hf.size (hf.block _ HBM.out.1 (by unfold Fx; have := HWB.out; have := HWM.out; omega)))
  by_cases hlt : k < m.ks.length
  ·
   rcases h.k.below hBw with e0 | ⟨xb, xo, rfl, hxb, hxc⟩
   ·
    rw [e0] at hlt; simp at hlt
   obtain ⟨a0, c0, a1, c1, ⟨d0, d1⟩, i0, i1⟩ := hxc k hlt
   have hl1 := ks_at HL.out k hlt
   have hzs : ∀ s ∈ m.ks[k].ws, s.size ≤ 1048576 := fun s hs => by have := Tb.lets_mem hs; omega
   have hl1 : m.ks[k].ws.length + m.ks[k].vs.length ≤ 1048576 := by omega
   have HTK : Hid (m.ks.take (k + 1) = m.ks.take k ++ [m.ks[k]]) := List.take_succ_eq_append_getElem hlt
   have HTL : Hid ((m.ks.take k).length = k) := by show _ = _; rw [List.length_take]; omega
   have hk40 : k ≤ 40 := by have := HKL.out; omega
   generalize m.ks[k] = t at d0 d1 i0 i1 hl1 HTK hzs
   clear hxc
   go_wp2_with fail
   obtain ⟨W3, hW3, hs3, hb3, bt0⟩ := new1 wr [.slice a0 t.ws.length c0, .slice a1 t.vs.length c1] 56
   rw [hW3]
   obtain ⟨bt, hbt⟩ : ∃ bt, wr.heap.size = bt := ⟨_, rfl⟩
   rw [hbt] at bt0 ⊢
   have HVB : Hid (∀ y, (Value.slice ka k kc).ownBlock = some y → M0 ≤ y) := fun y ey => by obtain ⟨_, _, _, _, hv, _⟩ := ok; exact hv y ey
   have HVT : Hid ((Value.slice ka k kc).ownBlock ≠ some bt) := fun ey => by have := ok.lt bt ey; omega
   have HOK : Hid (OwK W3 (fun y => M0 ≤ y ∧ y < W3.heap.size) (.slice ka k kc) (m.ks.take k)) := (ok.below hb3).bound
   have HBX : Hid (Wr W3 b2 0 [.int .i64 m.n, .int .i64 m.c, .int .i64 m.prior, .int .i64 m.base, .slice ka k kc, .slice none 0 0]) := bx.below hb3
   have HBT : Hid (Wr W3 bt 0 [.slice a0 t.ws.length c0, .slice a1 t.vs.length c1]) := bt0
   have HF : Hid (Fr (Fx b2 M0) w2 W3) := hf.trans (fx_below hb3)
   have HM0 : Hid (M0 ≤ W3.heap.size) := by have := hb3.size; have := HWS.out; show _ ≤ _; omega
   have HSX : Hid (∀ X : World, Below W3.heap.size W3 X → X.cell? ⟨b2, 4, none⟩ = some (.slice ka k kc) ∧ X.cell? ⟨bt, 0, none⟩ = some (.slice a0 t.ws.length c0) ∧ X.cell? ⟨bt, 1, none⟩ = some (.slice a1 t.vs.length c1)) := fun X hX => ⟨(wr6 (HBX.out.below hX)).2.1.2.2.2.2.1, (wr2 (HBT.out.below hX)).2.1.1, (wr2 (HBT.out.below hX)).2.1.2⟩
   have i0 := i0.below hb3
   have i1 := i1.below hb3
   have st : Below W3.heap.size W3 W3.drew := (Below.refl _ _).drew
   have hS := HSX.out _ st
   clear hW3 hs3 hb3 bt0 hbt bx ok hf d0 d1 x0 x1 x2 x3 x4 x5 hBw hbl hxb y0 y1 y2 y3 y4 y5
   refine Hd.start (fun X => X.cell? ⟨b2, 4, none⟩ = some (.slice ka k kc) ∧ X.cell? ⟨bt, 0, none⟩ = some (.slice a0 t.ws.length c0) ∧ X.cell? ⟨bt, 1, none⟩ = some (.slice a1 t.vs.length c1)) 7 (by kernel_rfl) ?_
   generalize W3.drew = w0 at st hS ⊢
   refine Hd.After.pureD (i := 0) (some 28) (.pointer (some ⟨b2, 4, none⟩)) rfl rfl (by kernel_rfl) (by decide) (by kernel_rfl) (by kernel_rfl) (fun _ _ _ h => h) (hS) (Or.inl ⟨by rfl, ?_⟩) ?_
   ·
    intro X; go_simp; try with_reducible rfl
   (first | simp only [Act.put, List.setIfInBounds_toArray, List.set_cons_zero, List.set_cons_succ] | skip)
   refine Hd.After.takeD (i := 1) (some 29) (.slice ka k kc) rfl rfl (by kernel_rfl) (by kernel_rfl) (by kernel_rfl) (by kernel_rfl) (by kernel_rfl) (fun _ _ _ h => h) (hS) (Or.inl ⟨by rfl, ?_⟩) ?_
   ·
    rintro X ⟨s0, s1, s2⟩; go_simp; try with_reducible rfl
   (first | simp only [Act.put, List.setIfInBounds_toArray, List.set_cons_zero, List.set_cons_succ] | skip)
   refine Hd.After.takeD (i := 2) (some 30) (.agg #[.slice a0 t.ws.length c0, .slice a1 t.vs.length c1]) rfl rfl (by kernel_rfl) (by kernel_rfl) (by kernel_rfl) (by kernel_rfl) (by kernel_rfl) (fun _ _ _ h => h) (hS) (Or.inl ⟨by rfl, ?_⟩) ?_
   ·
    rintro X ⟨s0, s1, s2⟩; go_simp; try with_reducible rfl
   (first | simp only [Act.put, List.setIfInBounds_toArray, List.set_cons_zero, List.set_cons_succ] | skip)
   refine Hd.After.one (i := 3) (by kernel_rfl) rfl rfl ?_
   intro K hK
   go_simp
   go_wp2_with (go_at_call 26; refine (icopyK _ _ _ _ _ t (i0.below st) (i1.below st) hl1 hzs).mono ?_; rintro e w5 ⟨b0, d0, b1, d1, rfl, o0, o1, h01, hb⟩)
   have st5 : Below W3.heap.size W3 w5 := st.trans (hb.mono st.size)
   have h05 := hb.size
   clear hb
   refine hK _ _ (fun _ => HSX.out _ st5) ?_
   clear hK K
   (first | simp only [Act.put, List.setIfInBounds_toArray, List.set_cons_zero, List.set_cons_succ] | skip)
   have hA : Below w5.heap.size w5 (w5.alloc (.cells #[.slice b0 t.ws.length d0, .slice b1 t.vs.length d1] 56)) := (Below.refl _ _).alloc (Nat.le_refl _) _
   have st6 := st5.trans (hA.mono st5.size)
   refine Hd.After.one (i := 4) (by kernel_rfl) rfl rfl ?_
   intro K hK
   go_simp
   refine hK _ _ (fun _ => HSX.out _ st6) ?_
   clear hK K
   (first | simp only [Act.put, List.setIfInBounds_toArray, List.set_cons_zero, List.set_cons_succ] | skip)
   refine Hd.After.one (i := 5) (by kernel_rfl) rfl rfl ?_
   intro K hK
   refine wp_pushK _ _ rfl (some 33) rfl (fun y => M0 ≤ y) W3.heap.size _ (m.ks.take k) (HOK.out.below st6) w5.heap.size b0 b1 d0 d1 _ _ t rfl rfl (by simp) (by simp) ((o0.below hA).mono (by have := st.size; omega)) ((o1.below hA).mono (by have := st.size; omega)) h01 (fun y hy => by have := HM0.out; omega) st6.size (by rw [HTL.out]; omega) (k + 1) (by rw [HTL.out]) ?_
   intro a7 c7 w7 hok7 hg7
   rw [← HTK.out] at hok7
   have hf7 : Fr (Fx b2 M0) w2 w7 := HF.out.trans ((fx_below st6).trans (fx_grown hg7 HVB.out))
   have hb7 : Wr w7 b2 0 [.int .i64 m.n, .int .i64 m.c, .int .i64 m.prior, .int .i64 m.base, .slice ka k kc, .slice none 0 0] := (HBX.out.below st6).keptAt hg7.size (hg7.block b2 (Nat.lt_of_lt_of_le HBX.out.1 st6.size) (fun e => by have := HVB.out b2 e.symm; have := HMB.out; omega))
   have ht7 : Wr w7 bt 0 [.slice a0 t.ws.length c0, .slice a1 t.vs.length c1] := (HBT.out.below st6).keptAt hg7.size (hg7.block bt (Nat.lt_of_lt_of_le HBT.out.1 st6.size) (fun e => HVT.out e.symm))
   obtain ⟨hl7, ⟨p0, p1, p2, p3, p4, p5⟩, q0, q1, q2, q3, q4, q5⟩ := wr6 hb7
   obtain ⟨_, ⟨r0, r1⟩, _⟩ := wr2 ht7
   clear hg7 ht7
   refine hK _ _ (fun _ => ⟨p4, r0, r1⟩) ?_
   clear hK K
   (first | simp only [Act.put, List.setIfInBounds_toArray, List.set_cons_zero, List.set_cons_succ] | skip)
   refine Hd.After.pureD (i := 6) (some 34) (.pointer (some ⟨b2, 4, none⟩)) rfl rfl (by kernel_rfl) (by decide) (by kernel_rfl) (by kernel_rfl) (fun _ _ _ h => h) (⟨p4, r0, r1⟩) (Or.inl ⟨by rfl, ?_⟩) ?_
   ·
    intro X; go_simp; try with_reducible rfl
   (first | simp only [Act.put, List.setIfInBounds_toArray, List.set_cons_zero, List.set_cons_succ] | skip)
   refine Hd.After.one (i := 7) (by kernel_rfl) rfl rfl ?_
   intro K hK
   go_simp
   refine hK _ _ (fun h => by cases h) ?_
   clear hK K
   refine Hd.After.done (by kernel_rfl) ?_ _
   have HB8 : Hid (Wr (w7.setCell ⟨b2, 4, none⟩ (.slice a7 (k + 1) c7)) b2 0 [.int .i64 m.n, .int .i64 m.c, .int .i64 m.prior, .int .i64 m.base, .slice a7 (k + 1) c7, .slice none 0 0]) := hb7.set 4 (by simp) _
   have HO8 : Hid (OwK (w7.setCell ⟨b2, 4, none⟩ (.slice a7 (k + 1) c7)) (fun y => M0 ≤ y) (.slice a7 (k + 1) c7) (m.ks.take (k + 1))) := hok7.fr (fr_grown (B := fun y => y = b2) (Li.grown_set w7 b2 4 _) rfl) (fun y hy e => by have := HMB.out; omega)
   have HF8 : Hid (Fr (Fx b2 M0) w2 (w7.setCell ⟨b2, 4, none⟩ (.slice a7 (k + 1) c7))) := hf7.trans (fx_set w7 4 _)
   clear st hS st5 st6 hA o0 o1 h01 hok7 hf7 hb7 p0 p1 p2 p3 p4 p5 q0 q1 q2 q3 q4 q5 r0 r1 i0 i1 HSX
   go_wp2
   go_roundw
   case rel => exact ⟨k + 1, a7, c7, by omega, by go_num, HB8.out, HO8.out, HF8.out⟩
   case measure => simp [intOf]; omega
  ·
   obtain rfl : k = m.ks.length := by omega
   have e1 : m.ks.take m.ks.length = m.ks := List.take_of_length_le (Nat.le_refl _)
   rw [e1] at ok
   have okb := ok.bound
   generalize wr = w3 at *
   obtain ⟨M1, hM1⟩ : ∃ M1, w3.heap.size = M1 := ⟨_, rfl⟩
   rw [hM1] at okb
   have hs3 := hf.size
   have HOKK : Hid (OwK w3 (fun y => M0 ≤ y ∧ y < M1) (.slice ka m.ks.length kc) m.ks) := okb
   have HBX0 : Hid (type_of% bx) := bx
   have HBR3 : Hid (type_of% (HBR.out.keptAt hf.size (hf.block _ HBR.out.1 (by unfold Fx; have := HWB.out; have := HWM.out; omega)))) := HBR.out.keptAt hf.size (hf.block _ HBR.out.1 (by unfold Fx; have := HWB.out; have := HWM.out; omega))
   have HBW3 : Hid (Below w.heap.size w w3) := hBw
   have HWM1 : Hid (w.heap.size + 2 ≤ M1) := by have := HWM.out; have := HWS.out; show _ ≤ _; omega
   have HWS1 : Hid (M1 ≤ w3.heap.size) := by show _ ≤ _; omega
   have HMB1 : Hid (b2 < M1) := by have := HMB.out; have := HWS.out; show _ < _; omega
   have HM01 : Hid (M0 ≤ M1) := by have := HWS.out; show _ ≤ _; omega
   obtain ⟨q, hq⟩ : ∃ q : Nat, max 0 (min n (m.ts.length : Int)) = (q : Int) := ⟨(max 0 (min n (m.ts.length : Int))).toNat, by omega⟩
   have HQ : Hid (q ≤ m.ts.length) := by show _ ≤ _; omega
   have HCQ : Hid (cutn m n = q) := by show _ = _; unfold cutn; rw [hq]; simp
   have hqc : q ≤ ct := by have := HQ.out; omega
   have hqt : (q : Int) ≤ (m.ts.length : Int) := by have := HQ.out; omega
   clear e1 ok okb bx hf hM1 hs3 hBw hs2 x0 x1 x2 x3 x4 x5 hlt
   go_wp2
   clear hq y0 y1 y2 y3 y4 y5
   go_loopw [46] (fun i wr => ∃ (k : Nat) (ac : Option Addr) (cc : Nat), k ≤ q ∧ i = .int .i64 k ∧ Wr wr b2 0 [.int .i64 m.n, .int .i64 m.c, .int .i64 m.prior, .int .i64 m.base, .slice ka m.ks.length kc, .slice ac k cc] ∧ OwT wr (fun y => M1 ≤ y) (.slice ac k cc) (m.ts.take k) ∧ Fr (Fx b2 M1) w3 wr) (fun i _ => q - (intOf i).toNat)
   case atStart => exact ⟨0, none, 0, Nat.zero_le _, rfl, HBX0.out, OwT.nil _ _, Fr.refl _ _⟩
   case round =>
    clear HBX0
    obtain ⟨k, ac, cc, hk, rfl, bx, ok, hf⟩ := hrel
    have hs2 := hf.size
    have hBw : Below w.heap.size w wr := HBW3.out.trans (fx_bel hf (by have := HWB.out; omega) (by have := HWM1.out; omega) HBW3.out.size)
    obtain ⟨hbl, ⟨x0, x1, x2, x3, x4, x5⟩, _⟩ := wr6 bx
    by_cases hlt : k < q
    ·
     have hlt2 : k < m.ts.length := by have := HQ.out; omega
     rcases h.t.below hBw with e0 | ⟨xb, xo, rfl, hxb, hxc⟩
     ·
      rw [e0] at hlt2; simp at hlt2
     obtain ⟨v0, v1, ⟨d0, d1⟩, a0, c0, a1, c1, rfl, rfl, i0, i1⟩ := hxc k hlt2
     have hl1 := ts_at HL.out k hlt2
     have HTK : Hid (m.ts.take (k + 1) = m.ts.take k ++ [m.ts[k]]) := List.take_succ_eq_append_getElem hlt2
     have HTL : Hid ((m.ts.take k).length = k) := by show _ = _; rw [List.length_take]; omega
     have hk40 : k ≤ 40 := by have := HKL.out; omega
     generalize m.ts[k] = t at d0 d1 i0 i1 hl1 HTK
     clear hxc
     go_wp2_with fail
     obtain ⟨W3, hW3, hs3, hb3, bt0⟩ := new1 wr [.slice a0 t.sp.length c0, .slice a1 t.lv.length c1] 60
     rw [hW3]
     obtain ⟨bt, hbt⟩ : ∃ bt, wr.heap.size = bt := ⟨_, rfl⟩
     rw [hbt] at bt0 ⊢
     have HVB : Hid (∀ y, (Value.slice ac k cc).ownBlock = some y → M1 ≤ y) := fun y ey => by obtain ⟨_, _, _, _, hv, _⟩ := ok; exact hv y ey
     have HVT : Hid ((Value.slice ac k cc).ownBlock ≠ some bt) := fun ey => by have := ok.lt bt ey; omega
     have HOK : Hid (OwT W3 (fun y => M1 ≤ y ∧ y < W3.heap.size) (.slice ac k cc) (m.ts.take k)) := (ok.below hb3).bound
     have HBX : Hid (Wr W3 b2 0 [.int .i64 m.n, .int .i64 m.c, .int .i64 m.prior, .int .i64 m.base, .slice ka m.ks.length kc, .slice ac k cc]) := bx.below hb3
     have HBT : Hid (Wr W3 bt 0 [.slice a0 t.sp.length c0, .slice a1 t.lv.length c1]) := bt0
     have HF : Hid (Fr (Fx b2 M1) w3 W3) := hf.trans (fx_below hb3)
     have HM0 : Hid (M1 ≤ W3.heap.size) := by have := hb3.size; have := HWS1.out; show _ ≤ _; omega
     have HSX : Hid (∀ X : World, Below W3.heap.size W3 X → X.cell? ⟨b2, 5, none⟩ = some (.slice ac k cc) ∧ X.cell? ⟨bt, 0, none⟩ = some (.slice a0 t.sp.length c0) ∧ X.cell? ⟨bt, 1, none⟩ = some (.slice a1 t.lv.length c1)) := fun X hX => ⟨(wr6 (HBX.out.below hX)).2.1.2.2.2.2.2, (wr2 (HBT.out.below hX)).2.1.1, (wr2 (HBT.out.below hX)).2.1.2⟩
     have i0 := i0.below hb3
     have i1 := i1.below hb3
     have st : Below W3.heap.size W3 W3.drew := (Below.refl _ _).drew
     have hS := HSX.out _ st
     clear hW3 hs3 hb3 bt0 hbt bx ok hf d0 d1 x0 x1 x2 x3 x4 x5 hBw hbl hxb
     refine Hd.start (fun X => X.cell? ⟨b2, 5, none⟩ = some (.slice ac k cc) ∧ X.cell? ⟨bt, 0, none⟩ = some (.slice a0 t.sp.length c0) ∧ X.cell? ⟨bt, 1, none⟩ = some (.slice a1 t.lv.length c1)) 7 (by kernel_rfl) ?_
     generalize W3.drew = w0 at st hS ⊢
     refine Hd.After.pureD (i := 0) (some 50) (.pointer (some ⟨b2, 5, none⟩)) rfl rfl (by kernel_rfl) (by decide) (by kernel_rfl) (by kernel_rfl) (fun _ _ _ h => h) (hS) (Or.inl ⟨by rfl, ?_⟩) ?_
     ·
      intro X; go_simp; try with_reducible rfl
     (first | simp only [Act.put, List.setIfInBounds_toArray, List.set_cons_zero, List.set_cons_succ] | skip)
     refine Hd.After.takeD (i := 1) (some 51) (.slice ac k cc) rfl rfl (by kernel_rfl) (by kernel_rfl) (by kernel_rfl) (by kernel_rfl) (by kernel_rfl) (fun _ _ _ h => h) (hS) (Or.inl ⟨by rfl, ?_⟩) ?_
     ·
      rintro X ⟨s0, s1, s2⟩; go_simp; try with_reducible rfl
     (first | simp only [Act.put, List.setIfInBounds_toArray, List.set_cons_zero, List.set_cons_succ] | skip)
     refine Hd.After.takeD (i := 2) (some 52) (.agg #[.slice a0 t.sp.length c0, .slice a1 t.lv.length c1]) rfl rfl (by kernel_rfl) (by kernel_rfl) (by kernel_rfl) (by kernel_rfl) (by kernel_rfl) (fun _ _ _ h => h) (hS) (Or.inl ⟨by rfl, ?_⟩) ?_
     ·
      rintro X ⟨s0, s1, s2⟩; go_simp; try with_reducible rfl
     (first | simp only [Act.put, List.setIfInBounds_toArray, List.set_cons_zero, List.set_cons_succ] | skip)
     refine Hd.After.one (i := 3) (by kernel_rfl) rfl rfl ?_
     intro K hK
     go_simp
     go_wp2_with (go_at_call 27; refine (icopyT _ _ _ _ _ t (i0.below st) (i1.below st) hl1).mono ?_; rintro e w5 ⟨b0, d0, b1, d1, rfl, o0, o1, h01, hb⟩)
     have st5 : Below W3.heap.size W3 w5 := st.trans (hb.mono st.size)
     have h05 := hb.size
     clear hb
     refine hK _ _ (fun _ => HSX.out _ st5) ?_
     clear hK K
     (first | simp only [Act.put, List.setIfInBounds_toArray, List.set_cons_zero, List.set_cons_succ] | skip)
     have hA : Below w5.heap.size w5 (w5.alloc (.cells #[.slice b0 t.sp.length d0, .slice b1 t.lv.length d1] 60)) := (Below.refl _ _).alloc (Nat.le_refl _) _
     have st6 := st5.trans (hA.mono st5.size)
     refine Hd.After.one (i := 4) (by kernel_rfl) rfl rfl ?_
     intro K hK
     go_simp
     refine hK _ _ (fun _ => HSX.out _ st6) ?_
     clear hK K
     (first | simp only [Act.put, List.setIfInBounds_toArray, List.set_cons_zero, List.set_cons_succ] | skip)
     refine Hd.After.one (i := 5) (by kernel_rfl) rfl rfl ?_
     intro K hK
     refine wp_pushT _ _ rfl (some 55) rfl (fun y => M1 ≤ y) W3.heap.size _ (m.ts.take k) (HOK.out.below st6) w5.heap.size b0 b1 d0 d1 _ _ t rfl rfl (by simp) (by simp) ((o0.below hA).mono (by have := st.size; omega)) ((o1.below hA).mono (by have := st.size; omega)) h01 (fun y hy => by have := HM0.out; omega) st6.size (by rw [HTL.out]; omega) (k + 1) (by rw [HTL.out]) ?_
     intro a7 c7 w7 hok7 hg7
     rw [← HTK.out] at hok7
     have hf7 : Fr (Fx b2 M1) w3 w7 := HF.out.trans ((fx_below st6).trans (fx_grown hg7 HVB.out))
     have hb7 : Wr w7 b2 0 [.int .i64 m.n, .int .i64 m.c, .int .i64 m.prior, .int .i64 m.base, .slice ka m.ks.length kc, .slice ac k cc] := (HBX.out.below st6).keptAt hg7.size (hg7.block b2 (Nat.lt_of_lt_of_le HBX.out.1 st6.size) (fun e => by have := HVB.out b2 e.symm; have := HMB1.out; omega))
     have ht7 : Wr w7 bt 0 [.slice a0 t.sp.length c0, .slice a1 t.lv.length c1] := (HBT.out.below st6).keptAt hg7.size (hg7.block bt (Nat.lt_of_lt_of_le HBT.out.1 st6.size) (fun e => HVT.out e.symm))
     obtain ⟨hl7, ⟨p0, p1, p2, p3, p4, p5⟩, q0, q1, q2, q3, q4, q5⟩ := wr6 hb7
     obtain ⟨_, ⟨r0, r1⟩, _⟩ := wr2 ht7
     clear hg7 ht7
     refine hK _ _ (fun _ => ⟨p5, r0, r1⟩) ?_
     clear hK K
     (first | simp only [Act.put, List.setIfInBounds_toArray, List.set_cons_zero, List.set_cons_succ] | skip)
     refine Hd.After.pureD (i := 6) (some 56) (.pointer (some ⟨b2, 5, none⟩)) rfl rfl (by kernel_rfl) (by decide) (by kernel_rfl) (by kernel_rfl) (fun _ _ _ h => h) (⟨p5, r0, r1⟩) (Or.inl ⟨by rfl, ?_⟩) ?_
     ·
      intro X; go_simp; try with_reducible rfl
     (first | simp only [Act.put, List.setIfInBounds_toArray, List.set_cons_zero, List.set_cons_succ] | skip)
     refine Hd.After.one (i := 7) (by kernel_rfl) rfl rfl ?_
     intro K hK
     go_simp
     refine hK _ _ (fun h => by cases h) ?_
     clear hK K
     refine Hd.After.done (by kernel_rfl) ?_ _
     have HB8 : Hid (Wr (w7.setCell ⟨b2, 5, none⟩ (.slice a7 (k + 1) c7)) b2 0 [.int .i64 m.n, .int .i64 m.c, .int .i64 m.prior, .int .i64 m.base, .slice ka m.ks.length kc, .slice a7 (k + 1) c7]) := hb7.set 5 (by simp) _
     have HO8 : Hid (OwT (w7.setCell ⟨b2, 5, none⟩ (.slice a7 (k + 1) c7)) (fun y => M1 ≤ y) (.slice a7 (k + 1) c7) (m.ts.take (k + 1))) := hok7.fr (fr_grown (B := fun y => y = b2) (Li.grown_set w7 b2 5 _) rfl) (fun y hy e => by have := HMB1.out; omega)
     have HF8 : Hid (Fr (Fx b2 M1) w3 (w7.setCell ⟨b2, 5, none⟩ (.slice a7 (k + 1) c7))) := hf7.trans (fx_set w7 5 _)
     clear st hS st5 st6 hA o0 o1 h01 hok7 hf7 hb7 p0 p1 p2 p3 p4 p5 q0 q1 q2 q3 q4 q5 r0 r1 i0 i1 HSX
     go_wp2
     go_roundw
     case rel => exact ⟨k + 1, a7, c7, by omega, by go_num, HB8.out, HO8.out, HF8.out⟩
     case measure => simp [intOf]; omega
    ·
     obtain rfl : k = q := by omega
     have okk := HOKK.out.fr hf (fun y hy e => by rcases e with e | e; have := HMB.out; omega; omega)
     have okb := ok.bound
     obtain ⟨hrl, ⟨r0, r1, r2, r3, r4, r5⟩, f0, f1, f2, f3, f4, f5⟩ := wr6 (HBR3.out.keptAt hf.size (hf.block _ HBR3.out.1 (by unfold Fx; have := HWB.out; have := HWM1.out; omega)))
     have HEND : Hid (OwK wr (fun y => M0 ≤ y ∧ y < M1) (.slice ka m.ks.length kc) m.ks ∧ OwT wr (fun y => M1 ≤ y ∧ y < wr.heap.size) (.slice ac k cc) (m.ts.take k)) := ⟨okk, okb⟩
     have HBE : Hid (Below w.heap.size w wr) := hBw
     have HSW : Hid (M1 ≤ wr.heap.size) := by have := HWS1.out; show _ ≤ _; omega
     clear ok okk okb hf hBw
     go_wp2
     have hW0 := HWB.out
     have hW1 := HMB.out
     have hW2 := HM01.out
     have hsw := HSW.out
     have hset : ∀ (X : World) (o : Nat) (x : Value), Fr (fun y => y = w.heap.size + 1) X (X.setCell ⟨w.heap.size + 1, o, none⟩ x) := fun X o x => fr_grown (Li.grown_set X (w.heap.size + 1) o x) rfl
     have hall := fun (X : World) (v0 v1 v2 v3 v4 v5 : Value) => ((((((hset X 0 v0).trans (hset _ 1 v1)).trans (hset _ 2 v2)).trans (hset _ 3 v3)).trans (hset _ 4 v4)).trans (hset _ 5 v5))
     refine bodyPost_ret (v := .agg #[.int .i64 m.n, .int .i64 m.c, .int .i64 m.prior, .int .i64 m.base, .slice ka m.ks.length kc, .slice ac k cc]) (by rw [results_cell rfl]; go_simp) rfl ⟨.slice ka m.ks.length kc, .slice ac k cc, by rw [HR.out], ?_, ?_⟩
     ·
      rw [HR.out, HCQ.out]
      refine ⟨fun y => y < M1, (HEND.out.1.fr (hall _ _ _ _ _ _ _) (fun y hy e => by omega)).mono (fun y hy => ⟨⟨by omega, by simp [World.setCell]; omega⟩, hy.2⟩), (HEND.out.2.fr (hall _ _ _ _ _ _ _) (fun y hy e => by omega)).mono (fun y hy => ⟨⟨by omega, by simp [World.setCell]; omega⟩, by omega⟩)⟩
     ·
      exact ((((((HBE.out.setCell (by simp) _).setCell (by simp) _).setCell (by simp) _).setCell (by simp) _).setCell (by simp) _).setCell (by simp) _)
end Go.Proofs.YtglllflleabmbaaGreat.Ct
