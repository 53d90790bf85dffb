/-
  Contracts that the proof leans on, put together in the order in which they build.
-/
import Derived.Test.YtifemdjookmboaaGreatDoorPart15
import Derived.Deep.Cut
import Derived.Test.YtifemdjookmboaaGreatDoorPart12
import Derived.Test.YtifemdjookmboaaGreatDoorPart2
import Derived.Test.YtifemdjookmboaaGreatDoorPart1
import Derived.Test.YtifemdjookmboaaGreatDoorPart3
/-
  The text of a model, as the program writes it: trees, words with an end of a line, all of it.
-/
namespace Go.Proofs.YtifemdjookmboaaGreatDoor.Mt
set_option maxRecDepth 100000
open Go.RowKit
open Go.Proofs.YtifemdjookmboaaGreatDoor.Md (M mok mok_parts kok kok_parts Rm wr6 imok)
open Go.Proofs.YtifemdjookmboaaGreatDoor.Kt (Kv IsK)
open Go.Proofs.YtifemdjookmboaaGreatDoor.Tm (IsT IsP)
open Go.Proofs.YtifemdjookmboaaGreatDoor.Sv (new1 Wr wr2)
open Go.Proofs.YtifemdjookmboaaGreatDoor.Li (ret_bool)
set_option linter.unusedVariables false

set_option maxHeartbeats 2000000 in
theorem ittxt (w : World) (a0 a1 : Option Addr) (c0 c1 : Nat) (t : Tr.T) (h0 : IsP w a0 t.sp) (h1 : Li.IsL w a1 t.lv) (hk : Tn t) (hT : Nu.Tab w) :
    Calls Tryz.prog 65 #[.agg #[.slice a0 t.sp.length c0, .slice a1 t.lv.length c1]] w fun e w' => e = .returned (.string ⟨(ttxt t).toArray⟩) ∧ Below w.heap.size w w' := by
  obtain ⟨k1, k2, k3, k4⟩ := hk
  have HH : Hid (ttxt t = [116, 114, 101, 101] ++ spt t.sp ++ ([32, 58] ++ nums t.lv ++ [10])) := rfl
  have hnl := nums_len _ k4
  go_enter Tryz.func65, Tryz.ntmps65
  go_wp2_with fail
  obtain ⟨W, hW, hsz, hB, bm⟩ := new1 w [.slice a0 t.sp.length c0, .slice a1 t.lv.length c1] 43
  rw [hW]
  obtain ⟨W1, hW1, hBr, hbu, hs1⟩ := bu_new W (w.heap.size + 1) hsz.symm
  rw [hW1]
  clear hW hW1 hs1 hsz
  have hT := hT.below hB
  refine (wrote _ _ _ _ _ hbu (by simp [ByteArray.size]) hBr.size).mono ?_
  rintro e w3 ⟨rfl, hbu, hB3⟩
  have hBr := hBr.trans hB3
  clear hB3
  obtain ⟨_, ⟨x0, x1⟩, _⟩ := wr2 (bm.below hBr)
  have HBU : Hid (Bu w3 W.heap.size (w.heap.size + 1) ([116, 114, 101, 101] ++ spt (t.sp.take 0))) := by show Bu _ _ _ _; simpa [spt] using hbu
  clear hbu
  go_wp2
  go_loopw [10] (fun i wr => ∃ k : Nat, k ≤ t.sp.length ∧ i = .int .i64 k ∧ Bu wr W.heap.size (w.heap.size + 1) ([116, 114, 101, 101] ++ spt (t.sp.take k)) ∧ Below W.heap.size W wr) (fun i _ => t.sp.length - (intOf i).toNat)
  case atStart => exact ⟨0, Nat.zero_le _, rfl, HBU.out, hBr⟩
  case round =>
    obtain ⟨k, hk, rfl, hbl, hBr⟩ := hrel
    clear HBU x0 x1
    obtain ⟨_, ⟨x0, x1⟩, _⟩ := wr2 (bm.below hBr)
    have hBe := hB.trans (hBr.mono hB.size)
    have hnl2 : (spt (t.sp.take k)).length ≤ 176 := by
      have q1 := spt_len (t.sp.take k) (take_mem k3 k)
      have q2 := List.length_take_le k t.sp
      omega
    by_cases hlt : k < t.sp.length
    · rcases h0.below hBe with e0 | ⟨xb, xo, rfl, hxb, hxc⟩
      · rw [e0] at hlt; simp at hlt
      obtain ⟨d0, d1⟩ := hxc k hlt
      have hx := k3 t.sp[k] (List.getElem_mem hlt)
      have HN : Hid (spt (t.sp.take (k + 1)) = spt (t.sp.take k) ++ nums [t.sp[k].1, t.sp[k].2]) := spt_take t.sp k hlt
      obtain ⟨x, hx0⟩ : ∃ x, t.sp[k].1 = x := ⟨_, rfl⟩
      obtain ⟨y, hy0⟩ : ∃ x, t.sp[k].2 = x := ⟨_, rfl⟩
      rw [hx0, hy0] at HN hx
      rw [hx0] at d0
      rw [hy0] at d1
      clear hxc hx0 hy0
      have hi : ∀ z ∈ [x, y], i64 z := by intro z hz; simp at hz; rcases hz with rfl | rfl; exact hx.1; exact hx.2
      have hil := nums_len _ hi
      simp only [List.length_cons, List.length_nil] at hil
      go_wp2_with fail
      have hB1 : Below wr.heap.size wr ((wr.alloc (.cells #[.int .i64 x, .int .i64 y] 56)).alloc (.cells #[.int .i64 x, .int .i64 y] 3)) := ((Below.refl _ _).alloc (Nat.le_refl _) _).alloc (by simp) _
      have hbl := hbl.below hB1
      have hBr := hBr.trans (hB1.mono hBr.size)
      refine (ispaced _ _ _ [x, y] (isl_lit (wr.alloc (.cells #[.int .i64 x, .int .i64 y] 56)) [x, y] 3 _ _ (by simp) rfl) hi (by simp) (hT.below hBr)).mono ?_
      rintro e w1 ⟨rfl, hB2⟩
      have hbl := hbl.below hB2
      have hBr := hBr.trans (hB2.mono hBr.size)
      clear hB1 hB2 d0 d1 hxb x0 x1
      go_wp2_with fail
      refine (wrote _ _ _ _ _ hbl (by rw [ba_size]; simp; omega) hBr.size).mono ?_
      rintro e w2 ⟨rfl, hb2, hB2⟩
      have hBr := hBr.trans hB2
      have HB : Hid (Bu w2 W.heap.size (w.heap.size + 1) ([116, 114, 101, 101] ++ spt (t.sp.take (k + 1)))) := by
        show Bu _ _ _ _
        rw [HN.out]
        simpa using hb2
      clear hb2 hB2 hbl
      go_wp2
      go_roundw
      case rel => exact ⟨k + 1, by omega, by go_num, HB.out, hBr⟩
      case measure => simp [intOf]; omega
    · have e1 : t.sp.take k = t.sp := List.take_of_length_le (by omega)
      rw [e1] at hbl hnl2
      clear e1
      go_wp2_with fail
      refine (ispaced _ _ _ t.lv (h1.below hBe) k4 (by omega) (hT.below hBr)).mono ?_
      rintro e w1 ⟨rfl, hB2⟩
      have hbl := hbl.below hB2
      have hBr := hBr.trans (hB2.mono hBr.size)
      clear hB2 x0 x1 hBe
      go_wp2_with fail
      refine (wrote _ _ _ _ _ hbl (by rw [ByteArray.size_append, ByteArray.size_append, ba_size]; simp only [ByteArray.size]; simp; omega) hBr.size).mono ?_
      rintro e w2 ⟨rfl, hb2, hB2⟩
      have hBr := hBr.trans hB2
      have HB : Hid (Bu w2 W.heap.size (w.heap.size + 1) ([116, 114, 101, 101] ++ spt t.sp ++ ([32, 58] ++ nums t.lv ++ [10]))) := by
        show Bu _ _ _ _
        simpa using hb2
      rw [← HH.out] at HB
      clear hb2 hbl hB2
      go_wp2_with fail
      refine (told _ _ _ _ HB.out hBr.size).mono ?_
      rintro e w3 ⟨rfl, hB3⟩
      have hBe := hB.trans ((hBr.trans hB3).mono hB.size)
      go_wp2
      go_ret
      exact ⟨rfl, hBe⟩
theorem idx_has : ∀ (l : List UInt8) (c : UInt8), decide (0 ≤ Lib.indexByte l c) = l.contains c
  | [], c => by simp [Lib.indexByte]
  | b :: l, c => by
    have ih := idx_has l c
    have hg := Lib.indexByte_ge l c
    unfold Lib.indexByte
    by_cases h : b = c
    · subst h; simp
    · have h1 : (b == c) = false := by simpa using h
      have h2 : (c == b) = false := by simpa using fun e => h e.symm
      simp only [h1, List.contains_cons, h2, Bool.false_or, ← ih]
      by_cases h3 : Lib.indexByte l c = -1
      · simp [h3]
      · have h4 : (Lib.indexByte l c == -1) = false := by simpa using h3
        simp only [h4]
        simp
        omega
theorem contains_lf (s : ByteArray) (w : World) : Calls Tryz.prog 61 #[.string s, .string ⟨#[10]⟩] w fun e w' => e = .returned (.bool (hasLf s)) ∧ w' = w := by
  refine (Tryz.strings_Contains_one s 10 w).mono ?_
  rintro e w' ⟨rfl, rfl⟩
  exact ⟨by rw [idx_has]; rfl, rfl⟩
set_option maxHeartbeats 2000000 in
theorem ianylf (w : World) (a : Option Addr) (ca : Nat) (ks : List Kv) (h : IsK w a ks) (hl : ks.length ≤ 1048576) (hw : ∀ t ∈ ks, t.ws.length ≤ 1048576) :
    Calls Tryz.prog 34 #[.slice a ks.length ca] w fun e w' => e = .returned (.bool (anyLf ks)) ∧ Below w.heap.size w w' := by
  go_enter Tryz.func34, Tryz.ntmps34
  go_wp2
  go_loopw [9] (fun i wr => ∃ k : Nat, k ≤ ks.length ∧ i = .int .i64 k ∧ (∀ j (hj : j < ks.length), j < k → (ks[j].ws.any hasLf) = false) ∧ Below w.heap.size w wr) (fun i _ => ks.length - (intOf i).toNat)
  case atStart => exact ⟨0, Nat.zero_le _, rfl, fun j _ hj => by omega, Below.refl _ _⟩
  case round =>
    obtain ⟨k, hk, rfl, hno, hB⟩ := hrel
    have HNO : Hid (∀ j (hj : j < ks.length), j < k → (ks[j].ws.any hasLf) = false) := hno
    clear hno
    by_cases hlt : k < ks.length
    · rcases h.below hB with e0 | ⟨xb, xo, rfl, hxb, hxc⟩
      · rw [e0] at hlt; simp at hlt
      obtain ⟨a0, c0, a1, c1, ⟨d0, d1⟩, hs, hv⟩ := hxc k hlt
      have hwl := hw ks[k] (List.getElem_mem hlt)
      have HYES : Hid ((ks[k].ws.any hasLf) = true → anyLf ks = true) := fun e => any_yes (p := fun t : Kv => t.ws.any hasLf) hlt e
      have HNX : Hid ((ks[k].ws.any hasLf) = false → ∀ j (hj : j < ks.length), j < k + 1 → (ks[j].ws.any hasLf) = false) := fun e => at_snoc (p := fun t : Kv => t.ws.any hasLf) HNO.out hlt e
      clear hxc HNO
      obtain ⟨ws, hws⟩ : ∃ ws, ks[k].ws = ws := ⟨_, rfl⟩
      obtain ⟨nv, hnv⟩ : ∃ ws, ks[k].vs.length = ws := ⟨_, rfl⟩
      rw [hws] at HYES HNX d0 hs hwl
      rw [hnv] at d1
      clear hws hv hnv
      go_wp2
      obtain ⟨W, hW, hsz, hB1, bm⟩ := new1 wr [.slice a0 ws.length c0, .slice a1 nv c1] 39
      rw [hW]
      have hBr := hB.trans (hB1.mono hB.size)
      have hs := hs.below hB1
      clear hW hsz d0 d1 hB1 bm
      go_loopw [16] (fun i wq => ∃ q : Nat, q ≤ ws.length ∧ i = .int .i64 q ∧ (∀ j (hj : j < ws.length), j < q → hasLf ws[j] = false) ∧ wq = W) (fun i _ => ws.length - (intOf i).toNat)
      case atStart => exact ⟨0, Nat.zero_le _, rfl, fun j _ hj => by omega, rfl⟩
      case round =>
        obtain ⟨q, hq, rfl, hno, rfl⟩ := hrel
        have HNO : Hid (∀ j (hj : j < ws.length), j < q → hasLf ws[j] = false) := hno
        clear hno
        by_cases hql : q < ws.length
        · rcases id hs with e0 | ⟨yb, yo, rfl, hyb, hyc⟩
          · rw [e0] at hql; simp at hql
          have hcy := hyc q hql
          clear hyc
          cases hh : hasLf ws[q] with
          | true =>
            have HR : Hid (anyLf ks = true) := HYES.out (any_yes (p := hasLf) hql hh)
            go_wp2_with (go_at_call 61; refine (contains_lf _ _).mono ?_; rintro e w' ⟨rfl, hw'⟩; subst w'; rw [hh])
            go_ret
            exact ⟨ret_bool HR.out.symm, hBr⟩
          | false =>
            have HR : Hid (∀ j (hj : j < ws.length), j < q + 1 → hasLf ws[j] = false) := at_snoc (p := hasLf) HNO.out hql hh
            go_wp2_with (go_at_call 61; refine (contains_lf _ _).mono ?_; rintro e w' ⟨rfl, hw'⟩; subst w'; rw [hh])
            go_roundw
            case rel => exact ⟨q + 1, by omega, by go_num, HR.out, by first | rfl | trivial⟩
            case measure => simp [intOf]; omega
        · have HR : Hid (∀ j (hj : j < ks.length), j < k + 1 → (ks[j].ws.any hasLf) = false) := HNX.out (any_no fun j hj => HNO.out j hj (by omega))
          go_wp2
          go_roundw
          case rel => exact ⟨k + 1, by omega, by go_num, HR.out, hBr⟩
          case measure => simp [intOf]; omega
    · have HR : Hid (anyLf ks = false) := any_no (p := fun t : Kv => t.ws.any hasLf) fun j hj => HNO.out j hj (by omega)
      go_wp2
      go_ret
      exact ⟨ret_bool HR.out.symm, hB⟩
set_option maxHeartbeats 2000000 in
theorem isummed (w : World) (ak ax : Option Addr) (ck ct : Nat) (m : M) (h : Rm w ak ax m) (hm : Mn m) (hT : Nu.Tab w) :
    Calls Tryz.prog 35 #[.agg #[.int .i64 m.n, .int .i64 m.c, .int .i64 m.prior, .int .i64 m.base, .slice ak m.ks.length ck, .slice ax m.ts.length ct]] w fun e w' => e = .returned (.string ⟨(body m).toArray⟩) ∧ Below w.heap.size w w' := by
  have HH : Hid (body m = head m ++ ctxts m.ks ++ ttxts m.ts) := rfl
  have hhl := head_len hm
  have hkl := hm.k
  have htl := hm.t
  go_enter Tryz.func35, Tryz.ntmps35
  go_wp2_with fail
  obtain ⟨W, hW, hsz, hB, bm⟩ := new1 w [.int .i64 m.n, .int .i64 m.c, .int .i64 m.prior, .int .i64 m.base, .slice ak m.ks.length ck, .slice ax m.ts.length ct] 27
  rw [hW]
  obtain ⟨W1, hW1, hBr, hbu, hs1⟩ := bu_new W (w.heap.size + 1) hsz.symm
  rw [hW1]
  clear hW hW1 hs1 hsz
  have hT := hT.below hB
  have h := h.below hB
  refine (ihead _ _ _ _ _ m hm (hT.below hBr)).mono ?_
  rintro e w2 ⟨rfl, hB2⟩
  have hbu := hbu.below hB2
  have hBr := hBr.trans (hB2.mono hBr.size)
  clear hB2
  go_wp2_with fail
  refine (wrote _ _ _ _ _ hbu (by rw [ba_size]; simp; omega) hBr.size).mono ?_
  rintro e w3 ⟨rfl, hbu, hB3⟩
  have hBr := hBr.trans hB3
  clear hB3
  obtain ⟨_, ⟨x0, x1, x2, x3, x4, x5⟩, _⟩ := wr6 (bm.below hBr)
  have HBU : Hid (Bu w3 W.heap.size (w.heap.size + 1) (head m ++ ctxts (m.ks.take 0))) := by show Bu _ _ _ _; simpa [ctxts] using hbu
  clear hbu
  go_wp2
  go_loopw [14] (fun i wr => ∃ k : Nat, k ≤ m.ks.length ∧ i = .int .i64 k ∧ Bu wr W.heap.size (w.heap.size + 1) (head m ++ ctxts (m.ks.take k)) ∧ Below W.heap.size W wr) (fun i _ => m.ks.length - (intOf i).toNat)
  case atStart => exact ⟨0, Nat.zero_le _, rfl, HBU.out, hBr⟩
  case round =>
    obtain ⟨k, hk, rfl, hbl, hBr⟩ := hrel
    clear HBU x0 x1 x2 x3 x4 x5
    have hnl2 : (ctxts (m.ks.take k)).length ≤ 5838 := ctxts_len (by have := List.length_take_le k m.ks; omega) (take_mem hm.ks k)
    by_cases hlt : k < m.ks.length
    · rcases h.k.below hBr with e0 | ⟨xb, xo, rfl, hxb, hxc⟩
      · rw [e0] at hlt; simp at hlt
      obtain ⟨a0, c0, a1, c1, ⟨d0, d1⟩, hs, hv⟩ := hxc k hlt
      have HN : Hid (ctxts (m.ks.take (k + 1)) = ctxts (m.ks.take k) ++ ctxt m.ks[k]) := ctxts_take m.ks k hlt
      have hkn := hm.ks m.ks[k] (List.getElem_mem hlt)
      have hcl := ctxt_len hkn
      clear hxc
      generalize m.ks[k] = t at d0 d1 hs hv HN hkn hcl
      go_wp2_with fail
      obtain ⟨W2, hW2, hsz2, hB1, bt⟩ := new1 wr [.slice a0 t.ws.length c0, .slice a1 t.vs.length c1] 39
      rw [hW2]
      have hbl := hbl.below hB1
      have hBr := hBr.trans (hB1.mono hBr.size)
      refine (ictxt _ _ _ _ _ t (hs.below hB1) (hv.below hB1) hkn (hT.below hBr)).mono ?_
      rintro e w4 ⟨rfl, hB2⟩
      have hbl := hbl.below hB2
      have hBr := hBr.trans (hB2.mono hBr.size)
      clear hB1 hB2 hW2 hsz2 bt d0 d1 hs hv hxb
      go_wp2_with fail
      refine (wrote _ _ _ _ _ hbl (by rw [ba_size]; simp; omega) hBr.size).mono ?_
      rintro e w5 ⟨rfl, hb2, hB2⟩
      have hBr := hBr.trans hB2
      have HB : Hid (Bu w5 W.heap.size (w.heap.size + 1) (head m ++ ctxts (m.ks.take (k + 1)))) := by
        show Bu _ _ _ _
        rw [HN.out]
        simpa using hb2
      clear hb2 hB2 hbl
      go_wp2
      go_roundw
      case rel => exact ⟨k + 1, by omega, by go_num, HB.out, hBr⟩
      case measure => simp [intOf]; omega
    · have e1 : m.ks.take k = m.ks := List.take_of_length_le (by omega)
      rw [e1] at hbl hnl2
      clear e1
      obtain ⟨_, ⟨x0, x1, x2, x3, x4, x5⟩, _⟩ := wr6 (bm.below hBr)
      obtain ⟨X, hX⟩ : ∃ X, head m ++ ctxts m.ks = X := ⟨_, rfl⟩
      have hXl : X.length ≤ 5932 := by rw [← hX, List.length_append]; omega
      rw [hX] at hbl HH
      have HBU : Hid (Bu wr W.heap.size (w.heap.size + 1) (X ++ ttxts (m.ts.take 0))) := by show Bu _ _ _ _; simpa [ttxts] using hbl
      clear hX hbl
      go_wp2
      go_loopw [25] (fun i wr => ∃ k : Nat, k ≤ m.ts.length ∧ i = .int .i64 k ∧ Bu wr W.heap.size (w.heap.size + 1) (X ++ ttxts (m.ts.take k)) ∧ Below W.heap.size W wr) (fun i _ => m.ts.length - (intOf i).toNat)
      case atStart => exact ⟨0, Nat.zero_le _, rfl, HBU.out, hBr⟩
      case round =>
        obtain ⟨q, hq, rfl, hbl, hBr⟩ := hrel
        clear HBU x0 x1 x2 x3 x4 x5
        have hnl2 : (ttxts (m.ts.take q)).length ≤ 6420 := ttxts_len (by have := List.length_take_le q m.ts; omega) (take_mem hm.ts q)
        by_cases hlt2 : q < m.ts.length
        · rcases h.t.below hBr with e0 | ⟨xb, xo, rfl, hxb, hxc⟩
          · rw [e0] at hlt2; simp at hlt2
          obtain ⟨v0, v1, ⟨d0, d1⟩, htr⟩ := hxc q hlt2
          have HN : Hid (ttxts (m.ts.take (q + 1)) = ttxts (m.ts.take q) ++ ttxt m.ts[q]) := ttxts_take m.ts q hlt2
          have hkn := hm.ts m.ts[q] (List.getElem_mem hlt2)
          have hcl := ttxt_len hkn
          clear hxc
          generalize m.ts[q] = t at d0 d1 htr HN hkn hcl
          obtain ⟨a0, c0, a1, c1, rfl, rfl, hp, hv⟩ := htr
          go_wp2_with fail
          obtain ⟨W2, hW2, hsz2, hB1, bt⟩ := new1 wr [.slice a0 t.sp.length c0, .slice a1 t.lv.length c1] 43
          rw [hW2]
          have hbl := hbl.below hB1
          have hBr := hBr.trans (hB1.mono hBr.size)
          refine (ittxt _ _ _ _ _ t (hp.below hB1) (hv.below hB1) hkn (hT.below hBr)).mono ?_
          rintro e w4 ⟨rfl, hB2⟩
          have hbl := hbl.below hB2
          have hBr := hBr.trans (hB2.mono hBr.size)
          clear hB1 hB2 hW2 hsz2 bt d0 d1 hp hv hxb
          go_wp2_with fail
          refine (wrote _ _ _ _ _ hbl (by rw [ba_size]; simp; omega) hBr.size).mono ?_
          rintro e w5 ⟨rfl, hb2, hB2⟩
          have hBr := hBr.trans hB2
          have HB : Hid (Bu w5 W.heap.size (w.heap.size + 1) (X ++ ttxts (m.ts.take (q + 1)))) := by
            show Bu _ _ _ _
            rw [HN.out]
            simpa using hb2
          clear hb2 hB2 hbl
          go_wp2
          go_roundw
          case rel => exact ⟨q + 1, by omega, by go_num, HB.out, hBr⟩
          case measure => simp [intOf]; omega
        · have e1 : m.ts.take q = m.ts := List.take_of_length_le (by omega)
          rw [e1, ← HH.out] at hbl
          clear e1
          go_wp2_with fail
          refine (told _ _ _ _ hbl hBr.size).mono ?_
          rintro e w3 ⟨rfl, hB3⟩
          have hBe := hB.trans ((hBr.trans hB3).mono hB.size)
          go_wp2
          go_ret
          exact ⟨rfl, hBe⟩
set_option maxHeartbeats 2000000 in
theorem imtext (w : World) (ak ax : Option Addr) (ck ct : Nat) (m : M) (h : Rm w ak ax m) (hl : m.sz ≤ 1048576) (hT : Nu.Tab w) :
    Calls Tryz.prog 15 #[.agg #[.int .i64 m.n, .int .i64 m.c, .int .i64 m.prior, .int .i64 m.base, .slice ak m.ks.length ck, .slice ax m.ts.length ct]] w fun e w' => e = .returned (.string ⟨(mtext m).toArray⟩) ∧ Below w.heap.size w w' := by
  go_enter Tryz.func15, Tryz.ntmps15
  go_wp2_with fail
  obtain ⟨W, hW, hsz, hB, bm⟩ := new1 w [.int .i64 m.n, .int .i64 m.c, .int .i64 m.prior, .int .i64 m.base, .slice ak m.ks.length ck, .slice ax m.ts.length ct] 27
  rw [hW]
  clear hW hsz
  refine (imok _ _ _ _ _ m (h.below hB) hl).mono ?_
  rintro e w1 ⟨rfl, hb⟩
  have bm := bm.below hb
  have hB := hB.trans (hb.mono hB.size)
  clear hb
  cases h1 : mok m with
  | false =>
    have HR : Hid (mtext m = []) := mtext_no h1
    go_wp2
    go_ret
    exact ⟨by rw [HR.out]; rfl, hB⟩
  | true =>
  have hm := mok_mn h1
  have HOK : Hid (mok m = true) := h1
  clear h1
  obtain ⟨_, ⟨x0, x1, x2, x3, x4, x5⟩, _⟩ := wr6 bm
  go_wp2_with fail
  refine (ianylf _ _ _ m.ks (h.below hB).k (by have := hm.k; omega) (fun t ht => by have := (hm.ks t ht).1; omega)).mono ?_
  rintro e w2 ⟨rfl, hb⟩
  have bm := bm.below hb
  have hB := hB.trans (hb.mono hB.size)
  clear hb x0 x1 x2 x3 x4 x5
  cases h1 : anyLf m.ks with
  | true =>
    have HR : Hid (mtext m = []) := mtext_lf h1
    go_wp2
    go_ret
    exact ⟨by rw [HR.out]; rfl, hB⟩
  | false =>
  have HR : Hid (mtext m = whole m) := mtext_yes HOK.out h1
  have HWH : Hid (whole m = body m ++ ([115, 117, 109] ++ nums [(Cr.crc (body m) : Int)] ++ [10])) := rfl
  have hbl := body_len hm
  have hwl := whole_len hm
  clear h1
  obtain ⟨_, ⟨x0, x1, x2, x3, x4, x5⟩, _⟩ := wr6 bm
  go_wp2_with fail
  refine (isummed _ _ _ _ _ m (h.below hB) hm (hT.below hB)).mono ?_
  rintro e w3 ⟨rfl, hb⟩
  have hB := hB.trans (hb.mono hB.size)
  have hi := crc_i64 (body m)
  obtain ⟨X, hX⟩ : ∃ X, body m = X := ⟨_, rfl⟩
  rw [hX] at HWH hi hbl ⊢
  rw [HWH.out] at hwl
  clear hb x0 x1 x2 x3 x4 x5 bm hX
  have hi' : ∀ x ∈ [(Cr.crc X : Int)], i64 x := by intro x hx; simp at hx; subst hx; exact hi
  have hnl := nums_len _ hi'
  have hcr := Cr.crc_lt X
  have hic := Cr.icrc ⟨X.toArray⟩ w3 (by rw [ba_size]; omega)
  simp only [List.length_cons, List.length_nil] at hnl
  have hdl : (ByteArray.mk X.toArray).data.toList = X := by simp
  rw [hdl] at hic
  clear hdl
  have hlen : X.length + 3 + (nums [(Cr.crc X : Int)]).length + 1 ≤ 12400 := by simp at hwl; omega
  clear hwl
  go_wp2_with (go_at_call 37; refine hic.mono ?_; rintro e w' ⟨rfl, hw'⟩; subst w')
  have hB1 : Below w.heap.size w (w3.alloc (.cells #[.int .i64 (Cr.crc X : Nat)] 3)) := hB.alloc hB.size _
  refine (ispaced _ _ _ [(Cr.crc X : Int)] (isl_lit w3 [(Cr.crc X : Int)] 3 _ _ rfl rfl) hi' (by simp) (hT.below hB1)).mono ?_
  rintro e w4 ⟨rfl, hB2⟩
  have hB := hB1.trans (hB2.mono hB1.size)
  clear hB1 hB2 hic hi hi' hcr
  generalize nums [(Cr.crc X : Int)] = Y at hnl hlen HWH ⊢
  go_upto_region 5 with fail
  have HE : Hid ((⟨X.toArray⟩ : ByteArray) ++ ⟨#[115, 117, 109]⟩ ++ ⟨Y.toArray⟩ ++ ⟨#[10]⟩ = ⟨(X ++ ([115, 117, 109] ++ Y ++ [10])).toArray⟩) := ba_ext (by simp)
  rw [HE.out]
  have hZ : (X ++ ([115, 117, 109] ++ Y ++ [10])).length ≤ 12400 := by simp; omega
  generalize X ++ ([115, 117, 109] ++ Y ++ [10]) = Z at hZ HWH ⊢
  clear hlen hnl hbl HE
  go_wp2
  go_ret
  exact ⟨by rw [HR.out, HWH.out]; rfl, hB⟩
end Go.Proofs.YtifemdjookmboaaGreatDoor.Mt
/-
  ModelRead of the program: the model whose text it is, or none.
-/
namespace Go.Proofs.YtifemdjookmboaaGreatDoor.Rm
set_option maxRecDepth 100000
open Go.RowKit
open Go.Proofs.YtifemdjookmboaaGreatDoor.Md (M OwM mok)
open Go.Proofs.YtifemdjookmboaaGreatDoor.Kt (Kv OwK)
open Go.Proofs.YtifemdjookmboaaGreatDoor.To (OwT)
open Go.Proofs.YtifemdjookmboaaGreatDoor.Mt (whole mtext anyLf)
open Go.Proofs.YtifemdjookmboaaGreatDoor.Sv (Fr fr_below fr_grown Wr new2)
set_option linter.unusedVariables false
/-- A model that has a text. -/
def Good (m : M) : Prop := mok m = true ∧ anyLf m.ks = false
theorem whole_inj {m m' : M} (h : Good m) (h' : Good m') (e : whole m = whole m') : m = m' := by
  have h1 := rdt_whole (gd_of h.1 h.2)
  have h2 := rdt_whole (gd_of h'.1 h'.2)
  rw [e] at h1
  exact (St.mk.inj (Option.some.inj (h1.symm.trans h2))).1
theorem rdt_nil (st : St) (h : ¬ 0 < st.left) : rdt [] st = none := by
  unfold rdt
  show rd [[]] st = none
  have hc : Lib.cut [] [32] = ([], [], false) := Pc.cut_no 32 [] (by simp)
  have hf : first [] = [] := by unfold first; rw [hc]
  refine rd_none ?_ (.inr ?_)
  · unfold dLine
    rw [if_neg h, hf, if_neg (by decide), if_neg (by decide), if_neg (by decide)]
  · rw [hf]; decide
/-- What the reader answers. -/
def Reads (s : List UInt8) (m : M) (ok : Bool) : Prop := (ok = true ∧ Good m ∧ whole m = s) ∨ (ok = false ∧ m = zero ∧ ∀ m', Good m' → ¬ whole m' = s)
theorem reads_one {s : List UInt8} {m m' : M} {a b : Bool} (h : Reads s m a) (h' : Reads s m' b) : m = m' ∧ a = b := by
  rcases h with ⟨rfl, h1, h2⟩ | ⟨rfl, rfl, h1⟩
  · rcases h' with ⟨rfl, h3, h4⟩ | ⟨rfl, rfl, h3⟩
    · exact ⟨whole_inj h1 h3 (h2.trans h4.symm), rfl⟩
    · exact absurd h2 (h3 m h1)
  · rcases h' with ⟨rfl, h3, h4⟩ | ⟨rfl, rfl, h3⟩
    · exact absurd h4 (h1 m' h3)
    · exact ⟨rfl, rfl⟩
theorem mtext_good {m : M} (h : Good m) : mtext m = whole m := by unfold mtext; exact if_pos h
theorem mtext_bad {m : M} (h : ¬ Good m) : mtext m = [] := by unfold mtext; exact if_neg h
theorem whole_le {m : M} (h : Good m) : (whole m).length ≤ 12400 := Mt.whole_len (Mt.mok_mn h.1)
theorem reads_yes {s : List UInt8} {st : St} (h : rdt s ⟨zero, 0⟩ = some st) (e : mtext st.m = s) : Reads s st.m true := by
  by_cases hg : Good st.m
  · exact .inl ⟨rfl, hg, by rw [← mtext_good hg]; exact e⟩
  · rw [mtext_bad hg] at e
    have h1 := rdt_nil ⟨zero, 0⟩ (by decide)
    rw [e] at h1
    exact absurd (h1.symm.trans h) (by simp)
theorem reads_no {s : List UInt8} {st : St} (h : rdt s ⟨zero, 0⟩ = some st) (e : ¬ mtext st.m = s) : Reads s zero false := by
  refine .inr ⟨rfl, rfl, fun m hm hw => e ?_⟩
  have h1 := rdt_whole (gd_of hm.1 hm.2)
  rw [hw] at h1
  have h2 : st = ⟨m, 0⟩ := Option.some.inj (h.symm.trans h1)
  rw [h2]
  exact (mtext_good hm).trans hw
theorem reads_none {s : List UInt8} (h : rdt s ⟨zero, 0⟩ = none) : Reads s zero false := by
  refine .inr ⟨rfl, rfl, fun m hm hw => ?_⟩
  have h1 := rdt_whole (gd_of hm.1 hm.2)
  rw [hw] at h1
  exact absurd (h.symm.trans h1) (by simp)
theorem reads_long {s : List UInt8} (h : 30000 < s.length) : Reads s zero false := by
  refine .inr ⟨rfl, rfl, fun m hm hw => ?_⟩
  have := whole_le hm
  rw [hw] at this
  omega
theorem results_ct {fn : Func} {p q : Tmp} {ty : TypeId} (h : fn.results = #[.cell p ty, .tmp q]) (tmps : Array Value) (P : Program) (w : World) :
    (results fn tmps).run P w = ((asAddr (tmps.getD p undef)).run P w).andThen fun a w₁ => ((loadVar ty a).run P w₁).andThen fun v w₂ => .ok (.tuple #[v, tmps.getD q undef]) w₂ := by
  simp only [results, h]
  simp [Sem.run_bind, Result.andThen]
theorem zero_own (w : World) (B : Nat → Prop) : OwM w B (.slice none 0 0) (.slice none 0 0) zero := ⟨fun _ => True, OwK.nil _ _, OwT.nil _ _⟩
def Ans (w : World) (s : List UInt8) (e : Ending) (w' : World) : Prop := ∃ m ok vk vt, Reads s m ok ∧ e = .returned (.tuple #[.agg #[.int .i64 m.n, .int .i64 m.c, .int .i64 m.prior, .int .i64 m.base, vk, vt], .bool ok]) ∧ OwM w' (fun y => w.heap.size ≤ y) vk vt m ∧ m.sz ≤ 100000 ∧ Below w.heap.size w w'
theorem ans_no {w w' : World} {s : List UInt8} (h : Reads s zero false) (hb : Below w.heap.size w w') : Ans w s (.returned (.tuple #[.agg #[.int .i64 0, .int .i64 0, .int .i64 0, .int .i64 0, .slice none 0 0, .slice none 0 0], .bool false])) w' :=
  ⟨zero, false, .slice none 0 0, .slice none 0 0, h, rfl, zero_own _ _, by decide, hb⟩
theorem bel6 {w w1 : World} {R : Nat} (h : Below w.heap.size w w1) (hR : w.heap.size = R) (a b c d e f : Value) : Below w.heap.size w ((((((w1.setCell ⟨R, 0, none⟩ a).setCell ⟨R, 1, none⟩ b).setCell ⟨R, 2, none⟩ c).setCell ⟨R, 3, none⟩ d).setCell ⟨R, 4, none⟩ e).setCell ⟨R, 5, none⟩ f) := by
  have hr : w.heap.size ≤ R := by omega
  exact (((((h.setCell hr a).setCell hr b).setCell hr c).setCell hr d).setCell hr e).setCell hr f
set_option maxHeartbeats 2000000 in
theorem imread (w : World) (s : ByteArray) (hs : s.size ≤ 281474976710656) (hV : Vs w) :
    Calls Tryz.prog 5 #[.string s] w fun e w' => Ans w s.data.toList e w' := by
  have hsz : s.data.toList.length = s.size := by simp
  by_cases hlong : 30000 < s.size
  · have HR : Hid (Reads s.data.toList zero false) := reads_long (by omega)
    go_enter Tryz.func5, Tryz.ntmps5
    go_wp2
    refine bodyPost_ret (v := .tuple #[.agg #[.int .i64 0, .int .i64 0, .int .i64 0, .int .i64 0, .slice none 0 0, .slice none 0 0], .bool false]) (by rw [results_ct rfl]; go_simp) rfl (ans_no HR.out ?_)
    repeat first | exact ((Below.refl _ _).alloc (Nat.le_refl _) _).alloc (by simp) _ | refine Below.setCell ?_ (by simp) _
  have hlong' : ¬ (30000 : Int) < s.size := by omega
  go_enter Tryz.func5, Tryz.ntmps5
  go_wp2_with fail
  obtain ⟨W, hW, hsW, hB, br, bx⟩ := new2 w [.int .i64 0, .int .i64 0, .int .i64 0, .int .i64 0, .slice none 0 0, .slice none 0 0] [.int .i64 0, .int .i64 0, .int .i64 0, .int .i64 0, .slice none 0 0, .slice none 0 0, .int .i64 0] 27 48
  rw [hW]
  refine (iread w W (w.heap.size + 1) s hV hB (by omega) bx (by omega)).mono ?_
  rintro e w1 ⟨he, hF⟩
  obtain ⟨R, hR⟩ : ∃ R, w.heap.size = R := ⟨_, rfl⟩
  obtain ⟨b, hb⟩ : ∃ b, w.heap.size + 1 = b := ⟨_, rfl⟩
  have hRb : ¬ R = b := by omega
  have hbR : ¬ b = R := by omega
  have br1 : Wr w1 R 0 [.int .i64 0, .int .i64 0, .int .i64 0, .int .i64 0, .slice none 0 0, .slice none 0 0] := by
    rw [hR] at br
    exact br.keptAt hF.size (hF.block R br.1 (by unfold Fx; have := br.1; omega))
  have hB1 : Below w.heap.size w w1 := hB.trans ⟨hF.os, hF.tape, hF.output, hF.size, fun k hk => hF.block k (by omega) (by unfold Fx; omega)⟩
  rw [hb] at he ⊢
  rw [hR]
  have HB1 : Hid (type_of% hB1) := hB1
  have HRW : Hid (w.heap.size = R) := hR
  have HLE : Hid (w.heap.size + 2 = W.heap.size) := hsW.symm
  clear hW hB br bx hF hb hR hsW hlong
  rcases he with ⟨st, lo, ak, ck, ax, ct, hrd, rfl, hlo, hg, hsm⟩ | ⟨hrd, rfl⟩
  · have hT : Nu.Tab w1 := (hV.below hB1).1
    obtain ⟨ak', ck', ax', ct', e1, e2, hrm⟩ := hg.om.rm
    injection e1 with e1 _ e3
    injection e2 with e2 _ e4
    subst e1; subst e2; subst e3; subst e4
    obtain ⟨hbl, ⟨c0, c1, c2, c3, c4, c5, c6⟩, xx⟩ := wr7 hg.bx
    have HG : Hid (type_of% hg) := hg
    have HRD : Hid (type_of% hrd) := hrd
    have HSM : Hid (type_of% hsm) := hsm
    have HLO : Hid (W.heap.size ≤ lo) := hlo
    have HBR : Hid (type_of% br1) := br1
    clear hg hrd hlo xx c6
    go_wp2_with fail
    refine (Mt.imtext w1 ak ax ck ct st.m hrm (by omega) hT).mono ?_
    rintro e w2 ⟨rfl, hB2⟩
    obtain ⟨hbl2, ⟨d0, d1, d2, d3, d4, d5, d6⟩, yy⟩ := wr7 (HG.out.bx.below hB2)
    obtain ⟨hrl, ⟨r0, r1, r2, r3, r4, r5⟩, f0, f1, f2, f3, f4, f5⟩ := Md.wr6 (HBR.out.below hB2)
    have HB2 : Hid (Below w.heap.size w w2) := HB1.out.trans (hB2.mono HB1.out.size)
    have HOM : Hid (OwM w2 (fun y => lo ≤ y) (.slice ak st.m.ks.length ck) (.slice ax st.m.ts.length ct) st.m) := HG.out.om.below hB2
    have hte : (ByteArray.mk (mtext st.m).toArray).data.toList = mtext st.m := by simp
    generalize ByteArray.mk (mtext st.m).toArray = t at hte ⊢
    have HTE : Hid (t.data.toList = mtext st.m) := hte
    clear hte hrm hT hB2 c0 c1 c2 c3 c4 c5 d6 yy hB1 br1 hsm
    by_cases h1 : t = s
    · have HR : Hid (Reads s.data.toList st.m true) := reads_yes HRD.out (by rw [← HTE.out, h1])
      have q1 := Ls.tl_eq h1
      clear h1
      go_wp2
      refine bodyPost_ret (v := .tuple #[.agg #[.int .i64 st.m.n, .int .i64 st.m.c, .int .i64 st.m.prior, .int .i64 st.m.base, .slice ak st.m.ks.length ck, .slice ax st.m.ts.length ct], .bool true]) (by rw [results_ct rfl]; go_simp) rfl ⟨st.m, true, _, _, HR.out, rfl, ?_, HSM.out, ?_⟩
      · have hRl : R < lo := by have h1 := HRW.out; have h2 := HLE.out; have h3 := HLO.out; omega
        exact (om_set (om_set (om_set (om_set (om_set (om_set HOM.out hRl) hRl) hRl) hRl) hRl) hRl).mono (fun y hy => by have h1 := HRW.out; show _ ≤ _; omega)
      · exact bel6 HB2.out HRW.out _ _ _ _ _ _
    · have HR : Hid (Reads s.data.toList zero false) := reads_no HRD.out (fun e => h1 (by
        have h2 := HTE.out.trans e
        obtain ⟨⟨a⟩⟩ := t
        obtain ⟨⟨c⟩⟩ := s
        exact congrArg (fun x => ByteArray.mk ⟨x⟩) h2))
      have q1 := Ls.tl_ne h1
      clear h1
      go_wp2
      refine bodyPost_ret (v := .tuple #[.agg #[.int .i64 0, .int .i64 0, .int .i64 0, .int .i64 0, .slice none 0 0, .slice none 0 0], .bool false]) (by rw [results_ct rfl]; go_simp) rfl (ans_no HR.out ?_)
      exact bel6 HB2.out HRW.out _ _ _ _ _ _
  · have HR : Hid (Reads s.data.toList zero false) := reads_none hrd
    obtain ⟨hrl, ⟨r0, r1, r2, r3, r4, r5⟩, f0, f1, f2, f3, f4, f5⟩ := Md.wr6 br1
    clear hrd
    go_wp2
    refine bodyPost_ret (v := .tuple #[.agg #[.int .i64 0, .int .i64 0, .int .i64 0, .int .i64 0, .slice none 0 0, .slice none 0 0], .bool false]) (by rw [results_ct rfl]; go_simp) rfl (ans_no HR.out ?_)
    exact bel6 HB1.out HRW.out _ _ _ _ _ _
end Go.Proofs.YtifemdjookmboaaGreatDoor.Rm
/-
  The text of a good model gives the model, as the model of the document reads it; so what its reader answers is what any right reader answers.
-/
namespace Go.Proofs.YtifemdjookmboaaGreatDoor.Rs
set_option maxRecDepth 20000
open Go.Proofs.YtifemdjookmboaaGreatDoor.Md (M mok mok_parts kok_parts)
open Go.Proofs.YtifemdjookmboaaGreatDoor.Kt (Kv)
open Go.Proofs.YtifemdjookmboaaGreatDoor.Mt (nums nums_cons nums_nil head ctxt ttxt ctxts ttxts body whole wline wlines mtext)
open Go.Proofs.YtifemdjookmboaaGreatDoor.Rm (St zero addW wModel wCtr wTree wSum pairs flat itoa_no nums_no Reads mtext_good mtext_bad)
set_option linter.unusedVariables false
theorem fok_b {x : Int} (h : Bo.fok x = true) : b11 x := by
  have : -1000000000 ≤ x ∧ x ≤ 1000000000 := by simpa [Bo.fok] using h
  unfold b11; omega
theorem flat_b : ∀ {ps : List (Int × Int)}, (∀ p ∈ ps, b11 p.1 ∧ b11 p.2) → ∀ x ∈ flat ps, b11 x
  | [], _, x, hx => by simp [flat] at hx
  | p :: ps, h, x, hx => by
    simp only [flat, List.mem_cons] at hx
    rcases hx with rfl | rfl | hx
    · exact (h p (by simp)).1
    · exact (h p (by simp)).2
    · exact flat_b (fun q hq => h q (by simp [hq])) x hx
theorem good_h {m : M} (h : Rm.Good m) : ∀ x ∈ [m.n, m.c, m.prior, m.base], b11 x := by
  obtain ⟨h1, h2, h3, h4, h5, h6, h7⟩ := mok_parts h.1
  obtain ⟨s0, s1, s2⟩ := Tk.sok_iff.1 h1
  have hp : -1000000 ≤ m.prior ∧ m.prior ≤ 1000000 := by simpa [Li.btw] using h2
  intro x hx
  simp at hx
  rcases hx with rfl | rfl | rfl | rfl
  · unfold b11; omega
  · unfold b11; omega
  · unfold b11; omega
  · exact fok_b h3
theorem good_k {m : M} (h : Rm.Good m) : ∀ t ∈ m.ks, t.vs.length = t.ws.length ∧ t.ws.length ≤ 40 ∧ (∀ v ∈ t.vs, b11 v) ∧ ∀ s ∈ t.ws, (10 : UInt8) ∉ s.data.toList := by
  intro t ht
  obtain ⟨h1, h2, h3, h4, h5, h6, h7⟩ := mok_parts h.1
  obtain ⟨k1, k2, k3, k4, _⟩ := kok_parts (List.all_eq_true.1 h7 t ht)
  obtain ⟨g1, g2, g3, g4⟩ := (Rm.gd_of h.1 h.2).k t ht
  exact ⟨g1, g2, fun v hv => fok_b (List.all_eq_true.1 k3 v hv), g4⟩
theorem good_t {m : M} (h : Rm.Good m) : ∀ t ∈ m.ts, (∀ x ∈ flat t.sp, b11 x) ∧ ∀ x ∈ t.lv, b11 x := by
  intro t ht
  obtain ⟨h1, h2, h3, h4, h5, h6, h7⟩ := mok_parts h.1
  obtain ⟨_, k3, k4⟩ := Tr.tok_iff.1 (List.all_eq_true.1 h6 t ht)
  refine ⟨flat_b (fun p hp => ?_), fun x hx => fok_b (List.all_eq_true.1 k4 x hx)⟩
  have := List.all_eq_true.1 k3 p hp
  unfold Tr.spok at this
  simp only [Bool.and_eq_true, decide_eq_true_eq] at this
  exact ⟨by unfold b11; omega, fok_b this.2⟩
theorem srd_end (st : St) (hl : ¬ 0 < st.left) : srdt [] st = some st := by
  have hp : Pc.pieces 32 [] = [[]] := rfl
  have hs : sLine st [] = some st := by
    unfold sLine
    rw [if_neg hl, hp, List.headD_cons, if_neg (fun e => absurd e.1 (by decide)), if_neg (fun e => absurd e.1 (by decide)), if_neg (by decide)]
  show srd [[]] st = some st
  rw [srd, hs]
  rfl
/-- THE READING BACK. -/
theorem srdt_whole {m : M} (hg : Rm.Good m) : srdt (whole m) ⟨zero, 0⟩ = some ⟨m, 0⟩ := by
  have e : whole m = head m ++ (ctxts m.ks ++ (ttxts m.ts ++ ((wSum ++ nums [(Cr.crc (body m) : Int)]) ++ 10 :: []))) := by
    unfold whole body wSum
    simp
  have hp : Pc.pieces 32 (wSum ++ nums [(Cr.crc (body m) : Int)]) = wSum :: [(Cr.crc (body m) : Int)].map Lib.itoa := by
    rw [nums_sps]; exact line_of _ (by decide) _ (itoas_no32 _)
  rw [e, srdt_head m (good_h hg), srdt_ctrs _ _ _ _ _ _ _ _ (good_k hg), srdt_trees _ _ _ _ _ _ _ _ (good_t hg), srdt_line (st' := ⟨⟨m.n, m.c, m.prior, m.base, [] ++ m.ks, [] ++ m.ts⟩, 0⟩) ?_ ?_, srd_end _ (Int.lt_irrefl 0)]
  · simp
  · intro hm
    rcases List.mem_append.1 hm with h | h
    · revert h; decide
    · exact (nums_no _).1 h
  · unfold sLine
    rw [if_neg (Int.lt_irrefl 0), hp, List.headD_cons, if_neg (fun e => absurd e.1 (by decide)), if_neg (fun e => absurd e.1 (by decide)), if_neg (by decide)]
/-! ### What the reader answers -/
theorem whole_ne (m : M) : ¬ whole m = [] := by
  intro h
  have := congrArg List.length h
  unfold whole at this
  simp at this
theorem sreads_nil : Reads [] zero false := .inr ⟨rfl, rfl, fun m _ => whole_ne m⟩
theorem sreads_yes {s : List UInt8} {st : St} (hs : ¬ s = []) (e : mtext st.m = s) : Reads s st.m true := by
  by_cases hg : Rm.Good st.m
  · exact .inl ⟨rfl, hg, by rw [← mtext_good hg]; exact e⟩
  · rw [mtext_bad hg] at e
    exact absurd e.symm hs
theorem sreads_no {s : List UInt8} {st : St} (h : srdt s ⟨zero, 0⟩ = some st) (e : ¬ mtext st.m = s) : Reads s zero false := by
  refine .inr ⟨rfl, rfl, fun m hm hw => e ?_⟩
  have h1 := srdt_whole hm
  rw [hw] at h1
  have h2 : st = ⟨m, 0⟩ := Option.some.inj (h.symm.trans h1)
  rw [h2]
  exact (mtext_good hm).trans hw
theorem sreads_none {s : List UInt8} (h : srdt s ⟨zero, 0⟩ = none) : Reads s zero false := by
  refine .inr ⟨rfl, rfl, fun m hm hw => ?_⟩
  have h1 := srdt_whole hm
  rw [hw] at h1
  exact absurd (h.symm.trans h1) (by simp)
end Go.Proofs.YtifemdjookmboaaGreatDoor.Rs
/-
  What the model of the document answers for a number in a text.
-/
namespace Go.Proofs.YtifemdjookmboaaGreatDoor.Rs
set_option maxRecDepth 100000
open Go.RowKit
open Go.Proofs.YtifemdjookmboaaGreatDoor.Ma (isDig scan)
set_option linter.unusedVariables false
theorem take_scan (l : List UInt8) (k : Nat) (h : k < l.length) (hd : isDig l[k]) : scan (l.take (k + 1)) = 10 * scan (l.take k) + (l[k].toNat - 48) := by
  unfold scan
  rw [List.take_succ_eq_append_getElem h, List.foldl_append]
  show Ma.step _ _ = _
  exact if_pos hd
theorem take_bd (l : List UInt8) (k : Nat) (h : l.length ≤ 11) : scan (l.take k) < 100000000000 := scan_bd _ (by rw [List.length_take]; omega)
set_option maxHeartbeats 2000000 in
theorem snumc (w : World) (s : ByteArray) (hs : s.size ≤ 1048576) :
    Calls Tryz.prog 10 #[.string s] w fun e w' => ((∃ v, snum s.data.toList = some v ∧ -100000000000 < v ∧ v < 100000000000 ∧ e = .returned (.tuple #[.int .i64 v, .bool true])) ∨ (snum s.data.toList = none ∧ ∃ v : Int, e = .returned (.tuple #[.int .i64 v, .bool false]))) ∧ Below w.heap.size w w' := by
  have hsz : s.data.toList.length = s.size := by simp
  go_enter Tryz.func10, Tryz.ntmps10
  by_cases h0 : 0 < s.size
  · have HAT0 : Hid (s.data.toList[0]'(by omega) = s[0]'h0) := by show _ = _; rw [Array.getElem_toList]; rfl
    by_cases h45 : s[0]'h0 = 45
    · have hb45 : (((s[0]'h0).toNat : Int) == 45) = true := by rw [h45]; rfl
      have hs1 : 1 ≤ s.size := h0
      have hdl : (s.extract 1 s.size).data.toList = dg s.data.toList := by
        rw [ByteArray.data_extract, Array.toList_extract, List.extract_eq_take_drop]
        have h1 := HAT0.out.trans h45
        cases hq : s.data.toList with
        | nil => rw [hq] at hsz; simp at hsz; omega
        | cons c r =>
          simp only [hq, List.getElem_cons_zero] at h1
          rw [hq] at hsz
          simp at hsz
          subst h1
          show List.take (s.size - 1) r = if (45 : UInt8) = 45 then r else 45 :: r
          rw [if_pos rfl, List.take_of_length_le (by omega)]
      go_wp2_with fail
      have hds : s.size - 1 = (s.extract 1 s.size).size := by simp
      generalize s.extract 1 s.size = D at hdl hds ⊢
      rw [hds]
      clear hds
      have hdz : D.data.toList.length = D.size := by simp
      have HDL : Hid (D.data.toList = dg s.data.toList) := hdl
      have HDZ : Hid (D.data.toList.length = D.size) := hdz
      have hne : ¬ D = s := fun e => by
        have h1 := HAT0.out.trans h45
        subst e
        cases hq : D.data.toList with
        | nil => rw [hq] at hsz; simp at hsz; omega
        | cons c r =>
          rw [hq] at hdl
          simp only [hq, List.getElem_cons_zero] at h1
          subst h1
          have := congrArg List.length hdl
          simp [dg] at this
      have NEQ : Hid (¬ D.data.toList = s.data.toList) := fun e => hne (by
        obtain ⟨⟨a⟩⟩ := D
        obtain ⟨⟨c⟩⟩ := s
        exact congrArg (fun x => ByteArray.mk ⟨x⟩) e)
      have q0 := Ls.tl_ne hne
      clear hdl hdz hsz hne h45 hb45 HAT0
      refine (Li.between_any (D.size : Int) 1 11 w).mono ?_
      rintro e w1 ⟨rfl, rfl⟩
      cases hbt : Li.btw (D.size : Int) 1 11 with
      | false =>
        have HR : Hid (snum s.data.toList = none) := snum_no1 (by rw [← HDL.out, HDZ.out]; unfold Li.btw at hbt; simp at hbt; omega)
        go_wp2
        refine bodyPost_ret (v := .tuple #[.int .i64 0, .bool false]) (by simp [results, Tryz.results10, go_sem]) rfl ⟨.inr ⟨HR.out, 0, rfl⟩, Below.refl _ _⟩
      | true =>
      have hln : 1 ≤ D.size ∧ D.size ≤ 11 := by unfold Li.btw at hbt; simp at hbt; omega
      have HLN : Hid (1 ≤ (dg s.data.toList).length ∧ (dg s.data.toList).length ≤ 11) := by rw [← HDL.out, HDZ.out]; exact hln
      go_wp2_with fail
      go_loop [4, 6] (fun x i => ∃ k : Nat, k ≤ D.size ∧ i = .int .i64 k ∧ x = .int .i64 (scan (D.data.toList.take k) : Nat) ∧ ∀ c ∈ D.data.toList.take k, isDig c) (fun _ i => D.size - (intOf i).toNat)
      case atStart => exact ⟨0, Nat.zero_le _, rfl, rfl, fun c hc => by simp at hc⟩
      case round =>
        obtain ⟨k, hk, rfl, rfl, hall⟩ := hrel
        have HALL : Hid (type_of% hall) := hall
        have hbd := take_bd D.data.toList k (by rw [HDZ.out]; omega)
        clear hall
        by_cases hlt : k < D.size
        · have HKL : Hid (k < D.data.toList.length) := by rw [HDZ.out]; exact hlt
          have HAT : Hid (D.data.toList[k]'HKL.out = D[k]'hlt) := by show _ = _; rw [Array.getElem_toList]; rfl
          have HTS : Hid (isDig (D[k]'hlt) → scan (D.data.toList.take (k + 1)) = 10 * scan (D.data.toList.take k) + ((D[k]'hlt).toNat - 48)) := fun h => by have := take_scan D.data.toList k HKL.out (by rw [HAT.out]; exact h); rw [HAT.out] at this; exact this
          have hc := (D[k]'hlt).toNat_lt
          go_wp2_with fail
          refine (Li.between_any _ 48 57 _).mono ?_
          rintro e w1 ⟨rfl, rfl⟩
          cases hd : Li.btw (((D[k]'hlt).toNat : Nat) : Int) 48 57 with
          | false =>
            have HR : Hid (snum s.data.toList = none) := snum_no2 (fun h => by
              have h1 := h (D[k]'hlt) (by rw [← HDL.out, ← HAT.out]; exact List.getElem_mem _)
              unfold isDig at h1; unfold Li.btw at hd; simp at hd; omega)
            go_wp2
            refine bodyPost_ret (v := .tuple #[.int .i64 0, .bool false]) (by simp [results, Tryz.results10, go_sem]) rfl ⟨.inr ⟨HR.out, 0, rfl⟩, Below.refl _ _⟩
          | true =>
          have hdg : 48 ≤ (D[k]'hlt).toNat ∧ (D[k]'hlt).toNat ≤ 57 := by unfold Li.btw at hd; simp at hd; omega
          have HT2 : Hid (scan (D.data.toList.take (k + 1)) = 10 * scan (D.data.toList.take k) + ((D[k]'hlt).toNat - 48)) := HTS.out hdg
          have HA2 : Hid (∀ c ∈ D.data.toList.take (k + 1), isDig c) := fun c hc => by
            rw [List.take_succ_eq_append_getElem HKL.out] at hc
            rcases List.mem_append.1 hc with h | h
            · exact HALL.out c h
            · simp at h; rw [h]; show isDig (D.data.toList[k]'HKL.out); rw [HAT.out]; exact hdg
          generalize scan (D.data.toList.take k) = q at hbd HT2 ⊢
          have hw1 : IntKind.u8.wrap (((D[k]'hlt).toNat : Int) - 48) = ((D[k]'hlt).toNat : Int) - 48 := by rw [IntKind.wrap_u8]; omega
          go_wp2
          go_round
          case rel => exact ⟨k + 1, by omega, by go_num, by rw [HT2.out]; go_num, HA2.out⟩
          case measure => simp [intOf]; omega
        · obtain rfl : k = D.size := by omega
          have HTA : Hid (D.data.toList.take D.size = D.data.toList) := by show _ = _; rw [← HDZ.out, List.take_length]
          rw [HTA.out] at HALL hbd ⊢
          have HSG : Hid (sgn s.data.toList = -(scan D.data.toList : Int)) := by show _ = _; unfold sgn; rw [← HDL.out]; exact if_neg NEQ.out
          generalize scan D.data.toList = q at hbd HSG ⊢
          go_wp2_with fail
          refine (Nu.snum (-(q : Int)) _ (by omega) (by omega)).mono ?_
          rintro e w1 ⟨rfl, hB⟩
          have hte : (ByteArray.mk (Lib.itoa (-(q : Int))).toArray).data.toList = Lib.itoa (-(q : Int)) := by simp
          generalize ByteArray.mk (Lib.itoa (-(q : Int))).toArray = t at hte ⊢
          by_cases h1 : t = s
          · have HR : Hid (snum s.data.toList = some (-(q : Int))) := by
              show _ = _
              rw [← HSG.out]
              exact snum_yes HLN.out (by rw [← HDL.out]; exact HALL.out) (by rw [HSG.out, ← hte, h1])
            have q1 := Ls.tl_eq h1
            clear h1 hte
            go_wp2
            refine bodyPost_ret (v := .tuple #[.int .i64 (-(q : Int)), .bool true]) (by simp [results, Tryz.results10, go_sem]) rfl ⟨.inl ⟨_, HR.out, by omega, by omega, rfl⟩, hB⟩
          · have HR : Hid (snum s.data.toList = none) := snum_no3 (fun e => h1 (by
              rw [HSG.out, ← hte] at e
              obtain ⟨⟨a⟩⟩ := t
              obtain ⟨⟨c⟩⟩ := s
              exact congrArg (fun x => ByteArray.mk ⟨x⟩) e))
            have q1 := Ls.tl_ne h1
            clear h1 hte
            go_wp2
            refine bodyPost_ret (v := .tuple #[.int .i64 (-(q : Int)), .bool false]) (by simp [results, Tryz.results10, go_sem]) rfl ⟨.inr ⟨HR.out, _, rfl⟩, hB⟩
    · have hb45 : (((s[0]'h0).toNat : Int) == 45) = false := by
        simp only [beq_eq_false_iff_ne, ne_eq]
        intro e
        exact h45 (UInt8.toNat_inj.1 (by show _ = 45; omega))
      have hdl : s.data.toList = dg s.data.toList := by
        have h1 := HAT0.out
        cases hq : s.data.toList with
        | nil => rfl
        | cons c r =>
          simp only [hq, List.getElem_cons_zero] at h1
          exact (if_neg (fun e => h45 (h1.symm.trans e))).symm
      go_wp2_with fail
      have HDL : Hid (s.data.toList = dg s.data.toList) := hdl
      have HDZ : Hid (s.data.toList.length = s.size) := hsz
      have NEQ : Hid (s.data.toList = s.data.toList) := rfl
      have q0 := Ls.tl_eq (rfl : s = s)
      clear hdl hsz h45 hb45 HAT0
      refine (Li.between_any (s.size : Int) 1 11 w).mono ?_
      rintro e w1 ⟨rfl, rfl⟩
      cases hbt : Li.btw (s.size : Int) 1 11 with
      | false =>
        have HR : Hid (snum s.data.toList = none) := snum_no1 (by rw [← HDL.out, HDZ.out]; unfold Li.btw at hbt; simp at hbt; omega)
        go_wp2
        refine bodyPost_ret (v := .tuple #[.int .i64 0, .bool false]) (by simp [results, Tryz.results10, go_sem]) rfl ⟨.inr ⟨HR.out, 0, rfl⟩, Below.refl _ _⟩
      | true =>
      have hln : 1 ≤ s.size ∧ s.size ≤ 11 := by unfold Li.btw at hbt; simp at hbt; omega
      have HLN : Hid (1 ≤ (dg s.data.toList).length ∧ (dg s.data.toList).length ≤ 11) := by rw [← HDL.out, HDZ.out]; exact hln
      go_wp2_with fail
      go_loop [4, 6] (fun x i => ∃ k : Nat, k ≤ s.size ∧ i = .int .i64 k ∧ x = .int .i64 (scan (s.data.toList.take k) : Nat) ∧ ∀ c ∈ s.data.toList.take k, isDig c) (fun _ i => s.size - (intOf i).toNat)
      case atStart => exact ⟨0, Nat.zero_le _, rfl, rfl, fun c hc => by simp at hc⟩
      case round =>
        obtain ⟨k, hk, rfl, rfl, hall⟩ := hrel
        have HALL : Hid (type_of% hall) := hall
        have hbd := take_bd s.data.toList k (by rw [HDZ.out]; omega)
        clear hall
        by_cases hlt : k < s.size
        · have HKL : Hid (k < s.data.toList.length) := by rw [HDZ.out]; exact hlt
          have HAT : Hid (s.data.toList[k]'HKL.out = s[k]'hlt) := by show _ = _; rw [Array.getElem_toList]; rfl
          have HTS : Hid (isDig (s[k]'hlt) → scan (s.data.toList.take (k + 1)) = 10 * scan (s.data.toList.take k) + ((s[k]'hlt).toNat - 48)) := fun h => by have := take_scan s.data.toList k HKL.out (by rw [HAT.out]; exact h); rw [HAT.out] at this; exact this
          have hc := (s[k]'hlt).toNat_lt
          go_wp2_with fail
          refine (Li.between_any _ 48 57 _).mono ?_
          rintro e w1 ⟨rfl, rfl⟩
          cases hd : Li.btw (((s[k]'hlt).toNat : Nat) : Int) 48 57 with
          | false =>
            have HR : Hid (snum s.data.toList = none) := snum_no2 (fun h => by
              have h1 := h (s[k]'hlt) (by rw [← HDL.out, ← HAT.out]; exact List.getElem_mem _)
              unfold isDig at h1; unfold Li.btw at hd; simp at hd; omega)
            go_wp2
            refine bodyPost_ret (v := .tuple #[.int .i64 0, .bool false]) (by simp [results, Tryz.results10, go_sem]) rfl ⟨.inr ⟨HR.out, 0, rfl⟩, Below.refl _ _⟩
          | true =>
          have hdg : 48 ≤ (s[k]'hlt).toNat ∧ (s[k]'hlt).toNat ≤ 57 := by unfold Li.btw at hd; simp at hd; omega
          have HT2 : Hid (scan (s.data.toList.take (k + 1)) = 10 * scan (s.data.toList.take k) + ((s[k]'hlt).toNat - 48)) := HTS.out hdg
          have HA2 : Hid (∀ c ∈ s.data.toList.take (k + 1), isDig c) := fun c hc => by
            rw [List.take_succ_eq_append_getElem HKL.out] at hc
            rcases List.mem_append.1 hc with h | h
            · exact HALL.out c h
            · simp at h; rw [h]; show isDig (s.data.toList[k]'HKL.out); rw [HAT.out]; exact hdg
          generalize scan (s.data.toList.take k) = q at hbd HT2 ⊢
          have hw1 : IntKind.u8.wrap (((s[k]'hlt).toNat : Int) - 48) = ((s[k]'hlt).toNat : Int) - 48 := by rw [IntKind.wrap_u8]; omega
          go_wp2
          go_round
          case rel => exact ⟨k + 1, by omega, by go_num, by rw [HT2.out]; go_num, HA2.out⟩
          case measure => simp [intOf]; omega
        · obtain rfl : k = s.size := by omega
          have HTA : Hid (s.data.toList.take s.size = s.data.toList) := by show _ = _; rw [← HDZ.out, List.take_length]
          rw [HTA.out] at HALL hbd ⊢
          have HSG : Hid (sgn s.data.toList = (scan s.data.toList : Int)) := by show _ = _; unfold sgn; rw [← HDL.out]; exact if_pos rfl
          generalize scan s.data.toList = q at hbd HSG ⊢
          go_wp2_with fail
          refine (Nu.snum (q : Int) _ (by omega) (by omega)).mono ?_
          rintro e w1 ⟨rfl, hB⟩
          have hte : (ByteArray.mk (Lib.itoa ((q : Int))).toArray).data.toList = Lib.itoa ((q : Int)) := by simp
          generalize ByteArray.mk (Lib.itoa ((q : Int))).toArray = t at hte ⊢
          by_cases h1 : t = s
          · have HR : Hid (snum s.data.toList = some ((q : Int))) := by
              show _ = _
              rw [← HSG.out]
              exact snum_yes HLN.out (by rw [← HDL.out]; exact HALL.out) (by rw [HSG.out, ← hte, h1])
            have q1 := Ls.tl_eq h1
            clear h1 hte
            go_wp2
            refine bodyPost_ret (v := .tuple #[.int .i64 ((q : Int)), .bool true]) (by simp [results, Tryz.results10, go_sem]) rfl ⟨.inl ⟨_, HR.out, by omega, by omega, rfl⟩, hB⟩
          · have HR : Hid (snum s.data.toList = none) := snum_no3 (fun e => h1 (by
              rw [HSG.out, ← hte] at e
              obtain ⟨⟨a⟩⟩ := t
              obtain ⟨⟨c⟩⟩ := s
              exact congrArg (fun x => ByteArray.mk ⟨x⟩) e))
            have q1 := Ls.tl_ne h1
            clear h1 hte
            go_wp2
            refine bodyPost_ret (v := .tuple #[.int .i64 ((q : Int)), .bool false]) (by simp [results, Tryz.results10, go_sem]) rfl ⟨.inr ⟨HR.out, _, rfl⟩, hB⟩
  · have hz : s.size = 0 := by omega
    have HR : Hid (snum s.data.toList = none) := snum_no1 (by
      have : s.data.toList = [] := List.length_eq_zero_iff.1 (by omega)
      rw [this]
      simp [dg])
    have hz' : ¬ 0 < (s.size : Int) := by omega
    clear hsz h0
    go_wp2_with fail
    refine (Li.between_any _ 1 11 w).mono ?_
    rintro e w1 ⟨rfl, rfl⟩
    have hbt : Li.btw (s.size : Int) 1 11 = false := by rw [hz]; decide
    go_wp2
    refine bodyPost_ret (v := .tuple #[.int .i64 0, .bool false]) (by simp [results, Tryz.results10, go_sem]) rfl ⟨.inr ⟨HR.out, 0, rfl⟩, Below.refl _ _⟩
end Go.Proofs.YtifemdjookmboaaGreatDoor.Rs
