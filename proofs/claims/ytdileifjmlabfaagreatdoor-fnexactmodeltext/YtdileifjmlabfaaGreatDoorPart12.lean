/-
  Contracts that the proof leans on, put together in the order in which they build.
-/
import Derived.Test.YtdileifjmlabfaaGreatDoorPart11
import Derived.Deep.Cut
import Derived.Test.YtdileifjmlabfaaGreatDoorPart3
import Derived.Lib.AppendStr
import Derived.Lib.ConvBytes
import Derived.Laws.IdiomCopy
import Derived.Laws.BytesArg
import Derived.Test.YtdileifjmlabfaaGreatDoorRows
import Derived.WalkKit
import Derived.RowKit
import Derived.Lib.Split
import Derived.Lib.SplitLaws
import Derived.Test.YtdileifjmlabfaaGreatDoorPart2
import Derived.Test.YtdileifjmlabfaaGreatDoorPart7
/-
  The text of a model, as the program writes it: trees, words with an end of a line, all of it.
-/
namespace Go.Proofs.YtdileifjmlabfaaGreatDoor.Mt
set_option maxRecDepth 100000
open Go.RowKit
open Go.Proofs.YtdileifjmlabfaaGreatDoor.Md (M mok mok_parts kok kok_parts Rm wr6 imok)
open Go.Proofs.YtdileifjmlabfaaGreatDoor.Kt (Kv IsK)
open Go.Proofs.YtdileifjmlabfaaGreatDoor.Tm (IsT IsP)
open Go.Proofs.YtdileifjmlabfaaGreatDoor.Sv (new1 Wr wr2)
open Go.Proofs.YtdileifjmlabfaaGreatDoor.Li (ret_bool)
set_option linter.unusedVariables false

set_option maxHeartbeats 2000000 in
theorem ittxt (w : World) (a0 a1 : Option Addr) (c0 c1 : Nat) (t : Tr.T) (h0 : IsP w a0 t.sp) (h1 : Li.IsL w a1 t.lv) (hk : Tn t) (hT : Nu.Tab w) :
    Calls Tryz.prog 46 #[.agg #[.slice a0 t.sp.length c0, .slice a1 t.lv.length c1]] w fun e w' => e = .returned (.string ⟨(ttxt t).toArray⟩) ∧ Below w.heap.size w w' := by
  obtain ⟨k1, k2, k3, k4⟩ := hk
  have HH : Hid (ttxt t = [116, 114, 101, 101] ++ spt t.sp ++ ([32, 58] ++ nums t.lv ++ [10])) := rfl
  have hnl := nums_len _ k4
  go_enter Tryz.func46, Tryz.ntmps46
  go_wp2_with fail
  obtain ⟨W, hW, hsz, hB, bm⟩ := new1 w [.slice a0 t.sp.length c0, .slice a1 t.lv.length c1] 51
  rw [hW]
  obtain ⟨W1, hW1, hBr, hbu, hs1⟩ := bu_new W (w.heap.size + 1) hsz.symm
  rw [hW1]
  clear hW hW1 hs1 hsz
  have hT := hT.below hB
  refine (wrote _ _ _ _ _ hbu (by simp [ByteArray.size]) hBr.size).mono ?_
  rintro e w3 ⟨rfl, hbu, hB3⟩
  have hBr := hBr.trans hB3
  clear hB3
  obtain ⟨_, ⟨x0, x1⟩, _⟩ := wr2 (bm.below hBr)
  have HBU : Hid (Bu w3 W.heap.size (w.heap.size + 1) ([116, 114, 101, 101] ++ spt (t.sp.take 0))) := by show Bu _ _ _ _; simpa [spt] using hbu
  clear hbu
  go_wp2
  go_loopw [10] (fun i wr => ∃ k : Nat, k ≤ t.sp.length ∧ i = .int .i64 k ∧ Bu wr W.heap.size (w.heap.size + 1) ([116, 114, 101, 101] ++ spt (t.sp.take k)) ∧ Below W.heap.size W wr) (fun i _ => t.sp.length - (intOf i).toNat)
  case atStart => exact ⟨0, Nat.zero_le _, rfl, HBU.out, hBr⟩
  case round =>
    obtain ⟨k, hk, rfl, hbl, hBr⟩ := hrel
    clear HBU x0 x1
    obtain ⟨_, ⟨x0, x1⟩, _⟩ := wr2 (bm.below hBr)
    have hBe := hB.trans (hBr.mono hB.size)
    have hnl2 : (spt (t.sp.take k)).length ≤ 176 := by
      have q1 := spt_len (t.sp.take k) (take_mem k3 k)
      have q2 := List.length_take_le k t.sp
      omega
    by_cases hlt : k < t.sp.length
    · rcases h0.below hBe with e0 | ⟨xb, xo, rfl, hxb, hxc⟩
      · rw [e0] at hlt; simp at hlt
      obtain ⟨d0, d1⟩ := hxc k hlt
      have hx := k3 t.sp[k] (List.getElem_mem hlt)
      have HN : Hid (spt (t.sp.take (k + 1)) = spt (t.sp.take k) ++ nums [t.sp[k].1, t.sp[k].2]) := spt_take t.sp k hlt
      obtain ⟨x, hx0⟩ : ∃ x, t.sp[k].1 = x := ⟨_, rfl⟩
      obtain ⟨y, hy0⟩ : ∃ x, t.sp[k].2 = x := ⟨_, rfl⟩
      rw [hx0, hy0] at HN hx
      rw [hx0] at d0
      rw [hy0] at d1
      clear hxc hx0 hy0
      have hi : ∀ z ∈ [x, y], i64 z := by intro z hz; simp at hz; rcases hz with rfl | rfl; exact hx.1; exact hx.2
      have hil := nums_len _ hi
      simp only [List.length_cons, List.length_nil] at hil
      go_wp2_with fail
      have hB1 : Below wr.heap.size wr ((wr.alloc (.cells #[.int .i64 x, .int .i64 y] 53)).alloc (.cells #[.int .i64 x, .int .i64 y] 3)) := ((Below.refl _ _).alloc (Nat.le_refl _) _).alloc (by simp) _
      have hbl := hbl.below hB1
      have hBr := hBr.trans (hB1.mono hBr.size)
      refine (ispaced _ _ _ [x, y] (isl_lit (wr.alloc (.cells #[.int .i64 x, .int .i64 y] 53)) [x, y] 3 _ _ (by simp) rfl) hi (by simp) (hT.below hBr)).mono ?_
      rintro e w1 ⟨rfl, hB2⟩
      have hbl := hbl.below hB2
      have hBr := hBr.trans (hB2.mono hBr.size)
      clear hB1 hB2 d0 d1 hxb x0 x1
      go_wp2_with fail
      refine (wrote _ _ _ _ _ hbl (by rw [ba_size]; simp; omega) hBr.size).mono ?_
      rintro e w2 ⟨rfl, hb2, hB2⟩
      have hBr := hBr.trans hB2
      have HB : Hid (Bu w2 W.heap.size (w.heap.size + 1) ([116, 114, 101, 101] ++ spt (t.sp.take (k + 1)))) := by
        show Bu _ _ _ _
        rw [HN.out]
        simpa using hb2
      clear hb2 hB2 hbl
      go_wp2
      go_roundw
      case rel => exact ⟨k + 1, by omega, by go_num, HB.out, hBr⟩
      case measure => simp [intOf]; omega
    · have e1 : t.sp.take k = t.sp := List.take_of_length_le (by omega)
      rw [e1] at hbl hnl2
      clear e1
      go_wp2_with fail
      refine (ispaced _ _ _ t.lv (h1.below hBe) k4 (by omega) (hT.below hBr)).mono ?_
      rintro e w1 ⟨rfl, hB2⟩
      have hbl := hbl.below hB2
      have hBr := hBr.trans (hB2.mono hBr.size)
      clear hB2 x0 x1 hBe
      go_wp2_with fail
      refine (wrote _ _ _ _ _ hbl (by rw [ByteArray.size_append, ByteArray.size_append, ba_size]; simp only [ByteArray.size]; simp; omega) hBr.size).mono ?_
      rintro e w2 ⟨rfl, hb2, hB2⟩
      have hBr := hBr.trans hB2
      have HB : Hid (Bu w2 W.heap.size (w.heap.size + 1) ([116, 114, 101, 101] ++ spt t.sp ++ ([32, 58] ++ nums t.lv ++ [10]))) := by
        show Bu _ _ _ _
        simpa using hb2
      rw [← HH.out] at HB
      clear hb2 hbl hB2
      go_wp2_with fail
      refine (told _ _ _ _ HB.out hBr.size).mono ?_
      rintro e w3 ⟨rfl, hB3⟩
      have hBe := hB.trans ((hBr.trans hB3).mono hB.size)
      go_wp2
      go_ret
      exact ⟨rfl, hBe⟩
theorem idx_has : ∀ (l : List UInt8) (c : UInt8), decide (0 ≤ Lib.indexByte l c) = l.contains c
  | [], c => by simp [Lib.indexByte]
  | b :: l, c => by
    have ih := idx_has l c
    have hg := Lib.indexByte_ge l c
    unfold Lib.indexByte
    by_cases h : b = c
    · subst h; simp
    · have h1 : (b == c) = false := by simpa using h
      have h2 : (c == b) = false := by simpa using fun e => h e.symm
      simp only [h1, List.contains_cons, h2, Bool.false_or, ← ih]
      by_cases h3 : Lib.indexByte l c = -1
      · simp [h3]
      · have h4 : (Lib.indexByte l c == -1) = false := by simpa using h3
        simp only [h4]
        simp
        omega
theorem contains_lf (s : ByteArray) (w : World) : Calls Tryz.prog 42 #[.string s, .string ⟨#[10]⟩] w fun e w' => e = .returned (.bool (hasLf s)) ∧ w' = w := by
  refine (Tryz.strings_Contains_one s 10 w).mono ?_
  rintro e w' ⟨rfl, rfl⟩
  exact ⟨by rw [idx_has]; rfl, rfl⟩
set_option maxHeartbeats 2000000 in
theorem ianylf (w : World) (a : Option Addr) (ca : Nat) (ks : List Kv) (h : IsK w a ks) (hl : ks.length ≤ 1048576) (hw : ∀ t ∈ ks, t.ws.length ≤ 1048576) :
    Calls Tryz.prog 20 #[.slice a ks.length ca] w fun e w' => e = .returned (.bool (anyLf ks)) ∧ Below w.heap.size w w' := by
  go_enter Tryz.func20, Tryz.ntmps20
  go_wp2
  go_loopw [9] (fun i wr => ∃ k : Nat, k ≤ ks.length ∧ i = .int .i64 k ∧ (∀ j (hj : j < ks.length), j < k → (ks[j].ws.any hasLf) = false) ∧ Below w.heap.size w wr) (fun i _ => ks.length - (intOf i).toNat)
  case atStart => exact ⟨0, Nat.zero_le _, rfl, fun j _ hj => by omega, Below.refl _ _⟩
  case round =>
    obtain ⟨k, hk, rfl, hno, hB⟩ := hrel
    have HNO : Hid (∀ j (hj : j < ks.length), j < k → (ks[j].ws.any hasLf) = false) := hno
    clear hno
    by_cases hlt : k < ks.length
    · rcases h.below hB with e0 | ⟨xb, xo, rfl, hxb, hxc⟩
      · rw [e0] at hlt; simp at hlt
      obtain ⟨a0, c0, a1, c1, ⟨d0, d1⟩, hs, hv⟩ := hxc k hlt
      have hwl := hw ks[k] (List.getElem_mem hlt)
      have HYES : Hid ((ks[k].ws.any hasLf) = true → anyLf ks = true) := fun e => any_yes (p := fun t : Kv => t.ws.any hasLf) hlt e
      have HNX : Hid ((ks[k].ws.any hasLf) = false → ∀ j (hj : j < ks.length), j < k + 1 → (ks[j].ws.any hasLf) = false) := fun e => at_snoc (p := fun t : Kv => t.ws.any hasLf) HNO.out hlt e
      clear hxc HNO
      obtain ⟨ws, hws⟩ : ∃ ws, ks[k].ws = ws := ⟨_, rfl⟩
      obtain ⟨nv, hnv⟩ : ∃ ws, ks[k].vs.length = ws := ⟨_, rfl⟩
      rw [hws] at HYES HNX d0 hs hwl
      rw [hnv] at d1
      clear hws hv hnv
      go_wp2
      obtain ⟨W, hW, hsz, hB1, bm⟩ := new1 wr [.slice a0 ws.length c0, .slice a1 nv c1] 46
      rw [hW]
      have hBr := hB.trans (hB1.mono hB.size)
      have hs := hs.below hB1
      clear hW hsz d0 d1 hB1 bm
      go_loopw [16] (fun i wq => ∃ q : Nat, q ≤ ws.length ∧ i = .int .i64 q ∧ (∀ j (hj : j < ws.length), j < q → hasLf ws[j] = false) ∧ wq = W) (fun i _ => ws.length - (intOf i).toNat)
      case atStart => exact ⟨0, Nat.zero_le _, rfl, fun j _ hj => by omega, rfl⟩
      case round =>
        obtain ⟨q, hq, rfl, hno, rfl⟩ := hrel
        have HNO : Hid (∀ j (hj : j < ws.length), j < q → hasLf ws[j] = false) := hno
        clear hno
        by_cases hql : q < ws.length
        · rcases id hs with e0 | ⟨yb, yo, rfl, hyb, hyc⟩
          · rw [e0] at hql; simp at hql
          have hcy := hyc q hql
          clear hyc
          cases hh : hasLf ws[q] with
          | true =>
            have HR : Hid (anyLf ks = true) := HYES.out (any_yes (p := hasLf) hql hh)
            go_wp2_with (go_at_call 42; refine (contains_lf _ _).mono ?_; rintro e w' ⟨rfl, hw'⟩; subst w'; rw [hh])
            go_ret
            exact ⟨ret_bool HR.out.symm, hBr⟩
          | false =>
            have HR : Hid (∀ j (hj : j < ws.length), j < q + 1 → hasLf ws[j] = false) := at_snoc (p := hasLf) HNO.out hql hh
            go_wp2_with (go_at_call 42; refine (contains_lf _ _).mono ?_; rintro e w' ⟨rfl, hw'⟩; subst w'; rw [hh])
            go_roundw
            case rel => exact ⟨q + 1, by omega, by go_num, HR.out, by first | rfl | trivial⟩
            case measure => simp [intOf]; omega
        · have HR : Hid (∀ j (hj : j < ks.length), j < k + 1 → (ks[j].ws.any hasLf) = false) := HNX.out (any_no fun j hj => HNO.out j hj (by omega))
          go_wp2
          go_roundw
          case rel => exact ⟨k + 1, by omega, by go_num, HR.out, hBr⟩
          case measure => simp [intOf]; omega
    · have HR : Hid (anyLf ks = false) := any_no (p := fun t : Kv => t.ws.any hasLf) fun j hj => HNO.out j hj (by omega)
      go_wp2
      go_ret
      exact ⟨ret_bool HR.out.symm, hB⟩
set_option maxHeartbeats 2000000 in
theorem isummed (w : World) (ak ax : Option Addr) (ck ct : Nat) (m : M) (h : Rm w ak ax m) (hm : Mn m) (hT : Nu.Tab w) :
    Calls Tryz.prog 21 #[.agg #[.int .i64 m.n, .int .i64 m.c, .int .i64 m.prior, .int .i64 m.base, .slice ak m.ks.length ck, .slice ax m.ts.length ct]] w fun e w' => e = .returned (.string ⟨(body m).toArray⟩) ∧ Below w.heap.size w w' := by
  have HH : Hid (body m = head m ++ ctxts m.ks ++ ttxts m.ts) := rfl
  have hhl := head_len hm
  have hkl := hm.k
  have htl := hm.t
  go_enter Tryz.func21, Tryz.ntmps21
  go_wp2_with fail
  obtain ⟨W, hW, hsz, hB, bm⟩ := new1 w [.int .i64 m.n, .int .i64 m.c, .int .i64 m.prior, .int .i64 m.base, .slice ak m.ks.length ck, .slice ax m.ts.length ct] 34
  rw [hW]
  obtain ⟨W1, hW1, hBr, hbu, hs1⟩ := bu_new W (w.heap.size + 1) hsz.symm
  rw [hW1]
  clear hW hW1 hs1 hsz
  have hT := hT.below hB
  have h := h.below hB
  refine (ihead _ _ _ _ _ m hm (hT.below hBr)).mono ?_
  rintro e w2 ⟨rfl, hB2⟩
  have hbu := hbu.below hB2
  have hBr := hBr.trans (hB2.mono hBr.size)
  clear hB2
  go_wp2_with fail
  refine (wrote _ _ _ _ _ hbu (by rw [ba_size]; simp; omega) hBr.size).mono ?_
  rintro e w3 ⟨rfl, hbu, hB3⟩
  have hBr := hBr.trans hB3
  clear hB3
  obtain ⟨_, ⟨x0, x1, x2, x3, x4, x5⟩, _⟩ := wr6 (bm.below hBr)
  have HBU : Hid (Bu w3 W.heap.size (w.heap.size + 1) (head m ++ ctxts (m.ks.take 0))) := by show Bu _ _ _ _; simpa [ctxts] using hbu
  clear hbu
  go_wp2
  go_loopw [14] (fun i wr => ∃ k : Nat, k ≤ m.ks.length ∧ i = .int .i64 k ∧ Bu wr W.heap.size (w.heap.size + 1) (head m ++ ctxts (m.ks.take k)) ∧ Below W.heap.size W wr) (fun i _ => m.ks.length - (intOf i).toNat)
  case atStart => exact ⟨0, Nat.zero_le _, rfl, HBU.out, hBr⟩
  case round =>
    obtain ⟨k, hk, rfl, hbl, hBr⟩ := hrel
    clear HBU x0 x1 x2 x3 x4 x5
    have hnl2 : (ctxts (m.ks.take k)).length ≤ 5838 := ctxts_len (by have := List.length_take_le k m.ks; omega) (take_mem hm.ks k)
    by_cases hlt : k < m.ks.length
    · rcases h.k.below hBr with e0 | ⟨xb, xo, rfl, hxb, hxc⟩
      · rw [e0] at hlt; simp at hlt
      obtain ⟨a0, c0, a1, c1, ⟨d0, d1⟩, hs, hv⟩ := hxc k hlt
      have HN : Hid (ctxts (m.ks.take (k + 1)) = ctxts (m.ks.take k) ++ ctxt m.ks[k]) := ctxts_take m.ks k hlt
      have hkn := hm.ks m.ks[k] (List.getElem_mem hlt)
      have hcl := ctxt_len hkn
      clear hxc
      generalize m.ks[k] = t at d0 d1 hs hv HN hkn hcl
      go_wp2_with fail
      obtain ⟨W2, hW2, hsz2, hB1, bt⟩ := new1 wr [.slice a0 t.ws.length c0, .slice a1 t.vs.length c1] 46
      rw [hW2]
      have hbl := hbl.below hB1
      have hBr := hBr.trans (hB1.mono hBr.size)
      refine (ictxt _ _ _ _ _ t (hs.below hB1) (hv.below hB1) hkn (hT.below hBr)).mono ?_
      rintro e w4 ⟨rfl, hB2⟩
      have hbl := hbl.below hB2
      have hBr := hBr.trans (hB2.mono hBr.size)
      clear hB1 hB2 hW2 hsz2 bt d0 d1 hs hv hxb
      go_wp2_with fail
      refine (wrote _ _ _ _ _ hbl (by rw [ba_size]; simp; omega) hBr.size).mono ?_
      rintro e w5 ⟨rfl, hb2, hB2⟩
      have hBr := hBr.trans hB2
      have HB : Hid (Bu w5 W.heap.size (w.heap.size + 1) (head m ++ ctxts (m.ks.take (k + 1)))) := by
        show Bu _ _ _ _
        rw [HN.out]
        simpa using hb2
      clear hb2 hB2 hbl
      go_wp2
      go_roundw
      case rel => exact ⟨k + 1, by omega, by go_num, HB.out, hBr⟩
      case measure => simp [intOf]; omega
    · have e1 : m.ks.take k = m.ks := List.take_of_length_le (by omega)
      rw [e1] at hbl hnl2
      clear e1
      obtain ⟨_, ⟨x0, x1, x2, x3, x4, x5⟩, _⟩ := wr6 (bm.below hBr)
      obtain ⟨X, hX⟩ : ∃ X, head m ++ ctxts m.ks = X := ⟨_, rfl⟩
      have hXl : X.length ≤ 5932 := by rw [← hX, List.length_append]; omega
      rw [hX] at hbl HH
      have HBU : Hid (Bu wr W.heap.size (w.heap.size + 1) (X ++ ttxts (m.ts.take 0))) := by show Bu _ _ _ _; simpa [ttxts] using hbl
      clear hX hbl
      go_wp2
      go_loopw [25] (fun i wr => ∃ k : Nat, k ≤ m.ts.length ∧ i = .int .i64 k ∧ Bu wr W.heap.size (w.heap.size + 1) (X ++ ttxts (m.ts.take k)) ∧ Below W.heap.size W wr) (fun i _ => m.ts.length - (intOf i).toNat)
      case atStart => exact ⟨0, Nat.zero_le _, rfl, HBU.out, hBr⟩
      case round =>
        obtain ⟨q, hq, rfl, hbl, hBr⟩ := hrel
        clear HBU x0 x1 x2 x3 x4 x5
        have hnl2 : (ttxts (m.ts.take q)).length ≤ 6420 := ttxts_len (by have := List.length_take_le q m.ts; omega) (take_mem hm.ts q)
        by_cases hlt2 : q < m.ts.length
        · rcases h.t.below hBr with e0 | ⟨xb, xo, rfl, hxb, hxc⟩
          · rw [e0] at hlt2; simp at hlt2
          obtain ⟨v0, v1, ⟨d0, d1⟩, htr⟩ := hxc q hlt2
          have HN : Hid (ttxts (m.ts.take (q + 1)) = ttxts (m.ts.take q) ++ ttxt m.ts[q]) := ttxts_take m.ts q hlt2
          have hkn := hm.ts m.ts[q] (List.getElem_mem hlt2)
          have hcl := ttxt_len hkn
          clear hxc
          generalize m.ts[q] = t at d0 d1 htr HN hkn hcl
          obtain ⟨a0, c0, a1, c1, rfl, rfl, hp, hv⟩ := htr
          go_wp2_with fail
          obtain ⟨W2, hW2, hsz2, hB1, bt⟩ := new1 wr [.slice a0 t.sp.length c0, .slice a1 t.lv.length c1] 51
          rw [hW2]
          have hbl := hbl.below hB1
          have hBr := hBr.trans (hB1.mono hBr.size)
          refine (ittxt _ _ _ _ _ t (hp.below hB1) (hv.below hB1) hkn (hT.below hBr)).mono ?_
          rintro e w4 ⟨rfl, hB2⟩
          have hbl := hbl.below hB2
          have hBr := hBr.trans (hB2.mono hBr.size)
          clear hB1 hB2 hW2 hsz2 bt d0 d1 hp hv hxb
          go_wp2_with fail
          refine (wrote _ _ _ _ _ hbl (by rw [ba_size]; simp; omega) hBr.size).mono ?_
          rintro e w5 ⟨rfl, hb2, hB2⟩
          have hBr := hBr.trans hB2
          have HB : Hid (Bu w5 W.heap.size (w.heap.size + 1) (X ++ ttxts (m.ts.take (q + 1)))) := by
            show Bu _ _ _ _
            rw [HN.out]
            simpa using hb2
          clear hb2 hB2 hbl
          go_wp2
          go_roundw
          case rel => exact ⟨q + 1, by omega, by go_num, HB.out, hBr⟩
          case measure => simp [intOf]; omega
        · have e1 : m.ts.take q = m.ts := List.take_of_length_le (by omega)
          rw [e1, ← HH.out] at hbl
          clear e1
          go_wp2_with fail
          refine (told _ _ _ _ hbl hBr.size).mono ?_
          rintro e w3 ⟨rfl, hB3⟩
          have hBe := hB.trans ((hBr.trans hB3).mono hB.size)
          go_wp2
          go_ret
          exact ⟨rfl, hBe⟩
set_option maxHeartbeats 2000000 in
theorem imtext (w : World) (ak ax : Option Addr) (ck ct : Nat) (m : M) (h : Rm w ak ax m) (hl : m.sz ≤ 1048576) (hT : Nu.Tab w) :
    Calls Tryz.prog 7 #[.agg #[.int .i64 m.n, .int .i64 m.c, .int .i64 m.prior, .int .i64 m.base, .slice ak m.ks.length ck, .slice ax m.ts.length ct]] w fun e w' => e = .returned (.string ⟨(mtext m).toArray⟩) ∧ Below w.heap.size w w' := by
  go_enter Tryz.func7, Tryz.ntmps7
  go_wp2_with fail
  obtain ⟨W, hW, hsz, hB, bm⟩ := new1 w [.int .i64 m.n, .int .i64 m.c, .int .i64 m.prior, .int .i64 m.base, .slice ak m.ks.length ck, .slice ax m.ts.length ct] 34
  rw [hW]
  clear hW hsz
  refine (imok _ _ _ _ _ m (h.below hB) hl).mono ?_
  rintro e w1 ⟨rfl, hb⟩
  have bm := bm.below hb
  have hB := hB.trans (hb.mono hB.size)
  clear hb
  cases h1 : mok m with
  | false =>
    have HR : Hid (mtext m = []) := mtext_no h1
    go_wp2
    go_ret
    exact ⟨by rw [HR.out]; rfl, hB⟩
  | true =>
  have hm := mok_mn h1
  have HOK : Hid (mok m = true) := h1
  clear h1
  obtain ⟨_, ⟨x0, x1, x2, x3, x4, x5⟩, _⟩ := wr6 bm
  go_wp2_with fail
  refine (ianylf _ _ _ m.ks (h.below hB).k (by have := hm.k; omega) (fun t ht => by have := (hm.ks t ht).1; omega)).mono ?_
  rintro e w2 ⟨rfl, hb⟩
  have bm := bm.below hb
  have hB := hB.trans (hb.mono hB.size)
  clear hb x0 x1 x2 x3 x4 x5
  cases h1 : anyLf m.ks with
  | true =>
    have HR : Hid (mtext m = []) := mtext_lf h1
    go_wp2
    go_ret
    exact ⟨by rw [HR.out]; rfl, hB⟩
  | false =>
  have HR : Hid (mtext m = whole m) := mtext_yes HOK.out h1
  have HWH : Hid (whole m = body m ++ ([115, 117, 109] ++ nums [(Cr.crc (body m) : Int)] ++ [10])) := rfl
  have hbl := body_len hm
  have hwl := whole_len hm
  clear h1
  obtain ⟨_, ⟨x0, x1, x2, x3, x4, x5⟩, _⟩ := wr6 bm
  go_wp2_with fail
  refine (isummed _ _ _ _ _ m (h.below hB) hm (hT.below hB)).mono ?_
  rintro e w3 ⟨rfl, hb⟩
  have hB := hB.trans (hb.mono hB.size)
  have hi := crc_i64 (body m)
  obtain ⟨X, hX⟩ : ∃ X, body m = X := ⟨_, rfl⟩
  rw [hX] at HWH hi hbl ⊢
  rw [HWH.out] at hwl
  clear hb x0 x1 x2 x3 x4 x5 bm hX
  have hi' : ∀ x ∈ [(Cr.crc X : Int)], i64 x := by intro x hx; simp at hx; subst hx; exact hi
  have hnl := nums_len _ hi'
  have hcr := Cr.crc_lt X
  have hic := Cr.icrc ⟨X.toArray⟩ w3 (by rw [ba_size]; omega)
  simp only [List.length_cons, List.length_nil] at hnl
  have hdl : (ByteArray.mk X.toArray).data.toList = X := by simp
  rw [hdl] at hic
  clear hdl
  have hlen : X.length + 3 + (nums [(Cr.crc X : Int)]).length + 1 ≤ 12400 := by simp at hwl; omega
  clear hwl
  go_wp2_with (go_at_call 23; refine hic.mono ?_; rintro e w' ⟨rfl, hw'⟩; subst w')
  have hB1 : Below w.heap.size w (w3.alloc (.cells #[.int .i64 (Cr.crc X : Nat)] 3)) := hB.alloc hB.size _
  refine (ispaced _ _ _ [(Cr.crc X : Int)] (isl_lit w3 [(Cr.crc X : Int)] 3 _ _ rfl rfl) hi' (by simp) (hT.below hB1)).mono ?_
  rintro e w4 ⟨rfl, hB2⟩
  have hB := hB1.trans (hB2.mono hB1.size)
  clear hB1 hB2 hic hi hi' hcr
  generalize nums [(Cr.crc X : Int)] = Y at hnl hlen HWH ⊢
  go_upto_region 5 with fail
  have HE : Hid ((⟨X.toArray⟩ : ByteArray) ++ ⟨#[115, 117, 109]⟩ ++ ⟨Y.toArray⟩ ++ ⟨#[10]⟩ = ⟨(X ++ ([115, 117, 109] ++ Y ++ [10])).toArray⟩) := ba_ext (by simp)
  rw [HE.out]
  have hZ : (X ++ ([115, 117, 109] ++ Y ++ [10])).length ≤ 12400 := by simp; omega
  generalize X ++ ([115, 117, 109] ++ Y ++ [10]) = Z at hZ HWH ⊢
  clear hlen hnl hbl HE
  go_wp2
  go_ret
  exact ⟨by rw [HR.out, HWH.out]; rfl, hB⟩
end Go.Proofs.YtdileifjmlabfaaGreatDoor.Mt
/-
  A list of bytes that a call makes of a text and goes on writing behind: what it holds, and what an append of a text makes of it.
-/
namespace Go.Proofs.YtdileifjmlabfaaGreatDoor.Ob
set_option maxRecDepth 100000
open Go.RowKit
open Go.Proofs.YtdileifjmlabfaaGreatDoor.Sv (Fr fr_grown)
/-- The bytes l lie from the block's beginning on; the block has room for cap of them, and all of it may be written. -/
structure Ox (w : World) (g cap : Nat) (l : List UInt8) : Prop where
  lt : g < w.heap.size
  le : l.length ≤ cap
  max : cap ≤ maxLen
  cell : ∀ j (hj : j < l.length), w.cell? ⟨g, j, none⟩ = some (.int .u8 (l[j].toNat : Int))
  some : ∀ j, j < cap → (w.cell? ⟨g, j, none⟩).isSome = true
  free : ∀ j, j < cap → w.frozen? ⟨g, j, none⟩ = false
theorem Ox.keptAt {w w1 : World} {g cap : Nat} {l : List UInt8} (h : Ox w g cap l) (hs : w.heap.size ≤ w1.heap.size) (hb : w1.heap[g]? = w.heap[g]?) : Ox w1 g cap l := by
  refine ⟨by have := h.lt; omega, h.le, h.max, fun j hj => ?_, fun j hj => ?_, fun j hj => ?_⟩
  · rw [World.cell?_of_block (w := w) (a := ⟨g, j, none⟩) hb]; exact h.cell j hj
  · rw [World.cell?_of_block (w := w) (a := ⟨g, j, none⟩) hb]; exact h.some j hj
  · rw [World.frozen?_of_block (w := w) (a := ⟨g, j, none⟩) hb]; exact h.free j hj
theorem Ox.below {w w1 : World} {g cap : Nat} {l : List UInt8} (h : Ox w g cap l) (hb : Below w.heap.size w w1) : Ox w1 g cap l := h.keptAt hb.size (hb.block g h.lt)
theorem set_grown (g : Nat) : ∀ (vs : List Value) (o : Nat) (w : World), w.grownBy (w.setCells g o vs) (some g)
  | [], _, w => World.grownBy.refl _ _
  | v :: r, o, w => by
    rw [World.setCells]
    exact Li.grown_trans (Li.grown_set w g o v) (set_grown g r (o + 1) _)
theorem set_size (g : Nat) (vs : List Value) (o : Nat) (w : World) : (w.setCells g o vs).heap.size = w.heap.size := by
  induction vs generalizing o w with
  | nil => rfl
  | cons v r ih => rw [World.setCells, ih]; simp [World.setCell]
theorem str_get (s : ByteArray) (j : Nat) (h : j < (Lib.strCells s).length) (h' : j < s.data.toList.length) : (Lib.strCells s)[j] = .int .u8 (s.data.toList[j].toNat : Int) := by
  simp [Lib.strCells]
theorem info_byte : (Tryz.prog.info? 5).map (fun i => (i.zero, i.size, i.bytes)) = some (some (.int .u8 0), 1, 1) := by kernel_rfl
theorem run_appS (w : World) (ty : TypeId) (g cap n : Nat) (l : List UInt8) (hn : l.length = n) (h : Ox w g cap l) (s : ByteArray) (hl : l.length + s.size ≤ 140737488355328) (hm : l.length + s.size ≤ maxLen) :
    ∃ k cap' w', (Builtin.append_ #[41, 9] ty #[.slice (some ⟨g, 0, none⟩) n cap, .string s]).run Tryz.prog w = .ok (.slice (some ⟨k, 0, none⟩) (n + s.size) cap') w' ∧ Ox w' k cap' (l ++ s.data.toList) ∧ w.grownBy w' (some g) ∧ (k = g ∨ k = w.heap.size) := by
  subst hn
  obtain ⟨i0, hi, hz0, hz1, hz2⟩ := info_parts info_byte
  have hsl : s.data.toList.length = s.size := by simp
  have hcl : (Lib.strCells s).length = s.size := Lib.strCells_length s
  by_cases hroom : l.length + s.size ≤ cap
  · have hf := Lib.run_firstCells_string (P := Tryz.prog) w 1 s
    have hst := run_storeCells_cells (P := Tryz.prog) g l.length (Lib.strCells s) 0 w (fun j hj => by rw [Nat.add_zero]; exact h.some _ (by omega)) (fun j hj => by rw [Nat.add_zero]; exact h.free _ (by omega)) (Lib.strCells_oneCell s)
    rw [Nat.add_zero] at hst
    have hin := World.cell?_setCells_in g (Lib.strCells s) l.length w (fun j hj => h.some _ (by omega))
    have hout : ∀ j, ¬ (l.length ≤ j ∧ j < l.length + s.size) → (w.setCells g l.length (Lib.strCells s)).cell? ⟨g, j, none⟩ = w.cell? ⟨g, j, none⟩ := fun j hj => World.cell?_setCells_out g (Lib.strCells s) l.length _ _ (fun _ _ => by rw [hcl]; show j < _ ∨ _ ≤ j; omega)
    refine ⟨g, cap, w.setCells g l.length (Lib.strCells s), ?_, ⟨by rw [set_size]; exact h.lt, by rw [List.length_append]; omega, h.max, fun j hj => ?_, fun j hj => ?_, fun j hj => by rw [World.frozen?_setCells]; exact h.free j hj⟩, set_grown _ _ _ _, .inl rfl⟩
    · simp [Builtin.append_, run_underlying Tryz.underlying41, run_underlying Tryz.underlying9, sizeOf, typeInfo, hi, hz1, Builtin.lenOf, hroom, hf, Addr.add_lit, hst]
    · by_cases hjl : j < l.length
      · rw [hout j (by omega), h.cell j hjl, List.getElem_append_left hjl]
      · rw [List.length_append] at hj
        have := hin (j - l.length) (by omega)
        rw [show l.length + (j - l.length) = j by omega] at this
        rw [this, str_get s (j - l.length) (by omega) (by omega), List.getElem_append_right (by omega)]
    · by_cases hjl : l.length ≤ j ∧ j < l.length + s.size
      · have := hin (j - l.length) (by omega)
        rw [show l.length + (j - l.length) = j by omega] at this
        rw [this]; rfl
      · rw [hout j hjl]; exact h.some j hj
  · have hr := Lib.run_append_grow_string (P := Tryz.prog) w 41 9 ty 5 i0 (.int .u8 0) Tryz.underlying41 Tryz.underlying9 hi hz0 ⟨g, 0, none⟩ l.length cap (Lib.byteCells l) (by rw [hz1]; simp [Lib.byteCells]) (fun j v hj => by
      rw [Go.WideShapes.add_plain, Nat.zero_add]
      have hjl : j < l.length := by have := (List.getElem?_eq_some_iff.1 hj).1; simpa [Lib.byteCells] using this
      rw [h.cell j hjl]
      simp [Lib.byteCells, List.getElem?_eq_getElem hjl] at hj
      rw [← hj]) s (by omega) (by unfold maxLen at hm; omega) (by rw [hz2]; exact growslice_fits (by omega) (by omega))
    have hge := grownCap_ge w (l.length + s.size) cap 5
    have hcm := grownCap_le_maxLen w (l.length + s.size) cap 5 hm
    refine ⟨w.heap.size, grownCap w (l.length + s.size) cap 5, _, hr, ?_, ⟨rfl, rfl, rfl, by simp, fun k hk _ => heap_alloc_old w.drew _ (by simpa using hk)⟩, .inr rfl⟩
    have hh : (w.drew.alloc (.cells ((Lib.byteCells l).toArray ++ (Lib.strCells s).toArray ++ Builtin.zeroCells (Value.int .u8 0).cells (grownCap w (l.length + s.size) cap 5 - (l.length + s.size))) 5)).heap[w.heap.size]? = some (.cells ((Lib.byteCells l).toArray ++ (Lib.strCells s).toArray ++ Builtin.zeroCells (Value.int .u8 0).cells (grownCap w (l.length + s.size) cap 5 - (l.length + s.size))) 5) := heap_alloc_new w.drew _
    generalize w.drew.alloc (.cells ((Lib.byteCells l).toArray ++ (Lib.strCells s).toArray ++ Builtin.zeroCells (Value.int .u8 0).cells (grownCap w (l.length + s.size) cap 5 - (l.length + s.size))) 5) = W at hh
    have hz8 : (Value.int IntKind.u8 0).cells.size = 1 := rfl
    have hsz : ((Lib.byteCells l).toArray ++ (Lib.strCells s).toArray ++ Builtin.zeroCells (Value.int .u8 0).cells (grownCap w (l.length + s.size) cap 5 - (l.length + s.size))).size = grownCap w (l.length + s.size) cap 5 := by
      simp only [Array.size_append, List.size_toArray, size_zeroCells, hz8, hcl]
      simp only [Lib.byteCells, List.length_map]
      omega
    refine ⟨(Array.getElem?_eq_some_iff.1 hh).1, by rw [List.length_append]; omega, hcm, fun j hj => ?_, fun j hj => ?_, fun j hj => ?_⟩
    · simp only [World.cell?, hh]
      rw [List.length_append] at hj
      have e1 : (Lib.byteCells l).toArray ++ (Lib.strCells s).toArray = (Lib.byteCells (l ++ s.data.toList)).toArray := by simp [Lib.byteCells, Lib.strCells]
      rw [e1, Array.getElem?_append_left (by simp [Lib.byteCells]; omega)]
      rw [List.getElem?_toArray]
      unfold Lib.byteCells
      rw [List.getElem?_map, List.getElem?_eq_getElem (by rw [List.length_append]; omega)]
      rfl
    · simp only [World.cell?, hh]
      rw [Array.getElem?_eq_getElem (by rw [hsz]; exact hj)]; rfl
    · simp [World.frozen?, hh]
theorem wpl_appS {ops : Array Oper} {rest : List Oper} {o : Oper} {a : Act} {w : World} {Q : Exit → Act → World → Prop} (hgd : o.guard = none) (sl x : Operand)
    (ho : o.op = .call { callee := .builtin .append, args := #[sl, x], argTypes := #[41, 9] }) (g cap n : Nat) (l : List UInt8) (hn : l.length = n) (hs : a.eval sl = .slice (some ⟨g, 0, none⟩) n cap) (h : Ox w g cap l) (s : ByteArray) (hx : a.eval x = .string s) (L : List UInt8) (hL : l ++ s.data.toList = L) (hl : L.length ≤ 1000000)
    (hq : ∀ k cap' w', Ox w' k cap' L → w.grownBy w' (some g) → (k = g ∨ k = w.heap.size) → wpList Tryz.prog ops Q rest (a.put o.dst (.slice (some ⟨k, 0, none⟩) L.length cap')) w') : wpList Tryz.prog ops Q (o :: rest) a w := by
  have hLl : L.length = n + s.size := by rw [← hL, List.length_append, hn]; simp
  refine wpList_plain hgd fun K hK => ?_
  obtain ⟨k, cap', w', hr, h2, h3, h4⟩ := run_appS w o.type g cap n l hn h s (by omega) (by unfold maxLen; omega)
  rw [hL] at h2
  rw [← hLl] at hr
  unfold Oper.wp execOp
  simp only [ho, resolve, invoke, builtin, Sem.run_bind, Sem.run_pure, Result.andThen_ok, List.map_toArray, List.map_cons, List.map_nil, hs, hx, hr]
  exact hK _ _ (hq k cap' w' h2 h3 h4)
theorem step_appS {ops : Array Oper} {o : Oper} {a : Act} {w : World} {K : Act → World → Prop} {Q : Exit → Act → World → Prop} {E : Prop} (hgd : o.guard = none) (sl x : Operand)
    (ho : o.op = .call { callee := .builtin .append, args := #[sl, x], argTypes := #[41, 9] }) (g cap n : Nat) (l : List UInt8) (hn : l.length = n) (hs : a.eval sl = .slice (some ⟨g, 0, none⟩) n cap) (h : Ox w g cap l) (s : ByteArray) (hx : a.eval x = .string s) (L : List UInt8) (hL : l ++ s.data.toList = L) (hl : L.length ≤ 1000000)
    (hq : ∀ k cap' w', Ox w' k cap' L → w.grownBy w' (some g) → (k = g ∨ k = w.heap.size) → K (a.put o.dst (.slice (some ⟨k, 0, none⟩) L.length cap')) w') :
    if Region.wanted o (yielded ops a.tmps) = true then Oper.wp Tryz.prog o a w K Q else E := by
  have hw : Region.wanted o (yielded ops a.tmps) = true := by simp [Region.wanted, hgd]
  rw [if_pos hw]
  have hLl : L.length = n + s.size := by rw [← hL, List.length_append, hn]; simp
  obtain ⟨k, cap', w', hr, h2, h3, h4⟩ := run_appS w o.type g cap n l hn h s (by omega) (by unfold maxLen; omega)
  rw [hL] at h2
  rw [← hLl] at hr
  unfold Oper.wp execOp
  simp only [ho, resolve, invoke, builtin, Sem.run_bind, Sem.run_pure, Result.andThen_ok, List.map_toArray, List.map_cons, List.map_nil, hs, hx, hr]
  exact hq k cap' w' h2 h3 h4
/-- The bytes of a text, made anew. -/
theorem ox_conv (w : World) (s : ByteArray) (hl : s.size ≤ maxLen) : Ox (Lib.bytesWorld w 5 s) w.heap.size (grownCap w s.size 0 5) s.data.toList ∧ Below w.heap.size w (Lib.bytesWorld w 5 s) := by
  have hge := grownCap_ge w s.size 0 5
  have hcm := grownCap_le_maxLen w s.size 0 5 hl
  have hh := Lib.bytesWorld_at_new w 5 s
  have hsz : (Lib.bytesCells w 5 s).size = grownCap w s.size 0 5 := by
    simp [Lib.bytesCells]
    have : s.data.size = s.size := rfl
    omega
  have hs2 := Lib.bytesWorld_size w 5 s
  refine ⟨⟨by omega, by simpa using hge, hcm, fun j hj => ?_, fun j hj => ?_, fun j hj => ?_⟩, ⟨rfl, rfl, rfl, by omega, fun k hk => Lib.bytesWorld_at_old w 5 s k hk⟩⟩
  · have hj' : j < s.size := by simpa using hj
    rw [Lib.bytesWorld_cell w 5 s j hj']
    simp [List.getD_eq_getElem?_getD, hj']
  · simp only [World.cell?, hh]
    rw [Array.getElem?_eq_getElem (by rw [hsz]; exact hj)]; rfl
  · simp only [World.frozen?, hh, hsz]
    simp
    omega
end Go.Proofs.YtdileifjmlabfaaGreatDoor.Ob
/-
  What stands between the signs of a text: plain functions of lists.
-/
namespace Go.Proofs.YtdileifjmlabfaaGreatDoor.Pc
set_option maxRecDepth 100000
open Go.RowKit

def pieces (c : UInt8) : List UInt8 → List (List UInt8)
  | [] => [[]]
  | x :: r => if x = c then [] :: pieces c r else (x :: (pieces c r).headD []) :: (pieces c r).tail
theorem pieces_ne (c : UInt8) (l : List UInt8) : pieces c l ≠ [] := by cases l <;> simp [pieces]; split <;> simp
theorem pieces_no (c : UInt8) : ∀ (l : List UInt8), c ∉ l → pieces c l = [l]
  | [], _ => rfl
  | x :: r, h => by
    have h1 : ¬ x = c := fun e => h (by rw [e]; simp)
    have h2 : c ∉ r := fun e => h (by simp [e])
    simp [pieces, h1, pieces_no c r h2]
theorem pieces_cut (c : UInt8) (r : List UInt8) : ∀ (a : List UInt8), c ∉ a → pieces c (a ++ c :: r) = a :: pieces c r
  | [], _ => by simp [pieces]
  | x :: a, h => by
    have h1 : ¬ x = c := fun e => h (by rw [e]; simp)
    have h2 : c ∉ a := fun e => h (by simp [e])
    simp [pieces, h1, pieces_cut c r a h2]
theorem first_cut (c : UInt8) : ∀ (l : List UInt8), c ∉ l ∨ ∃ a r, l = a ++ c :: r ∧ c ∉ a
  | [] => .inl (by simp)
  | x :: l => by
    by_cases h : x = c
    · exact .inr ⟨[], l, by simp [h], by simp⟩
    · rcases first_cut c l with h' | ⟨a, r, e, h'⟩
      · exact .inl (by simp; exact ⟨fun e => h e.symm, h'⟩)
      · exact .inr ⟨x :: a, r, by rw [e]; rfl, by simp; exact ⟨fun e => h e.symm, h'⟩⟩
theorem index_no (c : UInt8) : ∀ (l : List UInt8), c ∉ l → Lib.index l [c] = -1
  | [], _ => rfl
  | x :: l, h => by
    have h1 : ¬ c = x := fun e => h (by rw [e]; simp)
    have h2 : c ∉ l := fun e => h (by simp [e])
    rw [Lib.index, index_no c l h2]
    simp [h1]
theorem index_at (c : UInt8) (r : List UInt8) : ∀ (a : List UInt8), c ∉ a → Lib.index (a ++ c :: r) [c] = a.length
  | [], _ => by simp [Lib.index]
  | x :: a, h => by
    have h1 : ¬ c = x := fun e => h (by rw [e]; simp)
    have h2 : c ∉ a := fun e => h (by simp [e])
    rw [List.cons_append, Lib.index, index_at c r a h2, if_neg (by simp [h1]), if_neg (by simp)]
    simp
theorem split_pieces (c : UInt8) : ∀ (k : Nat) (l : List UInt8), l.length ≤ k → Lib.splitK [c] 0 (Lib.count l [c]) l = pieces c l := by
  intro k
  induction k with
  | zero =>
    intro l h
    obtain rfl : l = [] := List.length_eq_zero_iff.1 (by omega)
    rw [Lib.count_miss (index_no c [] (by simp))]; rfl
  | succ k ih =>
    intro l h
    rcases first_cut c l with hn | ⟨a, r, rfl, hn⟩
    · rw [Lib.count_miss (index_no c l hn), pieces_no c l hn]; rfl
    · have hi := index_at c r a hn
      rw [Lib.count_hit (by simp) hi, Nat.add_comm, Lib.splitK, if_neg (by rw [hi]; simp), hi, pieces_cut c r a hn]
      have e1 : (a ++ c :: r).take ((a.length : Int).toNat + 0) = a := by simp
      have e2 : (a ++ c :: r).drop ((a.length : Int).toNat + [c].length) = r := by simp
      have e3 : (a ++ c :: r).drop (a.length + [c].length) = r := by simp
      rw [e1, e2, e3, ih r (by simp at h; omega)]
theorem cut_no (c : UInt8) (l : List UInt8) (h : c ∉ l) : Lib.cut l [c] = (l, [], false) := by
  unfold Lib.cut; rw [index_no c l h, if_neg (by omega)]
theorem cut_at (c : UInt8) (a r : List UInt8) (h : c ∉ a) : Lib.cut (a ++ c :: r) [c] = (a, r, true) := by
  unfold Lib.cut; rw [index_at c r a h, if_pos (by omega)]; simp
def ba (l : List UInt8) : ByteArray := ⟨l.toArray⟩
theorem ba_data (l : List UInt8) : (ba l).data.toList = l := by simp [ba]
theorem ba_of (s : ByteArray) : ba s.data.toList = s := by obtain ⟨⟨l⟩⟩ := s; rfl
theorem ba_size (l : List UInt8) : (ba l).size = l.length := by simp [ba, ByteArray.size]
def pcs (c : UInt8) (l : List UInt8) : List ByteArray := (pieces c l).map ba
theorem splitB_pcs (c : UInt8) (s : ByteArray) : Lib.splitB ⟨#[c]⟩ 0 (Lib.countB s ⟨#[c]⟩) s = pcs c s.data.toList := by
  have h := Lib.splitB_data ⟨#[c]⟩ 0 (Lib.countB s ⟨#[c]⟩) s
  have h2 : Lib.splitK [c] 0 (Lib.countB s ⟨#[c]⟩) s.data.toList = pieces c s.data.toList := split_pieces c _ s.data.toList (Nat.le_refl _)
  rw [show (ByteArray.mk #[c]).data.toList = [c] from rfl, h2] at h
  unfold pcs
  rw [← h, List.map_map]
  conv => lhs; rw [← List.map_id (Lib.splitB ⟨#[c]⟩ 0 (Lib.countB s ⟨#[c]⟩) s)]
  apply List.map_congr_left
  intro x _
  exact (ba_of x).symm
theorem pieces_mem (c : UInt8) : ∀ (l : List UInt8), ∀ p ∈ pieces c l, p.length ≤ l.length
  | [], p, h => by simp [pieces] at h; subst h; simp
  | x :: l, p, h => by
    unfold pieces at h
    split at h
    · rcases List.mem_cons.1 h with rfl | h
      · simp
      · have := pieces_mem c l p h; simp; omega
    · rcases List.mem_cons.1 h with rfl | h
      · have hm : (pieces c l).headD [] ∈ pieces c l := by
          cases e : pieces c l with
          | nil => exact absurd e (pieces_ne c l)
          | cons q qs => simp
        have := pieces_mem c l _ hm
        simp only [List.length_cons]; omega
      · have := pieces_mem c l p (List.mem_of_mem_tail h); simp; omega
theorem pcs_mem (c : UInt8) (l : List UInt8) : ∀ p ∈ pcs c l, p.size ≤ l.length := by
  intro p hp
  simp only [pcs, List.mem_map] at hp
  obtain ⟨q, hq, rfl⟩ := hp
  rw [ba_size]; exact pieces_mem c l q hq
theorem pieces_len (c : UInt8) : ∀ (l : List UInt8), (pieces c l).length ≤ l.length + 1
  | [] => by simp [pieces]
  | x :: l => by
    have := pieces_len c l
    unfold pieces
    split
    · simp; omega
    · simp; omega
/-! ### A row out of its parts -/
end Go.Proofs.YtdileifjmlabfaaGreatDoor.Pc
/-
  The model's cutting of a text into its parts.
-/
namespace Go.Proofs.YtdileifjmlabfaaGreatDoor.Sp
set_option maxRecDepth 100000
open Go.RowKit
open Go.Proofs.YtdileifjmlabfaaGreatDoor.Tb
open Go.Proofs.YtdileifjmlabfaaGreatDoor.Tk
open Go.Proofs.YtdileifjmlabfaaGreatDoor.Li (ret_bool grown_refl grown_trans grown_set below_none)

/-- How far the cutting is: the parts so far, where the open part begins, where it looks. -/
def Far (c : UInt8) (s : List UInt8) (acc : List ByteArray) (f i : Nat) : Prop :=
  (i ≤ s.length ∧ f ≤ i ∧ Pc.pcs c s = acc ++ Pc.pcs c (s.drop f) ∧ c ∉ (s.drop f).take (i - f)) ∨ (i = s.length + 1 ∧ f ≤ i ∧ Pc.pcs c s = acc)
theorem far_zero (c : UInt8) (s : List UInt8) : Far c s [] 0 0 := .inl ⟨Nat.zero_le _, Nat.le_refl _, by simp, by simp⟩
theorem far_on {c : UInt8} {s : List UInt8} {acc : List ByteArray} {f i : Nat} (h : Far c s acc f i) (hi : i < s.length) (hc : ¬ s[i] = c) : Far c s acc f (i + 1) := by
  rcases h with ⟨h1, h2, h3, h4⟩ | ⟨h1, _⟩
  · refine .inl ⟨by omega, by omega, h3, ?_⟩
    rw [show i + 1 - f = (i - f) + 1 by omega, List.take_add_one, List.getElem?_drop, show f + (i - f) = i by omega, List.getElem?_eq_getElem hi]
    simp only [Option.toList_some, List.mem_append, List.mem_singleton, not_or]
    exact ⟨h4, fun e => hc e.symm⟩
  · omega
theorem far_cut {c : UInt8} {s : List UInt8} {acc : List ByteArray} {f i : Nat} (h : Far c s acc f i) (hi : i < s.length) (hc : s[i] = c) : Far c s (acc ++ [Pc.ba ((s.drop f).take (i - f))]) (i + 1) (i + 1) := by
  rcases h with ⟨h1, h2, h3, h4⟩ | ⟨h1, _⟩
  · refine .inl ⟨by omega, Nat.le_refl _, ?_, by simp⟩
    have e : s.drop f = (s.drop f).take (i - f) ++ c :: s.drop (i + 1) := by
      conv => lhs; rw [← List.take_append_drop (i - f) (s.drop f)]
      rw [List.drop_drop, show f + (i - f) = i by omega, List.drop_eq_getElem_cons hi, hc]
    rw [h3, List.append_assoc]
    congr 1
    unfold Pc.pcs
    conv => lhs; rw [e, Pc.pieces_cut c _ _ h4]
    rfl
  · omega
theorem far_end {c : UInt8} {s : List UInt8} {acc : List ByteArray} {f i : Nat} (h : Far c s acc f i) (hi : i = s.length) : Far c s (acc ++ [Pc.ba ((s.drop f).take (i - f))]) (i + 1) (i + 1) := by
  rcases h with ⟨h1, h2, h3, h4⟩ | ⟨h1, _⟩
  · refine .inr ⟨by omega, Nat.le_refl _, ?_⟩
    have e : (s.drop f).take (i - f) = s.drop f := List.take_of_length_le (by rw [List.length_drop]; omega)
    rw [e] at h4 ⊢
    rw [h3]
    unfold Pc.pcs
    rw [Pc.pieces_no c _ h4]
    rfl
  · omega
theorem ext_eq (s : ByteArray) (a b : Nat) : s.extract a b = Pc.ba ((s.data.toList.drop a).take (b - a)) := by
  rw [← Pc.ba_of (s.extract a b)]
  congr 1
  rw [ByteArray.data_extract, Array.toList_extract, List.extract_eq_take_drop]
theorem at_eq (s : ByteArray) (i : Nat) (_h : i < s.size) (h' : i < s.data.toList.length) : s.data.toList[i] = s[i]'_h := by rw [Array.getElem_toList]; rfl
set_option maxHeartbeats 2000000 in
theorem parts (w : World) (s : ByteArray) (c : UInt8) (hs : s.size ≤ 1048576) :
    Calls Tryz.prog 14 #[.string s, .int .u8 (c.toNat : Int)] w fun e w' => ∃ v, e = .returned v ∧ Ls.Own w' w.heap.size v (Pc.pcs c s.data.toList) ∧ Below w.heap.size w w' := by
  obtain ⟨i0, hi, hz0, hz1, hz2⟩ := info_parts Ls.info_str
  go_enter Tryz.func14, Tryz.ntmps14
  go_wp2
  have own0 : Ls.Own (w.alloc (.cells #[] 9)) w.heap.size (.slice (some ⟨w.heap.size, 0, none⟩) 0 0) [] := by
    unfold Ls.Own
    exact ⟨by simp [Ls.sv], .inr ⟨w.heap.size, 0, _, rfl, Nat.le_refl _, heap_alloc_new _ _, Nat.le_refl _, by unfold maxLen; omega, by simp, by simp [Ls.sv]⟩⟩
  go_loopw [5, 6, 7] (fun v f i wr => ∃ (acc : List ByteArray) (kf ki : Nat), Far c s.data.toList acc kf ki ∧ f = .int .i64 kf ∧ i = .int .i64 ki ∧ acc.length ≤ ki ∧ Ls.Own wr w.heap.size v acc ∧ Below w.heap.size w wr) (fun _ _ i _ => s.size + 2 - (intOf i).toNat)
  case atStart => exact ⟨[], 0, 0, far_zero _ _, rfl, rfl, by simp, own0, (Below.refl _ _).alloc (Nat.le_refl _) _⟩
  case round =>
    obtain ⟨acc, kf, ki, hfar, rfl, rfl, hal, hown, hB⟩ := hrel
    have HF : Hid (Far c s.data.toList acc kf ki) := hfar
    have hsl : s.data.toList.length = s.size := by simp
    have hkf : kf ≤ ki ∧ ki ≤ s.size + 1 := by rcases hfar with h | h <;> omega
    have HS : Hid (s.data.toList.length = s.size) := hsl
    clear hfar hsl own0
    by_cases h1 : ki ≤ s.size
    · by_cases h2 : ki < s.size
      · have hne : ((ki : Int) == (s.size : Int)) = false := by simp; omega
        have hsz := hB.size
        have hL : ki < s.data.toList.length := by have := HS.out; omega
        have HQ := at_eq s ki h2 hL
        by_cases hc : s[ki]'h2 = c
        · have hb : (((s[ki]'h2).toNat : Int) == (c.toNat : Int)) = true := by rw [hc]; simp
          have HN : Hid (Far c s.data.toList (acc ++ [s.extract kf ki]) (ki + 1) (ki + 1)) := by show Far _ _ _ _ _; rw [ext_eq]; exact far_cut HF.out hL (HQ.trans hc)
          clear hc HQ hL
          go_wp2_with (at_builtin; refine wpList_append_own _ rfl _ _ 44 rfl w.heap.size 9 i0 (.string ⟨#[]⟩) 1 16 Tryz.underlying44 hi hz0 hz1 hz2 rfl (by decide) _ _ _ rfl (World.ownsRow.alloc hown _) ⟨wr.heap.size, 0, none⟩ 1 1 [.string (s.extract kf ki)] rfl rfl (Ap.one_cell _ _ _ rfl) (Ap.one_one _ rfl) (by unfold maxLen; omega) (by omega) (by simp; omega) ?_; intro v5 w5 hown5 hgrow _)
          have HO : Hid (Ls.Own w5 w.heap.size v5 (acc ++ [s.extract kf ki])) := Ap.sown_snoc rfl hown5
          have HBn : Hid (Below w.heap.size w w5) := (hB.alloc hB.size _).trans (Li.below_own hgrow (fun k hk => (World.ownsRow.lt hown k hk).1) (by simp; omega))
          clear hown5 hgrow hown hB
          go_wp2
          go_roundw
          case rel => exact ⟨acc ++ [s.extract kf ki], ki + 1, ki + 1, HN.out, by go_num, by go_num, by simp; omega, HO.out, HBn.out⟩
          case measure => simp [intOf]; omega
        · have hb : (((s[ki]'h2).toNat : Int) == (c.toNat : Int)) = false := by
            simp only [beq_eq_false_iff_ne, ne_eq]
            intro e
            exact hc (UInt8.toNat_inj.1 (by omega))
          have HN : Hid (Far c s.data.toList acc kf (ki + 1)) := far_on HF.out hL (by rw [HQ]; exact hc)
          clear hc HQ hL
          go_wp2
          go_roundw
          case rel => exact ⟨acc, kf, ki + 1, HN.out, rfl, by go_num, by omega, hown, hB⟩
          case measure => simp [intOf]; omega
      · have hki : ki = s.size := by omega
        have hsz := hB.size
        have HN : Hid (Far c s.data.toList (acc ++ [s.extract kf ki]) (ki + 1) (ki + 1)) := by show Far _ _ _ _ _; rw [ext_eq]; exact far_end HF.out (by rw [HS.out]; exact hki)
        have heq : ((ki : Int) == (s.size : Int)) = true := by simp; omega
        have h2' : ¬ s.size < ki := by omega
        have HK : Hid (ki = s.size) := hki
        clear hki
        go_wp2_with (at_builtin; refine wpList_append_own _ rfl _ _ 44 rfl w.heap.size 9 i0 (.string ⟨#[]⟩) 1 16 Tryz.underlying44 hi hz0 hz1 hz2 rfl (by decide) _ _ _ rfl (World.ownsRow.alloc hown _) ⟨wr.heap.size, 0, none⟩ 1 1 [.string (s.extract kf ki)] rfl rfl (Ap.one_cell _ _ _ rfl) (Ap.one_one _ rfl) (by unfold maxLen; omega) (by omega) (by simp; omega) ?_; intro v5 w5 hown5 hgrow _)
        have HO : Hid (Ls.Own w5 w.heap.size v5 (acc ++ [s.extract kf ki])) := Ap.sown_snoc rfl hown5
        have HBn : Hid (Below w.heap.size w w5) := (hB.alloc hB.size _).trans (Li.below_own hgrow (fun k hk => (World.ownsRow.lt hown k hk).1) (by simp; omega))
        clear hown5 hgrow hown hB
        go_wp2
        go_roundw
        case rel => exact ⟨acc ++ [s.extract kf ki], ki + 1, ki + 1, HN.out, by go_num, by go_num, by simp; omega, HO.out, HBn.out⟩
        case measure => simp [intOf]; omega
    · have HE : Hid (Pc.pcs c s.data.toList = acc) := by
        rcases HF.out with h | h
        · have := HS.out; omega
        · exact h.2.2
      go_wp2
      go_ret
      exact ⟨_, rfl, by rw [HE.out]; exact hown, hB⟩
end Go.Proofs.YtdileifjmlabfaaGreatDoor.Sp
