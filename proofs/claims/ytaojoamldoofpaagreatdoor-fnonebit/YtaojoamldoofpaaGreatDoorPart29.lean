/-
  Contracts that the proof leans on, put together in the order in which they build.
-/
import Derived.Test.YtaojoamldoofpaaGreatDoorPart28
import Derived.Test.YtaojoamldoofpaaGreatDoorPart17
import Derived.Shelf.Strings.Builder1
import Derived.Shelf.Strings.BuilderK
import Derived.Shelf.LaysM
import Derived.Shelf.Strconv.Itoa3
import Derived.Shelf.Strconv.Clone
import Derived.Shelf.LaysC
import Derived.Shelf.Strconv.ErrVarAll
import Derived.Shelf.Strings.Cut
import Derived.Shelf.Strings.Shaped
import Derived.Shelf.Strings.Split
import Derived.Shelf.Strings.SplitShaped
import Derived.Shelf.Strings.FieldsAny
import Derived.Test.YtaojoamldoofpaaGreatDoorProg
import Derived.Test.YtaojoamldoofpaaGreatDoorPart26
import Derived.Lay
import Derived.Lib.LaidTab
import Derived.Lib.LaidU8
import Derived.Stop.LaidErr
import Derived.Stop.Joined
import Derived.LaidMore
import Derived.Test.YtaojoamldoofpaaGreatDoorPart1
import Derived.Lib.AppendStr
import Derived.Lib.ConvBytes
import Derived.Laws.IdiomCopy
import Derived.Laws.BytesArg
import Derived.Test.YtaojoamldoofpaaGreatDoorPart25
import Derived.Test.YtaojoamldoofpaaGreatDoorPart10
/-
  ModelRead of the program: the model whose text it is, or none.
-/
namespace Go.Proofs.YtaojoamldoofpaaGreatDoor.Rm
set_option maxRecDepth 100000
open Go.RowKit
open Go.Proofs.YtaojoamldoofpaaGreatDoor.Md (M OwM mok)
open Go.Proofs.YtaojoamldoofpaaGreatDoor.Kt (Kv OwK)
open Go.Proofs.YtaojoamldoofpaaGreatDoor.To (OwT)
open Go.Proofs.YtaojoamldoofpaaGreatDoor.Mt (whole mtext anyLf)
open Go.Proofs.YtaojoamldoofpaaGreatDoor.Sv (Fr fr_below fr_grown Wr new2)
set_option linter.unusedVariables false
def Good (m : M) : Prop := mok m = true ∧ anyLf m.ks = false
theorem rdt_nil (st : St) (h : ¬ 0 < st.left) : rdt [] st = none := by
  unfold rdt
  show rd [[]] st = none
  have hc : Lib.cut [] [32] = ([], [], false) := Pc.cut_no 32 [] (by simp)
  have hf : first [] = [] := by unfold first; rw [hc]
  refine rd_none ?_ (.inr ?_)
  · unfold dLine
    rw [if_neg h, hf, if_neg (by decide), if_neg (by decide), if_neg (by decide)]
  · rw [hf]; decide
def Reads (s : List UInt8) (m : M) (ok : Bool) : Prop := (ok = true ∧ Good m ∧ whole m = s) ∨ (ok = false ∧ m = zero ∧ ∀ m', Good m' → ¬ whole m' = s)
theorem mtext_good {m : M} (h : Good m) : mtext m = whole m := by unfold mtext; exact if_pos h
theorem mtext_bad {m : M} (h : ¬ Good m) : mtext m = [] := by unfold mtext; exact if_neg h
theorem whole_le {m : M} (h : Good m) : (whole m).length ≤ 12400 := Mt.whole_len (Mt.mok_mn h.1)
theorem reads_yes {s : List UInt8} {st : St} (h : rdt s ⟨zero, 0⟩ = some st) (e : mtext st.m = s) : Reads s st.m true := by
  by_cases hg : Good st.m
  · exact .inl ⟨rfl, hg, by rw [← mtext_good hg]; exact e⟩
  · rw [mtext_bad hg] at e
    have h1 := rdt_nil ⟨zero, 0⟩ (by decide)
    rw [e] at h1
    exact absurd (h1.symm.trans h) (by simp)
theorem reads_no {s : List UInt8} {st : St} (h : rdt s ⟨zero, 0⟩ = some st) (e : ¬ mtext st.m = s) : Reads s zero false := by
  refine .inr ⟨rfl, rfl, fun m hm hw => e ?_⟩
  have h1 := rdt_whole (gd_of hm.1 hm.2)
  rw [hw] at h1
  have h2 : st = ⟨m, 0⟩ := Option.some.inj (h.symm.trans h1)
  rw [h2]
  exact (mtext_good hm).trans hw
theorem reads_none {s : List UInt8} (h : rdt s ⟨zero, 0⟩ = none) : Reads s zero false := by
  refine .inr ⟨rfl, rfl, fun m hm hw => ?_⟩
  have h1 := rdt_whole (gd_of hm.1 hm.2)
  rw [hw] at h1
  exact absurd (h.symm.trans h1) (by simp)
theorem reads_long {s : List UInt8} (h : 30000 < s.length) : Reads s zero false := by
  refine .inr ⟨rfl, rfl, fun m hm hw => ?_⟩
  have := whole_le hm
  rw [hw] at this
  omega
theorem results_ct {fn : Func} {p q : Tmp} {ty : TypeId} (h : fn.results = #[.cell p ty, .tmp q]) (tmps : Array Value) (P : Program) (w : World) :
    (results fn tmps).run P w = ((asAddr (tmps.getD p undef)).run P w).andThen fun a w₁ => ((loadVar ty a).run P w₁).andThen fun v w₂ => .ok (.tuple #[v, tmps.getD q undef]) w₂ := by
  simp only [results, h]
  simp [Sem.run_bind, Result.andThen]
theorem zero_own (w : World) (B : Nat → Prop) : OwM w B (.slice none 0 0) (.slice none 0 0) zero := ⟨fun _ => True, OwK.nil _ _, OwT.nil _ _⟩
def Ans (w : World) (s : List UInt8) (e : Ending) (w' : World) : Prop := ∃ m ok vk vt, Reads s m ok ∧ e = .returned (.tuple #[.agg #[.int .i64 m.n, .int .i64 m.c, .int .i64 m.prior, .int .i64 m.base, vk, vt], .bool ok]) ∧ OwM w' (fun y => w.heap.size ≤ y) vk vt m ∧ m.sz ≤ 100000 ∧ Below w.heap.size w w'
theorem ans_no {w w' : World} {s : List UInt8} (h : Reads s zero false) (hb : Below w.heap.size w w') : Ans w s (.returned (.tuple #[.agg #[.int .i64 0, .int .i64 0, .int .i64 0, .int .i64 0, .slice none 0 0, .slice none 0 0], .bool false])) w' :=
  ⟨zero, false, .slice none 0 0, .slice none 0 0, h, rfl, zero_own _ _, by decide, hb⟩
theorem bel6 {w w1 : World} {R : Nat} (h : Below w.heap.size w w1) (hR : w.heap.size = R) (a b c d e f : Value) : Below w.heap.size w ((((((w1.setCell ⟨R, 0, none⟩ a).setCell ⟨R, 1, none⟩ b).setCell ⟨R, 2, none⟩ c).setCell ⟨R, 3, none⟩ d).setCell ⟨R, 4, none⟩ e).setCell ⟨R, 5, none⟩ f) := by
  have hr : w.heap.size ≤ R := by omega
  exact (((((h.setCell hr a).setCell hr b).setCell hr c).setCell hr d).setCell hr e).setCell hr f
set_option maxHeartbeats 2000000 in
theorem imread (w : World) (s : ByteArray) (hs : s.size ≤ 281474976710656) (hV : Vs w) :
    Calls Tryz.prog 9 #[.string s] w fun e w' => Ans w s.data.toList e w' := by
  have hsz : s.data.toList.length = s.size := by simp
  by_cases hlong : 30000 < s.size
  · have HR : Hid (Reads s.data.toList zero false) := reads_long (by omega)
    go_enter Tryz.func9, Tryz.ntmps9
    go_wp2
    refine bodyPost_ret (v := .tuple #[.agg #[.int .i64 0, .int .i64 0, .int .i64 0, .int .i64 0, .slice none 0 0, .slice none 0 0], .bool false]) (by rw [results_ct rfl]; go_simp) rfl (ans_no HR.out ?_)
    repeat first | exact ((Below.refl _ _).alloc (Nat.le_refl _) _).alloc (by simp) _ | refine Below.setCell ?_ (by simp) _
  have hlong' : ¬ (30000 : Int) < s.size := by omega
  go_enter Tryz.func9, Tryz.ntmps9
  go_wp2_with fail
  obtain ⟨W, hW, hsW, hB, br, bx⟩ := new2 w [.int .i64 0, .int .i64 0, .int .i64 0, .int .i64 0, .slice none 0 0, .slice none 0 0] [.int .i64 0, .int .i64 0, .int .i64 0, .int .i64 0, .slice none 0 0, .slice none 0 0, .int .i64 0] 29 60
  rw [hW]
  refine (iread w W (w.heap.size + 1) s hV hB (by omega) bx (by omega)).mono ?_
  rintro e w1 ⟨he, hF⟩
  obtain ⟨R, hR⟩ : ∃ R, w.heap.size = R := ⟨_, rfl⟩
  obtain ⟨b, hb⟩ : ∃ b, w.heap.size + 1 = b := ⟨_, rfl⟩
  have hRb : ¬ R = b := by omega
  have hbR : ¬ b = R := by omega
  have br1 : Wr w1 R 0 [.int .i64 0, .int .i64 0, .int .i64 0, .int .i64 0, .slice none 0 0, .slice none 0 0] := by
    rw [hR] at br
    exact br.keptAt hF.size (hF.block R br.1 (by unfold Fx; have := br.1; omega))
  have hB1 : Below w.heap.size w w1 := hB.trans ⟨hF.os, hF.tape, hF.output, hF.size, fun k hk => hF.block k (by omega) (by unfold Fx; omega)⟩
  rw [hb] at he ⊢
  rw [hR]
  have HB1 : Hid (type_of% hB1) := hB1
  have HRW : Hid (w.heap.size = R) := hR
  have HLE : Hid (w.heap.size + 2 = W.heap.size) := hsW.symm
  clear hW hB br bx hF hb hR hsW hlong
  rcases he with ⟨st, lo, ak, ck, ax, ct, hrd, rfl, hlo, hg, hsm⟩ | ⟨hrd, rfl⟩
  · have hT : Nu.Tab w1 := (hV.below hB1).1
    obtain ⟨ak', ck', ax', ct', e1, e2, hrm⟩ := hg.om.rm
    injection e1 with e1 _ e3
    injection e2 with e2 _ e4
    subst e1; subst e2; subst e3; subst e4
    obtain ⟨hbl, ⟨c0, c1, c2, c3, c4, c5, c6⟩, xx⟩ := wr7 hg.bx
    have HG : Hid (type_of% hg) := hg
    have HRD : Hid (type_of% hrd) := hrd
    have HSM : Hid (type_of% hsm) := hsm
    have HLO : Hid (W.heap.size ≤ lo) := hlo
    have HBR : Hid (type_of% br1) := br1
    clear hg hrd hlo xx c6
    go_wp2_with fail
    refine (Mt.imtext w1 ak ax ck ct st.m hrm (by omega) hT).mono ?_
    rintro e w2 ⟨rfl, hB2⟩
    obtain ⟨hbl2, ⟨d0, d1, d2, d3, d4, d5, d6⟩, yy⟩ := wr7 (HG.out.bx.below hB2)
    obtain ⟨hrl, ⟨r0, r1, r2, r3, r4, r5⟩, f0, f1, f2, f3, f4, f5⟩ := Md.wr6 (HBR.out.below hB2)
    have HB2 : Hid (Below w.heap.size w w2) := HB1.out.trans (hB2.mono HB1.out.size)
    have HOM : Hid (OwM w2 (fun y => lo ≤ y) (.slice ak st.m.ks.length ck) (.slice ax st.m.ts.length ct) st.m) := HG.out.om.below hB2
    have hte : (ByteArray.mk (mtext st.m).toArray).data.toList = mtext st.m := by simp
    generalize ByteArray.mk (mtext st.m).toArray = t at hte ⊢
    have HTE : Hid (t.data.toList = mtext st.m) := hte
    clear hte hrm hT hB2 c0 c1 c2 c3 c4 c5 d6 yy hB1 br1 hsm
    by_cases h1 : t = s
    · have HR : Hid (Reads s.data.toList st.m true) := reads_yes HRD.out (by rw [← HTE.out, h1])
      have q1 := Ls.tl_eq h1
      clear h1
      go_wp2
      refine bodyPost_ret (v := .tuple #[.agg #[.int .i64 st.m.n, .int .i64 st.m.c, .int .i64 st.m.prior, .int .i64 st.m.base, .slice ak st.m.ks.length ck, .slice ax st.m.ts.length ct], .bool true]) (by rw [results_ct rfl]; go_simp) rfl ⟨st.m, true, _, _, HR.out, rfl, ?_, HSM.out, ?_⟩
      · have hRl : R < lo := by have h1 := HRW.out; have h2 := HLE.out; have h3 := HLO.out; omega
        exact (om_set (om_set (om_set (om_set (om_set (om_set HOM.out hRl) hRl) hRl) hRl) hRl) hRl).mono (fun y hy => by have h1 := HRW.out; show _ ≤ _; omega)
      · exact bel6 HB2.out HRW.out _ _ _ _ _ _
    · have HR : Hid (Reads s.data.toList zero false) := reads_no HRD.out (fun e => h1 (by
        have h2 := HTE.out.trans e
        obtain ⟨⟨a⟩⟩ := t
        obtain ⟨⟨c⟩⟩ := s
        exact congrArg (fun x => ByteArray.mk ⟨x⟩) h2))
      have q1 := Ls.tl_ne h1
      clear h1
      go_wp2
      refine bodyPost_ret (v := .tuple #[.agg #[.int .i64 0, .int .i64 0, .int .i64 0, .int .i64 0, .slice none 0 0, .slice none 0 0], .bool false]) (by rw [results_ct rfl]; go_simp) rfl (ans_no HR.out ?_)
      exact bel6 HB2.out HRW.out _ _ _ _ _ _
  · have HR : Hid (Reads s.data.toList zero false) := reads_none hrd
    obtain ⟨hrl, ⟨r0, r1, r2, r3, r4, r5⟩, f0, f1, f2, f3, f4, f5⟩ := Md.wr6 br1
    clear hrd
    go_wp2
    refine bodyPost_ret (v := .tuple #[.agg #[.int .i64 0, .int .i64 0, .int .i64 0, .int .i64 0, .slice none 0 0, .slice none 0 0], .bool false]) (by rw [results_ct rfl]; go_simp) rfl (ans_no HR.out ?_)
    exact bel6 HB1.out HRW.out _ _ _ _ _ _
end Go.Proofs.YtaojoamldoofpaaGreatDoor.Rm
/-
  Of two texts of models that differ in one byte alone one has a sum that is not its own.
-/
namespace Go.Proofs.YtaojoamldoofpaaGreatDoor.On
set_option maxRecDepth 20000
open Go.Proofs.YtaojoamldoofpaaGreatDoor.Cr (st sts byte crc xor_lt st_lt sts_lt byte_lt fold_lt crc_lt)
theorem xor_can {a b c : Nat} (h : a ^^^ c = b ^^^ c) : a = b := by
  have h1 := congrArg (fun n => n ^^^ c) h
  simpa [Nat.xor_assoc] using h1
theorem st_inj {x y : Nat} (hx : x < 4294967296) (hy : y < 4294967296) (h : st x = st y) : x = y := by
  have hp : Nat.testBit 3988292384 31 = true := by decide
  have hx2 : Nat.testBit (x / 2) 31 = false := Nat.testBit_lt_two_pow (by omega)
  have hy2 : Nat.testBit (y / 2) 31 = false := Nat.testBit_lt_two_pow (by omega)
  unfold st at h
  split at h
  · split at h
    · have := xor_can h; omega
    · have h1 := congrArg (fun n => Nat.testBit n 31) h
      simp only [Nat.testBit_xor, hx2, hy2, hp] at h1
      cases h1
  · split at h
    · have h1 := congrArg (fun n => Nat.testBit n 31) h
      simp only [Nat.testBit_xor, hx2, hy2, hp] at h1
      cases h1
    · omega
theorem sts_inj {x y : Nat} (hx : x < 4294967296) (hy : y < 4294967296) : ∀ k, sts k x = sts k y → x = y
  | 0, h => h
  | k + 1, h => sts_inj hx hy k (st_inj (sts_lt hx k) (sts_lt hy k) h)
theorem byte_l {x y : Nat} (hx : x < 4294967296) (hy : y < 4294967296) {c : UInt8} (h : byte x c = byte y c) : x = y :=
  xor_can (sts_inj (xor_lt hx (by have := c.toNat_lt; omega)) (xor_lt hy (by have := c.toNat_lt; omega)) 8 h)
theorem byte_r {x : Nat} (hx : x < 4294967296) {c d : UInt8} (h : byte x c = byte x d) : c = d := by
  have h1 := sts_inj (xor_lt hx (by have := c.toNat_lt; omega)) (xor_lt hx (by have := d.toNat_lt; omega)) 8 h
  rw [Nat.xor_comm x, Nat.xor_comm x] at h1
  exact UInt8.toNat_inj.1 (xor_can h1)
theorem fold_inj : ∀ (l : List UInt8) {x y : Nat}, x < 4294967296 → y < 4294967296 → l.foldl byte x = l.foldl byte y → x = y
  | [], _, _, _, _, h => h
  | c :: l, _, _, hx, hy, h => byte_l hx hy (fold_inj l (byte_lt hx c) (byte_lt hy c) h)
theorem crc_set {l : List UInt8} {k : Nat} (hk : k < l.length) {z : UInt8} (h : crc (l.set k z) = crc l) : z = l[k] := by
  unfold crc at h
  have h1 := xor_can h
  have e1 : l.set k z = l.take k ++ z :: l.drop (k + 1) := by rw [List.set_eq_take_append_cons_drop, if_pos hk]
  have e2 : l = l.take k ++ l[k] :: l.drop (k + 1) := by simp
  rw [e1] at h1
  have h2 : (l.take k ++ z :: l.drop (k + 1)).foldl byte 4294967295 = (l.take k ++ l[k] :: l.drop (k + 1)).foldl byte 4294967295 := by rw [← e2]; exact h1
  rw [List.foldl_append, List.foldl_append, List.foldl_cons, List.foldl_cons] at h2
  have hu : (l.take k).foldl byte 4294967295 < 4294967296 := fold_lt _ (by omega)
  exact byte_r hu (fold_inj _ (byte_lt hu _) (byte_lt hu _) h2)
def tl (c : Int) : List UInt8 := [115, 117, 109, 32] ++ Lib.itoa c ++ [10]
theorem tl_len (c : Int) : (tl c).length = (Lib.itoa c).length + 5 := by simp [tl]
theorem dig_no {c : Int} {x : UInt8} (h : x ∈ Lib.itoa c) : ¬ x = 10 ∧ ¬ x = 115 := by
  refine ⟨fun e => (Rm.itoa_no c).1 (e ▸ h), fun e => ?_⟩
  rcases Rm.itoa_chars c x h with h1 | h1
  · rw [e] at h1; cases h1
  · rw [e] at h1; revert h1; unfold Ma.isDig; decide
theorem tl_ten {c : Int} {i : Nat} (h : i + 1 < (tl c).length) : ¬ (tl c)[i]? = some 10 := by
  intro e
  rw [tl_len] at h
  unfold tl at e
  rw [List.getElem?_append_left (by simp; omega)] at e
  rcases List.mem_append.1 (List.mem_of_getElem? e) with h1 | h1
  · revert h1; decide
  · exact (dig_no h1).1 rfl
theorem tl_s {c : Int} {i : Nat} : ¬ (tl c)[i + 1]? = some 115 := by
  intro e
  have e1 : tl c = 115 :: ([117, 109, 32] ++ Lib.itoa c ++ [10]) := by simp [tl]
  rw [e1, List.getElem?_cons_succ] at e
  rcases List.mem_append.1 (List.mem_of_getElem? e) with h1 | h1
  · rcases List.mem_append.1 h1 with h2 | h2
    · revert h2; decide
    · exact (dig_no h2).2 rfl
  · revert h1; decide
theorem one_lt {b b' : List UInt8} {c c' : Int} {d : List UInt8} (hd : b = d ++ [10]) {k : Nat} (hl : (b ++ tl c).length = (b' ++ tl c').length) (hlt : b'.length < b.length)
    (ho : ∀ i, i ≠ k → (b ++ tl c)[i]? = (b' ++ tl c')[i]?) : False := by
  have l1 := tl_len c
  have l2 := tl_len c'
  rw [List.length_append, List.length_append] at hl
  have hp : (b ++ tl c)[b.length - 1]? = some 10 := by
    rw [List.getElem?_append_left (by omega), hd]
    simp
  have hp' : ¬ (b' ++ tl c')[b.length - 1]? = some 10 := by
    rw [List.getElem?_append_right (by omega)]
    exact tl_ten (by omega)
  have hk : b.length - 1 = k := Classical.byContradiction fun e => hp' ((ho _ e).symm.trans hp)
  have h1 := ho b.length (by omega)
  rw [List.getElem?_append_right (Nat.le_refl _), List.getElem?_append_right (by omega), Nat.sub_self] at h1
  have h2 : (tl c)[0]? = some 115 := by simp [tl]
  rw [h2] at h1
  have h3 : b.length - b'.length = (b.length - b'.length - 1) + 1 := by omega
  rw [h3] at h1
  exact tl_s h1.symm
theorem itoa_inj {a b : Int} (ha : -1000000000000 ≤ a ∧ a ≤ 1000000000000) (hb : -1000000000000 ≤ b ∧ b ≤ 1000000000000) (h : Lib.itoa a = Lib.itoa b) : a = b := by
  have h1 := Rm.num_itoa ha
  rw [h, Rm.num_itoa hb] at h1
  exact (Option.some.inj h1).symm
theorem one {b b' d d' : List UInt8} (hd : b = d ++ [10]) (hd' : b' = d' ++ [10]) {k : Nat} (hl : (b ++ tl (crc b : Int)).length = (b' ++ tl (crc b' : Int)).length)
    (ho : ∀ i, i ≠ k → (b ++ tl (crc b : Int))[i]? = (b' ++ tl (crc b' : Int))[i]?) (hk : ¬ (b ++ tl (crc b : Int))[k]? = (b' ++ tl (crc b' : Int))[k]?) : False := by
  rcases Nat.lt_trichotomy b'.length b.length with h | h | h
  · exact one_lt hd hl h ho
  · have hc := crc_lt b
    have hc' := crc_lt b'
    by_cases hkb : k < b.length
    · have ht : tl (crc b : Int) = tl (crc b' : Int) := by
        apply List.ext_getElem?
        intro i
        have h1 := ho (b.length + i) (by omega)
        rw [List.getElem?_append_right (by omega), List.getElem?_append_right (by omega)] at h1
        rw [show b.length + i - b.length = i by omega, show b.length + i - b'.length = i by omega] at h1
        exact h1
      have he : (crc b : Int) = (crc b' : Int) := by
        unfold tl at ht
        exact itoa_inj (by omega) (by omega) (List.append_cancel_left (List.append_cancel_right ht))
      have hs : b.set k (b'[k]'(by omega)) = b' := by
        apply List.ext_getElem?
        intro i
        rw [List.getElem?_set]
        by_cases e : k = i
        · subst e
          rw [if_pos rfl, if_pos hkb, List.getElem?_eq_getElem]
        · rw [if_neg e]
          have h1 := ho i (fun e2 => e e2.symm)
          by_cases hi : i < b.length
          · rw [List.getElem?_append_left hi, List.getElem?_append_left (by omega)] at h1
            exact h1
          · rw [List.getElem?_eq_none (by omega), List.getElem?_eq_none (by omega)]
      have h2 := crc_set hkb (z := b'[k]'(by omega)) (by rw [hs]; omega)
      apply hk
      rw [List.getElem?_append_left hkb, List.getElem?_append_left (by omega), List.getElem?_eq_getElem hkb, List.getElem?_eq_getElem (by omega), h2]
    · have hb : b = b' := by
        apply List.ext_getElem?
        intro i
        by_cases hi : i < b.length
        · have h1 := ho i (by omega)
          rw [List.getElem?_append_left hi, List.getElem?_append_left (by omega)] at h1
          exact h1
        · rw [List.getElem?_eq_none (by omega), List.getElem?_eq_none (by omega)]
      exact hk (by rw [hb])
  · exact one_lt hd' hl.symm h (fun i hi => (ho i hi).symm)
theorem lines_end (xs : List (List UInt8)) (h : ∀ x ∈ xs, ∃ d, x = d ++ [10]) : xs.flatten = [] ∨ ∃ d, xs.flatten = d ++ [10] := by
  induction xs with
  | nil => exact .inl rfl
  | cons x xs ih =>
    obtain ⟨d, hd⟩ := h x (by simp)
    rcases ih (fun y hy => h y (by simp [hy])) with e | ⟨d2, e⟩
    · exact .inr ⟨d, by rw [List.flatten_cons, e, hd]; simp⟩
    · exact .inr ⟨x ++ d2, by rw [List.flatten_cons, e]; simp⟩
end Go.Proofs.YtaojoamldoofpaaGreatDoor.On
/-
  Of the text of a model no byte may be turned unseen.
-/
namespace Go.Proofs.YtaojoamldoofpaaGreatDoor.On
set_option maxRecDepth 20000
open Go.Proofs.YtaojoamldoofpaaGreatDoor.Md (M)
open Go.Proofs.YtaojoamldoofpaaGreatDoor.Rm (Good Reads)
open Go.Proofs.YtaojoamldoofpaaGreatDoor.Mt (wline wlines head ctxt ttxt ctxts ttxts body whole)
theorem wlines_end : ∀ (vs : List Int) (ss : List ByteArray), wlines vs ss = [] ∨ ∃ d, wlines vs ss = d ++ [10]
  | [], _ => .inl rfl
  | _ :: _, [] => .inl rfl
  | v :: vs, s :: ss => by
    rcases wlines_end vs ss with e | ⟨d, e⟩
    · refine .inr ⟨Lib.itoa v ++ (32 :: s.data.toList), ?_⟩
      simp [wlines, wline, e]
    · exact .inr ⟨wline v s ++ d, by simp [wlines, e]⟩
theorem app_end {a b : List UInt8} (ha : ∃ d, a = d ++ [10]) (hb : b = [] ∨ ∃ d, b = d ++ [10]) : ∃ d, a ++ b = d ++ [10] := by
  rcases hb with rfl | ⟨d, rfl⟩
  · simpa using ha
  · exact ⟨a ++ d, by simp⟩
theorem body_end (m : M) : ∃ d, body m = d ++ [10] := by
  have h1 : ∃ d, head m = d ++ [10] := ⟨_, rfl⟩
  have h2 : ctxts m.ks = [] ∨ ∃ d, ctxts m.ks = d ++ [10] := by
    unfold ctxts
    refine lines_end _ (fun x hx => ?_)
    obtain ⟨t, -, rfl⟩ := List.mem_map.1 hx
    unfold ctxt
    exact app_end ⟨_, rfl⟩ (wlines_end _ _)
  have h3 : ttxts m.ts = [] ∨ ∃ d, ttxts m.ts = d ++ [10] := by
    unfold ttxts
    refine lines_end _ (fun x hx => ?_)
    obtain ⟨t, -, rfl⟩ := List.mem_map.1 hx
    unfold ttxt
    exact ⟨[116, 114, 101, 101] ++ Mt.spt t.sp ++ ([32, 58] ++ Mt.nums t.lv), by simp⟩
  unfold body
  exact app_end (app_end h1 h2) h3
theorem whole_tl (m : M) : whole m = body m ++ tl (Cr.crc (body m) : Int) := by
  unfold whole tl
  rw [Mt.nums_one]
  simp
theorem turned {m m' : M} {k : Nat} {x : UInt8} (hk : k < (whole m).length) (hx : ¬ x = (whole m)[k]) : ¬ whole m' = (whole m).set k x := by
  intro e
  obtain ⟨d, hd⟩ := body_end m
  obtain ⟨d', hd'⟩ := body_end m'
  have hl : (whole m).length = (whole m').length := by rw [e]; simp
  have h1 : ∀ i, i ≠ k → (whole m)[i]? = (whole m')[i]? := fun i hi => by
    rw [e, List.getElem?_set, if_neg (fun h => hi h.symm)]
  have h2 : ¬ (whole m)[k]? = (whole m')[k]? := by
    rw [e, List.getElem?_set, if_pos rfl, if_pos hk, List.getElem?_eq_getElem hk]
    intro h
    exact hx (Option.some.inj h).symm
  rw [whole_tl m, whole_tl m'] at hl
  rw [whole_tl m, whole_tl m'] at h1 h2
  exact one hd hd' hl h1 h2
theorem turned_no {m m' : M} {ok : Bool} {k : Nat} {x : UInt8} (hk : k < (whole m).length) (hx : ¬ x = (whole m)[k]) (h : Reads ((whole m).set k x) m' ok) : ok = false := by
  rcases h with ⟨_, _, h3⟩ | ⟨h1, _, _⟩
  · exact absurd h3 (turned hk hx)
  · exact h1
end Go.Proofs.YtaojoamldoofpaaGreatDoor.On
/-
  What the laws pick out of their bytes: a number below the one asked for.
-/
namespace Go.Proofs.YtaojoamldoofpaaGreatDoor.Pk
set_option maxRecDepth 20000
open Go.RowKit
set_option linter.unusedVariables false
set_option maxHeartbeats 2000000 in
theorem lpick (w : World) (B : Nat) (a : Option Addr) (len cap : Nat) (hb : Cu.Bytes w B a len) (hl : (len : Int) ≤ 1048576) (i : Int) (i0 : 0 ≤ i) (i1 : i ≤ 1000) (n : Int) (hn : 2 ≤ n) (hn' : n ≤ 1000000) :
    Calls Tryz.prog 14 #[.slice a len cap, .int .i64 i, .int .i64 n] w fun e w' => ∃ x : Int, e = .returned (.int .i64 x) ∧ 0 ≤ x ∧ x < n ∧ w' = w := by
  by_cases h0 : len = 0
  · subst h0
    go_enter Tryz.func14, Tryz.ntmps14
    go_wp2
    go_ret
    exact ⟨0, rfl, by omega, by omega, rfl⟩
  have h0' : ((len : Int) == 0) = false := by simp; omega
  rcases hb with rfl | ⟨cb, off, rfl, hcb, hc⟩
  · exact absurd rfl h0
  go_enter Tryz.func14, Tryz.ntmps14
  go_wp2
  go_loop [7, 8] (fun x k => ∃ (q : Nat) (y : Int), q ≤ 3 ∧ k = .int .i64 q ∧ x = .int .i64 y ∧ 0 ≤ y ∧ y ≤ 253215 ∧ (q = 0 → y ≤ 0) ∧ (q = 1 → y ≤ 255) ∧ (q = 2 → y ≤ 8160)) (fun _ k => 3 - (intOf k).toNat)
  case atStart => exact ⟨0, 0, by omega, rfl, rfl, by omega, by omega, by omega, by omega, by omega⟩
  case round =>
    obtain ⟨q, y, hq, rfl, rfl, y0, y1, z0, z1, z2⟩ := hrel
    by_cases h3 : q < 3
    · have m0 := Int.emod_nonneg (i + (q : Int)) (show (len : Int) ≠ 0 by omega)
      have m1 := Int.emod_lt_of_pos (i + (q : Int)) (show 0 < (len : Int) by omega)
      obtain ⟨b, hb, b0, b1⟩ := hc ((i + (q : Int)) % (len : Int)).toNat (by omega)
      clear hc
      have y2 : y ≤ 8160 := by omega
      have Z0 : Hid (q = 0 → y ≤ 0) := z0
      have Z1 : Hid (q = 1 → y ≤ 255) := z1
      clear z0 z1 z2
      go_wp2
      go_round
      case rel => exact ⟨q + 1, 31 * y + b, by omega, by go_num, rfl, by omega, by omega, by omega, by have := Z0.out; omega, by have := Z1.out; omega⟩
      case measure => simp [intOf]; omega
    · have h3' : q = 3 := by omega
      subst h3'
      clear z0 z1 z2
      have m0 := Int.emod_nonneg (y + i) (show n ≠ 0 by omega)
      have m1 := Int.emod_lt_of_pos (y + i) (show 0 < n by omega)
      go_wp2
      go_ret
      exact ⟨_, rfl, m0, m1, rfl⟩
end Go.Proofs.YtaojoamldoofpaaGreatDoor.Pk
/-
  The contracts of Go's library that this proof takes, laid at this translation by the kit's two commands (lay-shelf, lay-plain) and cut down to what is used: each laying is a table of numbers and one theorem, each contract one application.
-/
namespace Go.Proofs
open Go.Shelf
def Tryz.lays199_ren : Go.Shelf.Ren := ⟨fun | 199 => 150 | 261 => 167 | 311 => 177 | 312 => 178 | n => n, fun | 21 => 21 | 4 => 4 | 51 => 73 | 141 => 213 | 0 => 0 | 196 => 228 | 193 => 225 | 3 => 3 | 198 => 231 | 49 => 229 | 194 => 226 | 201 => 234 | 226 => 238 | 46 => 111 | 227 => 239 | n => n, fun | 6 => 4 | n => n⟩
theorem Tryz.lays199 : Go.Proofs.Lays.n199 Tryz.prog Tryz.lays199_ren := {
  mixed := by kernel_rfl
  f199 := Tryz.func150.trans (congrArg some (by kernel_rfl))
  f261 := Tryz.func167.trans (congrArg some (by kernel_rfl))
  f311 := Tryz.func177.trans (congrArg some (by kernel_rfl))
  f312 := Tryz.func178.trans (congrArg some (by kernel_rfl))
  t0 := Tryz.underlying0
  a0 := Tryz.isAgg0
  z0 := Tryz.sizeOf0
  v0 := Tryz.zeroValue0
  t3 := Tryz.underlying3
  a3 := Tryz.isAgg3
  z3 := Tryz.sizeOf3
  v3 := Tryz.zeroValue3
  t4 := Tryz.underlying4
  a4 := Tryz.isAgg4
  z4 := Tryz.sizeOf4
  v4 := Tryz.zeroValue4
  t21 := Tryz.underlying21
  a21 := Tryz.isAgg21
  z21 := Tryz.sizeOf21
  v21 := Tryz.zeroValue21
  t46 := Tryz.underlying111
  a46 := Tryz.isAgg111
  z46 := Tryz.sizeOf111
  v46 := Tryz.zeroValue111
  t49 := Tryz.underlying229
  a49 := Tryz.isAgg229
  z49 := Tryz.sizeOf229
  v49 := Tryz.zeroValue229
  t51 := Tryz.underlying73
  a51 := Tryz.isAgg73
  z51 := Tryz.sizeOf73
  v51 := Tryz.zeroValue73
  t141 := Tryz.underlying213
  a141 := Tryz.isAgg213
  z141 := Tryz.sizeOf213
  v141 := Tryz.zeroValue213
  t193 := Tryz.underlying225
  a193 := Tryz.isAgg225
  z193 := Tryz.sizeOf225
  v193 := Tryz.zeroValue225
  t194 := Tryz.underlying226
  a194 := Tryz.isAgg226
  z194 := Tryz.sizeOf226
  v194 := Tryz.zeroValue226
  t196 := Tryz.underlying228
  a196 := Tryz.isAgg228
  z196 := Tryz.sizeOf228
  v196 := Tryz.zeroValue228
  t198 := Tryz.underlying231
  a198 := Tryz.isAgg231
  z198 := Tryz.sizeOf231
  v198 := Tryz.zeroValue231
  t201 := Tryz.underlying234
  a201 := Tryz.isAgg234
  z201 := Tryz.sizeOf234
  v201 := Tryz.zeroValue234
  t226 := Tryz.underlying238
  a226 := Tryz.isAgg238
  z226 := Tryz.sizeOf238
  v226 := Tryz.zeroValue238
  t227 := Tryz.underlying239
  a227 := Tryz.isAgg239
  z227 := Tryz.sizeOf239
  v227 := Tryz.zeroValue239
  g6 := by kernel_rfl }
end Go.Proofs
/-
  What the row's listed variables give (FnExactModelRead): the tables that numbers and blanks are read by, the two errors' values; and a world that meets the row's condition.
-/
namespace Go.Proofs.YtaojoamldoofpaaGreatDoor.Vr
set_option maxRecDepth 100000
open Go.RowKit Go.ChangeShapes Go.WideShapes
theorem star : "*" ++ "errors.errorString" = "*errors.errorString" := by decide
theorem rowErr (u : TypeId) (h : Tryz.prog.typeName? 3 u = some "*errors.errorString") : u = 222 :=
  typeName_ptr_named (nm := "errors.errorString") (by rw [star]; kernel_rfl) (by kernel_rfl) (by decide) u (by rw [star]; exact h)
theorem tER : (Tryz.prog.globals[3]?).map (·.type) = some 92 := by kernel_rfl
theorem tES : (Tryz.prog.globals[2]?).map (·.type) = some 92 := by kernel_rfl
theorem tAS : (Tryz.prog.globals[1]?).map (·.type) = some 189 := by kernel_rfl
def lst : List (String × DataW Unit) := Rows.fnModelBackRow.laid
theorem vs_of {w : World} (hL : laidMet Tryz.prog lst w) (hsh : w.ShapedOpen Tryz.prog) : Rm.Vs w := by
  have hL : laidMet Tryz.prog [("math/bits.deBruijn32tab", Rows.laid_math_bits_deBruijn32tab), ("math/bits.deBruijn64tab", Rows.laid_math_bits_deBruijn64tab), ("internal/strconv.uint64pow10", Rows.laid_internal_strconv_uint64pow10), ("unicode/utf8.acceptRanges", Rows.laid_unicode_utf8_acceptRanges), ("strconv.ErrRange", Rows.laid_strconv_ErrRange), ("strconv.ErrSyntax", Rows.laid_strconv_ErrSyntax), ("unicode.White_Space", Rows.laid_unicode_White_Space), ("strings.asciiSpace", Rows.laid_strings_asciiSpace), ("unicode/utf8.first", Rows.laid_unicode_utf8_first)] w := hL
  have hM : ∃ m, w.cell? ⟨0, 0, none⟩ = some (.int .i64 m) := Go.Proofs.cell_of_shapedOpen_int (zero := #[.int .i64 0]) (t := 3) hsh (of_decide_eq_true (by kernel_rfl)) (by kernel_rfl) rfl (by kernel_rfl) (by kernel_rfl) Tryz.underlying3
  have hT : Nu.Tab w := Lib.tabIs_of_head Nu.gTab Nu.tTab Tryz.underlying215 Tryz.underlying199 (by kernel_rfl) (by kernel_rfl) (laidMet.tail (laidMet.tail hL))
  have hL3 := laidMet.tail (laidMet.tail (laidMet.tail (laidMet.tail hL)))
  obtain ⟨a0, s0, hv0, -, -, -⟩ := laid_sentinel hL3 Rm.gER tER Tryz.underlying92 rowErr Tryz.underlying222 Tryz.underlying224 rfl rfl Tryz.underlying9 (by kernel_rfl) (by kernel_rfl)
  obtain ⟨a1, s1, hv1, -, -, -⟩ := laid_sentinel (laidMet.tail hL3) Rm.gES tES Tryz.underlying92 rowErr Tryz.underlying222 Tryz.underlying224 rfl rfl Tryz.underlying9 (by kernel_rfl) (by kernel_rfl)
  have hL5 := laidMet.tail (laidMet.tail hL3)
  have hAS : Lib.TabIs Tryz.prog w "strings.asciiSpace" .u8 Lib.asciiSpaceTab := Lib.tabIs_of_head Rm.gAS tAS Tryz.underlying189 Tryz.underlying5 (by kernel_rfl) (by kernel_rfl) (laidMet.tail hL5)
  have hWS : Lib.WhiteTab 4 w := whiteTab_of_reads Tryz.lays199 ⟨by kernel_rfl, by kernel_rfl, by kernel_rfl, by kernel_rfl, by kernel_rfl, by kernel_rfl, by kernel_rfl, by kernel_rfl⟩ (Lib.laidMet.reads hL5 (.head _))
  exact ⟨hT, hM, ⟨_, _, hv1⟩, ⟨_, _, hv0⟩, hAS, hWS⟩
/-! ### A world that meets the condition: the data laid behind a world that holds nothing -/
noncomputable def wit (os : Os) : World := (World.holding Tryz.prog os ⟨#[], #[], []⟩).layVars Tryz.prog lst
theorem wit_os (os : Os) : (wit os).os = os := World.layVars_os _ _ _
theorem met_over {P : Program} {w0 : World} {laid : List (String × DataW Unit)} (hf : w0.layFits P laid [] = true) (hi : w0.layIfaces P laid (w0.layVars P laid) = true) : laidMet P laid (w0.layVars P laid) := by
  have e1 : (laid.filter fun x => (laid.map (·.1)).contains x.1) = laid := List.filter_eq_self.2 fun x hx => List.contains_iff_mem.2 (List.mem_map.2 ⟨x, hx, rfl⟩)
  have e2 : (laid.filter fun x => !(laid.map (·.1)).contains x.1) = [] := List.filter_eq_nil_iff.2 fun x hx => by rw [List.contains_iff_mem.2 (List.mem_map.2 ⟨x, hx, rfl⟩)]; simp
  exact laidMet_layVars (w0 := w0) (laid.map (·.1)) [] (by rw [e1]) (by rw [e1]; exact hf) (by rw [e1]; exact hi) (by rw [e2]; exact LaidIn.none)
theorem wit_dat (os : Os) : laidMet Tryz.prog lst (wit os) := met_over (by kernel_rfl) (by kernel_rfl)
theorem wit_met (os : Os) (args : Array Value) : laidMetH Tryz.prog lst ((wit os).forCall (fun _ _ => 0) ⟨#[], args, []⟩).memory := by
  rw [MakeChecks.laidMetH_plain _ _ _ (by kernel_rfl)]
  exact (wit_dat os).of_heap (by simp [World.memory, World.forCall, Input.heap])
end Go.Proofs.YtaojoamldoofpaaGreatDoor.Vr
/-
  A list of bytes that a call makes of a text and goes on writing behind: what it holds, and what an append of a text makes of it.
-/
namespace Go.Proofs.YtaojoamldoofpaaGreatDoor.Ob
set_option maxRecDepth 100000
open Go.RowKit
open Go.Proofs.YtaojoamldoofpaaGreatDoor.Sv (Fr fr_grown)
structure Ox (w : World) (g cap : Nat) (l : List UInt8) : Prop where
  lt : g < w.heap.size
  le : l.length ≤ cap
  max : cap ≤ maxLen
  cell : ∀ j (hj : j < l.length), w.cell? ⟨g, j, none⟩ = some (.int .u8 (l[j].toNat : Int))
  some : ∀ j, j < cap → (w.cell? ⟨g, j, none⟩).isSome = true
  free : ∀ j, j < cap → w.frozen? ⟨g, j, none⟩ = false
theorem Ox.keptAt {w w1 : World} {g cap : Nat} {l : List UInt8} (h : Ox w g cap l) (hs : w.heap.size ≤ w1.heap.size) (hb : w1.heap[g]? = w.heap[g]?) : Ox w1 g cap l := by
  refine ⟨by have := h.lt; omega, h.le, h.max, fun j hj => ?_, fun j hj => ?_, fun j hj => ?_⟩
  · rw [World.cell?_of_block (w := w) (a := ⟨g, j, none⟩) hb]; exact h.cell j hj
  · rw [World.cell?_of_block (w := w) (a := ⟨g, j, none⟩) hb]; exact h.some j hj
  · rw [World.frozen?_of_block (w := w) (a := ⟨g, j, none⟩) hb]; exact h.free j hj
theorem Ox.below {w w1 : World} {g cap : Nat} {l : List UInt8} (h : Ox w g cap l) (hb : Below w.heap.size w w1) : Ox w1 g cap l := h.keptAt hb.size (hb.block g h.lt)
theorem set_grown (g : Nat) : ∀ (vs : List Value) (o : Nat) (w : World), w.grownBy (w.setCells g o vs) (some g)
  | [], _, w => World.grownBy.refl _ _
  | v :: r, o, w => by
    rw [World.setCells]
    exact Li.grown_trans (Li.grown_set w g o v) (set_grown g r (o + 1) _)
theorem set_size (g : Nat) (vs : List Value) (o : Nat) (w : World) : (w.setCells g o vs).heap.size = w.heap.size := by
  induction vs generalizing o w with
  | nil => rfl
  | cons v r ih => rw [World.setCells, ih]; simp [World.setCell]
theorem str_get (s : ByteArray) (j : Nat) (h : j < (Lib.strCells s).length) (h' : j < s.data.toList.length) : (Lib.strCells s)[j] = .int .u8 (s.data.toList[j].toNat : Int) := by
  simp [Lib.strCells]
theorem info_byte : (Tryz.prog.info? 5).map (fun i => (i.zero, i.size, i.bytes)) = some (some (.int .u8 0), 1, 1) := by kernel_rfl
theorem run_appS (w : World) (ty : TypeId) (g cap n : Nat) (l : List UInt8) (hn : l.length = n) (h : Ox w g cap l) (s : ByteArray) (hl : l.length + s.size ≤ 140737488355328) (hm : l.length + s.size ≤ maxLen) :
    ∃ k cap' w', (Builtin.append_ #[22, 9] ty #[.slice (some ⟨g, 0, none⟩) n cap, .string s]).run Tryz.prog w = .ok (.slice (some ⟨k, 0, none⟩) (n + s.size) cap') w' ∧ Ox w' k cap' (l ++ s.data.toList) ∧ w.grownBy w' (some g) ∧ (k = g ∨ k = w.heap.size) := by
  subst hn
  obtain ⟨i0, hi, hz0, hz1, hz2⟩ := info_parts info_byte
  have hsl : s.data.toList.length = s.size := by simp
  have hcl : (Lib.strCells s).length = s.size := Lib.strCells_length s
  by_cases hroom : l.length + s.size ≤ cap
  · have hf := Lib.run_firstCells_string (P := Tryz.prog) w 1 s
    have hst := run_storeCells_cells (P := Tryz.prog) g l.length (Lib.strCells s) 0 w (fun j hj => by rw [Nat.add_zero]; exact h.some _ (by omega)) (fun j hj => by rw [Nat.add_zero]; exact h.free _ (by omega)) (Lib.strCells_oneCell s)
    rw [Nat.add_zero] at hst
    have hin := World.cell?_setCells_in g (Lib.strCells s) l.length w (fun j hj => h.some _ (by omega))
    have hout : ∀ j, ¬ (l.length ≤ j ∧ j < l.length + s.size) → (w.setCells g l.length (Lib.strCells s)).cell? ⟨g, j, none⟩ = w.cell? ⟨g, j, none⟩ := fun j hj => World.cell?_setCells_out g (Lib.strCells s) l.length _ _ (fun _ _ => by rw [hcl]; show j < _ ∨ _ ≤ j; omega)
    refine ⟨g, cap, w.setCells g l.length (Lib.strCells s), ?_, ⟨by rw [set_size]; exact h.lt, by rw [List.length_append]; omega, h.max, fun j hj => ?_, fun j hj => ?_, fun j hj => by rw [World.frozen?_setCells]; exact h.free j hj⟩, set_grown _ _ _ _, .inl rfl⟩
    · simp [Builtin.append_, run_underlying Tryz.underlying22, run_underlying Tryz.underlying9, sizeOf, typeInfo, hi, hz1, Builtin.lenOf, hroom, hf, Addr.add_lit, hst]
    · by_cases hjl : j < l.length
      · rw [hout j (by omega), h.cell j hjl, List.getElem_append_left hjl]
      · rw [List.length_append] at hj
        have := hin (j - l.length) (by omega)
        rw [show l.length + (j - l.length) = j by omega] at this
        rw [this, str_get s (j - l.length) (by omega) (by omega), List.getElem_append_right (by omega)]
    · by_cases hjl : l.length ≤ j ∧ j < l.length + s.size
      · have := hin (j - l.length) (by omega)
        rw [show l.length + (j - l.length) = j by omega] at this
        rw [this]; rfl
      · rw [hout j hjl]; exact h.some j hj
  · have hr := Lib.run_append_grow_string (P := Tryz.prog) w 22 9 ty 5 i0 (.int .u8 0) Tryz.underlying22 Tryz.underlying9 hi hz0 ⟨g, 0, none⟩ l.length cap (Lib.byteCells l) (by rw [hz1]; simp [Lib.byteCells]) (fun j v hj => by
      rw [Go.WideShapes.add_plain, Nat.zero_add]
      have hjl : j < l.length := by have := (List.getElem?_eq_some_iff.1 hj).1; simpa [Lib.byteCells] using this
      rw [h.cell j hjl]
      simp [Lib.byteCells, List.getElem?_eq_getElem hjl] at hj
      rw [← hj]) s (by omega) (by unfold maxLen at hm; omega) (by rw [hz2]; exact growslice_fits (by omega) (by omega))
    have hge := grownCap_ge w (l.length + s.size) cap 5
    have hcm := grownCap_le_maxLen w (l.length + s.size) cap 5 hm
    refine ⟨w.heap.size, grownCap w (l.length + s.size) cap 5, _, hr, ?_, ⟨rfl, rfl, rfl, by simp, fun k hk _ => heap_alloc_old w.drew _ (by simpa using hk)⟩, .inr rfl⟩
    have hh : (w.drew.alloc (.cells ((Lib.byteCells l).toArray ++ (Lib.strCells s).toArray ++ Builtin.zeroCells (Value.int .u8 0).cells (grownCap w (l.length + s.size) cap 5 - (l.length + s.size))) 5)).heap[w.heap.size]? = some (.cells ((Lib.byteCells l).toArray ++ (Lib.strCells s).toArray ++ Builtin.zeroCells (Value.int .u8 0).cells (grownCap w (l.length + s.size) cap 5 - (l.length + s.size))) 5) := heap_alloc_new w.drew _
    generalize w.drew.alloc (.cells ((Lib.byteCells l).toArray ++ (Lib.strCells s).toArray ++ Builtin.zeroCells (Value.int .u8 0).cells (grownCap w (l.length + s.size) cap 5 - (l.length + s.size))) 5) = W at hh
    have hz8 : (Value.int IntKind.u8 0).cells.size = 1 := rfl
    have hsz : ((Lib.byteCells l).toArray ++ (Lib.strCells s).toArray ++ Builtin.zeroCells (Value.int .u8 0).cells (grownCap w (l.length + s.size) cap 5 - (l.length + s.size))).size = grownCap w (l.length + s.size) cap 5 := by
      simp only [Array.size_append, List.size_toArray, size_zeroCells, hz8, hcl]
      simp only [Lib.byteCells, List.length_map]
      omega
    refine ⟨(Array.getElem?_eq_some_iff.1 hh).1, by rw [List.length_append]; omega, hcm, fun j hj => ?_, fun j hj => ?_, fun j hj => ?_⟩
    · simp only [World.cell?, hh]
      rw [List.length_append] at hj
      have e1 : (Lib.byteCells l).toArray ++ (Lib.strCells s).toArray = (Lib.byteCells (l ++ s.data.toList)).toArray := by simp [Lib.byteCells, Lib.strCells]
      rw [e1, Array.getElem?_append_left (by simp [Lib.byteCells]; omega)]
      rw [List.getElem?_toArray]
      unfold Lib.byteCells
      rw [List.getElem?_map, List.getElem?_eq_getElem (by rw [List.length_append]; omega)]
      rfl
    · simp only [World.cell?, hh]
      rw [Array.getElem?_eq_getElem (by rw [hsz]; exact hj)]; rfl
    · simp [World.frozen?, hh]
theorem wpl_appS {ops : Array Oper} {rest : List Oper} {o : Oper} {a : Act} {w : World} {Q : Exit → Act → World → Prop} (hgd : o.guard = none) (sl x : Operand)
    (ho : o.op = .call { callee := .builtin .append, args := #[sl, x], argTypes := #[22, 9] }) (g cap n : Nat) (l : List UInt8) (hn : l.length = n) (hs : a.eval sl = .slice (some ⟨g, 0, none⟩) n cap) (h : Ox w g cap l) (s : ByteArray) (hx : a.eval x = .string s) (L : List UInt8) (hL : l ++ s.data.toList = L) (hl : L.length ≤ 1000000)
    (hq : ∀ k cap' w', Ox w' k cap' L → w.grownBy w' (some g) → (k = g ∨ k = w.heap.size) → wpList Tryz.prog ops Q rest (a.put o.dst (.slice (some ⟨k, 0, none⟩) L.length cap')) w') : wpList Tryz.prog ops Q (o :: rest) a w := by
  have hLl : L.length = n + s.size := by rw [← hL, List.length_append, hn]; simp
  refine wpList_plain hgd fun K hK => ?_
  obtain ⟨k, cap', w', hr, h2, h3, h4⟩ := run_appS w o.type g cap n l hn h s (by omega) (by unfold maxLen; omega)
  rw [hL] at h2
  rw [← hLl] at hr
  unfold Oper.wp execOp
  simp only [ho, resolve, invoke, builtin, Sem.run_bind, Sem.run_pure, Result.andThen_ok, List.map_toArray, List.map_cons, List.map_nil, hs, hx, hr]
  exact hK _ _ (hq k cap' w' h2 h3 h4)
theorem step_appS {ops : Array Oper} {o : Oper} {a : Act} {w : World} {K : Act → World → Prop} {Q : Exit → Act → World → Prop} {E : Prop} (hgd : o.guard = none) (sl x : Operand)
    (ho : o.op = .call { callee := .builtin .append, args := #[sl, x], argTypes := #[22, 9] }) (g cap n : Nat) (l : List UInt8) (hn : l.length = n) (hs : a.eval sl = .slice (some ⟨g, 0, none⟩) n cap) (h : Ox w g cap l) (s : ByteArray) (hx : a.eval x = .string s) (L : List UInt8) (hL : l ++ s.data.toList = L) (hl : L.length ≤ 1000000)
    (hq : ∀ k cap' w', Ox w' k cap' L → w.grownBy w' (some g) → (k = g ∨ k = w.heap.size) → K (a.put o.dst (.slice (some ⟨k, 0, none⟩) L.length cap')) w') :
    if Region.wanted o (yielded ops a.tmps) = true then Oper.wp Tryz.prog o a w K Q else E := by
  have hw : Region.wanted o (yielded ops a.tmps) = true := by simp [Region.wanted, hgd]
  rw [if_pos hw]
  have hLl : L.length = n + s.size := by rw [← hL, List.length_append, hn]; simp
  obtain ⟨k, cap', w', hr, h2, h3, h4⟩ := run_appS w o.type g cap n l hn h s (by omega) (by unfold maxLen; omega)
  rw [hL] at h2
  rw [← hLl] at hr
  unfold Oper.wp execOp
  simp only [ho, resolve, invoke, builtin, Sem.run_bind, Sem.run_pure, Result.andThen_ok, List.map_toArray, List.map_cons, List.map_nil, hs, hx, hr]
  exact hq k cap' w' h2 h3 h4
theorem ox_conv (w : World) (s : ByteArray) (hl : s.size ≤ maxLen) : Ox (Lib.bytesWorld w 5 s) w.heap.size (grownCap w s.size 0 5) s.data.toList ∧ Below w.heap.size w (Lib.bytesWorld w 5 s) := by
  have hge := grownCap_ge w s.size 0 5
  have hcm := grownCap_le_maxLen w s.size 0 5 hl
  have hh := Lib.bytesWorld_at_new w 5 s
  have hsz : (Lib.bytesCells w 5 s).size = grownCap w s.size 0 5 := by
    simp [Lib.bytesCells]
    have : s.data.size = s.size := rfl
    omega
  have hs2 := Lib.bytesWorld_size w 5 s
  refine ⟨⟨by omega, by simpa using hge, hcm, fun j hj => ?_, fun j hj => ?_, fun j hj => ?_⟩, ⟨rfl, rfl, rfl, by omega, fun k hk => Lib.bytesWorld_at_old w 5 s k hk⟩⟩
  · have hj' : j < s.size := by simpa using hj
    rw [Lib.bytesWorld_cell w 5 s j hj']
    simp [List.getD_eq_getElem?_getD, hj']
  · simp only [World.cell?, hh]
    rw [Array.getElem?_eq_getElem (by rw [hsz]; exact hj)]; rfl
  · simp only [World.frozen?, hh, hsz]
    simp
    omega
end Go.Proofs.YtaojoamldoofpaaGreatDoor.Ob
/-
  The model's cutting of a text into its parts.
-/
namespace Go.Proofs.YtaojoamldoofpaaGreatDoor.Sp
set_option maxRecDepth 100000
open Go.RowKit
open Go.Proofs.YtaojoamldoofpaaGreatDoor.Li (ret_bool grown_trans grown_set below_none)

def Far (c : UInt8) (s : List UInt8) (acc : List ByteArray) (f i : Nat) : Prop :=
  (i ≤ s.length ∧ f ≤ i ∧ Pc.pcs c s = acc ++ Pc.pcs c (s.drop f) ∧ c ∉ (s.drop f).take (i - f)) ∨ (i = s.length + 1 ∧ f ≤ i ∧ Pc.pcs c s = acc)
theorem far_zero (c : UInt8) (s : List UInt8) : Far c s [] 0 0 := .inl ⟨Nat.zero_le _, Nat.le_refl _, by simp, by simp⟩
theorem far_on {c : UInt8} {s : List UInt8} {acc : List ByteArray} {f i : Nat} (h : Far c s acc f i) (hi : i < s.length) (hc : ¬ s[i] = c) : Far c s acc f (i + 1) := by
  rcases h with ⟨h1, h2, h3, h4⟩ | ⟨h1, _⟩
  · refine .inl ⟨by omega, by omega, h3, ?_⟩
    rw [show i + 1 - f = (i - f) + 1 by omega, List.take_add_one, List.getElem?_drop, show f + (i - f) = i by omega, List.getElem?_eq_getElem hi]
    simp only [Option.toList_some, List.mem_append, List.mem_singleton, not_or]
    exact ⟨h4, fun e => hc e.symm⟩
  · omega
theorem far_cut {c : UInt8} {s : List UInt8} {acc : List ByteArray} {f i : Nat} (h : Far c s acc f i) (hi : i < s.length) (hc : s[i] = c) : Far c s (acc ++ [Pc.ba ((s.drop f).take (i - f))]) (i + 1) (i + 1) := by
  rcases h with ⟨h1, h2, h3, h4⟩ | ⟨h1, _⟩
  · refine .inl ⟨by omega, Nat.le_refl _, ?_, by simp⟩
    have e : s.drop f = (s.drop f).take (i - f) ++ c :: s.drop (i + 1) := by
      conv => lhs; rw [← List.take_append_drop (i - f) (s.drop f)]
      rw [List.drop_drop, show f + (i - f) = i by omega, List.drop_eq_getElem_cons hi, hc]
    rw [h3, List.append_assoc]
    congr 1
    unfold Pc.pcs
    conv => lhs; rw [e, Pc.pieces_cut c _ _ h4]
    rfl
  · omega
theorem far_end {c : UInt8} {s : List UInt8} {acc : List ByteArray} {f i : Nat} (h : Far c s acc f i) (hi : i = s.length) : Far c s (acc ++ [Pc.ba ((s.drop f).take (i - f))]) (i + 1) (i + 1) := by
  rcases h with ⟨h1, h2, h3, h4⟩ | ⟨h1, _⟩
  · refine .inr ⟨by omega, Nat.le_refl _, ?_⟩
    have e : (s.drop f).take (i - f) = s.drop f := List.take_of_length_le (by rw [List.length_drop]; omega)
    rw [e] at h4 ⊢
    rw [h3]
    unfold Pc.pcs
    rw [Pc.pieces_no c _ h4]
    rfl
  · omega
theorem ext_eq (s : ByteArray) (a b : Nat) : s.extract a b = Pc.ba ((s.data.toList.drop a).take (b - a)) := by
  rw [← Pc.ba_of (s.extract a b)]
  congr 1
  rw [ByteArray.data_extract, Array.toList_extract, List.extract_eq_take_drop]
theorem at_eq (s : ByteArray) (i : Nat) (_h : i < s.size) (h' : i < s.data.toList.length) : s.data.toList[i] = s[i]'_h := by rw [Array.getElem_toList]; rfl
set_option maxHeartbeats 2000000 in
theorem parts (w : World) (s : ByteArray) (c : UInt8) (hs : s.size ≤ 1048576) :
    Calls Tryz.prog 27 #[.string s, .int .u8 (c.toNat : Int)] w fun e w' => ∃ v, e = .returned v ∧ Ls.Own w' w.heap.size v (Pc.pcs c s.data.toList) ∧ Below w.heap.size w w' := by
  obtain ⟨i0, hi, hz0, hz1, hz2⟩ := info_parts Ls.info_str
  go_enter Tryz.func27, Tryz.ntmps27
  go_wp2
  have own0 : Ls.Own (w.alloc (.cells #[] 9)) w.heap.size (.slice (some ⟨w.heap.size, 0, none⟩) 0 0) [] := by
    unfold Ls.Own
    exact ⟨by simp [Ls.sv], .inr ⟨w.heap.size, 0, _, rfl, Nat.le_refl _, heap_alloc_new _ _, Nat.le_refl _, by unfold maxLen; omega, by simp, by simp [Ls.sv]⟩⟩
  go_loopw [5, 6, 7] (fun v f i wr => ∃ (acc : List ByteArray) (kf ki : Nat), Far c s.data.toList acc kf ki ∧ f = .int .i64 kf ∧ i = .int .i64 ki ∧ acc.length ≤ ki ∧ Ls.Own wr w.heap.size v acc ∧ Below w.heap.size w wr) (fun _ _ i _ => s.size + 2 - (intOf i).toNat)
  case atStart => exact ⟨[], 0, 0, far_zero _ _, rfl, rfl, by simp, own0, (Below.refl _ _).alloc (Nat.le_refl _) _⟩
  case round =>
    obtain ⟨acc, kf, ki, hfar, rfl, rfl, hal, hown, hB⟩ := hrel
    have HF : Hid (Far c s.data.toList acc kf ki) := hfar
    have hsl : s.data.toList.length = s.size := by simp
    have hkf : kf ≤ ki ∧ ki ≤ s.size + 1 := by rcases hfar with h | h <;> omega
    have HS : Hid (s.data.toList.length = s.size) := hsl
    clear hfar hsl own0
    by_cases h1 : ki ≤ s.size
    · by_cases h2 : ki < s.size
      · have hne : ((ki : Int) == (s.size : Int)) = false := by simp; omega
        have hsz := hB.size
        have hL : ki < s.data.toList.length := by have := HS.out; omega
        have HQ := at_eq s ki h2 hL
        by_cases hc : s[ki]'h2 = c
        · have hb : (((s[ki]'h2).toNat : Int) == (c.toNat : Int)) = true := by rw [hc]; simp
          have HN : Hid (Far c s.data.toList (acc ++ [s.extract kf ki]) (ki + 1) (ki + 1)) := by show Far _ _ _ _ _; rw [ext_eq]; exact far_cut HF.out hL (HQ.trans hc)
          clear hc HQ hL
          go_wp2_with (at_builtin; refine wpList_append_own _ rfl _ _ 44 rfl w.heap.size 9 i0 (.string ⟨#[]⟩) 1 16 Tryz.underlying44 hi hz0 hz1 hz2 rfl (by decide) _ _ _ rfl (World.ownsRow.alloc hown _) ⟨wr.heap.size, 0, none⟩ 1 1 [.string (s.extract kf ki)] rfl rfl (Ap.one_cell _ _ _ rfl) (Ap.one_one _ rfl) (by unfold maxLen; omega) (by omega) (by simp; omega) ?_; intro v5 w5 hown5 hgrow _)
          have HO : Hid (Ls.Own w5 w.heap.size v5 (acc ++ [s.extract kf ki])) := Ap.sown_snoc rfl hown5
          have HBn : Hid (Below w.heap.size w w5) := (hB.alloc hB.size _).trans (Li.below_own hgrow (fun k hk => (World.ownsRow.lt hown k hk).1) (by simp; omega))
          clear hown5 hgrow hown hB
          go_wp2
          go_roundw
          case rel => exact ⟨acc ++ [s.extract kf ki], ki + 1, ki + 1, HN.out, by go_num, by go_num, by simp; omega, HO.out, HBn.out⟩
          case measure => simp [intOf]; omega
        · have hb : (((s[ki]'h2).toNat : Int) == (c.toNat : Int)) = false := by
            simp only [beq_eq_false_iff_ne, ne_eq]
            intro e
            exact hc (UInt8.toNat_inj.1 (by omega))
          have HN : Hid (Far c s.data.toList acc kf (ki + 1)) := far_on HF.out hL (by rw [HQ]; exact hc)
          clear hc HQ hL
          go_wp2
          go_roundw
          case rel => exact ⟨acc, kf, ki + 1, HN.out, rfl, by go_num, by omega, hown, hB⟩
          case measure => simp [intOf]; omega
      · have hki : ki = s.size := by omega
        have hsz := hB.size
        have HN : Hid (Far c s.data.toList (acc ++ [s.extract kf ki]) (ki + 1) (ki + 1)) := by show Far _ _ _ _ _; rw [ext_eq]; exact far_end HF.out (by rw [HS.out]; exact hki)
        have heq : ((ki : Int) == (s.size : Int)) = true := by simp; omega
        have h2' : ¬ s.size < ki := by omega
        have HK : Hid (ki = s.size) := hki
        clear hki
        go_wp2_with (at_builtin; refine wpList_append_own _ rfl _ _ 44 rfl w.heap.size 9 i0 (.string ⟨#[]⟩) 1 16 Tryz.underlying44 hi hz0 hz1 hz2 rfl (by decide) _ _ _ rfl (World.ownsRow.alloc hown _) ⟨wr.heap.size, 0, none⟩ 1 1 [.string (s.extract kf ki)] rfl rfl (Ap.one_cell _ _ _ rfl) (Ap.one_one _ rfl) (by unfold maxLen; omega) (by omega) (by simp; omega) ?_; intro v5 w5 hown5 hgrow _)
        have HO : Hid (Ls.Own w5 w.heap.size v5 (acc ++ [s.extract kf ki])) := Ap.sown_snoc rfl hown5
        have HBn : Hid (Below w.heap.size w w5) := (hB.alloc hB.size _).trans (Li.below_own hgrow (fun k hk => (World.ownsRow.lt hown k hk).1) (by simp; omega))
        clear hown5 hgrow hown hB
        go_wp2
        go_roundw
        case rel => exact ⟨acc ++ [s.extract kf ki], ki + 1, ki + 1, HN.out, by go_num, by go_num, by simp; omega, HO.out, HBn.out⟩
        case measure => simp [intOf]; omega
    · have HE : Hid (Pc.pcs c s.data.toList = acc) := by
        rcases HF.out with h | h
        · have := HS.out; omega
        · exact h.2.2
      go_wp2
      go_ret
      exact ⟨_, rfl, by rw [HE.out]; exact hown, hB⟩
end Go.Proofs.YtaojoamldoofpaaGreatDoor.Sp
