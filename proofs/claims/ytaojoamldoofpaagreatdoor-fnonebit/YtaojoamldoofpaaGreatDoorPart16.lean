/-
  Contracts that the proof leans on, put together in the order in which they build.
-/
import Derived.Test.YtaojoamldoofpaaGreatDoorPart15
import Derived.Test.YtaojoamldoofpaaGreatDoorPart12
import Derived.Maps.OwnSet
import Derived.Test.YtaojoamldoofpaaGreatDoorPart9
import Derived.Test.YtaojoamldoofpaaGreatDoorPart10
/-
  Dictionaries: contracts of DictOf, of the program (by a map from words to where they came first) and of its model, over one plain function.
-/
namespace Go.Proofs.YtaojoamldoofpaaGreatDoor.Di
set_option maxRecDepth 20000
open Go.RowKit Go.Maps
open Go.WideMaps (keyOf_string_mk)
open Go.Proofs.YtaojoamldoofpaaGreatDoor.Wd
open Go.Proofs.YtaojoamldoofpaaGreatDoor.Li (ret_int below_none)

theorem lawS : Keyed Tryz.prog 9 := string_keyed Tryz.underlying9
def ks (s : ByteArray) : Lit := .string s.data.toList
theorem ks_inj {s t : ByteArray} (h : ks s = ks t) : s = t := by
  unfold ks at h
  exact ba_ext (by simpa using h)
theorem ks_key (s : ByteArray) : WideAt.IsKeyLit (ks s) := by unfold ks; trivial
def nD (i : Int) : DataW Unit := .lit (.int .i64 i)
def PM (w : World) (b n : Nat) (l : List ByteArray) : Prop :=
  ∃ D : DataW Unit, w.ownsMap Tryz.prog 9 (plainElem Tryz.prog 3) b n D ∧ ∀ s : ByteArray, D.atKey (ks s) (nD 0) = nD (valL l s) ∧ has D (ks s) = hasL l s
theorem PM.kept {w w' : World} {b n : Nat} {l : List ByteArray} {row : Option Nat} (h : PM w b n l) (hg : w.grownBy w' row) (hne : some b ≠ row) : PM w' b n l := by
  obtain ⟨D, ho, hf⟩ := h
  exact ⟨D, ho.kept hg hne, hf⟩
theorem PM.below {w w' : World} {b n : Nat} {l : List ByteArray} (h : PM w b n l) (hB : Below w.heap.size w w') : PM w' b n l :=
  h.kept (row := none) ⟨hB.os, hB.tape, hB.output, hB.size, fun k hk _ => hB.block k hk⟩ (by simp)
theorem PM.lt {w : World} {b n : Nat} {l : List ByteArray} (h : PM w b n l) : b < w.heap.size := by obtain ⟨D, ho, _⟩ := h; exact ho.lt
theorem PM.same {w : World} {b n : Nat} {l m : List ByteArray} (h : PM w b n l) (e : ∀ s, hasL m s = hasL l s ∧ valL m s = valL l s) : PM w b n m := by
  obtain ⟨D, ho, hf⟩ := h
  exact ⟨D, ho, fun s => by rw [(e s).1, (e s).2]; exact hf s⟩
theorem PM.mono {w : World} {b n n' : Nat} {l : List ByteArray} (h : PM w b n l) (hn : n ≤ n') : PM w b n' l := by
  obtain ⟨D, ho, hf⟩ := h
  exact ⟨D, ho.mono hn, hf⟩
theorem pm_made (w : World) : PM (w.alloc (.map #[] 0)) w.heap.size 0 [] :=
  ⟨.map [], World.ownsMap_made _ _ _ _, fun _ => ⟨rfl, rfl⟩⟩
theorem zeroI (w : World) : (zeroValue 3).run Tryz.prog w = .ok (.int .i64 0) w := by kernel_rfl
section
variable (w : World) {ops : Array Oper} {rest : List Oper} {o : Oper} {a : Act} {Q : Exit → Act → World → Prop}
theorem at_pm (hg : o.guard = none) (m x : Operand) (hop : o.op = Op.lookup 162 m x false) (b n : Nat) (l : List ByteArray) (hm : a.eval m = .map (some b)) (h : PM w b n l) (s : ByteArray) (hx : a.eval x = .string s) (hs : s.size ≤ maxLen)
    (hK : wpList Tryz.prog ops Q rest (a.put o.dst (.int .i64 (valL l s))) w) : wpList Tryz.prog ops Q (o :: rest) a w := by
  obtain ⟨D, ho, hf⟩ := h
  refine wpList_lookup_own_int w hg m x 162 hop 9 3 .i64 lawS Tryz.underlying162 Tryz.underlying3 (zeroI w) b n D hm ho _ (ks s) hx (keyOf_string_mk Tryz.underlying9 hs) ?_
  intro c hat _
  have e : nD (valL l s) = nD c := (hf s).1.symm.trans hat
  have e : valL l s = c := by unfold nD at e; simpa using e
  rw [← e]; exact hK
theorem ok_pm (hg : o.guard = none) (m x : Operand) (hop : o.op = Op.lookup 162 m x true) (b n : Nat) (l : List ByteArray) (hm : a.eval m = .map (some b)) (h : PM w b n l) (s : ByteArray) (hx : a.eval x = .string s) (hs : s.size ≤ maxLen)
    (hK : wpList Tryz.prog ops Q rest (a.put o.dst (.tuple #[.int .i64 (valL l s), .bool (hasL l s)])) w) : wpList Tryz.prog ops Q (o :: rest) a w := by
  obtain ⟨D, ho, hf⟩ := h
  refine wpList_lookup_own_ok_int w hg m x 162 hop 9 3 .i64 lawS Tryz.underlying162 Tryz.underlying3 (zeroI w) b n D hm ho _ (ks s) hx (keyOf_string_mk Tryz.underlying9 hs) ?_
  intro c hat _
  have e : nD (valL l s) = nD c := (hf s).1.symm.trans hat
  have e : valL l s = c := by unfold nD at e; simpa using e
  rw [← e, (hf s).2]; exact hK
theorem set_pm (hg : o.guard = none) (m x v : Operand) (hop : o.op = Op.mapUpdate 162 m x v) (b n : Nat) (l : List ByteArray) (hm : a.eval m = .map (some b)) (h : PM w b n l) (hn : n ≤ 10000000) (s : ByteArray) (hx : a.eval x = .string s) (hs : s.size ≤ maxLen) (hnew : ¬ s ∈ l) (hll : l.length ≤ 10000000) (hv : a.eval v = .int .i64 (l.length : Int))
    (hK : ∀ w', PM w' b (n + 1) (l ++ [s]) → w.grownBy w' (some b) → wpList Tryz.prog ops Q rest (a.put o.dst undef) w') : wpList Tryz.prog ops Q (o :: rest) a w := by
  obtain ⟨D, ho, hf⟩ := h
  refine wpList_mapUpdate_own w hg m x v 162 hop 9 3 lawS Tryz.underlying162 _ b n D hm ho (by unfold maxLen; omega) _ _ (ks s) hx hv (keyOf_string_mk Tryz.underlying9 hs) _ [] (plainElem_int Tryz.underlying3 (WalkArith.wf_i64 (by omega))) ?_
  intro w' ho' hg'
  refine hK w' ⟨_, ho', fun t => ?_⟩ hg'
  rw [(snoc_new hnew t).1, (snoc_new hnew t).2]
  by_cases ht : t = s
  · subst ht
    rw [if_pos rfl, if_pos rfl, atKey_put_same ho.isMap (ks_key _), has_put_same ho.isMap (ks_key _)]
    exact ⟨rfl, rfl⟩
  · rw [if_neg ht, if_neg ht, atKey_put_other (fun h => ht (ks_inj h)), has_put_other (fun h => ht (ks_inj h))]
    exact hf t
theorem len_pm (hg : o.guard = none) (m : Operand) (hop : o.op = Op.call { callee := Callee.builtin Builtin.len, args := #[m], argTypes := #[162] }) (b n : Nat) (l : List ByteArray) (hm : a.eval m = .map (some b)) (h : PM w b n l)
    (hK : ∀ q : Nat, q ≤ n → wpList Tryz.prog ops Q rest (a.put o.dst (.int .i64 (q : Int))) w) : wpList Tryz.prog ops Q (o :: rest) a w := by
  obtain ⟨D, ho, hf⟩ := h
  exact wpList_len_own w hg m 162 hop 9 3 Tryz.underlying162 _ b n D hm ho (hK _ ho.size_le)
end
set_option maxHeartbeats 2000000 in
theorem places (w : World) (a : Option Addr) (cap : Nat) (ws : List ByteArray) (hx : Ls.IsS w a ws) (hl : ws.length ≤ 1048576) (hz : ∀ j (h : j < ws.length), ws[j].size ≤ 1048576) :
    Calls Tryz.prog 116 #[.slice a ws.length cap] w fun e w' => e = .returned (.map (some w.heap.size)) ∧ PM w' w.heap.size ws.length ws ∧ Below w.heap.size w w' := by
  have hmm := @run_makeMap Tryz.prog
  go_enter Tryz.func116, Tryz.ntmps116
  go_wp2
  go_loopw [11] (fun i wr => ∃ k : Nat, k ≤ ws.length ∧ i = .int .i64 k ∧ PM wr w.heap.size k (ws.take k) ∧ Below w.heap.size w wr) (fun i _ => ws.length - (intOf i).toNat)
  case atStart => exact ⟨0, Nat.zero_le _, rfl, by simpa using pm_made w, (Below.refl _ _).alloc (Nat.le_refl _) _⟩
  case round =>
    obtain ⟨k, hk, rfl, hm, hB⟩ := hrel
    by_cases hlt : k < ws.length
    · rcases hx.below hB with rfl | ⟨b, off, rfl, hb, hc⟩
      · simp at hlt
      have hcx := hc k hlt
      have hs : ws[k].size ≤ maxLen := by have := hz k hlt; unfold maxLen; omega
      have HT : Hid (ws.take (k + 1) = ws.take k ++ [ws[k]]) := List.take_succ_eq_append_getElem hlt
      have HTL : Hid ((ws.take k).length = k) := by show _ = _; simp; omega
      clear hc hz
      by_cases hin : ws[k] ∈ ws.take k
      · have hh : hasL (ws.take k) ws[k] = true := hasL_iff.2 hin
        have HM : Hid (PM wr w.heap.size (k + 1) (ws.take (k + 1))) := (hm.mono (Nat.le_succ _)).same (fun s => by rw [HT.out]; exact snoc_old hin s)
        obtain ⟨x, ex⟩ : ∃ x, ws[k] = x := ⟨_, rfl⟩
        rw [ex] at hcx hs hh
        clear ex hin
        go_wp2_with (at_lookup; refine ok_pm _ rfl _ _ rfl _ _ _ rfl hm _ rfl hs ?_; rw [hh])
        go_roundw
        case rel => exact ⟨k + 1, by omega, by go_num, HM.out, hB⟩
        case measure => simp [intOf]; omega
      · have hh : hasL (ws.take k) ws[k] = false := hasL_no hin
        obtain ⟨x, ex⟩ : ∃ x, ws[k] = x := ⟨_, rfl⟩
        rw [ex] at hcx hs hh hin HT
        clear ex
        go_wp2_with (first
          | (at_lookup; refine ok_pm _ rfl _ _ rfl _ _ _ rfl hm _ rfl hs ?_; rw [hh])
          | (at_mapUpdate; refine set_pm _ rfl _ _ _ rfl _ _ _ rfl hm (by omega) _ rfl hs hin (by rw [HTL.out]; omega) (by rw [HTL.out]; rfl) ?_; intro w1 h1 g1))
        go_roundw
        case rel => exact ⟨k + 1, by omega, by go_num, by rw [HT.out]; exact h1, Ap.below_app hB hB.size g1 (fun k hk => by cases hk; exact Nat.le_refl _)⟩
        case measure => simp [intOf]; omega
    · obtain rfl : k = ws.length := by omega
      have ht : ws.take ws.length = ws := List.take_length
      rw [ht] at hm
      clear ht
      go_wp2
      go_ret
      exact ⟨rfl, hm, hB⟩
set_option maxHeartbeats 400000 in
theorem clone (w : World) (s : ByteArray) (hs : s.size ≤ 281474976710656) :
    Calls Tryz.prog 84 #[.string s] w fun e w' => e = .returned (.string s) ∧ Below w.heap.size w w' := by
  go_enter Tryz.func84, Tryz.ntmps84
  go_wp2_with (go_at_call 112; refine (Tryz.stringslite_Clone _ _ hs).mono ?_; rintro e w1 ⟨rfl, hB⟩)
  go_ret
  exact ⟨rfl, hB⟩
set_option maxHeartbeats 4000000 in
theorem idict (w : World) (a : Option Addr) (cap : Nat) (ws : List ByteArray) (hx : Ls.IsS w a ws) (hl : ws.length ≤ 1048576) (hz : ∀ j (h : j < ws.length), ws[j].size ≤ 1048576) :
    Calls Tryz.prog 91 #[.slice a ws.length cap] w fun e w' => ∃ v, e = .returned v ∧ Ls.Own w' w.heap.size v (dictOf ws) ∧ Below w.heap.size w w' := by
  obtain ⟨i0, hi, hz0, hz1, hz2⟩ := info_parts Ls.info_str
  go_enter Tryz.func91, Tryz.ntmps91
  go_wp2_with fail
  refine (places _ _ _ ws hx hl hz).mono ?_
  rintro e w1 ⟨rfl, hm, hB⟩
  have hml := hm.lt
  obtain ⟨bm, hbm⟩ : ∃ bm, w.heap.size = bm := ⟨_, rfl⟩
  rw [hbm] at hm hml hB ⊢
  have HBM : Hid (w.heap.size = bm) := hbm
  clear hbm
  go_wp2_with (first
    | (at_len; refine len_pm _ rfl _ rfl _ _ _ rfl hm ?_; intro q hq)
    | (at_make; refine wpList_make_own _ rfl _ _ 44 rfl w1.heap.size 9 i0 (.string ⟨#[]⟩) 1 Tryz.underlying44 hi hz0 hz1 _ _ _ q rfl rfl rfl (by rw [hz2]; omega) (by unfold maxLen; omega) (Nat.le_refl _) ?_; intro w2 hown hgrow))
  have ho2 : Ls.Own w2 w1.heap.size (.slice (some ⟨w1.heap.size, 0, none⟩) 0 q) [] := hown
  have hB2 := below_none hgrow
  have hm2 := hm.below hB2
  have hs2 := hB2.size
  have hB := hB.trans (hB2.mono (by omega))
  clear hown hgrow hB2 hm
  go_loopw [4, 14] (fun v i wr => ∃ k : Nat, k ≤ ws.length ∧ i = .int .i64 k ∧ Ls.Own wr w1.heap.size v (dictOf (ws.take k)) ∧ PM wr bm ws.length ws ∧ Below bm w wr ∧ w1.heap.size ≤ wr.heap.size) (fun _ i _ => ws.length - (intOf i).toNat)
  case atStart => exact ⟨0, Nat.zero_le _, rfl, by simpa [dictOf, dict] using ho2, hm2, hB, hs2⟩
  case round =>
    obtain ⟨k, hk, rfl, hown, hm, hBr, hsr⟩ := hrel
    clear ho2 hm2
    have hBw : Below w.heap.size w wr := by rw [HBM.out]; exact hBr
    by_cases hlt : k < ws.length
    · rcases hx.below hBw with rfl | ⟨b, off, rfl, hb, hc⟩
      · simp at hlt
      have hcx := hc k hlt
      have hs0 := hz k hlt
      have hs : ws[k].size ≤ maxLen := by unfold maxLen; omega
      have hval := valL_at hlt
      have hdl := dictOf_len (ws.take k)
      have hdl2 : (ws.take k).length ≤ k := by simp; omega
      have hblt : b < w.heap.size := by
        rcases hx with h | ⟨b', o', h, hb', _⟩
        · subst h; simp at hlt
        · cases h; exact hb'
      clear hc hz
      by_cases hin : ws[k] ∈ ws.take k
      · have hne : ¬ fst ws[k] ws = k := fun e => (fst_first hlt).1 e hin
        have HD : Hid (dictOf (ws.take (k + 1)) = dictOf (ws.take k)) := dictOf_old hlt hin
        have hcmp : ((fst ws[k] ws : Int) == (k : Int)) = false := by simp; omega
        obtain ⟨x, ex⟩ : ∃ x, ws[k] = x := ⟨_, rfl⟩
        rw [ex] at hcx hs hval hcmp
        obtain ⟨d, hd⟩ : ∃ d, dictOf (ws.take k) = d := ⟨_, rfl⟩
        rw [hd] at hown HD hdl
        clear ex hin hne hd
        go_wp2_with (at_lookup; refine at_pm _ rfl _ _ rfl _ _ _ rfl hm _ rfl hs ?_; rw [hval])
        go_roundw
        case rel => exact ⟨k + 1, by omega, by go_num, by rw [HD.out]; exact hown, hm, hBr, hsr⟩
        case measure => simp [intOf]; omega
      · have hne := (fst_first hlt).2 hin
        have HD : Hid (dictOf (ws.take (k + 1)) = dictOf (ws.take k) ++ [ws[k]]) := dictOf_new hlt hin
        have hcmp : ((fst ws[k] ws : Int) == (k : Int)) = true := by simp; omega
        obtain ⟨x, ex⟩ : ∃ x, ws[k] = x := ⟨_, rfl⟩
        rw [ex] at hcx hs hs0 hval hcmp HD
        obtain ⟨d, hd⟩ : ∃ d, dictOf (ws.take k) = d := ⟨_, rfl⟩
        rw [hd] at hown HD hdl
        clear ex hin hne hd
        go_wp2_with (first
          | (at_lookup; refine at_pm _ rfl _ _ rfl _ _ _ rfl hm _ rfl hs ?_; rw [hval])
          | (go_at_call 84; refine (clone _ _ (by omega)).mono ?_; rintro e w3 ⟨rfl, hB3⟩
             have hown3 := hown.below hB3
             have hm3 := hm.below hB3
             have hBr3 : Below bm w w3 := hBr.trans (hB3.mono (by have := hm.lt; omega))
             have hs3 : w1.heap.size ≤ w3.heap.size := by have := hB3.size; omega
             clear hB3)
          | (at_builtin; refine wpList_append_own _ rfl _ _ 44 rfl w1.heap.size 9 i0 (.string ⟨#[]⟩) 1 16 Tryz.underlying44 hi hz0 hz1 hz2 rfl (by decide) _ _ _ rfl (World.ownsRow.alloc hown3 _) ⟨w3.heap.size, 0, none⟩ 1 1 [.string x] rfl rfl (Ap.one_cell _ _ _ rfl) (Ap.one_one _ rfl) (by unfold maxLen; omega) (by omega) (by simp; omega) ?_; intro v5 w5 hown5 hgrow hnn))
        have ho5 := Ap.sown_snoc rfl hown5
        have hge : ∀ j, (u4 : Value).ownBlock = some j → w1.heap.size ≤ j := fun j hj => (hown3.ge j hj).1
        have hB5 : Below bm w w5 := Ap.below_app (hBr3.alloc (by have := hm3.lt; omega) _) (by have := hm3.lt; simp; omega) hgrow (fun j hj => by have := hge j hj; omega)
        have hm5 : PM w5 bm ws.length ws := (hm3.below ((Below.refl _ _).alloc (Nat.le_refl _) _)).kept hgrow (fun e => by have := hge bm e.symm; omega)
        have hs5 : w1.heap.size ≤ w5.heap.size := by have := hgrow.size; simp at this; omega
        clear hown5 hgrow hnn hge hown3 hm3 hBr3
        go_wp2
        go_roundw
        case rel => exact ⟨k + 1, by omega, by go_num, by rw [HD.out]; exact ho5, hm5, hB5, hs5⟩
        case measure => simp [intOf]; omega
    · obtain rfl : k = ws.length := by omega
      have HT : Hid (ws.take ws.length = ws) := List.take_length
      have HO : Hid (Ls.Own wr w.heap.size u4 (dictOf ws)) := by
        have h := hown
        rw [HT.out] at h
        exact h.mono (by have := HBM.out; omega)
      clear hown
      go_wp2
      go_ret
      exact ⟨_, rfl, HO.out, hBw⟩
set_option maxHeartbeats 4000000 in
theorem sdict (w : World) (a : Option Addr) (cap : Nat) (ws : List ByteArray) (hx : Ls.IsS w a ws) (hl : ws.length ≤ 1048576) :
    Calls Tryz.prog 57 #[.slice a ws.length cap] w fun e w' => ∃ v, e = .returned v ∧ Ls.Own w' w.heap.size v (dictOf ws) ∧ Below w.heap.size w w' := by
  obtain ⟨i0, hi, hz0, hz1, hz2⟩ := info_parts Ls.info_str
  have ho := Ap.sown_empty w w.heap.size (Nat.le_refl _)
  have hB1 : Below w.heap.size w (w.alloc (.cells #[] 9)) := (Below.refl _ _).alloc (Nat.le_refl _) _
  go_enter Tryz.func57, Tryz.ntmps57
  go_wp2
  go_loopw [3, 4] (fun v i wr => ∃ k : Nat, k ≤ ws.length ∧ i = .int .i64 k ∧ Ls.Own wr w.heap.size v (dictOf (ws.take k)) ∧ Below w.heap.size w wr) (fun _ i _ => ws.length - (intOf i).toNat)
  case atStart => exact ⟨0, Nat.zero_le _, rfl, by simpa [dictOf, dict] using ho, hB1⟩
  case round =>
    obtain ⟨k, hk, rfl, hown, hB⟩ := hrel
    clear ho hB1
    by_cases hlt : k < ws.length
    · rcases hx.below hB with rfl | ⟨b, off, rfl, hb, hc⟩
      · simp at hlt
      have hcx := hc k hlt
      have hdl := dictOf_len (ws.take k)
      have hdl2 : (ws.take k).length ≤ k := by simp; omega
      have hBs := hB.size
      clear hc
      by_cases hin : ws[k] ∈ ws.take k
      · have HD : Hid (dictOf (ws.take (k + 1)) = dictOf (ws.take k)) := dictOf_old hlt hin
        have hid : ¬ idOf (dictOf (ws.take k)) ws[k] < 0 := fun h => idOf_neg.1 h (dictOf_mem.2 hin)
        obtain ⟨x, ex⟩ : ∃ x, ws[k] = x := ⟨_, rfl⟩
        rw [ex] at hcx hid
        obtain ⟨d, hd⟩ : ∃ d, dictOf (ws.take k) = d := ⟨_, rfl⟩
        rw [hd] at hown HD hdl hid
        clear ex hin hd
        obtain ⟨va, vc, ev, hs⟩ := hown.iss
        subst ev
        go_wp2_with (go_at_call 80; refine (sid0 _ _ _ d x hs (by omega)).mono ?_; rintro e w' ⟨rfl, hw⟩; subst w')
        go_roundw
        case rel => exact ⟨k + 1, by omega, by go_num, by rw [HD.out]; exact hown, hB⟩
        case measure => simp [intOf]; omega
      · have HD : Hid (dictOf (ws.take (k + 1)) = dictOf (ws.take k) ++ [ws[k]]) := dictOf_new hlt hin
        have hid : idOf (dictOf (ws.take k)) ws[k] < 0 := idOf_neg.2 (fun h => hin (dictOf_mem.1 h))
        obtain ⟨x, ex⟩ : ∃ x, ws[k] = x := ⟨_, rfl⟩
        rw [ex] at hcx hid HD
        obtain ⟨d, hd⟩ : ∃ d, dictOf (ws.take k) = d := ⟨_, rfl⟩
        rw [hd] at hown HD hdl hid
        clear ex hin hd
        obtain ⟨va, vc, ev, hs⟩ := hown.iss
        subst ev
        go_wp2_with (first
          | (go_at_call 80; refine (sid0 _ _ _ d x hs (by omega)).mono ?_; rintro e w' ⟨rfl, hw⟩; subst w')
          | (at_builtin; refine wpList_append_own _ rfl _ _ 44 rfl w.heap.size 9 i0 (.string ⟨#[]⟩) 1 16 Tryz.underlying44 hi hz0 hz1 hz2 rfl (by decide) _ _ _ rfl (World.ownsRow.alloc hown _) ⟨wr.heap.size, 0, none⟩ 1 1 [.string x] rfl rfl (Ap.one_cell _ _ _ rfl) (Ap.one_one _ rfl) (by unfold maxLen; omega) (by omega) (by simp; omega) ?_; intro v5 w5 hown5 hgrow hnn))
        have ho5 := Ap.sown_snoc rfl hown5
        have hge : ∀ j, (Value.slice va d.length vc).ownBlock = some j → w.heap.size ≤ j := fun j hj => (hown.ge j hj).1
        have hB5 : Below w.heap.size w w5 := Ap.below_app (hB.alloc hBs _) (by simp; omega) hgrow hge
        clear hown5 hgrow hnn hge
        go_wp2
        go_roundw
        case rel => exact ⟨k + 1, by omega, by go_num, by rw [HD.out]; exact ho5, hB5⟩
        case measure => simp [intOf]; omega
    · obtain rfl : k = ws.length := by omega
      have HT : Hid (ws.take ws.length = ws) := List.take_length
      have HO : Hid (Ls.Own wr w.heap.size u3 (dictOf ws)) := by have h := hown; rw [HT.out] at h; exact h
      clear hown
      go_wp2
      go_ret
      exact ⟨_, rfl, HO.out, hB⟩
end Go.Proofs.YtaojoamldoofpaaGreatDoor.Di
/-
  CtrTabs of the program: the words of each column and what all labels tell of them.
-/
namespace Go.Proofs.YtaojoamldoofpaaGreatDoor.Kt
set_option maxRecDepth 20000
open Go.RowKit
open Go.Proofs.YtaojoamldoofpaaGreatDoor.Tb
open Go.Proofs.YtaojoamldoofpaaGreatDoor.Tk
open Go.Proofs.YtaojoamldoofpaaGreatDoor.Co
open Go.Proofs.YtaojoamldoofpaaGreatDoor.Wd (dictOf dictOf_mem dictOf_len)
open Go.Proofs.YtaojoamldoofpaaGreatDoor.Wc (wcols tok_c IsCb OC)
open Go.Proofs.YtaojoamldoofpaaGreatDoor.Vc (wcols_le wcols_len wcols_word labels_yes labs_lok)
open Go.Proofs.YtaojoamldoofpaaGreatDoor.Sv (Fr fr_below new1 wr2 Wr)
open Go.Proofs.YtaojoamldoofpaaGreatDoor.Li (below_none)
set_option linter.unusedVariables false

noncomputable def tab (ws : List ByteArray) (ls : List Int) (p : Int) : Kv := ⟨dictOf ws, (dictOf ws).map fun s => Ct.oNum ws ls s p⟩
noncomputable def tabsN (q : Nat) (c : Int) (rs : List Row) (p : Int) : List Kv := ((wcols c rs).take q).map fun ws => tab ws (labs rs) p
theorem tabsN_length (q : Nat) (c : Int) (rs : List Row) (p : Int) (h : q ≤ (wcols c rs).length) : (tabsN q c rs p).length = q := by simp [tabsN]; omega
theorem tabsN_snoc (q : Nat) (c : Int) (rs : List Row) (p : Int) (h : q < (wcols c rs).length) : tabsN (q + 1) c rs p = tabsN q c rs p ++ [tab (wcols c rs)[q] (labs rs) p] := by
  unfold tabsN
  rw [List.take_succ_eq_append_getElem h, List.map_append]; rfl
noncomputable def ktabs (n c : Int) (rs : List Row) (k : Cf.C) : List Kv := if tok n c rs = true ∧ Cf.cok k = true then tabsN (wcols c rs).length c rs k.prior else []
theorem ktabs_no {n c : Int} {rs : List Row} {k : Cf.C} (h : ¬ (tok n c rs = true ∧ Cf.cok k = true)) : ktabs n c rs k = [] := by unfold ktabs; rw [if_neg h]
theorem ktabs_yes {n c : Int} {rs : List Row} {k : Cf.C} (h : tok n c rs = true) (h' : Cf.cok k = true) : ktabs n c rs k = tabsN (wcols c rs).length c rs k.prior := by unfold ktabs; rw [if_pos ⟨h, h'⟩]
theorem dict_sz {ws : List ByteArray} {b : Nat} (h : ∀ i (hi : i < ws.length), ws[i].size ≤ b) (j : Nat) (hj : j < (dictOf ws).length) : (dictOf ws)[j].size ≤ b := by
  have := dictOf_mem.1 (List.getElem_mem hj)
  obtain ⟨i, hi, e⟩ := List.getElem_of_mem this
  rw [← e]; exact h i hi
theorem info_tab : (Tryz.prog.info? 47).map (fun i => (i.zero, i.size, i.bytes)) = some (some (.agg #[.slice none 0 0, .slice none 0 0]), 2, 48) := by kernel_rfl
theorem two_cell (w : World) (T : TypeId) (x y : Value) : ∀ j u, ([x, y] : List Value)[j]? = some u → (w.alloc (.cells #[x, y] T)).cell? ((⟨w.heap.size, 0, none⟩ : Addr).add j) = some u := by
  intro j u hj
  match j, hj with
  | 0, hj => simp at hj; subst hj; simp [Addr.add]
  | 1, hj => simp at hj; subst hj; simp [Addr.add]
theorem two_one {a b : Option Addr} {n c m d : Nat} : ∀ u ∈ ([.slice a n c, .slice b m d] : List Value), u.oneCell' = true := by
  intro u hu
  simp at hu
  rcases hu with rfl | rfl <;> rfl
end Go.Proofs.YtaojoamldoofpaaGreatDoor.Kt
/-
  CtrTabs of the model.
-/
namespace Go.Proofs.YtaojoamldoofpaaGreatDoor.Kt
set_option maxRecDepth 20000
open Go.RowKit
open Go.Proofs.YtaojoamldoofpaaGreatDoor.Tb
open Go.Proofs.YtaojoamldoofpaaGreatDoor.Tk
open Go.Proofs.YtaojoamldoofpaaGreatDoor.Co
open Go.Proofs.YtaojoamldoofpaaGreatDoor.Wd (dictOf dictOf_mem dictOf_len)
open Go.Proofs.YtaojoamldoofpaaGreatDoor.Wc (wcols tok_c IsCb OC)
open Go.Proofs.YtaojoamldoofpaaGreatDoor.Vc (wcols_le wcols_len wcols_word labels_yes labs_lok)
open Go.Proofs.YtaojoamldoofpaaGreatDoor.Sv (Fr fr_below new1 wr2 Wr)
open Go.Proofs.YtaojoamldoofpaaGreatDoor.Li (below_none)
set_option linter.unusedVariables false

theorem owk_none (w : World) : OwK (w.alloc (.cells #[] 47)) (fun y => y = w.heap.size) (.slice (some ⟨w.heap.size, 0, none⟩) 0 0) [] :=
  ⟨[], World.ownsRow_made w #[] 0 (Nat.zero_le _) (by unfold maxLen; omega) (by simp), rfl, fun j h => by simp at h, fun k hk => by simp [Value.ownBlock] at hk; omega, fun p h => by simp at h, fun p q h => by simp at h⟩
theorem one_cell (w : World) (T : TypeId) (x : Int) : ∀ j u, ([Value.int .i64 x] : List Value)[j]? = some u → (w.alloc (.cells #[.int .i64 x] T)).cell? ((⟨w.heap.size, 0, none⟩ : Addr).add j) = some u := by
  intro j u hj
  match j, hj with
  | 0, hj => simp at hj; subst hj; simp [Addr.add]
theorem one_one (x : Int) : ∀ u ∈ ([Value.int .i64 x] : List Value), u.oneCell' = true := by
  intro u hu; simp at hu; subst hu; rfl
theorem own_snoc {w : World} {base n : Nat} {v : Value} {l : List Int} {x : Int} (hn : l.length = n) (h : w.ownsRow base 3 1 v (n + 1) (Li.iv l ++ [.int .i64 x])) : Li.Own w base v (l ++ [x]) := by
  subst hn
  unfold Li.Own
  rw [← Li.iv_append, List.length_append]
  exact h
set_option maxHeartbeats 8000000 in
theorem stabs (w : World) (n c : Int) (a : Option Addr) (cap : Nat) (rs : List Row) (k : Cf.C) (hx : IsR w a rs) (hl : rs.length + szR rs ≤ 1048576) :
    Calls Tryz.prog 73 #[.agg #[.int .i64 n, .int .i64 c, .slice a rs.length cap], .agg #[.int .i64 k.trees, .int .i64 k.depth, .int .i64 k.most, .int .i64 k.rate, .int .i64 k.l2, .int .i64 k.prior, .int .i64 k.seed]] w fun e w' => ∃ v, e = .returned (.tuple #[v, .bool (tok n c rs && Cf.cok k)]) ∧ OwK w' (fun q => w.heap.size ≤ q ∧ q < w'.heap.size) v (ktabs n c rs k) ∧ Below w.heap.size w w' := by
  obtain ⟨i0, hi, hz0, hz1, hz2⟩ := info_parts info_tab
  obtain ⟨j0, hj, jz0, jz1, jz2⟩ := info_parts Li.info_int
  go_enter Tryz.func73, Tryz.ntmps73
  go_wp2_with fail
  obtain ⟨W1, hW, hsz, hB, bx⟩ := box3_new' w (.int .i64 n) (.int .i64 c) (.slice a rs.length cap) 79
  rw [hW]
  clear hW
  obtain ⟨W2, hW2, hsz2, hb2, bc⟩ := Cf.bx_new W1 k 82
  rw [hW2]
  clear hW2
  rw [hsz] at bc
  have bx := bx.below hb2
  have hB := hB.trans (hb2.mono hB.size)
  have st := owk_none W2
  obtain ⟨W, hW3⟩ : ∃ W, W2.alloc (.cells #[] 47) = W := ⟨_, rfl⟩
  have hb3 : Below W2.heap.size W2 W := by rw [← hW3]; exact (Below.refl _ _).alloc (Nat.le_refl _) _
  have hsz3 : W.heap.size = W2.heap.size + 1 := by rw [← hW3]; simp
  rw [hW3] at st ⊢
  clear hW3
  have bx := bx.below hb3
  have bc := bc.below hb3 (by omega)
  have hB := hB.trans (hb3.mono hB.size)
  have hG2 : W2.heap.size = w.heap.size + 2 := by omega
  rw [hG2] at st
  have hszW : w.heap.size + 2 < W.heap.size := by omega
  clear hsz hsz2 hb2 hb3 hsz3 hG2
  refine (stab _ _ _ _ _ rs (hx.below hB) hl).mono ?_
  rintro e w1 ⟨rfl, hb⟩
  have bx := bx.below hb
  have bc := bc.below hb (by omega)
  have st := st.below hb
  have hB := hB.trans (hb.mono hB.size)
  have hszW : w.heap.size + 2 < w1.heap.size := by have := hb.size; omega
  clear hb
  obtain ⟨_, d0, d1, d2, d3, d4, d5, d6⟩ := id bc
  cases ht : tok n c rs
  · have HM : Hid (ktabs n c rs k = []) := ktabs_no (by rw [ht]; simp)
    have HV : Hid ((tok n c rs && Cf.cok k) = false) := by show _ = _; rw [ht]; rfl
    go_wp2
    refine bodyPost_ret (v := .tuple #[.slice (some ⟨w.heap.size + 2, 0, none⟩) 0 0, .bool false]) (by simp [results, Tryz.results73, go_sem]) rfl ?_
    exact ⟨.slice (some ⟨w.heap.size + 2, 0, none⟩) 0 0, by rw [HV.out], by rw [HM.out]; exact st.mono (fun y hy => by omega), hB⟩
  go_wp2_with fail
  refine (Cf.scok _ _).mono ?_
  rintro e w2 ⟨rfl, hb⟩
  have bx := bx.below hb
  have bc := bc.below hb (by omega)
  have st := st.below hb
  have hB := hB.trans (hb.mono hB.size)
  have hszW : w.heap.size + 2 < w2.heap.size := by have := hb.size; omega
  clear hb d0 d1 d2 d3 d4 d5 d6
  cases hk : Cf.cok k
  · have HM : Hid (ktabs n c rs k = []) := ktabs_no (by rw [hk]; simp)
    have HV : Hid ((tok n c rs && Cf.cok k) = false) := by show _ = _; rw [ht, hk]; rfl
    go_wp2
    refine bodyPost_ret (v := .tuple #[.slice (some ⟨w.heap.size + 2, 0, none⟩) 0 0, .bool false]) (by simp [results, Tryz.results73, go_sem]) rfl ?_
    exact ⟨.slice (some ⟨w.heap.size + 2, 0, none⟩) 0 0, by rw [HV.out], by rw [HM.out]; exact st.mono (fun y hy => by omega), hB⟩
  have HM : Hid (ktabs n c rs k = tabsN (wcols c rs).length c rs k.prior) := ktabs_yes ht hk
  have HV : Hid ((tok n c rs && Cf.cok k) = true) := by show _ = _; rw [ht, hk]; rfl
  have HT : Hid (tok n c rs = true) := ht
  have HLA : Hid (labels n c rs = labs rs) := labels_yes ht
  have HWL : Hid (∀ j (hj : j < (wcols c rs).length), (wcols c rs)[j].length = rs.length) := fun j hj => wcols_len ht j hj
  have hw3 := wcols_le ht
  obtain ⟨⟨n0, n3⟩, ⟨c0, c2⟩, h40⟩ := tok_c ht
  have hlab : (labs rs).length ≤ 1048577 := by rw [labs_length]; omega
  clear ht hk
  obtain ⟨_, ⟨cx0, cx1, cx2⟩, _⟩ := id bx
  go_wp2_with fail
  refine (Wc.swc _ _ _ _ _ rs (hx.below hB) hl HT.out).mono ?_
  rintro e w4 ⟨vc, rfl, oc, hb⟩
  have bx := bx.below hb
  have bc := bc.below hb (by omega)
  have st := st.below hb
  have hB := hB.trans (hb.mono hB.size)
  have h24 := hb.size
  clear hb cx0 cx1 cx2
  obtain ⟨ac, cc, rfl, ic⟩ := oc.iscb
  clear oc
  go_wp2
  go_loopw [6, 8] (fun v i wr => ∃ q : Nat, q ≤ (wcols c rs).length ∧ i = .int .i64 q ∧ OwK wr (fun y => y = w.heap.size + 2 ∨ w4.heap.size ≤ y) v (tabsN q c rs k.prior) ∧ Fr (fun y => y = w.heap.size + 2 ∨ w4.heap.size ≤ y) w4 wr) (fun _ i _ => (wcols c rs).length - (intOf i).toNat)
  case atStart => exact ⟨0, Nat.zero_le _, rfl, st.mono (fun y hy => .inl hy), Fr.refl _ _⟩
  case round =>
    obtain ⟨q, hq, rfl, ok, hf⟩ := hrel
    have hs4 := hf.size
    have hBw : Below w.heap.size w wr := hB.trans (hf.bel (fun y hy => by omega) hB.size)
    by_cases hlt : q < (wcols c rs).length
    · rcases ic.same hf.size (fun y h1 h2 => hf.block y h2 (by omega)) with h0 | ⟨cb, co, rfl, ⟨hcl, hcb⟩, hcc⟩
      · rw [h0] at hlt; simp at hlt
      obtain ⟨a', c', dq, iq, _⟩ := hcc q hlt
      have hlq := HWL.out q hlt
      have HSN : Hid (tabsN (q + 1) c rs k.prior = tabsN q c rs k.prior ++ [tab (wcols c rs)[q] (labs rs) k.prior]) := tabsN_snoc q c rs k.prior hlt
      have hcq := tabsN_length q c rs k.prior hq
      obtain ⟨ws, hws⟩ : ∃ ws, (wcols c rs)[q] = ws := ⟨_, rfl⟩
      rw [hws] at dq iq hlq HSN
      have hlq40 : ws.length ≤ 40 := by omega
      obtain ⟨pre, hpre⟩ : ∃ pre, tabsN q c rs k.prior = pre := ⟨_, rfl⟩
      rw [hpre] at ok HSN hcq
      have hp3 : pre.length ≤ 3 := by omega
      have bxr := bx.keptAt hf.size (hf.block _ bx.1 (by omega))
      have bcr := bc.kept hf.size (hf.block _ bc.1 (by omega))
      obtain ⟨wo, rfl⟩ : ∃ wo, wo = wr := ⟨_, rfl⟩
      have okm := ok.bound
      clear hcc hws hpre hlq hcq ok
      go_wp2_with fail
      refine (Di.sdict _ _ _ ws iq (by omega)).mono ?_
      rintro e w5 ⟨vd, rfl, od, hb⟩
      have okm := okm.below hb
      have dq := (hb.cell (p := ⟨cb, co + q, none⟩) hcb).trans dq
      have iq := iq.below hb
      have bxr := bxr.below hb
      have bcr := bcr.below hb (by omega)
      have hBw := hBw.trans (hb.mono hBw.size)
      have hf := hf.trans (fr_below hb)
      have ho5 := hb.size
      have hcb5 : cb < w5.heap.size := by omega
      clear hb
      have hdl : (dictOf ws).length ≤ 40 := by have := dictOf_len ws; omega
      obtain ⟨t, ht⟩ : ∃ t, tab ws (labs rs) k.prior = t := ⟨_, rfl⟩
      have HTW : Hid (dictOf ws = t.ws) := by show _ = _; rw [← ht]; rfl
      have HTV : Hid (t.vs.length = t.ws.length ∧ ∀ j (hj : j < t.ws.length) (hj' : j < t.vs.length), t.vs[j] = Ct.oNum ws (labs rs) t.ws[j] k.prior) := by
        show _ ∧ _
        subst ht
        exact ⟨by simp [tab], fun j hj hj' => by simp [tab]⟩
      rw [ht] at HSN
      rw [HTW.out] at od hdl
      clear ht
      obtain ⟨ad, cd, rfl, idd⟩ := od.iss
      go_wp2
      obtain ⟨w6, hw6, hsz6, hb6, bv⟩ := new1 w5 [.slice ad t.ws.length cd, .slice none 0 0] 47
      rw [hw6]
      clear hw6
      obtain ⟨D, hD⟩ : ∃ D, w5.heap.size = D := ⟨_, rfl⟩
      have HD : Hid (w5.heap.size = D) := hD
      rw [hD] at bv hsz6 hcb5 ho5 ⊢
      have hb6 : Below D w5 w6 := by rw [← hD]; exact hb6
      clear hD
      go_loopw [10] (fun i wr => ∃ j : Nat, j ≤ t.ws.length ∧ i = .int .i64 j ∧ ∃ vv, Wr wr D 0 [.slice ad t.ws.length cd, vv] ∧ Li.Own wr (D + 1) vv (t.vs.take j) ∧ Below D w5 wr) (fun i _ => t.ws.length - (intOf i).toNat)
      case atStart => exact ⟨0, Nat.zero_le _, rfl, _, bv, by simpa using Li.Own.nil _ _, hb6⟩
      case round =>
        obtain ⟨j, hj', rfl, vv, bv, ov, hbD⟩ := hrel
        have hbo : Below w5.heap.size w5 wr := by rw [HD.out]; exact hbD
        obtain ⟨hDw, ⟨dv0, dv1⟩, fv0, fv1⟩ := wr2 bv
        by_cases hjl : j < t.ws.length
        · rcases idd.below hbo with h0 | ⟨db, dd, rfl, hdb, hdc⟩
          · rw [h0] at hjl; simp at hjl
          have dd0 := hdc j hjl
          have hjv : j < t.vs.length := by have := HTV.out.1; omega
          have hval := HTV.out.2 j hjl hjv
          have HTK : Hid (t.vs.take (j + 1) = t.vs.take j ++ [t.vs[j]]) := List.take_succ_eq_append_getElem hjv
          rw [hval] at HTK
          obtain ⟨s, hs⟩ : ∃ s, t.ws[j] = s := ⟨_, rfl⟩
          rw [hs] at dd0 HTK
          have htl : (t.vs.take j).length ≤ 40 := by simp; omega
          obtain ⟨tk, htk⟩ : ∃ tk, t.vs.take j = tk := ⟨_, rfl⟩
          rw [htk] at ov HTK htl
          have HBX : Hid (Box3 wr w.heap.size (.int .i64 n) (.int .i64 c) (.slice a rs.length cap)) := bxr.below hbo
          have HBC : Hid (Cf.Bx wr (w.heap.size + 1) k) := bcr.below hbo (by rw [HD.out]; omega)
          have hcbr : cb < wr.heap.size := by have := hbo.size; rw [HD.out] at this; omega
          have eq := (hbo.cell (p := ⟨cb, co + q, none⟩) (by show cb < _; rw [HD.out]; exact hcb5)).trans dq
          have HIQ : Hid (Ls.IsS wr a' ws) := iq.below hbo
          have HXR : Hid (IsR wr a rs) := hx.below (hBw.trans (hbo.mono hBw.size))
          have HBV : Hid (Wr wr D 0 [.slice (some ⟨db, dd, none⟩) t.ws.length cd, vv]) := bv
          have HOV : Hid (Li.Own wr (D + 1) vv tk) := ov
          have HBO : Hid (Below D w5 wr) := hbD
          have HBD : Hid (Below wr.heap.size wr wr.drew) := (Below.refl wr.heap.size wr).drew
          obtain ⟨_, ⟨x0, x1, x2⟩, _⟩ := id HBX.out
          obtain ⟨_, _, _, _, _, _, y5, _⟩ := id HBC.out
          have hwb : w.heap.size + 1 < wr.heap.size := by omega
          clear hdc hs htk hval bv ov hbD hbo
          go_wp2_with fail
          go_region_held3 (fun w' => w'.cell? ⟨w.heap.size, 0, none⟩ = some (.int .i64 n) ∧ w'.cell? ⟨w.heap.size, 1, none⟩ = some (.int .i64 c) ∧ w'.cell? ⟨w.heap.size, 2, none⟩ = some (.slice a rs.length cap) ∧ w'.cell? ⟨w.heap.size + 1, 5, none⟩ = some (.int .i64 k.prior) ∧ w'.cell? ⟨cb, co + q, none⟩ = some (.slice a' ws.length c') ∧ w'.cell? ⟨D, 0, none⟩ = some (.slice (some ⟨db, dd, none⟩) t.ws.length cd) ∧ w'.cell? ⟨db, dd + j, none⟩ = some (.string s)) (go_keep) (first
            | (go_at_call 75
               refine (slabels wr.drew _ _ _ _ rs (HXR.out.below HBD.out) hl).mono ?_
               rintro e w10 ⟨vl, rfl, ol, hb⟩
               have HY0 : Hid (Below wr.heap.size wr w10) := HBD.out.trans hb
               obtain ⟨_, ⟨lx0, lx1, lx2⟩, _⟩ := id (HBX.out.below HY0.out)
               obtain ⟨_, _, _, _, _, _, l5, _⟩ := HBC.out.below HY0.out hwb
               have lq := (HY0.out.cell (p := ⟨cb, co + q, none⟩) hcbr).trans eq
               have ld := (HY0.out.cell (p := ⟨db, dd + j, none⟩) hdb).trans dd0
               have lv := (HY0.out.cell (p := ⟨D, 0, none⟩) hDw).trans dv0
               rw [HLA.out] at ol
               obtain ⟨al, cl, el, il⟩ := ol.isl
               subst el
               have HIL : Hid (Li.IsL w10 al (labs rs)) := il
               clear hb ol il)
            | (go_at_call 97
               refine (Ct.sofB w10 _ _ _ _ ws (labs rs) s k.prior (HIQ.out.below HY0.out) HIL.out (by omega) hlab).mono ?_
               rintro e w11 ⟨rfl, hb⟩
               have HY1 : Hid (Below wr.heap.size wr w11) := HY0.out.trans (hb.mono HY0.out.size)
               obtain ⟨_, ⟨px0, px1, px2⟩, _⟩ := id (HBX.out.below HY1.out)
               obtain ⟨_, _, _, _, _, _, p5, _⟩ := HBC.out.below HY1.out hwb
               have pq := (HY1.out.cell (p := ⟨cb, co + q, none⟩) hcbr).trans eq
               have pd := (HY1.out.cell (p := ⟨db, dd + j, none⟩) hdb).trans dd0
               have pv := (HY1.out.cell (p := ⟨D, 0, none⟩) hDw).trans dv0
               clear hb))
          have bv := HBV.out.below HY1.out
          have ov := HOV.out.below HY1.out
          have hbD : Below D w5 w11 := HBO.out.trans (HY1.out.mono (by omega))
          obtain ⟨z, hz⟩ : ∃ z, Ct.oNum ws (labs rs) s k.prior = z := ⟨_, rfl⟩
          rw [hz] at HTK ⊢
          clear HY0 HY1 HBX HBC HIQ HXR HBV HOV HBO HBD HIL hz x0 x1 x2 y5 eq dd0 dv0 dv1 fv0 fv1 hDw
          try clear lx0 lx1 lx2 l5 lq ld lv
          try clear px0 px1 px2 p5 pq pd pv
          obtain ⟨hDw, ⟨dv0, dv1⟩, fv0, fv1⟩ := wr2 bv
          have HBA : Hid (Below w11.heap.size w11 (w11.alloc (.cells #[.int .i64 z] 3))) := (Below.refl _ _).alloc (Nat.le_refl _) _
          have HBV2 : Hid (Wr w11 D 0 [.slice (some ⟨db, dd, none⟩) t.ws.length cd, vv]) := bv
          go_wp2_with (at_builtin
                       refine wpList_append_own_at _ rfl _ _ 45 rfl (D + 1) 3 j0 (.int .i64 0) 1 8 Tryz.underlying45 hj jz0 jz1 jz2 rfl (by decide) _ _ _ rfl (World.ownsRow.alloc ov _) ⟨w11.heap.size, 0, none⟩ 1 1 [.int .i64 z] rfl rfl (one_cell _ _ _) (one_one _) (by unfold maxLen; omega) (by omega) (by simp; omega) ?_
                       intro v3 w12 hown3 hgrow3 hnn3 hloc3
                       have ov3 := own_snoc rfl hown3
                       obtain ⟨a3, c3, e3, _⟩ := ov3.isl
                       replace e3 : v3 = .slice a3 (tk.length + 1) c3 := by rw [e3]; simp
                       subst e3
                       have hge : ∀ y, vv.ownBlock = some y → D + 1 ≤ y := fun y e => (ov.ge y e).1
                       have hsz12 := hgrow3.size
                       have bv12 : Wr w12 D 0 [.slice (some ⟨db, dd, none⟩) t.ws.length cd, vv] := (HBV2.out.below HBA.out).keptAt hgrow3.size (hgrow3.block D (by simp; omega) (fun e => by have := hge D e.symm; omega))
                       obtain ⟨hDw2, ⟨ev0, ev1⟩, gv0, gv1⟩ := wr2 bv12
                       have hb12 : Below D w5 w12 := hbD.trans ((HBA.out.mono (by omega)).trans ⟨hgrow3.os, hgrow3.tape, hgrow3.output, hgrow3.size, fun y hy => hgrow3.block y (by simp; omega) (fun e => by have := hge y e.symm; omega)⟩)
                       have HW3 : Hid (Wr (w12.setCell ⟨D, 1, none⟩ (.slice a3 (tk.length + 1) c3)) D 0 [.slice (some ⟨db, dd, none⟩) t.ws.length cd, .slice a3 (tk.length + 1) c3]) := bv12.set 1 (by simp) _
                       have HO3 : Hid (Li.Own (w12.setCell ⟨D, 1, none⟩ (.slice a3 (tk.length + 1) c3)) (D + 1) (.slice a3 (tk.length + 1) c3) (t.vs.take (j + 1))) := by
                         rw [HTK.out]
                         exact ov3.kept (Li.grown_set w12 D 1 _) (by
                           cases e : (Value.slice a3 (tk.length + 1) c3).ownBlock with
                           | none => exact .inl rfl
                           | some y => exact .inr (fun e' => by have := (ov3.ge y e).1; injection e' with e'; omega))
                       have HB3 : Hid (Below D w5 (w12.setCell ⟨D, 1, none⟩ (.slice a3 (tk.length + 1) c3))) := hb12.setCell (p := ⟨D, 1, none⟩) (Nat.le_refl _) _
                       clear hown3 hgrow3 hnn3 hloc3 ov3 hge bv12 hb12 hsz12)
          go_roundw
          case rel => exact ⟨j + 1, by omega, by go_num, _, HW3.out, HO3.out, HB3.out⟩
          case measure => simp [intOf]; omega
        · obtain rfl : j = t.ws.length := by omega
          have hvl : t.vs.length = t.ws.length := HTV.out.1
          rw [List.take_of_length_le (by omega)] at ov
          clear hvl
          obtain ⟨av, cv, ev, _⟩ := ov.isl
          subst ev
          have od2 := od.below hbo
          have okm2 := okm.below hbo
          obtain ⟨vs, ho, hvl2, he, hv, hbb, hs⟩ := okm2
          have HBA : Hid (Below wr.heap.size wr (wr.alloc (.cells #[.slice ad t.ws.length cd, .slice av t.vs.length cv] 47))) := (Below.refl _ _).alloc (Nat.le_refl _) _
          have ho' : (wr.alloc (.cells #[.slice ad t.ws.length cd, .slice av t.vs.length cv] 47)).ownsRow 0 47 2 u6 pre.length vs := ownsRow_at ho (fun y e => HBA.out.block y (World.ownsRow.lt ho y e).2)
          have HV2 : Hid (∀ y, u6.ownBlock = some y → (y = w.heap.size + 2 ∨ w4.heap.size ≤ y) ∧ y < wo.heap.size) := hv
          have hwr5 : D ≤ wr.heap.size := by omega
          have hdD : ∀ y, (Value.slice ad t.ws.length cd).ownBlock = some y → y < D := fun y e => by have := (od.ge y e).2; rw [HD.out] at this; exact this
          have HPP : Hid (∀ v3 w7, w7.ownsRow 0 47 2 v3 (pre.length + 1) (vs ++ [.slice ad t.ws.length cd, .slice av t.vs.length cv]) → (wr.alloc (.cells #[.slice ad t.ws.length cd, .slice av t.vs.length cv] 47)).grownBy w7 u6.ownBlock → (v3.ownBlock = u6.ownBlock ∨ v3.ownBlock = some (wr.alloc (.cells #[.slice ad t.ws.length cd, .slice av t.vs.length cv] 47)).heap.size) → OwK w7 (fun y => y = w.heap.size + 2 ∨ w4.heap.size ≤ y) v3 (pre ++ [t])) := fun v3 w7 h1 h2 h3 => by
            refine owk_snoc (B := fun y => y = w.heap.size + 2 ∨ w4.heap.size ≤ y) (m := wo.heap.size) hvl2 (fun i hi => ?_) hv hbb hs (od2.below HBA.out) ((ov.below HBA.out).mono (by omega)) (fun y e e' => by have := hdD y e; have := (ov.ge y e').1; omega) (fun y hy => by omega) (by simp; omega) h1 h2 h3
            obtain ⟨q0, q1⟩ := he i hi
            exact ⟨q0.below HBA.out, q1.below HBA.out⟩
          have HF : Hid (Fr (fun y => y = w.heap.size + 2 ∨ w4.heap.size ≤ y) w4 wr) := hf.trans (fr_below hbo)
          clear ho he hv hbb hs hvl2 od2 hjl hbo
          go_wp2_with (at_builtin; refine wpList_append_own_at _ rfl _ _ 26 rfl 0 47 i0 (.agg #[.slice none 0 0, .slice none 0 0]) 2 48 Tryz.underlying26 hi hz0 hz1 hz2 rfl (by decide) _ _ _ rfl ho' ⟨wr.heap.size, 0, none⟩ 1 1 [.slice ad t.ws.length cd, .slice av t.vs.length cv] rfl rfl (two_cell _ _ _ _) two_one (by unfold maxLen; omega) (by omega) (by omega) ?_; intro v3 w7 hown3 hgrow3 hnn3 hloc3)
          have ok7 := HPP.out v3 w7 hown3 hgrow3 hloc3
          rw [← HSN.out] at ok7
          have hf7 : Fr (fun y => y = w.heap.size + 2 ∨ w4.heap.size ≤ y) w4 w7 := (HF.out.trans (fr_below HBA.out)).trans ⟨hgrow3.os, hgrow3.tape, hgrow3.output, hgrow3.size, fun y hy hn => hgrow3.block y hy (fun e => hn (HV2.out y e.symm).1)⟩
          clear hown3 hgrow3 hnn3 hloc3 HPP HBA ho' HV2
          go_wp2
          go_roundw
          case rel => exact ⟨q + 1, by omega, by go_num, ok7, hf7⟩
          case measure => simp [intOf]; omega
    · obtain rfl : q = (wcols c rs).length := by omega
      rw [← HM.out] at ok
      have okb := ok.bound
      clear hlt ok
      go_wp2
      refine bodyPost_ret (v := .tuple #[u6, .bool true]) (by simp [results, Tryz.results73, go_sem]) rfl ?_
      exact ⟨u6, by rw [HV.out], okb.mono (fun y hy => by omega), hBw⟩
end Go.Proofs.YtaojoamldoofpaaGreatDoor.Kt
/-
  Models, further: the marks that the laws write, and whether they are held.
-/
namespace Go.Proofs.YtaojoamldoofpaaGreatDoor.Md
set_option maxRecDepth 20000
open Go.RowKit
open Go.Proofs.YtaojoamldoofpaaGreatDoor.Tm (IsT szT)
open Go.Proofs.YtaojoamldoofpaaGreatDoor.Kt (Kv IsK OwK ksz)
open Go.Proofs.YtaojoamldoofpaaGreatDoor.To (OwT)
open Go.Proofs.YtaojoamldoofpaaGreatDoor.Sv (Fr fr_below fr_grown new1 Wr)
set_option linter.unusedVariables false
end Go.Proofs.YtaojoamldoofpaaGreatDoor.Md
/-
  Small readings for the laws over models: a list of the call's own under a frame; a variable of three cells; marks of a row.
-/
namespace Go.Proofs.YtaojoamldoofpaaGreatDoor.Md
set_option maxRecDepth 20000
open Go.RowKit
open Go.Proofs.YtaojoamldoofpaaGreatDoor.Tb (ownsRow_at Row RowIs)
open Go.Proofs.YtaojoamldoofpaaGreatDoor.Sv (Fr fr_below fr_grown new1 Wr)
set_option linter.unusedVariables false
theorem wr3 {w : World} {b : Nat} {v0 v1 v2 : Value} (h : Wr w b 0 [v0, v1, v2]) : b < w.heap.size ∧ (w.cell? ⟨b, 0, none⟩ = some v0 ∧ w.cell? ⟨b, 1, none⟩ = some v1 ∧ w.cell? ⟨b, 2, none⟩ = some v2) ∧ w.frozen? ⟨b, 0, none⟩ = false ∧ w.frozen? ⟨b, 1, none⟩ = false ∧ w.frozen? ⟨b, 2, none⟩ = false :=
  ⟨h.1, ⟨(h.2 0 (by simp)).1, (h.2 1 (by simp)).1, (h.2 2 (by simp)).1⟩, (h.2 0 (by simp)).2, (h.2 1 (by simp)).2, (h.2 2 (by simp)).2⟩
end Go.Proofs.YtaojoamldoofpaaGreatDoor.Md
