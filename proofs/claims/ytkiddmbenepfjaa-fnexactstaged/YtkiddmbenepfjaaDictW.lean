/-
  Dictionaries: contracts of DictOf, of the program (by a map from words to where they came first) and of its model, over one plain function.
-/
import Derived.Test.YtkiddmbenepfjaaDict
import Derived.Test.YtkiddmbenepfjaaShelf
import Derived.Maps.OwnSet
namespace Go.Proofs.Ytkiddmbenepfjaa.Di
set_option maxRecDepth 20000
open Go.RowKit Go.Maps
open Go.WideMaps (keyOf_string_mk)
open Go.Proofs.Ytkiddmbenepfjaa.Wd
open Go.Proofs.Ytkiddmbenepfjaa.Li (ret_int below_none)

theorem lawS : Keyed Try.prog 9 := string_keyed Try.underlying9
def ks (s : ByteArray) : Lit := .string s.data.toList
theorem ks_inj {s t : ByteArray} (h : ks s = ks t) : s = t := by
  unfold ks at h
  exact ba_ext (by simpa using h)
theorem ks_key (s : ByteArray) : WideAt.IsKeyLit (ks s) := by unfold ks; trivial
def nD (i : Int) : DataW Unit := .lit (.int .i64 i)
/-- Block b is a map of at most n entries that has the words of l, each with where it came first. -/
def PM (w : World) (b n : Nat) (l : List ByteArray) : Prop :=
  ∃ D : DataW Unit, w.ownsMap Try.prog 9 (plainElem Try.prog 3) b n D ∧ ∀ s : ByteArray, D.atKey (ks s) (nD 0) = nD (valL l s) ∧ has D (ks s) = hasL l s
theorem PM.kept {w w' : World} {b n : Nat} {l : List ByteArray} {row : Option Nat} (h : PM w b n l) (hg : w.grownBy w' row) (hne : some b ≠ row) : PM w' b n l := by
  obtain ⟨D, ho, hf⟩ := h
  exact ⟨D, ho.kept hg hne, hf⟩
theorem PM.below {w w' : World} {b n : Nat} {l : List ByteArray} (h : PM w b n l) (hB : Below w.heap.size w w') : PM w' b n l :=
  h.kept (row := none) ⟨hB.os, hB.tape, hB.output, hB.size, fun k hk _ => hB.block k hk⟩ (by simp)
theorem PM.lt {w : World} {b n : Nat} {l : List ByteArray} (h : PM w b n l) : b < w.heap.size := by obtain ⟨D, ho, _⟩ := h; exact ho.lt
theorem PM.same {w : World} {b n : Nat} {l m : List ByteArray} (h : PM w b n l) (e : ∀ s, hasL m s = hasL l s ∧ valL m s = valL l s) : PM w b n m := by
  obtain ⟨D, ho, hf⟩ := h
  exact ⟨D, ho, fun s => by rw [(e s).1, (e s).2]; exact hf s⟩
theorem PM.mono {w : World} {b n n' : Nat} {l : List ByteArray} (h : PM w b n l) (hn : n ≤ n') : PM w b n' l := by
  obtain ⟨D, ho, hf⟩ := h
  exact ⟨D, ho.mono hn, hf⟩
theorem pm_made (w : World) : PM (w.alloc (.map #[] 0)) w.heap.size 0 [] :=
  ⟨.map [], World.ownsMap_made _ _ _ _, fun _ => ⟨rfl, rfl⟩⟩
theorem zeroI (w : World) : (zeroValue 3).run Try.prog w = .ok (.int .i64 0) w := by kernel_rfl
section
variable (w : World) {ops : Array Oper} {rest : List Oper} {o : Oper} {a : Act} {Q : Exit → Act → World → Prop}
/-- A look-up, with and without 'ok'. -/
theorem at_pm (hg : o.guard = none) (m x : Operand) (hop : o.op = Op.lookup 131 m x false) (b n : Nat) (l : List ByteArray) (hm : a.eval m = .map (some b)) (h : PM w b n l) (s : ByteArray) (hx : a.eval x = .string s) (hs : s.size ≤ maxLen)
    (hK : wpList Try.prog ops Q rest (a.put o.dst (.int .i64 (valL l s))) w) : wpList Try.prog ops Q (o :: rest) a w := by
  obtain ⟨D, ho, hf⟩ := h
  refine wpList_lookup_own_int w hg m x 131 hop 9 3 .i64 lawS Try.underlying131 Try.underlying3 (zeroI w) b n D hm ho _ (ks s) hx (keyOf_string_mk Try.underlying9 hs) ?_
  intro c hat _
  have e : nD (valL l s) = nD c := (hf s).1.symm.trans hat
  have e : valL l s = c := by unfold nD at e; simpa using e
  rw [← e]; exact hK
theorem ok_pm (hg : o.guard = none) (m x : Operand) (hop : o.op = Op.lookup 131 m x true) (b n : Nat) (l : List ByteArray) (hm : a.eval m = .map (some b)) (h : PM w b n l) (s : ByteArray) (hx : a.eval x = .string s) (hs : s.size ≤ maxLen)
    (hK : wpList Try.prog ops Q rest (a.put o.dst (.tuple #[.int .i64 (valL l s), .bool (hasL l s)])) w) : wpList Try.prog ops Q (o :: rest) a w := by
  obtain ⟨D, ho, hf⟩ := h
  refine wpList_lookup_own_ok_int w hg m x 131 hop 9 3 .i64 lawS Try.underlying131 Try.underlying3 (zeroI w) b n D hm ho _ (ks s) hx (keyOf_string_mk Try.underlying9 hs) ?_
  intro c hat _
  have e : nD (valL l s) = nD c := (hf s).1.symm.trans hat
  have e : valL l s = c := by unfold nD at e; simpa using e
  rw [← e, (hf s).2]; exact hK
/-- A store of a word that is not yet there. -/
theorem set_pm (hg : o.guard = none) (m x v : Operand) (hop : o.op = Op.mapUpdate 131 m x v) (b n : Nat) (l : List ByteArray) (hm : a.eval m = .map (some b)) (h : PM w b n l) (hn : n ≤ 10000000) (s : ByteArray) (hx : a.eval x = .string s) (hs : s.size ≤ maxLen) (hnew : ¬ s ∈ l) (hll : l.length ≤ 10000000) (hv : a.eval v = .int .i64 (l.length : Int))
    (hK : ∀ w', PM w' b (n + 1) (l ++ [s]) → w.grownBy w' (some b) → wpList Try.prog ops Q rest (a.put o.dst undef) w') : wpList Try.prog ops Q (o :: rest) a w := by
  obtain ⟨D, ho, hf⟩ := h
  refine wpList_mapUpdate_own w hg m x v 131 hop 9 3 lawS Try.underlying131 _ b n D hm ho (by unfold maxLen; omega) _ _ (ks s) hx hv (keyOf_string_mk Try.underlying9 hs) _ [] (plainElem_int Try.underlying3 (WalkArith.wf_i64 (by omega))) ?_
  intro w' ho' hg'
  refine hK w' ⟨_, ho', fun t => ?_⟩ hg'
  rw [(snoc_new hnew t).1, (snoc_new hnew t).2]
  by_cases ht : t = s
  · subst ht
    rw [if_pos rfl, if_pos rfl, atKey_put_same ho.isMap (ks_key _), has_put_same ho.isMap (ks_key _)]
    exact ⟨rfl, rfl⟩
  · rw [if_neg ht, if_neg ht, atKey_put_other (fun h => ht (ks_inj h)), has_put_other (fun h => ht (ks_inj h))]
    exact hf t
/-- How many there are. -/
theorem len_pm (hg : o.guard = none) (m : Operand) (hop : o.op = Op.call { callee := Callee.builtin Builtin.len, args := #[m], argTypes := #[131] }) (b n : Nat) (l : List ByteArray) (hm : a.eval m = .map (some b)) (h : PM w b n l)
    (hK : ∀ q : Nat, q ≤ n → wpList Try.prog ops Q rest (a.put o.dst (.int .i64 (q : Int))) w) : wpList Try.prog ops Q (o :: rest) a w := by
  obtain ⟨D, ho, hf⟩ := h
  exact wpList_len_own w hg m 131 hop 9 3 Try.underlying131 _ b n D hm ho (hK _ ho.size_le)
end
set_option maxHeartbeats 2000000 in
theorem places (w : World) (a : Option Addr) (cap : Nat) (ws : List ByteArray) (hx : Ls.IsS w a ws) (hl : ws.length ≤ 1048576) (hz : ∀ j (h : j < ws.length), ws[j].size ≤ 1048576) :
    Calls Try.prog 102 #[.slice a ws.length cap] w fun e w' => e = .returned (.map (some w.heap.size)) ∧ PM w' w.heap.size ws.length ws ∧ Below w.heap.size w w' := by
  have hmm := @run_makeMap Try.prog
  go_enter Try.func102, Try.ntmps102
  go_wp2
  go_loopw [11] (fun i wr => ∃ k : Nat, k ≤ ws.length ∧ i = .int .i64 k ∧ PM wr w.heap.size k (ws.take k) ∧ Below w.heap.size w wr) (fun i _ => ws.length - (intOf i).toNat)
  case atStart => exact ⟨0, Nat.zero_le _, rfl, by simpa using pm_made w, (Below.refl _ _).alloc (Nat.le_refl _) _⟩
  case round =>
    obtain ⟨k, hk, rfl, hm, hB⟩ := hrel
    by_cases hlt : k < ws.length
    · rcases hx.below hB with rfl | ⟨b, off, rfl, hb, hc⟩
      · simp at hlt
      have hcx := hc k hlt
      have hs : ws[k].size ≤ maxLen := by have := hz k hlt; unfold maxLen; omega
      have HT : Hid (ws.take (k + 1) = ws.take k ++ [ws[k]]) := List.take_succ_eq_append_getElem hlt
      have HTL : Hid ((ws.take k).length = k) := by show _ = _; simp; omega
      clear hc hz
      by_cases hin : ws[k] ∈ ws.take k
      · have hh : hasL (ws.take k) ws[k] = true := hasL_iff.2 hin
        have HM : Hid (PM wr w.heap.size (k + 1) (ws.take (k + 1))) := (hm.mono (Nat.le_succ _)).same (fun s => by rw [HT.out]; exact snoc_old hin s)
        obtain ⟨x, ex⟩ : ∃ x, ws[k] = x := ⟨_, rfl⟩
        rw [ex] at hcx hs hh
        clear ex hin
        go_wp2_with (at_lookup; refine ok_pm _ rfl _ _ rfl _ _ _ rfl hm _ rfl hs ?_; rw [hh])
        go_roundw
        case rel => exact ⟨k + 1, by omega, by go_num, HM.out, hB⟩
        case measure => simp [intOf]; omega
      · have hh : hasL (ws.take k) ws[k] = false := hasL_no hin
        obtain ⟨x, ex⟩ : ∃ x, ws[k] = x := ⟨_, rfl⟩
        rw [ex] at hcx hs hh hin HT
        clear ex
        go_wp2_with (first
          | (at_lookup; refine ok_pm _ rfl _ _ rfl _ _ _ rfl hm _ rfl hs ?_; rw [hh])
          | (at_mapUpdate; refine set_pm _ rfl _ _ _ rfl _ _ _ rfl hm (by omega) _ rfl hs hin (by rw [HTL.out]; omega) (by rw [HTL.out]; rfl) ?_; intro w1 h1 g1))
        go_roundw
        case rel => exact ⟨k + 1, by omega, by go_num, by rw [HT.out]; exact h1, Ap.below_app hB hB.size g1 (fun k hk => by cases hk; exact Nat.le_refl _)⟩
        case measure => simp [intOf]; omega
    · obtain rfl : k = ws.length := by omega
      have ht : ws.take ws.length = ws := List.take_length
      rw [ht] at hm
      clear ht
      go_wp2
      go_ret
      exact ⟨rfl, hm, hB⟩
set_option maxHeartbeats 400000 in
theorem clone (w : World) (s : ByteArray) (hs : s.size ≤ 281474976710656) :
    Calls Try.prog 101 #[.string s] w fun e w' => e = .returned (.string s) ∧ Below w.heap.size w w' := by
  go_enter Try.func101, Try.ntmps101
  go_wp2_with (go_at_call 107; refine (Try.stringslite_Clone _ _ hs).mono ?_; rintro e w1 ⟨rfl, hB⟩)
  go_ret
  exact ⟨rfl, hB⟩
set_option maxHeartbeats 4000000 in
theorem idict (w : World) (a : Option Addr) (cap : Nat) (ws : List ByteArray) (hx : Ls.IsS w a ws) (hl : ws.length ≤ 1048576) (hz : ∀ j (h : j < ws.length), ws[j].size ≤ 1048576) :
    Calls Try.prog 90 #[.slice a ws.length cap] w fun e w' => ∃ v, e = .returned v ∧ Ls.Own w' w.heap.size v (dictOf ws) ∧ Below w.heap.size w w' := by
  obtain ⟨i0, hi, hz0, hz1, hz2⟩ := info_parts Ls.info_str
  go_enter Try.func90, Try.ntmps90
  go_wp2_with fail
  refine (places _ _ _ ws hx hl hz).mono ?_
  rintro e w1 ⟨rfl, hm, hB⟩
  have hml := hm.lt
  obtain ⟨bm, hbm⟩ : ∃ bm, w.heap.size = bm := ⟨_, rfl⟩
  rw [hbm] at hm hml hB ⊢
  have HBM : Hid (w.heap.size = bm) := hbm
  clear hbm
  go_wp2_with (first
    | (at_len; refine len_pm _ rfl _ rfl _ _ _ rfl hm ?_; intro q hq)
    | (at_make; refine wpList_make_own _ rfl _ _ 39 rfl w1.heap.size 9 i0 (.string ⟨#[]⟩) 1 Try.underlying39 hi hz0 hz1 _ _ _ q rfl rfl rfl (by rw [hz2]; omega) (by unfold maxLen; omega) (Nat.le_refl _) ?_; intro w2 hown hgrow))
  have ho2 : Ls.Own w2 w1.heap.size (.slice (some ⟨w1.heap.size, 0, none⟩) 0 q) [] := hown
  have hB2 := below_none hgrow
  have hm2 := hm.below hB2
  have hs2 := hB2.size
  have hB := hB.trans (hB2.mono (by omega))
  clear hown hgrow hB2 hm
  go_loopw [4, 14] (fun v i wr => ∃ k : Nat, k ≤ ws.length ∧ i = .int .i64 k ∧ Ls.Own wr w1.heap.size v (dictOf (ws.take k)) ∧ PM wr bm ws.length ws ∧ Below bm w wr ∧ w1.heap.size ≤ wr.heap.size) (fun _ i _ => ws.length - (intOf i).toNat)
  case atStart => exact ⟨0, Nat.zero_le _, rfl, by simpa [dictOf, dict] using ho2, hm2, hB, hs2⟩
  case round =>
    obtain ⟨k, hk, rfl, hown, hm, hBr, hsr⟩ := hrel
    clear ho2 hm2
    have hBw : Below w.heap.size w wr := by rw [HBM.out]; exact hBr
    by_cases hlt : k < ws.length
    · rcases hx.below hBw with rfl | ⟨b, off, rfl, hb, hc⟩
      · simp at hlt
      have hcx := hc k hlt
      have hs0 := hz k hlt
      have hs : ws[k].size ≤ maxLen := by unfold maxLen; omega
      have hval := valL_at hlt
      have hdl := dictOf_len (ws.take k)
      have hdl2 : (ws.take k).length ≤ k := by simp; omega
      have hblt : b < w.heap.size := by
        rcases hx with h | ⟨b', o', h, hb', _⟩
        · subst h; simp at hlt
        · cases h; exact hb'
      clear hc hz
      by_cases hin : ws[k] ∈ ws.take k
      · have hne : ¬ fst ws[k] ws = k := fun e => (fst_first hlt).1 e hin
        have HD : Hid (dictOf (ws.take (k + 1)) = dictOf (ws.take k)) := dictOf_old hlt hin
        have hcmp : ((fst ws[k] ws : Int) == (k : Int)) = false := by simp; omega
        obtain ⟨x, ex⟩ : ∃ x, ws[k] = x := ⟨_, rfl⟩
        rw [ex] at hcx hs hval hcmp
        obtain ⟨d, hd⟩ : ∃ d, dictOf (ws.take k) = d := ⟨_, rfl⟩
        rw [hd] at hown HD hdl
        clear ex hin hne hd
        go_wp2_with (at_lookup; refine at_pm _ rfl _ _ rfl _ _ _ rfl hm _ rfl hs ?_; rw [hval])
        go_roundw
        case rel => exact ⟨k + 1, by omega, by go_num, by rw [HD.out]; exact hown, hm, hBr, hsr⟩
        case measure => simp [intOf]; omega
      · have hne := (fst_first hlt).2 hin
        have HD : Hid (dictOf (ws.take (k + 1)) = dictOf (ws.take k) ++ [ws[k]]) := dictOf_new hlt hin
        have hcmp : ((fst ws[k] ws : Int) == (k : Int)) = true := by simp; omega
        obtain ⟨x, ex⟩ : ∃ x, ws[k] = x := ⟨_, rfl⟩
        rw [ex] at hcx hs hs0 hval hcmp HD
        obtain ⟨d, hd⟩ : ∃ d, dictOf (ws.take k) = d := ⟨_, rfl⟩
        rw [hd] at hown HD hdl
        clear ex hin hne hd
        go_wp2_with (first
          | (at_lookup; refine at_pm _ rfl _ _ rfl _ _ _ rfl hm _ rfl hs ?_; rw [hval])
          | (go_at_call 101; refine (clone _ _ (by omega)).mono ?_; rintro e w3 ⟨rfl, hB3⟩
             have hown3 := hown.below hB3
             have hm3 := hm.below hB3
             have hBr3 : Below bm w w3 := hBr.trans (hB3.mono (by have := hm.lt; omega))
             have hs3 : w1.heap.size ≤ w3.heap.size := by have := hB3.size; omega
             clear hB3)
          | (at_builtin; refine wpList_append_own _ rfl _ _ 39 rfl w1.heap.size 9 i0 (.string ⟨#[]⟩) 1 16 Try.underlying39 hi hz0 hz1 hz2 rfl (by decide) _ _ _ rfl (World.ownsRow.alloc hown3 _) ⟨w3.heap.size, 0, none⟩ 1 1 [.string x] rfl rfl (Ap.one_cell _ _ _ rfl) (Ap.one_one _ rfl) (by unfold maxLen; omega) (by omega) (by simp; omega) ?_; intro v5 w5 hown5 hgrow hnn))
        have ho5 := Ap.sown_snoc rfl hown5
        have hge : ∀ j, (u4 : Value).ownBlock = some j → w1.heap.size ≤ j := fun j hj => (hown3.ge j hj).1
        have hB5 : Below bm w w5 := Ap.below_app (hBr3.alloc (by have := hm3.lt; omega) _) (by have := hm3.lt; simp; omega) hgrow (fun j hj => by have := hge j hj; omega)
        have hm5 : PM w5 bm ws.length ws := (hm3.below ((Below.refl _ _).alloc (Nat.le_refl _) _)).kept hgrow (fun e => by have := hge bm e.symm; omega)
        have hs5 : w1.heap.size ≤ w5.heap.size := by have := hgrow.size; simp at this; omega
        clear hown5 hgrow hnn hge hown3 hm3 hBr3
        go_wp2
        go_roundw
        case rel => exact ⟨k + 1, by omega, by go_num, by rw [HD.out]; exact ho5, hm5, hB5, hs5⟩
        case measure => simp [intOf]; omega
    · obtain rfl : k = ws.length := by omega
      have HT : Hid (ws.take ws.length = ws) := List.take_length
      have HO : Hid (Ls.Own wr w.heap.size u4 (dictOf ws)) := by
        have h := hown
        rw [HT.out] at h
        exact h.mono (by have := HBM.out; omega)
      clear hown
      go_wp2
      go_ret
      exact ⟨_, rfl, HO.out, hBw⟩
set_option maxHeartbeats 4000000 in
theorem sdict (w : World) (a : Option Addr) (cap : Nat) (ws : List ByteArray) (hx : Ls.IsS w a ws) (hl : ws.length ≤ 1048576) :
    Calls Try.prog 36 #[.slice a ws.length cap] w fun e w' => ∃ v, e = .returned v ∧ Ls.Own w' w.heap.size v (dictOf ws) ∧ Below w.heap.size w w' := by
  obtain ⟨i0, hi, hz0, hz1, hz2⟩ := info_parts Ls.info_str
  have ho := Ap.sown_empty w w.heap.size (Nat.le_refl _)
  have hB1 : Below w.heap.size w (w.alloc (.cells #[] 9)) := (Below.refl _ _).alloc (Nat.le_refl _) _
  go_enter Try.func36, Try.ntmps36
  go_wp2
  go_loopw [3, 4] (fun v i wr => ∃ k : Nat, k ≤ ws.length ∧ i = .int .i64 k ∧ Ls.Own wr w.heap.size v (dictOf (ws.take k)) ∧ Below w.heap.size w wr) (fun _ i _ => ws.length - (intOf i).toNat)
  case atStart => exact ⟨0, Nat.zero_le _, rfl, by simpa [dictOf, dict] using ho, hB1⟩
  case round =>
    obtain ⟨k, hk, rfl, hown, hB⟩ := hrel
    clear ho hB1
    by_cases hlt : k < ws.length
    · rcases hx.below hB with rfl | ⟨b, off, rfl, hb, hc⟩
      · simp at hlt
      have hcx := hc k hlt
      have hdl := dictOf_len (ws.take k)
      have hdl2 : (ws.take k).length ≤ k := by simp; omega
      have hBs := hB.size
      clear hc
      by_cases hin : ws[k] ∈ ws.take k
      · have HD : Hid (dictOf (ws.take (k + 1)) = dictOf (ws.take k)) := dictOf_old hlt hin
        have hid : ¬ idOf (dictOf (ws.take k)) ws[k] < 0 := fun h => idOf_neg.1 h (dictOf_mem.2 hin)
        obtain ⟨x, ex⟩ : ∃ x, ws[k] = x := ⟨_, rfl⟩
        rw [ex] at hcx hid
        obtain ⟨d, hd⟩ : ∃ d, dictOf (ws.take k) = d := ⟨_, rfl⟩
        rw [hd] at hown HD hdl hid
        clear ex hin hd
        obtain ⟨va, vc, ev, hs⟩ := hown.iss
        subst ev
        go_wp2_with (go_at_call 51; refine (sid0 _ _ _ d x hs (by omega)).mono ?_; rintro e w' ⟨rfl, hw⟩; subst w')
        go_roundw
        case rel => exact ⟨k + 1, by omega, by go_num, by rw [HD.out]; exact hown, hB⟩
        case measure => simp [intOf]; omega
      · have HD : Hid (dictOf (ws.take (k + 1)) = dictOf (ws.take k) ++ [ws[k]]) := dictOf_new hlt hin
        have hid : idOf (dictOf (ws.take k)) ws[k] < 0 := idOf_neg.2 (fun h => hin (dictOf_mem.1 h))
        obtain ⟨x, ex⟩ : ∃ x, ws[k] = x := ⟨_, rfl⟩
        rw [ex] at hcx hid HD
        obtain ⟨d, hd⟩ : ∃ d, dictOf (ws.take k) = d := ⟨_, rfl⟩
        rw [hd] at hown HD hdl hid
        clear ex hin hd
        obtain ⟨va, vc, ev, hs⟩ := hown.iss
        subst ev
        go_wp2_with (first
          | (go_at_call 51; refine (sid0 _ _ _ d x hs (by omega)).mono ?_; rintro e w' ⟨rfl, hw⟩; subst w')
          | (at_builtin; refine wpList_append_own _ rfl _ _ 39 rfl w.heap.size 9 i0 (.string ⟨#[]⟩) 1 16 Try.underlying39 hi hz0 hz1 hz2 rfl (by decide) _ _ _ rfl (World.ownsRow.alloc hown _) ⟨wr.heap.size, 0, none⟩ 1 1 [.string x] rfl rfl (Ap.one_cell _ _ _ rfl) (Ap.one_one _ rfl) (by unfold maxLen; omega) (by omega) (by simp; omega) ?_; intro v5 w5 hown5 hgrow hnn))
        have ho5 := Ap.sown_snoc rfl hown5
        have hge : ∀ j, (Value.slice va d.length vc).ownBlock = some j → w.heap.size ≤ j := fun j hj => (hown.ge j hj).1
        have hB5 : Below w.heap.size w w5 := Ap.below_app (hB.alloc hBs _) (by simp; omega) hgrow hge
        clear hown5 hgrow hnn hge
        go_wp2
        go_roundw
        case rel => exact ⟨k + 1, by omega, by go_num, by rw [HD.out]; exact ho5, hB5⟩
        case measure => simp [intOf]; omega
    · obtain rfl : k = ws.length := by omega
      have HT : Hid (ws.take ws.length = ws) := List.take_length
      have HO : Hid (Ls.Own wr w.heap.size u3 (dictOf ws)) := by have h := hown; rw [HT.out] at h; exact h
      clear hown
      go_wp2
      go_ret
      exact ⟨_, rfl, HO.out, hB⟩
end Go.Proofs.Ytkiddmbenepfjaa.Di
