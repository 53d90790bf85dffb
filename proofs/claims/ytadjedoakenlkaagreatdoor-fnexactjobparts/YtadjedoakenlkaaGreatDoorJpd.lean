/-
  A job's text taken apart by the program: the two tables; the whole.
-/
import Derived.Test.YtadjedoakenlkaaGreatDoorJpc
import Derived.Maps.OwnSet
namespace Go.Proofs.YtadjedoakenlkaaGreatDoor.Jp
set_option maxRecDepth 100000
open Go.RowKit
open Go.Proofs.YtadjedoakenlkaaGreatDoor.Mt (nums ba_ext ba_size i64)
open Go.Proofs.YtadjedoakenlkaaGreatDoor.Rm (Vs inums inumbers)
open Go.Proofs.YtadjedoakenlkaaGreatDoor.Rs (b11)
set_option linter.unusedVariables false
/-! ### The two tables -/
theorem lawS : Maps.Keyed Tryz.prog 9 := Maps.string_keyed Tryz.underlying9
/-- Keys that are texts. -/
def Ks (es : Array MapEntry) : Prop := ∀ e ∈ es.toList, ∃ t : ByteArray, e.key = .string t ∧ t.size ≤ maxLen
theorem key_of {s : ByteArray} (hs : s.size ≤ maxLen) : ∃ l, keyOf Tryz.prog 9 (.string s) = some l := ⟨_, WideMaps.keyOf_string_mk Tryz.underlying9 hs⟩
theorem ks_lits {es : Array MapEntry} (h : Ks es) : ∀ e ∈ es.toList, ∃ l, keyOf Tryz.prog 9 e.key = some l := fun e he => by
  obtain ⟨t, e1, ht⟩ := h e he
  rw [e1]
  exact key_of ht
theorem gobj {w : World} {r : Nat} {es : Array MapEntry} {ck : Nat} (h : w.heap[r]? = some (.map es ck)) : (getObj r).run Tryz.prog w = .ok (.map es ck) w := by
  simp [getObj, Sem.run, h]
theorem sobj {w : World} {r : Nat} {es : Array MapEntry} {ck : Nat} (o : Obj) (h : w.heap[r]? = some (.map es ck)) : (setObj r o).run Tryz.prog w = .ok () { w with heap := w.heap.setIfInBounds r o } := by
  simp [setObj, Sem.run, h]
theorem run_upd (w : World) (r : Nat) (es : Array MapEntry) (ck : Nat) (s : ByteArray) (val : Value) (h : w.heap[r]? = some (.map es ck)) (hs : s.size ≤ maxLen) (hk : Ks es) (hn : ∀ e ∈ es.toList, e.key ≠ .string s) :
    (Instr.mapUpdate 49 (.map (some r)) (.string s) val).run Tryz.prog w = .ok () { w with heap := w.heap.setIfInBounds r (.map (es.push { key := .string s, val := val, born := ck }) (ck + 1)) } := by
  obtain ⟨l, hl⟩ := key_of hs
  rcases lawS.find w hl es.toList (ks_lits hk) with ⟨h1, _⟩ | ⟨j, e, h1, h2, h3⟩
  · simp [Instr.mapUpdate, run_underlying Tryz.underlying49, gobj h, lawS.check w false hl, h1, sobj _ h, Result.andThen]
  · exact absurd h3 (hn e (List.mem_of_getElem? h2))
theorem run_look (w : World) (r : Nat) (es : Array MapEntry) (ck : Nat) (s : ByteArray) (h : w.heap[r]? = some (.map es ck)) (hs : s.size ≤ maxLen) (hk : Ks es) :
    ∃ v b, (Instr.lookup 49 (.map (some r)) (.string s) true).run Tryz.prog w = .ok (.tuple #[v, .bool b]) w ∧ (b = true ↔ ∃ e ∈ es.toList, e.key = .string s) := by
  obtain ⟨l, hl⟩ := key_of hs
  have hz : (zeroValue 47).run Tryz.prog w = .ok .nilFunc w := by kernel_rfl
  rcases lawS.find w hl es.toList (ks_lits hk) with ⟨h1, h2⟩ | ⟨j, e, h1, h2, h3⟩
  · refine ⟨.nilFunc, false, ?_, ?_⟩
    · simp [Instr.lookup, run_underlying Tryz.underlying49, gobj h, lawS.check w _ hl, h1, hz, Result.andThen]
    · simp only [Bool.false_eq_true, false_iff]
      rintro ⟨e, he, hek⟩
      exact h2 e he hek
  · refine ⟨e.val, true, ?_, ?_⟩
    · simp [Instr.lookup, run_underlying Tryz.underlying49, gobj h, lawS.check w _ hl, h1, Result.andThen]
    · simp only [true_iff]
      exact ⟨e, List.mem_of_getElem? h2, h3⟩
section
variable {w : World} {ops : Array Oper} {rest : List Oper} {o : Oper} {a : Act} {Q : Exit → Act → World → Prop}
theorem wpl_insert (hg : o.guard = none) (m x v : Operand) (hop : o.op = Op.insert 49 m x v) (r : Nat) (es : Array MapEntry) (ck : Nat) (hm : a.eval m = .map (some r)) (h : w.heap[r]? = some (.map es ck)) (s : ByteArray) (hx : a.eval x = .string s) (hs : s.size ≤ maxLen) (hk : Ks es) (hn : ∀ e ∈ es.toList, e.key ≠ .string s)
    (hK : ∀ w', w'.heap[r]? = some (.map (es.push { key := .string s, val := a.eval v, born := ck }) (ck + 1)) → w.grownBy w' (some r) → wpList Tryz.prog ops Q rest (a.put o.dst undef) w') : wpList Tryz.prog ops Q (o :: rest) a w := by
  refine wpList_plain hg fun K hK' => ?_
  have hr := run_upd w r es ck s (a.eval v) h hs hk hn
  have hlt : r < w.heap.size := (Array.getElem?_eq_some_iff.1 h).1
  unfold Oper.wp
  simp only [execOp, hop, hm, hx]
  simp only [Sem.run_bind, hr, Result.andThen_ok, Sem.run_pure]
  refine hK' _ _ (hK _ ?_ ⟨rfl, rfl, rfl, by simp, fun k hk hne => ?_⟩)
  · simp [hlt]
  · simp only
    rw [Array.getElem?_setIfInBounds_ne (fun e => hne (by rw [e]))]
theorem wpl_look (hg : o.guard = none) (m x : Operand) (hop : o.op = Op.lookup 49 m x true) (r : Nat) (es : Array MapEntry) (ck : Nat) (hm : a.eval m = .map (some r)) (h : w.heap[r]? = some (.map es ck)) (s : ByteArray) (hx : a.eval x = .string s) (hs : s.size ≤ maxLen) (hk : Ks es)
    (hK : ∀ v b, (b = true ↔ ∃ e ∈ es.toList, e.key = .string s) → wpList Tryz.prog ops Q rest (a.put o.dst (.tuple #[v, .bool b])) w) : wpList Tryz.prog ops Q (o :: rest) a w := by
  refine wpList_plain hg fun K hK' => ?_
  obtain ⟨v, b, hr, hb⟩ := run_look w r es ck s h hs hk
  unfold Oper.wp
  simp only [execOp, hop, hm, hx]
  simp only [Sem.run_bind, hr, Result.andThen_ok, Sem.run_pure]
  exact hK' _ _ (hK v b hb)
end
def nModel : ByteArray := ⟨#[109, 111, 100, 101, 108]⟩
def nTell : ByteArray := ⟨#[116, 101, 108, 108]⟩
def nJudge : ByteArray := ⟨#[106, 117, 100, 103, 101]⟩
def nCross : ByteArray := ⟨#[99, 114, 111, 115, 115]⟩
def fv (f : Nat) : Value := .func (.func f) #[] #[]
def es1 : Array MapEntry := #[⟨.string nModel, fv 27, 0⟩]
def es2 : Array MapEntry := #[⟨.string nModel, fv 27, 0⟩, ⟨.string nTell, fv 28, 1⟩]
def es3 : Array MapEntry := #[⟨.string nModel, fv 27, 0⟩, ⟨.string nTell, fv 28, 1⟩, ⟨.string nJudge, fv 29, 2⟩]
def es4 : Array MapEntry := #[⟨.string nModel, fv 27, 0⟩, ⟨.string nTell, fv 28, 1⟩, ⟨.string nJudge, fv 29, 2⟩, ⟨.string nCross, fv 30, 3⟩]
theorem ks4 : Ks es4 := by
  intro e he
  simp [es4] at he
  rcases he with rfl | rfl | rfl | rfl
  · exact ⟨_, rfl, by decide⟩
  · exact ⟨_, rfl, by decide⟩
  · exact ⟨_, rfl, by decide⟩
  · exact ⟨_, rfl, by decide⟩
theorem nstr {s t : ByteArray} (h : s ≠ t) : Value.string s ≠ .string t := fun e => h (by injection e)
set_option maxHeartbeats 2000000 in
theorem imap (w : World) : Calls Tryz.prog 19 #[] w fun e w' => e = .returned (.map (some w.heap.size)) ∧ w'.heap[w.heap.size]? = some (.map es4 4) ∧ Below w.heap.size w w' := by
  have hmm := @run_makeMap Tryz.prog
  have n1 : nModel ≠ nTell := by decide
  have n2 : nModel ≠ nJudge := by decide
  have n3 : nModel ≠ nCross := by decide
  have n4 : nTell ≠ nJudge := by decide
  have n5 : nTell ≠ nCross := by decide
  have n6 : nJudge ≠ nCross := by decide
  have N1 : Hid (∀ e ∈ es1.toList, e.key ≠ .string nTell) := by intro e he; simp [es1] at he; subst he; exact nstr n1
  have N2 : Hid (∀ e ∈ es2.toList, e.key ≠ .string nJudge) := by intro e he; simp [es2] at he; rcases he with rfl | rfl; exact nstr n2; exact nstr n4
  have N3 : Hid (∀ e ∈ es3.toList, e.key ≠ .string nCross) := by intro e he; simp [es3] at he; rcases he with rfl | rfl | rfl; exact nstr n3; exact nstr n5; exact nstr n6
  have K1 : Hid (Ks es1) := fun e he => ks4 e (by simp [es1] at he; subst he; simp [es4])
  have K2 : Hid (Ks es2) := fun e he => ks4 e (by simp [es2] at he; rcases he with rfl | rfl <;> simp [es4])
  have K3 : Hid (Ks es3) := fun e he => ks4 e (by simp [es3] at he; rcases he with rfl | rfl | rfl <;> simp [es4])
  clear n1 n2 n3 n4 n5 n6
  have HA : Hid (Below w.heap.size w (w.alloc (.map #[] 0))) := (Below.refl _ _).alloc (Nat.le_refl _) _
  have H0 : Hid ((w.alloc (.map #[] 0)).heap[w.heap.size]? = some (.map #[] 0)) := heap_alloc_new w _
  go_enter Tryz.func19, Tryz.ntmps19
  go_wp2_with (first
    | (refine wpl_insert rfl _ _ _ rfl w.heap.size #[] 0 rfl H0.out nModel rfl (by decide) (by intro e he; simp at he) (by intro e he; simp at he) ?_; intro w1 h1 g1; have H1 : Hid (w1.heap[w.heap.size]? = some (.map es1 1)) := h1; clear h1)
    | (refine wpl_insert rfl _ _ _ rfl w.heap.size es1 1 rfl H1.out nTell rfl (by decide) K1.out N1.out ?_; intro w2 h2 g2; have H2 : Hid (w2.heap[w.heap.size]? = some (.map es2 2)) := h2; clear h2)
    | (refine wpl_insert rfl _ _ _ rfl w.heap.size es2 2 rfl H2.out nJudge rfl (by decide) K2.out N2.out ?_; intro w3 h3 g3; have H3 : Hid (w3.heap[w.heap.size]? = some (.map es3 3)) := h3; clear h3)
    | (refine wpl_insert rfl _ _ _ rfl w.heap.size es3 3 rfl H3.out nCross rfl (by decide) K3.out N3.out ?_; intro w4 h4 g4; have H4 : Hid (w4.heap[w.heap.size]? = some (.map es4 4)) := h4; clear h4))
  go_ret
  have hr : ∀ k : Nat, some w.heap.size = some k → w.heap.size ≤ k := fun k e => by cases e; exact Nat.le_refl _
  exact ⟨rfl, H4.out, (((HA.out.grown g1 (by simp) hr).grown g2 (Nat.le_trans (by simp) g1.size) hr).grown g3 (Nat.le_trans (Nat.le_trans (by simp) g1.size) g2.size) hr).grown g4 (Nat.le_trans (Nat.le_trans (Nat.le_trans (by simp) g1.size) g2.size) g3.size) hr⟩
theorem modes4 (s : ByteArray) : (∃ e ∈ es4.toList, e.key = .string s) ↔ s.data.toList ∈ modes := by
  have key : ∀ (n : ByteArray) (l : List UInt8), n.data.toList = l → (Value.string n = .string s ↔ s.data.toList = l) := fun n l h => by
    subst h
    constructor
    · intro e; injection e with e; rw [e]
    · intro e; rw [ba_ext e.symm]
  have e1 := key nModel [109, 111, 100, 101, 108] rfl
  have e2 := key nTell [116, 101, 108, 108] rfl
  have e3 := key nJudge [106, 117, 100, 103, 101] rfl
  have e4 := key nCross [99, 114, 111, 115, 115] rfl
  simp [es4, modes, e1, e2, e3, e4]
theorem clone (w : World) (s : ByteArray) (hs : s.size ≤ 281474976710656) :
    Calls Tryz.prog 20 #[.string s] w fun e w' => e = .returned (.string s) ∧ Below w.heap.size w w' := by
  go_enter Tryz.func20, Tryz.ntmps20
  go_wp2_with (go_at_call 31; refine (Tryz.stringslite_Clone _ _ hs).mono ?_; rintro e w1 ⟨rfl, hB⟩)
  go_ret
  exact ⟨rfl, hB⟩
theorem cutc (w : World) (s sp : ByteArray) (hs : s.size ≤ 1048576) (hV : Vs w) :
    Calls Tryz.prog 11 #[.string s, .string sp] w fun e w' => e = .returned (.tuple #[.string ⟨(Lib.cut s.data.toList sp.data.toList).1.toArray⟩, .string ⟨(Lib.cut s.data.toList sp.data.toList).2.1.toArray⟩, .bool (Lib.cut s.data.toList sp.data.toList).2.2]) ∧ Below w.heap.size w w' := by
  obtain ⟨m, hm⟩ := hV.2.1
  refine (Tryz.strings_Cut s sp m w (by omega) hm).mono ?_
  rintro e w' ⟨rfl, n, rfl⟩
  exact ⟨rfl, ⟨rfl, rfl, rfl, Nat.le_refl _, fun _ _ => rfl⟩⟩
theorem cut_le (l sp : List UInt8) : (Lib.cut l sp).1.length ≤ l.length ∧ (Lib.cut l sp).2.1.length ≤ l.length := by
  unfold Lib.cut
  split
  · simp only [List.length_take, List.length_drop]; omega
  · simp
/-- Two tables, or none. -/
def Apr (R : List UInt8) (e : Ending) : Prop :=
  ((Lib.cut R sep).2.2 = true ∧ c1 (Lib.cut R sep).1 ∈ modes ∧ e = .returned (.tuple #[.string ⟨((Lib.cut R sep).1 ++ [10]).toArray⟩, .string ⟨(Lib.cut R sep).2.1.toArray⟩, .bool true])) ∨
  (¬ ((Lib.cut R sep).2.2 = true ∧ c1 (Lib.cut R sep).1 ∈ modes) ∧ e = .returned (.tuple #[.string ⟨#[]⟩, .string ⟨#[]⟩, .bool false]))
def nSep : ByteArray := ⟨#[10, 45, 45, 10]⟩
def nEnd : ByteArray := ⟨#[10]⟩
set_option maxHeartbeats 2000000 in
theorem iapart (w : World) (s : ByteArray) (hV : Vs w) (hs : s.size ≤ 9000) :
    Calls Tryz.prog 14 #[.string s] w fun e w' => Apr s.data.toList e ∧ Below w.heap.size w w' := by
  go_enter Tryz.func14, Tryz.ntmps14
  go_wp2_with fail
  refine (cutc w s nSep (by omega) hV).mono ?_
  rintro e w1 ⟨rfl, hB⟩
  have HB1 : Hid (type_of% hB) := hB
  have HV1 : Hid (Vs w1) := hV.below hB
  clear hB
  have hsz : s.data.toList.length = s.size := by simp
  have hle := cut_le s.data.toList sep
  have hsd : nSep.data.toList = sep := rfl
  rw [hsd]
  obtain ⟨A, hA⟩ : ∃ A, (Lib.cut s.data.toList sep).1 = A := ⟨_, rfl⟩
  obtain ⟨B, hB⟩ : ∃ B, (Lib.cut s.data.toList sep).2.1 = B := ⟨_, rfl⟩
  obtain ⟨fd, hfd⟩ : ∃ fd, (Lib.cut s.data.toList sep).2.2 = fd := ⟨_, rfl⟩
  have HP : Hid (∀ e, Apr s.data.toList e ↔ (fd = true ∧ c1 A ∈ modes ∧ e = .returned (.tuple #[.string ⟨(A ++ [10]).toArray⟩, .string ⟨B.toArray⟩, .bool true])) ∨ (¬ (fd = true ∧ c1 A ∈ modes) ∧ e = .returned (.tuple #[.string ⟨#[]⟩, .string ⟨#[]⟩, .bool false]))) := fun e => by unfold Apr; rw [hA, hB, hfd]
  rw [hA, hB] at hle
  rw [hA, hB, hfd]
  have hA2 : (ByteArray.mk A.toArray).size ≤ 9000 := by rw [ba_size]; omega
  have hB2 : (ByteArray.mk B.toArray).size ≤ 9000 := by rw [ba_size]; omega
  have HAA : Hid ((ByteArray.mk A.toArray).data.toList = A) := by show _ = _; simp
  have HAC : Hid (c1 A = (Lib.cut (ByteArray.mk A.toArray).data.toList nEnd.data.toList).1) := by show _ = _; rw [HAA.out]; rfl
  have HAE : Hid ((ByteArray.mk A.toArray) ++ nEnd = ⟨(A ++ [10]).toArray⟩) := by show _ = _; refine ba_ext ?_; simp [nEnd]
  generalize ByteArray.mk A.toArray = a at hA2 HAA HAC HAE ⊢
  generalize ByteArray.mk B.toArray = b at hB2 HP ⊢
  clear hle hA hB hfd hsd hsz
  go_wp2_with fail
  refine (cutc w1 a nEnd (by omega) HV1.out).mono ?_
  rintro e w2 ⟨rfl, hB⟩
  have HB2 : Hid (Below w.heap.size w w2) := HB1.out.trans (hB.mono HB1.out.size)
  have hme := (cut_le a.data.toList nEnd.data.toList).1
  have hml : (ByteArray.mk (Lib.cut a.data.toList nEnd.data.toList).1.toArray).size ≤ maxLen := by rw [ba_size]; have : a.data.toList.length = a.size := by simp
                                                                                                   unfold maxLen; omega
  have HMD : Hid ((ByteArray.mk (Lib.cut a.data.toList nEnd.data.toList).1.toArray).data.toList = c1 A) := by show _ = _; rw [HAC.out]
  generalize ByteArray.mk (Lib.cut a.data.toList nEnd.data.toList).1.toArray = md at hml HMD ⊢
  generalize ByteArray.mk (Lib.cut a.data.toList nEnd.data.toList).2.1.toArray = rs
  generalize (Lib.cut a.data.toList nEnd.data.toList).2.2 = fo
  clear hB hme
  have HNE : Hid (¬ c1 A ∈ modes → ∀ kn, (kn = true ↔ md.data.toList ∈ modes) → kn = false) := fun h kn hk => by
    cases kn
    · rfl
    · exact absurd (by rw [← HMD.out]; exact hk.1 rfl) h
  have HYE : Hid (c1 A ∈ modes → ∀ kn, (kn = true ↔ md.data.toList ∈ modes) → kn = true) := fun h kn hk => hk.2 (by rw [HMD.out]; exact h)
  cases fd
  · have HR : Hid (Apr s.data.toList (.returned (.tuple #[.string ⟨#[]⟩, .string ⟨#[]⟩, .bool false]))) := (HP.out _).2 (.inr ⟨by simp, rfl⟩)
    go_wp2_with (first
      | (go_at_call 19; refine (imap _).mono ?_; rintro e w3 ⟨rfl, h3, hB3⟩; have HB3 : Hid (Below w.heap.size w w3) := HB2.out.trans (hB3.mono HB2.out.size); clear hB3)
      | (at_lookup; refine wpl_look rfl _ _ rfl _ es4 4 rfl h3 md rfl hml ks4 ?_; intro v kn hkn; clear hkn))
    go_ret3
    exact ⟨HR.out, HB3.out⟩
  · by_cases hm : c1 A ∈ modes
    · have HR : Hid (Apr s.data.toList (.returned (.tuple #[.string ⟨(A ++ [10]).toArray⟩, .string b, .bool true]))) := (HP.out _).2 (.inl ⟨rfl, hm, rfl⟩)
      have HM : Hid (type_of% hm) := hm
      clear hm
      go_wp2_with (first
        | (go_at_call 19; refine (imap _).mono ?_; rintro e w3 ⟨rfl, h3, hB3⟩; have HB3 : Hid (Below w.heap.size w w3) := HB2.out.trans (hB3.mono HB2.out.size); clear hB3)
        | (at_lookup; refine wpl_look rfl _ _ rfl _ es4 4 rfl h3 md rfl hml ks4 ?_; intro v kn hkn; obtain rfl := HYE.out HM.out kn (hkn.trans (modes4 md)); clear hkn)
        | (go_at_call 20; refine (clone _ b (by omega)).mono ?_; rintro e w4 ⟨rfl, hB4⟩))
      go_ret3
      exact ⟨(congrArg (fun x => Apr s.data.toList (.returned (.tuple #[.string x, .string b, .bool true]))) HAE.out).mpr HR.out, HB3.out.trans (hB4.mono HB3.out.size)⟩
    · have HR : Hid (Apr s.data.toList (.returned (.tuple #[.string ⟨#[]⟩, .string ⟨#[]⟩, .bool false]))) := (HP.out _).2 (.inr ⟨fun h => hm h.2, rfl⟩)
      have HM : Hid (type_of% hm) := hm
      clear hm
      go_wp2_with (first
        | (go_at_call 19; refine (imap _).mono ?_; rintro e w3 ⟨rfl, h3, hB3⟩; have HB3 : Hid (Below w.heap.size w w3) := HB2.out.trans (hB3.mono HB2.out.size); clear hB3)
        | (at_lookup; refine wpl_look rfl _ _ rfl _ es4 4 rfl h3 md rfl hml ks4 ?_; intro v kn hkn; obtain rfl := HNE.out HM.out kn (hkn.trans (modes4 md)); clear hkn))
      go_ret3
      exact ⟨HR.out, HB3.out⟩
end Go.Proofs.YtadjedoakenlkaaGreatDoor.Jp
