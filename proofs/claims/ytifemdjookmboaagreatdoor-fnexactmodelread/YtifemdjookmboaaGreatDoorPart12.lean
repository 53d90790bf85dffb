/-
  Contracts that the proof leans on, put together in the order in which they build.
-/
import Derived.Test.YtifemdjookmboaaGreatDoorPart11
import Derived.Test.YtifemdjookmboaaGreatDoorPart2
import Derived.Test.YtifemdjookmboaaGreatDoorPart7
import Derived.Test.YtifemdjookmboaaGreatDoorPart8
import Derived.Deep.AppendLies
import Derived.Test.YtifemdjookmboaaGreatDoorPart3
import Derived.Deep.RegionLaw
import Derived.Deep.RegionWith
/-
  The text of a model: plain functions of lists.
-/
namespace Go.Proofs.YtifemdjookmboaaGreatDoor.Mt
set_option maxRecDepth 20000
open Go.RowKit
open Go.Proofs.YtifemdjookmboaaGreatDoor.Md (M mok mok_parts kok kok_parts)
open Go.Proofs.YtifemdjookmboaaGreatDoor.Kt (Kv)
set_option linter.unusedVariables false

def wline (v : Int) (s : ByteArray) : List UInt8 := Lib.itoa v ++ (32 :: s.data.toList ++ [10])
def wlines : List Int → List ByteArray → List UInt8
  | v :: vs, s :: ss => wline v s ++ wlines vs ss
  | _, _ => []
def head (m : M) : List UInt8 := [109, 111, 100, 101, 108] ++ nums [m.n, m.c, m.prior, m.base] ++ [10]
def ctxt (t : Kv) : List UInt8 := [99, 116, 114] ++ nums [(t.ws.length : Int)] ++ [10] ++ wlines t.vs t.ws
def spt (ps : List (Int × Int)) : List UInt8 := (ps.map fun p => nums [p.1, p.2]).flatten
def ttxt (t : Tr.T) : List UInt8 := [116, 114, 101, 101] ++ spt t.sp ++ ([32, 58] ++ nums t.lv ++ [10])
def ctxts (ks : List Kv) : List UInt8 := (ks.map ctxt).flatten
def ttxts (ts : List Tr.T) : List UInt8 := (ts.map ttxt).flatten
def body (m : M) : List UInt8 := head m ++ ctxts m.ks ++ ttxts m.ts
def whole (m : M) : List UInt8 := body m ++ ([115, 117, 109] ++ nums [(Cr.crc (body m) : Int)] ++ [10])
def hasLf (s : ByteArray) : Bool := s.data.toList.contains 10
def anyLf (ks : List Kv) : Bool := ks.any fun t => t.ws.any hasLf
def mtext (m : M) : List UInt8 := if mok m = true ∧ anyLf m.ks = false then whole m else []

theorem wline_len (v : Int) (s : ByteArray) (h : i64 v) (hs : s.size ≤ 25) : (wline v s).length ≤ 48 := by
  have h3 := Nu.itoa_len v h.1 h.2
  unfold wline
  simp only [List.length_append, List.length_cons, List.length_nil, Array.length_toList]
  have : s.data.size = s.size := rfl
  omega
theorem wlines_len : ∀ (vs : List Int) (ss : List ByteArray), (∀ x ∈ vs, i64 x) → (∀ s ∈ ss, s.size ≤ 25) → (wlines vs ss).length ≤ 48 * ss.length
  | [], ss, _, _ => by simp [wlines]
  | v :: vs, [], _, _ => by simp [wlines]
  | v :: vs, s :: ss, h, hs => by
    have h1 := wlines_len vs ss (fun y hy => h y (by simp [hy])) (fun y hy => hs y (by simp [hy]))
    have h2 := wline_len v s (h v (by simp)) (hs s (by simp))
    simp only [wlines, List.length_append, List.length_cons]
    omega
theorem wlines_take : ∀ (vs : List Int) (ss : List ByteArray) (k : Nat) (h : k < ss.length) (h' : k < vs.length), wlines (vs.take (k + 1)) (ss.take (k + 1)) = wlines (vs.take k) (ss.take k) ++ wline vs[k] ss[k]
  | v :: vs, s :: ss, 0, _, _ => by simp [wlines]
  | v :: vs, s :: ss, k + 1, h, h' => by
    have := wlines_take vs ss k (by simpa using h) (by simpa using h')
    simp only [List.take_succ_cons, wlines, List.getElem_cons_succ, this, List.append_assoc]
theorem spt_take (l : List (Int × Int)) (k : Nat) (h : k < l.length) : spt (l.take (k + 1)) = spt (l.take k) ++ nums [l[k].1, l[k].2] := by
  unfold spt
  rw [List.take_succ_eq_append_getElem h, List.map_append, List.flatten_append]
  simp
theorem spt_len : ∀ (l : List (Int × Int)), (∀ p ∈ l, i64 p.1 ∧ i64 p.2) → (spt l).length ≤ 44 * l.length
  | [], _ => by simp [spt]
  | p :: l, h => by
    have h1 := spt_len l (fun y hy => h y (by simp [hy]))
    have h2 := h p (by simp)
    have h3 := nums_len [p.1, p.2] (by intro x hx; simp at hx; rcases hx with rfl | rfl; exact h2.1; exact h2.2)
    unfold spt at h1 ⊢
    simp only [List.map_cons, List.flatten_cons, List.length_append, List.length_cons, List.length_nil] at h3 ⊢
    omega
theorem ctxts_take (l : List Kv) (k : Nat) (h : k < l.length) : ctxts (l.take (k + 1)) = ctxts (l.take k) ++ ctxt l[k] := by
  unfold ctxts
  rw [List.take_succ_eq_append_getElem h, List.map_append, List.flatten_append]
  simp
theorem ttxts_take (l : List Tr.T) (k : Nat) (h : k < l.length) : ttxts (l.take (k + 1)) = ttxts (l.take k) ++ ttxt l[k] := by
  unfold ttxts
  rw [List.take_succ_eq_append_getElem h, List.map_append, List.flatten_append]
  simp
theorem fok_i64 {x : Int} (h : Bo.fok x = true) : i64 x := by
  have : -1000000000 ≤ x ∧ x ≤ 1000000000 := by simpa [Bo.fok] using h
  unfold i64; omega
theorem aok_i64 {l : List Int} (h : Bo.aok l = true) : ∀ x ∈ l, i64 x := by
  intro x hx
  exact fok_i64 (List.all_eq_true.1 h x hx)
/-- What a part of a model that is right says of its numbers and sizes. -/
def Kn (t : Kv) : Prop := t.ws.length ≤ 40 ∧ t.vs.length = t.ws.length ∧ (∀ x ∈ t.vs, i64 x) ∧ ∀ s ∈ t.ws, s.size ≤ 25
theorem kok_kn {t : Kv} (h : kok t = true) : Kn t := by
  obtain ⟨h1, h2, h3, h4, _⟩ := kok_parts h
  refine ⟨h1, h2, aok_i64 h3, fun s hs => ?_⟩
  have := List.all_eq_true.1 h4 s hs
  unfold Md.cwok at this
  have := of_decide_eq_true this
  omega
def Tn (t : Tr.T) : Prop := t.sp.length ≤ 4 ∧ t.lv.length ≤ 16 ∧ (∀ p ∈ t.sp, i64 p.1 ∧ i64 p.2) ∧ ∀ x ∈ t.lv, i64 x
theorem tok_tn {t : Tr.T} (h : Tr.tok t = true) : Tn t := by
  obtain ⟨⟨h1, h2⟩, h3, h4⟩ := Tr.tok_iff.1 h
  refine ⟨h1, ?_, fun p hp => ?_, aok_i64 h4⟩
  · rw [h2]
    have := Nat.pow_le_pow_right (n := 2) (by omega) h1
    simpa using this
  · have := List.all_eq_true.1 h3 p hp
    unfold Tr.spok at this
    simp only [Bool.and_eq_true, decide_eq_true_eq] at this
    exact ⟨by unfold i64; omega, fok_i64 this.2⟩
structure Mn (m : M) : Prop where
  h : ∀ x ∈ [m.n, m.c, m.prior, m.base], i64 x
  k : m.ks.length ≤ 3
  t : m.ts.length ≤ 12
  ks : ∀ t ∈ m.ks, Kn t
  ts : ∀ t ∈ m.ts, Tn t
theorem mok_mn {m : M} (h : mok m = true) : Mn m := by
  obtain ⟨h1, h2, h3, h4, h5, h6, h7⟩ := mok_parts h
  obtain ⟨s0, s1, s2⟩ := Tk.sok_iff.1 h1
  refine ⟨?_, ?_, h4, fun t ht => kok_kn (List.all_eq_true.1 h7 t ht), fun t ht => tok_tn (List.all_eq_true.1 h6 t ht)⟩
  · have hp : -1000000 ≤ m.prior ∧ m.prior ≤ 1000000 := by simpa [Li.btw] using h2
    intro x hx
    simp at hx
    rcases hx with rfl | rfl | rfl | rfl
    · unfold i64; omega
    · unfold i64; omega
    · unfold i64; omega
    · exact fok_i64 h3
  · unfold Md.ncol at h5
    split at h5 <;> omega
theorem head_len {m : M} (h : Mn m) : (head m).length ≤ 94 := by
  have := nums_len _ h.h
  unfold head
  simp only [List.length_append, List.length_cons, List.length_nil] at this ⊢
  omega
theorem ctxt_len {t : Kv} (h : Kn t) : (ctxt t).length ≤ 1946 := by
  obtain ⟨h1, h2, h3, h4⟩ := h
  have := nums_len [(t.ws.length : Int)] (by intro x hx; simp at hx; subst hx; unfold i64; omega)
  have h5 := wlines_len t.vs t.ws h3 h4
  unfold ctxt
  simp only [List.length_append, List.length_cons, List.length_nil] at this ⊢
  omega
theorem ttxt_len {t : Tr.T} (h : Tn t) : (ttxt t).length ≤ 535 := by
  obtain ⟨h1, h2, h3, h4⟩ := h
  have := nums_len t.lv h4
  have h5 := spt_len t.sp h3
  unfold ttxt
  simp only [List.length_append, List.length_cons, List.length_nil]
  omega
theorem flat_len {α : Type} (f : α → List UInt8) (n : Nat) : ∀ (l : List α), (∀ t ∈ l, (f t).length ≤ n) → ((l.map f).flatten).length ≤ n * l.length
  | [], _ => by simp
  | t :: l, h => by
    have h1 := flat_len f n l (fun y hy => h y (by simp [hy]))
    have h2 := h t (by simp)
    simp only [List.map_cons, List.flatten_cons, List.length_append, List.length_cons, Nat.mul_add]
    omega
theorem ctxts_len {l : List Kv} (hl : l.length ≤ 3) (h : ∀ t ∈ l, Kn t) : (ctxts l).length ≤ 5838 := by
  have := flat_len ctxt 1946 l (fun t ht => ctxt_len (h t ht))
  unfold ctxts
  omega
theorem ttxts_len {l : List Tr.T} (hl : l.length ≤ 12) (h : ∀ t ∈ l, Tn t) : (ttxts l).length ≤ 6420 := by
  have := flat_len ttxt 535 l (fun t ht => ttxt_len (h t ht))
  unfold ttxts
  omega
theorem body_len {m : M} (h : Mn m) : (body m).length ≤ 12352 := by
  have h1 := head_len h
  have h2 := ctxts_len h.k h.ks
  have h3 := ttxts_len h.t h.ts
  unfold body
  simp only [List.length_append]
  omega
theorem crc_i64 (l : List UInt8) : i64 (Cr.crc l : Int) := by have := Cr.crc_lt l; unfold i64; omega
theorem whole_len {m : M} (h : Mn m) : (whole m).length ≤ 12400 := by
  have h1 := body_len h
  have := nums_len [(Cr.crc (body m) : Int)] (by intro x hx; simp at hx; subst hx; exact crc_i64 _)
  unfold whole
  simp only [List.length_append, List.length_cons, List.length_nil] at this ⊢
  omega
theorem any_yes {α : Type} {p : α → Bool} {xs : List α} {k : Nat} (hk : k < xs.length) (h : p xs[k] = true) : xs.any p = true := by
  rw [List.any_eq_true]; exact ⟨xs[k], List.getElem_mem hk, h⟩
theorem any_no {α : Type} {p : α → Bool} {xs : List α} (h : ∀ j (hj : j < xs.length), p xs[j] = false) : xs.any p = false := by
  rw [List.any_eq_false]; intro x hx; obtain ⟨j, hj, rfl⟩ := List.getElem_of_mem hx; rw [h j hj]; simp
theorem at_snoc {α : Type} {p : α → Bool} {xs : List α} {k : Nat} (h : ∀ j (hj : j < xs.length), j < k → p xs[j] = false) (hk : k < xs.length) (h1 : p xs[k] = false) : ∀ j (hj : j < xs.length), j < k + 1 → p xs[j] = false := by
  intro j hj hjk
  by_cases e : j = k
  · subst e; exact h1
  · exact h j hj (by omega)
theorem mtext_no {m : M} (h : mok m = false) : mtext m = [] := by unfold mtext; rw [if_neg (by rw [h]; simp)]
theorem mtext_lf {m : M} (h : anyLf m.ks = true) : mtext m = [] := by unfold mtext; rw [if_neg (by rw [h]; simp)]
theorem mtext_yes {m : M} (h : mok m = true) (h' : anyLf m.ks = false) : mtext m = whole m := by unfold mtext; rw [if_pos ⟨h, h'⟩]
end Go.Proofs.YtifemdjookmboaaGreatDoor.Mt
/-
  A model out of a text, as the program reads it: plain functions of lists; the text of a model gives the model.
-/
namespace Go.Proofs.YtifemdjookmboaaGreatDoor.Rm
set_option maxRecDepth 20000
open Go.Proofs.YtifemdjookmboaaGreatDoor.Md (M mok mok_parts)
open Go.Proofs.YtifemdjookmboaaGreatDoor.Kt (Kv)
open Go.Proofs.YtifemdjookmboaaGreatDoor.Mt (nums nums_cons nums_nil spt head ctxt ttxt ctxts ttxts body whole wline wlines i64 Kn Tn Mn hasLf anyLf)
set_option linter.unusedVariables false
structure St where
  m : M
  left : Int
def zero : M := ⟨0, 0, 0, 0, [], []⟩
def pairs : List Int → List (Int × Int)
  | a :: b :: r => (a, b) :: pairs r
  | _ => []
def first (l : List UInt8) : List UInt8 := (Lib.cut l [32]).1
def rest (l : List UInt8) : List UInt8 := (Lib.cut l [32]).2.1
def addW (ks : List Kv) (s : ByteArray) (v : Int) : List Kv := ks.set (ks.length - 1) ⟨(ks.getD (ks.length - 1) ⟨[], []⟩).ws ++ [s], (ks.getD (ks.length - 1) ⟨[], []⟩).vs ++ [v]⟩
def dHead (st : St) (r : List UInt8) : Option St := match inums r with
  | some [a, b, c, d] => some ⟨⟨a, b, c, d, st.m.ks, st.m.ts⟩, st.left⟩
  | _ => none
def dCtr (st : St) (r : List UInt8) : Option St := match inums r with
  | some [n] => some ⟨⟨st.m.n, st.m.c, st.m.prior, st.m.base, st.m.ks ++ [⟨[], []⟩], st.m.ts⟩, n⟩
  | _ => none
def dWord (st : St) (f r : List UInt8) : Option St := match num f with
  | some v => some ⟨⟨st.m.n, st.m.c, st.m.prior, st.m.base, addW st.m.ks ⟨r.toArray⟩ v, st.m.ts⟩, st.left - 1⟩
  | none => none
def dTree (st : St) (r : List UInt8) : Option St := match inums (Lib.cut r [58]).1, inums (Lib.cut r [58]).2.1 with
  | some a, some l => if a.length % 2 = 0 then some ⟨⟨st.m.n, st.m.c, st.m.prior, st.m.base, st.m.ks, st.m.ts ++ [⟨pairs a, l⟩]⟩, st.left⟩ else none
  | _, _ => none
def wModel : List UInt8 := [109, 111, 100, 101, 108]
def wCtr : List UInt8 := [99, 116, 114]
def wTree : List UInt8 := [116, 114, 101, 101]
def wSum : List UInt8 := [115, 117, 109]
def isSum (st : St) (l : List UInt8) : Prop := ¬ 0 < st.left ∧ first l = wSum
def dLine (st : St) (l : List UInt8) : Option St :=
  if 0 < st.left then dWord st (first l) (rest l)
  else if first l = wModel then dHead st (rest l)
  else if first l = wCtr then dCtr st (rest l)
  else if first l = wTree then dTree st (rest l)
  else none
noncomputable def rd : List (List UInt8) → St → Option St
  | [], st => some st
  | l :: ls, st => if 0 < st.left then (match dLine st l with
      | none => none
      | some st' => rd ls st')
    else if first l = wSum then some st
    else match dLine st l with
      | none => none
      | some st' => rd ls st'
noncomputable def rdt (s : List UInt8) (st : St) : Option St := rd (Pc.pieces 10 s) st
end Go.Proofs.YtifemdjookmboaaGreatDoor.Rm
/-
  The text of a model, read by the program's plain function, gives the model.
-/
namespace Go.Proofs.YtifemdjookmboaaGreatDoor.Rm
set_option maxRecDepth 20000
open Go.Proofs.YtifemdjookmboaaGreatDoor.Md (M mok mok_parts kok_parts)
open Go.Proofs.YtifemdjookmboaaGreatDoor.Kt (Kv)
open Go.Proofs.YtifemdjookmboaaGreatDoor.Mt (nums nums_cons nums_nil spt head ctxt ttxt ctxts ttxts body whole wline wlines hasLf anyLf)
set_option linter.unusedVariables false
def bd (x : Int) : Prop := -1000000000000 ≤ x ∧ x ≤ 1000000000000
theorem fok_bd {x : Int} (h : Bo.fok x = true) : bd x := by
  have : -1000000000 ≤ x ∧ x ≤ 1000000000 := by simpa [Bo.fok] using h
  unfold bd; omega
def flat : List (Int × Int) → List Int
  | [] => []
  | p :: ps => p.1 :: p.2 :: flat ps
theorem flat_pairs : ∀ ps : List (Int × Int), pairs (flat ps) = ps
  | [] => rfl
  | p :: ps => by simp only [flat, pairs, flat_pairs ps]
theorem flat_even : ∀ ps : List (Int × Int), (flat ps).length % 2 = 0
  | [] => rfl
  | p :: ps => by simp only [flat, List.length_cons]; have := flat_even ps; omega
theorem spt_flat : ∀ ps : List (Int × Int), spt ps = nums (flat ps)
  | [] => rfl
  | p :: ps => by
    have ih := spt_flat ps
    unfold spt at ih ⊢
    rw [List.map_cons, List.flatten_cons, ih]
    simp [flat, nums]
/-- What a model that is right, and has a text, gives for the reading of it. -/
structure Gd (m : M) : Prop where
  h : ∀ x ∈ [m.n, m.c, m.prior, m.base], bd x
  k : ∀ t ∈ m.ks, t.vs.length = t.ws.length ∧ t.ws.length ≤ 40 ∧ (∀ v ∈ t.vs, bd v) ∧ ∀ s ∈ t.ws, (10 : UInt8) ∉ s.data.toList
  t : ∀ t ∈ m.ts, (∀ x ∈ flat t.sp, bd x) ∧ ∀ x ∈ t.lv, bd x
theorem flat_bd : ∀ {ps : List (Int × Int)}, (∀ p ∈ ps, bd p.1 ∧ bd p.2) → ∀ x ∈ flat ps, bd x
  | [], _, x, hx => by simp [flat] at hx
  | p :: ps, h, x, hx => by
    simp only [flat, List.mem_cons] at hx
    rcases hx with rfl | rfl | hx
    · exact (h p (by simp)).1
    · exact (h p (by simp)).2
    · exact flat_bd (fun q hq => h q (by simp [hq])) x hx
theorem gd_of {m : M} (h : mok m = true) (hn : anyLf m.ks = false) : Gd m := by
  obtain ⟨h1, h2, h3, h4, h5, h6, h7⟩ := mok_parts h
  obtain ⟨s0, s1, s2⟩ := Tk.sok_iff.1 h1
  refine ⟨?_, fun t ht => ?_, fun t ht => ?_⟩
  · have hp : -1000000 ≤ m.prior ∧ m.prior ≤ 1000000 := by simpa [Li.btw] using h2
    intro x hx
    simp at hx
    rcases hx with rfl | rfl | rfl | rfl
    · unfold bd; omega
    · unfold bd; omega
    · unfold bd; omega
    · exact fok_bd h3
  · obtain ⟨k1, k2, k3, k4, _⟩ := kok_parts (List.all_eq_true.1 h7 t ht)
    refine ⟨k2, k1, fun v hv => fok_bd (List.all_eq_true.1 k3 v hv), fun s hs e => ?_⟩
    have h8 : (t.ws.any hasLf) = false := by
      unfold anyLf at hn
      rw [List.any_eq_false] at hn
      have := hn t ht
      simpa using this
    rw [List.any_eq_false] at h8
    have := h8 s hs
    unfold hasLf at this
    exact this (List.contains_iff_mem.2 e)
  · obtain ⟨_, k3, k4⟩ := Tr.tok_iff.1 (List.all_eq_true.1 h6 t ht)
    refine ⟨flat_bd (fun p hp => ?_), fun x hx => fok_bd (List.all_eq_true.1 k4 x hx)⟩
    have := List.all_eq_true.1 k3 p hp
    unfold Tr.spok at this
    simp only [Bool.and_eq_true, decide_eq_true_eq] at this
    exact ⟨by unfold bd; omega, fok_bd this.2⟩
/-! ### Lines -/
theorem first_at {f : List UInt8} (r : List UInt8) (h : (32 : UInt8) ∉ f) : first (f ++ 32 :: r) = f ∧ rest (f ++ 32 :: r) = r := by
  unfold first rest
  rw [Pc.cut_at 32 f r h]
  exact ⟨rfl, rfl⟩
theorem rdt_line {a r : List UInt8} {st st' : St} (ha : (10 : UInt8) ∉ a) (hs : 0 < st.left ∨ ¬ first a = wSum) (hd : dLine st a = some st') : rdt (a ++ 10 :: r) st = rdt r st' := by
  unfold rdt
  rw [Pc.pieces_cut 10 r a ha, rd]
  by_cases hl : 0 < st.left
  · rw [if_pos hl, hd]
  · have : ¬ first a = wSum := hs.resolve_left hl
    rw [if_neg hl, if_neg this, hd]
theorem rdt_sum {a r : List UInt8} {st : St} (ha : (10 : UInt8) ∉ a) (hl : ¬ 0 < st.left) (hf : first a = wSum) : rdt (a ++ 10 :: r) st = some st := by
  unfold rdt
  rw [Pc.pieces_cut 10 r a ha, rd, if_neg hl, if_pos hf]
theorem rdt_head (m : M) (hg : Gd m) (R : List UInt8) : rdt (head m ++ R) ⟨zero, 0⟩ = rdt R ⟨⟨m.n, m.c, m.prior, m.base, [], []⟩, 0⟩ := by
  have e : head m ++ R = (wModel ++ 32 :: (Lib.itoa m.n ++ nums [m.c, m.prior, m.base])) ++ 10 :: R := by
    unfold head wModel
    rw [nums_cons]
    simp
  have hf := first_at (f := wModel) (Lib.itoa m.n ++ nums [m.c, m.prior, m.base]) (by decide)
  have hi := inums_tail (e := []) (.inl rfl) m.n [m.c, m.prior, m.base] hg.h
  rw [List.append_nil] at hi
  rw [e]
  refine rdt_line ?_ (.inr ?_) ?_
  · intro h
    rcases List.mem_append.1 h with h | h
    · revert h; decide
    · rcases List.mem_cons.1 h with h | h
      · revert h; decide
      · rcases List.mem_append.1 h with h | h
        · exact (itoa_no _).1 h
        · exact (nums_no _).1 h
  · rw [hf.1]; decide
  · unfold dLine
    rw [if_neg (by decide), if_pos hf.1, hf.2]
    unfold dHead
    rw [hi]
    rfl
theorem addW_snoc (ks : List Kv) (wa : List ByteArray) (va : List Int) (s : ByteArray) (v : Int) : addW (ks ++ [⟨wa, va⟩]) s v = ks ++ [⟨wa ++ [s], va ++ [v]⟩] := by
  unfold addW
  have e : (ks ++ [(⟨wa, va⟩ : Kv)]).length - 1 = ks.length := by simp
  rw [e]
  have e2 : (ks ++ [(⟨wa, va⟩ : Kv)]).getD ks.length ⟨[], []⟩ = ⟨wa, va⟩ := by simp
  rw [e2, List.set_append_right _ _ (Nat.le_refl _)]
  simp
theorem rdt_words (n c p b : Int) (ks : List Kv) (ts : List Tr.T) (R : List UInt8) : ∀ (vs : List Int) (ws : List ByteArray) (wa : List ByteArray) (va : List Int), vs.length = ws.length → (∀ v ∈ vs, bd v) → (∀ s ∈ ws, (10 : UInt8) ∉ s.data.toList) →
    rdt (wlines vs ws ++ R) ⟨⟨n, c, p, b, ks ++ [⟨wa, va⟩], ts⟩, (ws.length : Int)⟩ = rdt R ⟨⟨n, c, p, b, ks ++ [⟨wa ++ ws, va ++ vs⟩], ts⟩, 0⟩
  | [], [], wa, va, _, _, _ => by simp [wlines]
  | [], s :: ws, wa, va, h, _, _ => by simp at h
  | v :: vs, [], wa, va, h, _, _ => by simp at h
  | v :: vs, s :: ws, wa, va, h, hv, hs => by
    have ih := rdt_words n c p b ks ts R vs ws (wa ++ [s]) (va ++ [v]) (by simpa using h) (fun x hx => hv x (by simp [hx])) (fun x hx => hs x (by simp [hx]))
    have e : wlines (v :: vs) (s :: ws) ++ R = (Lib.itoa v ++ 32 :: s.data.toList) ++ 10 :: (wlines vs ws ++ R) := by
      simp [wlines, wline]
    have hf := first_at (f := Lib.itoa v) s.data.toList (itoa_no v).2.1
    have hpos : (0 : Int) < (((s :: ws).length : Nat) : Int) := by rw [List.length_cons]; omega
    rw [e, rdt_line (st' := ⟨⟨n, c, p, b, ks ++ [⟨wa ++ [s], va ++ [v]⟩], ts⟩, (ws.length : Int)⟩) ?_ (.inl hpos) ?_, ih]
    · simp
    · intro hm
      rcases List.mem_append.1 hm with h | h
      · exact (itoa_no _).1 h
      · rcases List.mem_cons.1 h with h | h
        · revert h; decide
        · exact hs s (by simp) h
    · unfold dLine
      rw [if_pos hpos, hf.1, hf.2]
      unfold dWord
      rw [num_itoa (hv v (by simp))]
      have e3 : (⟨s.data.toList.toArray⟩ : ByteArray) = s := by cases s; rfl
      simp only [e3, addW_snoc]
      congr 2
      simp
theorem rdt_ctrs (n c p b : Int) (ts : List Tr.T) (R : List UInt8) : ∀ (ks ka : List Kv), (∀ t ∈ ks, t.vs.length = t.ws.length ∧ t.ws.length ≤ 40 ∧ (∀ v ∈ t.vs, bd v) ∧ ∀ s ∈ t.ws, (10 : UInt8) ∉ s.data.toList) →
    rdt (ctxts ks ++ R) ⟨⟨n, c, p, b, ka, ts⟩, 0⟩ = rdt R ⟨⟨n, c, p, b, ka ++ ks, ts⟩, 0⟩
  | [], ka, _ => by simp [ctxts]
  | t :: ks, ka, h => by
    obtain ⟨h1, h2, h3, h4⟩ := h t (by simp)
    have ih := rdt_ctrs n c p b ts R ks (ka ++ [t]) (fun u hu => h u (by simp [hu]))
    have e : ctxts (t :: ks) ++ R = (wCtr ++ 32 :: Lib.itoa (t.ws.length : Int)) ++ 10 :: (wlines t.vs t.ws ++ (ctxts ks ++ R)) := by
      simp [ctxts, ctxt, wCtr, Mt.nums_one]
    have hf := first_at (f := wCtr) (Lib.itoa (t.ws.length : Int)) (by decide)
    have hi := inums_tail (e := []) (.inl rfl) (t.ws.length : Int) [] (by intro y hy; simp at hy; subst hy; omega)
    rw [nums_nil, List.append_nil, List.append_nil] at hi
    rw [e, rdt_line (st' := ⟨⟨n, c, p, b, ka ++ [⟨[], []⟩], ts⟩, (t.ws.length : Int)⟩) ?_ (.inr (by rw [hf.1]; decide)) ?_, rdt_words n c p b ka ts _ t.vs t.ws [] [] h1 h3 h4]
    · simp only [List.nil_append]
      rw [ih]
      simp
    · intro hm
      rcases List.mem_append.1 hm with h | h
      · revert h; decide
      · rcases List.mem_cons.1 h with h | h
        · revert h; decide
        · exact (itoa_no _).1 h
    · unfold dLine
      rw [if_neg (Int.lt_irrefl 0), hf.1, if_neg (by decide), if_pos rfl, hf.2]
      unfold dCtr
      rw [hi]
theorem cut_co {a r : List UInt8} (h : (58 : UInt8) ∉ a) : Lib.cut (a ++ 58 :: r) [58] = (a, r, true) := Pc.cut_at 58 a r h
theorem rdt_trees (n c p b : Int) (ks : List Kv) (R : List UInt8) : ∀ (ts ta : List Tr.T), (∀ t ∈ ts, (∀ x ∈ flat t.sp, bd x) ∧ ∀ x ∈ t.lv, bd x) →
    rdt (ttxts ts ++ R) ⟨⟨n, c, p, b, ks, ta⟩, 0⟩ = rdt R ⟨⟨n, c, p, b, ks, ta ++ ts⟩, 0⟩
  | [], ta, _ => by simp [ttxts]
  | t :: ts, ta, h => by
    obtain ⟨h1, h2⟩ := h t (by simp)
    have ih := rdt_trees n c p b ks R ts (ta ++ [t]) (fun u hu => h u (by simp [hu]))
    have hlv := inums_nums (e := []) (.inl rfl) t.lv h2
    rw [List.append_nil] at hlv
    have key : ∃ r, wTree ++ 32 :: r ++ 10 :: (ttxts ts ++ R) = ttxts (t :: ts) ++ R ∧ (10 : UInt8) ∉ r ∧ dTree ⟨⟨n, c, p, b, ks, ta⟩, 0⟩ r = some ⟨⟨n, c, p, b, ks, ta ++ [t]⟩, 0⟩ := by
      have et : (⟨pairs (flat t.sp), t.lv⟩ : Tr.T) = t := by rw [flat_pairs]
      cases hq : flat t.sp with
      | nil =>
        refine ⟨58 :: nums t.lv, ?_, ?_, ?_⟩
        · simp [ttxts, ttxt, wTree, spt_flat, hq, nums_nil]
        · intro hm
          rcases List.mem_cons.1 hm with h | h
          · revert h; decide
          · exact (nums_no _).1 h
        · have hc := cut_co (a := []) (r := nums t.lv) (by simp)
          rw [List.nil_append] at hc
          have h0 : inums [] = some [] := by
            have := inums_nums (e := []) (.inl rfl) [] (by intro x hx; simp at hx)
            rwa [nums_nil, List.append_nil] at this
          unfold dTree
          rw [hc]
          simp only [h0, hlv]
          rw [hq] at et
          rw [if_pos (by rfl), et]
      | cons x l =>
        refine ⟨Lib.itoa x ++ nums l ++ [32] ++ 58 :: nums t.lv, ?_, ?_, ?_⟩
        · simp [ttxts, ttxt, wTree, spt_flat, hq, nums_cons]
        · intro hm
          rcases List.mem_append.1 hm with h | h
          · rcases List.mem_append.1 h with h | h
            · rcases List.mem_append.1 h with h | h
              · exact (itoa_no _).1 h
              · exact (nums_no _).1 h
            · revert h; decide
          · rcases List.mem_cons.1 h with h | h
            · revert h; decide
            · exact (nums_no _).1 h
        · have hc := cut_co (a := Lib.itoa x ++ nums l ++ [32]) (r := nums t.lv) (by
            intro hm
            rcases List.mem_append.1 hm with h | h
            · rcases List.mem_append.1 h with h | h
              · exact (itoa_no _).2.2 h
              · exact (nums_no _).2 h
            · revert h; decide)
          have h0 := inums_tail (e := [32]) (.inr rfl) x l (by rw [← hq]; exact h1)
          unfold dTree
          rw [hc]
          simp only [h0, hlv]
          have := flat_even t.sp
          rw [hq] at this et
          rw [if_pos this, et]
    obtain ⟨r, e, hr, hd⟩ := key
    have hf := first_at (f := wTree) r (by decide)
    rw [← e, rdt_line (st' := ⟨⟨n, c, p, b, ks, ta ++ [t]⟩, 0⟩) ?_ (.inr (by rw [hf.1]; decide)) ?_, ih]
    · simp
    · intro hm
      rcases List.mem_append.1 hm with h | h
      · revert h; decide
      · rcases List.mem_cons.1 h with h | h
        · revert h; decide
        · exact hr h
    · unfold dLine
      rw [if_neg (Int.lt_irrefl 0), hf.1, if_neg (by decide), if_neg (by decide), if_pos rfl, hf.2]
      exact hd
/-- THE READING BACK. -/
theorem rdt_whole {m : M} (hg : Gd m) : rdt (whole m) ⟨zero, 0⟩ = some ⟨m, 0⟩ := by
  have e : whole m = head m ++ (ctxts m.ks ++ (ttxts m.ts ++ ((wSum ++ 32 :: Lib.itoa (Cr.crc (body m) : Int)) ++ 10 :: []))) := by
    unfold whole body wSum
    rw [Mt.nums_one]
    simp
  rw [e, rdt_head m hg, rdt_ctrs _ _ _ _ _ _ _ _ hg.k, rdt_trees _ _ _ _ _ _ _ _ hg.t, rdt_sum ?_ (Int.lt_irrefl 0) (first_at (f := wSum) _ (by decide)).1]
  · simp
  · intro hm
    rcases List.mem_append.1 hm with h | h
    · revert h; decide
    · rcases List.mem_cons.1 h with h | h
      · revert h; decide
      · exact (itoa_no _).1 h
end Go.Proofs.YtifemdjookmboaaGreatDoor.Rm
/-
  A model out of a text, as the model of the document reads it: plain functions of lists; the text of a good model gives the model.
-/
namespace Go.Proofs.YtifemdjookmboaaGreatDoor.Rs
set_option maxRecDepth 20000
open Go.Proofs.YtifemdjookmboaaGreatDoor.Md (M)
open Go.Proofs.YtifemdjookmboaaGreatDoor.Kt (Kv)
open Go.Proofs.YtifemdjookmboaaGreatDoor.Mt (nums nums_cons nums_nil head ctxt ttxt ctxts ttxts body whole wline wlines)
open Go.Proofs.YtifemdjookmboaaGreatDoor.Rm (St zero addW wModel wCtr wTree wSum pairs flat itoa_no nums_no)
set_option linter.unusedVariables false
noncomputable def snums : List (List UInt8) → Option (List Int)
  | [] => some []
  | f :: fs => match snum f, snums fs with
    | some v, some vs => some (v :: vs)
    | _, _ => none
noncomputable def sLine (st : St) (l : List UInt8) : Option St :=
  if 0 < st.left then match snum ((Pc.pieces 32 l).headD []) with
    | none => none
    | some v => if l.length < ((Pc.pieces 32 l).headD []).length + 1 then none else some ⟨⟨st.m.n, st.m.c, st.m.prior, st.m.base, addW st.m.ks ⟨(l.drop (((Pc.pieces 32 l).headD []).length + 1)).toArray⟩ v, st.m.ts⟩, st.left - 1⟩
  else if (Pc.pieces 32 l).headD [] = wModel ∧ (Pc.pieces 32 l).length = 5 then match snums (Pc.pieces 32 l).tail with
    | some [a, b, c, d] => some ⟨⟨a, b, c, d, st.m.ks, st.m.ts⟩, st.left⟩
    | _ => none
  else if (Pc.pieces 32 l).headD [] = wCtr ∧ (Pc.pieces 32 l).length = 2 then match snums (Pc.pieces 32 l).tail with
    | some [n] => if 0 ≤ n ∧ n ≤ 40 then some ⟨⟨st.m.n, st.m.c, st.m.prior, st.m.base, st.m.ks ++ [⟨[], []⟩], st.m.ts⟩, n⟩ else none
    | _ => none
  else if (Pc.pieces 32 l).headD [] = wTree then match stree (Pc.pieces 32 l).tail false [] [] with
    | some (a, l) => some ⟨⟨st.m.n, st.m.c, st.m.prior, st.m.base, st.m.ks, st.m.ts ++ [⟨pairs a, l⟩]⟩, st.left⟩
    | none => none
  else some st
noncomputable def srd : List (List UInt8) → St → Option St
  | [], st => some st
  | l :: ls, st => match sLine st l with
    | none => none
    | some st' => srd ls st'
noncomputable def srdt (s : List UInt8) (st : St) : Option St := srd (Pc.pieces 10 s) st
theorem srdt_line {l R : List UInt8} {st st' : St} (hl : (10 : UInt8) ∉ l) (h : sLine st l = some st') : srdt (l ++ 10 :: R) st = srdt R st' := by
  unfold srdt
  rw [Pc.pieces_cut 10 R l hl, srd, h]
theorem snums_map : ∀ (l : List Int), (∀ x ∈ l, b11 x) → snums (l.map Lib.itoa) = some l
  | [], _ => rfl
  | x :: l, h => by
    have h1 := snum_itoa (h x (by simp))
    have h2 := snums_map l (fun y hy => h y (by simp [hy]))
    simp only [List.map_cons, snums, h1, h2]
/-- A line of a name and words. -/
theorem line_of (a : List UInt8) (ha : (32 : UInt8) ∉ a) (ws : List (List UInt8)) (hw : ∀ x ∈ ws, (32 : UInt8) ∉ x) : Pc.pieces 32 (a ++ sps ws) = a :: ws := pieces_sps a ha ws hw
theorem itoas_no32 (l : List Int) : ∀ x ∈ l.map Lib.itoa, (32 : UInt8) ∉ x := by
  intro x hx
  obtain ⟨y, _, rfl⟩ := List.mem_map.1 hx
  exact itoa_no32 y
theorem srdt_head (m : M) (hg : ∀ x ∈ [m.n, m.c, m.prior, m.base], b11 x) (R : List UInt8) : srdt (head m ++ R) ⟨zero, 0⟩ = srdt R ⟨⟨m.n, m.c, m.prior, m.base, [], []⟩, 0⟩ := by
  have e : head m ++ R = (wModel ++ nums [m.n, m.c, m.prior, m.base]) ++ 10 :: R := by unfold head wModel; simp
  have hp : Pc.pieces 32 (wModel ++ nums [m.n, m.c, m.prior, m.base]) = wModel :: [m.n, m.c, m.prior, m.base].map Lib.itoa := by
    rw [nums_sps]; exact line_of _ (by decide) _ (itoas_no32 _)
  rw [e]
  refine srdt_line ?_ ?_
  · intro h
    rcases List.mem_append.1 h with h | h
    · revert h; decide
    · exact (nums_no _).1 h
  · unfold sLine
    rw [if_neg (by decide), hp, if_pos ⟨rfl, by simp⟩, List.tail_cons, snums_map _ hg]
    rfl
theorem srdt_words (n c p b : Int) (ks : List Kv) (ts : List Tr.T) (R : List UInt8) : ∀ (vs : List Int) (ws : List ByteArray) (wa : List ByteArray) (va : List Int), vs.length = ws.length → (∀ v ∈ vs, b11 v) → (∀ s ∈ ws, (10 : UInt8) ∉ s.data.toList) →
    srdt (wlines vs ws ++ R) ⟨⟨n, c, p, b, ks ++ [⟨wa, va⟩], ts⟩, (ws.length : Int)⟩ = srdt R ⟨⟨n, c, p, b, ks ++ [⟨wa ++ ws, va ++ vs⟩], ts⟩, 0⟩
  | [], [], wa, va, _, _, _ => by simp [wlines]
  | [], s :: ws, wa, va, h, _, _ => by simp at h
  | v :: vs, [], wa, va, h, _, _ => by simp at h
  | v :: vs, s :: ws, wa, va, h, hv, hs => by
    have ih := srdt_words n c p b ks ts R vs ws (wa ++ [s]) (va ++ [v]) (by simpa using h) (fun x hx => hv x (by simp [hx])) (fun x hx => hs x (by simp [hx]))
    have e : wlines (v :: vs) (s :: ws) ++ R = (Lib.itoa v ++ 32 :: s.data.toList) ++ 10 :: (wlines vs ws ++ R) := by
      simp [wlines, wline]
    have hp : (Pc.pieces 32 (Lib.itoa v ++ 32 :: s.data.toList)).headD [] = Lib.itoa v := by rw [Pc.pieces_cut 32 _ _ (itoa_no32 v)]; rfl
    have hpos : (0 : Int) < (((s :: ws).length : Nat) : Int) := by rw [List.length_cons]; omega
    rw [e, srdt_line (st' := ⟨⟨n, c, p, b, ks ++ [⟨wa ++ [s], va ++ [v]⟩], ts⟩, (ws.length : Int)⟩) ?_ ?_, ih]
    · simp
    · intro hm
      rcases List.mem_append.1 hm with h | h
      · exact (itoa_no _).1 h
      · rcases List.mem_cons.1 h with h | h
        · revert h; decide
        · exact hs s (by simp) h
    · unfold sLine
      rw [if_pos hpos, hp, snum_itoa (hv v (by simp))]
      have e3 : (⟨((Lib.itoa v ++ 32 :: s.data.toList).drop ((Lib.itoa v).length + 1)).toArray⟩ : ByteArray) = s := by
        rw [← List.drop_drop, List.drop_left]
        cases s; rfl
      simp only [e3, Rm.addW_snoc]
      rw [if_neg (by simp)]
      congr 2
      simp
theorem srdt_ctrs (n c p b : Int) (ts : List Tr.T) (R : List UInt8) : ∀ (ks ka : List Kv), (∀ t ∈ ks, t.vs.length = t.ws.length ∧ t.ws.length ≤ 40 ∧ (∀ v ∈ t.vs, b11 v) ∧ ∀ s ∈ t.ws, (10 : UInt8) ∉ s.data.toList) →
    srdt (ctxts ks ++ R) ⟨⟨n, c, p, b, ka, ts⟩, 0⟩ = srdt R ⟨⟨n, c, p, b, ka ++ ks, ts⟩, 0⟩
  | [], ka, _ => by simp [ctxts]
  | t :: ks, ka, h => by
    obtain ⟨h1, h2, h3, h4⟩ := h t (by simp)
    have ih := srdt_ctrs n c p b ts R ks (ka ++ [t]) (fun u hu => h u (by simp [hu]))
    have e : ctxts (t :: ks) ++ R = (wCtr ++ nums [(t.ws.length : Int)]) ++ 10 :: (wlines t.vs t.ws ++ (ctxts ks ++ R)) := by
      simp [ctxts, ctxt, wCtr]
    have hp : Pc.pieces 32 (wCtr ++ nums [(t.ws.length : Int)]) = wCtr :: [(t.ws.length : Int)].map Lib.itoa := by
      rw [nums_sps]; exact line_of _ (by decide) _ (itoas_no32 _)
    rw [e, srdt_line (st' := ⟨⟨n, c, p, b, ka ++ [⟨[], []⟩], ts⟩, (t.ws.length : Int)⟩) ?_ ?_, srdt_words n c p b ka ts _ t.vs t.ws [] [] h1 h3 h4]
    · simp only [List.nil_append]
      rw [ih]
      simp
    · intro hm
      rcases List.mem_append.1 hm with h | h
      · revert h; decide
      · exact (nums_no _).1 h
    · unfold sLine
      rw [if_neg (Int.lt_irrefl 0), hp, List.headD_cons, if_neg (fun e => absurd e.1 (by decide)), if_pos ⟨rfl, by simp⟩, List.tail_cons, snums_map _ (by intro y hy; simp at hy; subst hy; unfold b11; omega)]
      simp only
      rw [if_pos ⟨by omega, by omega⟩]
theorem srdt_trees (n c p b : Int) (ks : List Kv) (R : List UInt8) : ∀ (ts ta : List Tr.T), (∀ t ∈ ts, (∀ x ∈ flat t.sp, b11 x) ∧ ∀ x ∈ t.lv, b11 x) →
    srdt (ttxts ts ++ R) ⟨⟨n, c, p, b, ks, ta⟩, 0⟩ = srdt R ⟨⟨n, c, p, b, ks, ta ++ ts⟩, 0⟩
  | [], ta, _ => by simp [ttxts]
  | t :: ts, ta, h => by
    obtain ⟨h1, h2⟩ := h t (by simp)
    have ih := srdt_trees n c p b ks R ts (ta ++ [t]) (fun u hu => h u (by simp [hu]))
    have e : ttxts (t :: ts) ++ R = (wTree ++ sps ((flat t.sp).map Lib.itoa ++ [58] :: t.lv.map Lib.itoa)) ++ 10 :: (ttxts ts ++ R) := by
      rw [sps_app, ← nums_sps]
      simp [ttxts, ttxt, wTree, Rm.spt_flat, sps, ← nums_sps]
    have hp : Pc.pieces 32 (wTree ++ sps ((flat t.sp).map Lib.itoa ++ [58] :: t.lv.map Lib.itoa)) = wTree :: ((flat t.sp).map Lib.itoa ++ [58] :: t.lv.map Lib.itoa) := by
      refine line_of _ (by decide) _ (fun x hx => ?_)
      rcases List.mem_append.1 hx with h | h
      · exact itoas_no32 _ x h
      · rcases List.mem_cons.1 h with rfl | h
        · decide
        · exact itoas_no32 _ x h
    have et : (⟨pairs (flat t.sp), t.lv⟩ : Tr.T) = t := by rw [Rm.flat_pairs]
    rw [e, srdt_line (st' := ⟨⟨n, c, p, b, ks, ta ++ [t]⟩, 0⟩) ?_ ?_, ih]
    · simp
    · rw [sps_app, sps, ← nums_sps, ← nums_sps]
      intro hm
      rcases List.mem_append.1 hm with h | h
      · revert h; decide
      · rcases List.mem_append.1 h with h | h
        · exact (nums_no _).1 h
        · rcases List.mem_cons.1 h with h | h
          · revert h; decide
          · rcases List.mem_append.1 h with h | h
            · revert h; decide
            · exact (nums_no _).1 h
    · have hb := stree_back (flat t.sp) t.lv [] h1 h2
      rw [List.nil_append] at hb
      unfold sLine
      rw [if_neg (Int.lt_irrefl 0), hp, List.headD_cons, if_neg (fun e => absurd e.1 (by decide)), if_neg (fun e => absurd e.1 (by decide)), if_pos rfl, List.tail_cons, hb]
      simp only [et]
end Go.Proofs.YtifemdjookmboaaGreatDoor.Rs
/-
  One more table of words, or tree, put behind a list of them; one more word, or number, put behind those of one table.
-/
namespace Go.Proofs.YtifemdjookmboaaGreatDoor.Ps
set_option maxRecDepth 20000
open Go.RowKit
open Go.Proofs.YtifemdjookmboaaGreatDoor.Tb (ownsRow_at)
open Go.Proofs.YtifemdjookmboaaGreatDoor.Kt (Kv OwK owk_snoc)
open Go.Proofs.YtifemdjookmboaaGreatDoor.To (OwT owt_snoc)
open Go.Proofs.YtifemdjookmboaaGreatDoor.Tm (OwnP)
set_option linter.unusedVariables false
theorem info_ctr : (Tryz.prog.info? 39).map (fun i => (i.zero, i.size, i.bytes)) = some (some (.agg #[.slice none 0 0, .slice none 0 0]), 2, 48) := by kernel_rfl
theorem info_tree : (Tryz.prog.info? 43).map (fun i => (i.zero, i.size, i.bytes)) = some (some (.agg #[.slice none 0 0, .slice none 0 0]), 2, 48) := by kernel_rfl
theorem pair_cell {w : World} {E : Nat} {u0 u1 : Value} (e0 : w.cell? ⟨E, 0, none⟩ = some u0) (e1 : w.cell? ⟨E, 1, none⟩ = some u1) : ∀ j u, ([u0, u1] : List Value)[j]? = some u → w.cell? ((⟨E, 0, none⟩ : Addr).add j) = some u := by
  intro j u hj
  rw [Go.WideShapes.add_plain, Nat.zero_add]
  match j, hj with
  | 0, hj => simp at hj; subst hj; exact e0
  | 1, hj => simp at hj; subst hj; exact e1
theorem pair_one {a b : Option Addr} {n c m d : Nat} : ∀ u ∈ ([.slice a n c, .slice b m d] : List Value), u.oneCell' = true := by
  intro u hu
  simp at hu
  rcases hu with rfl | rfl <;> rfl
theorem run_pushK (w : World) (ty : TypeId) (B : Nat → Prop) (m : Nat) (v : Value) (ks : List Kv) (h : OwK w (fun y => B y ∧ y < m) v ks) (E : Nat) (b0 b1 : Option Addr) (d0 d1 n0 n1 : Nat) (t : Kv)
    (e0 : w.cell? ⟨E, 0, none⟩ = some (.slice b0 n0 d0)) (e1 : w.cell? ⟨E, 1, none⟩ = some (.slice b1 n1 d1)) (o0 : Ls.Own w m (.slice b0 n0 d0) t.ws) (o1 : Li.Own w m (.slice b1 n1 d1) t.vs) (h01 : ∀ k, (Value.slice b0 n0 d0).ownBlock = some k → (Value.slice b1 n1 d1).ownBlock ≠ some k)
    (hB : ∀ y, m ≤ y → B y) (hm : m ≤ w.heap.size) (hl : ks.length ≤ 1048576) :
    ∃ a5 c5 w5, (Builtin.append_ #[24, 24] ty #[v, .slice (some ⟨E, 0, none⟩) 1 1]).run Tryz.prog w = .ok (.slice a5 (ks.length + 1) c5) w5 ∧ OwK w5 B (.slice a5 (ks.length + 1) c5) (ks ++ [t]) ∧ w.grownBy w5 v.ownBlock := by
  obtain ⟨i0, hi, hz0, hz1, hz2⟩ := info_parts info_ctr
  obtain ⟨vs, hown, hvl, he, hv, hbb, hss⟩ := h
  obtain ⟨v', w', hr, h2, h3, hnil, h5⟩ := run_append_own_at (P := Tryz.prog) w 0 24 ty 39 i0 (.agg #[.slice none 0 0, .slice none 0 0]) 2 48 Tryz.underlying24 hi hz0 hz1 hz2 rfl (by decide) v ks.length vs hown ⟨E, 0, none⟩ 1 1 [.slice b0 n0 d0, .slice b1 n1 d1] rfl (pair_cell e0 e1) pair_one (by unfold maxLen; omega) (by omega) (by omega)
  have hok := owk_snoc (B := B) (m := m) hvl he hv hbb hss o0 o1 h01 hB hm h2 h3 h5
  obtain ⟨a5, c5, e5, _⟩ := hok.isk
  rw [List.length_append] at e5
  subst e5
  exact ⟨a5, c5, w', hr, hok, h3⟩
theorem run_pushT (w : World) (ty : TypeId) (B : Nat → Prop) (m : Nat) (v : Value) (ks : List Tr.T) (h : OwT w (fun y => B y ∧ y < m) v ks) (E : Nat) (b0 b1 : Option Addr) (d0 d1 n0 n1 : Nat) (t : Tr.T)
    (e0 : w.cell? ⟨E, 0, none⟩ = some (.slice b0 n0 d0)) (e1 : w.cell? ⟨E, 1, none⟩ = some (.slice b1 n1 d1)) (o0 : OwnP w m (.slice b0 n0 d0) t.sp) (o1 : Li.Own w m (.slice b1 n1 d1) t.lv) (h01 : ∀ k, (Value.slice b0 n0 d0).ownBlock = some k → (Value.slice b1 n1 d1).ownBlock ≠ some k)
    (hB : ∀ y, m ≤ y → B y) (hm : m ≤ w.heap.size) (hl : ks.length ≤ 1048576) :
    ∃ a5 c5 w5, (Builtin.append_ #[25, 25] ty #[v, .slice (some ⟨E, 0, none⟩) 1 1]).run Tryz.prog w = .ok (.slice a5 (ks.length + 1) c5) w5 ∧ OwT w5 B (.slice a5 (ks.length + 1) c5) (ks ++ [t]) ∧ w.grownBy w5 v.ownBlock := by
  obtain ⟨i0, hi, hz0, hz1, hz2⟩ := info_parts info_tree
  obtain ⟨vs, hown, hvl, he, hv, hbb, hss⟩ := h
  obtain ⟨v', w', hr, h2, h3, hnil, h5⟩ := run_append_own_at (P := Tryz.prog) w 0 25 ty 43 i0 (.agg #[.slice none 0 0, .slice none 0 0]) 2 48 Tryz.underlying25 hi hz0 hz1 hz2 rfl (by decide) v ks.length vs hown ⟨E, 0, none⟩ 1 1 [.slice b0 n0 d0, .slice b1 n1 d1] rfl (pair_cell e0 e1) pair_one (by unfold maxLen; omega) (by omega) (by omega)
  have hok := owt_snoc (B := B) (m := m) hvl he hv hbb hss o0 o1 h01 hB hm h2 h3 h5
  obtain ⟨a5, c5, e5, _⟩ := hok.ist
  rw [List.length_append] at e5
  subst e5
  exact ⟨a5, c5, w', hr, hok, h3⟩
theorem wpl_pushK {ops : Array Oper} {rest : List Oper} {o : Oper} {a : Act} {w : World} {Q : Exit → Act → World → Prop} (hgd : o.guard = none) (s x : Operand) (ho : o.op = .call { callee := .builtin .append, args := #[s, x], argTypes := #[24, 24] })
    (B : Nat → Prop) (m : Nat) (v : Value) (ks : List Kv) (h : OwK w (fun y => B y ∧ y < m) v ks) (E : Nat) (b0 b1 : Option Addr) (d0 d1 n0 n1 : Nat) (t : Kv) (hs : a.eval s = v) (hx : a.eval x = .slice (some ⟨E, 0, none⟩) 1 1)
    (e0 : w.cell? ⟨E, 0, none⟩ = some (.slice b0 n0 d0)) (e1 : w.cell? ⟨E, 1, none⟩ = some (.slice b1 n1 d1)) (o0 : Ls.Own w m (.slice b0 n0 d0) t.ws) (o1 : Li.Own w m (.slice b1 n1 d1) t.vs) (h01 : ∀ k, (Value.slice b0 n0 d0).ownBlock = some k → (Value.slice b1 n1 d1).ownBlock ≠ some k)
    (hB : ∀ y, m ≤ y → B y) (hm : m ≤ w.heap.size) (hl : ks.length ≤ 1048576)
    (hq : ∀ a5 c5 w5, OwK w5 B (.slice a5 (ks.length + 1) c5) (ks ++ [t]) → w.grownBy w5 v.ownBlock → wpList Tryz.prog ops Q rest (a.put o.dst (.slice a5 (ks.length + 1) c5)) w5) : wpList Tryz.prog ops Q (o :: rest) a w := by
  obtain ⟨a5, c5, w5, hr, h2, h3⟩ := run_pushK w o.type B m v ks h E b0 b1 d0 d1 n0 n1 t e0 e1 o0 o1 h01 hB hm hl
  refine wpList_plain hgd fun K hK => ?_
  unfold Oper.wp execOp
  simp only [ho, resolve, invoke, builtin, Sem.run_bind, Sem.run_pure, Result.andThen_ok, List.map_toArray, List.map_cons, List.map_nil, hs, hx, hr]
  exact hK _ _ (hq a5 c5 w5 h2 h3)
theorem wp_pushT {o : Oper} {a : Act} {w : World} {K : Act → World → Prop} {Q : Exit → Act → World → Prop} (s x : Operand) (ho : o.op = .call { callee := .builtin .append, args := #[s, x], argTypes := #[25, 25] }) (dt : Option Tmp) (hd : o.dst = dt)
    (B : Nat → Prop) (m : Nat) (v : Value) (ks : List Tr.T) (h : OwT w (fun y => B y ∧ y < m) v ks) (E : Nat) (b0 b1 : Option Addr) (d0 d1 n0 n1 : Nat) (t : Tr.T) (hs : a.eval s = v) (hx : a.eval x = .slice (some ⟨E, 0, none⟩) 1 1)
    (e0 : w.cell? ⟨E, 0, none⟩ = some (.slice b0 n0 d0)) (e1 : w.cell? ⟨E, 1, none⟩ = some (.slice b1 n1 d1)) (o0 : OwnP w m (.slice b0 n0 d0) t.sp) (o1 : Li.Own w m (.slice b1 n1 d1) t.lv) (h01 : ∀ k, (Value.slice b0 n0 d0).ownBlock = some k → (Value.slice b1 n1 d1).ownBlock ≠ some k)
    (hB : ∀ y, m ≤ y → B y) (hm : m ≤ w.heap.size) (hl : ks.length ≤ 1048576)
    (hq : ∀ a5 c5 w5, OwT w5 B (.slice a5 (ks.length + 1) c5) (ks ++ [t]) → w.grownBy w5 v.ownBlock → K (a.put dt (.slice a5 (ks.length + 1) c5)) w5) : o.wp Tryz.prog a w K Q := by
  subst hd
  obtain ⟨a5, c5, w5, hr, h2, h3⟩ := run_pushT w o.type B m v ks h E b0 b1 d0 d1 n0 n1 t e0 e1 o0 o1 h01 hB hm hl
  unfold Oper.wp execOp
  simp only [ho, resolve, invoke, builtin, Sem.run_bind, Sem.run_pure, Result.andThen_ok, List.map_toArray, List.map_cons, List.map_nil, hs, hx, hr]
  exact hq a5 c5 w5 h2 h3
/-! ### One table's words, or numbers, put anew: a slice of the same row, or of a new one -/
theorem getD_set1 {vs : List Value} {q p : Nat} {u : Value} (hq : q < vs.length) : (vs.set q u).getD p undef = if p = q then u else vs.getD p undef := by
  by_cases h : p = q
  · subst h; simp [hq]
  · simp [h, Ne.symm h]
theorem repl {w w1 : World} {B : Nat → Prop} {v : Value} {ts : List Kv} {vs : List Value} {p : Nat} {u0 : Value} (ho : w.ownsRow 0 39 2 v ts.length vs) (hl : vs.length = ts.length * 2) (hp : p < vs.length)
    (hv : ∀ k, v.ownBlock = some k → B k) (hb : ∀ p, p < vs.length → ∀ k, (vs.getD p undef).ownBlock = some k → B k ∧ v.ownBlock ≠ some k) (hs : ∀ p q, p < vs.length → q < vs.length → ¬ p = q → ∀ k, (vs.getD p undef).ownBlock = some k → (vs.getD q undef).ownBlock ≠ some k)
    (hlt : ∀ p, p < vs.length → ∀ k, (vs.getD p undef).ownBlock = some k → k < w.heap.size) (g : Nat) (hvg : v.ownBlock = some g) (hg : w.grownBy w1 (vs.getD p undef).ownBlock) (hu : u0.ownBlock = (vs.getD p undef).ownBlock ∨ ∃ F, u0.ownBlock = some F ∧ w.heap.size ≤ F ∧ B F) :
    (w1.setCell ⟨g, p, none⟩ u0).ownsRow 0 39 2 v ts.length (vs.set p u0) ∧ (∀ q, q < (vs.set p u0).length → ∀ k, ((vs.set p u0).getD q undef).ownBlock = some k → B k ∧ v.ownBlock ≠ some k) ∧ (∀ q r, q < (vs.set p u0).length → r < (vs.set p u0).length → ¬ q = r → ∀ k, ((vs.set p u0).getD q undef).ownBlock = some k → ((vs.set p u0).getD r undef).ownBlock ≠ some k) := by
  have hgl := (World.ownsRow.lt ho g hvg).2
  have ho1 : w1.ownsRow 0 39 2 v ts.length vs := ownsRow_at ho (fun k e => hg.block k (World.ownsRow.lt ho k e).2 (fun e' => (hb p hp k e'.symm).2 e))
  have hu1 : ∀ k, u0.ownBlock = some k → B k ∧ v.ownBlock ≠ some k := fun k e => by
    rcases hu with h | ⟨F, h1, h2, h3⟩
    · exact hb p hp k (h ▸ e)
    · rw [h1] at e; injection e with e; subst e
      exact ⟨h3, fun e' => by have := (World.ownsRow.lt ho _ e').2; omega⟩
  have hu2 : ∀ q, q < vs.length → ¬ q = p → ∀ k, (vs.getD q undef).ownBlock = some k → u0.ownBlock ≠ some k := fun q hq hqp k e e' => by
    rcases hu with h | ⟨F, h1, h2, h3⟩
    · exact hs q p hq hp hqp k e (h ▸ e')
    · rw [h1] at e'; injection e' with e'; have := hlt q hq k e; omega
  refine ⟨?_, fun q hq k e => ?_, fun q r hq hr hqr k e => ?_⟩
  · rcases ho1.2 with ⟨rfl, h0⟩ | ⟨g', cap, cur, rfl, _⟩
    · simp [Value.ownBlock] at hvg
    · have : g' = g := by simpa [Value.ownBlock] using hvg
      subst this
      exact (World.ownsRow.stored ho1 p u0).1
  · have hq' : q < vs.length := by simpa using hq
    rw [getD_set1 hp] at e
    by_cases h : q = p
    · rw [if_pos h] at e; exact hu1 k e
    · rw [if_neg h] at e; exact hb q hq' k e
  · have hq' : q < vs.length := by simpa using hq
    have hr' : r < vs.length := by simpa using hr
    rw [getD_set1 hp] at e ⊢
    by_cases h : q = p
    · rw [if_pos h] at e
      rw [if_neg (by omega)]
      exact fun e' => hu2 r hr' (by omega) k e' e
    · rw [if_neg h] at e
      by_cases h2 : r = p
      · rw [if_pos h2]; exact hu2 q hq' h k e
      · rw [if_neg h2]; exact hs q r hq' hr' hqr k e
theorem repl0 {w : World} {B : Nat → Prop} {v : Value} {ts : List Kv} (h : OwK w B v ts) (j : Nat) (hj : j < ts.length) : ∃ a c g a0 c0, v = .slice a ts.length c ∧ a = some ⟨g, 0, none⟩ ∧ w.cell? ⟨g, j * 2, none⟩ = some (.slice a0 ts[j].ws.length c0) ∧ w.frozen? ⟨g, j * 2, none⟩ = false ∧ Ls.Own w 0 (.slice a0 ts[j].ws.length c0) ts[j].ws ∧ g < w.heap.size ∧ B g ∧ (∀ k, (Value.slice a0 ts[j].ws.length c0).ownBlock = some k → B k ∧ ¬ k = g) ∧
    ∀ w1 u0 ws', Ls.Own w1 0 u0 ws' → w.grownBy w1 (Value.slice a0 ts[j].ws.length c0).ownBlock → (u0.ownBlock = (Value.slice a0 ts[j].ws.length c0).ownBlock ∨ ∃ F, u0.ownBlock = some F ∧ w.heap.size ≤ F ∧ B F) → OwK (w1.setCell ⟨g, j * 2, none⟩ u0) B v (ts.set j ⟨ws', ts[j].vs⟩) := by
  obtain ⟨vs, ho, hl, he, hv, hb, hs⟩ := h
  have h' := ho
  rcases ho.2 with ⟨rfl, h0⟩ | ⟨g, cap, cur, rfl, hbg, hh, _⟩
  · omega
  obtain ⟨o0, o1⟩ := he j hj
  obtain ⟨a0, c0, e0, i0⟩ := o0.iss
  have hlt : ∀ p, p < vs.length → ∀ k, (vs.getD p undef).ownBlock = some k → k < w.heap.size := fun p hp k e => by
    obtain ⟨i, hi, rfl | rfl⟩ := Kt.half2 (n := ts.length) (p := p) (by omega)
    · exact ((he i hi).1.ge k e).2
    · exact ((he i hi).2.ge k e).2
  refine ⟨_, cap, g, a0, c0, rfl, rfl, ?_, World.ownsRow.frozenAt h' _, e0 ▸ o0, (Array.getElem?_eq_some_iff.1 hh).1, hv g rfl, fun k e => ?_, fun w1 u0 ws' hw hg hu => ?_⟩
  · rw [World.ownsRow.cellAt h' _ (by omega), ← e0]
    simp [List.getElem?_eq_getElem (show j * 2 < vs.length by omega)]
  · rw [← e0] at e
    exact ⟨(hb _ (by omega) k e).1, fun e' => (hb _ (by omega) k e).2 (by rw [e']; rfl)⟩
  · rw [← e0] at hg hu
    obtain ⟨r1, r2, r3⟩ := repl (p := j * 2) ho hl (by omega) hv hb hs hlt g rfl hg hu
    have hun : ∀ k, u0.ownBlock = some k → ¬ k = g := fun k e e' => by
      have := (r2 (j * 2) (by simp; omega) k (by rw [getD_set1 (by omega), if_pos rfl]; exact e)).2
      exact this (by rw [e']; rfl)
    refine ⟨vs.set (j * 2) u0, by rw [List.length_set]; exact r1, by simpa using hl, fun i hi => ?_, hv, r2, r3⟩
    have hi' : i < ts.length := by simpa using hi
    obtain ⟨q0, q1⟩ := he i hi'
    have kept1 : ∀ p, p < vs.length → ¬ p = j * 2 → ∀ k, (vs.getD p undef).ownBlock = some k → (w1.setCell ⟨g, j * 2, none⟩ u0).heap[k]? = w.heap[k]? := fun p hp hpj k e => by
      rw [(Li.grown_set w1 g (j * 2) u0).block k (Nat.lt_of_lt_of_le (hlt p hp k e) hg.size) (fun e2 => by cases e2; exact (hb p hp g e).2 rfl)]
      exact hg.block k (hlt p hp k e) (fun e2 => hs p (j * 2) hp (by omega) hpj k e e2.symm)
    have k1 : Li.Own (w1.setCell ⟨g, j * 2, none⟩ u0) 0 (vs.getD (i * 2 + 1) undef) ts[i].vs := ownsRow_at q1 (fun k e => kept1 _ (by omega) (by omega) k e)
    rw [getD_set1 (by omega), getD_set1 (by omega), if_neg (show ¬ i * 2 + 1 = j * 2 by omega)]
    by_cases hij : i = j
    · subst hij
      rw [if_pos rfl, List.getElem_set_self]
      exact ⟨ownsRow_at hw (fun k e => (Li.grown_set w1 g (i * 2) u0).block k (hw.ge k e).2 (fun e2 => by cases e2; exact hun g e rfl)), k1⟩
    · rw [if_neg (by omega), List.getElem_set_ne (fun e => hij e.symm)]
      exact ⟨ownsRow_at q0 (fun k e => kept1 _ (by omega) (by omega) k e), k1⟩
theorem repl1 {w : World} {B : Nat → Prop} {v : Value} {ts : List Kv} (h : OwK w B v ts) (j : Nat) (hj : j < ts.length) : ∃ a c g a0 c0, v = .slice a ts.length c ∧ a = some ⟨g, 0, none⟩ ∧ w.cell? ⟨g, j * 2 + 1, none⟩ = some (.slice a0 ts[j].vs.length c0) ∧ w.frozen? ⟨g, j * 2 + 1, none⟩ = false ∧ Li.Own w 0 (.slice a0 ts[j].vs.length c0) ts[j].vs ∧ g < w.heap.size ∧ B g ∧ (∀ k, (Value.slice a0 ts[j].vs.length c0).ownBlock = some k → B k ∧ ¬ k = g) ∧
    ∀ w1 u0 vs', Li.Own w1 0 u0 vs' → w.grownBy w1 (Value.slice a0 ts[j].vs.length c0).ownBlock → (u0.ownBlock = (Value.slice a0 ts[j].vs.length c0).ownBlock ∨ ∃ F, u0.ownBlock = some F ∧ w.heap.size ≤ F ∧ B F) → OwK (w1.setCell ⟨g, j * 2 + 1, none⟩ u0) B v (ts.set j ⟨ts[j].ws, vs'⟩) := by
  obtain ⟨vs, ho, hl, he, hv, hb, hs⟩ := h
  have h' := ho
  rcases ho.2 with ⟨rfl, h0⟩ | ⟨g, cap, cur, rfl, hbg, hh, _⟩
  · omega
  obtain ⟨o0, o1⟩ := he j hj
  obtain ⟨a0, c0, e0, i0⟩ := o1.isl
  have hlt : ∀ p, p < vs.length → ∀ k, (vs.getD p undef).ownBlock = some k → k < w.heap.size := fun p hp k e => by
    obtain ⟨i, hi, rfl | rfl⟩ := Kt.half2 (n := ts.length) (p := p) (by omega)
    · exact ((he i hi).1.ge k e).2
    · exact ((he i hi).2.ge k e).2
  refine ⟨_, cap, g, a0, c0, rfl, rfl, ?_, World.ownsRow.frozenAt h' _, e0 ▸ o1, (Array.getElem?_eq_some_iff.1 hh).1, hv g rfl, fun k e => ?_, fun w1 u0 vs' hw hg hu => ?_⟩
  · rw [World.ownsRow.cellAt h' _ (by omega), ← e0]
    simp [List.getElem?_eq_getElem (show j * 2 + 1 < vs.length by omega)]
  · rw [← e0] at e
    exact ⟨(hb _ (by omega) k e).1, fun e' => (hb _ (by omega) k e).2 (by rw [e']; rfl)⟩
  · rw [← e0] at hg hu
    obtain ⟨r1, r2, r3⟩ := repl (p := j * 2 + 1) ho hl (by omega) hv hb hs hlt g rfl hg hu
    have hun : ∀ k, u0.ownBlock = some k → ¬ k = g := fun k e e' => by
      have := (r2 (j * 2 + 1) (by simp; omega) k (by rw [getD_set1 (by omega), if_pos rfl]; exact e)).2
      exact this (by rw [e']; rfl)
    refine ⟨vs.set (j * 2 + 1) u0, by rw [List.length_set]; exact r1, by simpa using hl, fun i hi => ?_, hv, r2, r3⟩
    have hi' : i < ts.length := by simpa using hi
    obtain ⟨q0, q1⟩ := he i hi'
    have kept1 : ∀ p, p < vs.length → ¬ p = j * 2 + 1 → ∀ k, (vs.getD p undef).ownBlock = some k → (w1.setCell ⟨g, j * 2 + 1, none⟩ u0).heap[k]? = w.heap[k]? := fun p hp hpj k e => by
      rw [(Li.grown_set w1 g (j * 2 + 1) u0).block k (Nat.lt_of_lt_of_le (hlt p hp k e) hg.size) (fun e2 => by cases e2; exact (hb p hp g e).2 rfl)]
      exact hg.block k (hlt p hp k e) (fun e2 => hs p (j * 2 + 1) hp (by omega) hpj k e e2.symm)
    have k0 : Ls.Own (w1.setCell ⟨g, j * 2 + 1, none⟩ u0) 0 (vs.getD (i * 2) undef) ts[i].ws := ownsRow_at q0 (fun k e => kept1 _ (by omega) (by omega) k e)
    rw [getD_set1 (by omega), getD_set1 (by omega), if_neg (show ¬ i * 2 = j * 2 + 1 by omega)]
    by_cases hij : i = j
    · subst hij
      rw [if_pos rfl, List.getElem_set_self]
      exact ⟨k0, ownsRow_at hw (fun k e => (Li.grown_set w1 g (i * 2 + 1) u0).block k (hw.ge k e).2 (fun e2 => by cases e2; exact hun g e rfl))⟩
    · rw [if_neg (by omega), List.getElem_set_ne (fun e => hij e.symm)]
      exact ⟨k0, ownsRow_at q1 (fun k e => kept1 _ (by omega) (by omega) k e)⟩
end Go.Proofs.YtifemdjookmboaaGreatDoor.Ps
/-
  append: a number put behind a list of the call's own; a list that has just been made empty; frames.
-/
namespace Go.Proofs.YtifemdjookmboaaGreatDoor.Ai
open Go.RowKit
open Go.Proofs.YtifemdjookmboaaGreatDoor.Li
theorem one_cell (w : World) (T : TypeId) (x : Int) : ∀ j u, ([Value.int .i64 x] : List Value)[j]? = some u → (w.alloc (.cells #[.int .i64 x] T)).cell? ((⟨w.heap.size, 0, none⟩ : Addr).add j) = some u := by
  intro j u hj
  match j, hj with
  | 0, hj => simp at hj; subst hj; simp [Addr.add]
theorem one_at {w : World} {T : TypeId} {x : Int} {H : Nat} (h : w.heap.size = H) : ∀ j u, ([Value.int .i64 x] : List Value)[j]? = some u → (w.alloc (.cells #[.int .i64 x] T)).cell? ((⟨H, 0, none⟩ : Addr).add j) = some u := by
  subst h; exact one_cell _ _ _
theorem one_one (x : Int) : ∀ u ∈ ([Value.int .i64 x] : List Value), u.oneCell' = true := by
  intro u hu; simp at hu; subst hu; rfl
theorem own_snoc {w : World} {base n : Nat} {v : Value} {l : List Int} {x : Int} (hn : l.length = n) (h : w.ownsRow base 3 1 v (n + 1) (iv l ++ [.int .i64 x])) : Own w base v (l ++ [x]) := by
  subst hn
  unfold Own
  rw [← iv_append, List.length_append]
  exact h
theorem own_cat {w : World} {base n : Nat} {v : Value} {l m : List Int} (hn : l.length = n) (h : w.ownsRow base 3 1 v (n + m.length) (iv l ++ iv m)) : Own w base v (l ++ m) := by
  subst hn
  unfold Own
  rw [← iv_append, List.length_append]
  exact h
theorem own_empty (w : World) (base : Nat) (hb : base ≤ w.heap.size) : Own (w.alloc (.cells #[] 3)) base (.slice (some ⟨w.heap.size, 0, none⟩) 0 0) [] :=
  World.ownsRow_made w #[] 0 hb (by unfold maxLen; omega) (by simp)
/-- What a list reads as, for an append of all of it. -/
theorem news_i {w : World} {ad : Addr} {xs : List Int} (h : IsL w (some ad) xs) : ∀ j u, (iv xs)[j]? = some u → w.cell? (ad.add j) = some u := by
  intro j u hj
  rcases h with rfl | ⟨b, off, e, _, hc⟩
  · simp [iv] at hj
  · cases e
    have hlt : j < xs.length := by
      apply Classical.byContradiction
      intro hn
      rw [List.getElem?_eq_none (by rw [iv_length]; omega)] at hj
      cases hj
    rw [iv_get xs j hlt] at hj
    rw [Go.WideShapes.add_plain, hc j hlt, hj]
/-- What grows in the call's own blocks turns nothing below. -/
theorem below_app {w wr w1 : World} {B : Nat} {r : Option Nat} (hB : Below B w wr) (hs : B ≤ wr.heap.size) (hg : wr.grownBy w1 r) (hr : ∀ k, r = some k → B ≤ k) : Below B w w1 :=
  hB.trans ⟨hg.os, hg.tape, hg.output, hg.size, fun k hk => hg.block k (by omega) (fun e => by have := hr k e.symm; omega)⟩
theorem grown_undrew {w w1 : World} {r : Option Nat} (h : w.drew.grownBy w1 r) : w.grownBy w1 r := ⟨h.os, h.tape, h.output, h.size, h.block⟩
theorem grown_of_below {w w1 w2 : World} {b : Nat} (h : w.grownBy w1 (some b)) (hB : Below w1.heap.size w1 w2) : w.grownBy w2 (some b) :=
  ⟨hB.os.trans h.os, hB.tape.trans h.tape, hB.output.trans h.output, Nat.le_trans h.size hB.size, fun k hk hr => (hB.block k (Nat.lt_of_lt_of_le hk h.size)).trans (h.block k hk hr)⟩
/-- What lies in new blocks stays where the cursor goes on. -/
theorem own_cur {w w1 : World} {b B : Nat} {v : Value} {xs : List Int} (h : Own w B v xs) (hg : w.grownBy w1 (some b)) (hb : b < B) : Own w1 B v xs := by
  refine h.kept hg ?_
  cases e : v.ownBlock with
  | none => exact .inl rfl
  | some k => exact .inr (by have := (h.ge k e).1; simp; omega)
/-- A write into a block that was made since. -/
theorem grown_new {w w1 w2 : World} {b : Nat} {r : Option Nat} (h : w.grownBy w1 (some b)) (h' : w1.grownBy w2 r) (hr : ∀ k, r = some k → w.heap.size ≤ k) : w.grownBy w2 (some b) :=
  ⟨h'.os.trans h.os, h'.tape.trans h.tape, h'.output.trans h.output, Nat.le_trans h.size h'.size, fun k hk hne => (h'.block k (Nat.lt_of_lt_of_le hk h.size) (fun e => by have := hr k e.symm; omega)).trans (h.block k hk hne)⟩
/-- What lies below B lies apart from what is owned from B on. -/
theorem sepB {w : World} {B : Nat} {v v' : Value} {ys : List Int} (h : ∀ k, v.ownBlock = some k → k < B) (h' : Own w B v' ys) : v.ownBlock = none ∨ v.ownBlock ≠ v'.ownBlock := by
  cases e : v.ownBlock with
  | none => exact .inl rfl
  | some k => exact .inr fun e' => by have := h k e; have := (h'.ge k e'.symm).1; omega
end Go.Proofs.YtifemdjookmboaaGreatDoor.Ai
