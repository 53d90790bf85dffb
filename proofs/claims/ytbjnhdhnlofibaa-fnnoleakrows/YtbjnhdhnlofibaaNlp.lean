/-
  The features of a row do not hang on labels of rows that come no earlier; rows whose labels are others, in memory of their own.
-/
import Derived.Test.YtbjnhdhnlofibaaMts
import Derived.Test.YtbjnhdhnlofibaaCtrP
import Derived.Deep.AppendLies
namespace Go.Proofs.Ytbjnhdhnlofibaa.Np
set_option maxRecDepth 20000
open Go.RowKit
open Go.Proofs.Ytbjnhdhnlofibaa.Tb
open Go.Proofs.Ytbjnhdhnlofibaa.Tk
open Go.Proofs.Ytbjnhdhnlofibaa.Co
open Go.Proofs.Ytbjnhdhnlofibaa.Vc
open Go.Proofs.Ytbjnhdhnlofibaa.Mx
open Go.Proofs.Ytbjnhdhnlofibaa.Wd (paired lat lat_get)
open Go.Proofs.Ytbjnhdhnlofibaa.Wc (wcols cats tok_c)
open Go.Proofs.Ytbjnhdhnlofibaa.Ct (cAll ord atNum)
set_option linter.unusedVariables false

/-- The same rows with other labels. -/
def relab (rs : List Row) (ls : List Int) : List Row := List.zipWith (fun r l => ⟨r.nums, r.cats, l⟩) rs ls
variable {n c : Int} {rs : List Row} {ls : List Int}
theorem relab_length (h : ls.length = rs.length) : (relab rs ls).length = rs.length := by simp [relab]; omega
theorem relab_get (h : ls.length = rs.length) (j : Nat) (hj : j < rs.length) (hj' : j < (relab rs ls).length) : (relab rs ls)[j] = ⟨rs[j].nums, rs[j].cats, ls[j]'(by omega)⟩ := by simp [relab]
theorem relab_labs (h : ls.length = rs.length) : labs (relab rs ls) = ls := by
  apply List.ext_getElem
  · simp [labs, relab]; omega
  · intro j h1 h2
    simp [labs, relab]
theorem relab_nat (h : ls.length = rs.length) (p : Nat) : nat (relab rs ls) p = nat rs p := by
  apply List.ext_getElem
  · simp [nat, relab]; omega
  · intro j h1 h2
    simp [nat, relab]
theorem relab_cat (h : ls.length = rs.length) (p : Nat) : cat (relab rs ls) p = cat rs p := by
  apply List.ext_getElem
  · simp [cat, relab]; omega
  · intro j h1 h2
    simp [cat, relab]
theorem relab_wcols (h : ls.length = rs.length) (c : Int) : wcols c (relab rs ls) = wcols c rs := by
  unfold wcols cats
  have e : (cat (relab rs ls)) = cat rs := funext fun p => relab_cat h p
  rw [e]
theorem relab_tok (ht : tok n c rs = true) (h : ls.length = rs.length) (ha : ls.all lok = true) : tok n c (relab rs ls) = true := by
  obtain ⟨h1, h2, h3⟩ := tok_iff.1 ht
  refine tok_iff.2 ⟨h1, by rw [relab_length h]; exact h2, ?_⟩
  rw [List.all_eq_true]
  intro r hr
  obtain ⟨j, hj, rfl⟩ := List.getElem_of_mem hr
  have hj' : j < rs.length := by rw [relab_length h] at hj; exact hj
  rw [relab_get h j hj' hj]
  have := rok_iff.1 (List.all_eq_true.1 h3 _ (List.getElem_mem hj'))
  exact rok_iff.2 ⟨this.1, this.2.1, this.2.2.1, this.2.2.2.1, this.2.2.2.2.1, List.all_eq_true.1 ha _ (List.getElem_mem _)⟩
theorem cAll_row {ws : List ByteArray} {l ps : List Int} {p : Int} (ho : ord ws.length l ps p = true) (q : Nat) (hq : q < ps.length) : (cAll ws l ps p)[ps[q].toNat]? = some (atNum ws l ps q p) := by
  rw [Ct.cAll_yes ho]
  obtain ⟨_, hl, hk⟩ := Ct.ord_iff.1 ho
  exact (Ct.allN_some hk hl).2 q hq (Nat.zero_le _) hq
/-- The row at place q of the order, q no later than k, has the same features, whatever the labels of the rows from k on. -/
theorem same_row (ht : tok n c rs = true) (h : ls.length = rs.length) (ha : ls.all lok = true) (s : Int) {p : Int} (hp : -1000000 ≤ p ∧ p ≤ 1000000) (k : Nat)
    (hs : ∀ q (hq : q < (Po.permR s rs.length).length), q < k → lat ls (Po.permR s rs.length)[q] = lat (labs rs) (Po.permR s rs.length)[q])
    (q : Nat) (hq : q < (Po.permR s rs.length).length) (hqk : q ≤ k) (g : Nat) :
    fnum n c (relab rs ls) s p (Po.permR s rs.length)[q].toNat g = fnum n c rs s p (Po.permR s rs.length)[q].toNat g := by
  have ht' := relab_tok ht h ha
  have hrl := relab_length h
  obtain ⟨⟨n0, n3⟩, _, h40⟩ := tok_c ht
  obtain ⟨hpk, hpl⟩ := permR_pok s rs.length (by omega)
  have hr := hpk.rng q hq
  obtain ⟨x, hx⟩ : ∃ x, (Po.permR s rs.length)[q] = x := ⟨_, rfl⟩
  have hxr : x.toNat < rs.length := by rw [← hx]; omega
  by_cases h1 : g < n.toNat
  · rw [fnum_num ht' _ g (by rw [hrl, hx]; exact hxr) h1, fnum_num ht _ g (by rw [hx]; exact hxr) h1, hx]
    unfold nrow
    rw [if_pos h1, if_pos h1]
    have hx' : x.toNat < (relab rs ls).length := by omega
    rw [List.getElem?_eq_getElem hxr, List.getElem?_eq_getElem hx', relab_get h _ hxr hx']
    rfl
  · by_cases h2 : g < n.toNat + (wcols c rs).length
    · obtain ⟨j, rfl⟩ : ∃ j, g = n.toNat + j := ⟨g - n.toNat, by omega⟩
      have hj : j < (wcols c rs).length := by omega
      have hj' : j < (wcols c (relab rs ls)).length := by rw [relab_wcols h]; exact hj
      rw [fnum_word _ j hj', fnum_word _ j hj]
      simp only [relab_wcols h, relab_labs h, hrl]
      have ho := ord_col ht (wcols_len ht j hj) s hp
      have ho' := ord_col ht' (ws := (wcols c rs)[j]) (by rw [hrl]; exact wcols_len ht j hj) s hp
      rw [relab_labs h, hrl] at ho'
      rw [cAll_row ho' q hq, cAll_row ho q hq, Ct.ahead_same hs q hqk]
    · rw [fnum_out, fnum_out]
      · rw [fcols_length s p ht]; omega
      · rw [fcols_length s p ht', relab_wcols h]; omega
theorem same_mat (ht : tok n c rs = true) {kf : Cf.C} (hk : Cf.cok kf = true) (h : ls.length = rs.length) (ha : ls.all lok = true) (k : Nat)
    (hs : ∀ q (hq : q < (Po.permR kf.seed rs.length).length), q < k → lat ls (Po.permR kf.seed rs.length)[q] = lat (labs rs) (Po.permR kf.seed rs.length)[q])
    (q : Nat) (hq : q < (Po.permR kf.seed rs.length).length) (hqk : q ≤ k) :
    (mat n c (relab rs ls) kf)[(Po.permR kf.seed rs.length)[q].toNat]? = (mat n c rs kf)[(Po.permR kf.seed rs.length)[q].toNat]? := by
  rw [mat_yes ht hk, mat_yes (relab_tok ht h ha) hk]
  obtain ⟨_, _, h40⟩ := tok_c ht
  obtain ⟨hpk, hpl⟩ := permR_pok kf.seed rs.length (by omega)
  have hr := hpk.rng q hq
  have hrl := relab_length h
  rw [List.getElem?_eq_getElem (by rw [mk_length]; omega), List.getElem?_eq_getElem (by rw [mk_length]; omega), mk_get, mk_get]
  congr 1
  refine List.map_congr_left fun g _ => ?_
  exact same_row ht h ha kf.seed (cok_prior hk) k hs q hq hqk g
theorem mat_len (ht : tok n c rs = true) {kf : Cf.C} (hk : Cf.cok kf = true) : (mat n c rs kf).length = rs.length := by rw [mat_yes ht hk, mk_length]
theorem mat_none {kf : Cf.C} (h : (tok n c rs && Cf.cok kf) = false) : mat n c rs kf = [] := mat_no (by
  rintro ⟨h1, h2⟩
  rw [h1, h2] at h; cases h)
theorem szR_bd : ∀ (rs : List Row), (∀ r ∈ rs, Row.sz r ≤ 60) → szR rs ≤ 60 * rs.length
  | [], _ => by simp [szR]
  | r :: rs, h => by
    have h1 := h r (by simp)
    have h2 := szR_bd rs (fun x hx => h x (by simp [hx]))
    simp only [szR, List.length_cons]
    omega
theorem relab_sz : ∀ (rs : List Row) (ls : List Int), szR (relab rs ls) ≤ szR rs
  | [], _ => by simp [relab, szR]
  | r :: rs, [] => by simp [relab, szR]
  | r :: rs, l :: ls => by
    have h := relab_sz rs ls
    have e : relab (r :: rs) (l :: ls) = ⟨r.nums, r.cats, l⟩ :: relab rs ls := rfl
    rw [e]
    simp only [szR]
    have : Row.sz ⟨r.nums, r.cats, l⟩ = Row.sz r := rfl
    omega
/-- The cells of rows. -/
noncomputable def cellsOf (w : World) (b off m : Nat) : List Value := (List.range m).map fun t => (w.cell? ⟨b, off + t, none⟩).getD undef
theorem cellsOf_length (w : World) (b off m : Nat) : (cellsOf w b off m).length = m := by simp [cellsOf]
theorem cellsOf_get (w : World) (b off m t : Nat) (h : t < m) : (cellsOf w b off m)[t]? = some ((w.cell? ⟨b, off + t, none⟩).getD undef) := by simp [cellsOf, h]
theorem three {t m : Nat} (h : t < m * 3) : ∃ j, j < m ∧ (t = j * 3 ∨ t = j * 3 + 1 ∨ t = j * 3 + 2) := ⟨t / 3, by omega, by omega⟩
/-- The cells of rows that are being labelled anew. -/
def Labd (w : World) (b off : Nat) (m : Nat) (ls : List Int) (vs : List Value) : Prop :=
  vs.length = m * 3 ∧ ∀ j, j < m → vs[j * 3]? = w.cell? ⟨b, off + j * 3, none⟩ ∧ vs[j * 3 + 1]? = w.cell? ⟨b, off + j * 3 + 1, none⟩ ∧ vs[j * 3 + 2]? = (ls[j]?).map (Value.int .i64)
theorem labd_set {w : World} {b off m : Nat} {ls : List Int} {vs : List Value} (h : Labd w b off m ls vs) (j : Nat) (hj : j < m) (hl : ls.length = m) (x : Int) : Labd w b off m (ls.set j x) (vs.set (j * 3 + 2) (.int .i64 x)) := by
  refine ⟨by simpa using h.1, fun i hi => ?_⟩
  obtain ⟨h0, h1, h2⟩ := h.2 i hi
  refine ⟨by rw [List.getElem?_set_ne (by omega)]; exact h0, by rw [List.getElem?_set_ne (by omega)]; exact h1, ?_⟩
  by_cases e : j = i
  · subst e
    rw [List.getElem?_set_self (by rw [h.1]; omega), List.getElem?_set_self (by omega)]; rfl
  · rw [List.getElem?_set_ne (by omega), List.getElem?_set_ne e]; exact h2
theorem labd_isr {w wr : World} {b off g base cap : Nat} {vs : List Value} (hx : IsR w (some ⟨b, off, none⟩) rs) (hxr : IsR wr (some ⟨b, off, none⟩) rs) (hcell : ∀ t, t < rs.length * 3 → wr.cell? ⟨b, off + t, none⟩ = w.cell? ⟨b, off + t, none⟩) (hl : ls.length = rs.length) (h : Labd w b off rs.length ls vs)
    (ho : wr.ownsRow base 42 3 (.slice (some ⟨g, 0, none⟩) rs.length cap) rs.length vs) : IsR wr (some ⟨g, 0, none⟩) (relab rs ls) := by
  have hg := (World.ownsRow.lt ho g rfl).2
  refine .inr ⟨g, 0, rfl, hg, fun j hj => ?_⟩
  have hj' : j < rs.length := by rw [relab_length hl] at hj; exact hj
  rw [relab_get hl j hj' hj]
  rcases hxr with h0 | ⟨b', off', e, hb, hc⟩
  · rw [h0] at hj'; simp at hj'
  cases e
  obtain ⟨v0, v1, v2, ⟨c0, c1, c2⟩, a0, q0, a1, q1, rfl, rfl, rfl, i0, i1⟩ := hc j hj'
  obtain ⟨k0, k1, k2⟩ := h.2 j hj'
  refine ⟨_, _, _, ⟨?_, ?_, ?_⟩, a0, q0, a1, q1, rfl, rfl, rfl, i0, i1⟩
  · rw [Nat.zero_add, World.ownsRow.cellAt ho _ (by omega), k0, ← hcell _ (by omega)]; exact c0
  · have e1 := hcell (j * 3 + 1) (by omega)
    rw [← Nat.add_assoc] at e1
    rw [Nat.zero_add, World.ownsRow.cellAt ho _ (by omega), k1, ← e1]; exact c1
  · rw [Nat.zero_add, World.ownsRow.cellAt ho _ (by omega), k2, List.getElem?_eq_getElem (by omega)]; rfl
open Go.Proofs.Ytbjnhdhnlofibaa.Sv (Wr wr_new) in
theorem varB {W w7 : World} (hg : (((W.alloc (.cells #[] 42)).alloc (.cells #[.int .i64 0, .int .i64 0, .slice none 0 0] 28)).drew).grownBy w7 (Value.slice (some ⟨W.heap.size, 0, none⟩) 0 0).ownBlock) : Wr w7 (W.heap.size + 1) 0 [.int .i64 0, .int .i64 0, .slice none 0 0] := by
  have h := wr_new (W.alloc (.cells #[] 42)) [.int .i64 0, .int .i64 0, .slice none 0 0] 28
  rw [Sv.size_alloc] at h
  exact h.keptAt hg.size (hg.block _ (by simp [World.drew]) (by simp [Value.ownBlock]))
open Go.Proofs.Ytbjnhdhnlofibaa.Sv (Wr wr_new) in
theorem varC {W w7 : World} (hg : (((W.alloc (.cells #[.int .i64 0, .int .i64 0, .slice none 0 0] 28)).alloc (.cells #[] 42)).drew).grownBy w7 (Value.slice (some ⟨W.heap.size + 1, 0, none⟩) 0 0).ownBlock) : Wr w7 W.heap.size 0 [.int .i64 0, .int .i64 0, .slice none 0 0] := by
  have h := (wr_new W [.int .i64 0, .int .i64 0, .slice none 0 0] 28).alloc (.cells #[] 42)
  exact h.keptAt hg.size (hg.block _ (by simp [World.drew]; omega) (by simp [Value.ownBlock]))
/-- What stands when the rows were copied into a variable of their own. -/
def UU (W w9 : World) (V g cap m : Nat) (n c : Int) (cs : List Value) : Prop :=
  Below W.heap.size W w9 ∧ W.heap.size ≤ V ∧ W.heap.size ≤ g ∧ ¬ g = V ∧ Sv.Wr w9 V 0 [.int .i64 n, .int .i64 c, .slice (some ⟨g, 0, none⟩) m cap] ∧ w9.ownsRow W.heap.size 42 3 (.slice (some ⟨g, 0, none⟩) m cap) m cs
variable {W w7 : World} {g cap m : Nat} {cs : List Value}
theorem bel2 {X : World} {r : Option Nat} (hX : Below W.heap.size W X) (hg : X.grownBy w7 r) (hr : ∀ k, r = some k → W.heap.size ≤ k) : Below W.heap.size W w7 :=
  hX.trans ⟨hg.os, hg.tape, hg.output, hg.size, fun k hk => hg.block k (by have := hX.size; omega) (fun e => by have := hr k e.symm; omega)⟩
theorem uA (ho : w7.ownsRow W.heap.size 42 3 (.slice (some ⟨g, 0, none⟩) (0 + m) cap) (0 + m) ([] ++ cs)) (hg : ((W.alloc (.cells #[] 42)).drew).grownBy w7 (Value.slice (some ⟨W.heap.size, 0, none⟩) 0 0).ownBlock) (hl : g < w7.heap.size) :
    UU W (w7.alloc (.cells #[.int .i64 n, .int .i64 c, .slice (some ⟨g, 0, none⟩) m cap] 28)) w7.heap.size g cap m n c cs := by
  rw [Nat.zero_add, List.nil_append] at ho
  have hb : Below W.heap.size W w7 := bel2 (((Below.refl _ _).alloc (Nat.le_refl _) _).drew) hg (fun k e => by simp [Value.ownBlock] at e; omega)
  exact ⟨hb.alloc hb.size _, hb.size, (World.ownsRow.lt ho g rfl).1, by omega, Sv.wr_new w7 [.int .i64 n, .int .i64 c, .slice (some ⟨g, 0, none⟩) m cap] _, World.ownsRow.alloc ho _⟩
theorem uS {V : Nat} (hb : Below W.heap.size W w7) (ho : w7.ownsRow W.heap.size 42 3 (.slice (some ⟨g, 0, none⟩) (0 + m) cap) (0 + m) ([] ++ cs)) (hw : Sv.Wr w7 V 0 [.int .i64 0, .int .i64 0, .slice none 0 0]) (hV : W.heap.size ≤ V) (hgV : ¬ g = V) :
    UU W (((w7.setCell ⟨V, 0, none⟩ (.int .i64 n)).setCell ⟨V, 1, none⟩ (.int .i64 c)).setCell ⟨V, 2, none⟩ (.slice (some ⟨g, 0, none⟩) m cap)) V g cap m n c cs := by
  rw [Nat.zero_add, List.nil_append] at ho
  have h3 := ((hw.set 0 (by simp) (.int .i64 n)).set 1 (by simp) (.int .i64 c)).set 2 (by simp) (.slice (some ⟨g, 0, none⟩) m cap)
  simp only [Nat.zero_add] at h3
  have hk : ∀ (U : World) (o : Nat) (x : Value), U.ownsRow W.heap.size 42 3 (.slice (some ⟨g, 0, none⟩) m cap) m cs → (U.setCell ⟨V, o, none⟩ x).ownsRow W.heap.size 42 3 (.slice (some ⟨g, 0, none⟩) m cap) m cs := fun U o x h =>
    ownsRow_at h (fun k e => Below.heap_setCell _ _ _ _ (fun e' => by have : k = V := e'; simp [Value.ownBlock] at e; omega))
  exact ⟨((hb.setCell (p := ⟨V, 0, none⟩) hV _).setCell (p := ⟨V, 1, none⟩) hV _).setCell (p := ⟨V, 2, none⟩) hV _, hV, (World.ownsRow.lt ho g rfl).1, hgV, h3, hk _ _ _ (hk _ _ _ (hk _ _ _ ho))⟩
theorem uB (ho : w7.ownsRow W.heap.size 42 3 (.slice (some ⟨g, 0, none⟩) (0 + m) cap) (0 + m) ([] ++ cs)) (hg : (((W.alloc (.cells #[] 42)).alloc (.cells #[.int .i64 0, .int .i64 0, .slice none 0 0] 28)).drew).grownBy w7 (Value.slice (some ⟨W.heap.size, 0, none⟩) 0 0).ownBlock) (hp : (Value.slice (some ⟨W.heap.size, 0, none⟩) 0 0).ownBlock = some g ∨ g = (((W.alloc (.cells #[] 42)).alloc (.cells #[.int .i64 0, .int .i64 0, .slice none 0 0] 28)).drew).heap.size) :
    UU W (((w7.setCell ⟨W.heap.size + 1, 0, none⟩ (.int .i64 n)).setCell ⟨W.heap.size + 1, 1, none⟩ (.int .i64 c)).setCell ⟨W.heap.size + 1, 2, none⟩ (.slice (some ⟨g, 0, none⟩) m cap)) (W.heap.size + 1) g cap m n c cs :=
  uS (bel2 ((((Below.refl _ _).alloc (Nat.le_refl _) _).alloc (by simp) _).drew) hg (fun k e => by simp [Value.ownBlock] at e; omega)) ho (varB hg) (by omega) (by
    rcases hp with e | e
    · simp [Value.ownBlock] at e; omega
    · simp [World.drew] at e; omega)
theorem uC (ho : w7.ownsRow W.heap.size 42 3 (.slice (some ⟨g, 0, none⟩) (0 + m) cap) (0 + m) ([] ++ cs)) (hg : (((W.alloc (.cells #[.int .i64 0, .int .i64 0, .slice none 0 0] 28)).alloc (.cells #[] 42)).drew).grownBy w7 (Value.slice (some ⟨W.heap.size + 1, 0, none⟩) 0 0).ownBlock) (hp : (Value.slice (some ⟨W.heap.size + 1, 0, none⟩) 0 0).ownBlock = some g ∨ g = (((W.alloc (.cells #[.int .i64 0, .int .i64 0, .slice none 0 0] 28)).alloc (.cells #[] 42)).drew).heap.size) :
    UU W (((w7.setCell ⟨W.heap.size, 0, none⟩ (.int .i64 n)).setCell ⟨W.heap.size, 1, none⟩ (.int .i64 c)).setCell ⟨W.heap.size, 2, none⟩ (.slice (some ⟨g, 0, none⟩) m cap)) W.heap.size g cap m n c cs :=
  uS (bel2 ((((Below.refl _ _).alloc (Nat.le_refl _) _).alloc (by simp) _).drew) hg (fun k e => by simp [Value.ownBlock] at e; omega)) ho (varC hg) (by omega) (by
    rcases hp with e | e
    · simp [Value.ownBlock] at e; omega
    · simp [World.drew] at e; omega)
theorem bA (W : World) (o : Obj) : Below W.heap.size W (W.alloc o).drew := ((Below.refl _ _).alloc (Nat.le_refl _) _).drew
theorem bB (W : World) (o o' : Obj) : Below W.heap.size W ((W.alloc o).alloc o').drew := (((Below.refl _ _).alloc (Nat.le_refl _) _).alloc (by simp) _).drew
theorem szX {W X : World} (h : Below W.heap.size W X) : W.heap.size ≤ X.heap.size := h.size
theorem newsX {W X : World} {pb po j : Nat} {u : Value} (hX : Below W.heap.size W X) (hpb : pb < W.heap.size) (h : W.cell? ⟨pb, po + j, none⟩ = some u) : X.cell? ((⟨pb, po, none⟩ : Addr).add j) = some u := by
  have e : (⟨pb, po, none⟩ : Addr).add j = ⟨pb, po + j, none⟩ := by unfold Addr.add; split <;> simp_all
  rw [e, hX.cell (p := ⟨pb, po + j, none⟩) hpb]; exact h
theorem eA (W : World) : ((W.alloc (.cells #[] 42)).drew).ownsRow W.heap.size 42 3 (.slice (some ⟨W.heap.size, 0, none⟩) 0 0) 0 [] := World.ownsRow_made W #[] 0 (Nat.le_refl _) (by unfold maxLen; omega) (by simp)
theorem eB (W : World) (o : Obj) : (((W.alloc (.cells #[] 42)).alloc o).drew).ownsRow W.heap.size 42 3 (.slice (some ⟨W.heap.size, 0, none⟩) 0 0) 0 [] := World.ownsRow.alloc (World.ownsRow_made W #[] 0 (Nat.le_refl _) (by unfold maxLen; omega) (by simp)) _
theorem eC (W : World) (o : Obj) : (((W.alloc o).alloc (.cells #[] 42)).drew).ownsRow W.heap.size 42 3 (.slice (some ⟨W.heap.size + 1, 0, none⟩) 0 0) 0 [] := by
  have h := World.ownsRow_made (base := W.heap.size) (e := 42) (size := 3) (W.alloc o) #[] 0 (by simp) (by unfold maxLen; omega) (by simp)
  rw [Sv.size_alloc] at h
  exact h
theorem wr3 {w : World} {g : Nat} {x0 x1 x2 : Value} (h : Sv.Wr w g 0 [x0, x1, x2]) : g < w.heap.size ∧ (w.cell? ⟨g, 0, none⟩ = some x0 ∧ w.cell? ⟨g, 1, none⟩ = some x1 ∧ w.cell? ⟨g, 2, none⟩ = some x2) ∧ (w.frozen? ⟨g, 0, none⟩ = false ∧ w.frozen? ⟨g, 1, none⟩ = false ∧ w.frozen? ⟨g, 2, none⟩ = false) := by
  have c := fun j hj => (h.2 j hj).1
  have f := fun j hj => (h.2 j hj).2
  simp only [Nat.zero_add] at c f
  exact ⟨h.1, ⟨c 0 (by simp), c 1 (by simp), c 2 (by simp)⟩, f 0 (by simp), f 1 (by simp), f 2 (by simp)⟩
theorem b7A (hg : ((W.alloc (.cells #[] 42)).drew).grownBy w7 (Value.slice (some ⟨W.heap.size, 0, none⟩) 0 0).ownBlock) : Below W.heap.size W w7 := bel2 (((Below.refl _ _).alloc (Nat.le_refl _) _).drew) hg (fun k e => by simp [Value.ownBlock] at e; omega)
theorem varB7 (hg : (((W.alloc (.cells #[] 42)).alloc (.cells #[.int .i64 0, .int .i64 0, .slice none 0 0] 28)).drew).grownBy w7 (Value.slice (some ⟨W.heap.size, 0, none⟩) 0 0).ownBlock) : Below W.heap.size W w7 := bel2 ((((Below.refl _ _).alloc (Nat.le_refl _) _).alloc (by simp) _).drew) hg (fun k e => by simp [Value.ownBlock] at e; omega)
theorem varC7 (hg : (((W.alloc (.cells #[.int .i64 0, .int .i64 0, .slice none 0 0] 28)).alloc (.cells #[] 42)).drew).grownBy w7 (Value.slice (some ⟨W.heap.size + 1, 0, none⟩) 0 0).ownBlock) : Below W.heap.size W w7 := bel2 ((((Below.refl _ _).alloc (Nat.le_refl _) _).alloc (by simp) _).drew) hg (fun k e => by simp [Value.ownBlock] at e; omega)
end Go.Proofs.Ytbjnhdhnlofibaa.Np
