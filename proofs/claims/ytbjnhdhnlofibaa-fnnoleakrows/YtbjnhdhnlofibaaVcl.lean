/-
  The columns of features of a table: lists of numbers, one behind the other; contracts of what makes them.
-/
import Derived.Test.YtbjnhdhnlofibaaWcl
import Derived.Test.YtbjnhdhnlofibaaSeN
import Derived.Test.YtbjnhdhnlofibaaCtrL
import Derived.Test.YtbjnhdhnlofibaaCtrO
import Derived.Test.YtbjnhdhnlofibaaPermOf
import Derived.Test.YtbjnhdhnlofibaaCfo
import Derived.Deep.RegionHeld3
import Derived.Deep.RegionHeldLaw
namespace Go.Proofs.Ytbjnhdhnlofibaa.Vc
set_option maxRecDepth 20000
open Go.RowKit
open Go.Proofs.Ytbjnhdhnlofibaa.Tb
open Go.Proofs.Ytbjnhdhnlofibaa.Tk
open Go.Proofs.Ytbjnhdhnlofibaa.Co
open Go.Proofs.Ytbjnhdhnlofibaa.Wc (OC IsC wcols cats tok_c one_cell one_at one_one cats_length)
open Go.Proofs.Ytbjnhdhnlofibaa.Ct (cAll ord)
open Go.Proofs.Ytbjnhdhnlofibaa.Sv (IsV)
open Go.Proofs.Ytbjnhdhnlofibaa.Wd (paired)
open Go.Proofs.Ytbjnhdhnlofibaa.Li (below_none btw)
set_option linter.unusedVariables false

theorem row_below {w w1 : World} {base n : Nat} {T : TypeId} {v : Value} {vs : List Value} (h : w.ownsRow base T 1 v n vs) (hb : Below w.heap.size w w1) : w1.ownsRow base T 1 v n vs :=
  World.ownsRow.kept (row := none) h ⟨hb.os, hb.tape, hb.output, hb.size, fun k hk _ => hb.block k hk⟩ (by cases hv : v.ownBlock <;> simp)
theorem row_mono {w : World} {base base' n : Nat} {T : TypeId} {v : Value} {vs : List Value} (h : w.ownsRow base T 1 v n vs) (hb : base' ≤ base) : w.ownsRow base' T 1 v n vs := by
  refine ⟨h.1, ?_⟩
  rcases h.2 with h | ⟨g, cap, cur, e, hb', r⟩
  · exact .inl h
  · exact .inr ⟨g, cap, cur, e, by omega, r⟩
/-- A list that may be read, in a block from lo on, and in another block than B. -/
def El (w : World) (lo : Nat) (B : Option Nat) (u : Value) (xs : List Int) : Prop := ∃ a cap, u = .slice a xs.length cap ∧ Li.IsL w a xs ∧ ∀ ad, a = some ad → (lo ≤ ad.block ∧ ad.block < w.heap.size) ∧ some ad.block ≠ B
theorem El.grown {w w1 : World} {lo : Nat} {B B' : Option Nat} {u : Value} {xs : List Int} (h : El w lo B u xs) (hg : w.grownBy w1 B) (hB : B' = B ∨ B' = some w.heap.size) : El w1 lo B' u xs := by
  obtain ⟨a, cap, e, hi, hb⟩ := h
  refine ⟨a, cap, e, hi.keptAt hg.size (fun x hx hl => hg.block _ hl (hb x hx).2), fun ad hd => ⟨⟨(hb ad hd).1.1, Nat.lt_of_lt_of_le (hb ad hd).1.2 hg.size⟩, ?_⟩⟩
  rcases hB with rfl | rfl
  · exact (hb ad hd).2
  · intro e'; injection e' with e'; have := (hb ad hd).1; omega
theorem El.below {w w1 : World} {lo : Nat} {B : Option Nat} {u : Value} {xs : List Int} (h : El w lo B u xs) (hb : Below w.heap.size w w1) : El w1 lo B u xs := by
  obtain ⟨a, cap, e, hi, hd⟩ := h
  exact ⟨a, cap, e, hi.below hb, fun ad h => ⟨⟨(hd ad h).1.1, Nat.lt_of_lt_of_le (hd ad h).1.2 hb.size⟩, (hd ad h).2⟩⟩
theorem El.mono {w : World} {lo lo' : Nat} {B : Option Nat} {u : Value} {xs : List Int} (h : El w lo B u xs) (hl : lo' ≤ lo) : El w lo' B u xs := by
  obtain ⟨a, cap, e, hi, hd⟩ := h
  exact ⟨a, cap, e, hi, fun ad h => ⟨⟨Nat.le_trans hl (hd ad h).1.1, (hd ad h).1.2⟩, (hd ad h).2⟩⟩
theorem el_own {w : World} {base lo : Nat} {u : Value} {xs : List Int} {B : Option Nat} (h : Li.Own w base u xs) (hB : ∀ k, B = some k → k < base) (hlo : lo ≤ base) : El w lo B u xs := by
  obtain ⟨a, cap, e, hi⟩ := h.isl
  refine ⟨a, cap, e, hi, fun ad hd => ?_⟩
  subst hd
  have := h.ge ad.block (by rw [e]; rfl)
  refine ⟨⟨by omega, this.2⟩, fun e' => ?_⟩
  have := hB _ e'.symm
  omega
/-- Lists of numbers, one behind the other, in a block of their own. -/
structure OV (T : TypeId) (w : World) (base : Nat) (v : Value) (cs : List (List Int)) : Prop where
  ex : ∃ vs : List Value, vs.length = cs.length ∧ w.ownsRow base T 1 v cs.length vs ∧ ∀ j (h : j < cs.length) (h' : j < vs.length), El w base v.ownBlock vs[j] cs[j]
variable {T : TypeId} {w w1 : World} {base : Nat} {v : Value} {cs : List (List Int)}
theorem OV.below (h : OV T w base v cs) (hb : Below w.heap.size w w1) : OV T w1 base v cs := by
  obtain ⟨vs, hl, ho, he⟩ := h.ex
  exact ⟨vs, hl, row_below ho hb, fun j h h' => (he j h h').below hb⟩
theorem OV.mono {base' : Nat} (h : OV T w base v cs) (hb : base' ≤ base) : OV T w base' v cs := by
  obtain ⟨vs, hl, ho, he⟩ := h.ex
  exact ⟨vs, hl, row_mono ho hb, fun j h h' => (he j h h').mono hb⟩
theorem OV.nil (T : TypeId) (w : World) (base : Nat) : OV T w base (.slice none 0 0) [] := ⟨[], rfl, World.ownsRow_nil _ _ _ _, fun j h => by simp at h⟩
theorem OV.lt (h : OV T w base v cs) : ∀ k, v.ownBlock = some k → base ≤ k ∧ k < w.heap.size := by
  obtain ⟨vs, hl, ho, he⟩ := h.ex
  exact World.ownsRow.lt ho
theorem ov_snoc {v5 u : Value} {xs : List Int} {vs : List Value} (hl : vs.length = cs.length) (he : ∀ j (h : j < cs.length) (h' : j < vs.length), El w base v.ownBlock vs[j] cs[j]) (hu : El w base v.ownBlock u xs)
    (ho : w1.ownsRow base T 1 v5 (cs.length + 1) (vs ++ [u])) (hg : w.grownBy w1 v.ownBlock) (hloc : v5.ownBlock = v.ownBlock ∨ v5.ownBlock = some w.heap.size) : OV T w1 base v5 (cs ++ [xs]) := by
  refine ⟨vs ++ [u], by simp [hl], by simpa using ho, fun j h h' => ?_⟩
  by_cases hj : j < cs.length
  · rw [List.getElem_append_left (by omega), List.getElem_append_left hj]
    exact (he j hj (by omega)).grown hg hloc
  · have e1 : j = cs.length := by simp at h; omega
    subst e1
    rw [List.getElem_append_right (by omega), List.getElem_append_right (by omega)]
    simp only [hl, Nat.sub_self, List.getElem_cons_zero]
    exact hu.grown hg hloc
theorem OV.isv (h : OV T w base v cs) : ∃ a cap, v = .slice a cs.length cap ∧ IsV w a cs := by
  obtain ⟨vs, hl, ho, he⟩ := h.ex
  have h' := ho
  rcases ho.2 with ⟨rfl, h0⟩ | ⟨g, cap, cur, rfl, hb, hh, _⟩
  · obtain rfl := List.length_eq_zero_iff.1 h0
    exact ⟨none, 0, rfl, .inl rfl⟩
  · refine ⟨_, cap, rfl, .inr ⟨g, 0, rfl, (Array.getElem?_eq_some_iff.1 hh).1, fun j hj => ?_⟩⟩
    obtain ⟨a, c, e, hi, _⟩ := he j hj (by omega)
    refine ⟨a, c, ?_, hi⟩
    rw [Nat.zero_add, World.ownsRow.cellAt h' j (by omega), List.getElem?_eq_getElem (by omega), e]
/-- What is read of them, in blocks from lo on. -/
def IsVb (w : World) (lo : Nat) (a : Option Addr) (cs : List (List Int)) : Prop :=
  cs = [] ∨ ∃ b off, a = some ⟨b, off, none⟩ ∧ (lo ≤ b ∧ b < w.heap.size) ∧ ∀ j (hj : j < cs.length), ∃ a' c', w.cell? ⟨b, off + j, none⟩ = some (.slice a' cs[j].length c') ∧ Li.IsL w a' cs[j] ∧ ∀ ad, a' = some ad → lo ≤ ad.block ∧ ad.block < w.heap.size
theorem IsVb.same {lo : Nat} {a : Option Addr} (h : IsVb w lo a cs) (hs : w.heap.size ≤ w1.heap.size) (hk : ∀ y, lo ≤ y → y < w.heap.size → w1.heap[y]? = w.heap[y]?) : IsVb w1 lo a cs := by
  rcases h with h | ⟨b, off, rfl, hb, hc⟩
  · exact .inl h
  · refine .inr ⟨b, off, rfl, ⟨hb.1, by omega⟩, fun j hj => ?_⟩
    obtain ⟨a', c', hx, hi, hd⟩ := hc j hj
    refine ⟨a', c', ?_, hi.keptAt hs (fun x hx hl => hk _ (hd x hx).1 hl), fun ad h => ⟨(hd ad h).1, by have := (hd ad h).2; omega⟩⟩
    rw [World.cell?_of_block (w := w) (a := ⟨b, off + j, none⟩) (hk b hb.1 hb.2)]; exact hx
theorem OV.isvb (h : OV T w base v cs) : ∃ a cap, v = .slice a cs.length cap ∧ IsVb w base a cs := by
  obtain ⟨vs, hl, ho, he⟩ := h.ex
  have h' := ho
  rcases ho.2 with ⟨rfl, h0⟩ | ⟨g, cap, cur, rfl, hb, hh, _⟩
  · obtain rfl := List.length_eq_zero_iff.1 h0
    exact ⟨none, 0, rfl, .inl rfl⟩
  · refine ⟨_, cap, rfl, .inr ⟨g, 0, rfl, ⟨hb, (Array.getElem?_eq_some_iff.1 hh).1⟩, fun j hj => ?_⟩⟩
    obtain ⟨a, c, e, hi, hd⟩ := he j hj (by omega)
    refine ⟨a, c, ?_, hi, fun ad h => (hd ad h).1⟩
    rw [Nat.zero_add, World.ownsRow.cellAt h' j (by omega), List.getElem?_eq_getElem (by omega), e]

def ncols (k : Nat) (rs : List Row) : List (List Int) := (List.range k).map (nat rs)
theorem ncols_length (k : Nat) (rs : List Row) : (ncols k rs).length = k := by simp [ncols]
theorem ncols_snoc (k : Nat) (rs : List Row) : ncols (k + 1) rs = ncols k rs ++ [nat rs k] := by simp [ncols, List.range_succ]
noncomputable def ccols (k : Nat) (c : Int) (rs : List Row) (s p : Int) : List (List Int) := ((wcols c rs).take k).map fun ws => cAll ws (labs rs) (Po.permR s rs.length) p
theorem ccols_length (k : Nat) (c : Int) (rs : List Row) (s p : Int) (h : k ≤ (wcols c rs).length) : (ccols k c rs s p).length = k := by simp [ccols]; omega
theorem ccols_snoc (k : Nat) (c : Int) (rs : List Row) (s p : Int) (h : k < (wcols c rs).length) : ccols (k + 1) c rs s p = ccols k c rs s p ++ [cAll (wcols c rs)[k] (labs rs) (Po.permR s rs.length) p] := by
  unfold ccols
  rw [List.take_succ_eq_append_getElem h, List.map_append]; rfl
noncomputable def fcols (n c : Int) (rs : List Row) (s p : Int) : List (List Int) := ncols n.toNat rs ++ ccols (wcols c rs).length c rs s p
theorem wcols_le {n c : Int} {rs : List Row} (h : tok n c rs = true) : (wcols c rs).length ≤ 3 := by
  obtain ⟨_, ⟨c0, c2⟩, _⟩ := tok_c h
  unfold wcols
  split
  · simp [cats_length]
  · rw [cats_length]; omega
theorem wcols_len {n c : Int} {rs : List Row} (h : tok n c rs = true) (j : Nat) (hj : j < (wcols c rs).length) : (wcols c rs)[j].length = rs.length := by
  have hp : ((wcols c rs)[j] = cat rs j) ∨ (wcols c rs)[j] = paired (cat rs 0) (cat rs 1) := by
    unfold wcols at hj ⊢
    by_cases h2 : c = 2
    · simp only [if_pos h2] at hj ⊢
      by_cases hj2 : j < 2
      · rw [List.getElem_append_left (by rw [cats_length]; exact hj2)]
        exact .inl (Wc.cats_get _ _ _ _)
      · right
        rw [List.getElem_append_right (by rw [cats_length]; omega)]
        simp
    · simp only [if_neg h2]
      exact .inl (Wc.cats_get _ _ _ _)
  rcases hp with e | e
  · rw [e, cat_length]
  · rw [e, Pa.paired_len (by rw [cat_length, cat_length]), cat_length]
theorem wcols_word {n c : Int} {rs : List Row} (h : tok n c rs = true) (j : Nat) (hj : j < (wcols c rs).length) (i : Nat) (hi : i < (wcols c rs)[j].length) : (wcols c rs)[j][i].size ≤ 25 := by
  have key : ∀ (ws : List ByteArray), ((∃ q : Nat, (q : Int) < c ∧ ws = cat rs q) ∨ (c = 2 ∧ ws = paired (cat rs 0) (cat rs 1))) → ∀ i (hi : i < ws.length), ws[i].size ≤ 25 := by
    intro ws hw i hi
    rcases hw with ⟨q, hq, rfl⟩ | ⟨h2, rfl⟩
    · have := Wc.tok_word h q i hq hi; omega
    · have e : (cat rs 0).length = (cat rs 1).length := by rw [cat_length, cat_length]
      rw [Pa.paired_get e i hi, Pa.pr_size]
      have hl := Pa.paired_len e
      have h1 := Wc.tok_word h 0 i (by omega) (by omega)
      have h3 := Wc.tok_word h 1 i (by omega) (by omega)
      omega
  refine key _ ?_ i hi
  obtain ⟨_, ⟨c0, c2⟩, _⟩ := tok_c h
  unfold wcols at hj ⊢
  by_cases h2 : c = 2
  · simp only [if_pos h2] at hj ⊢
    by_cases hj2 : j < 2
    · rw [List.getElem_append_left (by rw [cats_length]; exact hj2)]
      exact .inl ⟨j, by omega, Wc.cats_get _ _ _ _⟩
    · right
      rw [List.getElem_append_right (by rw [cats_length]; omega)]
      exact ⟨h2, by simp⟩
  · simp only [if_neg h2] at hj ⊢
    rw [cats_length] at hj
    exact .inl ⟨j, by omega, Wc.cats_get _ _ _ _⟩
theorem permR_pok (s : Int) (n : Nat) (h : n ≤ 60) : Pe.POk (Po.permR s n) ∧ (Po.permR s n).length = n := by
  unfold Po.permR
  rw [if_pos (by omega)]
  simpa using Po.perm_pok n s h
theorem labels_yes {n c : Int} {rs : List Row} (h : tok n c rs = true) : labels n c rs = labs rs := by unfold labels; rw [if_pos h]
theorem column_yes {n c : Int} {rs : List Row} (h : tok n c rs = true) (k : Nat) (hk : (k : Int) < n) : column n c rs k = nat rs k := by
  unfold column
  rw [if_pos ⟨h, by omega, hk⟩]
  simp
theorem info_ints : (Try.prog.info? 37).map (fun i => (i.zero, i.size, i.bytes)) = some (some (.slice none 0 0), 1, 24) := by kernel_rfl
theorem labs_lok {n c : Int} {rs : List Row} (h : tok n c rs = true) : (labs rs).all lok = true := by
  rw [List.all_eq_true]
  intro x hx
  obtain ⟨r, hr, rfl⟩ := List.mem_map.1 hx
  have := rok_iff.1 (List.all_eq_true.1 (tok_iff.1 h).2.2 r hr)
  exact this.2.2.2.2.2
theorem ord_col {n c : Int} {rs : List Row} (h : tok n c rs = true) {ws : List ByteArray} (hw : ws.length = rs.length) (s : Int) {p : Int} (hp : -1000000 ≤ p ∧ p ≤ 1000000) : ord ws.length (labs rs) (Po.permR s rs.length) p = true := by
  obtain ⟨_, _, h40⟩ := tok_c h
  obtain ⟨hk, hl⟩ := permR_pok s rs.length (by omega)
  exact Ct.ord_iff.2 ⟨Ct.rgt_iff.2 ⟨⟨by omega, by rw [labs_length]; omega, hp.1, hp.2⟩, labs_lok h⟩, by omega, hk⟩
theorem cAll_len {n c : Int} {rs : List Row} (h : tok n c rs = true) {ws : List ByteArray} (hw : ws.length = rs.length) (s : Int) {p : Int} (hp : -1000000 ≤ p ∧ p ≤ 1000000) : (cAll ws (labs rs) (Po.permR s rs.length) p).length = rs.length := by
  have ho := ord_col h hw s hp
  rw [Ct.cAll_yes ho]
  obtain ⟨_, hl, hk⟩ := Ct.ord_iff.1 ho
  rw [(Ct.allN_some hk hl).1, hw]
set_option maxHeartbeats 4000000 in
theorem ifc (w : World) (n c : Int) (a : Option Addr) (cap : Nat) (rs : List Row) (k : Cf.C) (hx : IsR w a rs) (hl : rs.length + szR rs ≤ 1048576) (ht : tok n c rs = true) (hk : Cf.cok k = true) :
    Calls Try.prog 32 #[.agg #[.int .i64 n, .int .i64 c, .slice a rs.length cap], .agg #[.int .i64 k.trees, .int .i64 k.depth, .int .i64 k.most, .int .i64 k.rate, .int .i64 k.l2, .int .i64 k.prior, .int .i64 k.seed]] w fun e w' => ∃ v, e = .returned v ∧ OV 37 w' w.heap.size v (fcols n c rs k.seed k.prior) ∧ Below w.heap.size w w' := by
  obtain ⟨⟨n0, n3⟩, ⟨c0, c2⟩, h40⟩ := tok_c ht
  have hpr : -1000000 ≤ k.prior ∧ k.prior ≤ 1000000 := by
    unfold Cf.cok at hk
    simp only [Bool.and_eq_true] at hk
    exact Cf.dec_btw hk.2.2.2.2.2.1
  obtain ⟨nn, rfl⟩ : ∃ nn : Nat, n = (nn : Int) := ⟨n.toNat, by omega⟩
  have HCO : Hid (∀ j, j < nn → column (nn : Int) c rs (j : Int) = nat rs j) := fun j hj => column_yes ht j (by omega)
  have HLA : Hid (labels (nn : Int) c rs = labs rs) := labels_yes ht
  have HOR : Hid (∀ ws : List ByteArray, ws.length = rs.length → ord ws.length (labs rs) (Po.permR k.seed rs.length) k.prior = true) := fun ws hw => ord_col ht hw _ hpr
  have HWL : Hid (∀ j (hj : j < (wcols c rs).length), (wcols c rs)[j].length = rs.length) := fun j hj => wcols_len ht j hj
  have HWZ : Hid (∀ j (hj : j < (wcols c rs).length) i (hi : i < (wcols c rs)[j].length), (wcols c rs)[j][i].size ≤ 25) := fun j hj i hi => wcols_word ht j hj i hi
  have hw3 := wcols_le ht
  have HTK : Hid (tok (nn : Int) c rs = true) := ht
  have hpl := Po.permR_len k.seed rs.length
  have HFC : Hid (fcols (nn : Int) c rs k.seed k.prior = ncols nn rs ++ ccols (wcols c rs).length c rs k.seed k.prior) := by show _ = _; unfold fcols; simp
  clear ht hk
  obtain ⟨i0, hi, hz0, hz1, hz2⟩ := info_parts info_ints
  go_enter Try.func32, Try.ntmps32
  go_wp2
  obtain ⟨W1, hW, hsz, hB, bx⟩ := box3_new' w (.int .i64 (nn : Int)) (.int .i64 c) (.slice a rs.length cap) 28
  rw [hW]
  clear hW
  obtain ⟨W, hW2, hsz2, hb2, bc⟩ := Cf.bx_new W1 k 30
  rw [hW2]
  clear hW2
  rw [hsz] at bc
  have bx := bx.below hb2
  have hB := hB.trans (hb2.mono hB.size)
  have hszW : w.heap.size + 1 < W.heap.size := by omega
  have hxW := hx.below hB
  clear hsz hsz2 hb2 hx
  go_loopw [5, 16] (fun v i wr => ∃ j : Nat, j ≤ nn ∧ i = .int .i64 j ∧ OV 37 wr W.heap.size v (ncols j rs) ∧ Below W.heap.size W wr) (fun _ i _ => nn - (intOf i).toNat)
  case atStart => exact ⟨0, Nat.zero_le _, rfl, OV.nil _ _ _, Below.refl _ _⟩
  case round =>
    obtain ⟨j, hj, rfl, ov, hBr⟩ := hrel
    have bxr := bx.below hBr
    have bcr := bc.below hBr (by omega)
    obtain ⟨hbx, ⟨cx0, cx1, cx2⟩, _⟩ := id bxr
    have hxr := hxW.below hBr
    have hsr := hBr.size
    by_cases hlt : j < nn
    · go_wp2_with fail
      refine (icolumn _ _ _ _ _ rs _ hxr hl).mono ?_
      rintro e w1 ⟨u, rfl, ou, hb⟩
      rw [HCO.out j hlt] at ou
      have ov1 := ov.below hb
      have hul := el_own (B := u5.ownBlock) (lo := W.heap.size) ou (fun q hq => (ov.lt q hq).2) (by omega)
      have hBr := hBr.trans (hb.mono hBr.size)
      have hs1 := hBr.size
      clear hb cx0 cx1 cx2 bxr bcr hxr hbx ov
      obtain ⟨vs, hvl, ho, he⟩ := ov1.ex
      have hcl := ncols_length j rs
      obtain ⟨ua, uc, rfl, _⟩ := id hul
      have hBa : Below w1.heap.size w1 (w1.alloc (.cells #[.slice ua (nat rs j).length uc] 37)) := (Below.refl _ _).alloc (Nat.le_refl _) _
      have HCL : Hid ((ncols j rs).length = j) := hcl
      have hcl3 : (ncols j rs).length ≤ 3 := by omega
      clear hcl
      go_wp2_with (at_builtin; refine wpList_append_own_at _ rfl _ _ 70 rfl W.heap.size 37 i0 (.slice none 0 0) 1 24 Try.underlying70 hi hz0 hz1 hz2 rfl (by decide) _ _ _ rfl (row_below ho hBa) ⟨w1.heap.size, 0, none⟩ 1 1 [.slice ua (nat rs j).length uc] rfl rfl (one_cell _ _ _) one_one (by unfold maxLen; omega) (by omega) (by simp; omega) ?_; intro v3 w3 hown3 hgrow3 hnn3 hloc3)
      have ov3 := ov_snoc hvl (fun q h h' => (he q h h').below hBa) (hul.below hBa) hown3 hgrow3 hloc3
      rw [← ncols_snoc] at ov3
      have hB3 : Below W.heap.size W w3 := hBr.trans (by
        have hh : Below W.heap.size (w1.alloc (.cells #[.slice ua (nat rs j).length uc] 37)) w3 := ⟨hgrow3.os, hgrow3.tape, hgrow3.output, hgrow3.size, fun q hq => hgrow3.block q (by simp; omega) (fun e => by have := (ov1.lt q e.symm).1; omega)⟩
        exact (hBa.mono hs1).trans hh)
      clear hown3 hgrow3 hnn3 hloc3 hBa ho he hul ov1 hBr ou
      go_wp2
      go_roundw
      case rel => exact ⟨j + 1, by omega, by go_num, ov3, hB3⟩
      case measure => simp [intOf]; omega
    · obtain rfl : j = nn := by omega
      obtain ⟨hbc, _, _, _, _, _, _, d6⟩ := id bcr
      obtain ⟨av, cv, rfl, _⟩ := ov.isv
      clear hlt
      have HBXR : Hid (Box3 wr w.heap.size (.int .i64 (j : Int)) (.int .i64 c) (.slice a rs.length cap)) := bxr
      have HBCR : Hid (Cf.Bx wr (w.heap.size + 1) k) := bcr
      have HOV : Hid (OV 37 wr W.heap.size (.slice av (ncols j rs).length cv) (ncols j rs)) := ov
      have HBR : Hid (Below W.heap.size W wr) := hBr
      have HXR : Hid (IsR wr a rs) := hxr
      have HBB : Hid (Below w.heap.size w W) := hB
      have HBC : Hid (Cf.Bx W (w.heap.size + 1) k) := bc
      have HBD : Hid (Below wr.heap.size wr wr.drew) := (Below.refl wr.heap.size wr).drew
      clear bxr bcr ov hBr hxr hB bx bc hxW
      have hwb : w.heap.size + 1 < wr.heap.size := by omega
      go_wp2_with fail
      go_region_held3 (fun w' => w'.cell? ⟨w.heap.size, 0, none⟩ = some (.int .i64 (j : Int)) ∧ w'.cell? ⟨w.heap.size, 1, none⟩ = some (.int .i64 c) ∧ w'.cell? ⟨w.heap.size, 2, none⟩ = some (.slice a rs.length cap) ∧ w'.cell? ⟨w.heap.size + 1, 6, none⟩ = some (.int .i64 k.seed)) (go_keep) (first
        | (go_at_call 51
           refine (ilabels wr.drew _ _ _ _ rs (HXR.out.below HBD.out) hl).mono ?_
           rintro e w4 ⟨vl, rfl, ol, hb⟩
           have HY0 : Hid (Below wr.heap.size wr w4) := HBD.out.trans hb
           have HOL : Hid (Li.Own w4 wr.heap.size vl (labs rs)) := by rw [HLA.out] at ol; exact ol
           obtain ⟨_, ⟨lx0, lx1, lx2⟩, _⟩ := id (HBXR.out.below HY0.out)
           obtain ⟨_, _, _, _, _, _, _, l6⟩ := HBCR.out.below HY0.out hwb
           clear hb ol)
        | (go_at_call 70
           refine (Po.iperm_any _ _ _).mono ?_
           rintro e w5 ⟨vp, rfl, op, hb⟩
           have HY1 : Hid (Below w4.heap.size w4 w5) := hb
           have HOP : Hid (Li.Own w5 w4.heap.size vp (Po.permR k.seed rs.length)) := op
           obtain ⟨_, ⟨px0, px1, px2⟩, _⟩ := id ((HBXR.out.below HY0.out).below hb)
           obtain ⟨_, _, _, _, _, _, _, p6⟩ := HBCR.out.below (HY0.out.trans (hb.mono HY0.out.size)) hwb
           clear hb op))
      have hb := HY0.out.trans (HY1.out.mono HY0.out.size)
      have hbB := HBR.out.trans (hb.mono HBR.out.size)
      have bxr := HBXR.out.below hb
      have bcr := HBCR.out.below hb hwb
      have ov := HOV.out.below hb
      have hxr := HXR.out.below hb
      have ol := HOL.out.below HY1.out
      have op := HOP.out
      have hw5 : wr.heap.size ≤ w5.heap.size := hb.size
      have hW5 : W.heap.size ≤ w5.heap.size := hbB.size
      have hw45 : wr.heap.size ≤ w4.heap.size := HY0.out.size
      clear HBXR HBCR HBR HXR HBD HY0 HY1 HOL HOP hb
      try clear lx0 lx1 lx2 l6
      try clear px0 px1 px2 p6
      obtain ⟨al, cl, el, il⟩ := ol.isl
      subst el
      obtain ⟨ap, cp, ep, ip⟩ := op.isl
      subst ep
      have hal : ∀ x, al = some x → wr.heap.size ≤ x.block := fun x hx => by subst hx; exact (ol.ge x.block rfl).1
      have hap : ∀ x, ap = some x → wr.heap.size ≤ x.block := fun x hx => by subst hx; have := (op.ge x.block rfl).1; have := hw45; omega
      have hvb : ∀ y, (Value.slice av (ncols j rs).length cv).ownBlock = some y → y < wr.heap.size := fun y hy => (HOV.out.lt y hy).2
      clear ol op HOV hw45
      obtain ⟨R, hR⟩ : ∃ R, wr.heap.size = R := ⟨_, rfl⟩
      rw [hR] at hal hap hvb hw5
      clear hR
      obtain ⟨_, ⟨cx0, cx1, cx2⟩, _⟩ := id bxr
      go_wp2_with fail
      refine (Wc.iwc _ _ _ _ _ rs hxr hl HTK.out).mono ?_
      rintro e w6 ⟨vc, rfl, oc, hb⟩
      have ov := ov.below hb
      have il := il.below hb
      have ip := ip.below hb
      have hbB := hbB.trans (hb.mono hbB.size)
      have hW6 : W.heap.size ≤ w6.heap.size := hbB.size
      clear hb hxr bxr cx0 cx1 cx2
      obtain ⟨ac, cc, rfl, ic⟩ := (oc.mono hw5).iscb
      clear oc
      have hcl := ncols_length j rs
      have hcj : (ncols j rs).length ≤ 3 := by omega
      clear hcl
      go_wp2
      go_loopw [5, 37] (fun v i wq => ∃ q : Nat, q ≤ (wcols c rs).length ∧ i = .int .i64 q ∧ OV 37 wq W.heap.size v (ncols j rs ++ ccols q c rs k.seed k.prior) ∧ (w6.heap.size ≤ wq.heap.size ∧ (∀ y, R ≤ y → y < w6.heap.size → wq.heap[y]? = w6.heap[y]?) ∧ ∀ y, v.ownBlock = some y → y < R ∨ w6.heap.size ≤ y) ∧ Below W.heap.size W wq) (fun _ i _ => (wcols c rs).length - (intOf i).toNat)
      case atStart => exact ⟨0, Nat.zero_le _, rfl, by simpa [ccols] using ov, ⟨Nat.le_refl _, fun _ _ _ => rfl, fun y hy => .inl (hvb y hy)⟩, hbB⟩
      case round =>
        obtain ⟨q, hq, rfl, ov, ⟨hsq, hsame, hvq⟩, hBW⟩ := hrel
        have HSQ : Hid (∀ y, R ≤ y → y < w6.heap.size → wr.heap[y]? = w6.heap[y]?) := hsame
        have HVQ : Hid (∀ y, u5.ownBlock = some y → y < R ∨ w6.heap.size ≤ y) := hvq
        clear hsame hvq
        by_cases hlt : q < (wcols c rs).length
        · rcases ic.same hsq HSQ.out with h0 | ⟨cb, co, rfl, ⟨_, hcb⟩, hcc⟩
          · rw [h0] at hlt; simp at hlt
          obtain ⟨a', c', dq, iq, _⟩ := hcc q hlt
          have hlq := HWL.out q hlt
          have HLQ : Hid ((wcols c rs)[q].length = rs.length) := hlq
          have hor := HOR.out _ hlq
          have hzq : ∀ i (hi : i < (wcols c rs)[q].length), (wcols c rs)[q][i].size ≤ maxLen := fun i hi => by have := HWZ.out q hlt i hi; unfold maxLen; omega
          have HSN : Hid (ccols (q + 1) c rs k.seed k.prior = ccols q c rs k.seed k.prior ++ [cAll (wcols c rs)[q] (labs rs) (Po.permR k.seed rs.length) k.prior]) := ccols_snoc q c rs k.seed k.prior hlt
          have hcq := ccols_length q c rs k.seed k.prior hq
          have hll : ((ncols j rs ++ ccols q c rs k.seed k.prior).length) ≤ 6 := by rw [List.length_append, hcq]; omega
          obtain ⟨ws, hws⟩ : ∃ ws, (wcols c rs)[q] = ws := ⟨_, rfl⟩
          have hlq40 : ws.length ≤ 40 := by rw [← hws]; omega
          rw [hws] at dq iq hor hzq HSN
          obtain ⟨pre, hpre⟩ : ∃ pre, ncols j rs ++ ccols q c rs k.seed k.prior = pre := ⟨_, rfl⟩
          have HPRE : Hid (ncols j rs ++ ccols q c rs k.seed k.prior = pre) := hpre
          rw [hpre] at ov hll
          obtain ⟨_, _, _, _, _, _, d5, _⟩ := HBC.out.below hBW (by omega)
          have ilq := il.keptAt hsq (fun x hx hl => HSQ.out _ (hal x hx) hl)
          have ipq := ip.keptAt hsq (fun x hx hl => HSQ.out _ (hap x hx) hl)
          have hlab : (labs rs).length ≤ 1048577 := by rw [labs_length]; omega
          have hsW := hBW.size
          clear hcc hws hpre hlq hcq HLQ
          go_wp2_with fail
          refine (Ct.iall _ _ _ _ _ _ _ ws (labs rs) (Po.permR k.seed rs.length) k.prior iq ilq ipq (by omega) hlab (by omega) hzq).mono ?_
          rintro e w7 ⟨u, rfl, ou, hb⟩
          rw [hor]
          have ov1 := ov.below hb
          have hul := el_own (B := u5.ownBlock) (lo := W.heap.size) ou (fun q hq => (ov.lt q hq).2) (by omega)
          have HSQ1 : Hid (∀ y, R ≤ y → y < w6.heap.size → w7.heap[y]? = w6.heap[y]?) := fun y h1 h2 => (hb.block y (by omega)).trans (HSQ.out y h1 h2)
          have hq7 := hb.size
          have hBW := hBW.trans (hb.mono hBW.size)
          have hs7 := hBW.size
          clear hb d5 dq iq ilq ipq ov ou hor
          obtain ⟨vs, hvl, ho, he⟩ := ov1.ex
          obtain ⟨ua, uc, rfl, _⟩ := id hul
          obtain ⟨z, hz⟩ : ∃ z, cAll ws (labs rs) (Po.permR k.seed rs.length) k.prior = z := ⟨_, rfl⟩
          rw [hz] at HSN hul ⊢
          clear hz
          have hBa : Below w7.heap.size w7 (w7.alloc (.cells #[.slice ua z.length uc] 37)) := (Below.refl _ _).alloc (Nat.le_refl _) _
          go_wp2_with (at_builtin; refine wpList_append_own_at _ rfl _ _ 70 rfl W.heap.size 37 i0 (.slice none 0 0) 1 24 Try.underlying70 hi hz0 hz1 hz2 rfl (by decide) _ _ _ rfl (row_below ho hBa) ⟨w7.heap.size, 0, none⟩ 1 1 [.slice ua z.length uc] rfl rfl (one_cell _ _ _) one_one (by unfold maxLen; omega) (by omega) (by simp; omega) ?_; intro v3 w3 hown3 hgrow3 hnn3 hloc3)
          have ov3 := ov_snoc hvl (fun q h h' => (he q h h').below hBa) (hul.below hBa) hown3 hgrow3 hloc3
          have HO3 : Hid (OV 37 w3 W.heap.size v3 (ncols j rs ++ ccols (q + 1) c rs k.seed k.prior)) := by
            show OV _ _ _ _ _
            rw [HSN.out, ← List.append_assoc, HPRE.out]; exact ov3
          have hBW3 : Below W.heap.size W w3 := hBW.trans ⟨hgrow3.os, hgrow3.tape, hgrow3.output, by have := hgrow3.size; simp at this; omega, fun y hy => (hgrow3.block y (by simp; omega) (fun e => by have := (ov1.lt y e.symm).1; omega)).trans (hBa.block y (by omega))⟩
          have HS3 : Hid (∀ y, R ≤ y → y < w6.heap.size → w3.heap[y]? = w6.heap[y]?) := fun y h1 h2 => by
            rw [hgrow3.block y (by simp; omega) (fun e => by have := HVQ.out y e.symm; omega), hBa.block y (by omega)]
            exact HSQ1.out y h1 h2
          have HV3 : Hid (∀ y, v3.ownBlock = some y → y < R ∨ w6.heap.size ≤ y) := fun y hy => by
            rcases hloc3 with e | e
            · exact HVQ.out y (e ▸ hy)
            · rw [e] at hy; injection hy with hy; right; simp at hy; omega
          have hs3 : w6.heap.size ≤ w3.heap.size := by have := hgrow3.size; simp at this; omega
          clear hown3 hgrow3 hnn3 hloc3 hBa ho he hul ov1 hBW ov3
          go_wp2
          go_roundw
          case rel => exact ⟨q + 1, by omega, by go_num, HO3.out, ⟨hs3, HS3.out, HV3.out⟩, hBW3⟩
          case measure => simp [intOf]; omega
        · obtain rfl : q = (wcols c rs).length := by omega
          rw [← HFC.out] at ov
          have hBe := HBB.out.trans (hBW.mono HBB.out.size)
          clear hlt
          go_wp2
          go_ret
          exact ⟨_, rfl, ov.mono (by omega), hBe⟩
end Go.Proofs.Ytbjnhdhnlofibaa.Vc
