/-
  append of a whole list of ints to one that has just been made empty, at every length; a region that makes lists and a variable, in whatever order.
-/
import Derived.Test.YtmfippeclkmhnaaRtL
import Derived.Deep.AppendLies
import Derived.Deep.Upon
import Derived.Deep.RegionHeld3
namespace Go.Proofs.Ytmfippeclkmhnaa.Rt
open Go.RowKit
open Go.Proofs.Ytmfippeclkmhnaa.Li (ret_bool ret_int below_none IsL btw iv)
open Go.Proofs.Ytmfippeclkmhnaa.Tm (IsP pv pv_length)
open Go.Proofs.Ytmfippeclkmhnaa.Se Go.Proofs.Ytmfippeclkmhnaa.Sv Go.Proofs.Ytmfippeclkmhnaa.Sw7
set_option linter.unusedVariables false

theorem run_appI (w : World) (ty : TypeId) (base g : Nat) (ad : Option Addr) (n c : Nat) (xs : List Int) (hown : Li.Own w base (.slice (some ⟨g, 0, none⟩) 0 0) []) (hn : xs.length = n) (hi : IsL w ad xs) (hl : n ≤ 1048576) (hbase : base ≤ w.heap.size) :
    ∃ k cap w', (Builtin.append_ #[25, 25] ty #[.slice (some ⟨g, 0, none⟩) 0 0, .slice ad n c]).run Try.prog w = .ok (.slice (some ⟨k, 0, none⟩) n cap) w' ∧ Li.Own w' base (.slice (some ⟨k, 0, none⟩) n cap) xs ∧ w.grownBy w' (some g) ∧ (k = g ∨ k = w.heap.size) ∧ k < w'.heap.size := by
  obtain ⟨i0, hii, hz0, hz1, hz2⟩ := info_parts Li.info_int
  have hgl := (World.ownsRow.lt hown g rfl).2
  cases ad with
  | none =>
    have h0 : xs = [] := by
      rcases hi with h | ⟨b, off, e, _⟩
      · exact h
      · cases e
    subst h0
    obtain rfl : n = 0 := by simpa using hn.symm
    refine ⟨g, 0, w, ?_, hown, World.grownBy.refl _ _, .inl rfl, hgl⟩
    refine run_append_nothing w _ _ _ _ i0 Try.underlying25 hii _ 0 0 (Nat.le_refl _) _ ⟨.inl ⟨_, Try.underlying25⟩, fun w' => ?_, ?_, ?_, by simp, fun u hu => by simp at hu⟩
    · simp [Builtin.lenOf]
    · simp [Builtin.firstCells]
    · simp [Builtin.firstCells]
  | some x =>
    obtain ⟨v', w', hr, h2, h3, hnil, h5⟩ := run_append_own_at (P := Try.prog) w base 25 ty 3 i0 (.int .i64 0) 1 8 Try.underlying25 hii hz0 hz1 hz2 rfl (by decide) (.slice (some ⟨g, 0, none⟩) 0 0) 0 [] hown x n c (iv xs) (by rw [Li.iv_length]; omega) (Ai.news_i hi) (Li.iv_one _) (by unfold maxLen; omega) (by omega) hbase
    rw [Nat.zero_add, List.nil_append] at h2
    have hne : ¬ v' = .slice none 0 0 := fun e => by have := (hnil.1 e).1; simp at this
    have hbk : v'.ownBlock = some g ∨ v'.ownBlock = some w.heap.size := h5
    rcases h2.2 with ⟨e, _⟩ | ⟨k, cap, cur, e, hb, hh, r⟩
    · exact absurd e hne
    · subst e
      have h2' : Li.Own w' base (.slice (some ⟨k, 0, none⟩) n cap) xs := by unfold Li.Own; rw [hn]; exact h2
      refine ⟨k, cap, w', hr, h2', h3, ?_, (World.ownsRow.lt h2 k rfl).2⟩
      simpa [Value.ownBlock] using hbk
theorem step_appI {ops : Array Oper} {o : Oper} {a : Act} {w : World} {K : Act → World → Prop} {Q : Exit → Act → World → Prop} {E : Prop} (hgd : o.guard = none) (s x : Operand)
    (ho : o.op = .call { callee := .builtin .append, args := #[s, x], argTypes := #[25, 25] }) (base g : Nat) (ad : Option Addr) (n c : Nat) (xs : List Int) (hs : a.eval s = .slice (some ⟨g, 0, none⟩) 0 0) (hx : a.eval x = .slice ad n c)
    (hown : Li.Own w base (.slice (some ⟨g, 0, none⟩) 0 0) []) (hn : xs.length = n) (hi : IsL w ad xs) (hl : n ≤ 1048576) (hbase : base ≤ w.heap.size)
    (h : ∀ k cap w', Li.Own w' base (.slice (some ⟨k, 0, none⟩) n cap) xs → w.grownBy w' (some g) → (k = g ∨ k = w.heap.size) → k < w'.heap.size → K (a.put o.dst (.slice (some ⟨k, 0, none⟩) n cap)) w') :
    if Region.wanted o (yielded ops a.tmps) = true then Oper.wp Try.prog o a w K Q else E := by
  have hw : Region.wanted o (yielded ops a.tmps) = true := by simp [Region.wanted, hgd]
  rw [if_pos hw]
  obtain ⟨k, cap, w', hr, h2, h3, h4, h5⟩ := run_appI w o.type base g ad n c xs hown hn hi hl hbase
  unfold Oper.wp execOp
  simp only [ho, resolve, invoke, builtin, Sem.run_bind, Sem.run_pure, Result.andThen_ok, List.map_toArray, List.map_cons, List.map_nil, hs, hx, hr]
  exact h k cap w' h2 h3 h4 h5
/-- How far the region has come: the variable, two lists of ints, each made empty and then filled. -/
structure Sd (W wc : World) (V : Option Nat) (G I : Option (Nat × Value × List Int)) : Prop where
  bel : Below W.heap.size W wc
  oV : ∀ g, V = some g → Wr wc g 0 zr5' ∧ W.heap.size ≤ g
  oG : ∀ k v xs, G = some (k, v, xs) → Li.Own wc W.heap.size v xs ∧ v.ownBlock = some k
  oI : ∀ k v xs, I = some (k, v, xs) → Li.Own wc W.heap.size v xs ∧ v.ownBlock = some k
  vg : ∀ g k v xs, V = some g → G = some (k, v, xs) → ¬ g = k
  vi : ∀ g k v xs, V = some g → I = some (k, v, xs) → ¬ g = k
  gi : ∀ k v xs j u ys, G = some (k, v, xs) → I = some (j, u, ys) → ¬ k = j
section
variable {W wc wn : World} {V : Option Nat} {G I : Option (Nat × Value × List Int)}
theorem Sd.init (W : World) : Sd W W none none none := by
  refine ⟨Below.refl _ _, ?_, ?_, ?_, ?_, ?_, ?_⟩
  all_goals (intros; simp_all)
theorem Sd.below (h : Sd W wc V G I) (hb : Below wc.heap.size wc wn) : Sd W wn V G I :=
  ⟨h.bel.trans (hb.mono h.bel.size), fun g e => ⟨(h.oV g e).1.below hb, (h.oV g e).2⟩, fun k v xs e => ⟨(h.oG k v xs e).1.below hb, (h.oG k v xs e).2⟩, fun k v xs e => ⟨(h.oI k v xs e).1.below hb, (h.oI k v xs e).2⟩, h.vg, h.vi, h.gi⟩
theorem Sd.drew (h : Sd W wc V G I) : Sd W wc.drew V G I := h.below (Tm.below_drew wc)
theorem Sd.ltG (h : Sd W wc V G I) {k : Nat} {v : Value} {xs : List Int} (e : G = some (k, v, xs)) : W.heap.size ≤ k ∧ k < wc.heap.size := (h.oG k v xs e).1.ge k (h.oG k v xs e).2
theorem Sd.ltI (h : Sd W wc V G I) {k : Nat} {v : Value} {xs : List Int} (e : I = some (k, v, xs)) : W.heap.size ≤ k ∧ k < wc.heap.size := (h.oI k v xs e).1.ge k (h.oI k v xs e).2
theorem Sd.alV (h : Sd W wc none G I) : Sd W (wc.alloc (.cells #[.slice none 0 0, .slice none 0 0, .slice none 0 0, .int .i64 0, .int .i64 0] 27)) (some wc.heap.size) G I := by
  have k := h.below ((Below.refl _ wc).alloc (Nat.le_refl _) (.cells #[.slice none 0 0, .slice none 0 0, .slice none 0 0, .int .i64 0, .int .i64 0] 27))
  refine ⟨k.bel, fun g e => ?_, k.oG, k.oI, fun g q v xs e e' => ?_, fun g q v xs e e' => ?_, k.gi⟩
  all_goals (cases e)
  · exact ⟨wr_new wc zr5' 27, h.bel.size⟩
  · have := (h.ltG e').2; omega
  · have := (h.ltI e').2; omega
theorem Sd.alG (h : Sd W wc V none I) : Sd W (wc.alloc (.cells #[] 3)) V (some (wc.heap.size, .slice (some ⟨wc.heap.size, 0, none⟩) 0 0, [])) I := by
  have k := h.below ((Below.refl _ wc).alloc (Nat.le_refl _) (.cells #[] 3))
  refine ⟨k.bel, k.oV, fun q v xs e => ?_, k.oI, fun g q v xs e' e => ?_, k.vi, fun q v xs j u ys e e' => ?_⟩
  all_goals (cases e)
  · exact ⟨Ai.own_empty wc _ h.bel.size, rfl⟩
  · have := (h.oV g e').1.1; omega
  · have := (h.ltI e').2; omega
theorem Sd.alI (h : Sd W wc V G none) : Sd W (wc.alloc (.cells #[] 3)) V G (some (wc.heap.size, .slice (some ⟨wc.heap.size, 0, none⟩) 0 0, [])) := by
  have k := h.below ((Below.refl _ wc).alloc (Nat.le_refl _) (.cells #[] 3))
  refine ⟨k.bel, k.oV, k.oG, fun q v xs e => ?_, k.vg, fun g q v xs e' e => ?_, fun q v xs j u ys e' e => ?_⟩
  all_goals (cases e)
  · exact ⟨Ai.own_empty wc _ h.bel.size, rfl⟩
  · have := (h.oV g e').1.1; omega
  · have := (h.ltG e').2; omega
theorem own_fr {w w1 : World} {base g : Nat} {v : Value} {xs : List Int} (h : Li.Own w base v xs) (hg : w.grownBy w1 (some g)) (hne : ¬ v.ownBlock = some g) : Li.Own w1 base v xs := h.kept hg (.inr hne)
theorem Sd.apG {k k' n cap : Nat} {xs : List Int} (h : Sd W wc V (some (k, .slice (some ⟨k, 0, none⟩) 0 0, [])) I) (ho : Li.Own wn W.heap.size (.slice (some ⟨k', 0, none⟩) n cap) xs) (hg : wc.grownBy wn (some k)) (hk : k' = k ∨ k' = wc.heap.size) : Sd W wn V (some (k', .slice (some ⟨k', 0, none⟩) n cap, xs)) I := by
  have hF : Fr (fun q => q = k) wc wn := fr_grown hg rfl
  have hkk := h.ltG rfl
  refine ⟨h.bel.trans (hF.bel (fun q e => by omega) h.bel.size), fun g e => ⟨(h.oV g e).1.fr hF (h.vg g _ _ _ e rfl), (h.oV g e).2⟩, fun q v xs e => ?_, fun q v xs e => ⟨own_fr (h.oI q v xs e).1 hg (fun e' => ?_), (h.oI q v xs e).2⟩, fun g q v xs e' e => ?_, h.vi, fun q v xs j u ys e e' => ?_⟩
  · cases e; exact ⟨ho, rfl⟩
  · rw [(h.oI q v xs e).2] at e'; cases e'; exact h.gi _ _ _ _ _ _ rfl e rfl
  · cases e
    rcases hk with rfl | rfl
    · exact h.vg g _ _ _ e' rfl
    · have := (h.oV g e').1.1; omega
  · cases e
    rcases hk with rfl | rfl
    · exact h.gi _ _ _ _ _ _ rfl e'
    · have := (h.ltI e').2; omega
theorem Sd.apI {k k' n cap : Nat} {xs : List Int} (h : Sd W wc V G (some (k, .slice (some ⟨k, 0, none⟩) 0 0, []))) (ho : Li.Own wn W.heap.size (.slice (some ⟨k', 0, none⟩) n cap) xs) (hg : wc.grownBy wn (some k)) (hk : k' = k ∨ k' = wc.heap.size) : Sd W wn V G (some (k', .slice (some ⟨k', 0, none⟩) n cap, xs)) := by
  have hF : Fr (fun q => q = k) wc wn := fr_grown hg rfl
  have hkk := h.ltI rfl
  refine ⟨h.bel.trans (hF.bel (fun q e => by omega) h.bel.size), fun g e => ⟨(h.oV g e).1.fr hF (h.vi g _ _ _ e rfl), (h.oV g e).2⟩, fun q v xs e => ⟨own_fr (h.oG q v xs e).1 hg (fun e' => ?_), (h.oG q v xs e).2⟩, fun q v xs e => ?_, h.vg, fun g q v xs e' e => ?_, fun q v xs j u ys e' e => ?_⟩
  · rw [(h.oG q v xs e).2] at e'; cases e'; exact h.gi _ _ _ _ _ _ e rfl rfl
  · cases e; exact ⟨ho, rfl⟩
  · cases e
    rcases hk with rfl | rfl
    · exact h.vi g _ _ _ e' rfl
    · have := (h.oV g e').1.1; omega
  · cases e
    rcases hk with rfl | rfl
    · exact h.gi _ _ _ _ _ _ e' rfl
    · have := (h.ltG e').2; omega
end
section
variable {W X : World} {V : Option Nat} {G I : Option (Nat × Value × List Int)} {o o' : Obj}
theorem Sd.cV {wc : World} {H H' : Nat} (h : Sd W wc (some H) G I) (e : H = H') : Sd W wc (some H') G I := by subst e; exact h
theorem Sd.cG {wc : World} {H H' : Nat} (h : Sd W wc V (some (H, .slice (some ⟨H, 0, none⟩) 0 0, [])) I) (e : H = H') : Sd W wc V (some (H', .slice (some ⟨H', 0, none⟩) 0 0, [])) I := by subst e; exact h
theorem Sd.cI {wc : World} {H H' : Nat} (h : Sd W wc V G (some (H, .slice (some ⟨H, 0, none⟩) 0 0, []))) (e : H = H') : Sd W wc V G (some (H', .slice (some ⟨H', 0, none⟩) 0 0, [])) := by subst e; exact h
theorem Sd.alV1 (h : Sd W (X.alloc o) none G I) : Sd W ((X.alloc o).alloc (.cells #[.slice none 0 0, .slice none 0 0, .slice none 0 0, .int .i64 0, .int .i64 0] 27)) (some (X.heap.size + 1)) G I := h.alV.cV (by simp)
theorem Sd.alV2 (h : Sd W ((X.alloc o).alloc o') none G I) : Sd W (((X.alloc o).alloc o').alloc (.cells #[.slice none 0 0, .slice none 0 0, .slice none 0 0, .int .i64 0, .int .i64 0] 27)) (some (X.heap.size + 1 + 1)) G I := h.alV.cV (by simp)
theorem Sd.alG1 (h : Sd W (X.alloc o) V none I) : Sd W ((X.alloc o).alloc (.cells #[] 3)) V (some (X.heap.size + 1, .slice (some ⟨X.heap.size + 1, 0, none⟩) 0 0, [])) I := h.alG.cG (by simp)
theorem Sd.alG2 (h : Sd W ((X.alloc o).alloc o') V none I) : Sd W (((X.alloc o).alloc o').alloc (.cells #[] 3)) V (some (X.heap.size + 1 + 1, .slice (some ⟨X.heap.size + 1 + 1, 0, none⟩) 0 0, [])) I := h.alG.cG (by simp)
theorem Sd.alI1 (h : Sd W (X.alloc o) V G none) : Sd W ((X.alloc o).alloc (.cells #[] 3)) V G (some (X.heap.size + 1, .slice (some ⟨X.heap.size + 1, 0, none⟩) 0 0, [])) := h.alI.cI (by simp)
theorem Sd.alI2 (h : Sd W ((X.alloc o).alloc o') V G none) : Sd W (((X.alloc o).alloc o').alloc (.cells #[] 3)) V G (some (X.heap.size + 1 + 1, .slice (some ⟨X.heap.size + 1 + 1, 0, none⟩) 0 0, [])) := h.alI.cI (by simp)
end
/-- The two appends at a step of the region. -/
theorem stepG {W wc : World} {V : Option Nat} {I : Option (Nat × Value × List Int)} {g : Nat} (st : Sd W wc V (some (g, .slice (some ⟨g, 0, none⟩) 0 0, [])) I) {ops : Array Oper} {o : Oper} {a : Act} {K : Act → World → Prop} {Q : Exit → Act → World → Prop} {E : Prop} (hgd : o.guard = none) (s x : Operand)
    (ho : o.op = .call { callee := .builtin .append, args := #[s, x], argTypes := #[25, 25] }) (ad : Option Addr) (n c : Nat) (xs : List Int) (hs : a.eval s = .slice (some ⟨g, 0, none⟩) 0 0) (hx : a.eval x = .slice ad n c) (hn : xs.length = n) (hi : IsL W ad xs) (hl : n ≤ 1048576)
    (h : ∀ k cap w', Sd W w' V (some (k, .slice (some ⟨k, 0, none⟩) n cap, xs)) I → K (a.put o.dst (.slice (some ⟨k, 0, none⟩) n cap)) w') :
    if Region.wanted o (yielded ops a.tmps) = true then Oper.wp Try.prog o a wc K Q else E :=
  step_appI hgd s x ho W.heap.size g ad n c xs hs hx (st.oG _ _ _ rfl).1 hn (hi.below st.bel) hl st.bel.size (fun k cap w' h2 h3 h4 _ => h k cap w' (st.apG h2 h3 h4))
theorem stepI {W wc : World} {V : Option Nat} {G : Option (Nat × Value × List Int)} {g : Nat} (st : Sd W wc V G (some (g, .slice (some ⟨g, 0, none⟩) 0 0, []))) {ops : Array Oper} {o : Oper} {a : Act} {K : Act → World → Prop} {Q : Exit → Act → World → Prop} {E : Prop} (hgd : o.guard = none) (s x : Operand)
    (ho : o.op = .call { callee := .builtin .append, args := #[s, x], argTypes := #[25, 25] }) (ad : Option Addr) (n c : Nat) (xs : List Int) (hs : a.eval s = .slice (some ⟨g, 0, none⟩) 0 0) (hx : a.eval x = .slice ad n c) (hn : xs.length = n) (hi : IsL W ad xs) (hl : n ≤ 1048576)
    (h : ∀ k cap w', Sd W w' V G (some (k, .slice (some ⟨k, 0, none⟩) n cap, xs)) → K (a.put o.dst (.slice (some ⟨k, 0, none⟩) n cap)) w') :
    if Region.wanted o (yielded ops a.tmps) = true then Oper.wp Try.prog o a wc K Q else E :=
  step_appI hgd s x ho W.heap.size g ad n c xs hs hx (st.oI _ _ _ rfl).1 hn (hi.below st.bel) hl st.bel.size (fun k cap w' h2 h3 h4 _ => h k cap w' (st.apI h2 h3 h4))
/-- The variable with both lists. -/
structure Re (W wx : World) (bo kg ki : Nat) (n m cg ci : Nat) (lv l2 : Int) (gs ids : List Int) : Prop where
  bx : Wr wx bo 0 [.slice none 0 0, .slice (some ⟨kg, 0, none⟩) n cg, .slice (some ⟨ki, 0, none⟩) m ci, .int .i64 lv, .int .i64 l2]
  og : Li.Own wx W.heap.size (.slice (some ⟨kg, 0, none⟩) n cg) gs
  oi : Li.Own wx W.heap.size (.slice (some ⟨ki, 0, none⟩) m ci) ids
  ne : ¬ bo = kg ∧ ¬ bo = ki ∧ ¬ kg = ki
  ge : W.heap.size ≤ bo
  bel : Below W.heap.size W wx
theorem Sd.ofSet {W wn : World} {bo kg ki n m cg ci : Nat} {lv l2 : Int} {gs ids : List Int} (h : Sd W wn (some bo) (some (kg, .slice (some ⟨kg, 0, none⟩) n cg, gs)) (some (ki, .slice (some ⟨ki, 0, none⟩) m ci, ids))) :
    Re W (((((wn.setCell ⟨bo, 0, none⟩ (.slice none 0 0)).setCell ⟨bo, 1, none⟩ (.slice (some ⟨kg, 0, none⟩) n cg)).setCell ⟨bo, 2, none⟩ (.slice (some ⟨ki, 0, none⟩) m ci)).setCell ⟨bo, 3, none⟩ (.int .i64 lv)).setCell ⟨bo, 4, none⟩ (.int .i64 l2)) bo kg ki n m cg ci lv l2 gs ids := by
  obtain ⟨oV, geV⟩ := h.oV bo rfl
  have n1 := h.vg bo _ _ _ rfl rfl
  have n2 := h.vi bo _ _ _ rfl rfl
  have n3 := h.gi _ _ _ _ _ _ rfl rfl
  have hfr : ∀ (A : World) (o : Nat) (v : Value), Fr (fun k => k = bo) A (A.setCell ⟨bo, o, none⟩ v) := fun A o v => fr_grown (Li.grown_set A bo o v) rfl
  have hg : ∀ (A : World) (o : Nat) (y : Value) (u : Value) (xs : List Int), ¬ u.ownBlock = some bo → Li.Own A W.heap.size u xs → Li.Own (A.setCell ⟨bo, o, none⟩ y) W.heap.size u xs := fun A o y u xs hn hA => own_fr hA (Li.grown_set A bo o y) hn
  have hF : Fr (fun k => k = bo) wn (((((wn.setCell ⟨bo, 0, none⟩ (.slice none 0 0)).setCell ⟨bo, 1, none⟩ (.slice (some ⟨kg, 0, none⟩) n cg)).setCell ⟨bo, 2, none⟩ (.slice (some ⟨ki, 0, none⟩) m ci)).setCell ⟨bo, 3, none⟩ (.int .i64 lv)).setCell ⟨bo, 4, none⟩ (.int .i64 l2)) := by
    iterate 5 refine Fr.trans ?_ (hfr _ _ _)
    exact Fr.refl _ _
  refine ⟨?_, ?_, ?_, ⟨n1, n2, n3⟩, geV, h.bel.trans (hF.bel (fun k hk => by omega) h.bel.size)⟩
  · have h0 := oV.set 0 (by simp [zr5']) (.slice none 0 0)
    have h1 := h0.set 1 (by simp [zr5']) (.slice (some ⟨kg, 0, none⟩) n cg)
    have h2 := h1.set 2 (by simp [zr5']) (.slice (some ⟨ki, 0, none⟩) m ci)
    have h3 := h2.set 3 (by simp [zr5']) (.int .i64 lv)
    have h4 := h3.set 4 (by simp [zr5']) (.int .i64 l2)
    simpa [zr5'] using h4
  · iterate 5 refine hg _ _ _ _ _ (fun e => n1 (by simpa [Value.ownBlock] using e.symm)) ?_
    exact (h.oG _ _ _ rfl).1
  · iterate 5 refine hg _ _ _ _ _ (fun e => n2 (by simpa [Value.ownBlock] using e.symm)) ?_
    exact (h.oI _ _ _ rfl).1
theorem Sd.ofNew {W wn : World} {kg ki n m cg ci : Nat} {lv l2 : Int} {gs ids : List Int} (h : Sd W wn none (some (kg, .slice (some ⟨kg, 0, none⟩) n cg, gs)) (some (ki, .slice (some ⟨ki, 0, none⟩) m ci, ids))) :
    Re W (wn.alloc (.cells #[.slice none 0 0, .slice (some ⟨kg, 0, none⟩) n cg, .slice (some ⟨ki, 0, none⟩) m ci, .int .i64 lv, .int .i64 l2] 27)) wn.heap.size kg ki n m cg ci lv l2 gs ids := by
  have hb : Below wn.heap.size wn (wn.alloc (.cells #[.slice none 0 0, .slice (some ⟨kg, 0, none⟩) n cg, .slice (some ⟨ki, 0, none⟩) m ci, .int .i64 lv, .int .i64 l2] 27)) := (Below.refl _ _).alloc (Nat.le_refl _) _
  have g1 := (h.ltG rfl).2
  have g2 := (h.ltI rfl).2
  exact ⟨wr_new wn [.slice none 0 0, .slice (some ⟨kg, 0, none⟩) n cg, .slice (some ⟨ki, 0, none⟩) m ci, .int .i64 lv, .int .i64 l2] 27, (h.oG _ _ _ rfl).1.below hb, (h.oI _ _ _ rfl).1.below hb, ⟨by omega, by omega, h.gi _ _ _ _ _ _ rfl rfl⟩, h.bel.size, h.bel.trans (hb.mono h.bel.size)⟩
end Go.Proofs.Ytmfippeclkmhnaa.Rt
