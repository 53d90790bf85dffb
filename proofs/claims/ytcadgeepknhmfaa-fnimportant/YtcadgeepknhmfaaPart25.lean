/-
  Contracts that the proof leans on, put together in the order in which they build.
-/
import Derived.Test.YtcadgeepknhmfaaPart24
import Derived.Test.YtcadgeepknhmfaaPart23
/-
  One more table of words, or tree, put behind a list of them; what is cut off a model.
-/
namespace Go.Proofs.Ytcadgeepknhmfaa.Ct
set_option maxRecDepth 20000
open Go.RowKit
open Go.Proofs.Ytcadgeepknhmfaa.Tb (ownsRow_at)
open Go.Proofs.Ytcadgeepknhmfaa.Sv (Fr fr_below fr_grown Wr)
open Go.Proofs.Ytcadgeepknhmfaa.Kt (Kv OwK owk_snoc)
open Go.Proofs.Ytcadgeepknhmfaa.To (OwT owt_snoc)
open Go.Proofs.Ytcadgeepknhmfaa.Tm (OwnP)
open Go.Proofs.Ytcadgeepknhmfaa.Md (M mok OwM)
set_option linter.unusedVariables false
def cutn (m : M) (n : Int) : Nat := (max 0 (min n (m.ts.length : Int))).toNat
def zero : M := ⟨0, 0, 0, 0, [], []⟩
def mcut (m : M) (n : Int) : M := if mok m = true then ⟨m.n, m.c, m.prior, m.base, m.ks, m.ts.take (cutn m n)⟩ else zero
theorem mcut_no {m : M} (h : mok m = false) (n : Int) : mcut m n = zero := by unfold mcut; rw [if_neg (by rw [h]; simp)]
theorem mcut_yes {m : M} (h : mok m = true) (n : Int) : mcut m n = ⟨m.n, m.c, m.prior, m.base, m.ks, m.ts.take (cutn m n)⟩ := by unfold mcut; rw [if_pos h]
theorem info_ctr : (Try.prog.info? 54).map (fun i => (i.zero, i.size, i.bytes)) = some (some (.agg #[.slice none 0 0, .slice none 0 0]), 2, 48) := by kernel_rfl
theorem info_tree : (Try.prog.info? 38).map (fun i => (i.zero, i.size, i.bytes)) = some (some (.agg #[.slice none 0 0, .slice none 0 0]), 2, 48) := by kernel_rfl
theorem pair_cell {w : World} {E : Nat} {u0 u1 : Value} (e0 : w.cell? ⟨E, 0, none⟩ = some u0) (e1 : w.cell? ⟨E, 1, none⟩ = some u1) : ∀ j u, ([u0, u1] : List Value)[j]? = some u → w.cell? ((⟨E, 0, none⟩ : Addr).add j) = some u := by
  intro j u hj
  rw [Go.WideShapes.add_plain, Nat.zero_add]
  match j, hj with
  | 0, hj => simp at hj; subst hj; exact e0
  | 1, hj => simp at hj; subst hj; exact e1
theorem pair_one {a b : Option Addr} {n c m d : Nat} : ∀ u ∈ ([.slice a n c, .slice b m d] : List Value), u.oneCell' = true := by
  intro u hu
  simp at hu
  rcases hu with rfl | rfl <;> rfl
theorem wp_pushK {o : Oper} {a : Act} {w : World} {K : Act → World → Prop} {Q : Exit → Act → World → Prop} (s x : Operand) (ho : o.op = .call { callee := .builtin .append, args := #[s, x], argTypes := #[26, 26] }) (dt : Option Tmp) (hd : o.dst = dt)
    (B : Nat → Prop) (m : Nat) (v : Value) (ks : List Kv) (h : OwK w (fun y => B y ∧ y < m) v ks) (E : Nat) (b0 b1 : Option Addr) (d0 d1 n0 n1 : Nat) (t : Kv) (hs : a.eval s = v) (hx : a.eval x = .slice (some ⟨E, 0, none⟩) 1 1)
    (e0 : w.cell? ⟨E, 0, none⟩ = some (.slice b0 n0 d0)) (e1 : w.cell? ⟨E, 1, none⟩ = some (.slice b1 n1 d1)) (o0 : Ls.Own w m (.slice b0 n0 d0) t.ws) (o1 : Li.Own w m (.slice b1 n1 d1) t.vs) (h01 : ∀ k, (Value.slice b0 n0 d0).ownBlock = some k → (Value.slice b1 n1 d1).ownBlock ≠ some k)
    (hB : ∀ y, m ≤ y → B y) (hm : m ≤ w.heap.size) (hl : ks.length ≤ 1000) (L : Nat) (hL : ks.length + 1 = L)
    (hq : ∀ a5 c5 w5, OwK w5 B (.slice a5 L c5) (ks ++ [t]) → w.grownBy w5 v.ownBlock → K (a.put dt (.slice a5 L c5)) w5) : o.wp Try.prog a w K Q := by
  subst hd; subst hL
  obtain ⟨i0, hi, hz0, hz1, hz2⟩ := info_parts info_ctr
  obtain ⟨vs, hown, hvl, he, hv, hbb, hss⟩ := h
  obtain ⟨v', w', hr, h2, h3, hnil, h5⟩ := run_append_own_at (P := Try.prog) w 0 26 o.type 54 i0 (.agg #[.slice none 0 0, .slice none 0 0]) 2 48 Try.underlying26 hi hz0 hz1 hz2 rfl (by decide) v ks.length vs hown ⟨E, 0, none⟩ 1 1 [.slice b0 n0 d0, .slice b1 n1 d1] rfl (pair_cell e0 e1) pair_one (by unfold maxLen; omega) (by omega) (by omega)
  have hok := owk_snoc (B := B) (m := m) hvl he hv hbb hss o0 o1 h01 hB hm h2 h3 h5
  obtain ⟨a5, c5, e5, _⟩ := hok.isk
  rw [List.length_append] at e5
  subst e5
  unfold Oper.wp execOp
  simp only [ho, resolve, invoke, builtin, Sem.run_bind, Sem.run_pure, Result.andThen_ok, List.map_toArray, List.map_cons, List.map_nil, hs, hx, hr]
  exact hq a5 c5 w' hok h3
theorem wp_pushT {o : Oper} {a : Act} {w : World} {K : Act → World → Prop} {Q : Exit → Act → World → Prop} (s x : Operand) (ho : o.op = .call { callee := .builtin .append, args := #[s, x], argTypes := #[27, 27] }) (dt : Option Tmp) (hd : o.dst = dt)
    (B : Nat → Prop) (m : Nat) (v : Value) (ks : List Tr.T) (h : OwT w (fun y => B y ∧ y < m) v ks) (E : Nat) (b0 b1 : Option Addr) (d0 d1 n0 n1 : Nat) (t : Tr.T) (hs : a.eval s = v) (hx : a.eval x = .slice (some ⟨E, 0, none⟩) 1 1)
    (e0 : w.cell? ⟨E, 0, none⟩ = some (.slice b0 n0 d0)) (e1 : w.cell? ⟨E, 1, none⟩ = some (.slice b1 n1 d1)) (o0 : OwnP w m (.slice b0 n0 d0) t.sp) (o1 : Li.Own w m (.slice b1 n1 d1) t.lv) (h01 : ∀ k, (Value.slice b0 n0 d0).ownBlock = some k → (Value.slice b1 n1 d1).ownBlock ≠ some k)
    (hB : ∀ y, m ≤ y → B y) (hm : m ≤ w.heap.size) (hl : ks.length ≤ 1000) (L : Nat) (hL : ks.length + 1 = L)
    (hq : ∀ a5 c5 w5, OwT w5 B (.slice a5 L c5) (ks ++ [t]) → w.grownBy w5 v.ownBlock → K (a.put dt (.slice a5 L c5)) w5) : o.wp Try.prog a w K Q := by
  subst hd; subst hL
  obtain ⟨i0, hi, hz0, hz1, hz2⟩ := info_parts info_tree
  obtain ⟨vs, hown, hvl, he, hv, hbb, hss⟩ := h
  obtain ⟨v', w', hr, h2, h3, hnil, h5⟩ := run_append_own_at (P := Try.prog) w 0 27 o.type 38 i0 (.agg #[.slice none 0 0, .slice none 0 0]) 2 48 Try.underlying27 hi hz0 hz1 hz2 rfl (by decide) v ks.length vs hown ⟨E, 0, none⟩ 1 1 [.slice b0 n0 d0, .slice b1 n1 d1] rfl (pair_cell e0 e1) pair_one (by unfold maxLen; omega) (by omega) (by omega)
  have hok := owt_snoc (B := B) (m := m) hvl he hv hbb hss o0 o1 h01 hB hm h2 h3 h5
  obtain ⟨a5, c5, e5, _⟩ := hok.ist
  rw [List.length_append] at e5
  subst e5
  unfold Oper.wp execOp
  simp only [ho, resolve, invoke, builtin, Sem.run_bind, Sem.run_pure, Result.andThen_ok, List.map_toArray, List.map_cons, List.map_nil, hs, hx, hr]
  exact hq a5 c5 w' hok h3
def Fx (b2 m : Nat) : Nat → Prop := fun y => y = b2 ∨ m ≤ y
theorem fx_bel {b2 m : Nat} {w2 wr : World} {n : Nat} (h : Fr (Fx b2 m) w2 wr) (hb : n ≤ b2) (hm : n ≤ m) (hn : n ≤ w2.heap.size) : Below n w2 wr := h.bel (fun k e => by rcases e with e | e <;> omega) hn
theorem fx_grown {b2 m : Nat} {w w1 : World} {v : Value} (hg : w.grownBy w1 v.ownBlock) (hv : ∀ k, v.ownBlock = some k → m ≤ k) : Fr (Fx b2 m) w w1 :=
  ⟨hg.os, hg.tape, hg.output, hg.size, fun k hk hn => hg.block k hk (fun e => hn (.inr (hv k e.symm)))⟩
theorem fx_set {b2 m : Nat} (w : World) (o : Nat) (x : Value) : Fr (Fx b2 m) w (w.setCell ⟨b2, o, none⟩ x) := fr_grown (Li.grown_set w b2 o x) (.inl rfl)
theorem fx_below {b2 m : Nat} {w w1 : World} (h : Below w.heap.size w w1) : Fr (Fx b2 m) w w1 := fr_below h
theorem szT_take_le (ts : List Tr.T) (q : Nat) : Tm.szT (ts.take q) ≤ Tm.szT ts := by
  induction ts generalizing q with
  | nil => simp
  | cons t ts ih =>
    cases q with
    | zero => simp [Tm.szT]
    | succ q => simp only [List.take_succ_cons, Tm.szT]; have := ih q; omega
theorem mcut_sz (m : M) (n : Int) : (mcut m n).sz ≤ m.sz := by
  cases h : mok m with
  | false => rw [mcut_no h]; simp [zero, M.sz, Kt.ksz, Tm.szT]
  | true =>
    rw [mcut_yes h]
    unfold M.sz
    have h1 := szT_take_le m.ts (cutn m n)
    have h2 : (m.ts.take (cutn m n)).length ≤ m.ts.length := by rw [List.length_take]; omega
    show m.ks.length + Kt.ksz m.ks + ((m.ts.take (cutn m n)).length + Tm.szT (m.ts.take (cutn m n))) ≤ _
    omega
theorem owm_cap {w : World} {B : Nat → Prop} {vk : Value} {ax : Option Addr} {ct : Nat} {m : M} (h : OwM w B vk (.slice ax m.ts.length ct) m) : m.ts.length ≤ ct := by
  obtain ⟨_, _, vs, ho, _⟩ := h
  rcases ho.2 with ⟨e, h0⟩ | ⟨g, cap, cur, e, _, _, h3, _⟩
  · omega
  · cases e; exact h3
end Go.Proofs.Ytcadgeepknhmfaa.Ct
/-
  A model cut short is as good as it was.
-/
namespace Go.Proofs.Ytcadgeepknhmfaa.Ct
set_option maxRecDepth 20000
open Go.Proofs.Ytcadgeepknhmfaa.Md (M mok mok_parts)
open Go.Proofs.Ytcadgeepknhmfaa.Sw (allok)
theorem mok_take {m : M} (h : mok m = true) (q : Nat) : mok ⟨m.n, m.c, m.prior, m.base, m.ks, m.ts.take q⟩ = true := by
  obtain ⟨h1, h2, h3, h4, h5, h6, h7⟩ := mok_parts h
  unfold mok
  simp only [Bool.and_eq_true, decide_eq_true_eq]
  refine ⟨h1, h2, h3, by rw [List.length_take]; omega, h5, ?_, h7⟩
  unfold allok at h6 ⊢
  rw [List.all_eq_true] at h6 ⊢
  exact fun t ht => h6 t (List.mem_of_mem_take ht)
theorem mok_cut {m : M} (h : mok m = true) (n : Int) : mok (mcut m n) = true := by
  rw [mcut_yes h]; exact mok_take h _
end Go.Proofs.Ytcadgeepknhmfaa.Ct
/-
  What the counts of all features come to; with fewer trees none is greater.
-/
namespace Go.Proofs.Ytcadgeepknhmfaa.Md
set_option maxRecDepth 20000
theorem set_sum : ∀ (l : List Int) (k : Nat) (v : Int), k < l.length → (l.set k v).sum = l.sum - l.getD k 0 + v
  | [], k, v, h => by simp at h
  | x :: l, 0, v, _ => by simp; omega
  | x :: l, k + 1, v, h => by
    have := set_sum l k v (by simpa using h)
    simp only [List.set_cons_succ, List.sum_cons, List.getD_cons_succ, this]
    omega
theorem bump_sum {l : List Int} {p : Int × Int} (h : p.1.toNat < l.length) : (bump l p).sum = l.sum + 1 := by
  unfold bump; rw [set_sum _ _ _ h]; omega
theorem bump_len (l : List Int) (p : Int × Int) : (bump l p).length = l.length := by simp [bump]
theorem bump_ge (l : List Int) (p : Int × Int) (k : Nat) : l.getD k 0 ≤ (bump l p).getD k 0 := by
  unfold bump
  rw [List.getD_eq_getElem?_getD, List.getD_eq_getElem?_getD, List.getElem?_set]
  split
  · rename_i e
    subst e
    split
    · rename_i h; simp [h]; omega
    · rename_i h; simp [h]
  · exact Int.le_refl _
theorem folds_len : ∀ (ps : List (Int × Int)) (l : List Int), (ps.foldl bump l).length = l.length
  | [], l => rfl
  | p :: ps, l => by rw [List.foldl_cons, folds_len ps, bump_len]
theorem folds_sum : ∀ (ps : List (Int × Int)) (l : List Int), (∀ p ∈ ps, p.1.toNat < l.length) → (ps.foldl bump l).sum = l.sum + ps.length
  | [], l, _ => by simp
  | p :: ps, l, h => by
    rw [List.foldl_cons, folds_sum ps _ (fun q hq => by rw [bump_len]; exact h q (List.mem_cons_of_mem _ hq)), bump_sum (h p List.mem_cons_self), List.length_cons]
    omega
theorem folds_ge : ∀ (ps : List (Int × Int)) (l : List Int) (k : Nat), l.getD k 0 ≤ (ps.foldl bump l).getD k 0
  | [], l, k => Int.le_refl _
  | p :: ps, l, k => by rw [List.foldl_cons]; exact Int.le_trans (bump_ge l p k) (folds_ge ps _ k)
theorem impT_len (l : List Int) (t : Tr.T) : (impT l t).length = l.length := folds_len t.sp l
theorem impF_len : ∀ (ts : List Tr.T) (l : List Int), (ts.foldl impT l).length = l.length
  | [], l => rfl
  | t :: ts, l => by rw [List.foldl_cons, impF_len ts, impT_len]
theorem impF_sum : ∀ (ts : List Tr.T) (l : List Int), l.length = 6 → (∀ t ∈ ts, ∀ p ∈ t.sp, p.1.toNat < 6) → (ts.foldl impT l).sum = l.sum + tsp ts
  | [], l, _, _ => by simp [tsp]
  | t :: ts, l, hl, h => by
    rw [List.foldl_cons, impF_sum ts _ (by rw [impT_len]; exact hl) (fun u hu => h u (List.mem_cons_of_mem _ hu))]
    have h1 := folds_sum t.sp l (fun p hp => by rw [hl]; exact h t List.mem_cons_self p hp)
    unfold impT
    rw [h1, tsp]
    omega
theorem impF_ge : ∀ (ts : List Tr.T) (l : List Int) (k : Nat), l.getD k 0 ≤ (ts.foldl impT l).getD k 0
  | [], l, k => Int.le_refl _
  | t :: ts, l, k => by rw [List.foldl_cons]; exact Int.le_trans (folds_ge t.sp l k) (impF_ge ts _ k)
theorem impL_len (ts : List Tr.T) : (impL ts).length = 6 := by unfold impL; rw [impF_len]; rfl
theorem impL_take (ts : List Tr.T) (q k : Nat) : (impL (ts.take q)).getD k 0 ≤ (impL ts).getD k 0 := by
  have h : impL ts = (ts.drop q).foldl impT (impL (ts.take q)) := by
    unfold impL; rw [← List.foldl_append, List.take_append_drop]
  rw [h]; exact impF_ge _ _ _
theorem imps_sum {m : M} (h : mok m = true) : (imps m).sum = tsp m.ts := by
  rw [imps_yes h]
  unfold impL
  rw [impF_sum m.ts _ (by simp) (fun t ht p hp => by
    obtain ⟨k, hk, rfl⟩ := List.getElem_of_mem ht
    obtain ⟨j, hj, rfl⟩ := List.getElem_of_mem hp
    have := (sp_at h k hk).2 j hj
    omega)]
  rw [List.sum_replicate_int]
  simp
theorem imps_len6 {m : M} (h : mok m = true) : (imps m).length = 6 := by rw [imps_yes h]; exact impL_len _
theorem imps_cut {m : M} (h : mok m = true) (n : Int) (k : Nat) : (imps (Ct.mcut m n)).getD k 0 ≤ (imps m).getD k 0 := by
  rw [imps_yes (Ct.mok_cut h n), imps_yes h, Ct.mcut_yes h]
  exact impL_take _ _ _
theorem tsp_snoc (ts : List Tr.T) (k : Nat) (h : k < ts.length) : tsp (ts.take (k + 1)) = tsp (ts.take k) + ts[k].sp.length := by
  induction ts generalizing k with
  | nil => simp at h
  | cons t ts ih =>
    cases k with
    | zero => simp [tsp]
    | succ k => simp only [List.take_succ_cons, tsp, List.getElem_cons_succ]; rw [ih k (by simpa using h)]; omega
theorem sum_snoc (l : List Int) (k : Nat) (h : k < l.length) : (l.take (k + 1)).sum = (l.take k).sum + l[k] := by
  rw [List.take_succ_eq_append_getElem h, List.sum_append_int]; simp
theorem imp_le {m : M} (x : Int) (hx : x ∈ imps m) : 0 ≤ x ∧ x ≤ tsp m.ts := by
  unfold imps at hx
  split at hx
  · exact (imp_bb m.ts).2 x hx
  · simp at hx
theorem sum_bd : ∀ (l : List Int) (N : Int), (∀ x ∈ l, 0 ≤ x ∧ x ≤ N) → 0 ≤ l.sum ∧ l.sum ≤ N * l.length
  | [], N, _ => by simp
  | x :: l, N, h => by
    have h1 := sum_bd l N (fun y hy => h y (List.mem_cons_of_mem _ hy))
    have h2 := h x List.mem_cons_self
    simp only [List.sum_cons, List.length_cons, Int.natCast_add, Int.mul_add]
    omega
end Go.Proofs.Ytcadgeepknhmfaa.Md
/-
  CutTo of the program.
-/
namespace Go.Proofs.Ytcadgeepknhmfaa.Ct
set_option maxRecDepth 100000
open Go.RowKit
open Go.Proofs.Ytcadgeepknhmfaa.Sv (Fr fr_below fr_grown Wr wr2 new1 new2)
open Go.Proofs.Ytcadgeepknhmfaa.Kt (Kv OwK IsK)
open Go.Proofs.Ytcadgeepknhmfaa.To (OwT)
open Go.Proofs.Ytcadgeepknhmfaa.Tm (OwnP IsT)
open Go.Proofs.Ytcadgeepknhmfaa.Md (M mok mok_parts OwM Rm wr6 imok ks_at ts_at)
open Go.Proofs.Ytcadgeepknhmfaa.Tb (results_cell)
set_option linter.unusedVariables false
theorem _root_.Go.Proofs.Ytcadgeepknhmfaa.Tb.lets_mem {s : ByteArray} : ∀ {ss : List ByteArray}, s ∈ ss → s.size ≤ Tb.lets ss := by
  intro ss hs
  obtain ⟨j, hj, rfl⟩ := List.getElem_of_mem hs
  exact Tb.lets_at ss j hj
set_option maxHeartbeats 8000000 in
theorem icut (w : World) (ak ax : Option Addr) (ck ct : Nat) (m : M) (n : Int) (h : Rm w ak ax m) (hl : m.sz ≤ 1048576) (hcap : m.ts.length ≤ ct) :
    Calls Try.prog 10 #[.agg #[.int .i64 m.n, .int .i64 m.c, .int .i64 m.prior, .int .i64 m.base, .slice ak m.ks.length ck, .slice ax m.ts.length ct], .int .i64 n] w fun e w' => ∃ vk vt, e = .returned (.agg #[.int .i64 (mcut m n).n, .int .i64 (mcut m n).c, .int .i64 (mcut m n).prior, .int .i64 (mcut m n).base, vk, vt]) ∧ OwM w' (fun y => w.heap.size ≤ y ∧ y < w'.heap.size) vk vt (mcut m n) ∧ Below w.heap.size w w' := by
  go_enter Try.func10, Try.ntmps10
  go_wp2_with fail
  obtain ⟨W, hW, hsz, hB, bm, br⟩ := new2 w [.int .i64 m.n, .int .i64 m.c, .int .i64 m.prior, .int .i64 m.base, .slice ak m.ks.length ck, .slice ax m.ts.length ct] [.int .i64 0, .int .i64 0, .int .i64 0, .int .i64 0, .slice none 0 0, .slice none 0 0] 29 29
  rw [hW]
  clear hW
  refine (imok _ _ _ _ _ m (h.below hB) hl).mono ?_
  rintro e w1 ⟨rfl, hb⟩
  have bm := bm.below hb
  have br := br.below hb
  have hB := hB.trans (hb.mono hB.size)
  have hsz1 : w.heap.size + 2 ≤ w1.heap.size := by have := hb.size; omega
  clear hb hsz
  cases h1 : mok m with
  | false =>
    have HR : Hid (mcut m n = zero) := mcut_no h1 n
    obtain ⟨hrl, ⟨r0, r1, r2, r3, r4, r5⟩, f0, f1, f2, f3, f4, f5⟩ := wr6 br
    go_wp2
    refine bodyPost_ret (v := .agg #[.int .i64 0, .int .i64 0, .int .i64 0, .int .i64 0, .slice none 0 0, .slice none 0 0]) (by rw [results_cell rfl]; go_simp) rfl ⟨.slice none 0 0, .slice none 0 0, by rw [HR.out]; rfl, ?_, ?_⟩
    · rw [HR.out]; exact ⟨fun _ => True, OwK.nil _ _, OwT.nil _ _⟩
    · exact (((((hB.setCell (by simp) _).setCell (by simp) _).setCell (by simp) _).setCell (by simp) _).setCell (by simp) _).setCell (by simp) _
  | true =>
  have HR : Hid (mcut m n = ⟨m.n, m.c, m.prior, m.base, m.ks, m.ts.take (cutn m n)⟩) := mcut_yes h1 n
  have HKL : Hid (m.ks.length ≤ 40 ∧ m.ts.length ≤ 12) := ⟨by have h2 := (mok_parts h1).2.2.2.2.1; have h3 := Tk.sok_iff.1 (mok_parts h1).1; unfold Md.ncol at h2; split at h2 <;> omega, (mok_parts h1).2.2.2.1⟩
  have HL : Hid (m.sz ≤ 1048576) := hl
  clear h1 hl
  obtain ⟨_, ⟨x0, x1, x2, x3, x4, x5⟩, _⟩ := wr6 bm
  go_wp2
  obtain ⟨w2, hW2, hs2, hb2, bx0⟩ := new1 w1 [.int .i64 m.n, .int .i64 m.c, .int .i64 m.prior, .int .i64 m.base, .slice none 0 0, .slice none 0 0] 29
  rw [hW2]
  obtain ⟨b2, hb2e⟩ : ∃ b2, w1.heap.size = b2 := ⟨_, rfl⟩
  rw [hb2e] at bx0 ⊢
  obtain ⟨M0, hM0⟩ : ∃ M0, w2.heap.size = M0 := ⟨_, rfl⟩
  have HBX0 : Hid (type_of% bx0) := bx0
  have HBM : Hid (type_of% (bm.below hb2)) := bm.below hb2
  have HBR : Hid (type_of% (br.below hb2)) := br.below hb2
  have HBW2 : Hid (Below w.heap.size w w2) := hB.trans (hb2.mono hB.size)
  have HWB : Hid (w.heap.size + 2 ≤ b2) := by show _ ≤ _; omega
  have HMB : Hid (b2 < M0) := by show _ < _; omega
  have HWM : Hid (w.heap.size + 2 ≤ M0) := by show _ ≤ _; omega
  have HWS : Hid (M0 ≤ w2.heap.size) := by show _ ≤ _; omega
  clear hW2 hs2 hb2 bx0 hb2e hM0 bm br hB hsz1 x0 x1 x2 x3 x4 x5
  go_loopw [24] (fun i wr => ∃ (k : Nat) (ka : Option Addr) (kc : Nat), k ≤ m.ks.length ∧ i = .int .i64 k ∧ Wr wr b2 0 [.int .i64 m.n, .int .i64 m.c, .int .i64 m.prior, .int .i64 m.base, .slice ka k kc, .slice none 0 0] ∧ OwK wr (fun y => M0 ≤ y) (.slice ka k kc) (m.ks.take k) ∧ Fr (Fx b2 M0) w2 wr) (fun i _ => m.ks.length - (intOf i).toNat)
  case atStart => exact ⟨0, none, 0, Nat.zero_le _, rfl, HBX0.out, OwK.nil _ _, Fr.refl _ _⟩
  case round =>
    clear HBX0
    obtain ⟨k, ka, kc, hk, rfl, bx, ok, hf⟩ := hrel
    have hs2 := hf.size
    have hBw : Below w.heap.size w wr := HBW2.out.trans (fx_bel hf (by have := HWB.out; omega) (by have := HWM.out; omega) HBW2.out.size)
    obtain ⟨hbl, ⟨x0, x1, x2, x3, x4, x5⟩, _⟩ := wr6 bx
    obtain ⟨_, ⟨y0, y1, y2, y3, y4, y5⟩, _⟩ := wr6 (HBM.out.keptAt hf.size (hf.block _ HBM.out.1 (by unfold Fx; have := HWB.out; have := HWM.out; omega)))
    by_cases hlt : k < m.ks.length
    · rcases h.k.below hBw with e0 | ⟨xb, xo, rfl, hxb, hxc⟩
      · rw [e0] at hlt; simp at hlt
      obtain ⟨a0, c0, a1, c1, ⟨d0, d1⟩, i0, i1⟩ := hxc k hlt
      have hl1 := ks_at HL.out k hlt
      have hzs : ∀ s ∈ m.ks[k].ws, s.size ≤ 1048576 := fun s hs => by have := Tb.lets_mem hs; omega
      have hl1 : m.ks[k].ws.length + m.ks[k].vs.length ≤ 1048576 := by omega
      have HTK : Hid (m.ks.take (k + 1) = m.ks.take k ++ [m.ks[k]]) := List.take_succ_eq_append_getElem hlt
      have HTL : Hid ((m.ks.take k).length = k) := by show _ = _; rw [List.length_take]; omega
      have hk40 : k ≤ 40 := by have := HKL.out; omega
      generalize m.ks[k] = t at d0 d1 i0 i1 hl1 HTK hzs
      clear hxc
      go_wp2_with fail
      obtain ⟨W3, hW3, hs3, hb3, bt0⟩ := new1 wr [.slice a0 t.ws.length c0, .slice a1 t.vs.length c1] 54
      rw [hW3]
      obtain ⟨bt, hbt⟩ : ∃ bt, wr.heap.size = bt := ⟨_, rfl⟩
      rw [hbt] at bt0 ⊢
      have HVB : Hid (∀ y, (Value.slice ka k kc).ownBlock = some y → M0 ≤ y) := fun y ey => by obtain ⟨_, _, _, _, hv, _⟩ := ok; exact hv y ey
      have HVT : Hid ((Value.slice ka k kc).ownBlock ≠ some bt) := fun ey => by have := ok.lt bt ey; omega
      have HOK : Hid (OwK W3 (fun y => M0 ≤ y ∧ y < W3.heap.size) (.slice ka k kc) (m.ks.take k)) := (ok.below hb3).bound
      have HBX : Hid (Wr W3 b2 0 [.int .i64 m.n, .int .i64 m.c, .int .i64 m.prior, .int .i64 m.base, .slice ka k kc, .slice none 0 0]) := bx.below hb3
      have HBT : Hid (Wr W3 bt 0 [.slice a0 t.ws.length c0, .slice a1 t.vs.length c1]) := bt0
      have HF : Hid (Fr (Fx b2 M0) w2 W3) := hf.trans (fx_below hb3)
      have HM0 : Hid (M0 ≤ W3.heap.size) := by have := hb3.size; have := HWS.out; show _ ≤ _; omega
      have HSX : Hid (∀ X : World, Below W3.heap.size W3 X → X.cell? ⟨b2, 4, none⟩ = some (.slice ka k kc) ∧ X.cell? ⟨bt, 0, none⟩ = some (.slice a0 t.ws.length c0) ∧ X.cell? ⟨bt, 1, none⟩ = some (.slice a1 t.vs.length c1)) := fun X hX => ⟨(wr6 (HBX.out.below hX)).2.1.2.2.2.2.1, (wr2 (HBT.out.below hX)).2.1.1, (wr2 (HBT.out.below hX)).2.1.2⟩
      have i0 := i0.below hb3
      have i1 := i1.below hb3
      have st : Below W3.heap.size W3 W3.drew := (Below.refl _ _).drew
      have hS := HSX.out _ st
      clear hW3 hs3 hb3 bt0 hbt bx ok hf d0 d1 x0 x1 x2 x3 x4 x5 hBw hbl hxb y0 y1 y2 y3 y4 y5
      refine Hd.start (fun X => X.cell? ⟨b2, 4, none⟩ = some (.slice ka k kc) ∧ X.cell? ⟨bt, 0, none⟩ = some (.slice a0 t.ws.length c0) ∧ X.cell? ⟨bt, 1, none⟩ = some (.slice a1 t.vs.length c1)) 7 (by kernel_rfl) ?_
      generalize W3.drew = w0 at st hS ⊢
      refine Hd.After.pureD (i := 0) (some 28) (.pointer (some ⟨b2, 4, none⟩)) rfl rfl (by kernel_rfl) (by decide) (by kernel_rfl) (by kernel_rfl) (fun _ _ _ h => h) (hS) (Or.inl ⟨by rfl, ?_⟩) ?_
      · intro X; go_simp; try with_reducible rfl
      (first | simp only [Act.put, List.setIfInBounds_toArray, List.set_cons_zero, List.set_cons_succ] | skip)
      refine Hd.After.takeD (i := 1) (some 29) (.slice ka k kc) rfl rfl (by kernel_rfl) (by kernel_rfl) (by kernel_rfl) (by kernel_rfl) (by kernel_rfl) (fun _ _ _ h => h) (hS) (Or.inl ⟨by rfl, ?_⟩) ?_
      · rintro X ⟨s0, s1, s2⟩; go_simp; try with_reducible rfl
      (first | simp only [Act.put, List.setIfInBounds_toArray, List.set_cons_zero, List.set_cons_succ] | skip)
      refine Hd.After.takeD (i := 2) (some 30) (.agg #[.slice a0 t.ws.length c0, .slice a1 t.vs.length c1]) rfl rfl (by kernel_rfl) (by kernel_rfl) (by kernel_rfl) (by kernel_rfl) (by kernel_rfl) (fun _ _ _ h => h) (hS) (Or.inl ⟨by rfl, ?_⟩) ?_
      · rintro X ⟨s0, s1, s2⟩; go_simp; try with_reducible rfl
      (first | simp only [Act.put, List.setIfInBounds_toArray, List.set_cons_zero, List.set_cons_succ] | skip)
      refine Hd.After.one (i := 3) (by kernel_rfl) rfl rfl ?_
      intro K hK
      go_simp
      go_wp2_with (go_at_call 22; refine (icopyK _ _ _ _ _ t (i0.below st) (i1.below st) hl1 hzs).mono ?_; rintro e w5 ⟨b0, d0, b1, d1, rfl, o0, o1, h01, hb⟩)
      have st5 : Below W3.heap.size W3 w5 := st.trans (hb.mono st.size)
      have h05 := hb.size
      clear hb
      refine hK _ _ (fun _ => HSX.out _ st5) ?_
      clear hK K
      (first | simp only [Act.put, List.setIfInBounds_toArray, List.set_cons_zero, List.set_cons_succ] | skip)
      have hA : Below w5.heap.size w5 (w5.alloc (.cells #[.slice b0 t.ws.length d0, .slice b1 t.vs.length d1] 54)) := (Below.refl _ _).alloc (Nat.le_refl _) _
      have st6 := st5.trans (hA.mono st5.size)
      refine Hd.After.one (i := 4) (by kernel_rfl) rfl rfl ?_
      intro K hK
      go_simp
      refine hK _ _ (fun _ => HSX.out _ st6) ?_
      clear hK K
      (first | simp only [Act.put, List.setIfInBounds_toArray, List.set_cons_zero, List.set_cons_succ] | skip)
      refine Hd.After.one (i := 5) (by kernel_rfl) rfl rfl ?_
      intro K hK
      refine wp_pushK _ _ rfl (some 33) rfl (fun y => M0 ≤ y) W3.heap.size _ (m.ks.take k) (HOK.out.below st6) w5.heap.size b0 b1 d0 d1 _ _ t rfl rfl (by simp) (by simp) ((o0.below hA).mono (by have := st.size; omega)) ((o1.below hA).mono (by have := st.size; omega)) h01 (fun y hy => by have := HM0.out; omega) st6.size (by rw [HTL.out]; omega) (k + 1) (by rw [HTL.out]) ?_
      intro a7 c7 w7 hok7 hg7
      rw [← HTK.out] at hok7
      have hf7 : Fr (Fx b2 M0) w2 w7 := HF.out.trans ((fx_below st6).trans (fx_grown hg7 HVB.out))
      have hb7 : Wr w7 b2 0 [.int .i64 m.n, .int .i64 m.c, .int .i64 m.prior, .int .i64 m.base, .slice ka k kc, .slice none 0 0] := (HBX.out.below st6).keptAt hg7.size (hg7.block b2 (Nat.lt_of_lt_of_le HBX.out.1 st6.size) (fun e => by have := HVB.out b2 e.symm; have := HMB.out; omega))
      have ht7 : Wr w7 bt 0 [.slice a0 t.ws.length c0, .slice a1 t.vs.length c1] := (HBT.out.below st6).keptAt hg7.size (hg7.block bt (Nat.lt_of_lt_of_le HBT.out.1 st6.size) (fun e => HVT.out e.symm))
      obtain ⟨hl7, ⟨p0, p1, p2, p3, p4, p5⟩, q0, q1, q2, q3, q4, q5⟩ := wr6 hb7
      obtain ⟨_, ⟨r0, r1⟩, _⟩ := wr2 ht7
      clear hg7 ht7
      refine hK _ _ (fun _ => ⟨p4, r0, r1⟩) ?_
      clear hK K
      (first | simp only [Act.put, List.setIfInBounds_toArray, List.set_cons_zero, List.set_cons_succ] | skip)
      refine Hd.After.pureD (i := 6) (some 34) (.pointer (some ⟨b2, 4, none⟩)) rfl rfl (by kernel_rfl) (by decide) (by kernel_rfl) (by kernel_rfl) (fun _ _ _ h => h) (⟨p4, r0, r1⟩) (Or.inl ⟨by rfl, ?_⟩) ?_
      · intro X; go_simp; try with_reducible rfl
      (first | simp only [Act.put, List.setIfInBounds_toArray, List.set_cons_zero, List.set_cons_succ] | skip)
      refine Hd.After.one (i := 7) (by kernel_rfl) rfl rfl ?_
      intro K hK
      go_simp
      refine hK _ _ (fun h => by cases h) ?_
      clear hK K
      refine Hd.After.done (by kernel_rfl) ?_ _
      have HB8 : Hid (Wr (w7.setCell ⟨b2, 4, none⟩ (.slice a7 (k + 1) c7)) b2 0 [.int .i64 m.n, .int .i64 m.c, .int .i64 m.prior, .int .i64 m.base, .slice a7 (k + 1) c7, .slice none 0 0]) := hb7.set 4 (by simp) _
      have HO8 : Hid (OwK (w7.setCell ⟨b2, 4, none⟩ (.slice a7 (k + 1) c7)) (fun y => M0 ≤ y) (.slice a7 (k + 1) c7) (m.ks.take (k + 1))) := hok7.fr (fr_grown (B := fun y => y = b2) (Li.grown_set w7 b2 4 _) rfl) (fun y hy e => by have := HMB.out; omega)
      have HF8 : Hid (Fr (Fx b2 M0) w2 (w7.setCell ⟨b2, 4, none⟩ (.slice a7 (k + 1) c7))) := hf7.trans (fx_set w7 4 _)
      clear st hS st5 st6 hA o0 o1 h01 hok7 hf7 hb7 p0 p1 p2 p3 p4 p5 q0 q1 q2 q3 q4 q5 r0 r1 i0 i1 HSX
      go_wp2
      go_roundw
      case rel => exact ⟨k + 1, a7, c7, by omega, by go_num, HB8.out, HO8.out, HF8.out⟩
      case measure => simp [intOf]; omega
    · obtain rfl : k = m.ks.length := by omega
      have e1 : m.ks.take m.ks.length = m.ks := List.take_of_length_le (Nat.le_refl _)
      rw [e1] at ok
      have okb := ok.bound
      generalize wr = w3 at *
      obtain ⟨M1, hM1⟩ : ∃ M1, w3.heap.size = M1 := ⟨_, rfl⟩
      rw [hM1] at okb
      have hs3 := hf.size
      have HOKK : Hid (OwK w3 (fun y => M0 ≤ y ∧ y < M1) (.slice ka m.ks.length kc) m.ks) := okb
      have HBX0 : Hid (type_of% bx) := bx
      have HBR3 : Hid (type_of% (HBR.out.keptAt hf.size (hf.block _ HBR.out.1 (by unfold Fx; have := HWB.out; have := HWM.out; omega)))) := HBR.out.keptAt hf.size (hf.block _ HBR.out.1 (by unfold Fx; have := HWB.out; have := HWM.out; omega))
      have HBW3 : Hid (Below w.heap.size w w3) := hBw
      have HWM1 : Hid (w.heap.size + 2 ≤ M1) := by have := HWM.out; have := HWS.out; show _ ≤ _; omega
      have HWS1 : Hid (M1 ≤ w3.heap.size) := by show _ ≤ _; omega
      have HMB1 : Hid (b2 < M1) := by have := HMB.out; have := HWS.out; show _ < _; omega
      have HM01 : Hid (M0 ≤ M1) := by have := HWS.out; show _ ≤ _; omega
      obtain ⟨q, hq⟩ : ∃ q : Nat, max 0 (min n (m.ts.length : Int)) = (q : Int) := ⟨(max 0 (min n (m.ts.length : Int))).toNat, by omega⟩
      have HQ : Hid (q ≤ m.ts.length) := by show _ ≤ _; omega
      have HCQ : Hid (cutn m n = q) := by show _ = _; unfold cutn; rw [hq]; simp
      have hqc : q ≤ ct := by have := HQ.out; omega
      have hqt : (q : Int) ≤ (m.ts.length : Int) := by have := HQ.out; omega
      clear e1 ok okb bx hf hM1 hs3 hBw hs2 x0 x1 x2 x3 x4 x5 hlt
      go_wp2
      clear hq y0 y1 y2 y3 y4 y5
      go_loopw [46] (fun i wr => ∃ (k : Nat) (ac : Option Addr) (cc : Nat), k ≤ q ∧ i = .int .i64 k ∧ Wr wr b2 0 [.int .i64 m.n, .int .i64 m.c, .int .i64 m.prior, .int .i64 m.base, .slice ka m.ks.length kc, .slice ac k cc] ∧ OwT wr (fun y => M1 ≤ y) (.slice ac k cc) (m.ts.take k) ∧ Fr (Fx b2 M1) w3 wr) (fun i _ => q - (intOf i).toNat)
      case atStart => exact ⟨0, none, 0, Nat.zero_le _, rfl, HBX0.out, OwT.nil _ _, Fr.refl _ _⟩
      case round =>
        clear HBX0
        obtain ⟨k, ac, cc, hk, rfl, bx, ok, hf⟩ := hrel
        have hs2 := hf.size
        have hBw : Below w.heap.size w wr := HBW3.out.trans (fx_bel hf (by have := HWB.out; omega) (by have := HWM1.out; omega) HBW3.out.size)
        obtain ⟨hbl, ⟨x0, x1, x2, x3, x4, x5⟩, _⟩ := wr6 bx
        by_cases hlt : k < q
        · have hlt2 : k < m.ts.length := by have := HQ.out; omega
          rcases h.t.below hBw with e0 | ⟨xb, xo, rfl, hxb, hxc⟩
          · rw [e0] at hlt2; simp at hlt2
          obtain ⟨v0, v1, ⟨d0, d1⟩, a0, c0, a1, c1, rfl, rfl, i0, i1⟩ := hxc k hlt2
          have hl1 := ts_at HL.out k hlt2
          have HTK : Hid (m.ts.take (k + 1) = m.ts.take k ++ [m.ts[k]]) := List.take_succ_eq_append_getElem hlt2
          have HTL : Hid ((m.ts.take k).length = k) := by show _ = _; rw [List.length_take]; omega
          have hk40 : k ≤ 40 := by have := HKL.out; omega
          generalize m.ts[k] = t at d0 d1 i0 i1 hl1 HTK
          clear hxc
          go_wp2_with fail
          obtain ⟨W3, hW3, hs3, hb3, bt0⟩ := new1 wr [.slice a0 t.sp.length c0, .slice a1 t.lv.length c1] 38
          rw [hW3]
          obtain ⟨bt, hbt⟩ : ∃ bt, wr.heap.size = bt := ⟨_, rfl⟩
          rw [hbt] at bt0 ⊢
          have HVB : Hid (∀ y, (Value.slice ac k cc).ownBlock = some y → M1 ≤ y) := fun y ey => by obtain ⟨_, _, _, _, hv, _⟩ := ok; exact hv y ey
          have HVT : Hid ((Value.slice ac k cc).ownBlock ≠ some bt) := fun ey => by have := ok.lt bt ey; omega
          have HOK : Hid (OwT W3 (fun y => M1 ≤ y ∧ y < W3.heap.size) (.slice ac k cc) (m.ts.take k)) := (ok.below hb3).bound
          have HBX : Hid (Wr W3 b2 0 [.int .i64 m.n, .int .i64 m.c, .int .i64 m.prior, .int .i64 m.base, .slice ka m.ks.length kc, .slice ac k cc]) := bx.below hb3
          have HBT : Hid (Wr W3 bt 0 [.slice a0 t.sp.length c0, .slice a1 t.lv.length c1]) := bt0
          have HF : Hid (Fr (Fx b2 M1) w3 W3) := hf.trans (fx_below hb3)
          have HM0 : Hid (M1 ≤ W3.heap.size) := by have := hb3.size; have := HWS1.out; show _ ≤ _; omega
          have HSX : Hid (∀ X : World, Below W3.heap.size W3 X → X.cell? ⟨b2, 5, none⟩ = some (.slice ac k cc) ∧ X.cell? ⟨bt, 0, none⟩ = some (.slice a0 t.sp.length c0) ∧ X.cell? ⟨bt, 1, none⟩ = some (.slice a1 t.lv.length c1)) := fun X hX => ⟨(wr6 (HBX.out.below hX)).2.1.2.2.2.2.2, (wr2 (HBT.out.below hX)).2.1.1, (wr2 (HBT.out.below hX)).2.1.2⟩
          have i0 := i0.below hb3
          have i1 := i1.below hb3
          have st : Below W3.heap.size W3 W3.drew := (Below.refl _ _).drew
          have hS := HSX.out _ st
          clear hW3 hs3 hb3 bt0 hbt bx ok hf d0 d1 x0 x1 x2 x3 x4 x5 hBw hbl hxb
          refine Hd.start (fun X => X.cell? ⟨b2, 5, none⟩ = some (.slice ac k cc) ∧ X.cell? ⟨bt, 0, none⟩ = some (.slice a0 t.sp.length c0) ∧ X.cell? ⟨bt, 1, none⟩ = some (.slice a1 t.lv.length c1)) 7 (by kernel_rfl) ?_
          generalize W3.drew = w0 at st hS ⊢
          refine Hd.After.pureD (i := 0) (some 50) (.pointer (some ⟨b2, 5, none⟩)) rfl rfl (by kernel_rfl) (by decide) (by kernel_rfl) (by kernel_rfl) (fun _ _ _ h => h) (hS) (Or.inl ⟨by rfl, ?_⟩) ?_
          · intro X; go_simp; try with_reducible rfl
          (first | simp only [Act.put, List.setIfInBounds_toArray, List.set_cons_zero, List.set_cons_succ] | skip)
          refine Hd.After.takeD (i := 1) (some 51) (.slice ac k cc) rfl rfl (by kernel_rfl) (by kernel_rfl) (by kernel_rfl) (by kernel_rfl) (by kernel_rfl) (fun _ _ _ h => h) (hS) (Or.inl ⟨by rfl, ?_⟩) ?_
          · rintro X ⟨s0, s1, s2⟩; go_simp; try with_reducible rfl
          (first | simp only [Act.put, List.setIfInBounds_toArray, List.set_cons_zero, List.set_cons_succ] | skip)
          refine Hd.After.takeD (i := 2) (some 52) (.agg #[.slice a0 t.sp.length c0, .slice a1 t.lv.length c1]) rfl rfl (by kernel_rfl) (by kernel_rfl) (by kernel_rfl) (by kernel_rfl) (by kernel_rfl) (fun _ _ _ h => h) (hS) (Or.inl ⟨by rfl, ?_⟩) ?_
          · rintro X ⟨s0, s1, s2⟩; go_simp; try with_reducible rfl
          (first | simp only [Act.put, List.setIfInBounds_toArray, List.set_cons_zero, List.set_cons_succ] | skip)
          refine Hd.After.one (i := 3) (by kernel_rfl) rfl rfl ?_
          intro K hK
          go_simp
          go_wp2_with (go_at_call 23; refine (icopyT _ _ _ _ _ t (i0.below st) (i1.below st) hl1).mono ?_; rintro e w5 ⟨b0, d0, b1, d1, rfl, o0, o1, h01, hb⟩)
          have st5 : Below W3.heap.size W3 w5 := st.trans (hb.mono st.size)
          have h05 := hb.size
          clear hb
          refine hK _ _ (fun _ => HSX.out _ st5) ?_
          clear hK K
          (first | simp only [Act.put, List.setIfInBounds_toArray, List.set_cons_zero, List.set_cons_succ] | skip)
          have hA : Below w5.heap.size w5 (w5.alloc (.cells #[.slice b0 t.sp.length d0, .slice b1 t.lv.length d1] 38)) := (Below.refl _ _).alloc (Nat.le_refl _) _
          have st6 := st5.trans (hA.mono st5.size)
          refine Hd.After.one (i := 4) (by kernel_rfl) rfl rfl ?_
          intro K hK
          go_simp
          refine hK _ _ (fun _ => HSX.out _ st6) ?_
          clear hK K
          (first | simp only [Act.put, List.setIfInBounds_toArray, List.set_cons_zero, List.set_cons_succ] | skip)
          refine Hd.After.one (i := 5) (by kernel_rfl) rfl rfl ?_
          intro K hK
          refine wp_pushT _ _ rfl (some 55) rfl (fun y => M1 ≤ y) W3.heap.size _ (m.ts.take k) (HOK.out.below st6) w5.heap.size b0 b1 d0 d1 _ _ t rfl rfl (by simp) (by simp) ((o0.below hA).mono (by have := st.size; omega)) ((o1.below hA).mono (by have := st.size; omega)) h01 (fun y hy => by have := HM0.out; omega) st6.size (by rw [HTL.out]; omega) (k + 1) (by rw [HTL.out]) ?_
          intro a7 c7 w7 hok7 hg7
          rw [← HTK.out] at hok7
          have hf7 : Fr (Fx b2 M1) w3 w7 := HF.out.trans ((fx_below st6).trans (fx_grown hg7 HVB.out))
          have hb7 : Wr w7 b2 0 [.int .i64 m.n, .int .i64 m.c, .int .i64 m.prior, .int .i64 m.base, .slice ka m.ks.length kc, .slice ac k cc] := (HBX.out.below st6).keptAt hg7.size (hg7.block b2 (Nat.lt_of_lt_of_le HBX.out.1 st6.size) (fun e => by have := HVB.out b2 e.symm; have := HMB1.out; omega))
          have ht7 : Wr w7 bt 0 [.slice a0 t.sp.length c0, .slice a1 t.lv.length c1] := (HBT.out.below st6).keptAt hg7.size (hg7.block bt (Nat.lt_of_lt_of_le HBT.out.1 st6.size) (fun e => HVT.out e.symm))
          obtain ⟨hl7, ⟨p0, p1, p2, p3, p4, p5⟩, q0, q1, q2, q3, q4, q5⟩ := wr6 hb7
          obtain ⟨_, ⟨r0, r1⟩, _⟩ := wr2 ht7
          clear hg7 ht7
          refine hK _ _ (fun _ => ⟨p5, r0, r1⟩) ?_
          clear hK K
          (first | simp only [Act.put, List.setIfInBounds_toArray, List.set_cons_zero, List.set_cons_succ] | skip)
          refine Hd.After.pureD (i := 6) (some 56) (.pointer (some ⟨b2, 5, none⟩)) rfl rfl (by kernel_rfl) (by decide) (by kernel_rfl) (by kernel_rfl) (fun _ _ _ h => h) (⟨p5, r0, r1⟩) (Or.inl ⟨by rfl, ?_⟩) ?_
          · intro X; go_simp; try with_reducible rfl
          (first | simp only [Act.put, List.setIfInBounds_toArray, List.set_cons_zero, List.set_cons_succ] | skip)
          refine Hd.After.one (i := 7) (by kernel_rfl) rfl rfl ?_
          intro K hK
          go_simp
          refine hK _ _ (fun h => by cases h) ?_
          clear hK K
          refine Hd.After.done (by kernel_rfl) ?_ _
          have HB8 : Hid (Wr (w7.setCell ⟨b2, 5, none⟩ (.slice a7 (k + 1) c7)) b2 0 [.int .i64 m.n, .int .i64 m.c, .int .i64 m.prior, .int .i64 m.base, .slice ka m.ks.length kc, .slice a7 (k + 1) c7]) := hb7.set 5 (by simp) _
          have HO8 : Hid (OwT (w7.setCell ⟨b2, 5, none⟩ (.slice a7 (k + 1) c7)) (fun y => M1 ≤ y) (.slice a7 (k + 1) c7) (m.ts.take (k + 1))) := hok7.fr (fr_grown (B := fun y => y = b2) (Li.grown_set w7 b2 5 _) rfl) (fun y hy e => by have := HMB1.out; omega)
          have HF8 : Hid (Fr (Fx b2 M1) w3 (w7.setCell ⟨b2, 5, none⟩ (.slice a7 (k + 1) c7))) := hf7.trans (fx_set w7 5 _)
          clear st hS st5 st6 hA o0 o1 h01 hok7 hf7 hb7 p0 p1 p2 p3 p4 p5 q0 q1 q2 q3 q4 q5 r0 r1 i0 i1 HSX
          go_wp2
          go_roundw
          case rel => exact ⟨k + 1, a7, c7, by omega, by go_num, HB8.out, HO8.out, HF8.out⟩
          case measure => simp [intOf]; omega
        · obtain rfl : k = q := by omega
          have okk := HOKK.out.fr hf (fun y hy e => by rcases e with e | e; have := HMB.out; omega; omega)
          have okb := ok.bound
          obtain ⟨hrl, ⟨r0, r1, r2, r3, r4, r5⟩, f0, f1, f2, f3, f4, f5⟩ := wr6 (HBR3.out.keptAt hf.size (hf.block _ HBR3.out.1 (by unfold Fx; have := HWB.out; have := HWM1.out; omega)))
          have HEND : Hid (OwK wr (fun y => M0 ≤ y ∧ y < M1) (.slice ka m.ks.length kc) m.ks ∧ OwT wr (fun y => M1 ≤ y ∧ y < wr.heap.size) (.slice ac k cc) (m.ts.take k)) := ⟨okk, okb⟩
          have HBE : Hid (Below w.heap.size w wr) := hBw
          have HSW : Hid (M1 ≤ wr.heap.size) := by have := HWS1.out; show _ ≤ _; omega
          clear ok okk okb hf hBw
          go_wp2
          have hW0 := HWB.out
          have hW1 := HMB.out
          have hW2 := HM01.out
          have hsw := HSW.out
          have hset : ∀ (X : World) (o : Nat) (x : Value), Fr (fun y => y = w.heap.size + 1) X (X.setCell ⟨w.heap.size + 1, o, none⟩ x) := fun X o x => fr_grown (Li.grown_set X (w.heap.size + 1) o x) rfl
          have hall := fun (X : World) (v0 v1 v2 v3 v4 v5 : Value) => ((((((hset X 0 v0).trans (hset _ 1 v1)).trans (hset _ 2 v2)).trans (hset _ 3 v3)).trans (hset _ 4 v4)).trans (hset _ 5 v5))
          refine bodyPost_ret (v := .agg #[.int .i64 m.n, .int .i64 m.c, .int .i64 m.prior, .int .i64 m.base, .slice ka m.ks.length kc, .slice ac k cc]) (by rw [results_cell rfl]; go_simp) rfl ⟨.slice ka m.ks.length kc, .slice ac k cc, by rw [HR.out], ?_, ?_⟩
          · rw [HR.out, HCQ.out]
            refine ⟨fun y => y < M1, (HEND.out.1.fr (hall _ _ _ _ _ _ _) (fun y hy e => by omega)).mono (fun y hy => ⟨⟨by omega, by simp [World.setCell]; omega⟩, hy.2⟩), (HEND.out.2.fr (hall _ _ _ _ _ _ _) (fun y hy e => by omega)).mono (fun y hy => ⟨⟨by omega, by simp [World.setCell]; omega⟩, by omega⟩)⟩
          · exact ((((((HBE.out.setCell (by simp) _).setCell (by simp) _).setCell (by simp) _).setCell (by simp) _).setCell (by simp) _).setCell (by simp) _)
end Go.Proofs.Ytcadgeepknhmfaa.Ct
