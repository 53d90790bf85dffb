/-
  Contracts that the proof leans on, put together in the order in which they build.
-/
import Derived.Test.YtaojoamldoofpaaGreatDoorPart26
import Derived.Test.YtaojoamldoofpaaGreatDoorPart5
import Derived.Test.YtaojoamldoofpaaGreatDoorPart12
import Derived.Test.YtaojoamldoofpaaGreatDoorPart25
/-
  The guess of a model in the program's reader: one more word in the last table.
-/
namespace Go.Proofs.YtaojoamldoofpaaGreatDoor.Rm
set_option maxRecDepth 100000
open Go.RowKit
open Go.Proofs.YtaojoamldoofpaaGreatDoor.Md (M OwM)
open Go.Proofs.YtaojoamldoofpaaGreatDoor.Kt (Kv OwK)
open Go.Proofs.YtaojoamldoofpaaGreatDoor.To (OwT)
open Go.Proofs.YtaojoamldoofpaaGreatDoor.Sv (Fr fr_below fr_grown Wr)
set_option linter.unusedVariables false
theorem run_snocS (w : World) (ty : TypeId) (a : Option Addr) (n c E : Nat) (xs : List ByteArray) (hn : xs.length = n) (ho : Ls.Own w 0 (.slice a n c) xs) (s : ByteArray) (e0 : w.cell? ⟨E, 0, none⟩ = some (.string s)) (hl : n ≤ 1048576) :
    ∃ a5 c5 w5, (Builtin.append_ #[44, 44] ty #[.slice a n c, .slice (some ⟨E, 0, none⟩) 1 1]).run Tryz.prog w = .ok (.slice a5 (n + 1) c5) w5 ∧ Ls.Own w5 0 (.slice a5 (n + 1) c5) (xs ++ [s]) ∧ w.grownBy w5 (Value.slice a n c).ownBlock ∧ ((Value.slice a5 (n + 1) c5).ownBlock = (Value.slice a n c).ownBlock ∨ (Value.slice a5 (n + 1) c5).ownBlock = some w.heap.size) := by
  obtain ⟨i0, hi, hz0, hz1, hz2⟩ := info_parts Ls.info_str
  subst hn
  obtain ⟨v', w', hr, h2, h3, hnil, h5⟩ := run_append_own_at (P := Tryz.prog) w 0 44 ty 9 i0 (.string ⟨#[]⟩) 1 16 Tryz.underlying44 hi hz0 hz1 hz2 rfl (by decide) _ xs.length (Ls.sv xs) ho ⟨E, 0, none⟩ 1 1 [.string s] rfl (by
    intro j u hj
    match j, hj with
    | 0, hj => simp at hj; subst hj; exact e0) (Ap.one_one _ rfl) (by unfold maxLen; omega) (by omega) (by omega)
  have hok := Ap.sown_snoc (x := s) rfl h2
  obtain ⟨a5, c5, e5, _⟩ := hok.iss
  rw [List.length_append] at e5
  subst e5
  exact ⟨a5, c5, w', hr, hok, h3, h5⟩
theorem run_snocI (w : World) (ty : TypeId) (a : Option Addr) (n c E : Nat) (xs : List Int) (hn : xs.length = n) (ho : Li.Own w 0 (.slice a n c) xs) (s : Int) (e0 : w.cell? ⟨E, 0, none⟩ = some (.int .i64 s)) (hl : n ≤ 1048576) :
    ∃ a5 c5 w5, (Builtin.append_ #[45, 45] ty #[.slice a n c, .slice (some ⟨E, 0, none⟩) 1 1]).run Tryz.prog w = .ok (.slice a5 (n + 1) c5) w5 ∧ Li.Own w5 0 (.slice a5 (n + 1) c5) (xs ++ [s]) ∧ w.grownBy w5 (Value.slice a n c).ownBlock ∧ ((Value.slice a5 (n + 1) c5).ownBlock = (Value.slice a n c).ownBlock ∨ (Value.slice a5 (n + 1) c5).ownBlock = some w.heap.size) := by
  obtain ⟨i0, hi, hz0, hz1, hz2⟩ := info_parts Li.info_int
  subst hn
  obtain ⟨v', w', hr, h2, h3, hnil, h5⟩ := run_append_own_at (P := Tryz.prog) w 0 45 ty 3 i0 (.int .i64 0) 1 8 Tryz.underlying45 hi hz0 hz1 hz2 rfl (by decide) _ xs.length (Li.iv xs) ho ⟨E, 0, none⟩ 1 1 [.int .i64 s] rfl (by
    intro j u hj
    match j, hj with
    | 0, hj => simp at hj; subst hj; exact e0) (Ap.one_one _ rfl) (by unfold maxLen; omega) (by omega) (by omega)
  have hok := Ap.own_snoc (x := s) rfl h2
  obtain ⟨a5, c5, e5, _⟩ := hok.isl
  rw [List.length_append] at e5
  subst e5
  exact ⟨a5, c5, w', hr, hok, h3, h5⟩
theorem wp_snocS {o : Oper} {a : Act} {w : World} {K : Act → World → Prop} {Q : Exit → Act → World → Prop} (s x : Operand) (ho : o.op = .call { callee := .builtin .append, args := #[s, x], argTypes := #[44, 44] }) (dt : Option Tmp) (hd : o.dst = dt)
    (ad : Option Addr) (n c E : Nat) (xs : List ByteArray) (hn : xs.length = n) (hs : a.eval s = .slice ad n c) (hx : a.eval x = .slice (some ⟨E, 0, none⟩) 1 1) (hown : Ls.Own w 0 (.slice ad n c) xs) (t : ByteArray) (e0 : w.cell? ⟨E, 0, none⟩ = some (.string t)) (hl : n ≤ 1048576)
    (hq : ∀ a5 c5 w5, Ls.Own w5 0 (.slice a5 (n + 1) c5) (xs ++ [t]) → w.grownBy w5 (Value.slice ad n c).ownBlock → ((Value.slice a5 (n + 1) c5).ownBlock = (Value.slice ad n c).ownBlock ∨ (Value.slice a5 (n + 1) c5).ownBlock = some w.heap.size) → K (a.put dt (.slice a5 (n + 1) c5)) w5) : o.wp Tryz.prog a w K Q := by
  subst hd
  obtain ⟨a5, c5, w5, hr, h2, h3, h4⟩ := run_snocS w o.type ad n c E xs hn hown t e0 hl
  unfold Oper.wp execOp
  simp only [ho, resolve, invoke, builtin, Sem.run_bind, Sem.run_pure, Result.andThen_ok, List.map_toArray, List.map_cons, List.map_nil, hs, hx, hr]
  exact hq a5 c5 w5 h2 h3 h4
theorem wpl_snocI {ops : Array Oper} {rest : List Oper} {o : Oper} {a : Act} {w : World} {Q : Exit → Act → World → Prop} (hgd : o.guard = none) (s x : Operand) (ho : o.op = .call { callee := .builtin .append, args := #[s, x], argTypes := #[45, 45] })
    (ad : Option Addr) (n c E : Nat) (xs : List Int) (hn : xs.length = n) (hs : a.eval s = .slice ad n c) (hx : a.eval x = .slice (some ⟨E, 0, none⟩) 1 1) (hown : Li.Own w 0 (.slice ad n c) xs) (t : Int) (e0 : w.cell? ⟨E, 0, none⟩ = some (.int .i64 t)) (hl : n ≤ 1048576)
    (hq : ∀ a5 c5 w5, Li.Own w5 0 (.slice a5 (n + 1) c5) (xs ++ [t]) → w.grownBy w5 (Value.slice ad n c).ownBlock → ((Value.slice a5 (n + 1) c5).ownBlock = (Value.slice ad n c).ownBlock ∨ (Value.slice a5 (n + 1) c5).ownBlock = some w.heap.size) → wpList Tryz.prog ops Q rest (a.put o.dst (.slice a5 (n + 1) c5)) w5) : wpList Tryz.prog ops Q (o :: rest) a w := by
  obtain ⟨a5, c5, w5, hr, h2, h3, h4⟩ := run_snocI w o.type ad n c E xs hn hown t e0 hl
  refine wpList_plain hgd fun K hK => ?_
  unfold Oper.wp execOp
  simp only [ho, resolve, invoke, builtin, Sem.run_bind, Sem.run_pure, Result.andThen_ok, List.map_toArray, List.map_cons, List.map_nil, hs, hx, hr]
  exact hK _ _ (hq a5 c5 w5 h2 h3 h4)
def stK (st : St) (ks : List Kv) : St := ⟨⟨st.m.n, st.m.c, st.m.prior, st.m.base, ks, st.m.ts⟩, st.left⟩
theorem gs_w0 {w : World} {b lo : Nat} {st : St} {ak ax : Option Addr} {ck ct : Nat} (hg : Gs w b lo st ak ck ax ct) (j : Nat) (hj : j < st.m.ks.length) :
    ∃ g a0 c0, ak = some ⟨g, 0, none⟩ ∧ w.cell? ⟨g, j * 2, none⟩ = some (.slice a0 st.m.ks[j].ws.length c0) ∧ w.frozen? ⟨g, j * 2, none⟩ = false ∧ Ls.Own w 0 (.slice a0 st.m.ks[j].ws.length c0) st.m.ks[j].ws ∧ g < w.heap.size ∧ lo ≤ g ∧ (∀ k, (Value.slice a0 st.m.ks[j].ws.length c0).ownBlock = some k → lo ≤ k ∧ ¬ k = g) ∧
    ∀ wA w1 u0 xs', Below w.heap.size w wA → Ls.Own w1 0 u0 xs' → wA.grownBy w1 (Value.slice a0 st.m.ks[j].ws.length c0).ownBlock → (u0.ownBlock = (Value.slice a0 st.m.ks[j].ws.length c0).ownBlock ∨ u0.ownBlock = some wA.heap.size) →
      Gs (w1.setCell ⟨g, j * 2, none⟩ u0) b lo (stK st (st.m.ks.set j ⟨xs', st.m.ks[j].vs⟩)) ak ck ax ct ∧ Fr (Fx b lo) w (w1.setCell ⟨g, j * 2, none⟩ u0) := by
  obtain ⟨P, h0, _⟩ := hg.om
  obtain ⟨a, c, g, a0, c0, e1, rfl, hc, hf, ho, hgl, hBg, hkn, _⟩ := Ps.repl0 h0 j hj
  injection e1 with e1 _ e2
  subst e1; subst e2
  refine ⟨g, a0, c0, rfl, hc, hf, ho, hgl, hBg.1, fun k e => ⟨(hkn k e).1.1, (hkn k e).2⟩, fun wA w1 u0 xs' hA hw hgr hu => ?_⟩
  obtain ⟨B', hB1, hB2, hB3, hB4⟩ := splitK hg.om hA hg.sz
  obtain ⟨a', c', g', a0', c0', e1, rfl, hc', _, _, _, hBg', hkn', hrep⟩ := Ps.repl0 (hB3.mono (fun y hy => hy.1)) j hj
  injection e1 with e1 _ e2
  injection e1 with e1
  injection e1 with e1 _ _
  subst e1; subst e2
  rw [hA.cell (p := ⟨g, j * 2, none⟩) hgl, hc] at hc'
  injection hc' with hc'
  injection hc' with e3 _ e4
  subst e3; subst e4
  have hk := hrep w1 u0 xs' hw hgr (hu.imp id (fun e => ⟨_, e, Nat.le_refl _, hB1 _ hA.size⟩))
  have hFr : Fr B' wA (w1.setCell ⟨g, j * 2, none⟩ u0) := by
    refine Fr.trans ⟨hgr.os, hgr.tape, hgr.output, hgr.size, fun k hk hn => hgr.block k hk (fun e => hn (hkn' k e.symm).1)⟩ (fr_grown (Li.grown_set w1 g (j * 2) u0) hBg')
  have hbn : ¬ B' b := fun e => by have := hB2 b e; have := hg.bl; omega
  refine ⟨⟨?_, ?_, hg.bl, ?_, hg.lf⟩, ?_⟩
  · have h1 := (hg.bx.below hA).keptAt hFr.size (hFr.block b (Nat.lt_of_lt_of_le hg.bx.1 hA.size) hbn)
    simpa [gcells, stK] using h1
  · have h1 := hB4 _ (.slice (some ⟨g, 0, none⟩) st.m.ks.length ck) (stK st (st.m.ks.set j ⟨xs', st.m.ks[j].vs⟩)).m rfl hFr hk
    simpa [stK] using h1
  · have h1 := hFr.size
    have h2 := hA.size
    have h3 := hg.sz
    omega
  · exact (fx_below hA).trans (hFr.mono (fun y hy => .inr (hB2 y hy)))
theorem gs_w1 {w : World} {b lo : Nat} {st : St} {ak ax : Option Addr} {ck ct : Nat} (hg : Gs w b lo st ak ck ax ct) (j : Nat) (hj : j < st.m.ks.length) :
    ∃ g a0 c0, ak = some ⟨g, 0, none⟩ ∧ w.cell? ⟨g, j * 2 + 1, none⟩ = some (.slice a0 st.m.ks[j].vs.length c0) ∧ w.frozen? ⟨g, j * 2 + 1, none⟩ = false ∧ Li.Own w 0 (.slice a0 st.m.ks[j].vs.length c0) st.m.ks[j].vs ∧ g < w.heap.size ∧ lo ≤ g ∧ (∀ k, (Value.slice a0 st.m.ks[j].vs.length c0).ownBlock = some k → lo ≤ k ∧ ¬ k = g) ∧
    ∀ wA w1 u0 xs', Below w.heap.size w wA → Li.Own w1 0 u0 xs' → wA.grownBy w1 (Value.slice a0 st.m.ks[j].vs.length c0).ownBlock → (u0.ownBlock = (Value.slice a0 st.m.ks[j].vs.length c0).ownBlock ∨ u0.ownBlock = some wA.heap.size) →
      Gs (w1.setCell ⟨g, j * 2 + 1, none⟩ u0) b lo (stK st (st.m.ks.set j ⟨st.m.ks[j].ws, xs'⟩)) ak ck ax ct ∧ Fr (Fx b lo) w (w1.setCell ⟨g, j * 2 + 1, none⟩ u0) := by
  obtain ⟨P, h0, _⟩ := hg.om
  obtain ⟨a, c, g, a0, c0, e1, rfl, hc, hf, ho, hgl, hBg, hkn, _⟩ := Ps.repl1 h0 j hj
  injection e1 with e1 _ e2
  subst e1; subst e2
  refine ⟨g, a0, c0, rfl, hc, hf, ho, hgl, hBg.1, fun k e => ⟨(hkn k e).1.1, (hkn k e).2⟩, fun wA w1 u0 xs' hA hw hgr hu => ?_⟩
  obtain ⟨B', hB1, hB2, hB3, hB4⟩ := splitK hg.om hA hg.sz
  obtain ⟨a', c', g', a0', c0', e1, rfl, hc', _, _, _, hBg', hkn', hrep⟩ := Ps.repl1 (hB3.mono (fun y hy => hy.1)) j hj
  injection e1 with e1 _ e2
  injection e1 with e1
  injection e1 with e1 _ _
  subst e1; subst e2
  rw [hA.cell (p := ⟨g, j * 2 + 1, none⟩) hgl, hc] at hc'
  injection hc' with hc'
  injection hc' with e3 _ e4
  subst e3; subst e4
  have hk := hrep w1 u0 xs' hw hgr (hu.imp id (fun e => ⟨_, e, Nat.le_refl _, hB1 _ hA.size⟩))
  have hFr : Fr B' wA (w1.setCell ⟨g, j * 2 + 1, none⟩ u0) := by
    refine Fr.trans ⟨hgr.os, hgr.tape, hgr.output, hgr.size, fun k hk hn => hgr.block k hk (fun e => hn (hkn' k e.symm).1)⟩ (fr_grown (Li.grown_set w1 g (j * 2 + 1) u0) hBg')
  have hbn : ¬ B' b := fun e => by have := hB2 b e; have := hg.bl; omega
  refine ⟨⟨?_, ?_, hg.bl, ?_, hg.lf⟩, ?_⟩
  · have h1 := (hg.bx.below hA).keptAt hFr.size (hFr.block b (Nat.lt_of_lt_of_le hg.bx.1 hA.size) hbn)
    simpa [gcells, stK] using h1
  · have h1 := hB4 _ (.slice (some ⟨g, 0, none⟩) st.m.ks.length ck) (stK st (st.m.ks.set j ⟨st.m.ks[j].ws, xs'⟩)).m rfl hFr hk
    simpa [stK] using h1
  · have h1 := hFr.size
    have h2 := hA.size
    have h3 := hg.sz
    omega
  · exact (fx_below hA).trans (hFr.mono (fun y hy => .inr (hB2 y hy)))
theorem addw {ks : List Kv} {q : Nat} (hq : q < ks.length) (hl : q + 1 = ks.length) (r : ByteArray) (v : Int) (hq' : q < (ks.set q ⟨ks[q].ws ++ [r], ks[q].vs⟩).length) :
    (ks.set q ⟨ks[q].ws ++ [r], ks[q].vs⟩).set q ⟨((ks.set q ⟨ks[q].ws ++ [r], ks[q].vs⟩)[q]'hq').ws, ((ks.set q ⟨ks[q].ws ++ [r], ks[q].vs⟩)[q]'hq').vs ++ [v]⟩ = addW ks ⟨r.data.toList.toArray⟩ v := by
  unfold addW
  have e : ks.length - 1 = q := by omega
  rw [e]
  simp [List.getD_eq_getElem?_getD, List.getElem?_eq_getElem hq]
set_option maxHeartbeats 4000000 in
theorem iword (w : World) (b lo : Nat) (st : St) (ak ax : Option Addr) (ck ct : Nat) (hg : Gs w b lo st ak ck ax ct) (hV : Vs w) (s r : ByteArray) (hs : s.size ≤ 30000) (hr : r.size ≤ 30000) (hk0 : 0 < st.m.ks.length) (hk : st.m.ks.length ≤ 1000000) (hkw : ∀ k ∈ st.m.ks, k.ws.length ≤ 1000000 ∧ k.vs.length ≤ 1000000) (hleft : 0 < st.left) :
    Calls Tryz.prog 60 #[.pointer (some ⟨b, 0, none⟩), .string s, .string r] w fun e w' => ((∃ st', dWord st s.data.toList r.data.toList = some st' ∧ e = .returned (.bool true) ∧ Gs w' b lo st' ak ck ax ct) ∨ (dWord st s.data.toList r.data.toList = none ∧ e = .returned (.bool false))) ∧ Fr (Fx b lo) w w' := by
  go_enter Tryz.func60, Tryz.ntmps60
  go_wp2_with fail
  refine (atoi_any s w (by omega) hV).mono ?_
  rintro e w1 ⟨he, hB⟩
  have hg := hg.below hB
  have HF : Hid (Fr (Fx b lo) w w1) := fx_below hB
  clear hB
  rcases he with ⟨v, hx, hv0, hv1, rfl⟩ | ⟨hx, v, N, rfl⟩
  · obtain ⟨q, hq⟩ : ∃ q, q + 1 = st.m.ks.length := ⟨st.m.ks.length - 1, by omega⟩
    have hql : q < st.m.ks.length := by omega
    have HD : Hid (dWord st s.data.toList r.data.toList = some ⟨⟨st.m.n, st.m.c, st.m.prior, st.m.base, addW st.m.ks ⟨r.data.toList.toArray⟩ v, st.m.ts⟩, st.left - 1⟩) := by show _ = _; unfold dWord; rw [hx]
    obtain ⟨g, a0, c0, rfl, d0, f0, o0, hgl, hlg, hkn, hstep⟩ := gs_w0 hg q hql
    obtain ⟨hbl, ⟨x0, x1, x2, x3, c4, x5, x6⟩, xx⟩ := wr7 hg.bx
    clear x0 x1 x2 x3 x5 x6 xx
    have HADD : Hid (∀ hq', _) := fun hq' => addw hql hq r v hq'
    have HBW : Hid (type_of% (hkw _ (List.getElem_mem hql))) := hkw _ (List.getElem_mem hql)
    have HGB : Hid (¬ g = b) := by have := hg.bl; show ¬ _ ; omega
    have HGL : Hid (type_of% hgl) := hgl
    have HKN : Hid (type_of% hkn) := hkn
    have HST : Hid (type_of% hstep) := hstep
    have HO : Hid (type_of% o0) := o0
    have HD0 : Hid (type_of% d0) := d0
    have HF0 : Hid (type_of% f0) := f0
    have HG : Hid (type_of% hg) := hg
    have HQ : Hid (q + 1 = st.m.ks.length) := hq
    have HK : Hid (st.m.ks.length ≤ 1000000) := hk
    obtain ⟨n, hn⟩ : ∃ n, st.m.ks.length = n := ⟨_, rfl⟩
    rw [hn] at c4 hq hql hk
    have hw1 : IntKind.i64.wrap ((n : Int) - 1) = (q : Int) := by
      have : (n : Int) - 1 = q := by omega
      rw [this, IntKind.wrap_i64]; omega
    have hq0 : (q : Int) < n := by omega
    have HN : Hid (st.m.ks.length = n) := hn
    clear hx hkw hg o0 f0 hstep hkn hs hV hn hv0 hv1 hk0 hq d0
    go_wp2_with fail
    go_region_held3 (fun w' => w'.cell? ⟨b, 4, none⟩ = some (.slice (some ⟨g, 0, none⟩) n ck)) (go_keep) (fail)
    go_wp2_with fail
    obtain ⟨nw, hnw⟩ : ∃ nw, st.m.ks[q].ws.length = nw := ⟨_, rfl⟩
    have HNW : Hid (st.m.ks[q].ws.length = nw) := hnw
    rw [hnw] at HD0 HST HO HKN HBW
    have HSX : Hid (∀ X : World, Below w1.heap.size w1 X → X.cell? ⟨g, q * 2, none⟩ = some (.slice a0 nw c0)) := fun X hX => (hX.cell (p := ⟨g, q * 2, none⟩) HGL.out).trans HD0.out
    have st0 : Below w1.heap.size w1 w1.drew.drew := ((Below.refl _ _).drew).drew
    have hS := HSX.out _ st0
    clear hnw c4 hw1 hq0
    refine Hd.start (fun X => X.cell? ⟨g, q * 2, none⟩ = some (.slice a0 nw c0)) 8 (by kernel_rfl) ?_
    generalize w1.drew.drew = w0 at st0 hS ⊢
    refine Hd.After.pureD (i := 0) (some 30) (.pointer (some ⟨g, q * 2, none⟩)) rfl rfl (by kernel_rfl) (by decide) (by kernel_rfl) (by kernel_rfl) (fun _ _ _ h => h) (hS) (Or.inl ⟨by rfl, ?_⟩) ?_
    · intro X; go_simp; try with_reducible rfl
    (first | simp only [Act.put, List.setIfInBounds_toArray, List.set_cons_zero, List.set_cons_succ] | skip)
    refine Hd.After.pureD (i := 1) (some 31) (.pointer (some ⟨g, q * 2, none⟩)) rfl rfl (by kernel_rfl) (by decide) (by kernel_rfl) (by kernel_rfl) (fun _ _ _ h => h) (hS) (Or.inl ⟨by rfl, ?_⟩) ?_
    · intro X; go_simp; try with_reducible rfl
    (first | simp only [Act.put, List.setIfInBounds_toArray, List.set_cons_zero, List.set_cons_succ] | skip)
    refine Hd.After.pureD (i := 2) (some 32) (.pointer (some ⟨g, q * 2, none⟩)) rfl rfl (by kernel_rfl) (by decide) (by kernel_rfl) (by kernel_rfl) (fun _ _ _ h => h) (hS) (Or.inl ⟨by rfl, ?_⟩) ?_
    · intro X; go_simp; try with_reducible rfl
    (first | simp only [Act.put, List.setIfInBounds_toArray, List.set_cons_zero, List.set_cons_succ] | skip)
    refine Hd.After.pureD (i := 3) (some 33) (.pointer (some ⟨g, q * 2, none⟩)) rfl rfl (by kernel_rfl) (by decide) (by kernel_rfl) (by kernel_rfl) (fun _ _ _ h => h) (hS) (Or.inl ⟨by rfl, ?_⟩) ?_
    · intro X; go_simp; try with_reducible rfl
    (first | simp only [Act.put, List.setIfInBounds_toArray, List.set_cons_zero, List.set_cons_succ] | skip)
    refine Hd.After.takeD (i := 4) (some 34) (.slice a0 nw c0) rfl rfl (by kernel_rfl) (by kernel_rfl) (by kernel_rfl) (by kernel_rfl) (by kernel_rfl) (fun _ _ _ h => h) (hS) (Or.inl ⟨by rfl, ?_⟩) ?_
    · rintro X s0; go_simp; try with_reducible rfl
    (first | simp only [Act.put, List.setIfInBounds_toArray, List.set_cons_zero, List.set_cons_succ] | skip)
    refine Hd.After.pureD (i := 5) (some 35) (.string r) rfl rfl (by kernel_rfl) (by decide) (by kernel_rfl) (by kernel_rfl) (fun _ _ _ h => h) (hS) (Or.inl ⟨by rfl, ?_⟩) ?_
    · intro X; go_simp; try with_reducible rfl
    (first | simp only [Act.put, List.setIfInBounds_toArray, List.set_cons_zero, List.set_cons_succ] | skip)
    refine Hd.After.one (i := 6) (by kernel_rfl) rfl rfl ?_
    intro K hK
    go_simp
    go_wp2_with (go_at_call 84; refine (Co.clone _ r (by omega)).mono ?_; rintro e w3 ⟨rfl, hb⟩)
    have st3 : Below w1.heap.size w1 w3 := st0.trans (hb.mono st0.size)
    clear hb
    refine hK _ _ (fun _ => HSX.out _ st3) ?_
    clear hK K
    (first | simp only [Act.put, List.setIfInBounds_toArray, List.set_cons_zero, List.set_cons_succ] | skip)
    have hA : Below w3.heap.size w3 (w3.alloc (.cells #[.string r] 9)) := (Below.refl _ _).alloc (Nat.le_refl _) _
    have st4 := st3.trans (hA.mono st3.size)
    refine Hd.After.one (i := 7) (by kernel_rfl) rfl rfl ?_
    intro K hK
    go_simp
    refine hK _ _ (fun _ => HSX.out _ st4) ?_
    clear hK K
    (first | simp only [Act.put, List.setIfInBounds_toArray, List.set_cons_zero, List.set_cons_succ] | skip)
    refine Hd.After.one (i := 8) (by kernel_rfl) rfl rfl ?_
    intro K hK
    refine wp_snocS _ _ rfl (some 38) rfl a0 nw c0 w3.heap.size st.m.ks[q].ws HNW.out rfl rfl (HO.out.below st4) r (by simp) (by have := HBW.out; omega) ?_
    intro a5 c5 w5 hok5 hg5 hat5
    have HG5 : Hid (Gs (w5.setCell ⟨g, q * 2, none⟩ (.slice a5 (nw + 1) c5)) b lo _ (some ⟨g, 0, none⟩) ck ax ct ∧ Fr (Fx b lo) w1 (w5.setCell ⟨g, q * 2, none⟩ (.slice a5 (nw + 1) c5))) := HST.out _ w5 _ _ st4 hok5 hg5 hat5
    have hb5 : w5.heap[g]? = w1.heap[g]? := (hg5.block g (Nat.lt_of_lt_of_le HGL.out st4.size) (fun e => (HKN.out g e.symm).2 rfl)).trans (st4.block g HGL.out)
    have z0 : w5.cell? ⟨g, q * 2, none⟩ = some (.slice a0 nw c0) := (World.cell?_of_block (a := ⟨g, q * 2, none⟩) hb5).trans HD0.out
    have z1 : w5.frozen? ⟨g, q * 2, none⟩ = false := (World.frozen?_of_block (a := ⟨g, q * 2, none⟩) hb5).trans HF0.out
    have z2 : g < w5.heap.size := Nat.lt_of_lt_of_le HGL.out (Nat.le_trans st4.size hg5.size)
    clear hok5 hg5 hat5 hb5
    refine hK _ _ (fun _ => z0) ?_
    clear hK K
    (first | simp only [Act.put, List.setIfInBounds_toArray, List.set_cons_zero, List.set_cons_succ] | skip)
    refine Hd.After.pureD (i := 9) (some 39) (.pointer (some ⟨g, q * 2, none⟩)) rfl rfl (by kernel_rfl) (by decide) (by kernel_rfl) (by kernel_rfl) (fun _ _ _ h => h) (z0) (Or.inl ⟨by rfl, ?_⟩) ?_
    · intro X; go_simp; try with_reducible rfl
    (first | simp only [Act.put, List.setIfInBounds_toArray, List.set_cons_zero, List.set_cons_succ] | skip)
    refine Hd.After.pureD (i := 10) (some 40) (.pointer (some ⟨g, q * 2, none⟩)) rfl rfl (by kernel_rfl) (by decide) (by kernel_rfl) (by kernel_rfl) (fun _ _ _ h => h) (z0) (Or.inl ⟨by rfl, ?_⟩) ?_
    · intro X; go_simp; try with_reducible rfl
    (first | simp only [Act.put, List.setIfInBounds_toArray, List.set_cons_zero, List.set_cons_succ] | skip)
    refine Hd.After.one (i := 11) (by kernel_rfl) rfl rfl ?_
    intro K hK
    go_simp
    refine hK _ _ (fun h => by cases h) ?_
    clear hK K
    refine Hd.After.done (by kernel_rfl) ?_ _
    clear hS st0 st3 st4 hA z0 z1 z2 HSX HST HKN HO HD0 HF0 HGL
    have HLQ : Hid (q < (stK st (st.m.ks.set q ⟨st.m.ks[q].ws ++ [r], st.m.ks[q].vs⟩)).m.ks.length) := by show _ < _; simp [stK]; have := HQ.out; omega
    have HE : Hid ((⟨(stK (stK st (st.m.ks.set q ⟨st.m.ks[q].ws ++ [r], st.m.ks[q].vs⟩)) ((stK st (st.m.ks.set q ⟨st.m.ks[q].ws ++ [r], st.m.ks[q].vs⟩)).m.ks.set q ⟨((stK st (st.m.ks.set q ⟨st.m.ks[q].ws ++ [r], st.m.ks[q].vs⟩)).m.ks[q]'HLQ.out).ws, ((stK st (st.m.ks.set q ⟨st.m.ks[q].ws ++ [r], st.m.ks[q].vs⟩)).m.ks[q]'HLQ.out).vs ++ [v]⟩)).m, st.left - 1⟩ : St) = ⟨⟨st.m.n, st.m.c, st.m.prior, st.m.base, addW st.m.ks ⟨r.data.toList.toArray⟩ v, st.m.ts⟩, st.left - 1⟩) := by
      have h1 := HADD.out HLQ.out
      exact congrArg (fun x => (⟨⟨st.m.n, st.m.c, st.m.prior, st.m.base, x, st.m.ts⟩, st.left - 1⟩ : St)) h1
    have HNV : Hid (((stK st (st.m.ks.set q ⟨st.m.ks[q].ws ++ [r], st.m.ks[q].vs⟩)).m.ks[q]'HLQ.out).vs.length ≤ 1000000) := by have := HBW.out.2; show _ ≤ _; simpa [stK] using this
    have HLF : Hid ((stK st (st.m.ks.set q ⟨st.m.ks[q].ws ++ [r], st.m.ks[q].vs⟩)).left = st.left) := rfl
    have hlf := HG.out.lf.2
    clear HADD HBW HG
    generalize stK st (st.m.ks.set q ⟨st.m.ks[q].ws ++ [r], st.m.ks[q].vs⟩) = st1 at HG5 HLQ HE HNV HLF
    generalize w5.setCell ⟨g, q * 2, none⟩ (.slice a5 (nw + 1) c5) = w6 at HG5 ⊢
    obtain ⟨g', a1, c1, e', d1, f1, o1, hgl6, hlg6, hkn1, hstep1⟩ := gs_w1 HG5.out.1 q HLQ.out
    injection e' with e'
    injection e' with e' _ _
    subst e'
    have HA : Hid (Below w6.heap.size w6 (w6.alloc (.cells #[.int .i64 v] 3))) := (Below.refl _ _).alloc (Nat.le_refl _) _
    have HST : Hid (type_of% hstep1) := hstep1
    have HKN : Hid (type_of% hkn1) := hkn1
    have HO : Hid (type_of% o1) := o1
    have HD1 : Hid (type_of% d1) := d1
    have HF1 : Hid (type_of% f1) := f1
    have HGL : Hid (type_of% hgl6) := hgl6
    obtain ⟨nv, hnv⟩ : ∃ nv, (st1.m.ks[q]'HLQ.out).vs.length = nv := ⟨_, rfl⟩
    rw [hnv] at d1 HST HKN HO HD1 HNV
    have HLV : Hid ((st1.m.ks[q]'HLQ.out).vs.length = nv) := hnv
    have hgb := HGB.out
    have hbg : ¬ b = g := fun e => hgb e.symm
    have HW : Hid (IntKind.i64.wrap (st.left - 1) = st.left - 1) := by show _ = _; rw [IntKind.wrap_i64]; omega
    clear hstep1 hkn1 o1 f1 hnv
    go_wp2_with (at_builtin; refine wpl_snocI rfl _ _ rfl a1 nv c1 w6.heap.size _ HLV.out rfl rfl (HO.out.below HA.out) v (by simp) (by have := HNV.out; omega) ?_; intro a7 c7 w7 hok7 hg7 hat7; have HG7 : Hid (Gs (w7.setCell ⟨g, q * 2 + 1, none⟩ (.slice a7 (nv + 1) c7)) b lo _ (some ⟨g, 0, none⟩) ck ax ct ∧ Fr (Fx b lo) w6 (w7.setCell ⟨g, q * 2 + 1, none⟩ (.slice a7 (nv + 1) c7))) := HST.out _ w7 _ _ HA.out hok7 hg7 hat7; have hb7 : w7.heap[g]? = w6.heap[g]? := (hg7.block g (Nat.lt_of_lt_of_le HGL.out HA.out.size) (fun e => (HKN.out g e.symm).2 rfl)).trans (HA.out.block g HGL.out); have z0 : w7.cell? ⟨g, q * 2 + 1, none⟩ = some (.slice a1 nv c1) := (World.cell?_of_block (a := ⟨g, q * 2 + 1, none⟩) hb7).trans HD1.out; have z1 : w7.frozen? ⟨g, q * 2 + 1, none⟩ = false := (World.frozen?_of_block (a := ⟨g, q * 2 + 1, none⟩) hb7).trans HF1.out; have z2 : g < w7.heap.size := Nat.lt_of_lt_of_le HGL.out (Nat.le_trans HA.out.size hg7.size); have hx7 : Wr w7 b 0 _ := (HG5.out.1.bx.below HA.out).keptAt hg7.size (hg7.block b (Nat.lt_of_lt_of_le HG5.out.1.bx.1 HA.out.size) (fun e => by have := (HKN.out b e.symm).1; have := HG5.out.1.bl; omega)); obtain ⟨hbl7, ⟨e0, e1, e2, e3, e4, e5, e6⟩, g0, g1, g2, g3, g4, g5, g6⟩ := wr7 hx7; rw [HLF.out] at e6; clear hok7 hg7 hat7 hb7 hx7 e0 e1 e2 e3 e4 e5 g0 g1 g2 g3 g4 g5)
    clear z0 z1 z2 e6 g6 d1
    go_ret
    have hg := HG7.out.1
    refine ⟨.inl ⟨_, HD.out, rfl, ?_⟩, ?_⟩
    · rw [← HE.out]
      refine ⟨?_, om_set hg.om hg.bl, hg.bl, ?_, by show -9223372036854775808 ≤ st.left - 1 ∧ st.left - 1 ≤ 9223372036854775807; omega⟩
      · have h4 := hg.bx.set 6 (by simp [gcells]) (.int .i64 (st.left - 1))
        simpa [gcells] using h4
      · have := hg.sz
        simpa [World.setCell] using this
    · exact ((HF.out.trans HG5.out.2).trans HG7.out.2).trans (fx_set _ 6 _)
  · have HD : Hid (dWord st s.data.toList r.data.toList = none) := by show _ = _; unfold dWord; rw [hx]
    clear hx
    go_wp2
    go_ret
    exact ⟨.inr ⟨HD.out, rfl⟩, HF.out⟩
end Go.Proofs.YtaojoamldoofpaaGreatDoor.Rm
/-
  The guess of a model in the program's reader: one more tree.
-/
namespace Go.Proofs.YtaojoamldoofpaaGreatDoor.Rm
set_option maxRecDepth 100000
open Go.RowKit
open Go.Proofs.YtaojoamldoofpaaGreatDoor.Md (M OwM)
open Go.Proofs.YtaojoamldoofpaaGreatDoor.Kt (Kv OwK)
open Go.Proofs.YtaojoamldoofpaaGreatDoor.To (OwT)
open Go.Proofs.YtaojoamldoofpaaGreatDoor.Tm (OwnP pv pv_length pv_append)
open Go.Proofs.YtaojoamldoofpaaGreatDoor.Sv (Fr fr_below fr_grown Wr wr2 new1)
set_option linter.unusedVariables false
theorem cutc (w : World) (s : ByteArray) (c : UInt8) (hs : s.size ≤ 1048576) (hV : Vs w) :
    Calls Tryz.prog 59 #[.string s, .string ⟨#[c]⟩] w fun e w' => e = .returned (.tuple #[.string (Pc.ba (Lib.cut s.data.toList [c]).1), .string (Pc.ba (Lib.cut s.data.toList [c]).2.1), .bool (Lib.cut s.data.toList [c]).2.2]) ∧ Below w.heap.size w w' := by
  obtain ⟨m, hm⟩ := hV.2.1
  refine (Tryz.strings_Cut s ⟨#[c]⟩ m w (by omega) hm).mono ?_
  rintro e w' ⟨rfl, n, rfl⟩
  exact ⟨rfl, ⟨rfl, rfl, rfl, Nat.le_refl _, fun _ _ => rfl⟩⟩
theorem run_snocP (w : World) (ty : TypeId) (base : Nat) (a : Option Addr) (n c E : Nat) (ps : List (Int × Int)) (hn : ps.length = n) (ho : OwnP w base (.slice a n c) ps) (hb : base ≤ w.heap.size) (x y : Int) (e0 : w.cell? ⟨E, 0, none⟩ = some (.int .i64 x)) (e1 : w.cell? ⟨E, 1, none⟩ = some (.int .i64 y)) (hl : n ≤ 1048576) :
    ∃ a5 c5 w5, (Builtin.append_ #[54, 54] ty #[.slice a n c, .slice (some ⟨E, 0, none⟩) 1 1]).run Tryz.prog w = .ok (.slice a5 (n + 1) c5) w5 ∧ OwnP w5 base (.slice a5 (n + 1) c5) (ps ++ [(x, y)]) ∧ w.grownBy w5 (Value.slice a n c).ownBlock := by
  obtain ⟨i0, hi, hz0, hz1, hz2⟩ := info_parts Tm.info_spl
  subst hn
  obtain ⟨v', w', hr, h2, h3, hnil, h5⟩ := run_append_own_at (P := Tryz.prog) w base 54 ty 58 i0 (.agg #[.int .i64 0, .int .i64 0]) 2 16 Tryz.underlying54 hi hz0 hz1 hz2 rfl (by decide) _ ps.length (pv ps) ho ⟨E, 0, none⟩ 1 1 [.int .i64 x, .int .i64 y] rfl (by
    intro j u hj
    rw [Go.WideShapes.add_plain, Nat.zero_add]
    match j, hj with
    | 0, hj => simp at hj; subst hj; exact e0
    | 1, hj => simp at hj; subst hj; exact e1) (by intro u hu; simp at hu; rcases hu with rfl | rfl <;> rfl) (by unfold maxLen; omega) (by omega) hb
  have hok : OwnP w' base v' (ps ++ [(x, y)]) := by
    unfold OwnP
    rw [← pv_append, List.length_append]
    exact h2
  obtain ⟨a5, c5, e5, _⟩ := hok.isp
  rw [List.length_append] at e5
  subst e5
  exact ⟨a5, c5, w', hr, hok, h3⟩
theorem wp_snocP {o : Oper} {a : Act} {w : World} {K : Act → World → Prop} {Q : Exit → Act → World → Prop} (s x : Operand) (ho : o.op = .call { callee := .builtin .append, args := #[s, x], argTypes := #[54, 54] }) (dt : Option Tmp) (hd : o.dst = dt)
    (base : Nat) (ad : Option Addr) (n c E : Nat) (ps : List (Int × Int)) (hn : ps.length = n) (hs : a.eval s = .slice ad n c) (hx : a.eval x = .slice (some ⟨E, 0, none⟩) 1 1) (hown : OwnP w base (.slice ad n c) ps) (hb : base ≤ w.heap.size) (p q : Int) (e0 : w.cell? ⟨E, 0, none⟩ = some (.int .i64 p)) (e1 : w.cell? ⟨E, 1, none⟩ = some (.int .i64 q)) (hl : n ≤ 1048576)
    (hq : ∀ a5 c5 w5, OwnP w5 base (.slice a5 (n + 1) c5) (ps ++ [(p, q)]) → w.grownBy w5 (Value.slice ad n c).ownBlock → K (a.put dt (.slice a5 (n + 1) c5)) w5) : o.wp Tryz.prog a w K Q := by
  subst hd
  obtain ⟨a5, c5, w5, hr, h2, h3⟩ := run_snocP w o.type base ad n c E ps hn hown hb p q e0 e1 hl
  unfold Oper.wp execOp
  simp only [ho, resolve, invoke, builtin, Sem.run_bind, Sem.run_pure, Result.andThen_ok, List.map_toArray, List.map_cons, List.map_nil, hs, hx, hr]
  exact hq a5 c5 w5 h2 h3
theorem pairs_len : ∀ xs : List Int, (pairs xs).length = xs.length / 2
  | [] => rfl
  | [_] => by simp [pairs]
  | _ :: _ :: r => by
    have := pairs_len r
    simp only [pairs, List.length_cons, this]
    omega
theorem pairs_get : ∀ (xs : List Int) (k : Nat) (h : k < (pairs xs).length) (h0 : k * 2 < xs.length) (h1 : k * 2 + 1 < xs.length), (pairs xs)[k] = (xs[k * 2], xs[k * 2 + 1])
  | _ :: _ :: r, 0, _, _, _ => rfl
  | x :: y :: r, k + 1, h, h0, h1 => by
    have ih := pairs_get r k (by simpa [pairs] using h) (by simp at h0; omega) (by simp at h1; omega)
    have e0 : (x :: y :: r)[(k + 1) * 2] = r[k * 2]'(by simp at h0; omega) := by
      have : (k + 1) * 2 = k * 2 + 1 + 1 := by omega
      simp only [this, List.getElem_cons_succ]
    have e1 : (x :: y :: r)[(k + 1) * 2 + 1] = r[k * 2 + 1]'(by simp at h1; omega) := by
      have : (k + 1) * 2 + 1 = k * 2 + 1 + 1 + 1 := by omega
      simp only [this, List.getElem_cons_succ]
    rw [e0, e1, ← ih]
    rfl
  | [], k, h, _, _ => by simp [pairs] at h
  | [_], k, h, _, _ => by simp [pairs] at h
theorem cut_size (s : ByteArray) (c : UInt8) : (Pc.ba (Lib.cut s.data.toList [c]).1).size ≤ s.size ∧ (Pc.ba (Lib.cut s.data.toList [c]).2.1).size ≤ s.size := by
  rw [Pc.ba_size, Pc.ba_size]
  have hsz : s.data.toList.length = s.size := by simp
  rw [← hsz]
  unfold Lib.cut
  split
  · simp only [List.length_take, List.length_drop]; omega
  · simp
set_option maxHeartbeats 4000000 in
theorem itree (w : World) (b lo : Nat) (st : St) (ak ax : Option Addr) (ck ct : Nat) (hg : Gs w b lo st ak ck ax ct) (hV : Vs w) (s : ByteArray) (hs : s.size ≤ 30000) (ht : st.m.ts.length ≤ 1000000) :
    Calls Tryz.prog 63 #[.pointer (some ⟨b, 0, none⟩), .string s] w fun e w' => ((∃ st' ax' ct', dTree st s.data.toList = some st' ∧ e = .returned (.bool true) ∧ Gs w' b lo st' ak ck ax' ct') ∨ (dTree st s.data.toList = none ∧ e = .returned (.bool false))) ∧ Fr (Fx b lo) w w' := by
  have HD : Hid (dTree st s.data.toList = (match inums (Lib.cut s.data.toList [58]).1, inums (Lib.cut s.data.toList [58]).2.1 with
    | some a, some l => if a.length % 2 = 0 then some ⟨⟨st.m.n, st.m.c, st.m.prior, st.m.base, st.m.ks, st.m.ts ++ [⟨pairs a, l⟩]⟩, st.left⟩ else none
    | _, _ => none)) := rfl
  have hcs := cut_size s 58
  go_enter Tryz.func63, Tryz.ntmps63
  go_wp2_with fail
  refine (cutc w s 58 (by omega) hV).mono ?_
  rintro e w1 ⟨rfl, hB⟩
  have hp := Pc.ba_data (Lib.cut s.data.toList [58]).1
  have hr := Pc.ba_data (Lib.cut s.data.toList [58]).2.1
  generalize Pc.ba (Lib.cut s.data.toList [58]).1 = p at hp hcs ⊢
  generalize Pc.ba (Lib.cut s.data.toList [58]).2.1 = r at hr hcs ⊢
  generalize (Lib.cut s.data.toList [58]).2.2 = cc
  rw [← hp, ← hr] at HD
  clear hp hr
  have hV1 := hV.below hB
  go_wp2_with fail
  refine (inumbers w1 hV1 p (by omega)).mono ?_
  rintro e w2 ⟨he, hB2⟩
  have hV2 := hV1.below hB2
  have hs1 := hB.size
  have hB := hB.trans (hB2.mono hB.size)
  clear hB2 hV1 hV
  obtain ⟨xs, a, na, c, oka, rfl, hxa, hoa⟩ : ∃ xs a na c oka, e = .returned (.tuple #[.slice a na c, .bool oka]) ∧ ((oka = true ∧ inums p.data.toList = some xs ∧ (∀ x ∈ xs, -9223372036854775808 ≤ x ∧ x ≤ 9223372036854775807) ∧ xs.length = na) ∨ (oka = false ∧ inums p.data.toList = none ∧ xs = [] ∧ na = 0)) ∧ Li.Own w2 w1.heap.size (.slice a na c) xs := by
    rcases he with ⟨xs, a, c, hx, hbd, rfl, ho⟩ | ⟨hx, rfl⟩
    · exact ⟨xs, a, _, c, true, rfl, .inl ⟨rfl, hx, hbd, rfl⟩, ho⟩
    · exact ⟨[], none, 0, 0, false, rfl, .inr ⟨rfl, hx, rfl, rfl⟩, Li.Own.nil _ _⟩
  go_wp2_with fail
  refine (inumbers w2 hV2 r (by omega)).mono ?_
  rintro e w3 ⟨he, hB3⟩
  have hs2 := hB.size
  have hs23 := hB3.size
  have hB := hB.trans (hB3.mono hB.size)
  have hoa := hoa.below hB3
  clear hB3 hV2
  have HF : Hid (Fr (Fx b lo) w w3) := fr_below hB
  rcases he with ⟨ls, al, cl, hx2, hbd2, rfl, hol⟩ | ⟨hx2, rfl⟩
  · rcases hxa with ⟨rfl, hx1, hbd1, hna⟩ | ⟨rfl, hx1, _, _⟩
    · have hlx := inums_len hx1
      have hll := inums_len hx2
      have hps : p.data.toList.length = p.size := by simp
      have hrs : r.data.toList.length = r.size := by simp
      have hnb : na ≤ 30000 := by omega
      by_cases hev : na % 2 = 0
      · have HDS : Hid (dTree st s.data.toList = some ⟨⟨st.m.n, st.m.c, st.m.prior, st.m.base, st.m.ks, st.m.ts ++ [⟨pairs xs, ls⟩]⟩, st.left⟩) := by
          have h1 := HD.out
          rw [hx1, hx2] at h1
          simp only [hna, hev] at h1
          exact h1
        have hm : Int.tmod (na : Int) 2 = 0 := by rw [Int.tmod_eq_emod_of_nonneg (by omega)]; omega
        clear HD hx1 hx2 hbd2
        go_wp2_with fail
        obtain ⟨hf, hhf⟩ : ∃ hf, na = hf * 2 := ⟨na / 2, by omega⟩
        have HH : Hid (na = hf * 2) := hhf
        obtain ⟨nl, hnl⟩ : ∃ nl, ls.length = nl := ⟨_, rfl⟩
        obtain ⟨a', c', e, hia⟩ := hoa.isl
        rw [hna] at e
        injection e with e _ e2
        subst e
        subst e2
        rw [hnl] at hol ⊢
        obtain ⟨w4, hW4, hs4, hb4, bt0⟩ := new1 w3 [.slice none 0 0, .slice al nl cl] 56
        rw [hW4]
        obtain ⟨T, hT⟩ : ∃ T, w3.heap.size = T := ⟨_, rfl⟩
        rw [hT] at bt0 ⊢
        have HT : Hid (w3.heap.size = T) := hT
        have HB4 : Hid (Below w3.heap.size w3 w4) := hb4
        have HBT0 : Hid (type_of% bt0) := bt0
        have HBW : Hid (Below w.heap.size w w3) := hB
        have HOL : Hid (type_of% hol) := hol
        have HIA : Hid (type_of% hia) := hia
        have HG : Hid (type_of% hg) := hg
        obtain ⟨nt, hnt⟩ : ∃ nt, st.m.ts.length = nt := ⟨_, rfl⟩
        have HNT : Hid (st.m.ts.length = nt) := hnt
        have HTN : Hid (st.m.ts.length ≤ 1000000) := ht
        have HXL : Hid (xs.length = na) := hna
        have HLL : Hid (ls.length = nl) := hnl
        clear hnt ht hhf hW4 hs4 hb4 bt0 hT hB hol hoa hia hna hnl hm hev hlx hll hps hrs hbd1 hg HF
        go_loopw [13] (fun i wr => ∃ (k j : Nat) (ap : Option Addr) (cp : Nat), j = k * 2 ∧ k ≤ hf ∧ i = .int .i64 j ∧ Wr wr T 0 [.slice ap k cp, .slice al nl cl] ∧ OwnP wr (T + 1) (.slice ap k cp) ((pairs xs).take k) ∧ Below w3.heap.size w3 wr) (fun i _ => na - (intOf i).toNat)
        case atStart => exact ⟨0, 0, none, 0, rfl, Nat.zero_le _, rfl, HBT0.out, World.ownsRow_nil _ _ _ _, HB4.out⟩
        case round =>
          obtain ⟨k, j, ap, cp, hjk, hk, rfl, bt, op, hbr⟩ := hrel
          have hhf := HH.out
          have HJ : Hid (j = k * 2) := hjk
          have HBR : Hid (type_of% hbr) := hbr
          have HOP : Hid (type_of% op) := op
          have HBT : Hid (type_of% bt) := bt
          obtain ⟨htl, ⟨t0, t1⟩, _⟩ := wr2 bt
          by_cases hlt : k < hf
          · have hj1 : j + 1 < xs.length := by rw [HXL.out]; omega
            rcases HIA.out with e0 | ⟨xb, xo, rfl, hxb, hxc⟩
            · rw [e0] at hj1; simp at hj1
            have d0 := hxc j (by omega)
            have d1 := hxc (j + 1) hj1
            have HPL : Hid (k < (pairs xs).length) := by show _ < _; rw [pairs_len, HXL.out]; omega
            have HTK : Hid ((pairs xs).take (k + 1) = (pairs xs).take k ++ [(xs[j], xs[j + 1])]) := by
              show _ = _
              rw [List.take_succ_eq_append_getElem HPL.out, pairs_get xs k HPL.out (by omega) (by omega)]
              subst hjk
              rfl
            have HTL : Hid (((pairs xs).take k).length = k) := by have := HPL.out; show _ = _; rw [List.length_take]; omega
            generalize xs[j] = x at d0 HTK
            generalize xs[j + 1] = y at d1 HTK
            have HXC : Hid (∀ X : World, Below w3.heap.size w3 X → X.cell? ⟨xb, xo + j, none⟩ = some (.int .i64 x) ∧ X.cell? ⟨xb, xo + (j + 1), none⟩ = some (.int .i64 y)) := fun X hX => ⟨(hX.cell (p := ⟨xb, xo + j, none⟩) hxb).trans d0, (hX.cell (p := ⟨xb, xo + (j + 1), none⟩) hxb).trans d1⟩
            have HSX : Hid (∀ X : World, Below wr.heap.size wr X → X.cell? ⟨T, 0, none⟩ = some (.slice ap k cp) ∧ X.cell? ⟨xb, xo + j, none⟩ = some (.int .i64 x) ∧ X.cell? ⟨xb, xo + (j + 1), none⟩ = some (.int .i64 y)) := fun X hX => ⟨(hX.cell (p := ⟨T, 0, none⟩) htl).trans t0, HXC.out X (HBR.out.trans (hX.mono HBR.out.size))⟩
            have st0 : Below wr.heap.size wr wr.drew := (Below.refl _ _).drew
            have hS := HSX.out _ st0
            have hw1 : IntKind.i64.wrap ((j : Int) + 1) = (j : Int) + 1 := by rw [IntKind.wrap_i64]; omega
            have hw2 : IntKind.i64.wrap ((j : Int) + 2) = (j : Int) + 2 := by rw [IntKind.wrap_i64]; omega
            have hjn : (j : Int) < na := by omega
            have hjn1 : (j : Int) + 1 < na := by omega
            have hj0 : (0 : Int) ≤ (j : Int) + 1 := by omega
            have hjt : ((j : Int) + 1).toNat = j + 1 := by omega
            have hk3 : k ≤ 30000 := by omega
            clear hxc d0 d1 t0 t1 bt op hbr hj1 hjk hhf
            go_wp2_with fail
            refine Hd.start (fun X => X.cell? ⟨T, 0, none⟩ = some (.slice ap k cp) ∧ X.cell? ⟨xb, xo + j, none⟩ = some (.int .i64 x) ∧ X.cell? ⟨xb, xo + (j + 1), none⟩ = some (.int .i64 y)) 15 (by kernel_rfl) ?_
            generalize wr.drew = w0 at st0 hS ⊢
            refine Hd.After.pureD (i := 0) (some 50) (.pointer (some ⟨T, 0, none⟩)) rfl rfl (by kernel_rfl) (by decide) (by kernel_rfl) (by kernel_rfl) (fun _ _ _ h => h) (hS) (Or.inl ⟨by rfl, ?_⟩) ?_
            · intro X; go_simp; try with_reducible rfl
            (first | simp only [Act.put, List.setIfInBounds_toArray, List.set_cons_zero, List.set_cons_succ] | skip)
            refine Hd.After.takeD (i := 1) (some 51) (.slice ap k cp) rfl rfl (by kernel_rfl) (by kernel_rfl) (by kernel_rfl) (by kernel_rfl) (by kernel_rfl) (fun _ _ _ h => h) (hS) (Or.inl ⟨by rfl, ?_⟩) ?_
            · rintro X ⟨s0, s1, s2⟩; go_simp; try with_reducible rfl
            (first | simp only [Act.put, List.setIfInBounds_toArray, List.set_cons_zero, List.set_cons_succ] | skip)
            refine Hd.After.pureD (i := 2) (some 52) (.slice (some ⟨xb, xo, none⟩) na c) rfl rfl (by kernel_rfl) (by decide) (by kernel_rfl) (by kernel_rfl) (fun _ _ _ h => h) (hS) (Or.inl ⟨by rfl, ?_⟩) ?_
            · intro X; go_simp; try with_reducible rfl
            (first | simp only [Act.put, List.setIfInBounds_toArray, List.set_cons_zero, List.set_cons_succ] | skip)
            refine Hd.After.pureD (i := 3) (some 53) (.int .i64 j) rfl rfl (by kernel_rfl) (by decide) (by kernel_rfl) (by kernel_rfl) (fun _ _ _ h => h) (hS) (Or.inl ⟨by rfl, ?_⟩) ?_
            · intro X; go_simp; try with_reducible rfl
            (first | simp only [Act.put, List.setIfInBounds_toArray, List.set_cons_zero, List.set_cons_succ] | skip)
            refine Hd.After.pureD (i := 4) (some 54) (.pointer (some ⟨xb, xo + j, none⟩)) rfl rfl (by kernel_rfl) (by decide) (by kernel_rfl) (by kernel_rfl) (fun _ _ _ h => h) (hS) (Or.inl ⟨by rfl, ?_⟩) ?_
            · intro X; go_simp; try with_reducible rfl
            (first | simp only [Act.put, List.setIfInBounds_toArray, List.set_cons_zero, List.set_cons_succ] | skip)
            refine Hd.After.takeD (i := 5) (some 55) (.int .i64 x) rfl rfl (by kernel_rfl) (by kernel_rfl) (by kernel_rfl) (by kernel_rfl) (by kernel_rfl) (fun _ _ _ h => h) (hS) (Or.inl ⟨by rfl, ?_⟩) ?_
            · rintro X ⟨s0, s1, s2⟩; go_simp; try with_reducible rfl
            (first | simp only [Act.put, List.setIfInBounds_toArray, List.set_cons_zero, List.set_cons_succ] | skip)
            refine Hd.After.pureD (i := 6) (some 56) (.slice (some ⟨xb, xo, none⟩) na c) rfl rfl (by kernel_rfl) (by decide) (by kernel_rfl) (by kernel_rfl) (fun _ _ _ h => h) (hS) (Or.inl ⟨by rfl, ?_⟩) ?_
            · intro X; go_simp; try with_reducible rfl
            (first | simp only [Act.put, List.setIfInBounds_toArray, List.set_cons_zero, List.set_cons_succ] | skip)
            refine Hd.After.pureD (i := 7) (some 57) (.int .i64 j) rfl rfl (by kernel_rfl) (by decide) (by kernel_rfl) (by kernel_rfl) (fun _ _ _ h => h) (hS) (Or.inl ⟨by rfl, ?_⟩) ?_
            · intro X; go_simp; try with_reducible rfl
            (first | simp only [Act.put, List.setIfInBounds_toArray, List.set_cons_zero, List.set_cons_succ] | skip)
            refine Hd.After.pureD (i := 8) (some 58) (.int .i64 ((j : Int) + 1)) rfl rfl (by kernel_rfl) (by decide) (by kernel_rfl) (by kernel_rfl) (fun _ _ _ h => h) (hS) (Or.inl ⟨by rfl, ?_⟩) ?_
            · intro X; go_simp; try with_reducible rfl
            (first | simp only [Act.put, List.setIfInBounds_toArray, List.set_cons_zero, List.set_cons_succ] | skip)
            refine Hd.After.pureD (i := 9) (some 59) (.pointer (some ⟨xb, xo + (j + 1), none⟩)) rfl rfl (by kernel_rfl) (by decide) (by kernel_rfl) (by kernel_rfl) (fun _ _ _ h => h) (hS) (Or.inl ⟨by rfl, ?_⟩) ?_
            · intro X; go_simp; try with_reducible rfl
            (first | simp only [Act.put, List.setIfInBounds_toArray, List.set_cons_zero, List.set_cons_succ] | skip)
            refine Hd.After.takeD (i := 10) (some 60) (.int .i64 y) rfl rfl (by kernel_rfl) (by kernel_rfl) (by kernel_rfl) (by kernel_rfl) (by kernel_rfl) (fun _ _ _ h => h) (hS) (Or.inl ⟨by rfl, ?_⟩) ?_
            · rintro X ⟨s0, s1, s2⟩; go_simp; try with_reducible rfl
            (first | simp only [Act.put, List.setIfInBounds_toArray, List.set_cons_zero, List.set_cons_succ] | skip)
            refine Hd.After.pureD (i := 11) (some 61) (.agg #[.int .i64 x, .int .i64 y]) rfl rfl (by kernel_rfl) (by decide) (by kernel_rfl) (by kernel_rfl) (fun _ _ _ h => h) (hS) (Or.inl ⟨by rfl, ?_⟩) ?_
            · intro X; go_simp; try with_reducible rfl
            (first | simp only [Act.put, List.setIfInBounds_toArray, List.set_cons_zero, List.set_cons_succ] | skip)
            have hA : Below w0.heap.size w0 (w0.alloc (.cells #[.int .i64 x, .int .i64 y] 58)) := (Below.refl _ _).alloc (Nat.le_refl _) _
            have st4 := st0.trans (hA.mono st0.size)
            refine Hd.After.one (i := 12) (by kernel_rfl) rfl rfl ?_
            intro K hK
            go_simp
            refine hK _ _ (fun _ => HSX.out _ st4) ?_
            clear hK K
            (first | simp only [Act.put, List.setIfInBounds_toArray, List.set_cons_zero, List.set_cons_succ] | skip)
            refine Hd.After.one (i := 13) (by kernel_rfl) rfl rfl ?_
            intro K hK
            refine wp_snocP _ _ rfl (some 63) rfl (T + 1) ap k cp w0.heap.size ((pairs xs).take k) HTL.out rfl rfl (HOP.out.below st4) (by have := st4.size; have := HBT.out.1; omega) x y (by simp) (by simp) (by omega) ?_
            intro a7 c7 w7 hok7 hg7
            rw [← HTK.out] at hok7
            have hb7 : Below w3.heap.size w3 w7 := (HBR.out.trans (st4.mono (by have := HBR.out.size; omega))).trans ⟨hg7.os, hg7.tape, hg7.output, hg7.size, fun q hq => hg7.block q (by have := st4.size; have := HBR.out.size; omega) (fun e => by have := (HOP.out.ge q e.symm).1; have := HT.out; omega)⟩
            have ht7 : Wr w7 T 0 [.slice ap k cp, .slice al nl cl] := (HBT.out.below st4).keptAt hg7.size (hg7.block T (Nat.lt_of_lt_of_le HBT.out.1 st4.size) (fun e => by have := (HOP.out.ge T e.symm).1; omega))
            obtain ⟨z2, ⟨z0, z00⟩, z1, z11⟩ := wr2 ht7
            have hS7 := HXC.out _ hb7
            clear hg7
            refine hK _ _ (fun _ => ⟨z0, hS7⟩) ?_
            clear hK K
            (first | simp only [Act.put, List.setIfInBounds_toArray, List.set_cons_zero, List.set_cons_succ] | skip)
            refine Hd.After.one (i := 14) (by kernel_rfl) rfl rfl ?_
            intro K hK
            go_simp
            refine hK _ _ (fun _ => ⟨z0, hS7⟩) ?_
            clear hK K
            (first | simp only [Act.put, List.setIfInBounds_toArray, List.set_cons_zero, List.set_cons_succ] | skip)
            refine Hd.After.one (i := 15) (by kernel_rfl) rfl rfl ?_
            intro K hK
            go_simp
            refine hK _ _ (fun h => by cases h) ?_
            clear hK K
            refine Hd.After.done (by kernel_rfl) ?_ _
            have HB8 : Hid (Wr (w7.setCell ⟨T, 0, none⟩ (.slice a7 (k + 1) c7)) T 0 [.slice a7 (k + 1) c7, .slice al nl cl]) := ht7.set 0 (by simp) _
            have HO8 : Hid (OwnP (w7.setCell ⟨T, 0, none⟩ (.slice a7 (k + 1) c7)) (T + 1) (.slice a7 (k + 1) c7) ((pairs xs).take (k + 1))) := hok7.kept (Li.grown_set w7 T 0 _) (.inr (fun e => by have := (hok7.ge T e).1; omega))
            have HR8 : Hid (Below w3.heap.size w3 (w7.setCell ⟨T, 0, none⟩ (.slice a7 (k + 1) c7))) := hb7.setCell (by have := HT.out; show w3.heap.size ≤ T; omega) _
            clear st0 hS st4 hA hok7 hb7 ht7 hS7 z0 z00 z1 z11 z2 HSX hw1 hj0 hjt
            go_wp2
            go_roundw
            case rel => exact ⟨k + 1, j + 2, a7, c7, by have := HJ.out; omega, by omega, by go_num, HB8.out, HO8.out, HR8.out⟩
            case measure => have := HJ.out; have := HH.out; simp [intOf]; omega
          · obtain rfl : k = hf := by omega
            have HTA : Hid ((pairs xs).take k = pairs xs) := by show _ = _; rw [List.take_of_length_le]; rw [pairs_len, HXL.out]; omega
            rw [HTA.out] at HOP
            have hge : ¬ (j : Int) < na := by omega
            have HBWR : Hid (Below w.heap.size w wr) := HBW.out.trans (HBR.out.mono HBW.out.size)
            obtain ⟨hbl, ⟨x0, x1, x2, x3, x4, x5, x6⟩, xx⟩ := wr7 (HG.out.bx.below HBWR.out)
            rw [HNT.out] at x5
            have HSX : Hid (∀ X : World, Below wr.heap.size wr X → X.cell? ⟨b, 5, none⟩ = some (.slice ax nt ct) ∧ X.cell? ⟨T, 0, none⟩ = some (.slice ap k cp) ∧ X.cell? ⟨T, 1, none⟩ = some (.slice al nl cl)) := fun X hX => ⟨(hX.cell (p := ⟨b, 5, none⟩) hbl).trans x5, (hX.cell (p := ⟨T, 0, none⟩) htl).trans t0, (hX.cell (p := ⟨T, 1, none⟩) htl).trans t1⟩
            have HSEP : Hid (∀ q, (Value.slice ap k cp).ownBlock = some q → (Value.slice al nl cl).ownBlock ≠ some q) := fun q e e' => by have := (HOP.out.ge q e).1; have := (HOL.out.ge q e').2; have := HT.out; omega
            have st0 : Below wr.heap.size wr wr.drew := (Below.refl _ _).drew
            have hS := HSX.out _ st0
            clear hjk hhf x0 x1 x2 x3 x4 x5 x6 xx t0 t1 bt op hbr
            go_wp2_with fail
            refine Hd.start (fun X => X.cell? ⟨b, 5, none⟩ = some (.slice ax nt ct) ∧ X.cell? ⟨T, 0, none⟩ = some (.slice ap k cp) ∧ X.cell? ⟨T, 1, none⟩ = some (.slice al nl cl)) 12 (by kernel_rfl) ?_
            generalize wr.drew = w0 at st0 hS ⊢
            refine Hd.After.pureD (i := 0) (some 65) (.pointer (some ⟨b, 0, none⟩)) rfl rfl (by kernel_rfl) (by decide) (by kernel_rfl) (by kernel_rfl) (fun _ _ _ h => h) (hS) (Or.inl ⟨by rfl, ?_⟩) ?_
            · intro X; go_simp; try with_reducible rfl
            (first | simp only [Act.put, List.setIfInBounds_toArray, List.set_cons_zero, List.set_cons_succ] | skip)
            refine Hd.After.pureD (i := 1) (some 66) (.pointer (some ⟨b, 0, none⟩)) rfl rfl (by kernel_rfl) (by decide) (by kernel_rfl) (by kernel_rfl) (fun _ _ _ h => h) (hS) (Or.inl ⟨by rfl, ?_⟩) ?_
            · intro X; go_simp; try with_reducible rfl
            (first | simp only [Act.put, List.setIfInBounds_toArray, List.set_cons_zero, List.set_cons_succ] | skip)
            refine Hd.After.pureD (i := 2) (some 67) (.pointer (some ⟨b, 0, none⟩)) rfl rfl (by kernel_rfl) (by decide) (by kernel_rfl) (by kernel_rfl) (fun _ _ _ h => h) (hS) (Or.inl ⟨by rfl, ?_⟩) ?_
            · intro X; go_simp; try with_reducible rfl
            (first | simp only [Act.put, List.setIfInBounds_toArray, List.set_cons_zero, List.set_cons_succ] | skip)
            refine Hd.After.pureD (i := 3) (some 68) (.pointer (some ⟨b, 0, none⟩)) rfl rfl (by kernel_rfl) (by decide) (by kernel_rfl) (by kernel_rfl) (fun _ _ _ h => h) (hS) (Or.inl ⟨by rfl, ?_⟩) ?_
            · intro X; go_simp; try with_reducible rfl
            (first | simp only [Act.put, List.setIfInBounds_toArray, List.set_cons_zero, List.set_cons_succ] | skip)
            refine Hd.After.pureD (i := 4) (some 69) (.pointer (some ⟨b, 5, none⟩)) rfl rfl (by kernel_rfl) (by decide) (by kernel_rfl) (by kernel_rfl) (fun _ _ _ h => h) (hS) (Or.inl ⟨by rfl, ?_⟩) ?_
            · intro X; go_simp; try with_reducible rfl
            (first | simp only [Act.put, List.setIfInBounds_toArray, List.set_cons_zero, List.set_cons_succ] | skip)
            refine Hd.After.takeD (i := 5) (some 70) (.slice ax nt ct) rfl rfl (by kernel_rfl) (by kernel_rfl) (by kernel_rfl) (by kernel_rfl) (by kernel_rfl) (fun _ _ _ h => h) (hS) (Or.inl ⟨by rfl, ?_⟩) ?_
            · rintro X ⟨s0, s1, s2⟩; go_simp; try with_reducible rfl
            (first | simp only [Act.put, List.setIfInBounds_toArray, List.set_cons_zero, List.set_cons_succ] | skip)
            refine Hd.After.takeD (i := 6) (some 71) (.agg #[.slice ap k cp, .slice al nl cl]) rfl rfl (by kernel_rfl) (by kernel_rfl) (by kernel_rfl) (by kernel_rfl) (by kernel_rfl) (fun _ _ _ h => h) (hS) (Or.inl ⟨by rfl, ?_⟩) ?_
            · rintro X ⟨s0, s1, s2⟩; go_simp; try with_reducible rfl
            (first | simp only [Act.put, List.setIfInBounds_toArray, List.set_cons_zero, List.set_cons_succ] | skip)
            have hA : Below w0.heap.size w0 (w0.alloc (.cells #[.slice ap k cp, .slice al nl cl] 56)) := (Below.refl _ _).alloc (Nat.le_refl _) _
            have st4 := st0.trans (hA.mono st0.size)
            have hbA : Below w.heap.size w (w0.alloc (.cells #[.slice ap k cp, .slice al nl cl] 56)) := HBW.out.trans ((HBR.out.trans (st4.mono HBR.out.size)).mono HBW.out.size)
            refine Hd.After.one (i := 7) (by kernel_rfl) rfl rfl ?_
            intro K hK
            go_simp
            refine hK _ _ (fun _ => HSX.out _ st4) ?_
            clear hK K
            (first | simp only [Act.put, List.setIfInBounds_toArray, List.set_cons_zero, List.set_cons_succ] | skip)
            obtain ⟨B', hB1, hB2, hB3, hB4⟩ := splitT HG.out.om hbA HG.out.sz
            have hvb : ∀ y, (Value.slice ax nt ct).ownBlock = some y → B' y ∧ y < w.heap.size := fun y e => by obtain ⟨_, _, _, _, hv, _⟩ := hB3; exact hv y (by rw [HNT.out]; exact e)
            rw [HNT.out] at hB3
            refine Hd.After.one (i := 8) (by kernel_rfl) rfl rfl ?_
            intro K hK
            refine Ps.wp_pushT _ _ rfl (some 73) rfl B' w.heap.size _ st.m.ts hB3 w0.heap.size ap al cp cl k nl ⟨pairs xs, ls⟩ rfl rfl (by simp) (by simp) ((HOP.out.below st4).mono (by have := HT.out; have := HBW.out.size; omega)) (((HOL.out.below HBR.out).below st4).mono (by omega)) HSEP.out hB1 hbA.size (by have := HTN.out; omega) ?_
            intro a9 c9 w9 hok9 hg9
            have hfr : Fr B' _ w9 := ⟨hg9.os, hg9.tape, hg9.output, hg9.size, fun q hq hn => hg9.block q hq (fun e => hn (hvb q e.symm).1)⟩
            have hx9 : Wr w9 b 0 _ := (HG.out.bx.below hbA).keptAt hfr.size (hfr.block b (Nat.lt_of_lt_of_le HG.out.bx.1 hbA.size) (fun e => by have := hB2 b e; have := HG.out.bl; omega))
            have ht9 : Wr w9 T 0 [.slice ap k cp, .slice al nl cl] := (HBT.out.below st4).keptAt hg9.size (hg9.block T (Nat.lt_of_lt_of_le HBT.out.1 st4.size) (fun e => by have := (hvb T e.symm).2; have := HT.out; have := HBW.out.size; omega))
            obtain ⟨_, ⟨t9, t99⟩, _⟩ := wr2 ht9
            obtain ⟨hbl9, ⟨z0, z1, z2, z3, z4, z5, z6⟩, y0, y1, y2, y3, y4, y5, y6⟩ := wr7 hx9
            rw [HNT.out] at z5
            clear hg9
            refine hK _ _ (fun _ => ⟨z5, t9, t99⟩) ?_
            clear hK K
            (first | simp only [Act.put, List.setIfInBounds_toArray, List.set_cons_zero, List.set_cons_succ] | skip)
            refine Hd.After.one (i := 9) (by kernel_rfl) rfl rfl ?_
            intro K hK
            go_simp
            refine hK _ _ (fun _ => ⟨z5, t9, t99⟩) ?_
            clear hK K
            (first | simp only [Act.put, List.setIfInBounds_toArray, List.set_cons_zero, List.set_cons_succ] | skip)
            refine Hd.After.one (i := 10) (by kernel_rfl) rfl rfl ?_
            intro K hK
            go_simp
            refine hK _ _ (fun _ => ⟨z5, t9, t99⟩) ?_
            clear hK K
            (first | simp only [Act.put, List.setIfInBounds_toArray, List.set_cons_zero, List.set_cons_succ] | skip)
            refine Hd.After.one (i := 11) (by kernel_rfl) rfl rfl ?_
            intro K hK
            go_simp
            refine hK _ _ (fun _ => ⟨z5, t9, t99⟩) ?_
            clear hK K
            (first | simp only [Act.put, List.setIfInBounds_toArray, List.set_cons_zero, List.set_cons_succ] | skip)
            refine Hd.After.one (i := 12) (by kernel_rfl) rfl rfl ?_
            intro K hK
            go_simp
            refine hK _ _ (fun h => by cases h) ?_
            clear hK K
            refine Hd.After.done (by kernel_rfl) ?_ _
            have HX9 : Hid (type_of% hx9) := hx9
            have HFR : Hid (type_of% hfr) := hfr
            have HBA : Hid (type_of% hbA) := hbA
            have HB2 : Hid (type_of% hB2) := hB2
            have h4 := hB4 w9 (.slice a9 (st.m.ts.length + 1) c9) ⟨st.m.n, st.m.c, st.m.prior, st.m.base, st.m.ks, st.m.ts ++ [⟨pairs xs, ls⟩]⟩ rfl hfr hok9
            have H5 : Hid (type_of% h4) := h4
            clear st0 hS st4 hA hok9 hfr hx9 hbA hB1 hB2 hB3 hB4 hvb ht9 t9 t99 z0 z1 z2 z3 z4 z5 z6 y0 y1 y2 y3 y4 y5 y6 HSX h4
            go_wp2
            go_ret
            have hg := HG.out
            refine ⟨.inl ⟨_, a9, c9, HDS.out, rfl, ?_⟩, ?_⟩
            · refine ⟨?_, ?_, hg.bl, ?_, hg.lf⟩
              · have h6 := HX9.out.set 5 (by simp [gcells]) (.slice a9 (st.m.ts.length + 1) c9)
                simpa [gcells] using h6
              · have h6 := om_set (o := 5) (x := .slice a9 (st.m.ts.length + 1) c9) H5.out hg.bl
                simpa using h6
              · have h1 := HFR.out.size
                have h2 := HBA.out.size
                have h3 := hg.sz
                simp [World.setCell] at h1 ⊢
                simp at h2
                omega
            · exact ((fx_below HBA.out).trans (HFR.out.mono (fun y hy => .inr (HB2.out y hy)))).trans (fx_set _ 5 _)
      · have HDS : Hid (dTree st s.data.toList = none) := by
          have h1 := HD.out
          rw [hx1, hx2] at h1
          simp only [hna, hev] at h1
          exact h1
        have hm : (Int.tmod (na : Int) 2 != 0) = true := by rw [Int.tmod_eq_emod_of_nonneg (by omega)]; simp; omega
        clear HD hx1 hx2 hbd2
        go_wp2
        go_ret
        exact ⟨.inr ⟨HDS.out, rfl⟩, HF.out⟩
    · have HDS : Hid (dTree st s.data.toList = none) := by
        have h1 := HD.out
        rw [hx1] at h1
        exact h1
      clear HD hx1 hx2 hbd2
      go_wp2
      go_ret
      exact ⟨.inr ⟨HDS.out, rfl⟩, HF.out⟩
  · have HDS : Hid (dTree st s.data.toList = none) := by
      have h1 := HD.out
      rw [hx2] at h1
      rw [h1]
      cases inums p.data.toList <;> rfl
    clear HD hx2
    cases oka
    · clear hxa
      go_wp2
      go_ret
      exact ⟨.inr ⟨HDS.out, rfl⟩, HF.out⟩
    · clear hxa
      go_wp2
      go_ret
      exact ⟨.inr ⟨HDS.out, rfl⟩, HF.out⟩
end Go.Proofs.YtaojoamldoofpaaGreatDoor.Rm
