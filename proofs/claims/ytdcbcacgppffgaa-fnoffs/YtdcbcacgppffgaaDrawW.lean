/-
  What the model draws for words told by labels: words, labels, an order, a prior, each in new blocks.
-/
import Derived.Test.YtdcbcacgppffgaaDrawP
import Derived.Test.YtdcbcacgppffgaaApd
import Derived.Maps.AppendAt
namespace Go.Proofs.Ytdcbcacgppffgaa.Dw
open Go.RowKit

def oks : Value → Bool
  | .string s => decide (s.size ≤ 3)
  | _ => false
theorem oks_str {v : Value} (h : oks v = true) : ∃ s, v = .string s ∧ s.size ≤ 3 := by
  unfold oks at h
  split at h
  · exact ⟨_, rfl, by simpa using h⟩
  · cases h
/-- A table of texts that the walk has just laid, read behind a call that turned nothing of it. -/
theorem tabS {w w1 : World} {b : Nat} (cs : Array Value) (T : TypeId) (hg : (w.alloc (.cells cs T)).grownBy w1 (some b)) (hb : b < w.heap.size) (hall : (cs.toList.all oks) = true) (x : Int) (h0 : 0 ≤ x) (h1 : x < (cs.size : Int)) :
    ∃ v : ByteArray, w1.cell? ⟨w.heap.size, x.toNat, none⟩ = some (.string v) ∧ v.size ≤ 3 := by
  have hlt : x.toNat < cs.size := by omega
  have := (List.all_eq_true.1 hall) cs[x.toNat] (by simp)
  obtain ⟨v, hv, hb'⟩ := oks_str this
  refine ⟨v, ?_, hb'⟩
  refine hg.cell (a := ⟨w.heap.size, x.toNat, none⟩) ?_ (by simp; omega)
  rw [World.cell?_alloc_new, Array.getElem?_eq_getElem hlt, hv]
def Sml3 (ws : List ByteArray) : Prop := ∀ s ∈ ws, s.size ≤ 3
theorem sml3_snoc {ws : List ByteArray} {s : ByteArray} (h : Sml3 ws) (hs : s.size ≤ 3) : Sml3 (ws ++ [s]) := by
  intro t ht
  rcases List.mem_append.1 ht with h' | h'
  · exact h t h'
  · rw [List.mem_singleton.1 h']; exact hs
theorem Sml3.at {ws : List ByteArray} (h : Sml3 ws) (j : Nat) (hj : j < ws.length) : ws[j].size ≤ 3 := h _ (List.getElem_mem hj)
/-- What stands while words and labels are drawn. -/
structure WS (w : World) (b : Nat) (K : Int) (vw vl : Value) (ws : List ByteArray) (ls : List Int) (wr : World) : Prop where
  ow : Ls.Own wr w.heap.size vw ws
  ol : Li.Own wr w.heap.size vl ls
  ap : ∀ k, vw.ownBlock = some k → vl.ownBlock = some k → False
  gr : w.grownBy wr (some b)
  cu : Cu.Cur wr b K
  nw : vw ≠ .slice none 0 0
  nl : vl ≠ .slice none 0 0
variable {w wr w1 : World} {b : Nat} {K K' : Int} {vw vl : Value} {ws : List ByteArray} {ls : List Int}
theorem WS.alloc (h : WS w b K vw vl ws ls wr) (o : Obj) : WS w b K vw vl ws ls (wr.alloc o) :=
  ⟨World.ownsRow.alloc h.ow _, World.ownsRow.alloc h.ol _, h.ap, Cu.grown_alloc h.gr _, h.cu.alloc _, h.nw, h.nl⟩
theorem WS.mono (h : WS w b K vw vl ws ls wr) (hK : K ≤ K') : WS w b K' vw vl ws ls wr := ⟨h.ow, h.ol, h.ap, h.gr, h.cu.mono hK, h.nw, h.nl⟩
theorem WS.lt (h : WS w b K vw vl ws ls wr) : b < wr.heap.size := h.cu.lt
theorem sown_cur {B : Nat} {v : Value} {xs : List ByteArray} (h : Ls.Own w B v xs) (hg : w.grownBy w1 (some b)) (hb : b < B) : Ls.Own w1 B v xs := by
  refine h.kept hg ?_
  cases e : v.ownBlock with
  | none => exact .inl rfl
  | some k => exact .inr (by have := (h.ge k e).1; simp; omega)
theorem WS.pick (h : WS w b K vw vl ws ls wr) (hb : b < w.heap.size) (hg : wr.grownBy w1 (some b)) (hc : Cu.Cur w1 b K') : WS w b K' vw vl ws ls w1 :=
  ⟨sown_cur h.ow hg hb, Dp.own_cur h.ol hg hb, h.ap, Cu.grown_trans h.gr hg, hc, h.nw, h.nl⟩
theorem WS.appW {v5 : Value} {x : ByteArray} (h : WS w b K vw vl ws ls wr) (hb : b < w.heap.size) (ho : w1.ownsRow w.heap.size 9 1 v5 (ws.length + 1) (Ls.sv ws ++ [.string x])) (hg : wr.grownBy w1 vw.ownBlock) (hl : v5.ownBlock = vw.ownBlock ∨ v5.ownBlock = some wr.heap.size) (hn : v5 = .slice none 0 0 ↔ vw = .slice none 0 0 ∧ 1 = 0) :
    WS w b K v5 vl (ws ++ [x]) ls w1 := by
  have hge := h.ow.ge
  have hle := h.ol.ge
  refine ⟨Ap.sown_snoc rfl ho, h.ol.kept hg ?_, ?_, ?_, ?_, fun e => by have := (hn.1 e).2; omega, h.nl⟩
  · cases e : vl.ownBlock with
    | none => exact .inl rfl
    | some k => exact .inr (fun e' => h.ap k e'.symm e)
  · intro k h1 h2
    rcases hl with hl | hl
    · exact h.ap k (hl ▸ h1) h2
    · rw [hl] at h1; cases h1; have := (hle _ h2).2; omega
  · exact Dp.grown_new h.gr hg (fun k hk => (hge k hk).1)
  · exact Dp.cur_new h.cu hg (fun k hk => by have := (hge k hk).1; omega)
theorem WS.appL {v5 : Value} {x : Int} (h : WS w b K vw vl ws ls wr) (hb : b < w.heap.size) (ho : w1.ownsRow w.heap.size 3 1 v5 (ls.length + 1) (Li.iv ls ++ [.int .i64 x])) (hg : wr.grownBy w1 vl.ownBlock) (hl : v5.ownBlock = vl.ownBlock ∨ v5.ownBlock = some wr.heap.size) (hn : v5 = .slice none 0 0 ↔ vl = .slice none 0 0 ∧ 1 = 0) :
    WS w b K vw v5 ws (ls ++ [x]) w1 := by
  have hge := h.ol.ge
  have hle := h.ow.ge
  refine ⟨h.ow.kept hg ?_, Ap.own_snoc rfl ho, ?_, ?_, ?_, h.nw, fun e => by have := (hn.1 e).2; omega⟩
  · cases e : vw.ownBlock with
    | none => exact .inl rfl
    | some k => exact .inr (fun e' => h.ap k e e'.symm)
  · intro k h1 h2
    rcases hl with hl | hl
    · exact h.ap k h1 (hl ▸ h2)
    · rw [hl] at h2; cases h2; have := (hle _ h1).2; omega
  · exact Dp.grown_new h.gr hg (fun k hk => (hge k hk).1)
  · exact Dp.cur_new h.cu hg (fun k hk => by have := (hge k hk).1; omega)
theorem ws_start (w : World) (b : Nat) (K : Int) (hc : Cu.Cur w b K) : WS w b K (.slice (some ⟨w.heap.size, 0, none⟩) 0 0) (.slice (some ⟨w.heap.size + 1, 0, none⟩) 0 0) [] [] ((w.alloc (.cells #[] 9)).alloc (.cells #[] 3)) := by
  have h1 := Ap.sown_empty w w.heap.size (Nat.le_refl _)
  have h2 := Ap.own_empty (w.alloc (.cells #[] 9)) w.heap.size (by simp)
  have e : (w.alloc (.cells #[] 9)).heap.size = w.heap.size + 1 := by simp
  rw [e] at h2
  refine ⟨World.ownsRow.alloc h1 _, h2, ?_, Cu.grown_alloc (Cu.grown_alloc (Cu.grown_refl _ _) _) _, (hc.alloc _).alloc _, by simp, by simp⟩
  intro k hk hk'
  simp [Value.ownBlock] at hk hk'
  omega
set_option maxHeartbeats 4000000 in
theorem wordsOf (w : World) (b : Nat) (K : Int) (hc : Cu.Cur w b K) (hK : K ≤ 100000000000000) :
    Calls Try.prog 29 #[.pointer (some ⟨b, 0, none⟩)] w fun e w' => ∃ vw vl vp ws ls ps p, e = .returned (.tuple #[vw, vl, vp, .int .i64 p]) ∧ ws.length ≤ 9 ∧ Sml3 ws ∧ ls.length ≤ 10 ∧ ps.length ≤ 100 ∧ Ls.Own w' w.heap.size vw ws ∧ Li.Own w' w.heap.size vl ls ∧ Li.Own w' w.heap.size vp ps ∧ w.grownBy w' (some b) ∧ Cu.Cur w' b (K + 100) ∧ vw ≠ .slice none 0 0 ∧ vl ≠ .slice none 0 0 := by
  obtain ⟨i0, hi, hz0, hz1, hz2⟩ := info_parts Li.info_int
  obtain ⟨j0, hj, jz0, jz1, jz2⟩ := info_parts Ls.info_str
  have hbw := hc.lt
  have st := ws_start w b K hc
  obtain ⟨W, hW⟩ : ∃ W, (w.alloc (.cells #[] 9)).alloc (.cells #[] 3) = W := ⟨_, rfl⟩
  rw [hW] at st
  have HW : Hid ((w.alloc (.cells #[] 9)).alloc (.cells #[] 3) = W) := hW
  clear hW
  go_enter Try.func29, Try.ntmps29
  go_wp2_with fail
  rw [HW.out]
  clear HW hc
  refine (Dp.size_any _ _ _ st.cu (by omega) _ (by omega) (by omega)).mono ?_
  rintro e w1 ⟨n', rfl, n0, n1, hg1, hz1', hc1⟩
  obtain ⟨n, rfl⟩ : ∃ n : Nat, n' = (n : Int) := ⟨n'.toNat, by omega⟩
  have st := st.pick hbw hg1 hc1
  clear hg1 hz1' hc1
  go_wp2
  go_loopw [6, 7, 8] (fun vw vl i wr => ∃ m : Nat, m ≤ n ∧ i = .int .i64 m ∧ ∃ ws ls, ws.length + m = n ∧ ls.length + m = n ∧ Sml3 ws ∧ WS w b (K + 1 + 2 * ((n : Int) - m)) vw vl ws ls wr) (fun _ _ i _ => (intOf i).toNat)
  case atStart => exact ⟨n, Nat.le_refl _, rfl, [], [], by simp, by simp, fun s hs => by simp at hs, st.mono (by omega)⟩
  case round =>
    obtain ⟨m, hm, rfl, ws, ls, hwl, hll, h3, st⟩ := hrel
    have HWL : Hid (ws.length + m = n) := hwl
    have HLL : Hid (ls.length + m = n) := hll
    have hw9 : ws.length ≤ 9 := by omega
    have hl9 : ls.length ≤ 9 := by omega
    clear hwl hll
    have hbr := st.lt
    by_cases h0 : m = 0
    · subst h0
      obtain ⟨aw, cw, ew, _⟩ := st.ow.iss
      subst ew
      have st := st.mono (K' := K + 20) (by omega)
      go_wp2_with fail
      refine (Dp.perm_any _ _ _ st.cu (by omega) _).mono ?_
      rintro e w2 ⟨vp, ps, rfl, hpl, op, hg2, hc2⟩
      have hsep : ∀ k, vp.ownBlock = some k → u7.ownBlock = some k → False := fun k h1 h2 => by have := (op.ge k h1).1; have := (st.ol.ge k h2).2; omega
      have op := op.mono (base' := w.heap.size) st.gr.size
      have st := st.pick hbw hg2 hc2
      clear hg2 hc2
      go_wp2_with fail
      refine (Cu.raw_any _ _ _ st.cu (by omega)).mono ?_
      rintro e w3 ⟨r, rfl, r0, r1, hg3, hc3⟩
      have st := st.pick hbw hg3 hc3
      have op := Dp.own_cur op hg3 hbw
      have hbr3 := st.lt
      clear hg3 hc3
      go_wp2_with fail
      refine (Cu.pick_any _ _ _ (st.alloc _).cu (by omega) _ (by omega)).mono ?_
      rintro e w4 ⟨y, rfl, y0, y1, hg4, hz4, hc4⟩
      have y2 : y < 5 := y1 (by omega)
      obtain ⟨q, hq, q0, q1⟩ := Cu.tab _ _ (-9223372036854775808) 9223372036854775807 hg4 hbr3 (by simp [Cu.okv]; omega) y y0 y2
      have st := (st.alloc _).pick hbw hg4 hc4
      have op := Dp.own_cur (World.ownsRow.alloc op _) hg4 hbw
      clear y1 hg4 hc4 hz4
      go_wp2_with fail
      refine (Cu.once_any _ _ _ st.cu (by omega) _ (by omega) (by omega)).mono ?_
      rintro e w5 ⟨t, rfl, hg5, hz5, hc5⟩
      have st := st.pick hbw hg5 hc5
      have op := Dp.own_cur op hg5 hbw
      clear hg5 hc5 hz5 hq
      cases t
      · go_wp2
        refine bodyPost_ret (v := .tuple #[.slice aw ws.length cw, u7, vp, .int .i64 q]) (by simp [results, Try.results29, go_sem]) rfl ?_
        exact ⟨_, _, _, ws, ls, ps, q, rfl, hw9, h3, by omega, hpl, st.ow, st.ol, op, st.gr, st.cu.mono (by omega), st.nw, st.nl⟩
      · go_wp2_with fail
        refine (Cu.raw_any _ _ _ st.cu (by omega)).mono ?_
        rintro e w6 ⟨z, rfl, z0, z1, hg6, hc6⟩
        have st := st.pick hbw hg6 hc6
        have op := Dp.own_cur op hg6 hbw
        clear hg6 hc6
        go_wp2_with (at_builtin; refine wpList_append_own_at _ rfl _ _ 24 rfl w.heap.size 3 i0 (.int .i64 0) 1 8 Try.underlying24 hi hz0 hz1 hz2 rfl (by decide) _ _ _ rfl (st.alloc _).ol ⟨w6.heap.size, 0, none⟩ 1 1 [.int .i64 z] rfl rfl (Ap.one_cell _ _ _ rfl) (Ap.one_one _ rfl) (by unfold maxLen; omega) (by omega) (by have := st.gr.size; simp; omega) ?_; intro v7 w7 hown7 hgrow7 hnn7 hloc7)
        have op := (show Li.Own (w6.alloc _) w.heap.size vp ps from World.ownsRow.alloc op _).kept hgrow7 (by
          cases e : vp.ownBlock with
          | none => exact .inl rfl
          | some k => exact .inr (fun e' => hsep k e e'.symm))
        have st := (st.alloc _).appL hbw hown7 hgrow7 hloc7 hnn7
        clear hown7 hgrow7 hnn7 hloc7
        go_wp2
        refine bodyPost_ret (v := .tuple #[.slice aw ws.length cw, v7, vp, .int .i64 q]) (by simp [results, Try.results29, go_sem]) rfl ?_
        exact ⟨_, _, _, ws, ls ++ [z], ps, q, rfl, hw9, h3, by simp; omega, hpl, st.ow, st.ol, op, st.gr, st.cu.mono (by omega), st.nw, st.nl⟩
    · have hm0 : 0 < (m : Int) := by omega
      go_wp2_with fail
      refine (Cu.pick_any _ _ _ (st.alloc _).cu (by omega) _ (by omega)).mono ?_
      rintro e w2 ⟨x, rfl, x0, x1, hg2, hz2', hc2⟩
      have x2 : x < 3 := x1 (by omega)
      obtain ⟨v, hv, v0⟩ := tabS _ _ hg2 hbr (by decide +kernel) x x0 x2
      have st := (st.alloc _).pick hbw hg2 hc2
      have hbr2 := st.lt
      clear x1 hg2 hc2 hz2'
      go_wp2_with (at_builtin; refine wpList_append_own_at _ rfl _ _ 46 rfl w.heap.size 9 j0 (.string ⟨#[]⟩) 1 16 Try.underlying46 hj jz0 jz1 jz2 rfl (by decide) _ _ _ rfl (st.alloc _).ow ⟨w2.heap.size, 0, none⟩ 1 1 [.string v] rfl rfl (Ap.one_cell _ _ _ rfl) (Ap.one_one _ rfl) (by unfold maxLen; omega) (by omega) (by have := st.gr.size; simp; omega) ?_; intro v3 w3 hown3 hgrow3 hnn3 hloc3)
      have st := (st.alloc _).appW hbw hown3 hgrow3 hloc3 hnn3
      have hbr3 := st.lt
      clear hown3 hgrow3 hnn3 hloc3 hv
      go_wp2_with fail
      refine (Cu.pick_any _ _ _ (st.alloc _).cu (by omega) _ (by omega)).mono ?_
      rintro e w4 ⟨y, rfl, y0, y1, hg4, hz4, hc4⟩
      have y2 : y < 6 := y1 (by omega)
      obtain ⟨q, hq, q0, q1⟩ := Cu.tab _ _ (-1000000) 1000000 hg4 hbr3 (by decide +kernel) y y0 y2
      have st := (st.alloc _).pick hbw hg4 hc4
      have hbr4 := st.lt
      clear y1 hg4 hc4 hz4
      go_wp2_with (at_builtin; refine wpList_append_own_at _ rfl _ _ 24 rfl w.heap.size 3 i0 (.int .i64 0) 1 8 Try.underlying24 hi hz0 hz1 hz2 rfl (by decide) _ _ _ rfl (st.alloc _).ol ⟨w4.heap.size, 0, none⟩ 1 1 [.int .i64 q] rfl rfl (Ap.one_cell _ _ _ rfl) (Ap.one_one _ rfl) (by unfold maxLen; omega) (by omega) (by have := st.gr.size; simp; omega) ?_; intro v5 w5 hown5 hgrow5 hnn5 hloc5)
      have st := (st.alloc _).appL hbw hown5 hgrow5 hloc5 hnn5
      clear hown5 hgrow5 hnn5 hloc5 hq
      obtain ⟨m', rfl⟩ : ∃ m', m = m' + 1 := ⟨m - 1, by omega⟩
      go_wp2
      go_roundw
      case rel => exact ⟨m', by omega, by go_num, ws ++ [v], ls ++ [q], by have := HWL.out; simp; omega, by have := HLL.out; simp; omega, sml3_snoc h3 v0, st.mono (by omega)⟩
      case measure => simp [intOf]
end Go.Proofs.Ytdcbcacgppffgaa.Dw
