/-
  What the model draws for GradsOf: labels and predictions, each in new blocks.
-/
import Derived.Test.YtdcbcacgppffgaaDrawW
import Derived.Test.YtdcbcacgppffgaaApI
namespace Go.Proofs.Ytdcbcacgppffgaa.Dq
open Go.RowKit
open Go.Proofs.Ytdcbcacgppffgaa.Li Go.Proofs.Ytdcbcacgppffgaa.Ai
set_option linter.unusedVariables false
/-- What stands while predictions are drawn. -/
structure PS (w : World) (b B : Nat) (K : Int) (vl v : Value) (ls m : List Int) (wr : World) : Prop where
  ol : Own wr (b + 1) vl ls
  lt : ∀ k, vl.ownBlock = some k → k < B
  om : Own wr B v m
  gr : w.grownBy wr (some b)
  cu : Cu.Cur wr b K
  bB : b < B
  wB : w.heap.size ≤ B
  hB : B ≤ wr.heap.size
variable {w wr w1 : World} {b B : Nat} {K K' : Int} {vl v : Value} {ls m : List Int}
theorem PS.mono (h : PS w b B K vl v ls m wr) (hK : K ≤ K') : PS w b B K' vl v ls m wr := ⟨h.ol, h.lt, h.om, h.gr, h.cu.mono hK, h.bB, h.wB, h.hB⟩
theorem PS.pick (h : PS w b B K vl v ls m wr) (hg : wr.grownBy w1 (some b)) (hc : Cu.Cur w1 b K') : PS w b B K' vl v ls m w1 :=
  ⟨own_cur h.ol hg (by omega), h.lt, own_cur h.om hg h.bB, Cu.grown_trans h.gr hg, hc, h.bB, h.wB, Nat.le_trans h.hB hg.size⟩
theorem PS.alloc (h : PS w b B K vl v ls m wr) (o : Obj) : PS w b B K vl v ls m (wr.alloc o) :=
  ⟨World.ownsRow.alloc h.ol _, h.lt, World.ownsRow.alloc h.om _, Cu.grown_alloc h.gr _, h.cu.alloc _, h.bB, h.wB, by have := h.hB; simp; omega⟩
theorem PS.app {v5 : Value} {x : Int} (h : PS w b B K vl v ls m wr) (ho : w1.ownsRow B 3 1 v5 (m.length + 1) (iv m ++ [.int .i64 x])) (hg : wr.grownBy w1 v.ownBlock) : PS w b B K vl v5 ls (m ++ [x]) w1 := by
  have hge := h.om.ge
  refine ⟨h.ol.kept hg (sepB h.lt h.om), h.lt, own_snoc rfl ho, grown_new h.gr hg (fun k hk => by have := (hge k hk).1; have := h.wB; omega), Dp.cur_new h.cu hg (fun k hk => by have := (hge k hk).1; have := h.bB; omega), h.bB, h.wB, Nat.le_trans h.hB hg.size⟩
set_option maxRecDepth 20000 in
set_option maxHeartbeats 4000000 in
theorem drawGrads (w : World) (a : Option Addr) (len cap : Nat) (hB : Cu.Bytes w w.heap.size a len) (hl : (len : Int) ≤ 1048576) :
    Calls Try.prog 21 #[.slice a len cap] w fun e w' => ∃ vl vp ls ps, e = .returned (.tuple #[vl, vp]) ∧ ls.length ≤ 10 ∧ ps.length ≤ 11 ∧ Own w' w.heap.size vl ls ∧ Own w' w.heap.size vp ps ∧ Below w.heap.size w w' := by
  obtain ⟨i0, hi, hz0, hz1, hz2⟩ := info_parts info_int
  go_enter Try.func21, Try.ntmps21
  go_wp2_with fail
  refine (Cu.open_any _ _ _ _ hB hl).mono ?_
  rintro e w1 ⟨rfl, hg, hc⟩
  have hb1 : w.heap.size < w1.heap.size := hc.lt
  go_wp2_with fail
  refine (Dw.wordsOf _ _ _ hc (by omega)).mono ?_
  rintro e w2 ⟨vw, vl, vp, ws, ls, qs, p, rfl, h1, h2, h3, h4, ow, ol, op, hg2, hc2, nw, nl⟩
  have ol := ol.mono (base' := w.heap.size + 1) (by omega)
  have hg3 := Cu.grown_trans hg hg2
  have st : PS w w.heap.size w2.heap.size (0 + 100) vl (.slice (some ⟨w2.heap.size, 0, none⟩) 0 0) ls [] (w2.alloc (.cells #[] 3)) :=
    ⟨World.ownsRow.alloc ol _, fun k hk => (ol.ge k hk).2, own_empty _ _ (Nat.le_refl _), Cu.grown_alloc hg3 _, hc2.alloc _, by have := hg2.size; omega, hg3.size, by simp⟩
  clear ow op hg hg2 hg3 hc hc2 nw hB
  obtain ⟨al, cl, el, _⟩ := ol.isl
  subst el
  clear ol
  go_wp2
  go_loopw [9, 10] (fun v i wr => ∃ k : Nat, k ≤ ls.length ∧ i = .int .i64 k ∧ ∃ m : List Int, m.length = k ∧ PS w w.heap.size w2.heap.size (100 + 4 * (k : Int)) (.slice al ls.length cl) v ls m wr) (fun _ i _ => ls.length - (intOf i).toNat)
  case atStart => exact ⟨0, Nat.zero_le _, rfl, [], rfl, st.mono (by omega)⟩
  case round =>
    obtain ⟨k, hk, rfl, m, hml, st⟩ := hrel
    have HM : Hid (m.length = k) := hml
    have hm10 : m.length ≤ 10 := by omega
    clear hml
    have hwr := st.hB
    by_cases hlt : k < ls.length
    · go_wp2_with fail
      refine (Cu.rawFix_any _ _ _ st.cu (by omega)).mono ?_
      rintro e w5 ⟨y, rfl, y0, y1, hg5, hc5⟩
      have st := st.pick hg5 hc5
      clear hg5 hc5
      have hw5 := st.hB
      go_wp2_with (at_builtin; refine wpList_append_own _ rfl _ _ 24 rfl w2.heap.size 3 i0 (.int .i64 0) 1 8 Try.underlying24 hi hz0 hz1 hz2 rfl (by decide) _ _ _ rfl (st.alloc _).om ⟨w5.heap.size, 0, none⟩ 1 1 [.int .i64 y] rfl rfl (one_cell _ _ _) (one_one _) (by unfold maxLen; omega) (by omega) (by simp; omega) ?_)
      intro v' w6 hown' hgrow hnn
      clear hnn
      have st6 := (st.alloc _).app hown' hgrow
      clear hown' hgrow st
      go_wp2
      go_roundw
      case rel => exact ⟨k + 1, by omega, by go_num, m ++ [y], by have := HM.out; simp; omega, st6.mono (by omega)⟩
      case measure => simp [intOf]; omega
    · obtain rfl : k = ls.length := by omega
      clear HM hlt
      go_wp2_with fail
      refine (Cu.once_any _ _ _ st.cu (by omega) _ (by omega) (by omega)).mono ?_
      rintro e w5 ⟨q, rfl, hg5, hz5, hc5⟩
      have st := st.pick hg5 hc5
      clear hg5 hc5 hz5
      have hw5 := st.hB
      cases q
      · have hBe : Below w.heap.size w w5 := Cu.grown_below st.gr (Nat.le_refl _) (Nat.le_refl _)
        have o1 := st.ol.mono (base' := w.heap.size) (by omega)
        have o2 := st.om.mono (base' := w.heap.size) st.wB
        clear st
        go_wp2
        refine bodyPost_ret (v := .tuple #[.slice al ls.length cl, u9]) (by simp [results, Try.results21, go_sem]) rfl ?_
        exact ⟨_, _, ls, m, rfl, h3, by omega, o1, o2, hBe⟩
      · go_wp2_with (at_builtin; refine wpList_append_own _ rfl _ _ 24 rfl w2.heap.size 3 i0 (.int .i64 0) 1 8 Try.underlying24 hi hz0 hz1 hz2 rfl (by decide) _ _ _ rfl (st.alloc _).om ⟨w5.heap.size, 0, none⟩ 1 1 [.int .i64 0] rfl rfl (one_cell _ _ _) (one_one _) (by unfold maxLen; omega) (by omega) (by simp; omega) ?_)
        intro v' w6 hown' hgrow hnn
        clear hnn
        have st6 := (st.alloc _).app hown' hgrow
        clear hown' hgrow st
        have hBe : Below w.heap.size w w6 := Cu.grown_below st6.gr (Nat.le_refl _) (Nat.le_refl _)
        have o1 := st6.ol.mono (base' := w.heap.size) (by omega)
        have o2 := st6.om.mono (base' := w.heap.size) st6.wB
        clear st6
        go_wp2
        refine bodyPost_ret (v := .tuple #[.slice al ls.length cl, v']) (by simp [results, Try.results21, go_sem]) rfl ?_
        exact ⟨_, _, ls, _, rfl, h3, by simp; omega, o1, o2, hBe⟩
end Go.Proofs.Ytdcbcacgppffgaa.Dq
