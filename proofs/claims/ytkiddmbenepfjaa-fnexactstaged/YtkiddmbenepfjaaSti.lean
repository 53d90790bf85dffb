/-
  The stages that the program hands out, one more tree each time: a range over a function.
-/
import Derived.Test.YtkiddmbenepfjaaStg
import Derived.RangeFuncBox
import Derived.RangeFuncNested
import Derived.RangeFuncBound
import Derived.RangeFuncCalls
import Derived.RangeFuncLeaves
import Derived.RangeFuncWrites
import Derived.Shelf.Abstract
import Derived.Shelf.RegionOpen
import Derived.WalkKit
import Derived.OwnWalkIn
import Derived.TacticsInMore
import Derived.LoopNIn
import Derived.LoopIn
import Derived.Maps.AppendAt
import Derived.Stop.RegionWithIn
namespace Go.Proofs.Ytkiddmbenepfjaa.Md
set_option maxRecDepth 100000
open Go.RowKit Go.Shelf
open Go.Proofs.Ytkiddmbenepfjaa.Li (ret_bool ret_int btw below_none iv)
open Go.Proofs.Ytkiddmbenepfjaa.Tb (lets Row RowIs)
open Go.Proofs.Ytkiddmbenepfjaa.Tm (IsT szT)
open Go.Proofs.Ytkiddmbenepfjaa.Sv (new1 new2 Wr wr2 wr1)
open Go.Proofs.Ytkiddmbenepfjaa.Sw (sm)
set_option linter.unusedVariables false
attribute [local go_sem] Oper.semAt_some
theorem grown_bel {w w1 : World} (h : Below w.heap.size w w1) : w.grownBy w1 none := ⟨h.os, h.tape, h.output, h.size, fun k hk _ => h.block k hk⟩
set_option maxHeartbeats 4000000 in
theorem stages1_in (n : Nat) (hn : 2 ≤ n) (l Bm Bf n₀ B : Nat) (ak ax : Option Addr) (ck ct : Nat) (m : M) (af : Option Addr) (L cf : Nat) (f : List Int) (hL : f.length = L) (hl : m.sz ≤ 1048576) (ht : m.ts.length ≤ 12) (hL6 : L ≤ 6) (J Jx : List Int → World → Prop) (W : World) (hJ : AbidesFrom W.heap.size J)
    (hY : ∀ pre x W1, J pre W1 → pre.length < m.ts.length + 1 → YieldAt Fence.wide (n - 1) Try.prog l #[.int .i64 x] W1 fun e W' =>
      (e = .returned (.bool true) ∧ J (pre ++ [x]) W' ∧ Sv.Fr (fun q => q = B ∨ n₀ ≤ q) W1 W') ∨ (e = .returned (.bool false) ∧ Jx (pre ++ [x]) W'))
    (hn₀ : n₀ ≤ W.heap.size) (hm : Wr W Bm 0 [.int .i64 m.n, .int .i64 m.c, .int .i64 m.prior, .int .i64 m.base, .slice ak m.ks.length ck, .slice ax m.ts.length ct]) (hBm : Bm < n₀ ∧ ¬ Bm = B) (hf : Wr W Bf 0 [.slice af L cf]) (hBf : Bf < n₀ ∧ ¬ Bf = B) (hax : ∀ W', Sv.Fr (fun q => q = B ∨ n₀ ≤ q) W W' → IsT W' ax m.ts ∧ Li.IsL W' af f) (hcap : m.ts.length ≤ ct) (h0 : J [] W) :
    CallsIn Fence.wide n Try.prog 82 #[.func (.yield l) #[] #[], .pointer (some ⟨Bm, 0, none⟩), .pointer (some ⟨Bf, 0, none⟩)] W fun e W' => (∃ v, e = .returned v) ∧
      ((∃ ys, ys = stgN m.ts f m.base (m.ts.length + 1) ∧ J ys W') ∨ (∃ pre, True ∧ Jx pre W')) := by
  refine callsIn_of_wp Try.func82 rfl trivial ?_ rfl
  simp only [Try.ntmps82, List.size_toArray, List.length_cons, List.length_nil, Nat.reduceAdd, Nat.reduceSub, Array.replicate_succ, Array.replicate_zero, List.push_toArray, List.append_toArray, List.nil_append, List.cons_append]
  obtain ⟨hbl, ⟨x0, x1, x2, x3, x4, x5⟩, _⟩ := wr6 hm
  have htt : (m.ts.length : Int) + 1 ≤ 13 := by omega
  gi_wp2
  gi_loopw [9] (fun i wr => ∃ k : Nat, k ≤ m.ts.length + 1 ∧ i = .int .i64 k ∧ J (stgN m.ts f m.base k) wr ∧ Sv.Fr (fun q => q = B ∨ n₀ ≤ q) W wr) (fun i _ => m.ts.length + 1 - (intOf i).toNat)
  case atStart => exact ⟨0, Nat.zero_le _, rfl, h0, Sv.Fr.refl _ _⟩
  case round =>
    obtain ⟨k, hk, rfl, hJs, hB⟩ := hrel
    clear x0 x1 x2 x3 x4 x5
    by_cases hlt : k < m.ts.length + 1
    · have hmr := hm.keptAt hB.size (hB.block Bm hm.1 (by omega))
      have hfr := hf.keptAt hB.size (hB.block Bf hf.1 (by omega))
      have hx3 := (wr6 hmr).2.1.2.2.2.1
      have hx5 := (wr6 hmr).2.1.2.2.2.2.2
      have hxf := (wr1 hfr).2.1
      obtain ⟨it, ifl⟩ := hax wr hB
      have HIT : Hid (IsT wr ax (m.ts.take k)) := ist_take it k
      have HIF : Hid (Li.IsL wr af f) := ifl
      have HTL : Hid ((m.ts.take k).length = k) := by show _ = _; simp; omega
      have HSZ : Hid ((m.ts.take k).length + szT (m.ts.take k) ≤ 1048576) := by show _ ≤ _; have := szT_pre m.ts k; have := sz_ts hl; omega
      have HLL : Hid (f.length = L) := hL
      have HSN : Hid (stgN m.ts f m.base (k + 1) = stgN m.ts f m.base k ++ [sm (m.ts.take k) f m.base]) := stgN_snoc _ _ _ _
      have HNL : Hid ((stgN m.ts f m.base k).length < m.ts.length + 1) := by show _ < _; rw [stgN_length]; exact hlt
      have hkc : (k : Int) ≤ (ct : Int) := by omega
      have hkl : (k : Int) < (m.ts.length : Int) + 1 := by omega
      obtain ⟨x, hx'⟩ : ∃ x, sm (m.ts.take k) f m.base = x := ⟨_, rfl⟩
      have HX : Hid (sm (m.ts.take k) f m.base = x) := hx'
      rw [hx'] at HSN
      have HJS : Hid (type_of% hJs) := hJs
      have HB : Hid (type_of% hB) := hB
      have HJ : Hid (type_of% hJ) := hJ
      have HY : Hid (type_of% hY) := hY
      have HBD : Hid (Below wr.heap.size wr wr.drew) := (Below.refl wr.heap.size wr).drew
      clear hL it ifl hx' hJs hB hJ hY hax hm hf hmr hfr
      gi_wp2
      gi_region_with (first
        | (refine ⟨trivial, fun _ => (by omega), ?_⟩
           gi_at_call 61
           have hcall := Sw.isum wr.drew ax af ct cf (m.ts.take k) f m.base (HIT.out.below HBD.out) (HIF.out.below HBD.out) HSZ.out (by have := HLL.out; omega)
           rw [HTL.out, HLL.out, HX.out] at hcall
           refine (callsIn_wide.2 hcall).mono ?_
           rintro e w5 ⟨rfl, hb⟩
           have HB5 : Hid (Below wr.heap.size wr w5) := HBD.out.trans hb
           obtain ⟨fn, tmps, assign, body, hy, hR0⟩ := HY.out _ x w5 (HJ.out _ wr w5 none HJS.out (grown_bel HB5.out) (fun r e => (by cases e))) HNL.out
           have HR : Hid (RoundIn Fence.wide (n - 1) Try.prog l fn tmps assign body w5 (fun e W' => ∃ q : Bool, e = .returned (.bool q) ∧ (q = true → J (stgN m.ts f m.base (k + 1)) W' ∧ Sv.Fr (fun q => q = B ∨ n₀ ≤ q) w5 W') ∧ (q = false → ∃ pre, Jx pre W'))) := hR0.mono (fun e W' hh => by
             rcases hh with ⟨rfl, h1, h2⟩ | ⟨rfl, h1⟩
             · exact ⟨true, rfl, fun _ => ⟨by rw [HSN.out]; exact h1, h2⟩, fun e => (by cases e)⟩
             · exact ⟨false, rfl, fun e => (by cases e), fun _ => ⟨_, h1⟩⟩)
           clear hb hcall hR0)
        | (refine ⟨fun _ => (by omega), HR.out.mono ?_⟩
           rintro e W3 ⟨q, rfl, hq1, hq2⟩
           have HQ1 : Hid (type_of% hq1) := hq1
           have HQ2 : Hid (type_of% hq2) := hq2
           clear hq1 hq2))
      all_goals
        cases q
        · obtain ⟨pre, hpre⟩ := HQ2.out rfl
          have HP : Hid (Jx pre W3) := hpre
          clear hpre
          gi_wp2
          refine bodyPost_ret (results_none rfl _ _ _) rfl ?_
          exact ⟨⟨_, rfl⟩, .inr ⟨pre, HP.out⟩⟩
        · obtain ⟨hj3, hk3⟩ := HQ1.out rfl
          have HJ3 : Hid (type_of% hj3) := hj3
          have HK3 : Hid (Sv.Fr (fun q => q = B ∨ n₀ ≤ q) W W3) := HB.out.trans ((Sv.fr_below HB5.out).trans hk3)
          clear hj3 hk3
          gi_wp2
          go_roundw
          case rel => exact ⟨k + 1, by omega, by simp, HJ3.out, HK3.out⟩
          case measure => simp [intOf]; omega
    · obtain rfl : k = m.ts.length + 1 := by omega
      have hkl : ¬ ((m.ts.length + 1 : Nat) : Int) < (m.ts.length : Int) + 1 := by omega
      gi_wp2
      go_end0
      exact ⟨⟨_, rfl⟩, .inl hJs⟩
set_option maxHeartbeats 1000000 in
theorem stages_in (n : Nat) (ak ax : Option Addr) (ck ct : Nat) (m : M) (af : Option Addr) (L cf : Nat) (w : World) :
    CallsIn Fence.wide n Try.prog 62 #[.agg #[.int .i64 m.n, .int .i64 m.c, .int .i64 m.prior, .int .i64 m.base, .slice ak m.ks.length ck, .slice ax m.ts.length ct], .slice af L cf] w fun e w' => e = .returned (.func (.func 82) #[] #[.pointer (some ⟨w.heap.size, 0, none⟩), .pointer (some ⟨w.heap.size + 1, 0, none⟩)]) ∧ w' = (w.alloc (.cells #[.int .i64 m.n, .int .i64 m.c, .int .i64 m.prior, .int .i64 m.base, .slice ak m.ks.length ck, .slice ax m.ts.length ct] 34)).alloc (.cells #[.slice af L cf] 38) := by
  refine callsIn_of_wp Try.func62 rfl trivial ?_ rfl
  simp only [Try.ntmps62, List.size_toArray, List.length_cons, List.length_nil, Nat.reduceAdd, Nat.reduceSub, Array.replicate_succ, Array.replicate_zero, List.push_toArray, List.append_toArray, List.nil_append, List.cons_append]
  gi_wp2
  go_ret
  exact ⟨rfl, rfl⟩
theorem stages_stops (n : Nat) (hn : 2 ≤ n) (Bm Bf n₀ B : Nat) (ak ax : Option Addr) (ck ct : Nat) (m : M) (af : Option Addr) (L cf : Nat) (f : List Int) (hL : f.length = L) (hl : m.sz ≤ 1048576) (ht : m.ts.length ≤ 12) (hL6 : L ≤ 6) (w : World) (hn₀ : n₀ ≤ w.heap.size) (hm : Wr w Bm 0 [.int .i64 m.n, .int .i64 m.c, .int .i64 m.prior, .int .i64 m.base, .slice ak m.ks.length ck, .slice ax m.ts.length ct]) (hBm : Bm < n₀ ∧ ¬ Bm = B) (hf : Wr w Bf 0 [.slice af L cf]) (hBf : Bf < n₀ ∧ ¬ Bf = B) (hax : ∀ W', Sv.Fr (fun q => q = B ∨ n₀ ≤ q) w W' → IsT W' ax m.ts ∧ Li.IsL W' af f) (hcap : m.ts.length ≤ ct) :
    SeqStopsK Fence.wide n Try.prog 82 #[.pointer (some ⟨Bm, 0, none⟩), .pointer (some ⟨Bf, 0, none⟩)] (fun x : Int => #[Value.int .i64 x]) (Sv.Fr (fun q => q = B ∨ n₀ ≤ q)) (fun ys => ys = stgN m.ts f m.base (m.ts.length + 1)) (fun _ => True) (m.ts.length + 1) w := fun l J Jx W hW hJ hJx hY h0 => by
  have hWn : Sv.Fr (fun q => q = B ∨ n₀ ≤ q) w W := Sv.fr_below hW
  exact stages1_in n hn l Bm Bf n₀ B ak ax ck ct m af L cf f hL hl ht hL6 J Jx W hJ hY (Nat.le_trans hn₀ hW.size) (hm.below hW) hBm (hf.below hW) hBf (fun W' hb => hax W' (hWn.trans hb)) hcap h0
end Go.Proofs.Ytkiddmbenepfjaa.Md
