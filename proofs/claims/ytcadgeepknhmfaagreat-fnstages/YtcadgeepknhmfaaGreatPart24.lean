/-
  Contracts that the proof leans on, put together in the order in which they build.
-/
import Derived.Test.YtcadgeepknhmfaaGreatPart8
import Derived.Test.YtcadgeepknhmfaaGreatPart10
import Derived.Test.YtcadgeepknhmfaaGreatPart7
import Derived.Test.YtcadgeepknhmfaaGreatPart17
import Derived.Test.YtcadgeepknhmfaaGreatPart14
import Derived.BigQuiet
import Derived.Deep.QuietTactic
import Derived.Test.YtcadgeepknhmfaaGreatPart13
/-
  Sum of the program and of the model: what trees say, one behind the other.
-/
namespace Go.Proofs.YtcadgeepknhmfaaGreat.Sw
open Go.RowKit
open Go.Proofs.YtcadgeepknhmfaaGreat.Li (ret_bool ret_int below_none)
open Go.Proofs.YtcadgeepknhmfaaGreat.Tr Go.Proofs.YtcadgeepknhmfaaGreat.Tm Go.Proofs.YtcadgeepknhmfaaGreat.Ad
set_option linter.unusedVariables false

def fd (x : List Int) (z : Int) (ts : List T) : Int := ts.foldl (fun s t => fadd s (eval t x)) z
theorem fd_take {x : List Int} {z : Int} {ts : List T} {k : Nat} (h : k < ts.length) : fd x z (ts.take (k + 1)) = fadd (fd x z (ts.take k)) (eval ts[k] x) := by
  unfold fd
  rw [List.take_succ_eq_append_getElem h, List.foldl_append]
  rfl
def allok (ts : List T) : Bool := ts.all tok
theorem allok_no {ts : List T} {k : Nat} (hk : k < ts.length) (h : tok ts[k] = false) : allok ts = false := by
  cases e : allok ts with
  | false => rfl
  | true =>
    unfold allok at e
    rw [List.all_eq_true] at e
    rw [e _ (List.getElem_mem hk)] at h
    cases h
theorem allok_all {ts : List T} (h : ∀ j (hj : j < ts.length), tok ts[j] = true) : allok ts = true := by
  unfold allok
  rw [List.all_eq_true]
  intro t ht
  obtain ⟨j, hj, rfl⟩ := List.getElem_of_mem ht
  exact h j hj
def sm (ts : List T) (x : List Int) (base : Int) : Int := if allok ts then fd x (clip base) ts else 0
theorem sm_no {ts : List T} {x : List Int} {base : Int} (h : allok ts = false) : sm ts x base = 0 := by simp [sm, h]
theorem sm_yes {ts : List T} {x : List Int} {base : Int} (h : allok ts = true) : sm ts x base = fd x (clip base) ts := by simp [sm, h]
theorem fd_bd (x : List Int) (base : Int) (ts : List T) : -1000000000 ≤ fd x (clip base) ts ∧ fd x (clip base) ts ≤ 1000000000 := by
  unfold fd
  have : ∀ (us : List T) z, (-1000000000 ≤ z ∧ z ≤ 1000000000) → -1000000000 ≤ us.foldl (fun s t => fadd s (eval t x)) z ∧ us.foldl (fun s t => fadd s (eval t x)) z ≤ 1000000000 := by
    intro us
    induction us with
    | nil => intro z h; exact h
    | cons u us ih => intro z _; exact ih _ (fadd_bd _ _)
  exact this ts _ (clip_bd _)
theorem sm_append {ts us : List T} {x : List Int} {base : Int} (h : allok ts = true) (h' : allok us = true) : sm (ts ++ us) x base = sm us x (sm ts x base) := by
  have ha : allok (ts ++ us) = true := by unfold allok at *; rw [List.all_append, h, h']; rfl
  rw [sm_yes ha, sm_yes h', sm_yes h]
  have hb := fd_bd x base ts
  rw [clip_id _ hb.1 hb.2]
  unfold fd
  rw [List.foldl_append]
set_option maxHeartbeats 2000000 in
theorem ssum (w : World) (a ax : Option Addr) (c cx : Nat) (ts : List T) (x : List Int) (base : Int) (ht : IsT w a ts) (hy : Li.IsL w ax x) (hl : ts.length + szT ts ≤ 1048576) (hl' : x.length ≤ 1048576) :
    Calls Tryz.prog 20 #[.slice a ts.length c, .slice ax x.length cx, .int .i64 base] w fun e w' => e = .returned (.int .i64 (sm ts x base)) ∧ Below w.heap.size w w' := by
  go_enter Tryz.func20, Tryz.ntmps20
  go_wp2_with (go_at_call 26; refine (clip_any _ _).mono ?_; rintro e w' ⟨rfl, hw⟩; subst w')
  go_loopw [8] (fun i wr => ∃ k : Nat, k ≤ ts.length ∧ i = .int .i64 k ∧ (∀ j (hj : j < ts.length), j < k → tok ts[j] = true) ∧ Below w.heap.size w wr) (fun i _ => ts.length - (intOf i).toNat)
  case atStart => exact ⟨0, Nat.zero_le _, rfl, fun j hj h => by omega, Below.refl _ _⟩
  case round =>
    obtain ⟨k, hk, rfl, hn, hB⟩ := hrel
    have HN : Hid (∀ j (hj : j < ts.length), j < k → tok ts[j] = true) := hn
    clear hn
    by_cases hlt : k < ts.length
    · rcases ht.below hB with h0 | ⟨b, off, rfl, hb, hc⟩
      · rw [h0] at hlt; simp at hlt
      obtain ⟨v0, v1, ⟨cx0, cx1⟩, a0, c0, a1, c1, rfl, rfl, i0, i1⟩ := hc k hlt
      have hz : ts[k].sp.length + ts[k].lv.length ≤ szT ts := szT_at ts k hlt
      clear hc
      go_wp2_with fail
      refine (Tw.stok _ _ _ _ _ ts[k] i0 i1 (by omega)).mono ?_
      rintro e w1 ⟨rfl, hB1⟩
      have hB := hB.trans (hB1.mono hB.size)
      clear hB1 cx0 cx1
      cases hv : tok ts[k] with
      | false =>
        have HR : Hid (sm ts x base = 0) := sm_no (allok_no hlt hv)
        go_wp2
        go_ret
        exact ⟨by rw [HR.out]; rfl, hB⟩
      | true =>
        have HR : Hid (∀ j (hj : j < ts.length), j < k + 1 → tok ts[j] = true) := fun j hj h => by
          by_cases e : j = k
          · subst e; exact hv
          · exact HN.out j hj (by omega)
        go_wp2
        go_roundw
        case rel => exact ⟨k + 1, by omega, by go_num, HR.out, hB⟩
        case measure => simp [intOf]; omega
    · have HA : Hid (sm ts x base = fd x (clip base) ts) := sm_yes (allok_all (fun j hj => HN.out j hj (by omega)))
      have HB : Hid (Below w.heap.size w wr) := hB
      clear hB
      go_wp2
      go_loopw [7, 9] (fun q i wq => ∃ k : Nat, k ≤ ts.length ∧ i = .int .i64 k ∧ q = .int .i64 (fd x (clip base) (ts.take k)) ∧ Below w.heap.size w wq) (fun _ i _ => ts.length - (intOf i).toNat)
      case atStart => exact ⟨0, Nat.zero_le _, rfl, rfl, HB.out⟩
      case round =>
        obtain ⟨k, hk, rfl, rfl, hB⟩ := hrel
        by_cases hlt : k < ts.length
        · rcases ht.below hB with h0 | ⟨b, off, rfl, hb, hc⟩
          · rw [h0] at hlt; simp at hlt
          obtain ⟨v0, v1, ⟨cx0, cx1⟩, a0, c0, a1, c1, rfl, rfl, i0, i1⟩ := hc k hlt
          have hz : ts[k].sp.length + ts[k].lv.length ≤ szT ts := szT_at ts k hlt
          have HF : Hid (fd x (clip base) (ts.take (k + 1)) = fadd (fd x (clip base) (ts.take k)) (eval ts[k] x)) := fd_take hlt
          clear hc
          go_wp2_with fail
          refine (Tw.seval _ _ _ _ _ _ _ ts[k] x i0 i1 (hy.below hB) (by omega) hl').mono ?_
          rintro e w1 ⟨rfl, hB1⟩
          have hB := hB.trans (hB1.mono hB.size)
          clear hB1 cx0 cx1
          go_wp2_with (go_at_call 37; refine (sadd_any _ _ _).mono ?_; rintro e w' ⟨rfl, hw⟩; subst w')
          go_roundw
          case rel => exact ⟨k + 1, by omega, by go_num, by rw [HF.out], hB⟩
          case measure => simp [intOf]; omega
        · obtain rfl : k = ts.length := by omega
          have h0 : ts.take ts.length = ts := List.take_length
          have HR : Hid (sm ts x base = fd x (clip base) (ts.take ts.length)) := by show _ = _; rw [h0]; exact HA.out
          clear h0
          go_wp2
          go_ret
          exact ⟨by rw [HR.out]; rfl, hB⟩
set_option maxHeartbeats 2000000 in
theorem isum (w : World) (a ax : Option Addr) (c cx : Nat) (ts : List T) (x : List Int) (base : Int) (ht : IsT w a ts) (hy : Li.IsL w ax x) (hl : ts.length + szT ts ≤ 1048576) (hl' : x.length ≤ 1048576) :
    Calls Tryz.prog 21 #[.slice a ts.length c, .slice ax x.length cx, .int .i64 base] w fun e w' => e = .returned (.int .i64 (sm ts x base)) ∧ Below w.heap.size w w' := by
  go_enter Tryz.func21, Tryz.ntmps21
  go_wp2_with (go_at_call 39; refine (iadd_any _ _ _).mono ?_; rintro e w' ⟨rfl, hw⟩; subst w'; rw [fadd_zero])
  go_loopw [7, 14] (fun q i wr => ∃ k : Nat, k ≤ ts.length ∧ i = .int .i64 k ∧ q = .int .i64 (fd x (clip base) (ts.take k)) ∧ (∀ j (hj : j < ts.length), j < k → tok ts[j] = true) ∧ Below w.heap.size w wr) (fun _ i _ => ts.length - (intOf i).toNat)
  case atStart => exact ⟨0, Nat.zero_le _, rfl, rfl, fun j hj h => by omega, Below.refl _ _⟩
  case round =>
    obtain ⟨k, hk, rfl, rfl, hn, hB⟩ := hrel
    have HN : Hid (∀ j (hj : j < ts.length), j < k → tok ts[j] = true) := hn
    clear hn
    by_cases hlt : k < ts.length
    · rcases ht.below hB with h0 | ⟨b, off, rfl, hb, hc⟩
      · rw [h0] at hlt; simp at hlt
      obtain ⟨v0, v1, ⟨cx0, cx1⟩, a0, c0, a1, c1, rfl, rfl, i0, i1⟩ := hc k hlt
      have hz : ts[k].sp.length + ts[k].lv.length ≤ szT ts := szT_at ts k hlt
      have HF : Hid (fd x (clip base) (ts.take (k + 1)) = fadd (fd x (clip base) (ts.take k)) (eval ts[k] x)) := fd_take hlt
      clear hc
      go_wp2_with fail
      obtain ⟨W, hW, hsz, hb0, bx⟩ := boxes1 wr (.slice a0 ts[k].sp.length c0) (.slice a1 ts[k].lv.length c1) 57
      rw [hW]
      have i0 := i0.below hb0
      have i1 := i1.below hb0
      have hB := hB.trans (hb0.mono hB.size)
      clear hW hsz hb0
      refine (Tw.itok _ _ _ _ _ ts[k] i0 i1 (by omega)).mono ?_
      rintro e w1 ⟨rfl, hB1⟩
      have hB := hB.trans (hB1.mono hB.size)
      have bx := bx.below hB1
      have i0 := i0.below hB1
      have i1 := i1.below hB1
      clear hB1 cx0 cx1
      obtain ⟨hbl, ⟨cx0, cx1⟩, _⟩ := bx
      cases hv : tok ts[k] with
      | false =>
        have HR : Hid (sm ts x base = 0) := sm_no (allok_no hlt hv)
        go_wp2
        go_ret
        exact ⟨by rw [HR.out]; rfl, hB⟩
      | true =>
        have HR : Hid (∀ j (hj : j < ts.length), j < k + 1 → tok ts[j] = true) := fun j hj h => by
          by_cases e : j = k
          · subst e; exact hv
          · exact HN.out j hj (by omega)
        go_wp2_with fail
        refine (Tw.ieval _ _ _ _ _ _ _ ts[k] x i0 i1 (hy.below hB) (by omega) hl').mono ?_
        rintro e w2 ⟨rfl, hB1⟩
        have hB := hB.trans (hB1.mono hB.size)
        clear hB1
        go_wp2_with (go_at_call 39; refine (iadd_any _ _ _).mono ?_; rintro e w' ⟨rfl, hw⟩; subst w')
        go_roundw
        case rel => exact ⟨k + 1, by omega, by go_num, by rw [HF.out], HR.out, hB⟩
        case measure => simp [intOf]; omega
    · obtain rfl : k = ts.length := by omega
      have h0 : ts.take ts.length = ts := List.take_length
      have HR : Hid (sm ts x base = fd x (clip base) (ts.take ts.length)) := by show _ = _; rw [h0]; exact sm_yes (allok_all (fun j hj => HN.out j hj hj))
      clear h0
      go_wp2
      go_ret
      exact ⟨by rw [HR.out]; rfl, hB⟩
end Go.Proofs.YtcadgeepknhmfaaGreat.Sw
/-
  Which models are right: ModelOk of the program and of the model.
-/
namespace Go.Proofs.YtcadgeepknhmfaaGreat.Md
set_option maxRecDepth 20000
open Go.RowKit
open Go.Proofs.YtcadgeepknhmfaaGreat.Li (ret_bool btw below_none)
open Go.Proofs.YtcadgeepknhmfaaGreat.Tk (sok)
open Go.Proofs.YtcadgeepknhmfaaGreat.Bo (fok aok)
open Go.Proofs.YtcadgeepknhmfaaGreat.Wd (dictOf dictOf_len)
open Go.Proofs.YtcadgeepknhmfaaGreat.Tb (lets)
open Go.Proofs.YtcadgeepknhmfaaGreat.Tm (IsT szT)
open Go.Proofs.YtcadgeepknhmfaaGreat.Kt (Kv IsK ksz)
open Go.Proofs.YtcadgeepknhmfaaGreat.Sw (allok)
open Go.Proofs.YtcadgeepknhmfaaGreat.Sv (new1 Wr wr2)
set_option linter.unusedVariables false
def cwok (s : ByteArray) : Bool := decide (1 ≤ s.size ∧ s.size ≤ 25)
def kok (t : Kv) : Bool := decide (t.ws.length ≤ 40) && (decide (t.vs.length = t.ws.length) && (aok t.vs && (t.ws.all cwok && decide ((dictOf t.ws).length = t.ws.length))))
def ncol (c : Int) : Int := if c = 2 then 3 else c
def mok (m : M) : Bool := sok m.n m.c && (btw m.prior (-1000000) 1000000 && (fok m.base && (decide (m.ts.length ≤ 12) && (decide ((m.ks.length : Int) = ncol m.c) && (allok m.ts && m.ks.all kok)))))
theorem all_no {α : Type} {p : α → Bool} {xs : List α} {k : Nat} (hk : k < xs.length) (h : p xs[k] = false) : xs.all p = false := by
  rw [List.all_eq_false]; exact ⟨xs[k], List.getElem_mem hk, by simp [h]⟩
theorem all_yes {α : Type} {p : α → Bool} {xs : List α} (h : ∀ j (hj : j < xs.length), p xs[j] = true) : xs.all p = true := by
  rw [List.all_eq_true]; intro x hx; obtain ⟨j, hj, rfl⟩ := List.getElem_of_mem hx; exact h j hj
theorem cwok_btw (s : ByteArray) : btw (s.size : Int) 1 25 = cwok s := by
  unfold btw cwok; congr 1; apply propext; omega
theorem mok_parts {m : M} (h : mok m = true) : sok m.n m.c = true ∧ btw m.prior (-1000000) 1000000 = true ∧ fok m.base = true ∧ m.ts.length ≤ 12 ∧ (m.ks.length : Int) = ncol m.c ∧ allok m.ts = true ∧ m.ks.all kok = true := by
  simpa [mok] using h
theorem kok_parts {t : Kv} (h : kok t = true) : t.ws.length ≤ 40 ∧ t.vs.length = t.ws.length ∧ aok t.vs = true ∧ t.ws.all cwok = true ∧ (dictOf t.ws).length = t.ws.length := by
  simpa [kok] using h
theorem ks_at {m : M} (hl : m.sz ≤ 1048576) (k : Nat) (hk : k < m.ks.length) : m.ks[k].ws.length + lets m.ks[k].ws + m.ks[k].vs.length ≤ 1048576 := by
  have := Kt.ksz_at m.ks k hk
  unfold M.sz at hl
  omega
theorem ts_at {m : M} (hl : m.sz ≤ 1048576) (k : Nat) (hk : k < m.ts.length) : m.ts[k].sp.length + m.ts[k].lv.length ≤ 1048576 := by
  have := Tm.szT_at m.ts k hk
  unfold Tm.szt at this
  unfold M.sz at hl
  omega
set_option maxHeartbeats 400000 in
theorem scol (w : World) (n c : Int) : Calls Tryz.prog 53 #[.agg #[.int .i64 n, .int .i64 c]] w fun e w' => e = .returned (.int .i64 (ncol c)) ∧ Below w.heap.size w w' := by
  by_cases h : c = 2
  · subst h
    go_enter Tryz.func53, Tryz.ntmps53
    go_wp2
    go_ret
    exact ⟨rfl, (Below.refl _ _).alloc (Nat.le_refl _) _⟩
  · have HN : Hid (ncol c = c) := if_neg h
    have hb : (c == 2) = false := by simp [h]
    go_enter Tryz.func53, Tryz.ntmps53
    go_wp2
    go_ret
    exact ⟨by rw [HN.out]; rfl, (Below.refl _ _).alloc (Nat.le_refl _) _⟩
set_option maxHeartbeats 400000 in
theorem icw (w : World) (s : ByteArray) (hs : s.size ≤ 9223372036854775807) : Calls Tryz.prog 84 #[.string s] w fun e w' => e = .returned (.bool (cwok s)) ∧ w' = w := by
  go_enter Tryz.func84, Tryz.ntmps84
  go_wp2
  all_goals go_ret
  all_goals refine ⟨ret_bool ?_, rfl⟩
  all_goals unfold cwok
  all_goals first | (symm; simp; omega) | (rw [Bool.eq_iff_iff]; simp; omega)
set_option maxHeartbeats 4000000 in
theorem ikok (w : World) (a0 a1 : Option Addr) (c0 c1 : Nat) (t : Kv) (h0 : Ls.IsS w a0 t.ws) (h1 : Li.IsL w a1 t.vs) (hl : t.ws.length + lets t.ws + t.vs.length ≤ 1048576) :
    Calls Tryz.prog 73 #[.agg #[.slice a0 t.ws.length c0, .slice a1 t.vs.length c1]] w fun e w' => e = .returned (.bool (kok t)) ∧ Below w.heap.size w w' := by
  have hz : ∀ j (hj : j < t.ws.length), t.ws[j].size ≤ 1048576 := fun j hj => by have := Tb.lets_at t.ws j hj; omega
  obtain ⟨n, hn⟩ : ∃ n, t.ws.length = n := ⟨_, rfl⟩
  obtain ⟨q, hq⟩ : ∃ n, t.vs.length = n := ⟨_, rfl⟩
  by_cases g1 : n ≤ 40
  rotate_left
  · have HR : Hid (kok t = false) := by show _ = _; simp [kok, hn, g1]
    have g1' : (40 : Int) < n := by omega
    rw [hn, hq] at hl ⊢
    clear hz
    go_enter Tryz.func73, Tryz.ntmps73
    go_wp2
    go_ret
    exact ⟨ret_bool HR.out.symm, (Below.refl _ _).alloc (Nat.le_refl _) _⟩
  by_cases g2 : q = n
  rotate_left
  · have HR : Hid (kok t = false) := by show _ = _; simp [kok, hn, hq, g2]
    have g2' : ((q : Int) != (n : Int)) = true := by simp; omega
    have g1' : ¬ (40 : Int) < n := by omega
    rw [hn, hq] at hl ⊢
    clear hz
    go_enter Tryz.func73, Tryz.ntmps73
    go_wp2
    go_ret
    exact ⟨ret_bool HR.out.symm, (Below.refl _ _).alloc (Nat.le_refl _) _⟩
  have hqn : t.vs.length = t.ws.length := by omega
  have HQN : Hid (t.vs.length = t.ws.length) := hqn
  have g2' : ((n : Int) != (n : Int)) = false := by simp
  have g1' : ¬ (40 : Int) < n := by omega
  have HN : Hid (t.ws.length = n) := hn
  have HLL : Hid (t.vs.length ≤ 1048576) := by show _ ≤ _; omega
  have hl' : n ≤ 40 := g1
  rw [hqn, hn]
  clear hqn g2 hq hn hl
  go_enter Tryz.func73, Tryz.ntmps73
  go_wp2_with fail
  obtain ⟨W, hW, hsz, hB, bx⟩ := new1 w [.slice a0 n c0, .slice a1 n c1] 53
  rw [hW]
  clear hW hsz
  have hc := Bw.iall W a1 c1 t.vs (h1.below hB) HLL.out
  rw [HQN.out, HN.out] at hc
  refine hc.mono ?_
  rintro e w' ⟨rfl, hw⟩
  subst w'
  clear hc
  obtain ⟨hbl, ⟨x0, x1⟩, _⟩ := wr2 bx
  cases ha : aok t.vs with
  | false =>
    have HR : Hid (kok t = false) := by show _ = _; simp [kok, ha]
    go_wp2
    go_ret
    exact ⟨ret_bool HR.out.symm, hB⟩
  | true =>
  have HA : Hid (aok t.vs = true) := ha
  clear ha
  go_wp2
  go_loopw [27] (fun i wr => ∃ k : Nat, k ≤ n ∧ i = .int .i64 k ∧ (∀ j (hj : j < t.ws.length), j < k → cwok t.ws[j] = true) ∧ wr = W) (fun i _ => n - (intOf i).toNat)
  case atStart => exact ⟨0, Nat.zero_le _, rfl, fun j hj h => by omega, rfl⟩
  case round =>
    obtain ⟨k, hk, rfl, hall, hwr⟩ := hrel
    subst wr
    by_cases hlt : k < n
    · have hkl : k < t.ws.length := by rw [HN.out]; exact hlt
      rcases h0.below hB with e0 | ⟨sb, so, rfl, hsb, hsc⟩
      · rw [e0] at hkl; simp at hkl
      have d := hsc k hkl
      have hzk := hz k hkl
      have HALL : Hid (∀ j (hj : j < t.ws.length), j < k → cwok t.ws[j] = true) := hall
      have HNO : Hid (cwok t.ws[k] = false → kok t = false) := fun e => by simp [kok, all_no hkl e]
      have HYE : Hid (cwok t.ws[k] = true → ∀ j (hj : j < t.ws.length), j < k + 1 → cwok t.ws[j] = true) := fun e j hj h => by
        by_cases e' : j = k
        · subst e'; exact e
        · exact HALL.out j hj (by omega)
      obtain ⟨s, hs⟩ : ∃ s, t.ws[k] = s := ⟨_, rfl⟩
      rw [hs] at d hzk HNO HYE
      clear hsc hall hs
      go_wp2_with fail
      refine (icw _ s (by omega)).mono ?_
      rintro e w' ⟨rfl, hw⟩
      subst w'
      cases hcw : cwok s with
      | false =>
        have HR : Hid (kok t = false) := HNO.out hcw
        go_wp2
        go_ret
        exact ⟨ret_bool HR.out.symm, hB⟩
      | true =>
        have HR := HYE.out hcw
        have HR' : Hid (∀ j (hj : j < t.ws.length), j < k + 1 → cwok t.ws[j] = true) := HR
        clear HR
        go_wp2
        go_roundw
        case rel => exact ⟨k + 1, by omega, by go_num, HR'.out, by simp⟩
        case measure => simp [intOf]; omega
    · have hcw : t.ws.all cwok = true := all_yes (fun j hj => hall j hj (by have := HN.out; omega))
      have HV : Hid (kok t = decide ((dictOf t.ws).length = n)) := by
        show _ = _
        have e1 := HN.out
        have e2 := HQN.out
        simp [kok, HA.out, hcw, e1, e2, g1]
      have hdl : (dictOf t.ws).length ≤ 40 := by have := dictOf_len t.ws; have := HN.out; omega
      have hx := h0.below hB
      have HX : Hid (Ls.IsS W a0 t.ws) := hx
      have HZ : Hid (∀ j (hj : j < t.ws.length), t.ws[j].size ≤ 1048576) := hz
      have HB : Hid (Below w.heap.size w W) := hB
      have HBX : Hid (Wr W w.heap.size 0 [.slice a0 n c0, .slice a1 n c1]) := bx
      have HBD : Hid (Below W.heap.size W W.drew) := (Below.refl W.heap.size W).drew
      clear hall hcw hx h0 h1 hz hB bx
      go_wp2_with fail
      go_region_held3 (fun w' => w'.cell? ⟨w.heap.size, 0, none⟩ = some (.slice a0 n c0)) (go_keep) (first
        | (go_at_call 85
           have hc := Di.idict W.drew a0 c0 t.ws (HX.out.below HBD.out) (by have := HN.out; omega) HZ.out
           rw [HN.out] at hc
           refine hc.mono ?_
           rintro e w1 ⟨vd, rfl, od, hb⟩
           obtain ⟨ad, cd, rfl, _⟩ := od.iss
           have HY : Hid (Below W.heap.size W w1) := HBD.out.trans hb
           obtain ⟨_, ⟨y0, y1⟩, _⟩ := wr2 (HBX.out.below HY.out)
           clear hb hc od y1))
      have hB := HB.out.trans (HY.out.mono HB.out.size)
      clear HY
      go_wp2
      go_ret
      refine ⟨?_, hB⟩
      rw [HV.out]
      exact ret_bool (by rw [Bool.eq_iff_iff]; simp; omega)
set_option maxHeartbeats 2000000 in
theorem itrees (w : World) (a : Option Addr) (c : Nat) (ts : List Tr.T) (h : IsT w a ts) (hl : ts.length + szT ts ≤ 1048576) :
    Calls Tryz.prog 45 #[.slice a ts.length c] w fun e w' => e = .returned (.bool (decide (ts.length ≤ 12) && allok ts)) ∧ Below w.heap.size w w' := by
  by_cases g1 : ts.length ≤ 12
  rotate_left
  · have HR : Hid ((decide (ts.length ≤ 12) && allok ts) = false) := by show _ = _; simp [g1]
    have g1' : (12 : Int) < ts.length := by omega
    go_enter Tryz.func45, Tryz.ntmps45
    go_wp2
    go_ret
    exact ⟨ret_bool HR.out.symm, Below.refl _ _⟩
  have HD : Hid ((decide (ts.length ≤ 12) && allok ts) = allok ts) := by show _ = _; simp [g1]
  have g1' : ¬ (12 : Int) < ts.length := by omega
  go_enter Tryz.func45, Tryz.ntmps45
  go_wp2
  go_loopw [10] (fun i wr => ∃ k : Nat, k ≤ ts.length ∧ i = .int .i64 k ∧ (∀ j (hj : j < ts.length), j < k → Tr.tok ts[j] = true) ∧ Below w.heap.size w wr) (fun i _ => ts.length - (intOf i).toNat)
  case atStart => exact ⟨0, Nat.zero_le _, rfl, fun j hj h => by omega, Below.refl _ _⟩
  case round =>
    obtain ⟨k, hk, rfl, hall, hB⟩ := hrel
    by_cases hlt : k < ts.length
    · rcases h.below hB with e0 | ⟨b, off, rfl, hb, hc⟩
      · rw [e0] at hlt; simp at hlt
      obtain ⟨_, _, ⟨x0, x1⟩, a0, c0, a1, c1, rfl, rfl, i0, i1⟩ := hc k hlt
      have hz : ts[k].sp.length + ts[k].lv.length ≤ szT ts := Tm.szT_at ts k hlt
      have HNO : Hid (Tr.tok ts[k] = false → allok ts = false) := fun e => Sw.allok_no hlt e
      have HYE : Hid (Tr.tok ts[k] = true → ∀ j (hj : j < ts.length), j < k + 1 → Tr.tok ts[j] = true) := fun e j hj h => by
        by_cases e' : j = k
        · subst e'; exact e
        · exact hall j hj (by omega)
      obtain ⟨t, ht⟩ : ∃ t, ts[k] = t := ⟨_, rfl⟩
      rw [ht] at x0 x1 i0 i1 hz HNO HYE
      clear hc ht hall
      go_wp2_with fail
      obtain ⟨W, hW⟩ : ∃ W, wr.alloc (.cells #[.slice a0 t.sp.length c0, .slice a1 t.lv.length c1] 57) = W := ⟨_, rfl⟩
      have hbW : Below wr.heap.size wr W := by
        rw [← hW]; exact (Below.refl _ _).alloc (Nat.le_refl _) _
      rw [hW]
      clear hW
      refine (Tw.itok _ _ _ _ _ t (i0.below hbW) (i1.below hbW) (by omega)).mono ?_
      rintro e w1 ⟨rfl, hb1⟩
      have hB := hB.trans ((hbW.trans (hb1.mono hbW.size)).mono hB.size)
      clear hb1 hbW x0 x1 i0 i1
      cases htok : Tr.tok t with
      | false =>
        have HR : Hid (allok ts = false) := HNO.out htok
        go_wp2
        go_ret
        exact ⟨ret_bool (by rw [HD.out, HR.out]), hB⟩
      | true =>
        have HR := HYE.out htok
        have HR' : Hid (∀ j (hj : j < ts.length), j < k + 1 → Tr.tok ts[j] = true) := HR
        clear HR
        go_wp2
        go_roundw
        case rel => exact ⟨k + 1, by omega, by go_num, HR'.out, hB⟩
        case measure => simp [intOf]; omega
    · have HR : Hid (allok ts = true) := Sw.allok_all (fun j hj => hall j hj (by omega))
      clear hall
      go_wp2
      go_ret
      exact ⟨ret_bool (by rw [HD.out, HR.out]), hB⟩
theorem wcols_n {n c : Int} (h : sok n c = true) : ((Wc.wcols c []).length : Int) = ncol c := by
  obtain ⟨_, h1, h2⟩ := Tk.sok_iff.1 h
  unfold Wc.wcols ncol
  by_cases e : c = 2
  · simp [e, Wc.cats]
  · simp [e, Wc.cats]; omega
set_option maxHeartbeats 4000000 in
theorem ictrs (w : World) (n c : Int) (a : Option Addr) (ca : Nat) (ks : List Kv) (h : IsK w a ks) (hl : ks.length + ksz ks ≤ 1048576) (hs : sok n c = true) :
    Calls Tryz.prog 46 #[.agg #[.int .i64 n, .int .i64 c], .slice a ks.length ca] w fun e w' => e = .returned (.bool (decide ((ks.length : Int) = ncol c) && ks.all kok)) ∧ Below w.heap.size w w' := by
  have ht : Tk.tok n c [] = true := by simp [Tk.tok, hs]
  have HWN := wcols_n hs
  have HWN' : Hid (((Wc.wcols c []).length : Int) = ncol c) := HWN
  have hwl : (Wc.wcols c []).length ≤ 3 := by have := Tk.sok_iff.1 hs; unfold ncol at HWN; split at HWN <;> omega
  have HT : Hid (Tk.tok n c [] = true) := ht
  clear ht HWN hs
  go_enter Tryz.func46, Tryz.ntmps46
  go_wp2_with fail
  obtain ⟨W, hW, hsz, hB, bx⟩ := new1 w [.int .i64 n, .int .i64 c] 25
  rw [hW]
  clear hW hsz
  refine (Wc.iwc W n c none 0 [] (.inl rfl) (by simp [Tb.szR]) HT.out).mono ?_
  rintro e w1 ⟨v, rfl, ov, hb⟩
  obtain ⟨av, cv, rfl, _⟩ := ov.isc
  have hB := hB.trans (hb.mono hB.size)
  clear hb ov bx
  obtain ⟨L, hL⟩ : ∃ L, (Wc.wcols c []).length = L := ⟨_, rfl⟩
  rw [hL] at HWN' hwl ⊢
  clear hL
  by_cases g : ks.length = L
  rotate_left
  · have HR : Hid ((decide ((ks.length : Int) = ncol c) && ks.all kok) = false) := by
      show _ = _
      rw [← HWN'.out, decide_eq_false (by omega)]; rfl
    have g' : ((ks.length : Int) != (L : Int)) = true := by simp; omega
    clear g
    go_wp2
    go_ret
    exact ⟨ret_bool HR.out.symm, hB⟩
  have HD : Hid ((decide ((ks.length : Int) = ncol c) && ks.all kok) = ks.all kok) := by
    show _ = _
    rw [← HWN'.out, decide_eq_true (by omega)]; rfl
  have g' : ((ks.length : Int) != (L : Int)) = false := by simp; omega
  clear g
  go_wp2
  go_loopw [16] (fun i wr => ∃ k : Nat, k ≤ ks.length ∧ i = .int .i64 k ∧ (∀ j (hj : j < ks.length), j < k → kok ks[j] = true) ∧ Below w.heap.size w wr) (fun i _ => ks.length - (intOf i).toNat)
  case atStart => exact ⟨0, Nat.zero_le _, rfl, fun j hj h => by omega, hB⟩
  case round =>
    obtain ⟨k, hk, rfl, hall, hB⟩ := hrel
    clear g'
    by_cases hlt : k < ks.length
    · rcases h.below hB with e0 | ⟨b, off, rfl, hb, hc⟩
      · rw [e0] at hlt; simp at hlt
      obtain ⟨a0, c0, a1, c1, ⟨x0, x1⟩, i0, i1⟩ := hc k hlt
      have hz := Kt.ksz_at ks k hlt
      have HNO : Hid (kok ks[k] = false → ks.all kok = false) := fun e => all_no hlt e
      have HYE : Hid (kok ks[k] = true → ∀ j (hj : j < ks.length), j < k + 1 → kok ks[j] = true) := fun e j hj h => by
        by_cases e' : j = k
        · subst e'; exact e
        · exact hall j hj (by omega)
      obtain ⟨t, ht⟩ : ∃ t, ks[k] = t := ⟨_, rfl⟩
      rw [ht] at x0 x1 i0 i1 hz HNO HYE
      clear hc ht hall
      go_wp2_with fail
      obtain ⟨W, hW⟩ : ∃ W, wr.alloc (.cells #[.slice a0 t.ws.length c0, .slice a1 t.vs.length c1] 53) = W := ⟨_, rfl⟩
      have hbW : Below wr.heap.size wr W := by
        rw [← hW]; exact (Below.refl _ _).alloc (Nat.le_refl _) _
      rw [hW]
      clear hW
      refine (ikok _ _ _ _ _ t (i0.below hbW) (i1.below hbW) (by omega)).mono ?_
      rintro e w2 ⟨rfl, hb1⟩
      have hB := hB.trans ((hbW.trans (hb1.mono hbW.size)).mono hB.size)
      clear hb1 hbW x0 x1 i0 i1
      cases htok : kok t with
      | false =>
        have HR : Hid (ks.all kok = false) := HNO.out htok
        go_wp2
        go_ret
        exact ⟨ret_bool (by rw [HD.out, HR.out]), hB⟩
      | true =>
        have HR := HYE.out htok
        have HR' : Hid (∀ j (hj : j < ks.length), j < k + 1 → kok ks[j] = true) := HR
        clear HR
        go_wp2
        go_roundw
        case rel => exact ⟨k + 1, by omega, by go_num, HR'.out, hB⟩
        case measure => simp [intOf]; omega
    · have HR : Hid (ks.all kok = true) := all_yes (fun j hj => hall j hj (by omega))
      clear hall
      go_wp2
      go_ret
      exact ⟨ret_bool (by rw [HD.out, HR.out]), hB⟩
set_option maxHeartbeats 4000000 in
theorem imok (w : World) (ak ax : Option Addr) (ck ct : Nat) (m : M) (h : Rm w ak ax m) (hl : m.sz ≤ 1048576) :
    Calls Tryz.prog 22 #[.agg #[.int .i64 m.n, .int .i64 m.c, .int .i64 m.prior, .int .i64 m.base, .slice ak m.ks.length ck, .slice ax m.ts.length ct]] w fun e w' => e = .returned (.bool (mok m)) ∧ Below w.heap.size w w' := by
  have HL : Hid (m.ks.length + ksz m.ks ≤ 1048576 ∧ m.ts.length + szT m.ts ≤ 1048576) := by unfold M.sz at hl; exact ⟨by omega, by omega⟩
  clear hl
  go_enter Tryz.func22, Tryz.ntmps22
  go_wp2_with fail
  obtain ⟨W, hW, hsz, hB, bx⟩ := new1 w [.int .i64 m.n, .int .i64 m.c, .int .i64 m.prior, .int .i64 m.base, .slice ak m.ks.length ck, .slice ax m.ts.length ct] 29
  rw [hW]
  clear hW hsz
  refine (Tk.isch _ _ _).mono ?_
  rintro e w1 ⟨rfl, hb⟩
  have bx := bx.below hb
  have hB := hB.trans (hb.mono hB.size)
  clear hb
  obtain ⟨_, ⟨x0, x1, x2, x3, x4, x5⟩, _⟩ := wr6 bx
  cases h1 : sok m.n m.c with
  | false =>
    have HR : Hid (mok m = false) := by show _ = _; simp [mok, h1]
    go_wp2
    go_ret
    exact ⟨ret_bool HR.out.symm, hB⟩
  | true =>
  have H1 : Hid (sok m.n m.c = true) := h1
  clear h1
  go_wp2_with fail
  refine (Cf.iprior _ _).mono ?_
  rintro e w' ⟨rfl, hw⟩
  subst w'
  cases h2 : btw m.prior (-1000000) 1000000 with
  | false =>
    have HR : Hid (mok m = false) := by show _ = _; simp [mok, h2]
    go_wp2
    go_ret
    exact ⟨ret_bool HR.out.symm, hB⟩
  | true =>
  have H2 : Hid (btw m.prior (-1000000) 1000000 = true) := h2
  clear h2
  go_wp2_with fail
  refine (Bw.iok _ _).mono ?_
  rintro e w' ⟨rfl, hw⟩
  subst w'
  cases h3 : fok m.base with
  | false =>
    have HR : Hid (mok m = false) := by show _ = _; simp [mok, h3]
    go_wp2
    go_ret
    exact ⟨ret_bool HR.out.symm, hB⟩
  | true =>
  have H3 : Hid (fok m.base = true) := h3
  clear h3
  go_wp2_with fail
  refine (itrees _ _ _ m.ts (h.t.below hB) HL.out.2).mono ?_
  rintro e w2 ⟨rfl, hb⟩
  have bx := bx.below hb
  have hB := hB.trans (hb.mono hB.size)
  clear hb x0 x1 x2 x3 x4 x5
  obtain ⟨_, ⟨x0, x1, x2, x3, x4, x5⟩, _⟩ := wr6 bx
  cases h4 : (decide (m.ts.length ≤ 12) && allok m.ts) with
  | false =>
    have HR : Hid (mok m = false) := by
      show _ = _
      unfold mok
      rw [Bool.and_eq_false_iff] at h4
      rcases h4 with h4 | h4 <;> simp [h4] 
    go_wp2
    go_ret
    exact ⟨ret_bool HR.out.symm, hB⟩
  | true =>
  have HR : Hid (mok m = (decide ((m.ks.length : Int) = ncol m.c) && m.ks.all kok)) := by
    show _ = _
    rw [Bool.and_eq_true] at h4
    unfold mok
    rw [H1.out, H2.out, H3.out, h4.1, h4.2]
    simp
  clear h4
  go_wp2_with fail
  refine (ictrs _ _ _ _ _ m.ks (h.k.below hB) HL.out.1 H1.out).mono ?_
  rintro e w3 ⟨rfl, hb⟩
  have hB := hB.trans (hb.mono hB.size)
  clear hb x0 x1 x2 x3 x4 x5
  go_wp2
  go_ret
  exact ⟨ret_bool HR.out.symm, hB⟩
end Go.Proofs.YtcadgeepknhmfaaGreat.Md
/-
  What the features of a row are, and the program's: rowWords, wordNumber, featuresOf, tellable, Features.
-/
namespace Go.Proofs.YtcadgeepknhmfaaGreat.Md
set_option maxRecDepth 20000
open Go.RowKit
open Go.Proofs.YtcadgeepknhmfaaGreat.Li (ret_bool ret_int btw below_none iv)
open Go.Proofs.YtcadgeepknhmfaaGreat.Tk (sok)
open Go.Proofs.YtcadgeepknhmfaaGreat.Bo (fok aok)
open Go.Proofs.YtcadgeepknhmfaaGreat.Wd (idOf idOf_lo idOf_hi paired pr)
open Go.Proofs.YtcadgeepknhmfaaGreat.Tb (lets Row RowIs)
open Go.Proofs.YtcadgeepknhmfaaGreat.Tm (IsT szT)
open Go.Proofs.YtcadgeepknhmfaaGreat.Kt (Kv IsK ksz)
open Go.Proofs.YtcadgeepknhmfaaGreat.Sv (new1 new2 Wr wr2)
open Go.Proofs.YtcadgeepknhmfaaGreat.Ad (clip)
set_option linter.unusedVariables false
def wds (cats : List ByteArray) : List ByteArray := if cats.length = 2 then cats ++ paired (cats.take 1) (cats.drop 1) else cats
def wnum (t : Kv) (s : ByteArray) (p : Int) : Int := if idOf t.ws s < 0 then p else t.vs.getD (idOf t.ws s).toNat 0
def fl (m : M) (r : Row) : List Int := r.nums.map clip ++ List.zipWith (fun t s => wnum t s m.prior) m.ks (wds r.cats)
def pad (l : List Int) : List Int := l ++ List.replicate (6 - l.length) 0
def fits (m : M) (r : Row) : Bool := mok m && (decide ((r.nums.length : Int) = m.n) && decide ((r.cats.length : Int) = m.c))
def feats (m : M) (r : Row) : List Int := if fits m r = true then pad (fl m r) else []
theorem feats_no {m : M} {r : Row} (h : fits m r = false) : feats m r = [] := by unfold feats; rw [if_neg (by rw [h]; simp)]
theorem feats_yes {m : M} {r : Row} (h : fits m r = true) : feats m r = pad (fl m r) := by unfold feats; rw [if_pos h]
theorem wds_len (cats : List ByteArray) (h : cats.length ≤ 2) : ((wds cats).length : Int) = ncol cats.length := by
  unfold wds ncol
  by_cases e : cats.length = 2
  · rw [if_pos e, if_pos (by omega), List.length_append, Pa.paired_len (by simp; omega)]
    simp
    omega
  · rw [if_neg e, if_neg (by omega)]
theorem pad_length {l : List Int} (h : l.length ≤ 6) : (pad l).length = 6 := by simp [pad]; omega
theorem pad_nil : pad [] = List.replicate 6 0 := rfl
theorem pad_set (l : List Int) (x : Int) (h : l.length < 6) : (pad l).set l.length x = pad (l ++ [x]) := by
  unfold pad
  rw [List.set_append_right _ _ (Nat.le_refl _)]
  obtain ⟨n, hn⟩ : ∃ n, 6 - l.length = n + 1 := ⟨5 - l.length, by omega⟩
  rw [hn, Nat.sub_self, List.replicate_succ, List.set_cons_zero]
  simp
  omega
theorem pad_step (F : List Int) (j : Nat) (h : j < F.length) (h6 : F.length ≤ 6) : (pad (F.take j)).set j F[j] = pad (F.take (j + 1)) := by
  have e : (F.take j).length = j := by simp; omega
  have := pad_set (F.take j) F[j] (by omega)
  rw [e] at this
  rw [this, List.take_succ_eq_append_getElem h]
structure Fit (m : M) (r : Row) : Prop where
  ok : mok m = true
  n : (r.nums.length : Int) = m.n
  c : (r.cats.length : Int) = m.c
  n3 : r.nums.length ≤ 3
  c2 : r.cats.length ≤ 2
  kl : m.ks.length = (wds r.cats).length
  w3 : (wds r.cats).length ≤ 3
theorem fits_fit {m : M} {r : Row} (h : fits m r = true) : Fit m r := by
  simp only [fits, Bool.and_eq_true, decide_eq_true_eq] at h
  obtain ⟨h0, h1, h2⟩ := h
  obtain ⟨s, _, _, _, hk, _⟩ := mok_parts h0
  obtain ⟨⟨n0, n3⟩, c0, c2⟩ := Tk.sok_iff.1 s
  have hc2 : r.cats.length ≤ 2 := by omega
  have hw := wds_len r.cats hc2
  have h3 : (wds r.cats).length ≤ 3 := by unfold ncol at hw; split at hw <;> omega
  exact ⟨h0, h1, h2, by omega, hc2, by rw [h2] at hw; omega, h3⟩
theorem Fit.len {m : M} {r : Row} (h : Fit m r) : (fl m r).length = r.nums.length + (wds r.cats).length := by
  simp [fl, h.kl]
theorem Fit.le {m : M} {r : Row} (h : Fit m r) : (fl m r).length ≤ 6 := by rw [h.len]; have := h.n3; have := h.w3; omega
theorem Fit.num {m : M} {r : Row} (h : Fit m r) (k : Nat) (hk : k < r.nums.length) (hk' : k < (fl m r).length) : (fl m r)[k] = clip r.nums[k] := by
  simp [fl, hk]
theorem Fit.word {m : M} {r : Row} (h : Fit m r) (k : Nat) (hk : k < (wds r.cats).length) (hk' : r.nums.length + k < (fl m r).length) : (fl m r)[r.nums.length + k] = wnum (m.ks[k]'(by rw [h.kl]; exact hk)) (wds r.cats)[k] m.prior := by
  simp [fl]
theorem Fit.all {m : M} {r : Row} (h : Fit m r) : (fl m r).take (r.nums.length + (wds r.cats).length) = fl m r := by rw [← h.len]; exact List.take_length
theorem feats_len (m : M) (r : Row) : (feats m r).length ≤ 6 := by
  by_cases h : fits m r = true
  · rw [feats_yes h, pad_length (fits_fit h).le]; omega
  · rw [feats_no (by simpa using h)]; simp
theorem Fit.kok {m : M} {r : Row} (h : Fit m r) (k : Nat) (hk : k < m.ks.length) : kok m.ks[k] = true := by
  have := (mok_parts h.ok).2.2.2.2.2.2
  rw [List.all_eq_true] at this
  exact this _ (List.getElem_mem hk)
set_option maxHeartbeats 1000000 in
theorem iwnum (w : World) (a0 a1 : Option Addr) (c0 c1 : Nat) (t : Kv) (s : ByteArray) (p : Int) (h0 : Ls.IsS w a0 t.ws) (h1 : Li.IsL w a1 t.vs) (hl : t.ws.length ≤ 40) (hv : t.vs.length = t.ws.length) :
    Calls Tryz.prog 35 #[.agg #[.slice a0 t.ws.length c0, .slice a1 t.vs.length c1], .string s, .int .i64 p] w fun e w' => e = .returned (.int .i64 (wnum t s p)) ∧ Below w.heap.size w w' := by
  have HV : Hid (t.vs.length = t.ws.length) := hv
  rw [hv]
  clear hv
  go_enter Tryz.func35, Tryz.ntmps35
  go_wp2_with fail
  obtain ⟨W, hW, hsz, hB, bx⟩ := new1 w [.slice a0 t.ws.length c0, .slice a1 t.ws.length c1] 53
  rw [hW]
  clear hW hsz
  refine (Di.iid _ _ _ t.ws s (h0.below hB) (by omega)).mono ?_
  rintro e w1 ⟨rfl, hb⟩
  have bx := bx.below hb
  have hB := hB.trans (hb.mono hB.size)
  have hlo := idOf_lo t.ws s
  have hhi := idOf_hi t.ws s
  have HW : Hid (wnum t s p = if idOf t.ws s < 0 then p else t.vs.getD (idOf t.ws s).toNat 0) := rfl
  obtain ⟨i, hi⟩ : ∃ i, idOf t.ws s = i := ⟨_, rfl⟩
  rw [hi] at hlo hhi HW ⊢
  clear hb hi
  obtain ⟨_, ⟨x0, x1⟩, _⟩ := wr2 bx
  by_cases hn : i < 0
  · have HR : Hid (wnum t s p = p) := by show _ = _; rw [HW.out, if_pos hn]
    go_wp2
    go_ret
    exact ⟨ret_int HR.out.symm, hB⟩
  · obtain ⟨k, rfl⟩ : ∃ k : Nat, i = (k : Int) := ⟨i.toNat, by omega⟩
    have hk : k < t.vs.length := by have := HV.out; omega
    have HR : Hid (wnum t s p = t.vs[k]) := by
      show _ = _
      rw [HW.out, if_neg hn]
      simp [List.getD_eq_getElem?_getD, hk]
    rcases h1.below hB with e0 | ⟨vb, vo, rfl, hvb, hvc⟩
    · rw [e0] at hk; simp at hk
    have d := hvc k hk
    obtain ⟨x, hx⟩ : ∃ x, t.vs[k] = x := ⟨_, rfl⟩
    rw [hx] at d HR
    clear hvc hx
    have hk' : (k : Int) < t.ws.length := by omega
    go_wp2
    go_ret
    exact ⟨ret_int HR.out.symm, hB⟩
theorem cloneS (w : World) (a : Option Addr) (c : Nat) (ws : List ByteArray) (h : Ls.IsS w a ws) (hl : ws.length ≤ 1048576) :
    Calls Tryz.prog 62 #[.slice a ws.length c] w fun e w' => ∃ v, e = .returned v ∧ Ls.Own w' w.heap.size v ws ∧ Below w.heap.size w w' := by
  cases a with
  | none =>
    have h0 : ws = [] := by
      rcases h with h | ⟨b, off, e, _⟩
      · exact h
      · cases e
    subst h0
    refine (Tryz.slices_Clone_string_nil _ _ _).mono ?_
    rintro e w' ⟨rfl, rfl⟩
    exact ⟨_, rfl, Ls.Own.nil _ _, Below.refl _ _⟩
  | some x =>
    rcases h with rfl | ⟨b, off, e, hb, hc⟩
    · refine (Tryz.slices_Clone_string_zero x c w).mono ?_
      rintro e w' ⟨v, rfl, ho, _, hB⟩
      exact ⟨v, rfl, ho, hB⟩
    · cases e
      refine (Tryz.slices_Clone_string b off ws.length c ws w (Nat.le_refl _) (by omega) (fun j hj => by rw [hc j hj]; simp [List.getD_eq_getElem?_getD, hj])).mono ?_
      rintro e w' ⟨v, rfl, ho, _, hB⟩
      refine ⟨v, rfl, ?_, hB⟩
      rw [List.take_length] at ho
      exact ho
theorem iss_take {w : World} {a : Option Addr} {ws : List ByteArray} (h : Ls.IsS w a ws) (n : Nat) : Ls.IsS w a (ws.take n) := by
  rcases h with rfl | ⟨b, off, rfl, hb, hc⟩
  · exact .inl (by simp)
  · refine .inr ⟨b, off, rfl, hb, fun j hj => ?_⟩
    rw [hc j (by simp at hj; omega)]
    simp
theorem iss_drop {w : World} {b off : Nat} {ws : List ByteArray} (h : Ls.IsS w (some ⟨b, off, none⟩) ws) (n : Nat) : Ls.IsS w (some ⟨b, off + n, none⟩) (ws.drop n) := by
  rcases h with rfl | ⟨b', off', e, hb, hc⟩
  · exact .inl (by simp)
  · cases e
    refine .inr ⟨b, off + n, rfl, hb, fun j hj => ?_⟩
    rw [Nat.add_assoc, hc (n + j) (by simp at hj; omega)]
    simp
set_option maxHeartbeats 2000000 in
theorem irw (w : World) (a : Option Addr) (c : Nat) (ws : List ByteArray) (h : Ls.IsS w a ws) (hl : ws.length ≤ 2) (hlc : ws.length ≤ c) (hz : ∀ j (hj : j < ws.length), ws[j].size ≤ 1048576) :
    Calls Tryz.prog 34 #[.slice a ws.length c] w fun e w' => ∃ a' c', e = .returned (.slice a' (wds ws).length c') ∧ Ls.Own w' w.heap.size (.slice a' (wds ws).length c') (wds ws) ∧ Below w.heap.size w w' := by
  obtain ⟨i0, hi, hz0, hz1, hz2⟩ := info_parts Ls.info_str
  by_cases e2 : ws.length = 2
  rotate_left
  · have HW : Hid (wds ws = ws) := if_neg e2
    have hb : ((ws.length : Int) == 2) = false := by simp; omega
    go_enter Tryz.func34, Tryz.ntmps34
    go_wp2_with fail
    refine (cloneS _ _ _ ws h (by omega)).mono ?_
    rintro e w1 ⟨v, rfl, ov, hB⟩
    obtain ⟨a', c', rfl, i'⟩ := ov.iss
    have HI : Hid (Ls.Own w1 w.heap.size (.slice a' ws.length c') ws) := ov
    clear ov i'
    go_wp2
    go_ret
    refine ⟨a', c', ?_, ?_, hB⟩
    · rw [HW.out]; rfl
    · rw [HW.out]; exact HI.out
  · have HW : Hid (wds ws = ws ++ paired (ws.take 1) (ws.drop 1)) := if_pos e2
    have hp : (paired (ws.take 1) (ws.drop 1)).length = 1 := by rw [Pa.paired_len (by simp; omega)]; simp; omega
    obtain ⟨ps, hps⟩ : ∃ ps, paired (ws.take 1) (ws.drop 1) = ps := ⟨_, rfl⟩
    have HPS : Hid (paired (ws.take 1) (ws.drop 1) = ps) := hps
    have HPL : Hid (ps.length = 1) := by rw [← hps]; exact hp
    rw [hps] at HW
    have HE : Hid (ws.length = 2) := e2
    have HT : Hid ((ws.take 1).length = 1 ∧ (ws.drop 1).length = 1) := ⟨by simp; omega, by simp; omega⟩
    have HZT : Hid (∀ j (hj : j < (ws.take 1).length), (ws.take 1)[j].size ≤ 1048576) := fun j hj => by simp only [List.getElem_take]; exact hz _ _
    have HZD : Hid (∀ j (hj : j < (ws.drop 1).length), (ws.drop 1)[j].size ≤ 1048576) := fun j hj => by simp only [List.getElem_drop]; exact hz _ _
    have hcl := cloneS w a c ws h (by omega)
    rw [e2] at hcl
    rcases h with h0 | ⟨b, off, rfl, hb, hc⟩
    · rw [h0] at e2; simp at e2
    have HS : Hid (Ls.IsS w (some ⟨b, off, none⟩) ws) := .inr ⟨b, off, rfl, hb, hc⟩
    rw [e2] at hlc
    rw [e2]
    have hc1 : (1 : Int) ≤ c := by omega
    have hc2 : ¬ c = 1 := by omega
    have hc3 : ¬ c ≤ 1 := by omega
    clear hps hp e2 hc hz hl hb
    go_enter Tryz.func34, Tryz.ntmps34
    go_wp2_with fail
    refine hcl.mono ?_
    rintro e w1 ⟨v, rfl, ov, hB⟩
    have HV : Hid (Ls.Own w1 w.heap.size v ws) := ov
    have HB : Hid (Below w.heap.size w w1) := hB
    obtain ⟨a', c', ev, _⟩ := ov.iss
    rw [HE.out] at ev
    subst ev
    clear hcl ov hB
    go_wp2_with fail
    go_region_held3 (fun _ => True) (trivial) (first
      | (go_at_call 63
         have hcall := Pa.ipair w1.drew (some ⟨b, off, none⟩) (some ⟨b, off + 1, none⟩) c (c - 1) (ws.take 1) (ws.drop 1) (iss_take (HS.out.below (HB.out.drew)) 1) (iss_drop (HS.out.below (HB.out.drew)) 1) (by have := HT.out.1; omega) (by have := HT.out.2; omega) HZT.out HZD.out
         rw [HT.out.1, HT.out.2, HPS.out] at hcall
         refine hcall.mono ?_
         rintro e w2 ⟨vp, rfl, op, hb⟩
         obtain ⟨ap, cp, ep, ip⟩ := op.iss
         rw [HPL.out] at ep
         subst ep
         have HY : Hid (Below w1.heap.size w1 w2) := ((Below.refl w1.heap.size w1).drew).trans hb
         have HIP : Hid (Ls.IsS w2 ap ps) := ip
         have HV2 : Hid (Ls.Own w2 w.heap.size (.slice a' 2 c') ws) := HV.out.below HY.out
         have HSZ : Hid (w.heap.size ≤ w2.heap.size) := Nat.le_trans HB.out.size HY.out.size
         obtain ⟨pb, po, hap⟩ : ∃ pb po, ap = some ⟨pb, po, none⟩ := by
           rcases HIP.out with h0 | ⟨pb, po, e, _⟩
           · have := HPL.out; rw [h0] at this; simp at this
           · exact ⟨pb, po, e⟩
         subst hap
         have HNW : Hid (∀ j u, (Ls.sv ps)[j]? = some u → w2.cell? ((⟨pb, po, none⟩ : Addr).add j) = some u) := fun j u hj => by
           rcases HIP.out with h0 | ⟨_, _, e, _, hc⟩
           · rw [h0] at hj; simp [Ls.sv] at hj
           · cases e
             have hjl : j < ps.length := by
               apply Classical.byContradiction
               intro hn
               rw [List.getElem?_eq_none (by rw [Ls.sv_length]; omega)] at hj
               cases hj
             rw [Ls.sv_get ps j hjl] at hj
             rw [Go.WideShapes.add_plain, hc j hjl, hj]
         clear hb hcall op ip)
      | (refine step_append_lies _ rfl _ _ 31 rfl w.heap.size 9 i0 (.string ⟨#[]⟩) 1 16 Tryz.underlying31 hi hz0 hz1 hz2 rfl (by decide) (.slice a' 2 c') 2 (Ls.sv ws) rfl (by have := HV2.out; unfold Ls.Own at this; rw [HE.out] at this; exact this) ⟨pb, po, none⟩ 1 cp (Ls.sv ps) rfl (by rw [Ls.sv_length, HPL.out]) HNW.out (Ls.sv_one _) (by decide) (by unfold maxLen; omega) (by omega) HSZ.out _ rfl ?_
         intro g cap w3 hown hgrow hloc hgl
         have HOW : Hid (Ls.Own w3 w.heap.size (.slice (some ⟨g, 0, none⟩) (2 + 1) cap) (wds ws)) := by
           show w3.ownsRow _ _ _ _ _ _
           rw [HW.out, List.length_append, HE.out, HPL.out, ← Ls.sv_append]
           exact hown
         have HB3 : Hid (Below w.heap.size w w3) := (HB.out.trans (HY.out.mono HB.out.size)).trans ⟨hgrow.os, hgrow.tape, hgrow.output, hgrow.size, fun k hk => hgrow.block k (by have := HSZ.out; omega) (fun e => by have := (HV2.out.ge k e.symm).1; omega)⟩
         clear hown hgrow hloc hgl))
    have HWL : Hid ((wds ws).length = 3) := by show _ = _; rw [HW.out, List.length_append, HE.out, HPL.out]
    go_wp2
    go_ret
    refine ⟨some ⟨g, 0, none⟩, cap, ?_, ?_, HB3.out⟩
    · rw [HWL.out]; rfl
    · rw [HWL.out]; exact HOW.out
def RowC (w : World) (v0 v1 v2 : Value) (r : Row) : Prop := ∃ a0 c0 a1 c1, v0 = .slice a0 r.nums.length c0 ∧ v1 = .slice a1 r.cats.length c1 ∧ v2 = .int .i64 r.label ∧ Li.IsL w a0 r.nums ∧ Ls.IsS w a1 r.cats ∧ r.cats.length ≤ c1
theorem RowC.below {w w1 : World} {v0 v1 v2 : Value} {r : Row} (h : RowC w v0 v1 v2 r) (hb : Below w.heap.size w w1) : RowC w1 v0 v1 v2 r := by
  obtain ⟨a0, c0, a1, c1, e0, e1, e2, i0, i1, hc⟩ := h
  exact ⟨a0, c0, a1, c1, e0, e1, e2, i0.below hb, i1.below hb, hc⟩
theorem RowC.row {w : World} {v0 v1 v2 : Value} {r : Row} (h : RowC w v0 v1 v2 r) : RowIs w v0 v1 v2 r := by
  obtain ⟨a0, c0, a1, c1, e0, e1, e2, i0, i1, hc⟩ := h
  exact ⟨a0, c0, a1, c1, e0, e1, e2, i0, i1⟩
theorem own_cap {w : World} {b : Nat} {v : Value} {xs : List ByteArray} (h : Ls.Own w b v xs) : ∃ a c, v = .slice a xs.length c ∧ xs.length ≤ c ∧ Ls.IsS w a xs := by
  obtain ⟨a, c, e, i⟩ := h.iss
  refine ⟨a, c, e, ?_, i⟩
  subst e
  rcases h.2 with ⟨e, h0⟩ | ⟨g, cap, cur, e, _, _, hc, _⟩
  · omega
  · injection e with _ _ e; omega
theorem OwR.rowc {w : World} {B : Nat → Prop} {u0 u1 : Value} {r : Row} (h : OwR w B u0 u1 r) : RowC w u0 u1 (.int .i64 r.label) r := by
  obtain ⟨⟨b0, h0⟩, ⟨b1, h1⟩, _⟩ := h
  obtain ⟨a0, c0, e0, i0⟩ := h0.isl
  obtain ⟨a1, c1, e1, hc, i1⟩ := own_cap h1
  exact ⟨a0, c0, a1, c1, e0, e1, rfl, i0, i1, hc⟩
set_option maxHeartbeats 4000000 in
theorem ifeat (w : World) (ak ax : Option Addr) (ck ct : Nat) (m : M) (h : Rm w ak ax m) (v0 v1 v2 : Value) (r : Row) (hr : RowC w v0 v1 v2 r) (hz : r.sz ≤ 1048576) (hf : Fit m r) :
    Calls Tryz.prog 19 #[.agg #[.int .i64 m.n, .int .i64 m.c, .int .i64 m.prior, .int .i64 m.base, .slice ak m.ks.length ck, .slice ax m.ts.length ct], .agg #[v0, v1, v2]] w fun e w' => ∃ v, e = .returned v ∧ Li.Own w' w.heap.size v (pad (fl m r)) ∧ Below w.heap.size w w' := by
  obtain ⟨i0, hi, hz0, hz1, hz2⟩ := info_parts Li.info_int
  obtain ⟨a0, c0, a1, c1, rfl, rfl, rfl, j0, j1, hcap⟩ := hr
  have hzs : ∀ j (hj : j < r.cats.length), r.cats[j].size ≤ 1048576 := fun j hj => by have := Tb.lets_at r.cats j hj; unfold Row.sz at hz; omega
  have HF : Hid (Fit m r) := hf
  have hn3 := hf.n3
  have hc2 := hf.c2
  have hw3 := hf.w3
  obtain ⟨W, hW, hsz, hB, bm, bs⟩ := new2 w [.int .i64 m.n, .int .i64 m.c, .int .i64 m.prior, .int .i64 m.base, .slice ak m.ks.length ck, .slice ax m.ts.length ct] [.slice a0 r.nums.length c0, .slice a1 r.cats.length c1, .int .i64 r.label] 29 33
  have HW : Hid (type_of% hW) := hW
  have HSZ : Hid (W.heap.size = w.heap.size + 2) := hsz
  clear hW hf hz hsz
  go_enter Tryz.func19, Tryz.ntmps19
  go_wp2_with (at_make; rw [HW.out]; refine wpList_make_full _ rfl _ _ 30 rfl W.heap.size 3 i0 (.int .i64 0) 1 Tryz.underlying30 hi hz0 hz1 _ _ _ _ 6 rfl rfl (by omega) (by omega) (by rw [hz2]; omega) (by unfold maxLen; omega) (Nat.le_refl _) ?_; intro w1 hown hgrow; have hb1 := below_none hgrow; obtain ⟨_, ⟨y0, y1, y2⟩, _⟩ := wr3 (bs.below hb1))
  have ol := Li.own_made hown
  have bm := bm.below hb1
  have bs := bs.below hb1
  have hB := hB.trans (hb1.mono hB.size)
  have HWG : Hid (w.heap.size + 2 = W.heap.size) := HSZ.out.symm
  obtain ⟨G, hG⟩ : ∃ G, W.heap.size = G := ⟨_, rfl⟩
  rw [hG] at ol HWG ⊢
  rw [← pad_nil, ← List.take_zero (l := fl m r)] at ol
  clear hown hgrow hb1 hG HSZ HW
  go_loopw [14] (fun i wr => ∃ k : Nat, k ≤ r.nums.length ∧ i = .int .i64 k ∧ Li.Own wr G (.slice (some ⟨G, 0, none⟩) 6 6) (pad ((fl m r).take k)) ∧ Wr wr w.heap.size 0 [.int .i64 m.n, .int .i64 m.c, .int .i64 m.prior, .int .i64 m.base, .slice ak m.ks.length ck, .slice ax m.ts.length ct] ∧ Wr wr (w.heap.size + 1) 0 [.slice a0 r.nums.length c0, .slice a1 r.cats.length c1, .int .i64 r.label] ∧ Below w.heap.size w wr) (fun i _ => r.nums.length - (intOf i).toNat)
  case atStart => exact ⟨0, Nat.zero_le _, rfl, ol, bm, bs, hB⟩
  case round =>
    clear ol bm bs hB y0 y1 y2
    obtain ⟨k, hk, rfl, ol, bm, bs, hB⟩ := hrel
    have hpl : (pad ((fl m r).take k)).length = 6 := pad_length (by have := HF.out.le; simp; omega)
    have HPL : Hid ((pad ((fl m r).take k)).length = 6) := hpl
    clear hpl
    by_cases hlt : k < r.nums.length
    · rcases j0.below hB with e0 | ⟨nb, no, rfl, hnb, hnc⟩
      · rw [e0] at hlt; simp at hlt
      have d := hnc k hlt
      have hkf : k < (fl m r).length := by rw [HF.out.len]; omega
      have HST : Hid ((pad ((fl m r).take k)).set k (clip r.nums[k]) = pad ((fl m r).take (k + 1))) := by
        show _ = _
        rw [← HF.out.num k hlt hkf]; exact pad_step _ _ hkf HF.out.le
      obtain ⟨x, hx⟩ : ∃ x, r.nums[k] = x := ⟨_, rfl⟩
      rw [hx] at d HST
      have hcell := ol.cell HPL.out k (by have := HPL.out; omega)
      obtain ⟨cv, hcv⟩ : ∃ cv, wr.cell? ⟨G, k, none⟩ = some cv := ⟨_, hcell⟩
      have hcf := ol.frozen HPL.out k
      have hk6 : (k : Int) < 6 := by omega
      have HO : Hid (Li.Own (wr.setCell ⟨G, k, none⟩ (.int .i64 (clip x))) G (.slice (some ⟨G, 0, none⟩) 6 6) (pad ((fl m r).take (k + 1)))) := by
        have := ol.set HPL.out k (clip x)
        rw [HST.out] at this
        exact this
      have HBM : Hid (∀ v, Wr (wr.setCell ⟨G, k, none⟩ v) w.heap.size 0 [.int .i64 m.n, .int .i64 m.c, .int .i64 m.prior, .int .i64 m.base, .slice ak m.ks.length ck, .slice ax m.ts.length ct]) := fun v => bm.setOther (by have := HWG.out; omega)
      have HBS : Hid (∀ v, Wr (wr.setCell ⟨G, k, none⟩ v) (w.heap.size + 1) 0 [.slice (some ⟨nb, no, none⟩) r.nums.length c0, .slice a1 r.cats.length c1, .int .i64 r.label]) := fun v => bs.setOther (by have := HWG.out; omega)
      have HBB : Hid (∀ v, Below w.heap.size w (wr.setCell ⟨G, k, none⟩ v)) := fun v => hB.setCell (p := ⟨G, k, none⟩) (by show w.heap.size ≤ G; have := HWG.out; omega) _
      clear hnc hx hcell ol bm bs hB
      go_wp2_with (go_at_call 33; refine (Ad.bounded_any _ _).mono ?_; rintro e w' ⟨rfl, hw⟩; subst w')
      go_roundw
      case rel => exact ⟨k + 1, by omega, by go_num, HO.out, HBM.out _, HBS.out _, HBB.out _⟩
      case measure => simp [intOf]; omega
    · obtain rfl : k = r.nums.length := by omega
      clear HPL
      obtain ⟨_, ⟨y0, y1, y2⟩, _⟩ := wr3 bs
      have jr := j1.below hB
      go_wp2_with fail
      refine (irw _ _ _ r.cats jr hc2 hcap hzs).mono ?_
      rintro e w2 ⟨aw, cw, rfl, iw, hb⟩
      have HGB : Hid (G < wr.heap.size) := (ol.ge G rfl).2
      obtain ⟨B0, hB0⟩ : ∃ B0, wr.heap.size = B0 := ⟨_, rfl⟩
      have bm := bm.below hb
      have ol := ol.below hb
      have hB := hB.trans (hb.mono hB.size)
      rw [hB0] at iw HGB
      clear hb y0 y1 y2 bs jr hB0
      obtain ⟨L, hL⟩ : ∃ L, (wds r.cats).length = L := ⟨_, rfl⟩
      have HL : Hid ((wds r.cats).length = L) := hL
      rw [hL] at hw3 iw ⊢
      clear hL
      have HOL : Hid (Li.Own w2 G (.slice (some ⟨G, 0, none⟩) 6 6) (pad ((fl m r).take (r.nums.length + 0)))) := ol
      have HBM : Hid (Wr w2 w.heap.size 0 [.int .i64 m.n, .int .i64 m.c, .int .i64 m.prior, .int .i64 m.base, .slice ak m.ks.length ck, .slice ax m.ts.length ct]) := bm
      have HIW : Hid (Ls.Own w2 B0 (.slice aw L cw) (wds r.cats)) := iw
      have HB : Hid (Below w.heap.size w w2) := hB
      clear ol bm iw hB
      go_wp2
      go_loopw [29] (fun i wr => ∃ k : Nat, k ≤ L ∧ i = .int .i64 k ∧ Li.Own wr G (.slice (some ⟨G, 0, none⟩) 6 6) (pad ((fl m r).take (r.nums.length + k))) ∧ Wr wr w.heap.size 0 [.int .i64 m.n, .int .i64 m.c, .int .i64 m.prior, .int .i64 m.base, .slice ak m.ks.length ck, .slice ax m.ts.length ct] ∧ Ls.Own wr B0 (.slice aw L cw) (wds r.cats) ∧ Below w.heap.size w wr) (fun i _ => L - (intOf i).toNat)
      case atStart => exact ⟨0, Nat.zero_le _, rfl, HOL.out, HBM.out, HIW.out, HB.out⟩
      case round =>
        clear HOL HBM HIW HB
        obtain ⟨k, hk, rfl, ol, bm, iw, hB⟩ := hrel
        by_cases hlk : k < L
        · have hkw : k < (wds r.cats).length := by rw [HL.out]; exact hlk
          have hkk : k < m.ks.length := by rw [HF.out.kl]; exact hkw
          have hkf : r.nums.length + k < (fl m r).length := by rw [HF.out.len]; omega
          have hpl : (pad ((fl m r).take (r.nums.length + k))).length = 6 := pad_length (by have := HF.out.le; simp; omega)
          have HPL : Hid ((pad ((fl m r).take (r.nums.length + k))).length = 6) := hpl
          have HST : Hid ((pad ((fl m r).take (r.nums.length + k))).set (r.nums.length + k) (wnum m.ks[k] (wds r.cats)[k] m.prior) = pad ((fl m r).take (r.nums.length + (k + 1)))) := by
            show _ = _
            rw [← HF.out.word k hkw hkf]; exact pad_step _ _ hkf HF.out.le
          obtain ⟨_, _, ew, is⟩ := iw.iss
          rw [HL.out] at ew
          cases ew
          rcases is with e0 | ⟨sb, so, rfl, hsb, hsc⟩
          · rw [e0] at hkw; simp at hkw
          have d := hsc k hkw
          rcases h.k.below hB with e0 | ⟨kb, ko, rfl, hkb, hkc⟩
          · rw [e0] at hkk; simp at hkk
          obtain ⟨ta, tc, va, vc, ⟨t0, t1⟩, it, iv'⟩ := hkc k hkk
          obtain ⟨ko1, ko2, _⟩ := kok_parts (HF.out.kok k hkk)
          have HKN : Hid (kb < w.heap.size) := by
            rcases h.k with e0 | ⟨kb', ko', e, hkb', _⟩
            · rw [e0] at hkk; simp at hkk
            · cases e; exact hkb'
          obtain ⟨t, ht⟩ : ∃ t, m.ks[k] = t := ⟨_, rfl⟩
          obtain ⟨s, hs⟩ : ∃ s, (wds r.cats)[k] = s := ⟨_, rfl⟩
          rw [ht] at t0 t1 it iv' ko1 ko2 HST
          rw [hs] at d HST
          obtain ⟨_, ⟨x0, x1, x2, x3, x4, x5⟩, _⟩ := wr6 bm
          rw [← HF.out.n] at x0
          have hwr : IntKind.i64.wrap ((r.nums.length : Int) + (k : Int)) = ((r.nums.length + k : Nat) : Int) := by simp [IntKind.wrap, IntKind.bits, IntKind.signed]; omega
          have hix : ((r.nums.length + k : Nat) : Int) < 6 := by have := HF.out.le; omega
          have hix0 : (0 : Int) ≤ (r.nums.length : Int) + (k : Int) := by omega
          have hix1 : (r.nums.length : Int) + (k : Int) < 6 := by omega
          have htn : ((r.nums.length : Int) + (k : Int)).toNat = r.nums.length + k := by omega
          have hcell := ol.cell HPL.out (r.nums.length + k) (by have := HPL.out; have := HF.out.le; omega)
          have hgl := (ol.ge G rfl).2
          have hkm : (k : Int) < m.ks.length := by omega
          have HIT : Hid (Ls.IsS wr ta t.ws) := it
          have HIV : Hid (Li.IsL wr va t.vs) := iv'
          have HK12 : Hid (t.ws.length ≤ 40 ∧ t.vs.length = t.ws.length) := ⟨ko1, ko2⟩
          have HOL : Hid (type_of% ol) := ol
          have HBM : Hid (type_of% bm) := bm
          have HIW : Hid (type_of% iw) := iw
          have HB : Hid (type_of% hB) := hB
          have HBD : Hid (Below wr.heap.size wr wr.drew) := (Below.refl wr.heap.size wr).drew
          have hne0 : ¬ w.heap.size = G := by have := HWG.out; omega
          have hne1 : ¬ kb = G := by have := HWG.out; have := HKN.out; omega
          have hne0' : ¬ G = w.heap.size := by omega
          have hne1' : ¬ G = kb := by omega
          clear hsc hkc ht hs it iv' ko1 ko2 ol bm iw hB hpl hcell
          go_wp2_with fail
          go_region_held3 (fun w' => w'.cell? ⟨w.heap.size, 0, none⟩ = some (.int .i64 (r.nums.length : Int)) ∧ w'.cell? ⟨w.heap.size, 2, none⟩ = some (.int .i64 m.prior) ∧ w'.cell? ⟨w.heap.size, 4, none⟩ = some (.slice (some ⟨kb, ko, none⟩) m.ks.length ck) ∧ w'.cell? ⟨kb, ko + k * 2, none⟩ = some (.slice ta t.ws.length tc) ∧ w'.cell? ⟨kb, ko + k * 2 + 1, none⟩ = some (.slice va t.vs.length vc)) (go_keep) (first
            | (go_at_call 35
               refine (iwnum wr.drew _ _ _ _ t s m.prior (HIT.out.below HBD.out) (HIV.out.below HBD.out) HK12.out.1 HK12.out.2).mono ?_
               rintro e w5 ⟨rfl, hb⟩
               have HY : Hid (Below wr.heap.size wr w5) := HBD.out.trans hb
               obtain ⟨_, ⟨z0, z1, z2, z3, z4, z5⟩, _⟩ := wr6 (HBM.out.below HY.out)
               rw [← HF.out.n] at z0
               have z6 := (HY.out.cell (p := ⟨kb, ko + k * 2, none⟩) hkb).trans t0
               have z7 := (HY.out.cell (p := ⟨kb, ko + k * 2 + 1, none⟩) hkb).trans t1
               have HO5 : Hid (type_of% (HOL.out.below HY.out)) := HOL.out.below HY.out
               have hc5 := HO5.out.cell HPL.out (r.nums.length + k) (by have := HPL.out; have := HF.out.le; omega)
               obtain ⟨cv5, hcv5⟩ : ∃ cv, w5.cell? ⟨G, r.nums.length + k, none⟩ = some cv := ⟨_, hc5⟩
               have hf5 := HO5.out.frozen HPL.out (r.nums.length + k)
               clear hb hc5 z1 z3 z5))
          obtain ⟨x, hx⟩ : ∃ x, wnum t s m.prior = x := ⟨_, rfl⟩
          rw [hx] at HST ⊢
          have HO : Hid (Li.Own (w5.setCell ⟨G, r.nums.length + k, none⟩ (.int .i64 x)) G (.slice (some ⟨G, 0, none⟩) 6 6) (pad ((fl m r).take (r.nums.length + (k + 1))))) := by
            have := HO5.out.set HPL.out (r.nums.length + k) x
            rw [HST.out] at this
            exact this
          have HM : Hid (type_of% ((HBM.out.below HY.out).setOther (b := G) (o := r.nums.length + k) (v := .int .i64 x) hne0)) := (HBM.out.below HY.out).setOther hne0
          have HI : Hid (Ls.Own (w5.setCell ⟨G, r.nums.length + k, none⟩ (.int .i64 x)) B0 (.slice (some ⟨sb, so, none⟩) L cw) (wds r.cats)) := (HIW.out.below HY.out).kept (Li.grown_set _ _ _ _) (.inr (fun e => by have := (HIW.out.ge G e).1; have := HGB.out; omega))
          have HBB : Hid (Below w.heap.size w (w5.setCell ⟨G, r.nums.length + k, none⟩ (.int .i64 x))) := (HB.out.trans (HY.out.mono HB.out.size)).setCell (p := ⟨G, r.nums.length + k, none⟩) (by show w.heap.size ≤ G; have := HWG.out; omega) _
          clear z0 z2 z4 z6 z7 hcv5 hf5 x0 x1 x2 x3 x4 x5 t0 t1 d hx
          go_wp2
          go_roundw
          case rel => exact ⟨k + 1, by omega, by go_num, HO.out, HM.out, HI.out, HBB.out⟩
          case measure => simp [intOf]; omega
        · obtain rfl : k = L := by omega
          have HA : Hid (Li.Own wr w.heap.size (.slice (some ⟨G, 0, none⟩) 6 6) (pad (fl m r))) := by
            have := ol.mono (base' := w.heap.size) (by have := HWG.out; omega)
            rw [← HL.out, HF.out.all] at this
            exact this
          clear ol iw bm
          go_wp2
          go_ret
          exact ⟨_, rfl, HA.out, hB⟩
end Go.Proofs.YtcadgeepknhmfaaGreat.Md
