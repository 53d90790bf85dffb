/-
  Contracts that the proof leans on, put together in the order in which they build.
-/
import Derived.Test.YtglllflleabmbaaGreatPart22
import Derived.Test.YtglllflleabmbaaGreatPart7
import Derived.Test.YtglllflleabmbaaGreatPart8
import Derived.Test.YtglllflleabmbaaGreatPart6
import Derived.Test.YtglllflleabmbaaGreatPart9
import Derived.Test.YtglllflleabmbaaGreatPart14
import Derived.Test.YtglllflleabmbaaGreatPart12
import Derived.BigQuiet
import Derived.Deep.QuietTactic
/-
  What the model draws for BestCut.
-/
namespace Go.Proofs.YtglllflleabmbaaGreat.Dm
set_option maxRecDepth 100000
open Go.RowKit
open Go.Proofs.YtglllflleabmbaaGreat.Tb Go.Proofs.YtglllflleabmbaaGreat.Tk
open Go.Proofs.YtglllflleabmbaaGreat.Md (M OwM wr6 wr3)
open Go.Proofs.YtglllflleabmbaaGreat.Tt (set6)
open Go.Proofs.YtglllflleabmbaaGreat.Sv (Wr Fr fr_grown fr_below new1 new2 new3 wr_new wr2)
set_option linter.unusedVariables false
set_option maxHeartbeats 20000000 in
theorem drawBestCut_any (w : World) (a : Option Addr) (len cap : Nat) (hB : Cu.Bytes w w.heap.size a len) (hl : (len : Int) ≤ 1048576) :
  Calls Tryz.prog 5 #[.slice a len cap] w fun e w' => ∃ (m : M) (vk vt : Value) (n c : Int) (ar : Option Addr) (cp : Nat) (rs : List Row), e = .returned (.tuple #[.agg #[.int .i64 m.n, .int .i64 m.c, .int .i64 m.prior, .int .i64 m.base, vk, vt], .agg #[.int .i64 n, .int .i64 c, .slice ar rs.length cp]]) ∧ m.sz ≤ 4500 ∧ (rs.length ≤ 41 ∧ ∀ r ∈ rs, Row.sz r ≤ 60 ∧ Row.fits r) ∧ OwM w' (fun q => w.heap.size ≤ q ∧ q < w'.heap.size) vk vt m ∧ Db.IsRQ w' ar rs ∧ Below w.heap.size w w' := by
 go_enter Tryz.func5, Tryz.ntmps5
 go_wp2_with fail
 obtain ⟨W, hW, hsz, hBW, b2, b3⟩ := new2 w z6 y3 29 32
 have hW2 : (w.alloc (.cells #[.int .i64 0, .int .i64 0, .int .i64 0, .int .i64 0, .slice none 0 0, .slice none 0 0] 29)).alloc (.cells #[.int .i64 0, .int .i64 0, .slice none 0 0] 32) = W := hW
 rw [hW2]
 have hB := hB.keptB hBW.size (fun k hk => hBW.block k hk)
 clear hW hW2
 refine (drawPredictAll_any _ _ _ _ hB hl).mono ?_
 rintro e w2 ⟨m, vk, vt, n, c, ar, cp, rs, rfl, hz, hbd, om, hR, hb2⟩
 obtain ⟨ak, ck, ax, ct, rfl, rfl, -⟩ := om.rm
 have B2 := b2.below hb2
 have B3 := b3.below hb2
 have hs2 := hb2.size
 have HBw : Hid (Below w.heap.size w w2) := hBW.trans (hb2.mono hBW.size)
 obtain ⟨hl2, ⟨r0, r1, r2, r3, r4, r5⟩, f0, f1, f2, f3, f4, f5⟩ := wr6 B2
 obtain ⟨hl3, ⟨r6, r7, r8⟩, f6, f7, f8⟩ := wr3 B3
 have HR : Hid (type_of% hR) := hR
 have HOM : Hid (type_of% om) := om
 have HZ : Hid (m.sz ≤ 4500) := hz
 have HBD : Hid (rs.length ≤ 41 ∧ ∀ r ∈ rs, Row.sz r ≤ 60 ∧ Row.fits r) := hbd
 obtain ⟨P, hP⟩ : ∃ P, w.heap.size = P := ⟨_, rfl⟩
 have HP : Hid (w.heap.size = P) := hP
 have hPW : P + 2 = W.heap.size := by omega
 rw [hP] at r0 r1 r2 r3 r4 r5 r6 r7 r8 f0 f1 f2 f3 f4 f5 f6 f7 f8 hl2 hl3 ⊢
 have hFF : Fr (fun q => q = P ∨ q = P + 1) w2 (((((((((w2.setCell ⟨P, 0, none⟩ (.int .i64 m.n)).setCell ⟨P, 1, none⟩ (.int .i64 m.c)).setCell ⟨P, 2, none⟩ (.int .i64 m.prior)).setCell ⟨P, 3, none⟩ (.int .i64 m.base)).setCell ⟨P, 4, none⟩ (.slice ak m.ks.length ck)).setCell ⟨P, 5, none⟩ (.slice ax m.ts.length ct)).setCell ⟨P + 1, 0, none⟩ (.int .i64 n)).setCell ⟨P + 1, 1, none⟩ (.int .i64 c)).setCell ⟨P + 1, 2, none⟩ (.slice ar rs.length cp)) := ((set6 _ _ _ _ _ _ _ _).mono (fun q e => .inl e)).trans ((Dm.set3 _ _ _ _ _).mono (fun q e => .inr e))
 have HE : Hid (OwM (((((((((w2.setCell ⟨P, 0, none⟩ (.int .i64 m.n)).setCell ⟨P, 1, none⟩ (.int .i64 m.c)).setCell ⟨P, 2, none⟩ (.int .i64 m.prior)).setCell ⟨P, 3, none⟩ (.int .i64 m.base)).setCell ⟨P, 4, none⟩ (.slice ak m.ks.length ck)).setCell ⟨P, 5, none⟩ (.slice ax m.ts.length ct)).setCell ⟨P + 1, 0, none⟩ (.int .i64 n)).setCell ⟨P + 1, 1, none⟩ (.int .i64 c)).setCell ⟨P + 1, 2, none⟩ (.slice ar rs.length cp)) (fun q => w.heap.size ≤ q ∧ q < (((((((((w2.setCell ⟨P, 0, none⟩ (.int .i64 m.n)).setCell ⟨P, 1, none⟩ (.int .i64 m.c)).setCell ⟨P, 2, none⟩ (.int .i64 m.prior)).setCell ⟨P, 3, none⟩ (.int .i64 m.base)).setCell ⟨P, 4, none⟩ (.slice ak m.ks.length ck)).setCell ⟨P, 5, none⟩ (.slice ax m.ts.length ct)).setCell ⟨P + 1, 0, none⟩ (.int .i64 n)).setCell ⟨P + 1, 1, none⟩ (.int .i64 c)).setCell ⟨P + 1, 2, none⟩ (.slice ar rs.length cp)).heap.size) (.slice ak m.ks.length ck) (.slice ax m.ts.length ct) m ∧ Db.IsRQ (((((((((w2.setCell ⟨P, 0, none⟩ (.int .i64 m.n)).setCell ⟨P, 1, none⟩ (.int .i64 m.c)).setCell ⟨P, 2, none⟩ (.int .i64 m.prior)).setCell ⟨P, 3, none⟩ (.int .i64 m.base)).setCell ⟨P, 4, none⟩ (.slice ak m.ks.length ck)).setCell ⟨P, 5, none⟩ (.slice ax m.ts.length ct)).setCell ⟨P + 1, 0, none⟩ (.int .i64 n)).setCell ⟨P + 1, 1, none⟩ (.int .i64 c)).setCell ⟨P + 1, 2, none⟩ (.slice ar rs.length cp)) ar rs ∧ Below w.heap.size w (((((((((w2.setCell ⟨P, 0, none⟩ (.int .i64 m.n)).setCell ⟨P, 1, none⟩ (.int .i64 m.c)).setCell ⟨P, 2, none⟩ (.int .i64 m.prior)).setCell ⟨P, 3, none⟩ (.int .i64 m.base)).setCell ⟨P, 4, none⟩ (.slice ak m.ks.length ck)).setCell ⟨P, 5, none⟩ (.slice ax m.ts.length ct)).setCell ⟨P + 1, 0, none⟩ (.int .i64 n)).setCell ⟨P + 1, 1, none⟩ (.int .i64 c)).setCell ⟨P + 1, 2, none⟩ (.slice ar rs.length cp))) := by
  have hs9 := hFF.size
  refine ⟨(HOM.out.fr hFF (fun q hq e => by omega)).mono (fun q hq => ⟨by omega, by omega⟩), (Dm.ReadT.fr HR.out hFF (fun q e => by omega)).isq, HBw.out.trans (hFF.bel (fun q e => by omega) HBw.out.size)⟩
 clear hFF B2 B3 om hz hbd hR hb2 HR HOM HBw hP
 go_wp2_with fail
 refine bodyPost_ret (v := .tuple #[.agg #[.int .i64 m.n, .int .i64 m.c, .int .i64 m.prior, .int .i64 m.base, .slice ak m.ks.length ck, .slice ax m.ts.length ct], .agg #[.int .i64 n, .int .i64 c, .slice ar rs.length cp]]) (by rw [results_cc4 rfl]; go_simp) rfl ⟨m, _, _, n, c, ar, cp, rs, rfl, HZ.out, HBD.out, HE.out.1, HE.out.2.1, HE.out.2.2⟩
end Go.Proofs.YtglllflleabmbaaGreat.Dm
/-
  Sum of the program and of the model: what trees say, one behind the other.
-/
namespace Go.Proofs.YtglllflleabmbaaGreat.Sw
open Go.RowKit
open Go.Proofs.YtglllflleabmbaaGreat.Li (ret_bool ret_int below_none)
open Go.Proofs.YtglllflleabmbaaGreat.Tr Go.Proofs.YtglllflleabmbaaGreat.Tm Go.Proofs.YtglllflleabmbaaGreat.Ad
set_option linter.unusedVariables false

def fd (x : List Int) (z : Int) (ts : List T) : Int := ts.foldl (fun s t => fadd s (eval t x)) z
theorem fd_take {x : List Int} {z : Int} {ts : List T} {k : Nat} (h : k < ts.length) : fd x z (ts.take (k + 1)) = fadd (fd x z (ts.take k)) (eval ts[k] x) := by
 unfold fd
 rw [List.take_succ_eq_append_getElem h, List.foldl_append]
 rfl
def allok (ts : List T) : Bool := ts.all tok
theorem allok_no {ts : List T} {k : Nat} (hk : k < ts.length) (h : tok ts[k] = false) : allok ts = false := by
 cases e : allok ts with
 | false => rfl
 | true =>
  unfold allok at e
  rw [List.all_eq_true] at e
  rw [e _ (List.getElem_mem hk)] at h
  cases h
theorem allok_all {ts : List T} (h : ∀ j (hj : j < ts.length), tok ts[j] = true) : allok ts = true := by
 unfold allok
 rw [List.all_eq_true]
 intro t ht
 obtain ⟨j, hj, rfl⟩ := List.getElem_of_mem ht
 exact h j hj
def sm (ts : List T) (x : List Int) (base : Int) : Int := if allok ts then fd x (clip base) ts else 0
theorem sm_no {ts : List T} {x : List Int} {base : Int} (h : allok ts = false) : sm ts x base = 0 := by simp [sm, h]
theorem sm_yes {ts : List T} {x : List Int} {base : Int} (h : allok ts = true) : sm ts x base = fd x (clip base) ts := by simp [sm, h]
set_option maxHeartbeats 2000000 in
theorem ssum (w : World) (a ax : Option Addr) (c cx : Nat) (ts : List T) (x : List Int) (base : Int) (ht : IsT w a ts) (hy : Li.IsL w ax x) (hl : ts.length + szT ts ≤ 1048576) (hl' : x.length ≤ 1048576) :
  Calls Tryz.prog 102 #[.slice a ts.length c, .slice ax x.length cx, .int .i64 base] w fun e w' => e = .returned (.int .i64 (sm ts x base)) ∧ Below w.heap.size w w' := by
 go_enter Tryz.func102, Tryz.ntmps102
 go_wp2_with (go_at_call 66; refine (clip_any _ _).mono ?_; rintro e w' ⟨rfl, hw⟩; subst w')
 go_loopw [8] (fun i wr => ∃ k : Nat, k ≤ ts.length ∧ i = .int .i64 k ∧ (∀ j (hj : j < ts.length), j < k → tok ts[j] = true) ∧ Below w.heap.size w wr) (fun i _ => ts.length - (intOf i).toNat)
 case atStart => exact ⟨0, Nat.zero_le _, rfl, fun j hj h => by omega, Below.refl _ _⟩
 case round =>
  obtain ⟨k, hk, rfl, hn, hB⟩ := hrel
  have HN : Hid (∀ j (hj : j < ts.length), j < k → tok ts[j] = true) := hn
  clear hn
  by_cases hlt : k < ts.length
  ·
   rcases ht.below hB with h0 | ⟨b, off, rfl, hb, hc⟩
   ·
    rw [h0] at hlt; simp at hlt
   obtain ⟨v0, v1, ⟨cx0, cx1⟩, a0, c0, a1, c1, rfl, rfl, i0, i1⟩ := hc k hlt
   have hz : ts[k].sp.length + ts[k].lv.length ≤ szT ts := szT_at ts k hlt
   clear hc
   go_wp2_with fail
   refine (Tw.stok _ _ _ _ _ ts[k] i0 i1 (by omega)).mono ?_
   rintro e w1 ⟨rfl, hB1⟩
   have hB := hB.trans (hB1.mono hB.size)
   clear hB1 cx0 cx1
   cases hv : tok ts[k] with
   | false =>
    have HR : Hid (sm ts x base = 0) := sm_no (allok_no hlt hv)
    go_wp2
    go_ret
    exact ⟨by rw [HR.out]; rfl, hB⟩
   | true =>
    have HR : Hid (∀ j (hj : j < ts.length), j < k + 1 → tok ts[j] = true) := fun j hj h => by
     by_cases e : j = k
     ·
      subst e; exact hv
     ·
      exact HN.out j hj (by omega)
    go_wp2
    go_roundw
    case rel => exact ⟨k + 1, by omega, by go_num, HR.out, hB⟩
    case measure => simp [intOf]; omega
  ·
   have HA : Hid (sm ts x base = fd x (clip base) ts) := sm_yes (allok_all (fun j hj => HN.out j hj (by omega)))
   have HB : Hid (Below w.heap.size w wr) := hB
   clear hB
   go_wp2
   go_loopw [7, 9] (fun q i wq => ∃ k : Nat, k ≤ ts.length ∧ i = .int .i64 k ∧ q = .int .i64 (fd x (clip base) (ts.take k)) ∧ Below w.heap.size w wq) (fun _ i _ => ts.length - (intOf i).toNat)
   case atStart => exact ⟨0, Nat.zero_le _, rfl, rfl, HB.out⟩
   case round =>
    obtain ⟨k, hk, rfl, rfl, hB⟩ := hrel
    by_cases hlt : k < ts.length
    ·
     rcases ht.below hB with h0 | ⟨b, off, rfl, hb, hc⟩
     ·
      rw [h0] at hlt; simp at hlt
     obtain ⟨v0, v1, ⟨cx0, cx1⟩, a0, c0, a1, c1, rfl, rfl, i0, i1⟩ := hc k hlt
     have hz : ts[k].sp.length + ts[k].lv.length ≤ szT ts := szT_at ts k hlt
     have HF : Hid (fd x (clip base) (ts.take (k + 1)) = fadd (fd x (clip base) (ts.take k)) (eval ts[k] x)) := fd_take hlt
     clear hc
     go_wp2_with fail
     refine (Tw.seval _ _ _ _ _ _ _ ts[k] x i0 i1 (hy.below hB) (by omega) hl').mono ?_
     rintro e w1 ⟨rfl, hB1⟩
     have hB := hB.trans (hB1.mono hB.size)
     clear hB1 cx0 cx1
     go_wp2_with (go_at_call 98; refine (sadd_any _ _ _).mono ?_; rintro e w' ⟨rfl, hw⟩; subst w')
     go_roundw
     case rel => exact ⟨k + 1, by omega, by go_num, by rw [HF.out], hB⟩
     case measure => simp [intOf]; omega
    ·
     obtain rfl : k = ts.length := by omega
     have h0 : ts.take ts.length = ts := List.take_length
     have HR : Hid (sm ts x base = fd x (clip base) (ts.take ts.length)) := by show _ = _; rw [h0]; exact HA.out
     clear h0
     go_wp2
     go_ret
     exact ⟨by rw [HR.out]; rfl, hB⟩
set_option maxHeartbeats 2000000 in
theorem isum (w : World) (a ax : Option Addr) (c cx : Nat) (ts : List T) (x : List Int) (base : Int) (ht : IsT w a ts) (hy : Li.IsL w ax x) (hl : ts.length + szT ts ≤ 1048576) (hl' : x.length ≤ 1048576) :
  Calls Tryz.prog 29 #[.slice a ts.length c, .slice ax x.length cx, .int .i64 base] w fun e w' => e = .returned (.int .i64 (sm ts x base)) ∧ Below w.heap.size w w' := by
 go_enter Tryz.func29, Tryz.ntmps29
 go_wp2_with (go_at_call 54; refine (iadd_any _ _ _).mono ?_; rintro e w' ⟨rfl, hw⟩; subst w'; rw [fadd_zero])
 go_loopw [7, 14] (fun q i wr => ∃ k : Nat, k ≤ ts.length ∧ i = .int .i64 k ∧ q = .int .i64 (fd x (clip base) (ts.take k)) ∧ (∀ j (hj : j < ts.length), j < k → tok ts[j] = true) ∧ Below w.heap.size w wr) (fun _ i _ => ts.length - (intOf i).toNat)
 case atStart => exact ⟨0, Nat.zero_le _, rfl, rfl, fun j hj h => by omega, Below.refl _ _⟩
 case round =>
  obtain ⟨k, hk, rfl, rfl, hn, hB⟩ := hrel
  have HN : Hid (∀ j (hj : j < ts.length), j < k → tok ts[j] = true) := hn
  clear hn
  by_cases hlt : k < ts.length
  ·
   rcases ht.below hB with h0 | ⟨b, off, rfl, hb, hc⟩
   ·
    rw [h0] at hlt; simp at hlt
   obtain ⟨v0, v1, ⟨cx0, cx1⟩, a0, c0, a1, c1, rfl, rfl, i0, i1⟩ := hc k hlt
   have hz : ts[k].sp.length + ts[k].lv.length ≤ szT ts := szT_at ts k hlt
   have HF : Hid (fd x (clip base) (ts.take (k + 1)) = fadd (fd x (clip base) (ts.take k)) (eval ts[k] x)) := fd_take hlt
   clear hc
   go_wp2_with fail
   obtain ⟨W, hW, hsz, hb0, bx⟩ := boxes1 wr (.slice a0 ts[k].sp.length c0) (.slice a1 ts[k].lv.length c1) 60
   rw [hW]
   have i0 := i0.below hb0
   have i1 := i1.below hb0
   have hB := hB.trans (hb0.mono hB.size)
   clear hW hsz hb0
   refine (Tw.itok _ _ _ _ _ ts[k] i0 i1 (by omega)).mono ?_
   rintro e w1 ⟨rfl, hB1⟩
   have hB := hB.trans (hB1.mono hB.size)
   have bx := bx.below hB1
   have i0 := i0.below hB1
   have i1 := i1.below hB1
   clear hB1 cx0 cx1
   obtain ⟨hbl, ⟨cx0, cx1⟩, _⟩ := bx
   cases hv : tok ts[k] with
   | false =>
    have HR : Hid (sm ts x base = 0) := sm_no (allok_no hlt hv)
    go_wp2
    go_ret
    exact ⟨by rw [HR.out]; rfl, hB⟩
   | true =>
    have HR : Hid (∀ j (hj : j < ts.length), j < k + 1 → tok ts[j] = true) := fun j hj h => by
     by_cases e : j = k
     ·
      subst e; exact hv
     ·
      exact HN.out j hj (by omega)
    go_wp2_with fail
    refine (Tw.ieval _ _ _ _ _ _ _ ts[k] x i0 i1 (hy.below hB) (by omega) hl').mono ?_
    rintro e w2 ⟨rfl, hB1⟩
    have hB := hB.trans (hB1.mono hB.size)
    clear hB1
    go_wp2_with (go_at_call 54; refine (iadd_any _ _ _).mono ?_; rintro e w' ⟨rfl, hw⟩; subst w')
    go_roundw
    case rel => exact ⟨k + 1, by omega, by go_num, by rw [HF.out], HR.out, hB⟩
    case measure => simp [intOf]; omega
  ·
   obtain rfl : k = ts.length := by omega
   have h0 : ts.take ts.length = ts := List.take_length
   have HR : Hid (sm ts x base = fd x (clip base) (ts.take ts.length)) := by show _ = _; rw [h0]; exact sm_yes (allok_all (fun j hj => HN.out j hj hj))
   clear h0
   go_wp2
   go_ret
   exact ⟨by rw [HR.out]; rfl, hB⟩
end Go.Proofs.YtglllflleabmbaaGreat.Sw
/-
  Which models are right: ModelOk of the program and of the model.
-/
namespace Go.Proofs.YtglllflleabmbaaGreat.Md
set_option maxRecDepth 20000
open Go.RowKit
open Go.Proofs.YtglllflleabmbaaGreat.Li (ret_bool btw below_none)
open Go.Proofs.YtglllflleabmbaaGreat.Tk (sok)
open Go.Proofs.YtglllflleabmbaaGreat.Bo (fok aok)
open Go.Proofs.YtglllflleabmbaaGreat.Wd (dictOf dictOf_len)
open Go.Proofs.YtglllflleabmbaaGreat.Tb (lets)
open Go.Proofs.YtglllflleabmbaaGreat.Tm (IsT szT)
open Go.Proofs.YtglllflleabmbaaGreat.Kt (Kv IsK ksz)
open Go.Proofs.YtglllflleabmbaaGreat.Sw (allok)
open Go.Proofs.YtglllflleabmbaaGreat.Sv (new1 Wr wr2)
set_option linter.unusedVariables false
def cwok (s : ByteArray) : Bool := decide (1 ≤ s.size ∧ s.size ≤ 25)
def kok (t : Kv) : Bool := decide (t.ws.length ≤ 40) && (decide (t.vs.length = t.ws.length) && (aok t.vs && (t.ws.all cwok && decide ((dictOf t.ws).length = t.ws.length))))
def ncol (c : Int) : Int := if c = 2 then 3 else c
def mok (m : M) : Bool := sok m.n m.c && (btw m.prior (-1000000) 1000000 && (fok m.base && (decide (m.ts.length ≤ 12) && (decide ((m.ks.length : Int) = ncol m.c) && (allok m.ts && m.ks.all kok)))))
theorem all_no {α : Type} {p : α → Bool} {xs : List α} {k : Nat} (hk : k < xs.length) (h : p xs[k] = false) : xs.all p = false := by
 rw [List.all_eq_false]; exact ⟨xs[k], List.getElem_mem hk, by simp [h]⟩
theorem all_yes {α : Type} {p : α → Bool} {xs : List α} (h : ∀ j (hj : j < xs.length), p xs[j] = true) : xs.all p = true := by
 rw [List.all_eq_true]; intro x hx; obtain ⟨j, hj, rfl⟩ := List.getElem_of_mem hx; exact h j hj
theorem cwok_btw (s : ByteArray) : btw (s.size : Int) 1 25 = cwok s := by
 unfold btw cwok; congr 1; apply propext; omega
theorem mok_parts {m : M} (h : mok m = true) : sok m.n m.c = true ∧ btw m.prior (-1000000) 1000000 = true ∧ fok m.base = true ∧ m.ts.length ≤ 12 ∧ (m.ks.length : Int) = ncol m.c ∧ allok m.ts = true ∧ m.ks.all kok = true := by
 simpa [mok] using h
theorem kok_parts {t : Kv} (h : kok t = true) : t.ws.length ≤ 40 ∧ t.vs.length = t.ws.length ∧ aok t.vs = true ∧ t.ws.all cwok = true ∧ (dictOf t.ws).length = t.ws.length := by
 simpa [kok] using h
theorem ks_at {m : M} (hl : m.sz ≤ 1048576) (k : Nat) (hk : k < m.ks.length) : m.ks[k].ws.length + lets m.ks[k].ws + m.ks[k].vs.length ≤ 1048576 := by
 have := Kt.ksz_at m.ks k hk
 unfold M.sz at hl
 omega
theorem ts_at {m : M} (hl : m.sz ≤ 1048576) (k : Nat) (hk : k < m.ts.length) : m.ts[k].sp.length + m.ts[k].lv.length ≤ 1048576 := by
 have := Tm.szT_at m.ts k hk
 unfold Tm.szt at this
 unfold M.sz at hl
 omega
set_option maxHeartbeats 400000 in
theorem scol (w : World) (n c : Int) : Calls Tryz.prog 70 #[.agg #[.int .i64 n, .int .i64 c]] w fun e w' => e = .returned (.int .i64 (ncol c)) ∧ Below w.heap.size w w' := by
 by_cases h : c = 2
 ·
  subst h
  go_enter Tryz.func70, Tryz.ntmps70
  go_wp2
  go_ret
  exact ⟨rfl, (Below.refl _ _).alloc (Nat.le_refl _) _⟩
 ·
  have HN : Hid (ncol c = c) := if_neg h
  have hb : (c == 2) = false := by simp [h]
  go_enter Tryz.func70, Tryz.ntmps70
  go_wp2
  go_ret
  exact ⟨by rw [HN.out]; rfl, (Below.refl _ _).alloc (Nat.le_refl _) _⟩
set_option maxHeartbeats 400000 in
theorem icw (w : World) (s : ByteArray) (hs : s.size ≤ 9223372036854775807) : Calls Tryz.prog 105 #[.string s] w fun e w' => e = .returned (.bool (cwok s)) ∧ w' = w := by
 go_enter Tryz.func105, Tryz.ntmps105
 go_wp2
 all_goals go_ret
 all_goals refine ⟨ret_bool ?_, rfl⟩
 all_goals unfold cwok
 all_goals first | (symm; simp; omega) | (rw [Bool.eq_iff_iff]; simp; omega)
set_option maxHeartbeats 4000000 in
theorem ikok (w : World) (a0 a1 : Option Addr) (c0 c1 : Nat) (t : Kv) (h0 : Ls.IsS w a0 t.ws) (h1 : Li.IsL w a1 t.vs) (hl : t.ws.length + lets t.ws + t.vs.length ≤ 1048576) :
    Calls Tryz.prog 76 #[.agg #[.slice a0 t.ws.length c0, .slice a1 t.vs.length c1]] w fun e w' => e = .returned (.bool (kok t)) ∧ Below w.heap.size w w' := by
  have hz : ∀ j (hj : j < t.ws.length), t.ws[j].size ≤ 1048576 := fun j hj => by have := Tb.lets_at t.ws j hj; omega
  obtain ⟨n, hn⟩ : ∃ n, t.ws.length = n := ⟨_, rfl⟩
  obtain ⟨q, hq⟩ : ∃ n, t.vs.length = n := ⟨_, rfl⟩
  by_cases g1 : n ≤ 40
  rotate_left
  · have HR : Hid (kok t = false) := by show _ = _; simp [kok, hn, g1]
    have g1' : (40 : Int) < n := by omega
    rw [hn, hq] at hl ⊢
    clear hz
    go_enter Tryz.func76, Tryz.ntmps76
    go_wp2
    go_ret
    exact ⟨ret_bool HR.out.symm, (Below.refl _ _).alloc (Nat.le_refl _) _⟩
  by_cases g2 : q = n
  rotate_left
  · have HR : Hid (kok t = false) := by show _ = _; simp [kok, hn, hq, g2]
    have g2' : ((q : Int) != (n : Int)) = true := by simp; omega
    have g1' : ¬ (40 : Int) < n := by omega
    rw [hn, hq] at hl ⊢
    clear hz
    go_enter Tryz.func76, Tryz.ntmps76
    go_wp2
    go_ret
    exact ⟨ret_bool HR.out.symm, (Below.refl _ _).alloc (Nat.le_refl _) _⟩
  have hqn : t.vs.length = t.ws.length := by omega
  have HQN : Hid (t.vs.length = t.ws.length) := hqn
  have g2' : ((n : Int) != (n : Int)) = false := by simp
  have g1' : ¬ (40 : Int) < n := by omega
  have HN : Hid (t.ws.length = n) := hn
  have HLL : Hid (t.vs.length ≤ 1048576) := by show _ ≤ _; omega
  have hl' : n ≤ 40 := g1
  rw [hqn, hn]
  clear hqn g2 hq hn hl
  go_enter Tryz.func76, Tryz.ntmps76
  go_wp2_with fail
  obtain ⟨W, hW, hsz, hB, bx⟩ := new1 w [.slice a0 n c0, .slice a1 n c1] 56
  rw [hW]
  clear hW hsz
  have hc := Bw.iall W a1 c1 t.vs (h1.below hB) HLL.out
  rw [HQN.out, HN.out] at hc
  refine hc.mono ?_
  rintro e w' ⟨rfl, hw⟩
  subst w'
  clear hc
  obtain ⟨hbl, ⟨x0, x1⟩, _⟩ := wr2 bx
  cases ha : aok t.vs with
  | false =>
    have HR : Hid (kok t = false) := by show _ = _; simp [kok, ha]
    go_wp2
    go_ret
    exact ⟨ret_bool HR.out.symm, hB⟩
  | true =>
  have HA : Hid (aok t.vs = true) := ha
  clear ha
  go_wp2
  go_loopw [27] (fun i wr => ∃ k : Nat, k ≤ n ∧ i = .int .i64 k ∧ (∀ j (hj : j < t.ws.length), j < k → cwok t.ws[j] = true) ∧ wr = W) (fun i _ => n - (intOf i).toNat)
  case atStart => exact ⟨0, Nat.zero_le _, rfl, fun j hj h => by omega, rfl⟩
  case round =>
    obtain ⟨k, hk, rfl, hall, hwr⟩ := hrel
    subst wr
    by_cases hlt : k < n
    · have hkl : k < t.ws.length := by rw [HN.out]; exact hlt
      rcases h0.below hB with e0 | ⟨sb, so, rfl, hsb, hsc⟩
      · rw [e0] at hkl; simp at hkl
      have d := hsc k hkl
      have hzk := hz k hkl
      have HALL : Hid (∀ j (hj : j < t.ws.length), j < k → cwok t.ws[j] = true) := hall
      have HNO : Hid (cwok t.ws[k] = false → kok t = false) := fun e => by simp [kok, all_no hkl e]
      have HYE : Hid (cwok t.ws[k] = true → ∀ j (hj : j < t.ws.length), j < k + 1 → cwok t.ws[j] = true) := fun e j hj h => by
        by_cases e' : j = k
        · subst e'; exact e
        · exact HALL.out j hj (by omega)
      obtain ⟨s, hs⟩ : ∃ s, t.ws[k] = s := ⟨_, rfl⟩
      rw [hs] at d hzk HNO HYE
      clear hsc hall hs
      go_wp2_with fail
      refine (icw _ s (by omega)).mono ?_
      rintro e w' ⟨rfl, hw⟩
      subst w'
      cases hcw : cwok s with
      | false =>
        have HR : Hid (kok t = false) := HNO.out hcw
        go_wp2
        go_ret
        exact ⟨ret_bool HR.out.symm, hB⟩
      | true =>
        have HR := HYE.out hcw
        have HR' : Hid (∀ j (hj : j < t.ws.length), j < k + 1 → cwok t.ws[j] = true) := HR
        clear HR
        go_wp2
        go_roundw
        case rel => exact ⟨k + 1, by omega, by go_num, HR'.out, by simp⟩
        case measure => simp [intOf]; omega
    · have hcw : t.ws.all cwok = true := all_yes (fun j hj => hall j hj (by have := HN.out; omega))
      have HV : Hid (kok t = decide ((dictOf t.ws).length = n)) := by
        show _ = _
        have e1 := HN.out
        have e2 := HQN.out
        simp [kok, HA.out, hcw, e1, e2, g1]
      have hdl : (dictOf t.ws).length ≤ 40 := by have := dictOf_len t.ws; have := HN.out; omega
      have hx := h0.below hB
      have HX : Hid (Ls.IsS W a0 t.ws) := hx
      have HZ : Hid (∀ j (hj : j < t.ws.length), t.ws[j].size ≤ 1048576) := hz
      have HB : Hid (Below w.heap.size w W) := hB
      have HBX : Hid (Wr W w.heap.size 0 [.slice a0 n c0, .slice a1 n c1]) := bx
      have HBD : Hid (Below W.heap.size W W.drew) := (Below.refl W.heap.size W).drew
      clear hall hcw hx h0 h1 hz hB bx
      go_wp2_with fail
      go_region_held3 (fun w' => w'.cell? ⟨w.heap.size, 0, none⟩ = some (.slice a0 n c0)) (go_keep) (first
        | (go_at_call 106
           have hc := Di.idict W.drew a0 c0 t.ws (HX.out.below HBD.out) (by have := HN.out; omega) HZ.out
           rw [HN.out] at hc
           refine hc.mono ?_
           rintro e w1 ⟨vd, rfl, od, hb⟩
           obtain ⟨ad, cd, rfl, _⟩ := od.iss
           have HY : Hid (Below W.heap.size W w1) := HBD.out.trans hb
           obtain ⟨_, ⟨y0, y1⟩, _⟩ := wr2 (HBX.out.below HY.out)
           clear hb hc od y1))
      have hB := HB.out.trans (HY.out.mono HB.out.size)
      clear HY
      go_wp2
      go_ret
      refine ⟨?_, hB⟩
      rw [HV.out]
      exact ret_bool (by rw [Bool.eq_iff_iff]; simp; omega)
set_option maxHeartbeats 2000000 in
theorem itrees (w : World) (a : Option Addr) (c : Nat) (ts : List Tr.T) (h : IsT w a ts) (hl : ts.length + szT ts ≤ 1048576) :
  Calls Tryz.prog 48 #[.slice a ts.length c] w fun e w' => e = .returned (.bool (decide (ts.length ≤ 12) && allok ts)) ∧ Below w.heap.size w w' := by
 by_cases g1 : ts.length ≤ 12
 rotate_left
 ·
  have HR : Hid ((decide (ts.length ≤ 12) && allok ts) = false) := by show _ = _; simp [g1]
  have g1' : (12 : Int) < ts.length := by omega
  go_enter Tryz.func48, Tryz.ntmps48
  go_wp2
  go_ret
  exact ⟨ret_bool HR.out.symm, Below.refl _ _⟩
 have HD : Hid ((decide (ts.length ≤ 12) && allok ts) = allok ts) := by show _ = _; simp [g1]
 have g1' : ¬ (12 : Int) < ts.length := by omega
 go_enter Tryz.func48, Tryz.ntmps48
 go_wp2
 go_loopw [10] (fun i wr => ∃ k : Nat, k ≤ ts.length ∧ i = .int .i64 k ∧ (∀ j (hj : j < ts.length), j < k → Tr.tok ts[j] = true) ∧ Below w.heap.size w wr) (fun i _ => ts.length - (intOf i).toNat)
 case atStart => exact ⟨0, Nat.zero_le _, rfl, fun j hj h => by omega, Below.refl _ _⟩
 case round =>
  obtain ⟨k, hk, rfl, hall, hB⟩ := hrel
  by_cases hlt : k < ts.length
  ·
   rcases h.below hB with e0 | ⟨b, off, rfl, hb, hc⟩
   ·
    rw [e0] at hlt; simp at hlt
   obtain ⟨_, _, ⟨x0, x1⟩, a0, c0, a1, c1, rfl, rfl, i0, i1⟩ := hc k hlt
   have hz : ts[k].sp.length + ts[k].lv.length ≤ szT ts := Tm.szT_at ts k hlt
   have HNO : Hid (Tr.tok ts[k] = false → allok ts = false) := fun e => Sw.allok_no hlt e
   have HYE : Hid (Tr.tok ts[k] = true → ∀ j (hj : j < ts.length), j < k + 1 → Tr.tok ts[j] = true) := fun e j hj h => by
    by_cases e' : j = k
    ·
     subst e'; exact e
    ·
     exact hall j hj (by omega)
   obtain ⟨t, ht⟩ : ∃ t, ts[k] = t := ⟨_, rfl⟩
   rw [ht] at x0 x1 i0 i1 hz HNO HYE
   clear hc ht hall
   go_wp2_with fail
   obtain ⟨W, hW⟩ : ∃ W, wr.alloc (.cells #[.slice a0 t.sp.length c0, .slice a1 t.lv.length c1] 60) = W := ⟨_, rfl⟩
   have hbW : Below wr.heap.size wr W := by
    rw [← hW]; exact (Below.refl _ _).alloc (Nat.le_refl _) _
   rw [hW]
   clear hW
   refine (Tw.itok _ _ _ _ _ t (i0.below hbW) (i1.below hbW) (by omega)).mono ?_
   rintro e w1 ⟨rfl, hb1⟩
   have hB := hB.trans ((hbW.trans (hb1.mono hbW.size)).mono hB.size)
   clear hb1 hbW x0 x1 i0 i1
   cases htok : Tr.tok t with
   | false =>
    have HR : Hid (allok ts = false) := HNO.out htok
    go_wp2
    go_ret
    exact ⟨ret_bool (by rw [HD.out, HR.out]), hB⟩
   | true =>
    have HR := HYE.out htok
    have HR' : Hid (∀ j (hj : j < ts.length), j < k + 1 → Tr.tok ts[j] = true) := HR
    clear HR
    go_wp2
    go_roundw
    case rel => exact ⟨k + 1, by omega, by go_num, HR'.out, hB⟩
    case measure => simp [intOf]; omega
  ·
   have HR : Hid (allok ts = true) := Sw.allok_all (fun j hj => hall j hj (by omega))
   clear hall
   go_wp2
   go_ret
   exact ⟨ret_bool (by rw [HD.out, HR.out]), hB⟩
theorem wcols_n {n c : Int} (h : sok n c = true) : ((Wc.wcols c []).length : Int) = ncol c := by
 obtain ⟨_, h1, h2⟩ := Tk.sok_iff.1 h
 unfold Wc.wcols ncol
 by_cases e : c = 2
 ·
  simp [e, Wc.cats]
 ·
  simp [e, Wc.cats]; omega
set_option maxHeartbeats 4000000 in
theorem ictrs (w : World) (n c : Int) (a : Option Addr) (ca : Nat) (ks : List Kv) (h : IsK w a ks) (hl : ks.length + ksz ks ≤ 1048576) (hs : sok n c = true) :
  Calls Tryz.prog 49 #[.agg #[.int .i64 n, .int .i64 c], .slice a ks.length ca] w fun e w' => e = .returned (.bool (decide ((ks.length : Int) = ncol c) && ks.all kok)) ∧ Below w.heap.size w w' := by
 have ht : Tk.tok n c [] = true := by simp [Tk.tok, hs]
 have HWN := wcols_n hs
 have HWN' : Hid (((Wc.wcols c []).length : Int) = ncol c) := HWN
 have hwl : (Wc.wcols c []).length ≤ 3 := by have := Tk.sok_iff.1 hs; unfold ncol at HWN; split at HWN <;> omega
 have HT : Hid (Tk.tok n c [] = true) := ht
 clear ht HWN hs
 go_enter Tryz.func49, Tryz.ntmps49
 go_wp2_with fail
 obtain ⟨W, hW, hsz, hB, bx⟩ := new1 w [.int .i64 n, .int .i64 c] 25
 rw [hW]
 clear hW hsz
 refine (Wc.iwc W n c none 0 [] (.inl rfl) (by simp [Tb.szR]) HT.out).mono ?_
 rintro e w1 ⟨v, rfl, ov, hb⟩
 obtain ⟨av, cv, rfl, _⟩ := ov.isc
 have hB := hB.trans (hb.mono hB.size)
 clear hb ov bx
 obtain ⟨L, hL⟩ : ∃ L, (Wc.wcols c []).length = L := ⟨_, rfl⟩
 rw [hL] at HWN' hwl ⊢
 clear hL
 by_cases g : ks.length = L
 rotate_left
 ·
  have HR : Hid ((decide ((ks.length : Int) = ncol c) && ks.all kok) = false) := by
   show _ = _
   rw [← HWN'.out, decide_eq_false (by omega)]; rfl
  have g' : ((ks.length : Int) != (L : Int)) = true := by simp; omega
  clear g
  go_wp2
  go_ret
  exact ⟨ret_bool HR.out.symm, hB⟩
 have HD : Hid ((decide ((ks.length : Int) = ncol c) && ks.all kok) = ks.all kok) := by
  show _ = _
  rw [← HWN'.out, decide_eq_true (by omega)]; rfl
 have g' : ((ks.length : Int) != (L : Int)) = false := by simp; omega
 clear g
 go_wp2
 go_loopw [16] (fun i wr => ∃ k : Nat, k ≤ ks.length ∧ i = .int .i64 k ∧ (∀ j (hj : j < ks.length), j < k → kok ks[j] = true) ∧ Below w.heap.size w wr) (fun i _ => ks.length - (intOf i).toNat)
 case atStart => exact ⟨0, Nat.zero_le _, rfl, fun j hj h => by omega, hB⟩
 case round =>
  obtain ⟨k, hk, rfl, hall, hB⟩ := hrel
  clear g'
  by_cases hlt : k < ks.length
  ·
   rcases h.below hB with e0 | ⟨b, off, rfl, hb, hc⟩
   ·
    rw [e0] at hlt; simp at hlt
   obtain ⟨a0, c0, a1, c1, ⟨x0, x1⟩, i0, i1⟩ := hc k hlt
   have hz := Kt.ksz_at ks k hlt
   have HNO : Hid (kok ks[k] = false → ks.all kok = false) := fun e => all_no hlt e
   have HYE : Hid (kok ks[k] = true → ∀ j (hj : j < ks.length), j < k + 1 → kok ks[j] = true) := fun e j hj h => by
    by_cases e' : j = k
    ·
     subst e'; exact e
    ·
     exact hall j hj (by omega)
   obtain ⟨t, ht⟩ : ∃ t, ks[k] = t := ⟨_, rfl⟩
   rw [ht] at x0 x1 i0 i1 hz HNO HYE
   clear hc ht hall
   go_wp2_with fail
   obtain ⟨W, hW⟩ : ∃ W, wr.alloc (.cells #[.slice a0 t.ws.length c0, .slice a1 t.vs.length c1] 56) = W := ⟨_, rfl⟩
   have hbW : Below wr.heap.size wr W := by
    rw [← hW]; exact (Below.refl _ _).alloc (Nat.le_refl _) _
   rw [hW]
   clear hW
   refine (ikok _ _ _ _ _ t (i0.below hbW) (i1.below hbW) (by omega)).mono ?_
   rintro e w2 ⟨rfl, hb1⟩
   have hB := hB.trans ((hbW.trans (hb1.mono hbW.size)).mono hB.size)
   clear hb1 hbW x0 x1 i0 i1
   cases htok : kok t with
   | false =>
    have HR : Hid (ks.all kok = false) := HNO.out htok
    go_wp2
    go_ret
    exact ⟨ret_bool (by rw [HD.out, HR.out]), hB⟩
   | true =>
    have HR := HYE.out htok
    have HR' : Hid (∀ j (hj : j < ks.length), j < k + 1 → kok ks[j] = true) := HR
    clear HR
    go_wp2
    go_roundw
    case rel => exact ⟨k + 1, by omega, by go_num, HR'.out, hB⟩
    case measure => simp [intOf]; omega
  ·
   have HR : Hid (ks.all kok = true) := all_yes (fun j hj => hall j hj (by omega))
   clear hall
   go_wp2
   go_ret
   exact ⟨ret_bool (by rw [HD.out, HR.out]), hB⟩
set_option maxHeartbeats 4000000 in
theorem imok (w : World) (ak ax : Option Addr) (ck ct : Nat) (m : M) (h : Rm w ak ax m) (hl : m.sz ≤ 1048576) :
  Calls Tryz.prog 25 #[.agg #[.int .i64 m.n, .int .i64 m.c, .int .i64 m.prior, .int .i64 m.base, .slice ak m.ks.length ck, .slice ax m.ts.length ct]] w fun e w' => e = .returned (.bool (mok m)) ∧ Below w.heap.size w w' := by
 have HL : Hid (m.ks.length + ksz m.ks ≤ 1048576 ∧ m.ts.length + szT m.ts ≤ 1048576) := by unfold M.sz at hl; exact ⟨by omega, by omega⟩
 clear hl
 go_enter Tryz.func25, Tryz.ntmps25
 go_wp2_with fail
 obtain ⟨W, hW, hsz, hB, bx⟩ := new1 w [.int .i64 m.n, .int .i64 m.c, .int .i64 m.prior, .int .i64 m.base, .slice ak m.ks.length ck, .slice ax m.ts.length ct] 29
 rw [hW]
 clear hW hsz
 refine (Tk.isch _ _ _).mono ?_
 rintro e w1 ⟨rfl, hb⟩
 have bx := bx.below hb
 have hB := hB.trans (hb.mono hB.size)
 clear hb
 obtain ⟨_, ⟨x0, x1, x2, x3, x4, x5⟩, _⟩ := wr6 bx
 cases h1 : sok m.n m.c with
 | false =>
  have HR : Hid (mok m = false) := by show _ = _; simp [mok, h1]
  go_wp2
  go_ret
  exact ⟨ret_bool HR.out.symm, hB⟩
 | true =>
 have H1 : Hid (sok m.n m.c = true) := h1
 clear h1
 go_wp2_with fail
 refine (Cf.iprior _ _).mono ?_
 rintro e w' ⟨rfl, hw⟩
 subst w'
 cases h2 : btw m.prior (-1000000) 1000000 with
 | false =>
  have HR : Hid (mok m = false) := by show _ = _; simp [mok, h2]
  go_wp2
  go_ret
  exact ⟨ret_bool HR.out.symm, hB⟩
 | true =>
 have H2 : Hid (btw m.prior (-1000000) 1000000 = true) := h2
 clear h2
 go_wp2_with fail
 refine (Bw.iok _ _).mono ?_
 rintro e w' ⟨rfl, hw⟩
 subst w'
 cases h3 : fok m.base with
 | false =>
  have HR : Hid (mok m = false) := by show _ = _; simp [mok, h3]
  go_wp2
  go_ret
  exact ⟨ret_bool HR.out.symm, hB⟩
 | true =>
 have H3 : Hid (fok m.base = true) := h3
 clear h3
 go_wp2_with fail
 refine (itrees _ _ _ m.ts (h.t.below hB) HL.out.2).mono ?_
 rintro e w2 ⟨rfl, hb⟩
 have bx := bx.below hb
 have hB := hB.trans (hb.mono hB.size)
 clear hb x0 x1 x2 x3 x4 x5
 obtain ⟨_, ⟨x0, x1, x2, x3, x4, x5⟩, _⟩ := wr6 bx
 cases h4 : (decide (m.ts.length ≤ 12) && allok m.ts) with
 | false =>
  have HR : Hid (mok m = false) := by
   show _ = _
   unfold mok
   rw [Bool.and_eq_false_iff] at h4
   rcases h4 with h4 | h4 <;> simp [h4] 
  go_wp2
  go_ret
  exact ⟨ret_bool HR.out.symm, hB⟩
 | true =>
 have HR : Hid (mok m = (decide ((m.ks.length : Int) = ncol m.c) && m.ks.all kok)) := by
  show _ = _
  rw [Bool.and_eq_true] at h4
  unfold mok
  rw [H1.out, H2.out, H3.out, h4.1, h4.2]
  simp
 clear h4
 go_wp2_with fail
 refine (ictrs _ _ _ _ _ m.ks (h.k.below hB) HL.out.1 H1.out).mono ?_
 rintro e w3 ⟨rfl, hb⟩
 have hB := hB.trans (hb.mono hB.size)
 clear hb x0 x1 x2 x3 x4 x5
 go_wp2
 go_ret
 exact ⟨ret_bool HR.out.symm, hB⟩
end Go.Proofs.YtglllflleabmbaaGreat.Md
