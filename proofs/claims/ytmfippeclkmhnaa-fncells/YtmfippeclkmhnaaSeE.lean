/-
  CellsOf of the program and of the model.
-/
import Derived.Test.YtmfippeclkmhnaaSeD
import Derived.Test.YtmfippeclkmhnaaApI
import Derived.Deep.AppendLies
import Derived.Laws.Cover3
namespace Go.Proofs.Ytmfippeclkmhnaa.Sw7
open Go.RowKit
open Go.Proofs.Ytmfippeclkmhnaa.Li (ret_bool ret_int below_none IsL btw)
open Go.Proofs.Ytmfippeclkmhnaa.Tm (IsP pv pv_length)
open Go.Proofs.Ytmfippeclkmhnaa.Se Go.Proofs.Ytmfippeclkmhnaa.Sv
set_option linter.unusedVariables false

theorem pv_one (ps : List (Int × Int)) : ∀ u ∈ pv ps, u.oneCell' = true := by
  induction ps with
  | nil => intro u hu; simp [pv] at hu
  | cons p ps ih =>
    intro u hu
    simp only [pv, List.mem_cons] at hu
    rcases hu with rfl | rfl | hu
    · rfl
    · rfl
    · exact ih u hu
theorem news_p {w : World} {b off : Nat} {ps : List (Int × Int)} (h : Wr w b off (pv ps)) : ∀ j u, (pv ps)[j]? = some u → w.cell? ((⟨b, off, none⟩ : Addr).add j) = some u := by
  intro j u hj
  rw [Go.WideShapes.add_plain]
  obtain ⟨hlt, e⟩ := List.getElem?_eq_some_iff.1 hj
  rw [(h.2 j hlt).1, e]
theorem wr_take {w : World} {g off : Nat} {vs : List Value} (h : Wr w g off vs) (n : Nat) : Wr w g off (vs.take n) := by
  refine ⟨h.1, fun j hj => ?_⟩
  have hj' : j < vs.length := by simp at hj; omega
  have := h.2 j hj'
  rw [List.getElem_take]
  exact this
theorem pv_take (ps : List (Int × Int)) (n : Nat) : (pv ps).take (n * 2) = pv (ps.take n) := by
  induction ps generalizing n with
  | nil => simp [pv]
  | cons p ps ih =>
    cases n with
    | zero => simp [pv]
    | succ n => rw [show (n + 1) * 2 = n * 2 + 1 + 1 by omega]; simp [pv, ih]
theorem emptyC (w : World) (base : Nat) (hb : base ≤ w.heap.size) : (w.alloc (.cells #[] 36)).ownsRow base 36 2 (.slice (some ⟨w.heap.size, 0, none⟩) 0 0) 0 [] :=
  World.ownsRow_made w #[] 0 hb (by unfold maxLen; omega) (by simp)
theorem eql_nil {P : Program} (w : World) (t e : TypeId) (a : Addr) (l c : Nat) (h : P.underlying t = some (.slice e)) : (binOp .eql t (.slice (some a) l c) (.slice none 0 0)).run P w = .ok (.bool false) w := by
  simp only [binOp]
  simp [run_equal_slice_nil w t e (some a) l c h]
set_option maxRecDepth 100000 in
set_option maxHeartbeats 1000000 in
theorem cloneC (w : World) (b off n c : Nat) (ps : List (Int × Int)) (hn : ps.length = n) (hp : Wr w b off (pv ps)) (h0 : 0 < n) (hl : n ≤ 1048576) :
    Calls Try.prog 23 #[.slice (some ⟨b, off, none⟩) n c] w fun e w' => ∃ g cap, e = .returned (.slice (some ⟨g, 0, none⟩) n cap) ∧ OwC w' (fun k => w.heap.size ≤ k ∧ k < w'.heap.size) (.slice (some ⟨g, 0, none⟩) n cap) ps ∧ Below w.heap.size w w' := by
  obtain ⟨i0, hi, hz0, hz1, hz2⟩ := info_parts info_cell
  subst hn
  have hB0 : Below w.heap.size w (w.alloc (.cells #[] 36)) := (Below.refl _ _).alloc (Nat.le_refl _) _
  go_enter Try.func23, Try.ntmps23
  have hnil : ∀ w0 : World, Sem.run Try.prog (binOp .eql 32 (.slice (some ⟨b, off, none⟩) ps.length c) (.slice none 0 0)) w0 = .ok (.bool false) w0 := fun w0 => eql_nil w0 _ _ _ _ _ Try.underlying32
  go_wp2_with (at_builtin; refine wpList_append_lies _ rfl _ _ 32 rfl w.heap.size 36 i0 (.agg #[.int .i64 0, .int .i64 0]) 2 16 Try.underlying32 hi hz0 hz1 hz2 rfl (by decide) (.slice (some ⟨w.heap.size, 0, none⟩) 0 0) 0 [] rfl (emptyC w _ (Nat.le_refl _)) ⟨b, off, none⟩ ps.length c (pv ps) rfl (by rw [pv_length]) (news_p (hp.below hB0)) (pv_one _) h0 (by unfold maxLen; omega) (by omega) (by simp) _ rfl ?_)
  intro g cap w1 hown hgrow _ _
  have ho : w1.ownsRow w.heap.size 36 2 (.slice (some ⟨g, 0, none⟩) ps.length cap) ps.length (pv ps) := by
    first | (rw [Nat.zero_add, List.nil_append] at hown; exact hown) | exact hown
  have hoc := owc_row ho
  have hB1 : Below w.heap.size w w1 := Ai.below_app hB0 (by simp) hgrow (fun k hk => by simp [Value.ownBlock] at hk; omega)
  clear hown hgrow ho
  go_wp2
  go_ret
  refine ⟨g, cap, by simp, hoc, hB1⟩
theorem zeros16 : [Value.int .i64 0, .int .i64 0, .int .i64 0, .int .i64 0, .int .i64 0, .int .i64 0, .int .i64 0, .int .i64 0, .int .i64 0, .int .i64 0, .int .i64 0, .int .i64 0, .int .i64 0, .int .i64 0, .int .i64 0, .int .i64 0, .int .i64 0, .int .i64 0, .int .i64 0, .int .i64 0, .int .i64 0, .int .i64 0, .int .i64 0, .int .i64 0, .int .i64 0, .int .i64 0, .int .i64 0, .int .i64 0, .int .i64 0, .int .i64 0, .int .i64 0, .int .i64 0] = pv (none0 16) := rfl
theorem tally_getD (ids gs : List Int) (n j k : Nat) (hk : k < n) (hj : j ≤ 40) (h : ∀ i, i < j → -2000000 ≤ gs.getD i 0 ∧ gs.getD i 0 ≤ 2000000) : cok ((tally ids gs (none0 n) j).getD k (0, 0)) := by
  have hl : (tally ids gs (none0 n) j).length = n := by rw [tally_length, none0_length]
  have := tally_cok ids gs n j hj h k (by omega)
  rw [List.getD_eq_getElem?_getD, List.getElem?_eq_getElem (by omega), Option.getD_some]
  exact this
set_option maxHeartbeats 2000000 in
theorem icellsof (w : World) (a0 a1 a2 : Option Addr) (c0 c1 c2 : Nat) (r : R) (h : Rd w a0 a1 a2 r) :
    Calls Try.prog 7 #[.agg #[.slice a0 r.x.length c0, .slice a1 r.g.length c1, .slice a2 r.ids.length c2, .int .i64 r.lv, .int .i64 r.l2]] w fun e w' => ∃ v, e = .returned v ∧ OwC w' (fun k => w.heap.size ≤ k ∧ k < w'.heap.size) v (cells r) ∧ Below w.heap.size w w' := by
  go_enter Try.func7, Try.ntmps7
  go_wp2_with fail
  obtain ⟨W, hW, hsz, hB, bx⟩ := new1 w [.slice a0 r.x.length c0, .slice a1 r.g.length c1, .slice a2 r.ids.length c2, .int .i64 r.lv, .int .i64 r.l2] 27
  rw [hW]
  clear hW hsz
  refine (irows _ _ _ _ _ _ _ r (h.below hB)).mono ?_
  rintro e w1 ⟨rfl, hb⟩
  have bx := bx.below hb
  have hB := hB.trans (hb.mono hB.size)
  clear hb
  have h := h.below hB
  cases hv : rok r with
  | false =>
    have HR : Hid (OwC w1 (fun k => w.heap.size ≤ k ∧ k < w1.heap.size) (.slice none 0 0) (cells r)) := by show OwC _ _ _ _; rw [cells_no hv]; exact ⟨none, 0, rfl, .inl rfl⟩
    go_wp2
    go_ret
    exact ⟨_, rfl, HR.out, hB⟩
  | true =>
    have HK : Hid (ROk r) := rok_iff.1 hv
    have HV : Hid (rok r = true) := hv
    obtain ⟨⟨s1, s2, s3, s4, s5⟩, hrow⟩ := rok_iff.1 hv
    clear hv hrow
    obtain ⟨_, ⟨x0, x1, x2, x3, x4⟩, _⟩ := wr5 bx
    go_wp2
    obtain ⟨W2, hW2, hsz2, hb2, bt⟩ := new1 w1 (pv (none0 16)) 56
    rw [show w1.alloc (.cells #[.int .i64 0, .int .i64 0, .int .i64 0, .int .i64 0, .int .i64 0, .int .i64 0, .int .i64 0, .int .i64 0, .int .i64 0, .int .i64 0, .int .i64 0, .int .i64 0, .int .i64 0, .int .i64 0, .int .i64 0, .int .i64 0, .int .i64 0, .int .i64 0, .int .i64 0, .int .i64 0, .int .i64 0, .int .i64 0, .int .i64 0, .int .i64 0, .int .i64 0, .int .i64 0, .int .i64 0, .int .i64 0, .int .i64 0, .int .i64 0, .int .i64 0, .int .i64 0] 56) = W2 from hW2]
    clear hW2 x0 x1 x2 x3 x4
    have hws := hB.size
    have hgt : w1.heap.size < W2.heap.size := by omega
    clear hsz2
    go_loopw [12] (fun i wr => ∃ k : Nat, k ≤ r.ids.length ∧ i = .int .i64 k ∧ Wr wr w1.heap.size 0 (pv (tally r.ids r.g (none0 16) k)) ∧ Below w1.heap.size w1 wr) (fun i _ => r.ids.length - (intOf i).toNat)
    case atStart => exact ⟨0, Nat.zero_le _, rfl, bt, hb2⟩
    case round =>
      obtain ⟨k, hk, rfl, ht, hb⟩ := hrel
      have hBr := hB.trans (hb.mono hB.size)
      have HT : Hid (Wr wr w1.heap.size 0 (pv (tally r.ids r.g (none0 16) k))) := ht
      obtain ⟨_, ⟨x0, x1, x2, x3, x4⟩, _⟩ := wr5 (bx.below hb)
      clear ht
      by_cases hlt : k < r.ids.length
      · obtain ⟨xb, xo, gb, go, ib, io, a', c', rfl, rfl, rfl, ⟨hl0, hl1, hl2⟩, _, _, hg, hi⟩ := rd_row (h.below hb) s2 s3 k (by omega)
        have hrw := HK.out.2 k (by omega)
        obtain ⟨_, hgr, hid⟩ := hrw
        obtain ⟨j, hj⟩ : ∃ j : Nat, r.ids.getD k 0 = (j : Int) := ⟨(r.ids.getD k 0).toNat, by omega⟩
        have HS : Hid (tally r.ids r.g (none0 16) (k + 1) = bump (tally r.ids r.g (none0 16) k) (j : Int) (r.g.getD k 0)) := by show tally _ _ _ (k + 1) = _; rw [← hj]; rfl
        have HCK : Hid (cok ((tally r.ids r.g (none0 16) k).getD j (0, 0))) := tally_getD _ _ _ _ _ (by omega) (by omega) (fun i hi' => (HK.out.2 i (by omega)).2.1)
        rw [hj] at hi hid
        have hlt' : k < r.g.length := by omega
        obtain ⟨G, hG⟩ : ∃ G, r.g.getD k 0 = G := ⟨_, rfl⟩
        rw [hG] at hg hgr HS
        clear hj hG
        go_wp2_with fail
        clear x0 x1 x2 x3 x4 hg hi
        refine (iadd _ _ j _ _ HT.out (by rw [tally_length, none0_length]) (by omega) hgr HCK.out).mono ?_
        rintro e w2 ⟨⟨v, rfl⟩, ht2, hg2, hz2⟩
        have HT2 : Hid (Wr w2 w1.heap.size 0 (pv (tally r.ids r.g (none0 16) (k + 1)))) := by show Wr _ _ _ _; rw [HS.out]; exact ht2
        have hb := hb.trans (show Below w1.heap.size wr w2 from ⟨hg2.os, hg2.tape, hg2.output, hg2.size, fun q hq => hg2.block q (by have := hb.size; omega) (fun e => by cases e; omega)⟩)
        clear ht2 hg2 hz2 HT
        go_wp2
        go_roundw
        case rel => exact ⟨k + 1, by omega, by go_num, HT2.out, hb⟩
        case measure => simp [intOf]; omega
      · obtain rfl : k = r.ids.length := by omega
        obtain ⟨q, hq⟩ : ∃ q : Nat, r.lv = (q : Int) := ⟨r.lv.toNat, by omega⟩
        have HQ : Hid (r.lv.toNat = q) := by show _ = _; omega
        have HP : Hid (Wr wr w1.heap.size 0 (pv (cells r))) := by
          have h1 := wr_take HT.out (q * 2)
          rw [pv_take, (tally_take r.ids r.g (none0 16) q r.ids.length (fun i hi => by have := ids_lt HV.out i hi; rw [HQ.out] at this; exact this)).1, none0_take 16 q (by omega)] at h1
          show Wr _ _ _ _; rw [cells_ok HV.out, HQ.out]; exact h1
        have HLQ : Hid ((cells r).length = q) := by show _ = _; rw [cells_ok HV.out, tally_length, none0_length]; exact HQ.out
        have hq0 : 0 < q := by omega
        have hq16 : q ≤ 16 := by omega
        have hq16' : (q : Int) ≤ 16 := by omega
        rw [hq] at x3
        clear HT hlt hq s4
        go_wp2_with fail
        clear x0 x1 x2 x3 x4
        refine (cloneC _ _ _ _ _ (cells r) HLQ.out HP.out hq0 (by omega)).mono ?_
        rintro e w3 ⟨g, cap, rfl, ho, hb3⟩
        have HO : Hid (OwC w3 (fun k => w.heap.size ≤ k ∧ k < w3.heap.size) (.slice (some ⟨g, 0, none⟩) q cap) (cells r)) := ho.mono (fun k hk => ⟨by have := hBr.size; omega, hk.2⟩)
        have hBr := hBr.trans (hb3.mono hBr.size)
        clear ho hb3
        go_wp2
        go_ret
        exact ⟨_, rfl, HO.out, hBr⟩
end Go.Proofs.Ytmfippeclkmhnaa.Sw7
