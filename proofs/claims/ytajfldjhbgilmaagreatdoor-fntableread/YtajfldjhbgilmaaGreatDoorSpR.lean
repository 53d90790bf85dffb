/-
  The model's TableRead.
-/
import Derived.Test.YtajfldjhbgilmaaGreatDoorRdT
import Derived.Test.YtajfldjhbgilmaaGreatDoorSpP
import Derived.Test.YtajfldjhbgilmaaGreatDoorSpM
import Derived.Test.YtajfldjhbgilmaaGreatDoorSpQ
namespace Go.Proofs.YtajfldjhbgilmaaGreatDoor.Sp
set_option maxRecDepth 100000
open Go.RowKit
open Go.Proofs.YtajfldjhbgilmaaGreatDoor.Tb
open Go.Proofs.YtajfldjhbgilmaaGreatDoor.Tk
open Go.Proofs.YtajfldjhbgilmaaGreatDoor.Rd
open Go.Proofs.YtajfldjhbgilmaaGreatDoor.Li (ret_bool grown_refl grown_trans grown_set below_none)
/-- What stands while a text is read: the schema's variable, the result's, the frame. -/
structure Fr (w : World) (n c : Int) (W : World) : Prop where
  s0 : W.cell? ⟨w.heap.size, 0, none⟩ = some (.int .i64 n)
  s1 : W.cell? ⟨w.heap.size, 1, none⟩ = some (.int .i64 c)
  br : Box3 W (w.heap.size + 1) (.int .i64 0) (.int .i64 0) (.slice none 0 0)
  be : Below w.heap.size w W
theorem Fr.kept {w W W1 : World} {n c : Int} (h : Fr w n c W) (hB : Below (w.heap.size + 2) W W1) : Fr w n c W1 := by
  have e := hB.block w.heap.size (by omega)
  refine ⟨?_, ?_, h.br.keptAt hB.size (hB.block _ (by omega)), h.be.trans (hB.mono (by omega))⟩
  · rw [World.cell?_of_block (a := ⟨w.heap.size, 0, none⟩) e]; exact h.s0
  · rw [World.cell?_of_block (a := ⟨w.heap.size, 1, none⟩) e]; exact h.s1
theorem Fr.below {w W W1 : World} {n c : Int} (h : Fr w n c W) (hB : Below W.heap.size W W1) : Fr w n c W1 := h.kept (hB.mono (by have := h.br.1; omega))
theorem fr_new (w : World) (n c : Int) (T U : TypeId) : Fr w n c ((w.alloc (.cells #[.int .i64 n, .int .i64 c] T)).alloc (.cells #[.int .i64 0, .int .i64 0, .slice none 0 0] U)) := by
  have e : (w.alloc (.cells #[.int .i64 n, .int .i64 c] T)).heap.size = w.heap.size + 1 := by simp
  refine ⟨?_, ?_, ?_, ((Below.refl _ _).alloc (Nat.le_refl _) _).alloc (by simp) _⟩
  · rw [World.cell?_alloc_lt _ _ ⟨w.heap.size, 0, none⟩ (by simp)]; simp
  · rw [World.cell?_alloc_lt _ _ ⟨w.heap.size, 1, none⟩ (by simp)]; simp
  · have := box3_new (w.alloc (.cells #[.int .i64 n, .int .i64 c] T)) (.int .i64 0) (.int .i64 0) (.slice none 0 0) U
    rwa [e] at this
set_option maxHeartbeats 1000000 in
/-- A fault's end. -/
theorem sfail {w W : World} {n c : Int} {T : Int × Int × List Row} (t : Array Value) (h4 : t[4]?.getD undef = .pointer (some ⟨w.heap.size + 1, 0, none⟩)) (h5 : t[5]?.getD undef = .int .i64 T.1) (h6 : t[6]?.getD undef = .int .i64 T.2.1) (h0 : ¬ T.2.1 = 0) (h : Fr w n c W) :
    bodyPost Tryz.prog Tryz.f7 (fun e w' => Ans w w' n c T e ∧ Below w.heap.size w w') Exit.ret { tmps := t, defers := [] } (((W.setCell ⟨w.heap.size + 1, 0, none⟩ (.int .i64 0)).setCell ⟨w.heap.size + 1, 1, none⟩ (.int .i64 0)).setCell ⟨w.heap.size + 1, 2, none⟩ (.slice none 0 0)) := by
  have hX := setAll h.br (.int .i64 0) (.int .i64 0) (.slice none 0 0)
  have hBB := ((h.be.setCell (p := ⟨w.heap.size + 1, 0, none⟩) (by show _ ≤ w.heap.size + 1; omega) (.int .i64 0)).setCell (p := ⟨w.heap.size + 1, 1, none⟩) (by show _ ≤ w.heap.size + 1; omega) (.int .i64 0)).setCell (p := ⟨w.heap.size + 1, 2, none⟩) (by show _ ≤ w.heap.size + 1; omega) (.slice none 0 0)
  obtain ⟨V, hV⟩ : ∃ V, ((W.setCell ⟨w.heap.size + 1, 0, none⟩ (.int .i64 0)).setCell ⟨w.heap.size + 1, 1, none⟩ (.int .i64 0)).setCell ⟨w.heap.size + 1, 2, none⟩ (.slice none 0 0) = V := ⟨_, rfl⟩
  rw [hV] at hX hBB ⊢
  obtain ⟨_, ⟨y0, y1, y2⟩, _⟩ := hX
  exact bodyPost_ret (v := .tuple #[.agg #[.int .i64 0, .int .i64 0, .slice none 0 0], .int .i64 T.1, .int .i64 T.2.1]) (by simp [results, Tryz.results7, go_sem, h4, h5, h6, y0, y1, y2]) rfl ⟨.inr ⟨h0, rfl⟩, hBB⟩
set_option maxHeartbeats 1000000 in
/-- The end of a text that was read to its end. -/
theorem sdone {w W : World} {n c : Int} {T : Int × Int × List Row} {rs : List Row} {ar : Option Addr} {cr lo : Nat} (t : Array Value) (h4 : t[4]?.getD undef = .pointer (some ⟨w.heap.size + 1, 0, none⟩)) (h5 : t[5]?.getD undef = .int .i64 0) (h6 : t[6]?.getD undef = .int .i64 0) (hT : T = (0, 0, rs)) (h : Fr w n c W) (ho : OwnT W lo W.heap.size (.slice ar rs.length cr) rs) (hlo : w.heap.size + 1 < lo) :
    bodyPost Tryz.prog Tryz.f7 (fun e w' => Ans w w' n c T e ∧ Below w.heap.size w w') Exit.ret { tmps := t, defers := [] } (((W.setCell ⟨w.heap.size + 1, 0, none⟩ (.int .i64 n)).setCell ⟨w.heap.size + 1, 1, none⟩ (.int .i64 c)).setCell ⟨w.heap.size + 1, 2, none⟩ (.slice ar rs.length cr)) := by
  have hX := setAll h.br (.int .i64 n) (.int .i64 c) (.slice ar rs.length cr)
  have hO := ((ho.off (grown_set _ (w.heap.size + 1) 0 (.int .i64 n)) (.inl hlo)).off (grown_set _ (w.heap.size + 1) 1 (.int .i64 c)) (.inl hlo)).off (grown_set _ (w.heap.size + 1) 2 (.slice ar rs.length cr)) (.inl hlo)
  have hsz : W.heap.size ≤ (((W.setCell ⟨w.heap.size + 1, 0, none⟩ (.int .i64 n)).setCell ⟨w.heap.size + 1, 1, none⟩ (.int .i64 c)).setCell ⟨w.heap.size + 1, 2, none⟩ (.slice ar rs.length cr)).heap.size := by simp [World.setCell]
  have hBB := ((h.be.setCell (p := ⟨w.heap.size + 1, 0, none⟩) (by show _ ≤ w.heap.size + 1; omega) (.int .i64 n)).setCell (p := ⟨w.heap.size + 1, 1, none⟩) (by show _ ≤ w.heap.size + 1; omega) (.int .i64 c)).setCell (p := ⟨w.heap.size + 1, 2, none⟩) (by show _ ≤ w.heap.size + 1; omega) (.slice ar rs.length cr)
  obtain ⟨V, hV⟩ : ∃ V, ((W.setCell ⟨w.heap.size + 1, 0, none⟩ (.int .i64 n)).setCell ⟨w.heap.size + 1, 1, none⟩ (.int .i64 c)).setCell ⟨w.heap.size + 1, 2, none⟩ (.slice ar rs.length cr) = V := ⟨_, rfl⟩
  rw [hV] at hX hBB hO hsz ⊢
  obtain ⟨_, ⟨y0, y1, y2⟩, _⟩ := hX
  refine bodyPost_ret (v := .tuple #[.agg #[.int .i64 n, .int .i64 c, .slice ar rs.length cr], .int .i64 0, .int .i64 0]) (by simp [results, Tryz.results7, go_sem, h4, h5, h6, y0, y1, y2]) rfl ⟨.inl ⟨by rw [hT], _, rfl, ?_⟩, hBB⟩
  rw [hT]
  exact hO.mono (by omega) hsz
theorem lr_last (N C k : Nat) (l : List UInt8) : Pc.lread N C k [l] = if l = [] then (0, 0, []) else ((k : Int) + 1, 2, []) := rfl
theorem lr_more (N C k : Nat) (l : List UInt8) (ls : List (List UInt8)) (h : ls ≠ []) : Pc.lread N C k (l :: ls) = if (Pc.rread N C (Pc.pcs 44 l)).1 = 0 then if 40 ≤ k then ((k : Int) + 1, 7, []) else Pc.more [(Pc.rread N C (Pc.pcs 44 l)).2] (Pc.lread N C (k + 1) ls) else ((k : Int) + 1, (Pc.rread N C (Pc.pcs 44 l)).1, []) := by
  cases ls with
  | nil => exact absurd rfl h
  | cons q qs => rfl
theorem grown_rows {w2 w3 W w6 : World} {b o : Nat} {v : Value} {r : Option Nat} (h : w2.grownBy w3 (some b)) (hB : Below w3.heap.size w3 W) (hg : W.grownBy w6 r) (hr : ∀ k, r = some k → w2.heap.size ≤ k) : w2.grownBy (w6.setCell ⟨b, o, none⟩ v) (some b) := by
  have h1 : w2.grownBy W (some b) := grown_trans h (grown_of hB)
  have h2 : w2.grownBy w6 (some b) := ⟨hg.os.trans h1.os, hg.tape.trans h1.tape, hg.output.trans h1.output, Nat.le_trans h1.size hg.size, fun k hk hne => (hg.block k (Nat.lt_of_lt_of_le hk h1.size) (fun e => by have := hr k e.symm; omega)).trans (h1.block k hk hne)⟩
  exact grown_trans h2 (grown_set _ _ _ _)
set_option maxHeartbeats 16000000 in
theorem sread (w : World) (n c : Int) (text : ByteArray) (hs : text.size ≤ 1048576) :
    Calls Tryz.prog 7 #[.agg #[.int .i64 n, .int .i64 c], .string text] w fun e w' => Ans w w' n c (Pc.tread n c text.data.toList) e ∧ Below w.heap.size w w' := by
  obtain ⟨T, hT⟩ : ∃ T, Pc.tread n c text.data.toList = T := ⟨_, rfl⟩
  have HT : Hid (Pc.tread n c text.data.toList = T) := hT
  rw [hT]
  clear hT
  obtain ⟨i0, hi, hz0, hz1, hz2⟩ := info_parts info_smp
  obtain ⟨I0, hI, hI0, hI1, hI2⟩ := info_parts Li.info_int
  obtain ⟨J0, hJ, hJ0, hJ1, hJ2⟩ := info_parts Ls.info_str
  go_enter Tryz.func7, Tryz.ntmps7
  go_wp2_with fail
  refine (ssch _ n c).mono ?_
  rintro e w1 ⟨rfl, hB1⟩
  have fr := (fr_new w n c 25 30).below hB1
  clear hB1
  obtain ⟨s0, s1, ⟨hl, ⟨r0, r1, r2⟩, f0, f1, f2⟩, _⟩ := id fr
  cases hq : sok n c
  · have HE : Hid (T = (0, 8, [])) := by
      show _ = _
      rw [← HT.out]; unfold Pc.tread; rw [if_neg (by rw [hq]; simp)]
    go_wp2
    exact sfail _ (by simp) (by rw [HE.out]; simp) (by rw [HE.out]; simp) (by rw [HE.out]; simp) fr
  · by_cases h6 : text.size ≤ 6000
    · have h6' : ¬ (6000 : Int) < (text.size : Int) := by omega
      have hnc : (0 ≤ n ∧ n ≤ 3) ∧ 0 ≤ c ∧ c ≤ 2 := by
        have := hq
        unfold sok at this
        simp at this
        omega
      obtain ⟨N, rfl⟩ : ∃ N : Nat, n = (N : Int) := ⟨n.toNat, by omega⟩
      obtain ⟨C, rfl⟩ : ∃ C : Nat, c = (C : Int) := ⟨c.toNat, by omega⟩
      have hnN : N ≤ 3 := by omega
      have hcC : C ≤ 2 := by omega
      have HE : Hid (T = Pc.more [] (Pc.lread N C 0 (Pc.pieces 10 text.data.toList))) := by
        show _ = _
        have hl : text.data.toList.length ≤ 6000 := by have : text.data.toList.length = text.size := (by simp); omega
        rw [← HT.out, Pc.more_nil _ (lread_ok N C _ 0)]
        unfold Pc.tread
        rw [if_pos hq, if_pos hl]
        rfl
      have HX1 : Hid (w.heap.size + 1 < w1.heap.size) := hl
      clear hnc hq HT
      go_wp2_with fail
      have bx : Box3 (w1.alloc (.cells #[.int .i64 N, .int .i64 C, .slice none 0 0] 30)) w1.heap.size (.int .i64 N) (.int .i64 C) (.slice none 0 0) := box3_new _ _ _ _ _
      have fr := fr.below ((Below.refl _ _).alloc (Nat.le_refl _) (.cells #[.int .i64 N, .int .i64 C, .slice none 0 0] 30))
      refine (parts _ text 10 hs).mono ?_
      rintro e w2 ⟨v, rfl, ow, hB2⟩
      have bx := bx.below hB2
      have fr := fr.below hB2
      obtain ⟨L, hL⟩ : ∃ L, Pc.pieces 10 text.data.toList = L := ⟨_, rfl⟩
      have hLn : 0 < L.length := by rw [← hL]; exact List.length_pos_iff.2 (Pc.pieces_ne _ _)
      have HM : Hid (∀ l ∈ L, l.length ≤ 6000) := by
        intro l hl'
        rw [← hL] at hl'
        have := Pc.pieces_mem 10 _ l hl'
        have e : text.data.toList.length = text.size := by simp
        omega
      have hLm : L.length ≤ 6001 := by
        rw [← hL]
        have := Pc.pieces_len 10 text.data.toList
        have e : text.data.toList.length = text.size := by simp
        omega
      obtain ⟨a, cap, rfl, is⟩ := ow.iss
      have hne : ∀ z, a = some z → z.block ≠ w1.heap.size := fun z hz e => by
        subst hz
        have := (ow.ge z.block rfl).1
        simp at this; omega
      unfold Pc.pcs at is ⊢
      rw [hL] at is HE ⊢
      rw [List.length_map] at *
      clear ow hL s0 s1 r0 r1 r2 f0 f1 f2 hl
      have hxs := fr.br.1
      have hx2 : w.heap.size + 1 < w1.heap.size := HX1.out
      go_wp2
      go_loopw [9] (fun i wr => ∃ k : Nat, k < L.length ∧ i = .int .i64 k ∧ ∃ (rs : List Row) (u : Value), rs.length = k ∧ k ≤ 40 ∧ T = Pc.more rs (Pc.lread N C k (L.drop k)) ∧ Box3 wr w1.heap.size (.int .i64 N) (.int .i64 C) u ∧ OwnT wr w2.heap.size wr.heap.size u rs ∧ w2.grownBy wr (some w1.heap.size)) (fun i _ => L.length - (intOf i).toNat)
      case atStart => exact ⟨0, hLn, rfl, [], _, rfl, by omega, HE.out, bx, OwnT.nil _ _ _, grown_refl _ _⟩
      case round =>
        clear HE
        obtain ⟨k, hk, rfl, rs, u, hrk, hk40, hTT, bxr, hor, hgr⟩ := hrel
        have HK : Hid (rs.length = k) := hrk
        have HT : Hid (T = Pc.more rs (Pc.lread N C k (L.drop k))) := hTT
        clear hrk hTT
        have frr := fr.kept ((gbelow hgr (by have := bx.1; omega)).mono (by omega))
        have isr := is.keptAt hgr.size (fun z hz hlt => hgr.block _ hlt (by simp; exact hne z hz))
        have HD : Hid (L.drop k = L[k] :: L.drop (k + 1)) := List.drop_eq_getElem_cons hk
        have hkm : k < (L.map Pc.ba).length := by rw [List.length_map]; exact hk
        rcases isr with h0 | ⟨pb, po, rfl, hpb, hpc⟩
        · rw [h0] at hkm; simp at hkm
        have hcp := hpc k hkm
        rw [List.getElem_map] at hcp
        have hlk := HM.out L[k] (List.getElem_mem hk)
        obtain ⟨s0, s1, ⟨hl, ⟨r0, r1, r2⟩, f0, f1, f2⟩, _⟩ := id frr
        obtain ⟨hxl, ⟨x0, x1, x2⟩, g0, g1, g2⟩ := id bxr
        obtain ⟨l, hl'⟩ : ∃ l, L[k] = l := ⟨_, rfl⟩
        rw [hl'] at hcp HD hlk
        clear hl' hpc hkm
        by_cases hlast : k = L.length - 1
        · have hq : ((k : Int) == (L.length : Int) - 1) = true := by simp; omega
          have HD2 : Hid (L.drop k = [l]) := by show _ = _; rw [HD.out, List.drop_eq_nil_of_le (by omega)]
          clear hlast
          by_cases he : l = []
          · subst he
            rw [show Pc.ba [] = ⟨#[]⟩ from rfl] at hcp
            have HE : Hid (T = (0, 0, rs)) := by
              show _ = _
              rw [HT.out, HD2.out, lr_last, if_pos rfl]
              exact more_end rs
            obtain ⟨ar, cr, rfl, _⟩ := hor.isr
            go_wp2
            exact sdone _ (by simp) (by simp) (by simp) HE.out frr hor (by have := bx.1; omega)
          · have hemp : (Pc.ba l).toList.isEmpty = false := by
              cases h : (Pc.ba l).toList with
              | nil => exact absurd (by have := Ls.tl_inj (t := ⟨#[]⟩) (h.trans (by kernel_rfl)); rw [← Pc.ba_data l, this]) he
              | cons _ _ => rfl
            have HE : Hid (T = ((k : Int) + 1, 2, [])) := by
              show _ = _
              rw [HT.out, HD2.out, lr_last, if_neg he, more_bad _ _ _ (by decide)]
            clear he
            go_wp2
            exact sfail _ (by simp) (by rw [HE.out]; simp) (by rw [HE.out]; simp) (by rw [HE.out]; simp) frr
        · have hq : ((k : Int) == (L.length : Int) - 1) = false := by simp; omega
          have HD3 : Hid (L.drop (k + 1) ≠ []) := by
            intro e
            have := congrArg List.length e
            rw [List.length_drop] at this
            simp at this; omega
          have HK1 : Hid (k + 1 < L.length) := by show _ < _; omega
          clear hlast
          go_wp2_with fail
          refine (parts wr (Pc.ba l) 44 (by rw [Pc.ba_size]; omega)).mono ?_
          rintro e w3 ⟨v, rfl, ow3, hB3⟩
          rw [Pc.ba_data] at ow3
          have frr := frr.below hB3
          have bxr := bxr.below hB3
          have hor := (hor.below hB3)
          have hgr0 := hgr
          have hgr := grown_trans hgr (grown_of hB3)
          have HC : Hid _ := lr_more N C k l (L.drop (k + 1)) HD3.out
          obtain ⟨a3, cap3, rfl, is3⟩ := ow3.iss
          have HMp : Hid (∀ p ∈ Pc.pcs 44 l, p.size ≤ 6000) := fun p hp => by have := Pc.pcs_mem 44 l p hp; omega
          have hpl : (Pc.pcs 44 l).length ≤ 6001 := by unfold Pc.pcs; rw [List.length_map]; have := Pc.pieces_len 44 l; omega
          obtain ⟨ps, hps⟩ : ∃ ps, Pc.pcs 44 l = ps := ⟨_, rfl⟩
          rw [hps] at ow3 is3 HC HMp hpl ⊢
          clear hps s0 s1 r0 r1 r2 f0 f1 f2 x0 x1 x2 g0 g1 g2 hl hxl hcp
          obtain ⟨s0, s1, ⟨hl, ⟨r0, r1, r2⟩, f0, f1, f2⟩, _⟩ := id frr
          by_cases h3 : ps.length = N + C + 1
          · have hq3 : ((ps.length : Int) != (N : Int) + (C : Int) + 1) = false := by simp; omega
            have HP : Hid (ps.length = N + C + 1) := h3
            clear h3
            obtain ⟨ar, cr, rfl, _⟩ := hor.isr
            obtain ⟨H, hH1, hH2, hor⟩ : ∃ H, w2.heap.size ≤ H ∧ H ≤ w3.heap.size ∧ OwnT w3 w2.heap.size H (.slice ar rs.length cr) rs := ⟨_, hgr0.size, hB3.size, hor⟩
            have HOLD : Hid (Fr w N C w3 ∧ Box3 w3 w1.heap.size (.int .i64 N) (.int .i64 C) (.slice ar rs.length cr) ∧ OwnT w3 w2.heap.size H (.slice ar rs.length cr) rs ∧ w2.grownBy w3 (some w1.heap.size)) := ⟨frr, bxr, hor, hgr⟩
            have HIS : Hid (Ls.IsS w3 a3 ps) := is3
            have HKC : Hid (∀ cc : Int, ¬ cc = 0 → (Pc.rread N C ps).1 = cc → T = ((k : Int) + 1, cc, [])) := fun cc h0 e => by
              rw [HT.out, HD.out, HC.out, if_neg (by rw [e]; exact h0), e, more_bad _ _ _ h0]
            have HKD : Hid (∀ r : Row, Pc.rread N C ps = (0, r) → 40 ≤ k → T = ((k : Int) + 1, 7, [])) := fun r e h40 => by
              rw [HT.out, HD.out, HC.out, if_pos (by rw [e]), if_pos h40, more_bad _ _ _ (by decide)]
            have HKG : Hid (∀ r : Row, Pc.rread N C ps = (0, r) → ¬ 40 ≤ k → T = Pc.more (rs ++ [r]) (Pc.lread N C (k + 1) (L.drop (k + 1)))) := fun r e h40 => by
              rw [HT.out, HD.out, HC.out, if_pos (by rw [e]), if_neg h40, e, Pc.more_more]
            have h31 : w1.heap.size < w2.heap.size := by have := bx.1; omega
            have hx1' : w.heap.size + 1 < w1.heap.size := HX1.out
            clear hor frr bxr hgr is3 ow3 hB3 hgr0
            go_wp2
            go_loopw [12] (fun i wq => ∃ j : Nat, j ≤ N + C + 1 ∧ i = .int .i64 j ∧ ∃ (u0 u1 : Value) (nums : List Int) (cats : List ByteArray) (lab : Int), ((j ≤ N + C ∧ Mid N C ps j nums cats) ∨ (j = N + C + 1 ∧ Pc.rread N C ps = (0, ⟨nums, cats, lab⟩))) ∧ nums.length ≤ j ∧ cats.length ≤ j ∧ RowAt w3 wq u0 u1 nums cats lab) (fun i _ => N + C + 1 - (intOf i).toNat)
            case atStart => exact ⟨0, by omega, rfl, _, _, [], [], 0, .inl ⟨by omega, mid_zero HP.out⟩, by simp, by simp, row_new _ _⟩
            case round =>
              clear s0 s1 hl r0 r1 r2 f0 f1 f2
              obtain ⟨j, hj, rfl, u0, u1, nums, cats, lab, hmid, hnl, hcl, ra⟩ := hrel
              have HMID : Hid ((j ≤ N + C ∧ Mid N C ps j nums cats) ∨ (j = N + C + 1 ∧ Pc.rread N C ps = (0, ⟨nums, cats, lab⟩))) := hmid
              clear hmid
              by_cases hlt : j < N + C + 1
              · have hM : j ≤ N + C ∧ Mid N C ps j nums cats := by
                  rcases HMID.out with h | h
                  · exact h
                  · omega
                have HMM : Hid (Mid N C ps j nums cats) := hM.2
                have hjp : j < ps.length := by rw [HP.out]; omega
                have hjl : (j : Int) < (ps.length : Int) := by omega
                clear hM HMID
                rcases HIS.out.below ra.be with h0 | ⟨pb, po, e3, hpb, hpc⟩
                · rw [h0] at hjp; simp at hjp
                subst e3
                have hcj := hpc j hjp
                have hsz := HMp.out ps[j] (List.getElem_mem hjp)
                have HB4 : Hid (j < N → Pc.tx ps[j] = false → (Pc.rread N C ps).1 = 4) := fun h h' => bad_num HMM.out h hjp h'
                have HB5 : Hid (N ≤ j → j < N + C → wok ps[j] = false → (Pc.rread N C ps).1 = 5) := fun h h1 h' => bad_word HMM.out h h1 hjp h'
                have HG4 : Hid (j < N → Pc.tx ps[j] = true → Mid N C ps (j + 1) (nums ++ [Pc.val ps[j]]) cats) := fun h h' => mid_num HMM.out h hjp h'
                have HG5 : Hid (N ≤ j → wok ps[j] = true → Mid N C ps (j + 1) nums (cats ++ [ps[j]])) := fun h h' => mid_word HMM.out h hjp h'
                have HG6 : Hid (j = N + C → Pc.rread N C ps = if Pc.lb ps[j] = true then (0, ⟨nums, cats, Pc.val ps[j]⟩) else (6, Pc.rzero)) := fun h => by subst h; exact last HMM.out hjp
                obtain ⟨p, ep⟩ : ∃ p, ps[j] = p := ⟨_, rfl⟩
                rw [ep] at hcj hsz HB4 HB5 HG4 HG5 HG6
                clear ep hpc HMM
                go_wp2_with fail
                refine (Re.sread p wr (by omega)).mono ?_
                rintro e w4 ⟨he, hB4⟩
                obtain ⟨nv, hnv, he⟩ : ∃ nv, (Pc.tx p = true → nv = Pc.val p) ∧ e = .returned (.tuple #[.int .i64 nv, .bool (Pc.tx p)]) := by
                  cases ht : Pc.tx p with
                  | true =>
                    rcases he with ⟨_, he⟩ | ⟨hn, _⟩
                    · exact ⟨_, fun _ => rfl, he⟩
                    · exact absurd ((Pc.tx_iff p).1 ht) hn
                  | false =>
                    rcases he with ⟨hn, _⟩ | ⟨_, he⟩
                    · rw [(Pc.tx_iff p).2 hn] at ht; cases ht
                    · exact ⟨0, (fun h => by cases h), he⟩
                subst he
                have HNV : Hid (Pc.tx p = true → nv = Pc.val p) := hnv
                have ra := ra.below hB4
                have hcj : w4.cell? ⟨pb, po + j, none⟩ = some (.string p) := (hB4.cell (by exact hpb)).trans hcj
                have hpb4 : pb < w4.heap.size := Nat.lt_of_lt_of_le hpb hB4.size
                have frq := HOLD.out.1.below ra.be
                obtain ⟨s0, s1, ⟨hl, ⟨r0, r1, r2⟩, f0, f1, f2⟩, _⟩ := id frq
                obtain ⟨hxl, ⟨x0, x1, x2⟩, xf0, xf1, xf2⟩ := id ra.bx
                clear hB4 hnv hpb
                by_cases hjN : j < N
                · have hjNi : (j : Int) < (N : Int) := by omega
                  cases ht : Pc.tx p with
                  | false =>
                    have HE : Hid (T = ((k : Int) + 1, 4, [])) := HKC.out 4 (by decide) (HB4.out hjN ht)
                    clear ht
                    go_wp2
                    exact sfail _ (by simp) (by rw [HE.out]; simp) (by rw [HE.out]; simp) (by rw [HE.out]; simp) frq
                  | true =>
                    have HMN : Hid (Mid N C ps (j + 1) (nums ++ [nv]) cats) := by rw [HNV.out ht]; exact HG4.out hjN ht
                    clear ht
                    go_wp2_with (at_builtin; refine wpList_append_lies _ rfl _ _ 35 rfl (w3.heap.size + 1) 3 I0 (.int .i64 0) 1 8 Tryz.underlying35 hI hI0 hI1 hI2 rfl (by decide) u0 nums.length (Li.iv nums) rfl (ra.alloc _).o0 ⟨w4.heap.size, 0, none⟩ 1 1 [.int .i64 nv] rfl rfl (Ap.one_cell _ _ _ rfl) (Ap.one_one _ rfl) (by decide) (by unfold maxLen; omega) (by omega) (by simp; omega) _ rfl ?_)
                    intro g cap w5 hown hgrow hpos hglt
                    obtain ⟨_, ⟨y0, y1, y2⟩, yf0, yf1, yf2⟩ := id ((ra.alloc _).box0 hgrow)
                    have HRA : Hid (RowAt w3 (w5.setCell ⟨w3.heap.size, 0, none⟩ (.slice (some ⟨g, 0, none⟩) (nums.length + 1) cap)) (.slice (some ⟨g, 0, none⟩) (nums.length + 1) cap) u1 (nums ++ [nv]) cats lab) := (ra.alloc _).num hown hgrow (by rw [size_alloc]; exact hpos)
                    have HLN : Hid ((nums ++ [nv]).length ≤ j + 1) := by show _ ≤ _; simp; omega
                    clear hown hgrow hpos ra frq
                    go_wp2
                    go_roundw
                    case rel => exact ⟨j + 1, by omega, by go_num, _, u1, nums ++ [nv], cats, lab, .inl ⟨by omega, HMN.out⟩, HLN.out, by omega, HRA.out⟩
                    case measure => simp [intOf]; omega
                · have hjNd : decide ((j : Int) < (N : Int)) = false := decide_eq_false (by omega)
                  have hjNd' : decide (j < N) = false := decide_eq_false hjN
                  by_cases hjC : j < N + C
                  · have hjCi : (j : Int) < (N : Int) + (C : Int) := by omega
                    go_wp2_with fail
                    refine (sword w4 p (by omega)).mono ?_
                    rintro e w5 ⟨rfl, n5, hw5⟩
                    have hB5 : Below w4.heap.size w4 w5 := by rw [hw5]; exact ⟨rfl, rfl, rfl, Nat.le_refl _, fun _ _ => rfl⟩
                    have ra := ra.below hB5
                    have frq := HOLD.out.1.below ra.be
                    have hcj : w5.cell? ⟨pb, po + j, none⟩ = some (.string p) := (hB5.cell (by exact hpb4)).trans hcj
                    clear hB5 hw5 s0 s1 hl r0 r1 r2 f0 f1 f2 hxl x0 x1 x2 xf0 xf1 xf2
                    obtain ⟨s0, s1, ⟨hl, ⟨r0, r1, r2⟩, f0, f1, f2⟩, _⟩ := id frq
                    obtain ⟨hxl, ⟨x0, x1, x2⟩, xf0, xf1, xf2⟩ := id ra.bx
                    cases hw : wok p with
                    | false =>
                      have HE : Hid (T = ((k : Int) + 1, 5, [])) := HKC.out 5 (by decide) (HB5.out (by omega) hjC hw)
                      clear hw
                      go_wp2
                      exact sfail _ (by simp) (by rw [HE.out]; simp) (by rw [HE.out]; simp) (by rw [HE.out]; simp) frq
                    | true =>
                      have HMN : Hid (Mid N C ps (j + 1) nums (cats ++ [p])) := HG5.out (by omega) hw
                      have hwl : w3.heap.size < w5.heap.size := ra.bx.1
                      clear hw
                      go_wp2_with fail
                      go_region_law (first
                        | (refine step_append_lies _ rfl _ _ 42 rfl (w3.heap.size + 1) 9 J0 (.string ⟨#[]⟩) 1 16 Tryz.underlying42 hJ hJ0 hJ1 hJ2 rfl (by decide) u1 cats.length (Ls.sv cats) rfl (by first | exact (ra.drew.alloc _).o1 | exact (ra.alloc _).o1 | exact (ra.alloc _).drew.o1) _ 1 1 [.string p] rfl rfl (Ap.one_at rfl (by simp)) (Ap.one_one _ rfl) (by decide) (by unfold maxLen; omega) (by omega) (by simp; omega) _ rfl ?_
                           intro g cap w6 hown hgrow hpos hglt
                           obtain ⟨_, ⟨y0, y1, y2⟩, yf0, yf1, yf2⟩ := id (RowAt.box1 (by first | exact ra.drew.alloc _ | exact ra.alloc _ | exact (ra.alloc _).drew) hgrow)
                           have HRA : Hid (RowAt w3 (w6.setCell ⟨w3.heap.size, 1, none⟩ (.slice (some ⟨g, 0, none⟩) (cats.length + 1) cap)) u0 (.slice (some ⟨g, 0, none⟩) (cats.length + 1) cap) nums (cats ++ [p]) lab) := RowAt.word (by first | exact ra.drew.alloc _ | exact ra.alloc _ | exact (ra.alloc _).drew) hown hgrow hpos
                           clear hown hgrow hpos))
                      all_goals
                        have HLN : Hid ((cats ++ [p]).length ≤ j + 1) := by show _ ≤ _; simp; omega
                        clear ra frq
                        go_wp2
                        go_roundw
                        all_goals first
                          | exact ⟨j + 1, by omega, by go_num, u0, _, nums, cats ++ [p], lab, .inl ⟨by omega, HMN.out⟩, by omega, HLN.out, HRA.out⟩
                          | (simp [intOf]; omega)
                  · have hjCd : decide ((j : Int) < (N : Int) + (C : Int)) = false := decide_eq_false (by omega)
                    have hjE : j = N + C := by omega
                    have HG6 : Hid (Pc.rread N C ps = if Pc.lb p = true then (0, ⟨nums, cats, Pc.val p⟩) else (6, Pc.rzero)) := HG6.out hjE
                    clear hjE
                    cases ht : Pc.tx p with
                    | false =>
                      have HE : Hid (T = ((k : Int) + 1, 6, [])) := HKC.out 6 (by decide) (by rw [HG6.out, if_neg (by unfold Pc.lb; rw [ht]; simp)])
                      clear ht
                      go_wp2
                      exact sfail _ (by simp) (by rw [HE.out]; simp) (by rw [HE.out]; simp) (by rw [HE.out]; simp) frq
                    | true =>
                      have hnv := HNV.out ht
                      cases hlk : lok nv with
                      | false =>
                        have HE : Hid (T = ((k : Int) + 1, 6, [])) := HKC.out 6 (by decide) (by rw [HG6.out, if_neg (by unfold Pc.lb; rw [← hnv, hlk]; simp)])
                        clear ht hnv
                        go_wp2_with (go_at_call 22; refine (slab _ nv).mono ?_; rintro e w' ⟨rfl, hw⟩; subst w'; rw [hlk])
                        exact sfail _ (by simp) (by rw [HE.out]; simp) (by rw [HE.out]; simp) (by rw [HE.out]; simp) frq
                      | true =>
                        have HRR : Hid (Pc.rread N C ps = (0, ⟨nums, cats, nv⟩)) := by
                          show _ = _
                          rw [HG6.out, if_pos (by unfold Pc.lb; rw [ht, ← hnv, hlk]; rfl), hnv]
                        have HRA : Hid (RowAt w3 (w4.setCell ⟨w3.heap.size, 2, none⟩ (.int .i64 nv)) u0 u1 nums cats nv) := ra.lab nv
                        clear ht hnv ra frq
                        go_wp2_with (go_at_call 22; refine (slab _ nv).mono ?_; rintro e w' ⟨rfl, hw⟩; subst w'; rw [hlk])
                        go_roundw
                        case rel => exact ⟨j + 1, by omega, by go_num, u0, u1, nums, cats, nv, .inr ⟨by omega, HRR.out⟩, by omega, by omega, HRA.out⟩
                        case measure => simp [intOf]; omega
              · have hjE : j = N + C + 1 := by omega
                have HRR : Hid (Pc.rread N C ps = (0, ⟨nums, cats, lab⟩)) := by
                  rcases HMID.out with h | h
                  · omega
                  · exact h.2
                have hjl : ¬ (j : Int) < (ps.length : Int) := by rw [HP.out]; omega
                have hjl' : decide ((j : Int) < (ps.length : Int)) = false := decide_eq_false hjl
                obtain ⟨frr, bxr, hor, hgr⟩ := HOLD.out
                have frq := frr.below ra.be
                have bxq := bxr.below ra.be
                have hoq := hor.below ra.be
                obtain ⟨s0, s1, ⟨hl, ⟨r0, r1, r2⟩, f0, f1, f2⟩, _⟩ := id frq
                obtain ⟨htl, ⟨t0, t1, t2⟩, tf0, tf1, tf2⟩ := id bxq
                obtain ⟨hxl, ⟨x0, x1, x2⟩, xf0, xf1, xf2⟩ := id ra.bx
                clear HMID hjE
                by_cases h40 : k = 40
                · have hq40 : ((rs.length : Int) == 40) = true := by have := HK.out; simp; omega
                  have HE : Hid (T = ((k : Int) + 1, 7, [])) := HKD.out _ HRR.out (by omega)
                  clear h40
                  go_wp2
                  exact sfail _ (by simp) (by rw [HE.out]; simp) (by rw [HE.out]; simp) (by rw [HE.out]; simp) frq
                · have hq40 : ((rs.length : Int) == 40) = false := by have := HK.out; simp; omega
                  have HE : Hid (T = Pc.more (rs ++ [⟨nums, cats, lab⟩]) (Pc.lread N C (k + 1) (L.drop (k + 1)))) := HKG.out _ HRR.out (by omega)
                  obtain ⟨a0, q0, rfl, _⟩ := ra.o0.isl
                  obtain ⟨a1, q1, rfl, _⟩ := ra.o1.iss
                  obtain ⟨g3, xs3, V03, V13, hgo3, hown3, hN3, hv3⟩ := id hoq
                  have hrl40 : rs.length ≤ 40 := by have := HK.out; omega
                  have hk39 : k ≤ 39 := by omega
                  have hsq : w3.heap.size ≤ wr.heap.size := ra.be.size
                  clear h40
                  go_wp2_with (at_builtin; refine wpList_append_lies _ rfl _ _ 28 rfl w2.heap.size 54 i0 (.agg #[.slice none 0 0, .slice none 0 0, .int .i64 0]) 3 56 Tryz.underlying28 hi hz0 hz1 hz2 rfl (by decide) (.slice ar rs.length cr) rs.length xs3 rfl (World.ownsRow.alloc hown3 _) ⟨wr.heap.size, 0, none⟩ 1 1 [.slice a0 nums.length q0, .slice a1 cats.length q1, .int .i64 lab] rfl rfl (Db.three_at rfl) Db.three_one (by decide) (by unfold maxLen; omega) (by omega) (by simp; omega) _ rfl ?_)
                  intro g cap w6 hown6 hgrow hpos hglt
                  have hO6 : OwnT w6 w2.heap.size w6.heap.size (.slice (some ⟨g, 0, none⟩) (rs.length + 1) cap) (rs ++ [⟨nums, cats, lab⟩]) :=
                    Db.push (W := wr.alloc _) (H := H) (r := ⟨nums, cats, lab⟩) rfl hgo3 (World.ownsRow.alloc hown3 _) (Db.nest_alloc hN3 _) (World.ownsRow.alloc (ra.o0.mono (by omega)) _) (World.ownsRow.alloc (ra.o1.mono (by omega)) _) (apart_of ra.ap) hH1 hv3 hgrow (by rw [size_alloc]; exact hpos) hglt hown6
                  have hne1 : ∀ k, (Value.slice ar rs.length cr).ownBlock = some k → w2.heap.size ≤ k := fun k hk => (World.ownsRow.lt hown3 k hk).1
                  have bx6 : Box3 w6 w1.heap.size (.int .i64 N) (.int .i64 C) (.slice ar rs.length cr) := (bxq.alloc _).keptAt hgrow.size (hgrow.block _ (by simp; omega) (fun e => by have := hne1 _ e.symm; omega))
                  obtain ⟨_, ⟨y0, y1, y2⟩, yf0, yf1, yf2⟩ := id bx6
                  have HBX : Hid (Box3 (w6.setCell ⟨w1.heap.size, 2, none⟩ (.slice (some ⟨g, 0, none⟩) (rs.length + 1) cap)) w1.heap.size (.int .i64 N) (.int .i64 C) (.slice (some ⟨g, 0, none⟩) (rs.length + 1) cap)) := bx6.set2 _
                  have HO7 : Hid (OwnT (w6.setCell ⟨w1.heap.size, 2, none⟩ (.slice (some ⟨g, 0, none⟩) (rs.length + 1) cap)) w2.heap.size (w6.setCell ⟨w1.heap.size, 2, none⟩ (.slice (some ⟨g, 0, none⟩) (rs.length + 1) cap)).heap.size (.slice (some ⟨g, 0, none⟩) (rs.length + 1) cap) (rs ++ [⟨nums, cats, lab⟩])) := (hO6.off (grown_set _ w1.heap.size 2 _) (.inl h31)).mono (Nat.le_refl _) (by simp [World.setCell])
                  have HG7 : Hid (w2.grownBy (w6.setCell ⟨w1.heap.size, 2, none⟩ (.slice (some ⟨g, 0, none⟩) (rs.length + 1) cap)) (some w1.heap.size)) := grown_rows hgr (ra.be.alloc hsq _) hgrow hne1
                  have HRL : Hid ((rs ++ [(⟨nums, cats, lab⟩ : Row)]).length = k + 1) := by have := HK.out; show _ = _; simp; omega
                  clear hown6 hgrow hpos hO6 bx6 hown3 hN3 hv3 hgo3 hoq bxq frq frr bxr hor hgr ra
                  go_wp2
                  go_roundw
                  case rel => exact ⟨k + 1, HK1.out, by go_num, rs ++ [⟨nums, cats, lab⟩], _, HRL.out, by omega, HE.out, HBX.out, HO7.out, HG7.out⟩
                  case measure => simp [intOf]; omega
          · have hq3 : ((ps.length : Int) != (N : Int) + (C : Int) + 1) = true := by simp; omega
            have HE : Hid (T = ((k : Int) + 1, 3, [])) := by
              show _ = _
              have e : (Pc.rread N C ps).1 = 3 := by unfold Pc.rread; rw [if_neg h3]
              rw [HT.out, HD.out, HC.out, if_neg (by rw [e]; decide), e, more_bad _ _ _ (by decide)]
            clear h3
            go_wp2
            exact sfail _ (by simp) (by rw [HE.out]; simp) (by rw [HE.out]; simp) (by rw [HE.out]; simp) frr
    · have h6' : (6000 : Int) < (text.size : Int) := by omega
      have HE : Hid (T = (0, 1, [])) := by
        show _ = _
        rw [← HT.out]; unfold Pc.tread; rw [if_pos hq, if_neg (by have : text.data.toList.length = text.size := (by simp); omega)]
      go_wp2
      exact sfail _ (by simp) (by rw [HE.out]; simp) (by rw [HE.out]; simp) (by rw [HE.out]; simp) fr
end Go.Proofs.YtajfldjhbgilmaaGreatDoor.Sp
