/-
  The program's reader of a text of rows: its cells; contracts of its methods, each of which returns or gives up by a panic that bears the line and a code.
-/
import Derived.Test.YtajfldjhbgilmaaGreatDoorTabX
import Derived.Test.YtajfldjhbgilmaaGreatDoorPcs
import Derived.Deep.RegionWith
import Derived.RegionTactic
namespace Go.Proofs.YtajfldjhbgilmaaGreatDoor.Rd
set_option maxRecDepth 100000
open Go.RowKit
open Go.Proofs.YtajfldjhbgilmaaGreatDoor.Tb
open Go.Proofs.YtajfldjhbgilmaaGreatDoor.Tk
open Go.Proofs.YtajfldjhbgilmaaGreatDoor.Li (ret_bool grown_refl grown_trans grown_set below_none)

set_option maxHeartbeats 400000 in
theorem clone (w : World) (s : ByteArray) (hs : s.size ≤ 281474976710656) :
    Calls Tryz.prog 71 #[.string s] w fun e w' => e = .returned (.string s) ∧ Below w.heap.size w w' := by
  go_enter Tryz.func71, Tryz.ntmps71
  go_wp2_with (go_at_call 78; refine (Tryz.stringslite_Clone _ _ hs).mono ?_; rintro e w1 ⟨rfl, hB⟩)
  go_ret
  exact ⟨rfl, hB⟩
/-- The reader's four cells: how many numbers, how many words, what is left of the text, the line. -/
def Cells (w : World) (b : Nat) (n c : Int) (rest : ByteArray) (line : Int) : Prop :=
  b < w.heap.size ∧ (w.cell? ⟨b, 0, none⟩ = some (.int .i64 n) ∧ w.cell? ⟨b, 1, none⟩ = some (.int .i64 c) ∧ w.cell? ⟨b, 2, none⟩ = some (.string rest) ∧ w.cell? ⟨b, 3, none⟩ = some (.int .i64 line)) ∧
    w.frozen? ⟨b, 0, none⟩ = false ∧ w.frozen? ⟨b, 1, none⟩ = false ∧ w.frozen? ⟨b, 2, none⟩ = false ∧ w.frozen? ⟨b, 3, none⟩ = false
theorem Cells.keptAt {w w1 : World} {b : Nat} {n c : Int} {rest : ByteArray} {line : Int} (h : Cells w b n c rest line) (hs : w.heap.size ≤ w1.heap.size) (hb : w1.heap[b]? = w.heap[b]?) : Cells w1 b n c rest line := by
  obtain ⟨hlt, ⟨c0, c1, c2, c3⟩, f0, f1, f2, f3⟩ := h
  have hc : ∀ o, w1.cell? ⟨b, o, none⟩ = w.cell? ⟨b, o, none⟩ := fun o => World.cell?_of_block (w := w) (a := ⟨b, o, none⟩) hb
  have hf : ∀ o, w1.frozen? ⟨b, o, none⟩ = w.frozen? ⟨b, o, none⟩ := fun o => World.frozen?_of_block (w := w) (a := ⟨b, o, none⟩) hb
  exact ⟨by omega, ⟨(hc 0).trans c0, (hc 1).trans c1, (hc 2).trans c2, (hc 3).trans c3⟩, (hf 0).trans f0, (hf 1).trans f1, (hf 2).trans f2, (hf 3).trans f3⟩
theorem Cells.below {w w1 : World} {b : Nat} {n c : Int} {rest : ByteArray} {line : Int} (h : Cells w b n c rest line) (hB : Below w.heap.size w w1) : Cells w1 b n c rest line := h.keptAt hB.size (hB.block b h.1)
theorem Cells.setRest {w : World} {b : Nat} {n c : Int} {rest : ByteArray} {line : Int} (h : Cells w b n c rest line) (x : ByteArray) : Cells (w.setCell ⟨b, 2, none⟩ (.string x)) b n c x line := by
  obtain ⟨hlt, ⟨c0, c1, c2, c3⟩, f0, f1, f2, f3⟩ := h
  refine ⟨by simpa [World.setCell] using hlt, ⟨?_, ?_, World.cell?_setCell_same _ _ _ c2, ?_⟩, ?_, ?_, ?_, ?_⟩
  · rw [World.cell?_setCell_other _ _ _ _ (by simp)]; exact c0
  · rw [World.cell?_setCell_other _ _ _ _ (by simp)]; exact c1
  · rw [World.cell?_setCell_other _ _ _ _ (by simp)]; exact c3
  all_goals (rw [World.frozen?_setCell]; assumption)
theorem Cells.setLine {w : World} {b : Nat} {n c : Int} {rest : ByteArray} {line : Int} (h : Cells w b n c rest line) (x : Int) : Cells (w.setCell ⟨b, 3, none⟩ (.int .i64 x)) b n c rest x := by
  obtain ⟨hlt, ⟨c0, c1, c2, c3⟩, f0, f1, f2, f3⟩ := h
  refine ⟨by simpa [World.setCell] using hlt, ⟨?_, ?_, ?_, World.cell?_setCell_same _ _ _ c3⟩, ?_, ?_, ?_, ?_⟩
  · rw [World.cell?_setCell_other _ _ _ _ (by simp)]; exact c0
  · rw [World.cell?_setCell_other _ _ _ _ (by simp)]; exact c1
  · rw [World.cell?_setCell_other _ _ _ _ (by simp)]; exact c2
  all_goals (rw [World.frozen?_setCell]; assumption)
/-- The reader gives up: a panic that bears the line and the code. -/
def fault (line code : Int) : Ending := .panicked [{ v := .iface 48 (.agg #[.int .i64 line, .int .i64 code]), recovered := false }]
set_option maxHeartbeats 400000 in
theorem giveUp (w : World) (b : Nat) (n c : Int) (rest : ByteArray) (line code : Int) (h : Cells w b n c rest line) :
    Calls Tryz.prog 54 #[.pointer (some ⟨b, 0, none⟩), .int .i64 code] w fun e w' => e = fault line code ∧ w' = w := by
  obtain ⟨hlt, ⟨c0, c1, c2, c3⟩, _⟩ := h
  go_enter Tryz.func54, Tryz.ntmps54
  go_wp2
  exact ⟨rfl, rfl, rfl⟩
set_option maxHeartbeats 1000000 in
theorem number (w : World) (b : Nat) (n c : Int) (rest : ByteArray) (line code : Int) (h : Cells w b n c rest line) (s : ByteArray) (hs : s.size ≤ 1048576) (hV : Re.Vars w) :
    Calls Tryz.prog 63 #[.pointer (some ⟨b, 0, none⟩), .string s, .int .i64 code] w fun e w' =>
      ((Re.Text s.data.toList ∧ e = .returned (.int .i64 (Re.guess s.data.toList))) ∨ (¬ Re.Text s.data.toList ∧ e = fault line code)) ∧ Below w.heap.size w w' := by
  go_enter Tryz.func63, Tryz.ntmps63
  go_wp2_with fail
  refine (Re.iread s w hs hV).mono ?_
  rintro e w1 ⟨he, hB⟩
  have h1 := h.below hB
  rcases he with ⟨ht, rfl⟩ | ⟨ht, rfl⟩
  · have HT : Hid (Re.Text s.data.toList) := ht
    clear ht
    go_wp2
    go_ret
    exact ⟨.inl ⟨HT.out, rfl⟩, hB⟩
  · have HT : Hid (¬ Re.Text s.data.toList) := ht
    clear ht
    go_wp2_with fail
    refine (giveUp _ _ _ _ _ _ _ h1).mono ?_
    rintro e w2 ⟨rfl, hw2⟩
    subst w2
    exact ⟨rfl, .inr ⟨HT.out, rfl⟩, hB⟩
set_option maxHeartbeats 1000000 in
theorem word (w : World) (b : Nat) (n c : Int) (rest : ByteArray) (line : Int) (h : Cells w b n c rest line) (s : ByteArray) (hs : s.size ≤ 1048576) :
    Calls Tryz.prog 64 #[.pointer (some ⟨b, 0, none⟩), .string s] w fun e w' =>
      ((wok s = true ∧ e = .returned (.string s)) ∨ (wok s = false ∧ e = fault line 5)) ∧ Below w.heap.size w w' := by
  go_enter Tryz.func64, Tryz.ntmps64
  go_wp2_with fail
  refine (iword _ s (by omega)).mono ?_
  rintro e w1 ⟨rfl, hB⟩
  have h1 := h.below hB
  cases hq : wok s
  · go_wp2_with fail
    refine (giveUp _ _ _ _ _ _ _ h1).mono ?_
    rintro e w2 ⟨rfl, hw2⟩
    subst w2
    exact ⟨rfl, .inr ⟨hq, rfl⟩, hB⟩
  · have HQ : Hid (wok s = true) := hq
    clear hq
    go_wp2_with fail
    refine (clone _ s (by omega)).mono ?_
    rintro e w2 ⟨rfl, hB2⟩
    have hB := hB.trans (hB2.mono hB.size)
    go_wp2
    go_ret
    exact ⟨.inl ⟨HQ.out, rfl⟩, hB⟩
def lab (l : List UInt8) : Prop := Re.Text l ∧ lok (Re.guess l) = true
set_option maxHeartbeats 1000000 in
theorem label (w : World) (b : Nat) (n c : Int) (rest : ByteArray) (line : Int) (h : Cells w b n c rest line) (s : ByteArray) (hs : s.size ≤ 1048576) (hV : Re.Vars w) :
    Calls Tryz.prog 65 #[.pointer (some ⟨b, 0, none⟩), .string s] w fun e w' =>
      ((lab s.data.toList ∧ e = .returned (.int .i64 (Re.guess s.data.toList))) ∨ (¬ lab s.data.toList ∧ e = fault line 6)) ∧ Below w.heap.size w w' := by
  go_enter Tryz.func65, Tryz.ntmps65
  go_wp2_with fail
  refine (number _ _ _ _ _ _ _ h s hs hV).mono ?_
  rintro e w1 ⟨he, hB⟩
  have h1 := h.below hB
  rcases he with ⟨ht, rfl⟩ | ⟨ht, rfl⟩
  · cases hq : lok (Re.guess s.data.toList)
    · have HT : Hid (¬ lab s.data.toList) := fun hh => by have := hh.2; rw [hq] at this; cases this
      clear ht
      go_wp2_with (first | (go_at_call 41; refine (ilab _ _).mono ?_; rintro e w' ⟨rfl, hw'⟩; subst w'))
      refine (giveUp _ _ _ _ _ _ _ h1).mono ?_
      rintro e w2 ⟨rfl, hw2⟩
      subst w2
      exact ⟨rfl, .inr ⟨HT.out, rfl⟩, hB⟩
    · have HT : Hid (lab s.data.toList) := ⟨ht, hq⟩
      clear ht
      go_wp2_with (first | (go_at_call 41; refine (ilab _ _).mono ?_; rintro e w' ⟨rfl, hw'⟩; subst w'))
      go_ret
      exact ⟨.inl ⟨HT.out, rfl⟩, hB⟩
  · exact ⟨rfl, .inr ⟨fun hh => ht hh.1, rfl⟩, hB⟩
/-- The library's variables lie ahead of block b. -/
def Past (b : Nat) : Prop := 6 < b ∧ 1 < b ∧ 2 < b ∧ 3 < b
theorem past_of {w : World} (h : Re.Vars w) : Past w.heap.size := by
  obtain ⟨h1, ⟨m, hm⟩, ⟨t2, p2, h2⟩, ⟨t3, p3, h3⟩⟩ := h
  exact ⟨h1.lt, World.block_lt_of_cell? w _ hm, Re.var_lt Re.gES h2, Re.var_lt Re.gER h3⟩
theorem Past.mono {b b' : Nat} (h : Past b) (hb : b ≤ b') : Past b' := ⟨Nat.lt_of_lt_of_le h.1 hb, Nat.lt_of_lt_of_le h.2.1 hb, Nat.lt_of_lt_of_le h.2.2.1 hb, Nat.lt_of_lt_of_le h.2.2.2 hb⟩
theorem vars_past {w w' : World} {B : Nat} (h : Re.Vars w) (hp : Past B) (hb : Below B w w') : Re.Vars w' := by
  obtain ⟨h1, ⟨m, hm⟩, ⟨t2, p2, h2⟩, ⟨t3, p3, h3⟩⟩ := h
  refine ⟨h1.belowOf hp.1 hb, ⟨m, ?_⟩, ⟨t2, p2, var?_below hb Re.gES hp.2.2.1 h2⟩, ⟨t3, p3, var?_below hb Re.gER hp.2.2.2 h3⟩⟩
  rw [hb.cell (p := ⟨1, 0, none⟩) hp.2.1]
  exact hm
theorem cut_any (w : World) (s : ByteArray) (hs : s.size ≤ 1048576) (hV : Re.Vars w) :
    Calls Tryz.prog 66 #[.string s, .string ⟨#[10]⟩] w fun e w' => e = .returned (.tuple #[.string (Pc.ba (Lib.cut s.data.toList [10]).1), .string (Pc.ba (Lib.cut s.data.toList [10]).2.1), .bool (Lib.cut s.data.toList [10]).2.2]) ∧ Below w.heap.size w w' := by
  obtain ⟨m, hm⟩ := hV.2.1
  refine (Tryz.strings_Cut s ⟨#[10]⟩ m w (by omega) hm).mono ?_
  rintro e w' ⟨rfl, n, rfl⟩
  exact ⟨rfl, below_drewN (Below.refl _ _) _⟩
theorem split_any (w : World) (s : ByteArray) (hs : s.size ≤ 1048576) (hV : Re.Vars w) :
    Calls Tryz.prog 67 #[.string s, .string ⟨#[44]⟩] w fun e w' => ∃ a cap, e = .returned (.slice a (Pc.pcs 44 s.data.toList).length cap) ∧ Ls.IsS w' a (Pc.pcs 44 s.data.toList) ∧ Below w.heap.size w w' := by
  obtain ⟨m, hm⟩ := hV.2.1
  refine (Tryz.strings_Split s ⟨#[44]⟩ m w (by omega) hm (by decide)).mono ?_
  rintro e w' ⟨rfl, rfl⟩
  have hl : (Pc.pcs 44 s.data.toList).length = Lib.countB s ⟨#[44]⟩ + 1 := by
    rw [← Pc.splitB_pcs]; exact Lib.splitB_all ⟨#[44]⟩ (by decide) 0 _ s rfl
  rw [Pc.splitB_pcs]
  refine ⟨_, _, by rw [hl], .inr ⟨w.heap.size, 0, rfl, by simp, fun j hj => ?_⟩, (Below.refl _ _).alloc (Nat.le_refl _) _⟩
  rw [Nat.zero_add]
  simp [World.cell?_alloc_new, hj]
theorem grown_draw {w w1 : World} {r : Option Nat} (h : w.grownBy w1 r) (n : Nat) : w.grownBy (w1.drewN n) r := ⟨h.os, h.tape, h.output, h.size, h.block⟩
theorem grown_of {w w1 : World} {b : Nat} (hB : Below w.heap.size w w1) : w.grownBy w1 (some b) := ⟨hB.os, hB.tape, hB.output, hB.size, fun k hk _ => hB.block k hk⟩
set_option maxHeartbeats 1000000 in
/-- A line's parts, or the reader gives up: a line that is not ended, a wrong number of parts. -/
theorem parts (w : World) (b : Nat) (n c : Int) (rest : ByteArray) (line : Int) (h : Cells w b n c rest line) (hs : rest.size ≤ 1048576) (hV : Re.Vars w) (hp : Past b) (hn : 0 ≤ n ∧ n ≤ 3) (hc : 0 ≤ c ∧ c ≤ 2) :
    Calls Tryz.prog 53 #[.pointer (some ⟨b, 0, none⟩)] w fun e w' =>
      ((10 ∉ rest.data.toList ∧ e = fault line 2 ∧ Cells w' b n c rest line) ∨
       (∃ l r, rest.data.toList = l ++ 10 :: r ∧ 10 ∉ l ∧ Cells w' b n c (Pc.ba r) line ∧
         ((((Pc.pcs 44 l).length : Int) ≠ n + c + 1 ∧ e = fault line 3) ∨ (((Pc.pcs 44 l).length : Int) = n + c + 1 ∧ ∃ a cap, e = .returned (.slice a (Pc.pcs 44 l).length cap) ∧ Ls.IsS w' a (Pc.pcs 44 l))))) ∧ w.grownBy w' (some b) := by
  obtain ⟨hlt, ⟨c0, c1, c2, c3⟩, f0, f1, f2, f3⟩ := id h
  go_enter Tryz.func53, Tryz.ntmps53
  go_wp2_with fail
  refine (cut_any w rest hs hV).mono ?_
  rintro e w1 ⟨rfl, hB1⟩
  have h1 := h.below hB1
  have hg1 : w.grownBy w1 (some b) := grown_of hB1
  have hV1 := hV.below hB1
  clear hB1 c0 c1 c2 c3 f0 f1 f2 f3 hlt
  rcases Pc.first_cut 10 rest.data.toList with hno | ⟨l, r, hlr, hno⟩
  · rw [Pc.cut_no 10 _ hno]
    go_wp2_with fail
    refine (giveUp _ _ n c rest line _ h1).mono ?_
    rintro e w2 ⟨rfl, hw2⟩
    subst w2
    exact ⟨rfl, .inl ⟨hno, rfl, h1⟩, hg1⟩
  · have hcut : Lib.cut rest.data.toList [10] = (l, r, true) := by rw [hlr]; exact Pc.cut_at 10 l r hno
    rw [hcut]
    have hl1 : l.length + r.length < rest.size := by
      have : rest.data.toList.length = rest.size := by simp
      rw [hlr] at this; simp at this; omega
    have HL : Hid (rest.data.toList = l ++ 10 :: r ∧ 10 ∉ l) := ⟨hlr, hno⟩
    have h2 := h1.setRest (Pc.ba r)
    have hg2 := grown_trans hg1 (grown_set w1 b 2 (.string (Pc.ba r)))
    have hV2 : Re.Vars (w1.setCell ⟨b, 2, none⟩ (.string (Pc.ba r))) := vars_past hV1 hp ((Below.refl _ _).setCell (p := ⟨b, 2, none⟩) (Nat.le_refl _) _)
    obtain ⟨hlt, ⟨c0, c1, c2, c3⟩, f0, f1, f2, f3⟩ := id h1
    generalize hw2 : w1.setCell ⟨b, 2, none⟩ (.string (Pc.ba r)) = w2 at h2 hg2 hV2
    have HW2 : Hid (w1.setCell ⟨b, 2, none⟩ (.string (Pc.ba r)) = w2) := hw2
    clear hcut hlr hno hw2
    go_wp2_with fail
    rw [HW2.out]
    clear HW2
    refine (split_any w2 (Pc.ba l) (by rw [Pc.ba_size]; omega) hV2).mono ?_
    rintro e w3 ⟨a, cap, rfl, is3, hB3⟩
    rw [Pc.ba_data] at is3 ⊢
    have h3 := h2.below hB3
    have hg3 := grown_trans hg2 (grown_of hB3)
    have hpl : (Pc.pcs 44 l).length ≤ l.length + 1 := by unfold Pc.pcs; rw [List.length_map]; exact Pc.pieces_len 44 l
    clear hB3 c0 c1 c2 c3 f0 f1 f2 f3 hlt hV2 hV1 h1 h2
    obtain ⟨hlt, ⟨c0, c1, c2, c3⟩, f0, f1, f2, f3⟩ := id h3
    obtain ⟨P, hP⟩ : ∃ P, (Pc.pcs 44 l).length = P := ⟨_, rfl⟩
    have HP : Hid ((Pc.pcs 44 l).length = P) := hP
    rw [hP] at hpl ⊢
    clear hP
    by_cases hq : (P : Int) = n + c + 1
    · have hq' : ((P : Int) != n + c + 1) = false := bne_eq_false_iff_eq.2 hq
      have HQ : Hid ((P : Int) = n + c + 1) := hq
      clear hq
      go_wp2
      go_quiet (fail)
      go_wp2
      go_ret
      exact ⟨.inr ⟨l, r, HL.out.1, HL.out.2, h3, .inr ⟨by rw [HP.out]; exact HQ.out, a, cap, by rw [HP.out]; rfl, is3⟩⟩, grown_draw hg3 _⟩
    · have hq' : ((P : Int) != n + c + 1) = true := bne_iff_ne.2 hq
      have HQ : Hid (¬ (P : Int) = n + c + 1) := hq
      clear hq
      go_wp2
      go_quiet (fail)
      go_wp2_with fail
      refine (giveUp _ _ n c (Pc.ba r) line _ (by exact h3)).mono ?_
      rintro e w4 ⟨rfl, hw4⟩
      subst w4
      exact ⟨rfl, .inr ⟨l, r, HL.out.1, HL.out.2, h3, .inl ⟨by rw [HP.out]; exact HQ.out, rfl⟩⟩, grown_draw hg3 _⟩
end Go.Proofs.YtajfldjhbgilmaaGreatDoor.Rd
