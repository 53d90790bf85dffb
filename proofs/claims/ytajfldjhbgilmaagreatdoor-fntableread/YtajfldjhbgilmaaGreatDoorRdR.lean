/-
  The program's reader: the rows of a text, or the first fault.
-/
import Derived.Test.YtajfldjhbgilmaaGreatDoorRdW
import Derived.Test.YtajfldjhbgilmaaGreatDoorPush
import Derived.Deep.AppendLies
namespace Go.Proofs.YtajfldjhbgilmaaGreatDoor.Rd
set_option maxRecDepth 100000
open Go.RowKit
open Go.Proofs.YtajfldjhbgilmaaGreatDoor.Tb
open Go.Proofs.YtajfldjhbgilmaaGreatDoor.Tk
open Go.Proofs.YtajfldjhbgilmaaGreatDoor.Li (ret_bool grown_refl grown_trans grown_set below_none)

theorem six {W : World} {n c : Int} {t : ByteArray} (T : TypeId) : Cells (W.alloc (.cells #[.int .i64 n, .int .i64 c, .string t, .int .i64 0] T)) W.heap.size n c t 0 :=
  ⟨by simp, ⟨by simp [World.cell?_alloc_new], by simp [World.cell?_alloc_new], by simp [World.cell?_alloc_new], by simp [World.cell?_alloc_new]⟩, by simp, by simp, by simp, by simp⟩
/-- How many elements. -/
def lenOf : Value → Nat
  | .slice _ n _ => n
  | _ => 0
theorem lread_end (N C k : Nat) : Pc.lread N C k (Pc.pieces 10 []) = (0, 0, []) := rfl
theorem lread_open (N C k : Nat) (l : List UInt8) (h : ¬ l = []) (hno : 10 ∉ l) : Pc.lread N C k (Pc.pieces 10 l) = ((k : Int) + 1, 2, []) := by
  rw [Pc.pieces_no 10 l hno, Pc.lread, if_neg h]
theorem lread_cut (N C k : Nat) (l r : List UInt8) (hno : 10 ∉ l) : Pc.lread N C k (Pc.pieces 10 (l ++ 10 :: r)) = if (Pc.rread N C (Pc.pcs 44 l)).1 = 0 then if 40 ≤ k then ((k : Int) + 1, 7, []) else Pc.more [(Pc.rread N C (Pc.pcs 44 l)).2] (Pc.lread N C (k + 1) (Pc.pieces 10 r)) else ((k : Int) + 1, (Pc.rread N C (Pc.pcs 44 l)).1, []) := by
  rw [Pc.pieces_cut 10 r l hno]
  cases e : Pc.pieces 10 r with
  | nil => exact absurd e (Pc.pieces_ne 10 r)
  | cons q qs => rfl
theorem lread_ok (N C : Nat) : ∀ (ls : List (List UInt8)) (k : Nat), (Pc.lread N C k ls).2.1 = 0 → (Pc.lread N C k ls).1 = 0
  | [], _, _ => rfl
  | [l], k, h => by
    unfold Pc.lread at h ⊢
    by_cases e : l = []
    · rw [if_pos e]
    · rw [if_neg e] at h; simp at h
  | l :: l2 :: ls, k, h => by
    unfold Pc.lread at h ⊢
    by_cases e : (Pc.rread N C (Pc.pcs 44 l)).1 = 0
    · rw [if_pos e] at h ⊢
      by_cases e2 : 40 ≤ k
      · rw [if_pos e2] at h; simp at h
      · rw [if_neg e2] at h ⊢
        unfold Pc.more at h ⊢
        by_cases e3 : (Pc.lread N C (k + 1) (l2 :: ls)).2.1 = 0
        · rw [if_pos e3]
        · rw [if_neg e3] at h; exact absurd h e3
    · rw [if_neg e] at h; exact absurd h e
theorem more_bad (rs : List Row) (a b : Int) (h : ¬ b = 0) : Pc.more rs (a, b, []) = (a, b, []) := by unfold Pc.more; rw [if_neg h]
theorem more_end (rs : List Row) : Pc.more rs (0, 0, []) = (0, 0, rs) := by unfold Pc.more; rw [if_pos rfl]; simp
def faulty (t : Int × Int × List Row) : Ending := .returned (.tuple #[.slice none 0 0, .iface 48 (.agg #[.int .i64 t.1, .int .i64 t.2.1])])
set_option maxHeartbeats 2000000 in
theorem rows (w : World) (n c : Int) (text : ByteArray) (hs : text.size ≤ 1048576) (hV : Re.Vars w) :
    Calls Tryz.prog 16 #[.agg #[.int .i64 n, .int .i64 c], .string text] w fun e w' =>
      (((Pc.tread n c text.data.toList).2.1 = 0 ∧ ∃ v, e = .returned (.tuple #[v, .nilIface]) ∧ OwnT w' w.heap.size w'.heap.size v (Pc.tread n c text.data.toList).2.2) ∨
       (¬ (Pc.tread n c text.data.toList).2.1 = 0 ∧ e = faulty (Pc.tread n c text.data.toList))) ∧ Below w.heap.size w w' := by
  obtain ⟨T, hT⟩ : ∃ T, Pc.tread n c text.data.toList = T := ⟨_, rfl⟩
  have HT : Hid (Pc.tread n c text.data.toList = T) := hT
  rw [hT]
  clear hT
  obtain ⟨i0, hi, hz0, hz1, hz2⟩ := info_parts info_smp
  go_enter Tryz.func16, Tryz.ntmps16
  go_wp2_with fail
  refine (isch _ n c).mono ?_
  rintro e w1 ⟨rfl, hB1⟩
  have hblk := hB1.block w.heap.size (by simp)
  have e0 : w1.cell? ⟨w.heap.size, 0, none⟩ = some (.int .i64 n) := by rw [World.cell?_of_block (a := ⟨w.heap.size, 0, none⟩) hblk]; simp
  have e1 : w1.cell? ⟨w.heap.size, 1, none⟩ = some (.int .i64 c) := by rw [World.cell?_of_block (a := ⟨w.heap.size, 1, none⟩) hblk]; simp
  have hB : Below w.heap.size w w1 := ((Below.refl _ _).alloc (Nat.le_refl _) _).trans (hB1.mono (by simp))
  clear hblk hB1
  cases hq : sok n c
  · have HE : Hid (T = (0, 8, [])) := by
      show _ = _
      rw [← HT.out]; unfold Pc.tread; rw [if_neg (by rw [hq]; simp)]
    go_wp2
    go_ret2
    exact ⟨.inr ⟨by rw [HE.out]; decide, by rw [HE.out]; rfl⟩, hB⟩
  · by_cases h6 : text.size ≤ 6000
    · have hnc : (0 ≤ n ∧ n ≤ 3) ∧ 0 ≤ c ∧ c ≤ 2 := by
        have := hq
        unfold sok at this
        simp at this
        omega
      obtain ⟨N, rfl⟩ : ∃ N : Nat, n = (N : Int) := ⟨n.toNat, by omega⟩
      obtain ⟨C, rfl⟩ : ∃ C : Nat, c = (C : Int) := ⟨c.toNat, by omega⟩
      have HE : Hid (T = Pc.more [] (Pc.lread N C 0 (Pc.pieces 10 text.data.toList))) := by
        show _ = _
        have hl : text.data.toList.length ≤ 6000 := by have : text.data.toList.length = text.size := (by simp); omega
        rw [← HT.out, Pc.more_nil _ (lread_ok N C _ 0)]
        unfold Pc.tread
        rw [if_pos hq, if_pos hl]
        rfl
      have hnN : N ≤ 3 := by omega
      have hcC : C ≤ 2 := by omega
      have hV1 := hV.below hB
      have hp1 := past_of hV1
      have hws := hB.size
      have hcells := six (W := w1) (n := N) (c := C) (t := text) 72
      have hB2 := hB.alloc hws (.cells #[.int .i64 N, .int .i64 C, .string text, .int .i64 0] 72)
      have hV2 := hV.below hB2
      clear hnc hq HT
      go_wp2
      clear e0 e1
      go_loopw [7] (fun v wr => ∃ rs : List Row, ∃ rest : ByteArray, rs.length ≤ 40 ∧ rest.size ≤ 6000 ∧ T = Pc.more rs (Pc.lread N C rs.length (Pc.pieces 10 rest.data.toList)) ∧ lenOf v = rs.length ∧ OwnT wr (w1.heap.size + 1) wr.heap.size v rs ∧ Cells wr w1.heap.size N C rest rs.length ∧ Below w.heap.size w wr ∧ Re.Vars wr) (fun v _ => 41 - lenOf v)
      case atStart => exact ⟨[], text, by simp, h6, HE.out, rfl, OwnT.nil _ _ _, hcells, hB2, hV2⟩
      case round =>
        clear HE hB2 hV2 hcells
        obtain ⟨rs, rest, hrl, hrz, hTT, hlv, ho, hcl, hBr, hVr⟩ := hrel
        have HT : Hid (T = Pc.more rs (Pc.lread N C rs.length (Pc.pieces 10 rest.data.toList))) := hTT
        have HV : Hid (lenOf u7 = rs.length) := hlv
        have hpb : Past w1.heap.size := hp1
        clear hTT hlv
        obtain ⟨hbl, ⟨d0, d1, d2, d3⟩, _⟩ := id hcl
        by_cases he : rest = ⟨#[]⟩
        · subst he
          have HE : Hid (T = (0, 0, rs)) := by
            show _ = _
            rw [HT.out]
            exact more_end rs
          go_wp2
          go_ret2
          exact ⟨.inl ⟨by rw [HE.out], _, rfl, by rw [HE.out]; exact ho.mono (by omega) (Nat.le_refl _)⟩, hBr⟩
        · have hne : rest.toList.isEmpty = false := by
            cases h : rest.toList with
            | nil => exact absurd (Ls.tl_inj (t := ⟨#[]⟩) (h.trans (by kernel_rfl))) he
            | cons _ _ => rfl
          have HNE : Hid (¬ rest.data.toList = []) := fun h => he (by rw [← Pc.ba_of rest, h]; rfl)
          clear he
          go_wp2_with fail
          refine (row wr _ N C rest rs.length (by exact hcl) (by omega) hVr (by exact hpb) hnN hcC (by omega)).mono ?_
          rintro e w2 ⟨hrow, hg2⟩
          have hB2 : Below w.heap.size w w2 := hBr.trans ((gbelow hg2 (by omega)).mono (by omega))
          have hV2 : Re.Vars w2 := vars_past hVr hpb (gbelow hg2 (by omega))
          have hsz := hg2.size
          clear hcl d0 d1 d2 d3 hne hVr
          rcases hrow with ⟨hno, rfl⟩ | ⟨l, r, hlr, hno, hrow⟩
          · have HE : Hid (T = ((rs.length : Int) + 1, 2, [])) := by
              show _ = _
              rw [HT.out, lread_open N C _ _ HNE.out hno, more_bad _ _ _ (by decide)]
            clear hno
            unfold bad
            go_wp2
            go_ret2
            exact ⟨.inr ⟨by rw [HE.out]; simp, by rw [HE.out]; rfl⟩, hB2.alloc (by omega) _⟩
          · have HC : Hid _ := lread_cut N C rs.length l r hno
            have HLR : Hid (rest.data.toList = l ++ 10 :: r) := hlr
            have hlen : l.length + r.length < rest.size := by
              have : rest.data.toList.length = rest.size := by simp
              rw [hlr] at this; simp at this; omega
            clear hlr hno
            rcases hrow with ⟨h0, rfl⟩ | ⟨h0, h40, rfl⟩ | ⟨h0, h40, hc2, u0, u1, rfl, o0, o1, hap⟩
            · have HE : Hid (T = ((rs.length : Int) + 1, (Pc.rread N C (Pc.pcs 44 l)).1, [])) := by
                show _ = _
                rw [HT.out, HLR.out, HC.out, if_neg h0, more_bad _ _ _ h0]
              have H0 : Hid (¬ (Pc.rread N C (Pc.pcs 44 l)).1 = 0) := h0
              clear h0
              unfold bad
              go_wp2
              go_ret2
              exact ⟨.inr ⟨by rw [HE.out]; exact H0.out, by rw [HE.out]; rfl⟩, hB2.alloc (by omega) _⟩
            · have HE : Hid (T = ((rs.length : Int) + 1, 7, [])) := by
                show _ = _
                rw [HT.out, HLR.out, HC.out, if_pos h0, if_pos (by omega), more_bad _ _ _ (by decide)]
              clear h0
              unfold bad
              go_wp2
              go_ret2
              exact ⟨.inr ⟨by rw [HE.out]; simp, by rw [HE.out]; rfl⟩, hB2.alloc (by omega) _⟩
            · have HE : Hid (T = Pc.more (rs ++ [(Pc.rread N C (Pc.pcs 44 l)).2]) (Pc.lread N C (rs.length + 1) (Pc.pieces 10 r))) := by
                show _ = _
                rw [HT.out, HLR.out, HC.out, if_pos h0, if_neg (by omega), Pc.more_more]
              clear h0
              obtain ⟨y, hy⟩ : ∃ y, (Pc.rread N C (Pc.pcs 44 l)).2 = y := ⟨_, rfl⟩
              rw [hy] at o0 o1 HE ⊢
              clear hy HC
              obtain ⟨a0, q0, rfl, _⟩ := o0.isl
              obtain ⟨a1, q1, rfl, _⟩ := o1.iss
              have ho2 : OwnT w2 (w1.heap.size + 1) wr.heap.size u7 rs := ho.off hg2 (.inl (by omega))
              obtain ⟨g3, xs3, V03, V13, hgo3, hown3, hN3, hv3⟩ := id ho2
              go_wp2_with (at_builtin; refine wpList_append_lies _ rfl _ _ 28 rfl (w1.heap.size + 1) 54 i0 (.agg #[.slice none 0 0, .slice none 0 0, .int .i64 0]) 3 56 Tryz.underlying28 hi hz0 hz1 hz2 rfl (by decide) _ rs.length xs3 rfl (World.ownsRow.alloc (World.ownsRow.alloc hown3 _) _) ⟨w2.heap.size + 1, 0, none⟩ 1 1 [.slice a0 y.nums.length q0, .slice a1 y.cats.length q1, .int .i64 y.label] rfl rfl (Db.three_at (by simp)) Db.three_one (by decide) (by unfold maxLen; omega) (by omega) (by simp; omega) _ rfl ?_; intro g cap w5 hown5 hgrow hpos hglt)
              have hBa : Below w2.heap.size w2 ((w2.alloc (.cells #[.slice a0 y.nums.length q0, .slice a1 y.cats.length q1, .int .i64 y.label] 54)).alloc (.cells #[.slice a0 y.nums.length q0, .slice a1 y.cats.length q1, .int .i64 y.label] 54)) := ((Below.refl _ _).alloc (Nat.le_refl _) _).alloc (by simp) _
              have HO : Hid (OwnT w5 (w1.heap.size + 1) w5.heap.size (.slice (some ⟨g, 0, none⟩) (rs.length + 1) cap) (rs ++ [y])) :=
                Db.push (W := ((w2.alloc _).alloc _)) rfl hgo3 (World.ownsRow.alloc (World.ownsRow.alloc hown3 _) _) (Db.nest_alloc (Db.nest_alloc hN3 _) _) (World.ownsRow.alloc (World.ownsRow.alloc o0 _) _) (World.ownsRow.alloc (World.ownsRow.alloc o1 _) _) hap (by omega) hv3 hgrow hpos hglt hown5
              have hge : ∀ k, u7.ownBlock = some k → w1.heap.size + 1 ≤ k := fun k hk => (World.ownsRow.lt hown3 k hk).1
              have hB5 : Below (w1.heap.size + 1) _ w5 := Li.below_own hgrow hge (by simp; omega)
              have HCl : Hid (Cells w5 w1.heap.size N C (Pc.ba r) (rs.length + 1)) := ((hc2.below hBa).keptAt hgrow.size (hB5.block w1.heap.size (by omega)))
              have HVr : Hid (Re.Vars w5) := vars_past (hV2.below hBa) hpb (hB5.mono (by omega))
              have HBn : Hid (Below w.heap.size w w5) := (hB2.trans (hBa.mono hB2.size)).trans (hB5.mono (by omega))
              clear hown5 hgrow hpos hgo3 hown3 hN3 hv3 o0 o1 ho ho2 hBa hB5 hc2 hB2 hV2 hBr hap hge
              go_wp2
              go_roundw
              case rel => exact ⟨rs ++ [y], Pc.ba r, by simp; omega, by rw [Pc.ba_size]; omega, by rw [HE.out, Pc.ba_data]; simp, by simp [lenOf], HO.out, by have h := HCl.out; simpa using h, HBn.out, HVr.out⟩
              case measure =>
                show 41 - (rs.length + 1) < 41 - lenOf u7
                rw [HV.out]; omega
    · have HE : Hid (T = (0, 1, [])) := by
        show _ = _
        rw [← HT.out]; unfold Pc.tread; rw [if_pos hq, if_neg (by have : text.data.toList.length = text.size := (by simp); omega)]
      go_wp2
      go_ret2
      exact ⟨.inr ⟨by rw [HE.out]; decide, by rw [HE.out]; rfl⟩, hB⟩
end Go.Proofs.YtajfldjhbgilmaaGreatDoor.Rd
