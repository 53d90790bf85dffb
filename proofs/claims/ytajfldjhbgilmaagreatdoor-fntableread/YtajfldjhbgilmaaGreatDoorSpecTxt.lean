/-
  The model's TableText: it answers the same plain function of the table.
-/
import Derived.Test.YtajfldjhbgilmaaGreatDoorRowTxt
import Derived.Laws.BytesArg
namespace Go.Proofs.YtajfldjhbgilmaaGreatDoor.Tt
open Go.RowKit
open Go.Proofs.YtajfldjhbgilmaaGreatDoor.Tb
open Go.Proofs.YtajfldjhbgilmaaGreatDoor.Tk
open Go.Proofs.YtajfldjhbgilmaaGreatDoor.Li (ret_bool grown_refl grown_trans grown_set below_none)

/-- Texts, each with a comma behind. -/
def seg (ps : List ByteArray) : List UInt8 := (ps.map fun s => s.data.toList ++ [44]).flatten
theorem join_tail (sep q : List UInt8) : ∀ (ps : List (List UInt8)) (p : List UInt8), p ++ Lib.joinTail sep (ps ++ [q]) = p ++ sep ++ (ps.map (· ++ sep)).flatten ++ q
  | [], p => by simp [Lib.joinTail]
  | p1 :: ps, p => by
    have ih := join_tail sep q ps p1
    simp only [Lib.joinTail, List.cons_append, List.map_cons, List.flatten_cons, List.append_assoc] at ih ⊢
    rw [ih]
theorem join_snoc (sep q : List UInt8) (ps : List (List UInt8)) : Lib.join (ps ++ [q]) sep = (ps.map (· ++ sep)).flatten ++ q := by
  cases ps with
  | nil => rw [List.nil_append, Lib.join_one]; rfl
  | cons p ps => rw [List.cons_append, Lib.join_cons, join_tail]; simp
theorem rtext_seg (r : Row) : rtext r = seg (nparts r.nums) ++ seg r.cats ++ Tx.ftext r.label ++ [10] := by
  unfold rtext rparts
  rw [List.map_append, show List.map (·.data.toList) [fb r.label] = [Tx.ftext r.label] by simp [fb], join_snoc]
  simp [seg, Function.comp_def]
theorem seg_take (ps : List ByteArray) (k : Nat) (h : k < ps.length) : seg (ps.take (k + 1)) = seg (ps.take k) ++ (ps[k].data.toList ++ [44]) := by
  unfold seg
  rw [take_get ps k h, List.map_append, List.flatten_append]
  simp
theorem seg_le (m : Nat) : ∀ (ps : List ByteArray), (∀ p ∈ ps, p.size ≤ m) → (seg ps).length ≤ ps.length * (m + 1)
  | [], _ => by simp [seg]
  | p :: ps, h => by
    have h1 := h p (by simp)
    have h2 := seg_le m ps (fun x hx => h x (by simp [hx]))
    unfold seg at h2 ⊢
    simp only [List.map_cons, List.flatten_cons, List.length_append, List.length_cons, List.length_nil, Array.length_toList]
    have : p.data.size = p.size := rfl
    rw [Nat.add_mul]
    omega
/-- The value v is a slice of bytes of the call's own that holds l. -/
def Ob (w : World) (base : Nat) (v : Value) (l : List UInt8) : Prop := w.ownsRow base 5 1 v l.length (Lib.byteCells l)
theorem Ob.below {w w1 : World} {base : Nat} {v : Value} {l : List UInt8} (h : Ob w base v l) (hB : Below w.heap.size w w1) : Ob w1 base v l := ownsRow_at h fun k e => hB.block k (World.ownsRow.lt h k e).2
theorem ob_more {w : World} {base n m : Nat} {v : Value} {l : List UInt8} {s : ByteArray} (hn : l.length = n) (hm : s.size = m) (h : w.ownsRow base 5 1 v (n + m) (Lib.byteCells l ++ Lib.strCells s)) : Ob w base v (l ++ s.data.toList) := by
  subst hn; subst hm
  unfold Ob
  rw [List.length_append]
  have e : Lib.byteCells (l ++ s.data.toList) = Lib.byteCells l ++ Lib.strCells s := by simp [Lib.byteCells, Lib.strCells]
  rw [e]
  simpa using h
theorem ob_empty (w : World) (base : Nat) (hb : base ≤ w.heap.size) : Ob (w.alloc (.cells #[] 5)) base (.slice (some ⟨w.heap.size, 0, none⟩) 0 0) [] :=
  World.ownsRow_made w #[] 0 hb (by unfold maxLen; omega) (by simp)
/-- A variable of three cells that lies in its block alone. -/
def Lies (w : World) (b : Nat) (v0 v1 v2 : Value) : Prop := w.heap[b]? = some (.cells #[v0, v1, v2] 54 (0, 0))
theorem Lies.box {w : World} {b : Nat} {v0 v1 v2 : Value} (h : Lies w b v0 v1 v2) : w.cell? ⟨b, 0, none⟩ = some v0 ∧ w.cell? ⟨b, 1, none⟩ = some v1 ∧ w.cell? ⟨b, 2, none⟩ = some v2 :=
  ⟨Lib.cell_of_heap h 0, Lib.cell_of_heap h 1, Lib.cell_of_heap h 2⟩
theorem Lies.below {w w1 : World} {b : Nat} {v0 v1 v2 : Value} (h : Lies w b v0 v1 v2) (hB : Below w.heap.size w w1) : Lies w1 b v0 v1 v2 := by
  have hlt : b < w.heap.size := (Array.getElem?_eq_some_iff.1 h).1
  exact (hB.block b hlt).trans h
theorem Lies.grown {w w1 : World} {b base n : Nat} {v0 v1 v2 v : Value} {xs : List Value} (h : Lies w b v0 v1 v2) (ho : w.ownsRow base 5 1 v n xs) (hg : w.grownBy w1 v.ownBlock) : Lies w1 b v0 v1 v2 := by
  have hlt : b < w.heap.size := (Array.getElem?_eq_some_iff.1 h).1
  exact (hg.block b hlt (fun e => Lib.ownBlock_ne ho h (by decide) e.symm)).trans h
theorem info_byte : (Tryz.prog.info? 5).map (fun i => (i.zero, i.size, i.bytes)) = some (some (.int .u8 0), 1, 1) := by kernel_rfl
set_option maxRecDepth 100000 in
set_option maxHeartbeats 4000000 in
theorem sttext (w : World) (n c : Int) (a : Option Addr) (cap : Nat) (rs : List Row) (hx : IsR w a rs) (hl : rs.length + szR rs ≤ 1048576) :
    Calls Tryz.prog 13 #[.agg #[.int .i64 n, .int .i64 c, .slice a rs.length cap]] w fun e w' => e = .returned (.string ⟨(tabtext n c rs).toArray⟩) ∧ Below w.heap.size w w' := by
  obtain ⟨i0, hi, hz0, hz1, hz2⟩ := info_parts info_byte
  obtain ⟨W, hW, hsz, hB, bx⟩ := box3_new' w (.int .i64 n) (.int .i64 c) (.slice a rs.length cap) 30
  have HW : Hid (w.alloc (.cells #[.int .i64 n, .int .i64 c, .slice a rs.length cap] 30) = W) := hW
  clear hW
  go_enter Tryz.func13, Tryz.ntmps13
  go_wp2_with fail
  rw [HW.out]
  clear HW
  refine (stab _ _ _ _ _ rs (hx.below hB) hl).mono ?_
  rintro e w1 ⟨rfl, hB1⟩
  have bx := bx.below hB1
  have hB := hB.trans (hB1.mono hB.size)
  clear hB1 hsz
  cases ht : tok n c rs
  · have HR : Hid (tabtext n c rs = []) := by show _ = _; unfold tabtext; rw [ht]; rfl
    go_wp2
    go_ret
    exact ⟨by rw [HR.out]; rfl, hB⟩
  · have HR : Hid (tabtext n c rs = ttext rs) := by show _ = _; unfold tabtext; rw [ht]; rfl
    have HT : Hid (tok n c rs = true) := ht
    clear ht
    have hle := hB.size
    have hob := ob_empty w1 w1.heap.size (Nat.le_refl _)
    have hbe : Below w1.heap.size w1 (w1.alloc (.cells #[] 5)) := (Below.refl _ _).alloc (Nat.le_refl _) _
    go_wp2
    go_loopw [3, 4] (fun v i wr => ∃ k : Nat, k ≤ rs.length ∧ i = .int .i64 k ∧ Ob wr w1.heap.size v (ttext (rs.take k)) ∧ Below w1.heap.size w1 wr) (fun _ i _ => rs.length - (intOf i).toNat)
    case atStart => exact ⟨0, Nat.zero_le _, rfl, hob, hbe⟩
    case round =>
      obtain ⟨k, hk, rfl, ho, hBr⟩ := hrel
      clear hob hbe
      have hBe := hB.trans (hBr.mono hle)
      have bxr := bx.below hBr
      obtain ⟨_, ⟨cx0, cx1, cx2⟩, _⟩ := id bxr
      have htp := ttext_pre HT.out k
      by_cases hlt : k < rs.length
      · rcases id hx with h0 | ⟨xb, xo, rfl, hxb, hxc⟩
        · rw [h0] at hlt; simp at hlt
        obtain ⟨v0, v1, v2, ⟨d0, d1, d2⟩, hr⟩ := hxc k hlt
        clear hxc
        have hrk := all_at HT.out k hlt
        have HTK : Hid (ttext (rs.take (k + 1)) = ttext (rs.take k) ++ seg (nparts rs[k].nums) ++ seg rs[k].cats ++ (Tx.ftext rs[k].label ++ [10])) := by
          show _ = _
          have := ttext_take rs k hlt
          rw [rtext_seg] at this
          rw [this]
          simp only [List.append_assoc]
        generalize rs[k] = r at hr hrk HTK
        obtain ⟨a0, q0, a1, q1, rfl, rfl, rfl, j0, j1⟩ := hr
        have d0 := (hBe.cell (by exact hxb)).trans d0
        have d1 := (hBe.cell (by exact hxb)).trans d1
        have d2 := (hBe.cell (by exact hxb)).trans d2
        obtain ⟨s1, s2, s3⟩ := rok_sizes hrk
        have hBa : Below wr.heap.size wr (wr.alloc (.cells #[.slice a0 r.nums.length q0, .slice a1 r.cats.length q1, .int .i64 r.label] 54)) := (Below.refl _ _).alloc (Nat.le_refl _) _
        have hlies : Lies (wr.alloc (.cells #[.slice a0 r.nums.length q0, .slice a1 r.cats.length q1, .int .i64 r.label] 54)) wr.heap.size (.slice a0 r.nums.length q0) (.slice a1 r.cats.length q1) (.int .i64 r.label) := heap_alloc_new wr _
        have ho1 := ho.below hBa
        have hBr1 := hBr.trans (hBa.mono hBr.size)
        generalize hW2 : wr.alloc (.cells #[.slice a0 r.nums.length q0, .slice a1 r.cats.length q1, .int .i64 r.label] 54) = W2 at hlies ho1 hBr1
        have HW2 : Hid (wr.alloc (.cells #[.slice a0 r.nums.length q0, .slice a1 r.cats.length q1, .int .i64 r.label] 54) = W2) := hW2
        obtain ⟨rb, hrb⟩ : ∃ rb, wr.heap.size = rb := ⟨_, rfl⟩
        rw [hrb] at hlies
        have HRB : Hid (wr.heap.size = rb) := hrb
        clear hW2 hBa hrb
        generalize hX : ttext (rs.take k) = X at ho1 htp HTK
        clear hX
        go_wp2
        rw [HW2.out, HRB.out]
        clear HW2
        have hsn : (seg (nparts r.nums)).length ≤ 3 * 45 := by
          have h1 := seg_le 44 (nparts r.nums) (fun p hp => by simp only [nparts, List.mem_map] at hp; obtain ⟨x, _, rfl⟩ := hp; exact fb_size x)
          rw [nparts_length] at h1
          have := Nat.mul_le_mul s1 (Nat.le_refl 45)
          omega
        have hsc : (seg r.cats).length ≤ 2 * 13 := by
          have h1 := seg_le 12 r.cats s3
          have := Nat.mul_le_mul s2 (Nat.le_refl 13)
          omega
        have hlen := nparts_length r.nums
        go_loopw [3, 6] (fun v i wq => ∃ j : Nat, j ≤ r.nums.length ∧ i = .int .i64 j ∧ Ob wq w1.heap.size v (X ++ seg ((nparts r.nums).take j)) ∧ Lies wq rb (.slice a0 r.nums.length q0) (.slice a1 r.cats.length q1) (.int .i64 r.label) ∧ Below w1.heap.size w1 wq) (fun _ i _ => r.nums.length - (intOf i).toNat)
        case atStart => exact ⟨0, Nat.zero_le _, rfl, by simpa [seg] using ho1, hlies, hBr1⟩
        case round =>
          obtain ⟨j, hj, rfl, hoq, hlq, hBq⟩ := hrel
          have hBqe := hB.trans (hBq.mono hle)
          obtain ⟨l0, l1, l2⟩ := hlq.box
          by_cases hjl : j < r.nums.length
          · rcases j0.below hBqe with h0 | ⟨yb, yo, rfl, hyb, hyc⟩
            · rw [h0] at hjl; simp at hjl
            have hcy := hyc j hjl
            clear hyc
            have HS : Hid (seg ((nparts r.nums).take (j + 1)) = seg ((nparts r.nums).take j) ++ ((fb r.nums[j]).data.toList ++ [44])) := by
              have := seg_take (nparts r.nums) j (by omega)
              rwa [nparts_get r.nums j hjl] at this
            have hlj : (seg ((nparts r.nums).take j)).length ≤ 3 * 45 := by
              have h1 := seg_le 44 ((nparts r.nums).take j) (fun p hp => by have hp := List.mem_of_mem_take hp; simp only [nparts, List.mem_map] at hp; obtain ⟨x, _, rfl⟩ := hp; exact fb_size x)
              have h2 : ((nparts r.nums).take j).length ≤ 3 := by rw [List.length_take]; omega
              have := Nat.mul_le_mul h2 (Nat.le_refl 45)
              omega
            have hfl := ftext_le r.nums[j]
            go_wp2_with fail
            refine (Tx.stext _ _).mono ?_
            rintro e w3 ⟨rfl, hB3⟩
            have hoq := hoq.below hB3
            have hlq := hlq.below hB3
            have hBq := hBq.trans (hB3.mono hBq.size)
            have hsz3 := hBq.size
            clear hB3 l0 l1 l2
            have hol : (X ++ seg ((nparts r.nums).take j)).length ≤ 12000 := by rw [List.length_append]; omega
            go_wp2_with (at_builtin; refine Lib.wpList_append_own_string _ rfl _ _ 22 9 rfl w1.heap.size 5 i0 Tryz.underlying22 Tryz.underlying9 hi hz0 hz1 hz2 _ _ _ rfl hoq ((⟨(Tx.ftext r.nums[j]).toArray⟩ : ByteArray) ++ ⟨#[44]⟩) rfl (by rw [ByteArray.size_append, ba_size]; unfold maxLen; simp only [ByteArray.size]; simp; omega) (by rw [ByteArray.size_append, ba_size]; simp only [ByteArray.size]; simp; omega) hsz3 ?_)
            intro v4 w4 hown4 hgrow4 hnn4
            have ho4 : Ob w4 w1.heap.size v4 (X ++ seg ((nparts r.nums).take (j + 1))) := by
              have := ob_more (List.length_append) (by rw [ByteArray.size_append, ba_size]; rfl) hown4
              rw [HS.out, ← List.append_assoc]
              simpa [fb] using this
            have hl4 := hlq.grown hoq hgrow4
            have hB4 : Below w1.heap.size w1 w4 := hBq.grown hgrow4 hsz3 (fun g hg => (World.ownsRow.lt hoq g hg).1)
            clear hnn4 hown4 hgrow4 hoq hlq
            go_wp2
            go_roundw
            case rel => exact ⟨j + 1, by omega, by go_num, ho4, hl4, hB4⟩
            case measure => simp [intOf]; omega
          · have hoq : Ob wr w1.heap.size u3 (X ++ seg (nparts r.nums)) := by rwa [List.take_of_length_le (by omega)] at hoq
            generalize hY : X ++ seg (nparts r.nums) = Y at hoq HTK
            have hYl : Y.length ≤ 11400 := by rw [← hY, List.length_append]; omega
            clear hY
            go_wp2
            go_loopw [3, 7] (fun v i wq => ∃ j : Nat, j ≤ r.cats.length ∧ i = .int .i64 j ∧ Ob wq w1.heap.size v (Y ++ seg (r.cats.take j)) ∧ Lies wq rb (.slice a0 r.nums.length q0) (.slice a1 r.cats.length q1) (.int .i64 r.label) ∧ Below w1.heap.size w1 wq) (fun _ i _ => r.cats.length - (intOf i).toNat)
            case atStart => exact ⟨0, Nat.zero_le _, rfl, by simpa [seg] using hoq, hlq, hBq⟩
            case round =>
              obtain ⟨jc, hjc, rfl, hoc, hlc, hBc⟩ := hrel
              clear hoq hlq l0 l1 l2
              have hBce := hB.trans (hBc.mono hle)
              obtain ⟨l0, l1, l2⟩ := hlc.box
              have hszc := hBc.size
              by_cases hjcl : jc < r.cats.length
              · rcases j1.below hBce with h0 | ⟨zb, zo, rfl, hzb, hzc⟩
                · rw [h0] at hjcl; simp at hjcl
                have hcz := hzc jc hjcl
                clear hzc
                have HS : Hid (seg (r.cats.take (jc + 1)) = seg (r.cats.take jc) ++ (r.cats[jc].data.toList ++ [44])) := seg_take r.cats jc hjcl
                have hlj : (seg (r.cats.take jc)).length ≤ 2 * 13 := by
                  have h1 := seg_le 12 (r.cats.take jc) (fun p hp => s3 p (List.mem_of_mem_take hp))
                  have h2 : (r.cats.take jc).length ≤ 2 := by rw [List.length_take]; omega
                  have := Nat.mul_le_mul h2 (Nat.le_refl 13)
                  omega
                have hfl := s3 r.cats[jc] (List.getElem_mem hjcl)
                generalize r.cats[jc] = wd at hcz HS hfl
                have hol : (Y ++ seg (r.cats.take jc)).length ≤ 12000 := by rw [List.length_append]; omega
                have HSZ : Hid ((wd ++ ⟨#[44]⟩ : ByteArray).size = wd.size + 1) := by show _ = _; rw [ByteArray.size_append]; rfl
                go_wp2_with (at_builtin; refine Lib.wpList_append_own_string _ rfl _ _ 22 9 rfl w1.heap.size 5 i0 Tryz.underlying22 Tryz.underlying9 hi hz0 hz1 hz2 _ _ _ rfl hoc (wd ++ ⟨#[44]⟩) rfl (by rw [HSZ.out]; unfold maxLen; omega) (by rw [HSZ.out]; omega) hszc ?_)
                intro v4 w4 hown4 hgrow4 hnn4
                have ho4 : Ob w4 w1.heap.size v4 (Y ++ seg (r.cats.take (jc + 1))) := by
                  have := ob_more (List.length_append) (by rw [ByteArray.size_append]; rfl) hown4
                  rw [HS.out, ← List.append_assoc]
                  simpa using this
                have hl4 := hlc.grown hoc hgrow4
                have hB4 : Below w1.heap.size w1 w4 := hBc.grown hgrow4 hszc (fun g hg => (World.ownsRow.lt hoc g hg).1)
                clear hnn4 hown4 hgrow4 hoc hlc
                go_wp2
                go_roundw
                case rel => exact ⟨jc + 1, by omega, by go_num, ho4, hl4, hB4⟩
                case measure => simp [intOf]; omega
              · have hoc : Ob wr w1.heap.size u3 (Y ++ seg r.cats) := by rwa [List.take_of_length_le (by omega)] at hoc
                generalize hZ : Y ++ seg r.cats = Z at hoc HTK
                have hZl : Z.length ≤ 11500 := by rw [← hZ, List.length_append]; omega
                have hfl := ftext_le r.label
                clear hZ
                go_wp2_with fail
                refine (Tx.stext _ _).mono ?_
                rintro e w5 ⟨rfl, hB5⟩
                have hoc := hoc.below hB5
                have hBc := hBc.trans (hB5.mono hBc.size)
                have hsz5 := hBc.size
                clear hB5 l0 l1 l2 hlc
                go_wp2_with (at_builtin; refine Lib.wpList_append_own_string _ rfl _ _ 22 9 rfl w1.heap.size 5 i0 Tryz.underlying22 Tryz.underlying9 hi hz0 hz1 hz2 _ _ _ rfl hoc ((⟨(Tx.ftext r.label).toArray⟩ : ByteArray) ++ ⟨#[10]⟩) rfl (by rw [ByteArray.size_append, ba_size]; unfold maxLen; simp only [ByteArray.size]; simp; omega) (by rw [ByteArray.size_append, ba_size]; simp only [ByteArray.size]; simp; omega) hsz5 ?_)
                intro v6 w6 hown6 hgrow6 hnn6
                have ho6 : Ob w6 w1.heap.size v6 (ttext (rs.take (k + 1))) := by
                  have := ob_more rfl (by rw [ByteArray.size_append, ba_size]; rfl) hown6
                  rw [HTK.out]
                  simpa using this
                have hB6 : Below w1.heap.size w1 w6 := hBc.grown hgrow6 hsz5 (fun g hg => (World.ownsRow.lt hoc g hg).1)
                clear hnn6 hown6 hgrow6 hoc
                go_wp2
                go_roundw
                case rel => exact ⟨k + 1, by omega, by go_num, ho6, hB6⟩
                case measure => simp [intOf]; omega
      · have e : rs.take k = rs := List.take_of_length_le (by omega)
        rw [e] at ho htp
        clear e
        rcases ho.2 with ⟨hv, h0⟩ | ⟨g, cap', cur, hv, hg, hh, _⟩
        · subst hv
          have hcv := run_convert_bytes_nil (P := Tryz.prog) (w := wr) 22 5 Tryz.underlying22 Tryz.underlying5 0 0 9 Tryz.underlying9
          have HZ : Hid (ttext rs = []) := List.length_eq_zero_iff.1 h0
          clear h0
          go_wp2
          go_ret
          exact ⟨by rw [HR.out, HZ.out]; rfl, hBe⟩
        · subst hv
          have hcv := run_convert_bytes_back (P := Tryz.prog) wr 22 9 5 ⟨g, 0, none⟩ cap' (ttext rs) Tryz.underlying22 Tryz.underlying5 Tryz.underlying9 (fun j hj => by
            rw [Go.WideShapes.add_plain, Nat.zero_add, World.ownsRow.cellAt ho j (by omega)]
            simp [Lib.byteCells, List.getElem?_eq_getElem hj])
          clear hh
          go_wp2
          go_ret
          exact ⟨by rw [HR.out]; rfl, hBe⟩
end Go.Proofs.YtajfldjhbgilmaaGreatDoor.Tt
