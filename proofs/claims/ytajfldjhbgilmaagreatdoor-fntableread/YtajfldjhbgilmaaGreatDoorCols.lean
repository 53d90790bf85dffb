/-
  The columns of a table: contracts of Labels, Column, Words, of the program and of its model, over plain functions of lists; a table marked.
-/
import Derived.Test.YtajfldjhbgilmaaGreatDoorTabX
namespace Go.Proofs.YtajfldjhbgilmaaGreatDoor.Co
open Go.RowKit
open Go.Proofs.YtajfldjhbgilmaaGreatDoor.Tb
open Go.Proofs.YtajfldjhbgilmaaGreatDoor.Tk
open Go.Proofs.YtajfldjhbgilmaaGreatDoor.Li (ret_bool grown_refl grown_trans grown_set below_none info_int btw between_any)

theorem one_cell (w : World) (T : TypeId) (x : Int) : ∀ j u, ([Value.int .i64 x] : List Value)[j]? = some u → (w.alloc (.cells #[.int .i64 x] T)).cell? ((⟨w.heap.size, 0, none⟩ : Addr).add j) = some u := by
  intro j u hj
  match j, hj with
  | 0, hj => simp at hj; subst hj; simp [Addr.add]
theorem one_one (x : Int) : ∀ u ∈ ([Value.int .i64 x] : List Value), u.oneCell' = true := by
  intro u hu; simp at hu; subst hu; rfl
theorem own_snoc {w : World} {base n : Nat} {v : Value} {l : List Int} {x : Int} (hn : l.length = n) (h : w.ownsRow base 3 1 v (n + 1) (Li.iv l ++ [.int .i64 x])) : Li.Own w base v (l ++ [x]) := by
  subst hn
  unfold Li.Own
  rw [← Li.iv_append, List.length_append]
  exact h
theorem own_empty (w : World) (base : Nat) (hb : base ≤ w.heap.size) : Li.Own (w.alloc (.cells #[] 3)) base (.slice (some ⟨w.heap.size, 0, none⟩) 0 0) [] :=
  World.ownsRow_made w #[] 0 hb (by unfold maxLen; omega) (by simp)
def labs (rs : List Row) : List Int := rs.map Row.label
def labels (n c : Int) (rs : List Row) : List Int := if tok n c rs = true then labs rs else []
theorem labs_length (rs : List Row) : (labs rs).length = rs.length := by simp [labs]
theorem labels_le (n c : Int) (rs : List Row) : (labels n c rs).length ≤ rs.length := by
  unfold labels; split
  · rw [labs_length]; exact Nat.le_refl _
  · simp
theorem labs_get (rs : List Row) (j : Nat) (h : j < rs.length) : (labs rs)[j]'(by rw [labs_length]; exact h) = rs[j].label := by simp [labs]
set_option maxHeartbeats 2000000 in
theorem ilabels (w : World) (n c : Int) (a : Option Addr) (cap : Nat) (rs : List Row) (hx : IsR w a rs) (hl : rs.length + szR rs ≤ 1048576) :
    Calls Tryz.prog 10 #[.agg #[.int .i64 n, .int .i64 c, .slice a rs.length cap]] w fun e w' => ∃ v, e = .returned v ∧ Li.Own w' w.heap.size v (labels n c rs) ∧ Below w.heap.size w w' := by
  obtain ⟨i0, hi, hz0, hz1, hz2⟩ := info_parts info_int
  obtain ⟨W, hW, hsz, hB, bx⟩ := box3_new' w (.int .i64 n) (.int .i64 c) (.slice a rs.length cap) 30
  have HW : Hid (w.alloc (.cells #[.int .i64 n, .int .i64 c, .slice a rs.length cap] 30) = W) := hW
  clear hW
  go_enter Tryz.func10, Tryz.ntmps10
  go_wp2_with fail
  rw [HW.out]
  clear HW
  refine (itab _ _ _ _ _ rs (hx.below hB) hl).mono ?_
  rintro e w1 ⟨rfl, hB1⟩
  have bx := bx.below hB1
  have hB := hB.trans (hB1.mono hB.size)
  clear hB1 hsz
  obtain ⟨hbx, ⟨cx0, cx1, cx2⟩, _⟩ := id bx
  cases ht : tok n c rs
  · have HR : Hid (labels n c rs = []) := by show _ = _; unfold labels; rw [ht]; rfl
    go_wp2
    go_ret
    exact ⟨_, rfl, by rw [HR.out]; exact Li.Own.nil _ _, hB⟩
  · have HR : Hid (labels n c rs = labs rs) := by show _ = _; unfold labels; rw [ht]; rfl
    have hle := hB.size
    clear ht
    go_wp2_with (at_make; refine wpList_make_full _ rfl _ _ 35 rfl w.heap.size 3 i0 (.int .i64 0) 1 Tryz.underlying35 hi hz0 hz1 _ _ _ _ rs.length rfl rfl (by omega) (by omega) (by rw [hz2]; omega) (by unfold maxLen; omega) (by omega) ?_; intro w2 hown hgrow; have bx2 := bx.below (below_none hgrow); obtain ⟨_, ⟨dx0, dx1, dx2⟩, _⟩ := id bx2)
    have hown' := Li.own_made hown
    have hB1 := below_none hgrow
    have hB := hB.trans (hB1.mono hB.size)
    clear hown hgrow hB1
    have hx := hx
    go_loopw [16] (fun i wr => ∃ k : Nat, k ≤ rs.length ∧ i = .int .i64 k ∧ ∃ l : List Int, l.length = rs.length ∧ Li.Like l (labs rs) k ∧ Li.Own wr w.heap.size (.slice (some ⟨w1.heap.size, 0, none⟩) rs.length rs.length) l ∧ Below w.heap.size w wr) (fun i _ => rs.length - (intOf i).toNat)
    case atStart => exact ⟨0, Nat.zero_le _, rfl, _, by simp, fun j hj => by omega, hown', hB⟩
    case round =>
      obtain ⟨k, hk, rfl, l, hll, hlike, hown, hBr⟩ := hrel
      have hlen := labs_length rs
      by_cases hlt : k < rs.length
      · rcases hx.below hBr with h0 | ⟨xb, xo, rfl, hxb, hxc⟩
        · rw [h0] at hlt; simp at hlt
        · obtain ⟨v0, v1, v2, ⟨d0, d1, d2⟩, hr⟩ := hxc k hlt
          clear hxc
          obtain ⟨a0, q0, a1, q1, rfl, rfl, rfl, _, _⟩ := hr
          have HL : Hid (Li.Like (l.set k rs[k].label) (labs rs) (k + 1)) := by
            have := Li.like_set hlike (by omega) (by omega)
            rwa [labs_get rs k hlt] at this
          have hBa : Below wr.heap.size wr (wr.alloc (.cells #[.slice a0 rs[k].nums.length q0, .slice a1 rs[k].cats.length q1, .int .i64 rs[k].label] 54)) := (Below.refl _ _).alloc (Nat.le_refl _) _
          have hBr' := hBr.trans (hBa.mono hBr.size)
          have hown1 := hown.below hBa
          have hkl : k < l.length := by rw [hll]; exact hlt
          have hcl := hown1.cell hll k hkl
          have hcf := hown1.frozen hll k
          have hg1 := (hown1.ge w1.heap.size rfl).2
          have HO : Hid _ := hown1.set hll k rs[k].label
          have HBn : Hid _ := hBr'.setCell (p := ⟨w1.heap.size, k, none⟩) (by exact hle) (.int .i64 rs[k].label)
          clear hown hown1 hlike hBa hBr' hlen dx0 dx1 dx2 cx0 cx1 cx2
          go_wp2
          go_roundw
          case rel => exact ⟨k + 1, by omega, by go_num, l.set k rs[k].label, by simpa using hll, HL.out, HO.out, HBn.out⟩
          case measure => simp [intOf]; omega
      · have e := Li.like_all (xs := labs rs) (ys := l) (by rw [hlen, show rs.length = k by omega]; exact hlike) (by omega)
        have HO : Hid (Li.Own wr w.heap.size (.slice (some ⟨w1.heap.size, 0, none⟩) rs.length rs.length) (labels n c rs)) := by show Li.Own _ _ _ _; rw [HR.out, ← e]; exact hown
        clear e hown hlike hlen hll
        go_wp2
        go_ret
        exact ⟨_, rfl, HO.out, hBr⟩
theorem take_get {α : Type} (xs : List α) (k : Nat) (h : k < xs.length) : xs.take (k + 1) = xs.take k ++ [xs[k]] := List.take_succ_eq_append_getElem h
/-- The numbers at a place of the rows. -/
def nat (rs : List Row) (p : Nat) : List Int := rs.map fun r => r.nums.getD p 0
def column (n c : Int) (rs : List Row) (num : Int) : List Int := if tok n c rs = true ∧ 0 ≤ num ∧ num < n then nat rs num.toNat else []
theorem nat_length (rs : List Row) (p : Nat) : (nat rs p).length = rs.length := by simp [nat]
theorem column_le (n c : Int) (rs : List Row) (num : Int) : (column n c rs num).length ≤ rs.length := by
  unfold column; split
  · rw [nat_length]; exact Nat.le_refl _
  · simp
theorem nat_get (rs : List Row) (p j : Nat) (h : j < rs.length) (hp : p < rs[j].nums.length) : (nat rs p)[j]'(by rw [nat_length]; exact h) = rs[j].nums[p] := by simp [nat, hp]
theorem tok_nums {n c : Int} {rs : List Row} (h : tok n c rs = true) (j : Nat) (hj : j < rs.length) : (rs[j].nums.length : Int) = n ∧ (rs[j].cats.length : Int) = c := by
  have h2 := (tok_iff.1 h).2.2
  have := rok_iff.1 (List.all_eq_true.1 h2 _ (List.getElem_mem hj))
  exact ⟨this.2.1, this.2.2.1⟩
end Go.Proofs.YtajfldjhbgilmaaGreatDoor.Co
