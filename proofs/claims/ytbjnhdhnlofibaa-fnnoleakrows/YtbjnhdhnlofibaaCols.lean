/-
  The columns of a table: contracts of Labels, Column, Words, of the program and of its model, over plain functions of lists; a table marked.
-/
import Derived.Test.YtbjnhdhnlofibaaTabX
namespace Go.Proofs.Ytbjnhdhnlofibaa.Co
set_option maxRecDepth 20000
open Go.RowKit
open Go.Proofs.Ytbjnhdhnlofibaa.Tb
open Go.Proofs.Ytbjnhdhnlofibaa.Tk
open Go.Proofs.Ytbjnhdhnlofibaa.Li (ret_bool grown_refl grown_trans grown_set below_none info_int btw between_any)

theorem one_cell (w : World) (T : TypeId) (x : Int) : ∀ j u, ([Value.int .i64 x] : List Value)[j]? = some u → (w.alloc (.cells #[.int .i64 x] T)).cell? ((⟨w.heap.size, 0, none⟩ : Addr).add j) = some u := by
  intro j u hj
  match j, hj with
  | 0, hj => simp at hj; subst hj; simp [Addr.add]
theorem one_one (x : Int) : ∀ u ∈ ([Value.int .i64 x] : List Value), u.oneCell' = true := by
  intro u hu; simp at hu; subst hu; rfl
theorem own_snoc {w : World} {base n : Nat} {v : Value} {l : List Int} {x : Int} (hn : l.length = n) (h : w.ownsRow base 3 1 v (n + 1) (Li.iv l ++ [.int .i64 x])) : Li.Own w base v (l ++ [x]) := by
  subst hn
  unfold Li.Own
  rw [← Li.iv_append, List.length_append]
  exact h
theorem own_empty (w : World) (base : Nat) (hb : base ≤ w.heap.size) : Li.Own (w.alloc (.cells #[] 3)) base (.slice (some ⟨w.heap.size, 0, none⟩) 0 0) [] :=
  World.ownsRow_made w #[] 0 hb (by unfold maxLen; omega) (by simp)
def labs (rs : List Row) : List Int := rs.map Row.label
def labels (n c : Int) (rs : List Row) : List Int := if tok n c rs = true then labs rs else []
theorem labs_length (rs : List Row) : (labs rs).length = rs.length := by simp [labs]
theorem labels_le (n c : Int) (rs : List Row) : (labels n c rs).length ≤ rs.length := by
  unfold labels; split
  · rw [labs_length]; exact Nat.le_refl _
  · simp
theorem labs_get (rs : List Row) (j : Nat) (h : j < rs.length) : (labs rs)[j]'(by rw [labs_length]; exact h) = rs[j].label := by simp [labs]
set_option maxHeartbeats 2000000 in
theorem ilabels (w : World) (n c : Int) (a : Option Addr) (cap : Nat) (rs : List Row) (hx : IsR w a rs) (hl : rs.length + szR rs ≤ 1048576) :
    Calls Try.prog 51 #[.agg #[.int .i64 n, .int .i64 c, .slice a rs.length cap]] w fun e w' => ∃ v, e = .returned v ∧ Li.Own w' w.heap.size v (labels n c rs) ∧ Below w.heap.size w w' := by
  obtain ⟨i0, hi, hz0, hz1, hz2⟩ := info_parts info_int
  obtain ⟨W, hW, hsz, hB, bx⟩ := box3_new' w (.int .i64 n) (.int .i64 c) (.slice a rs.length cap) 28
  have HW : Hid (w.alloc (.cells #[.int .i64 n, .int .i64 c, .slice a rs.length cap] 28) = W) := hW
  clear hW
  go_enter Try.func51, Try.ntmps51
  go_wp2_with fail
  rw [HW.out]
  clear HW
  refine (itab _ _ _ _ _ rs (hx.below hB) hl).mono ?_
  rintro e w1 ⟨rfl, hB1⟩
  have bx := bx.below hB1
  have hB := hB.trans (hB1.mono hB.size)
  clear hB1 hsz
  obtain ⟨hbx, ⟨cx0, cx1, cx2⟩, _⟩ := id bx
  cases ht : tok n c rs
  · have HR : Hid (labels n c rs = []) := by show _ = _; unfold labels; rw [ht]; rfl
    go_wp2
    go_ret
    exact ⟨_, rfl, by rw [HR.out]; exact Li.Own.nil _ _, hB⟩
  · have HR : Hid (labels n c rs = labs rs) := by show _ = _; unfold labels; rw [ht]; rfl
    have hle := hB.size
    clear ht
    go_wp2_with (at_make; refine wpList_make_full _ rfl _ _ 37 rfl w.heap.size 3 i0 (.int .i64 0) 1 Try.underlying37 hi hz0 hz1 _ _ _ _ rs.length rfl rfl (by omega) (by omega) (by rw [hz2]; omega) (by unfold maxLen; omega) (by omega) ?_; intro w2 hown hgrow; have bx2 := bx.below (below_none hgrow); obtain ⟨_, ⟨dx0, dx1, dx2⟩, _⟩ := id bx2)
    have hown' := Li.own_made hown
    have hB1 := below_none hgrow
    have hB := hB.trans (hB1.mono hB.size)
    clear hown hgrow hB1
    have hx := hx
    go_loopw [16] (fun i wr => ∃ k : Nat, k ≤ rs.length ∧ i = .int .i64 k ∧ ∃ l : List Int, l.length = rs.length ∧ Li.Like l (labs rs) k ∧ Li.Own wr w.heap.size (.slice (some ⟨w1.heap.size, 0, none⟩) rs.length rs.length) l ∧ Below w.heap.size w wr) (fun i _ => rs.length - (intOf i).toNat)
    case atStart => exact ⟨0, Nat.zero_le _, rfl, _, by simp, fun j hj => by omega, hown', hB⟩
    case round =>
      obtain ⟨k, hk, rfl, l, hll, hlike, hown, hBr⟩ := hrel
      have hlen := labs_length rs
      by_cases hlt : k < rs.length
      · rcases hx.below hBr with h0 | ⟨xb, xo, rfl, hxb, hxc⟩
        · rw [h0] at hlt; simp at hlt
        · obtain ⟨v0, v1, v2, ⟨d0, d1, d2⟩, hr⟩ := hxc k hlt
          clear hxc
          obtain ⟨a0, q0, a1, q1, rfl, rfl, rfl, _, _⟩ := hr
          have HL : Hid (Li.Like (l.set k rs[k].label) (labs rs) (k + 1)) := by
            have := Li.like_set hlike (by omega) (by omega)
            rwa [labs_get rs k hlt] at this
          have hBa : Below wr.heap.size wr (wr.alloc (.cells #[.slice a0 rs[k].nums.length q0, .slice a1 rs[k].cats.length q1, .int .i64 rs[k].label] 42)) := (Below.refl _ _).alloc (Nat.le_refl _) _
          have hBr' := hBr.trans (hBa.mono hBr.size)
          have hown1 := hown.below hBa
          have hkl : k < l.length := by rw [hll]; exact hlt
          have hcl := hown1.cell hll k hkl
          have hcf := hown1.frozen hll k
          have hg1 := (hown1.ge w1.heap.size rfl).2
          have HO : Hid _ := hown1.set hll k rs[k].label
          have HBn : Hid _ := hBr'.setCell (p := ⟨w1.heap.size, k, none⟩) (by exact hle) (.int .i64 rs[k].label)
          clear hown hown1 hlike hBa hBr' hlen dx0 dx1 dx2 cx0 cx1 cx2
          go_wp2
          go_roundw
          case rel => exact ⟨k + 1, by omega, by go_num, l.set k rs[k].label, by simpa using hll, HL.out, HO.out, HBn.out⟩
          case measure => simp [intOf]; omega
      · have e := Li.like_all (xs := labs rs) (ys := l) (by rw [hlen, show rs.length = k by omega]; exact hlike) (by omega)
        have HO : Hid (Li.Own wr w.heap.size (.slice (some ⟨w1.heap.size, 0, none⟩) rs.length rs.length) (labels n c rs)) := by show Li.Own _ _ _ _; rw [HR.out, ← e]; exact hown
        clear e hown hlike hlen hll
        go_wp2
        go_ret
        exact ⟨_, rfl, HO.out, hBr⟩
theorem take_get {α : Type} (xs : List α) (k : Nat) (h : k < xs.length) : xs.take (k + 1) = xs.take k ++ [xs[k]] := List.take_succ_eq_append_getElem h
set_option maxHeartbeats 2000000 in
theorem slabels (w : World) (n c : Int) (a : Option Addr) (cap : Nat) (rs : List Row) (hx : IsR w a rs) (hl : rs.length + szR rs ≤ 1048576) :
    Calls Try.prog 37 #[.agg #[.int .i64 n, .int .i64 c, .slice a rs.length cap]] w fun e w' => ∃ v, e = .returned v ∧ Li.Own w' w.heap.size v (labels n c rs) ∧ Below w.heap.size w w' := by
  obtain ⟨i0, hi, hz0, hz1, hz2⟩ := info_parts info_int
  obtain ⟨W, hW, hsz, hB, bx⟩ := box3_new' w (.int .i64 n) (.int .i64 c) (.slice a rs.length cap) 28
  have HW : Hid (w.alloc (.cells #[.int .i64 n, .int .i64 c, .slice a rs.length cap] 28) = W) := hW
  have hoe : Li.Own (W.alloc (.cells #[] 3)) W.heap.size (.slice (some ⟨W.heap.size, 0, none⟩) 0 0) [] := own_empty _ _ (Nat.le_refl _)
  have hbe : Below W.heap.size W (W.alloc (.cells #[] 3)) := (Below.refl _ _).alloc (Nat.le_refl _) _
  rw [← hW] at hoe hbe
  have hx := hx.below hB
  have hle := hB.size
  have HS : Hid (W.heap.size = w.heap.size + 1) := hsz
  clear hW hsz
  go_enter Try.func37, Try.ntmps37
  go_wp2
  go_loopw [3, 4] (fun v i wr => ∃ k : Nat, k ≤ rs.length ∧ i = .int .i64 k ∧ (k = 0 ∨ tok n c rs = true) ∧ Li.Own wr W.heap.size v ((labs rs).take k) ∧ Below W.heap.size W wr) (fun _ i _ => rs.length - (intOf i).toNat)
  case atStart => exact ⟨0, Nat.zero_le _, rfl, .inl rfl, by rw [← HW.out]; simpa using hoe, by rw [← HW.out]; simpa using hbe⟩
  case round =>
    obtain ⟨k, hk, rfl, hor, hown, hBr⟩ := hrel
    have HOR : Hid (k = 0 ∨ tok n c rs = true) := hor
    have hlen := labs_length rs
    have htl : ((labs rs).take k).length = k := by rw [List.length_take, hlen]; omega
    have bxr := bx.below hBr
    obtain ⟨_, ⟨cx0, cx1, cx2⟩, _⟩ := id bxr
    clear hor hoe hbe
    by_cases hlt : k < rs.length
    · go_wp2_with fail
      refine (stab _ _ _ _ _ rs (hx.below hBr) hl).mono ?_
      rintro e w2 ⟨rfl, hB2⟩
      have hown := hown.below hB2
      have hBr := hBr.trans (hB2.mono hBr.size)
      have bxr := bxr.below hB2
      clear hB2 cx0 cx1 cx2
      obtain ⟨_, ⟨cx0, cx1, cx2⟩, _⟩ := id bxr
      cases ht : tok n c rs
      · have HO : Hid (Li.Own w2 w.heap.size u3 (labels n c rs)) := by
          show Li.Own _ _ _ _
          have e : labels n c rs = [] := by unfold labels; rw [ht]; rfl
          have h0 : k = 0 := by rcases HOR.out with h | h; exact h; rw [ht] at h; cases h
          rw [e]
          subst h0
          exact hown.mono hle
        have hBe := hB.trans (hBr.mono hB.size)
        clear ht hown
        go_wp2
        go_ret
        exact ⟨_, rfl, HO.out, hBe⟩
      · have HT : Hid (tok n c rs = true) := ht
        clear ht
        rcases hx.below hBr with h0 | ⟨xb, xo, rfl, hxb, hxc⟩
        · rw [h0] at hlt; simp at hlt
        · obtain ⟨v0, v1, v2, ⟨d0, d1, d2⟩, hr⟩ := hxc k hlt
          clear hxc
          obtain ⟨a0, q0, a1, q1, rfl, rfl, rfl, _, _⟩ := hr
          have HTK : Hid ((labs rs).take (k + 1) = (labs rs).take k ++ [rs[k].label]) := by
            have := take_get (labs rs) k (by omega)
            rwa [labs_get rs k hlt] at this
          have hsz2 := hBr.size
          clear hlen
          go_wp2_with (at_builtin; refine wpList_append_own _ rfl _ _ 37 rfl W.heap.size 3 i0 (.int .i64 0) 1 8 Try.underlying37 hi hz0 hz1 hz2 rfl (by decide) _ _ _ rfl (World.ownsRow.alloc hown _) ⟨w2.heap.size, 0, none⟩ 1 1 [.int .i64 rs[k].label] rfl rfl (one_cell _ _ _) (one_one _) (by unfold maxLen; omega) (by omega) (by simp; omega) ?_)
          intro v' w3 hown' hgrow hnn
          clear hnn
          have ho2 : Li.Own w3 W.heap.size v' ((labs rs).take (k + 1)) := by rw [HTK.out]; exact own_snoc htl hown'
          have hB2 : Below W.heap.size W w3 := (hBr.alloc hsz2 _).grown hgrow (by simp; omega) (fun g hg => (World.ownsRow.lt hown g hg).1)
          clear hown' hgrow hown htl
          go_wp2
          go_roundw
          case rel => exact ⟨k + 1, by omega, by go_num, .inr HT.out, ho2, hB2⟩
          case measure => simp [intOf]; omega
    · have HO : Hid (Li.Own wr w.heap.size u3 (labels n c rs)) := by
        show Li.Own _ _ _ _
        have e : (labs rs).take k = labs rs := List.take_of_length_le (by omega)
        rw [e] at hown
        have e2 : labels n c rs = labs rs := by
          unfold labels
          rcases HOR.out with h | h
          · have : rs = [] := List.length_eq_zero_iff.1 (by omega)
            subst this; simp [labs]
          · rw [h]; rfl
        rw [e2]; exact hown.mono hle
      have hBe := hB.trans (hBr.mono hB.size)
      clear hown htl hlen
      go_wp2
      go_ret
      exact ⟨_, rfl, HO.out, hBe⟩
/-- The numbers at a place of the rows. -/
def nat (rs : List Row) (p : Nat) : List Int := rs.map fun r => r.nums.getD p 0
def column (n c : Int) (rs : List Row) (num : Int) : List Int := if tok n c rs = true ∧ 0 ≤ num ∧ num < n then nat rs num.toNat else []
theorem nat_length (rs : List Row) (p : Nat) : (nat rs p).length = rs.length := by simp [nat]
theorem column_le (n c : Int) (rs : List Row) (num : Int) : (column n c rs num).length ≤ rs.length := by
  unfold column; split
  · rw [nat_length]; exact Nat.le_refl _
  · simp
theorem nat_get (rs : List Row) (p j : Nat) (h : j < rs.length) (hp : p < rs[j].nums.length) : (nat rs p)[j]'(by rw [nat_length]; exact h) = rs[j].nums[p] := by simp [nat, hp]
theorem tok_nums {n c : Int} {rs : List Row} (h : tok n c rs = true) (j : Nat) (hj : j < rs.length) : (rs[j].nums.length : Int) = n ∧ (rs[j].cats.length : Int) = c := by
  have h2 := (tok_iff.1 h).2.2
  have := rok_iff.1 (List.all_eq_true.1 h2 _ (List.getElem_mem hj))
  exact ⟨this.2.1, this.2.2.1⟩
set_option maxHeartbeats 2000000 in
theorem icolumn (w : World) (n c : Int) (a : Option Addr) (cap : Nat) (rs : List Row) (num : Int) (hx : IsR w a rs) (hl : rs.length + szR rs ≤ 1048576) :
    Calls Try.prog 69 #[.agg #[.int .i64 n, .int .i64 c, .slice a rs.length cap], .int .i64 num] w fun e w' => ∃ v, e = .returned v ∧ Li.Own w' w.heap.size v (column n c rs num) ∧ Below w.heap.size w w' := by
  obtain ⟨i0, hi, hz0, hz1, hz2⟩ := info_parts info_int
  obtain ⟨W, hW, hsz, hB, bx⟩ := box3_new' w (.int .i64 n) (.int .i64 c) (.slice a rs.length cap) 28
  have HW : Hid (w.alloc (.cells #[.int .i64 n, .int .i64 c, .slice a rs.length cap] 28) = W) := hW
  clear hW
  go_enter Try.func69, Try.ntmps69
  go_wp2_with fail
  rw [HW.out]
  clear HW
  refine (itab _ _ _ _ _ rs (hx.below hB) hl).mono ?_
  rintro e w1 ⟨rfl, hB1⟩
  have bx := bx.below hB1
  have hB := hB.trans (hB1.mono hB.size)
  clear hB1 hsz
  obtain ⟨hbx, ⟨cx0, cx1, cx2⟩, _⟩ := id bx
  cases ht : tok n c rs
  · have HR : Hid (column n c rs num = []) := by show _ = _; unfold column; rw [if_neg (by rw [ht]; simp)]
    go_wp2
    go_ret
    exact ⟨_, rfl, by rw [HR.out]; exact Li.Own.nil _ _, hB⟩
  by_cases h0 : num < 0
  · have HR : Hid (column n c rs num = []) := by show _ = _; unfold column; rw [if_neg (by omega)]
    clear ht
    go_wp2
    go_ret
    exact ⟨_, rfl, by rw [HR.out]; exact Li.Own.nil _ _, hB⟩
  by_cases h1 : n ≤ num
  · have HR : Hid (column n c rs num = []) := by show _ = _; unfold column; rw [if_neg (by omega)]
    clear ht
    go_wp2
    go_ret
    exact ⟨_, rfl, by rw [HR.out]; exact Li.Own.nil _ _, hB⟩
  · have HR : Hid (column n c rs num = nat rs num.toNat) := by show _ = _; unfold column; rw [if_pos ⟨ht, by omega, by omega⟩]
    have HT : Hid (tok n c rs = true) := ht
    have hle := hB.size
    clear ht
    go_wp2_with (at_make; refine wpList_make_full _ rfl _ _ 37 rfl w.heap.size 3 i0 (.int .i64 0) 1 Try.underlying37 hi hz0 hz1 _ _ _ _ rs.length rfl rfl (by omega) (by omega) (by rw [hz2]; omega) (by unfold maxLen; omega) (by omega) ?_; intro w2 hown hgrow; have bx2 := bx.below (below_none hgrow); obtain ⟨_, ⟨dx0, dx1, dx2⟩, _⟩ := id bx2)
    have hown' := Li.own_made hown
    have hB1 := below_none hgrow
    have hB := hB.trans (hB1.mono hB.size)
    clear hown hgrow hB1
    go_loopw [29] (fun i wr => ∃ k : Nat, k ≤ rs.length ∧ i = .int .i64 k ∧ ∃ l : List Int, l.length = rs.length ∧ Li.Like l (nat rs num.toNat) k ∧ Li.Own wr w.heap.size (.slice (some ⟨w1.heap.size, 0, none⟩) rs.length rs.length) l ∧ Below w.heap.size w wr) (fun i _ => rs.length - (intOf i).toNat)
    case atStart => exact ⟨0, Nat.zero_le _, rfl, _, by simp, fun j hj => by omega, hown', hB⟩
    case round =>
      obtain ⟨k, hk, rfl, l, hll, hlike, hown, hBr⟩ := hrel
      have hlen := nat_length rs num.toNat
      by_cases hlt : k < rs.length
      · rcases hx.below hBr with h0' | ⟨xb, xo, rfl, hxb, hxc⟩
        · rw [h0'] at hlt; simp at hlt
        · obtain ⟨v0, v1, v2, ⟨d0, d1, d2⟩, hr⟩ := hxc k hlt
          clear hxc
          obtain ⟨a0, q0, a1, q1, rfl, rfl, rfl, j0, _⟩ := hr
          have hnl := (tok_nums HT.out k hlt).1
          have hp : num.toNat < rs[k].nums.length := by omega
          have hp' : num < (rs[k].nums.length : Int) := by omega
          have hBa : Below wr.heap.size wr (wr.alloc (.cells #[.slice a0 rs[k].nums.length q0, .slice a1 rs[k].cats.length q1, .int .i64 rs[k].label] 42)) := (Below.refl _ _).alloc (Nat.le_refl _) _
          rcases j0.below hBa with h0' | ⟨yb, yo, rfl, hyb, hyc⟩
          · rw [h0'] at hp; simp at hp
          have hcy := hyc num.toNat hp
          have HL : Hid (Li.Like (l.set k (rs[k].nums[num.toNat]'hp)) (nat rs num.toNat) (k + 1)) := by
            have := Li.like_set hlike (by omega) (by omega)
            rwa [nat_get rs num.toNat k hlt hp] at this
          obtain ⟨x, hx'⟩ : ∃ x, rs[k].nums[num.toNat]'hp = x := ⟨_, rfl⟩
          rw [hx'] at hcy HL
          clear hx' hyc
          have hBr' := hBr.trans (hBa.mono hBr.size)
          have hown1 := hown.below hBa
          have hkl : k < l.length := by rw [hll]; exact hlt
          have hcl := hown1.cell hll k hkl
          have hcf := hown1.frozen hll k
          have hg1 := (hown1.ge w1.heap.size rfl).2
          have HO : Hid _ := hown1.set hll k x
          have HBn : Hid _ := hBr'.setCell (p := ⟨w1.heap.size, k, none⟩) (by exact hle) (.int .i64 x)
          have HNL : Hid ((rs[k].nums.length : Int) = n) := hnl
          clear hown hown1 hlike hBa hBr' hlen dx0 dx1 dx2 cx0 cx1 cx2 hnl
          go_wp2
          go_roundw
          case rel => exact ⟨k + 1, by omega, by go_num, l.set k x, by simpa using hll, HL.out, HO.out, HBn.out⟩
          case measure => simp [intOf]; omega
      · have e := Li.like_all (xs := nat rs num.toNat) (ys := l) (by rw [hlen, show rs.length = k by omega]; exact hlike) (by omega)
        have HO : Hid (Li.Own wr w.heap.size (.slice (some ⟨w1.heap.size, 0, none⟩) rs.length rs.length) (column n c rs num)) := by show Li.Own _ _ _ _; rw [HR.out, ← e]; exact hown
        clear e hown hlike hlen hll
        go_wp2
        go_ret
        exact ⟨_, rfl, HO.out, hBr⟩
end Go.Proofs.Ytbjnhdhnlofibaa.Co
