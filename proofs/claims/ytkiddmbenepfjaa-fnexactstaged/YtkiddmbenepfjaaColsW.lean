/-
  The words of a table: contracts of Words, of the program and of its model, over a plain function of lists.
-/
import Derived.Test.YtkiddmbenepfjaaCols
import Derived.Test.YtkiddmbenepfjaaShelf
namespace Go.Proofs.Ytkiddmbenepfjaa.Co
set_option maxRecDepth 20000
open Go.RowKit
open Go.Proofs.Ytkiddmbenepfjaa.Tb
open Go.Proofs.Ytkiddmbenepfjaa.Tk
open Go.Proofs.Ytkiddmbenepfjaa.Li (ret_bool grown_refl grown_trans grown_set below_none btw between_any)

theorem sone_cell (w : World) (T : TypeId) (x : ByteArray) : ∀ j u, ([Value.string x] : List Value)[j]? = some u → (w.alloc (.cells #[.string x] T)).cell? ((⟨w.heap.size, 0, none⟩ : Addr).add j) = some u := by
  intro j u hj
  match j, hj with
  | 0, hj => simp at hj; subst hj; simp [Addr.add]
theorem sone_one (x : ByteArray) : ∀ u ∈ ([Value.string x] : List Value), u.oneCell' = true := by
  intro u hu; simp at hu; subst hu; rfl
theorem sown_snoc {w : World} {base n : Nat} {v : Value} {l : List ByteArray} {x : ByteArray} (hn : l.length = n) (h : w.ownsRow base 9 1 v (n + 1) (Ls.sv l ++ [.string x])) : Ls.Own w base v (l ++ [x]) := by
  subst hn
  unfold Ls.Own
  rw [← Ls.sv_append, List.length_append]
  exact h
theorem sown_empty (w : World) (base : Nat) (hb : base ≤ w.heap.size) : Ls.Own (w.alloc (.cells #[] 9)) base (.slice (some ⟨w.heap.size, 0, none⟩) 0 0) [] :=
  World.ownsRow_made w #[] 0 hb (by unfold maxLen; omega) (by simp)
/-- The words at a place of the rows. -/
def cat (rs : List Row) (p : Nat) : List ByteArray := rs.map fun r => r.cats.getD p ⟨#[]⟩
def words (n c : Int) (rs : List Row) (num : Int) : List ByteArray := if tok n c rs = true ∧ 0 ≤ num ∧ num < c then cat rs num.toNat else []
theorem cat_length (rs : List Row) (p : Nat) : (cat rs p).length = rs.length := by simp [cat]
theorem words_le (n c : Int) (rs : List Row) (num : Int) : (words n c rs num).length ≤ rs.length := by
  unfold words; split
  · rw [cat_length]; exact Nat.le_refl _
  · simp
theorem cat_get (rs : List Row) (p j : Nat) (h : j < rs.length) (hp : p < rs[j].cats.length) : (cat rs p)[j]'(by rw [cat_length]; exact h) = rs[j].cats[p] := by simp [cat, hp]
set_option maxHeartbeats 400000 in
theorem clone (w : World) (s : ByteArray) (hs : s.size ≤ 281474976710656) :
    Calls Try.prog 101 #[.string s] w fun e w' => e = .returned (.string s) ∧ Below w.heap.size w w' := by
  go_enter Try.func101, Try.ntmps101
  go_wp2_with (go_at_call 107; refine (Try.stringslite_Clone _ _ hs).mono ?_; rintro e w1 ⟨rfl, hB⟩)
  go_ret
  exact ⟨rfl, hB⟩
set_option maxHeartbeats 2000000 in
theorem iwords (w : World) (n c : Int) (a : Option Addr) (cap : Nat) (rs : List Row) (num : Int) (hx : IsR w a rs) (hl : rs.length + szR rs ≤ 1048576) :
    Calls Try.prog 87 #[.agg #[.int .i64 n, .int .i64 c, .slice a rs.length cap], .int .i64 num] w fun e w' => ∃ v, e = .returned v ∧ Ls.Own w' w.heap.size v (words n c rs num) ∧ Below w.heap.size w w' := by
  obtain ⟨i0, hi, hz0, hz1, hz2⟩ := info_parts Ls.info_str
  obtain ⟨W, hW, hsz, hB, bx⟩ := box3_new' w (.int .i64 n) (.int .i64 c) (.slice a rs.length cap) 106
  have HW : Hid (w.alloc (.cells #[.int .i64 n, .int .i64 c, .slice a rs.length cap] 106) = W) := hW
  clear hW
  go_enter Try.func87, Try.ntmps87
  go_wp2_with fail
  rw [HW.out]
  clear HW
  refine (itab _ _ _ _ _ rs (hx.below hB) hl).mono ?_
  rintro e w1 ⟨rfl, hB1⟩
  have bx := bx.below hB1
  have hB := hB.trans (hB1.mono hB.size)
  clear hB1 hsz
  obtain ⟨hbx, ⟨cx0, cx1, cx2⟩, _⟩ := id bx
  cases ht : tok n c rs
  · have HR : Hid (words n c rs num = []) := by show _ = _; unfold words; rw [if_neg (by rw [ht]; simp)]
    go_wp2
    go_ret
    exact ⟨_, rfl, by rw [HR.out]; exact Ls.Own.nil _ _, hB⟩
  by_cases h0 : num < 0
  · have HR : Hid (words n c rs num = []) := by show _ = _; unfold words; rw [if_neg (by omega)]
    clear ht
    go_wp2
    go_ret
    exact ⟨_, rfl, by rw [HR.out]; exact Ls.Own.nil _ _, hB⟩
  by_cases h1 : c ≤ num
  · have HR : Hid (words n c rs num = []) := by show _ = _; unfold words; rw [if_neg (by omega)]
    clear ht
    go_wp2
    go_ret
    exact ⟨_, rfl, by rw [HR.out]; exact Ls.Own.nil _ _, hB⟩
  · have HR : Hid (words n c rs num = cat rs num.toNat) := by show _ = _; unfold words; rw [if_pos ⟨ht, by omega, by omega⟩]
    have HT : Hid (tok n c rs = true) := ht
    have hle := hB.size
    clear ht
    go_wp2_with (at_make; refine wpList_make_full _ rfl _ _ 39 rfl w.heap.size 9 i0 (.string ⟨#[]⟩) 1 Try.underlying39 hi hz0 hz1 _ _ _ _ rs.length rfl rfl (by omega) (by omega) (by rw [hz2]; omega) (by unfold maxLen; omega) (by omega) ?_; intro w2 hown hgrow; have bx2 := bx.below (below_none hgrow); obtain ⟨_, ⟨dx0, dx1, dx2⟩, _⟩ := id bx2)
    have hown' := Ls.own_made hown
    have hB1 := below_none hgrow
    have hB := hB.trans (hB1.mono hB.size)
    clear hown hgrow hB1
    go_loopw [29] (fun i wr => ∃ k : Nat, k ≤ rs.length ∧ i = .int .i64 k ∧ ∃ l : List ByteArray, l.length = rs.length ∧ Ls.Like l (cat rs num.toNat) k ∧ Ls.Own wr w.heap.size (.slice (some ⟨w1.heap.size, 0, none⟩) rs.length rs.length) l ∧ Below w.heap.size w wr) (fun i _ => rs.length - (intOf i).toNat)
    case atStart => exact ⟨0, Nat.zero_le _, rfl, _, by simp, fun j hj => by omega, hown', hB⟩
    case round =>
      obtain ⟨k, hk, rfl, l, hll, hlike, hown, hBr⟩ := hrel
      have hlen := cat_length rs num.toNat
      by_cases hlt : k < rs.length
      · rcases hx.below hBr with h0' | ⟨xb, xo, rfl, hxb, hxc⟩
        · rw [h0'] at hlt; simp at hlt
        · obtain ⟨v0, v1, v2, ⟨d0, d1, d2⟩, hr⟩ := hxc k hlt
          clear hxc
          obtain ⟨a0, q0, a1, q1, rfl, rfl, rfl, _, j0⟩ := hr
          have hnl := (tok_nums HT.out k hlt).2
          have hp : num.toNat < rs[k].cats.length := by omega
          have hp' : num < (rs[k].cats.length : Int) := by omega
          have hBa : Below wr.heap.size wr (wr.alloc (.cells #[.slice a0 rs[k].nums.length q0, .slice a1 rs[k].cats.length q1, .int .i64 rs[k].label] 45)) := (Below.refl _ _).alloc (Nat.le_refl _) _
          rcases j0.below hBa with h0' | ⟨yb, yo, rfl, hyb, hyc⟩
          · rw [h0'] at hp; simp at hp
          have hcy := hyc num.toNat hp
          have HL : Hid (Ls.Like (l.set k (rs[k].cats[num.toNat]'hp)) (cat rs num.toNat) (k + 1)) := by
            have := Ls.like_set hlike (by omega) (by omega)
            rwa [cat_get rs num.toNat k hlt hp] at this
          have hwl := word_le rs[k].cats num.toNat hp
          have hz := szR_at rs k hlt
          unfold Row.sz at hz
          have hxs : (rs[k].cats[num.toNat]'hp).size ≤ 1048576 := by omega
          obtain ⟨x, hx'⟩ : ∃ x, rs[k].cats[num.toNat]'hp = x := ⟨_, rfl⟩
          rw [hx'] at hcy HL hxs
          clear hx' hyc hwl hz
          have hBr' := hBr.trans (hBa.mono hBr.size)
          have hown1 := hown.below hBa
          have HNL : Hid ((rs[k].cats.length : Int) = c) := hnl
          clear hown hlike hBa hlen dx0 dx1 dx2 cx0 cx1 cx2 hnl
          go_wp2_with fail
          refine (clone _ _ (by omega)).mono ?_
          rintro e w4 ⟨rfl, hB4⟩
          have hBr' := hBr'.trans (hB4.mono hBr'.size)
          have hown1 := hown1.below hB4
          have hkl : k < l.length := by rw [hll]; exact hlt
          have hcl := hown1.cell hll k hkl
          have hcf := hown1.frozen hll k
          have hg1 := (hown1.ge w1.heap.size rfl).2
          have HO : Hid _ := hown1.set hll k x
          have HBn : Hid _ := hBr'.setCell (p := ⟨w1.heap.size, k, none⟩) (by exact hle) (.string x)
          clear hown1 hBr' hB4 d0 d1 d2 hcy
          go_wp2
          go_roundw
          case rel => exact ⟨k + 1, by omega, by go_num, l.set k x, by simpa using hll, HL.out, HO.out, HBn.out⟩
          case measure => simp [intOf]; omega
      · have e := Ls.like_all (xs := cat rs num.toNat) (ys := l) (by rw [hlen, show rs.length = k by omega]; exact hlike) (by omega)
        have HO : Hid (Ls.Own wr w.heap.size (.slice (some ⟨w1.heap.size, 0, none⟩) rs.length rs.length) (words n c rs num)) := by show Ls.Own _ _ _ _; rw [HR.out, ← e]; exact hown
        clear e hown hlike hlen hll
        go_wp2
        go_ret
        exact ⟨_, rfl, HO.out, hBr⟩
end Go.Proofs.Ytkiddmbenepfjaa.Co
