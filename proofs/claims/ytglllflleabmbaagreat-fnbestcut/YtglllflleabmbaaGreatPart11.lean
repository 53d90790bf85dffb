/-
  Contracts that the proof leans on, put together in the order in which they build.
-/
import Derived.Test.YtglllflleabmbaaGreatPart8
import Derived.Shelf.LaysM
import Derived.Shelf.Strconv.Clone
import Derived.Ground.Names2Prog
import Derived.Shelf.Slices.Clone
import Derived.Test.YtglllflleabmbaaGreatProg
import Derived.Test.YtglllflleabmbaaGreatRows
import Derived.Test.YtglllflleabmbaaGreatPart9
import Derived.Test.YtglllflleabmbaaGreatPart1
import Derived.Deep.DeepMust
/-
  The columns of a table: contracts of Labels, Column, Words, of the program and of its model, over plain functions of lists; a table marked.
-/
namespace Go.Proofs.YtglllflleabmbaaGreat.Co
set_option maxRecDepth 20000
open Go.RowKit
open Go.Proofs.YtglllflleabmbaaGreat.Tb
open Go.Proofs.YtglllflleabmbaaGreat.Tk
open Go.Proofs.YtglllflleabmbaaGreat.Li (ret_bool grown_set below_none info_int btw between_any)

theorem one_cell (w : World) (T : TypeId) (x : Int) : ∀ j u, ([Value.int .i64 x] : List Value)[j]? = some u → (w.alloc (.cells #[.int .i64 x] T)).cell? ((⟨w.heap.size, 0, none⟩ : Addr).add j) = some u := by
 intro j u hj
 match j, hj with
 | 0, hj => simp at hj; subst hj; simp [Addr.add]
theorem one_one (x : Int) : ∀ u ∈ ([Value.int .i64 x] : List Value), u.oneCell' = true := by
 intro u hu; simp at hu; subst hu; rfl
theorem own_snoc {w : World} {base n : Nat} {v : Value} {l : List Int} {x : Int} (hn : l.length = n) (h : w.ownsRow base 3 1 v (n + 1) (Li.iv l ++ [.int .i64 x])) : Li.Own w base v (l ++ [x]) := by
 subst hn
 unfold Li.Own
 rw [← Li.iv_append, List.length_append]
 exact h
theorem own_empty (w : World) (base : Nat) (hb : base ≤ w.heap.size) : Li.Own (w.alloc (.cells #[] 3)) base (.slice (some ⟨w.heap.size, 0, none⟩) 0 0) [] :=
 World.ownsRow_made w #[] 0 hb (by unfold maxLen; omega) (by simp)
def labs (rs : List Row) : List Int := rs.map Row.label
def labels (n c : Int) (rs : List Row) : List Int := if tok n c rs = true then labs rs else []
theorem labs_length (rs : List Row) : (labs rs).length = rs.length := by simp [labs]
theorem labels_le (n c : Int) (rs : List Row) : (labels n c rs).length ≤ rs.length := by
 unfold labels; split
 ·
  rw [labs_length]; exact Nat.le_refl _
 ·
  simp
theorem labs_get (rs : List Row) (j : Nat) (h : j < rs.length) : (labs rs)[j]'(by rw [labs_length]; exact h) = rs[j].label := by simp [labs]
set_option maxHeartbeats 2000000 in
theorem ilabels (w : World) (n c : Int) (a : Option Addr) (cap : Nat) (rs : List Row) (hx : IsR w a rs) (hl : rs.length + szR rs ≤ 1048576) :
  Calls Tryz.prog 16 #[.agg #[.int .i64 n, .int .i64 c, .slice a rs.length cap]] w fun e w' => ∃ v, e = .returned v ∧ Li.Own w' w.heap.size v (labels n c rs) ∧ Below w.heap.size w w' := by
 obtain ⟨i0, hi, hz0, hz1, hz2⟩ := info_parts info_int
 obtain ⟨W, hW, hsz, hB, bx⟩ := box3_new' w (.int .i64 n) (.int .i64 c) (.slice a rs.length cap) 32
 have HW : Hid (w.alloc (.cells #[.int .i64 n, .int .i64 c, .slice a rs.length cap] 32) = W) := hW
 clear hW
 go_enter Tryz.func16, Tryz.ntmps16
 go_wp2_with fail
 rw [HW.out]
 clear HW
 refine (itab _ _ _ _ _ rs (hx.below hB) hl).mono ?_
 rintro e w1 ⟨rfl, hB1⟩
 have bx := bx.below hB1
 have hB := hB.trans (hB1.mono hB.size)
 clear hB1 hsz
 obtain ⟨hbx, ⟨cx0, cx1, cx2⟩, _⟩ := id bx
 cases ht : tok n c rs
 ·
  have HR : Hid (labels n c rs = []) := by show _ = _; unfold labels; rw [ht]; rfl
  go_wp2
  go_ret
  exact ⟨_, rfl, by rw [HR.out]; exact Li.Own.nil _ _, hB⟩
 ·
  have HR : Hid (labels n c rs = labs rs) := by show _ = _; unfold labels; rw [ht]; rfl
  have hle := hB.size
  clear ht
  go_wp2_with (at_make; refine wpList_make_full _ rfl _ _ 37 rfl w.heap.size 3 i0 (.int .i64 0) 1 Tryz.underlying37 hi hz0 hz1 _ _ _ _ rs.length rfl rfl (by omega) (by omega) (by rw [hz2]; omega) (by unfold maxLen; omega) (by omega) ?_; intro w2 hown hgrow; have bx2 := bx.below (below_none hgrow); obtain ⟨_, ⟨dx0, dx1, dx2⟩, _⟩ := id bx2)
  have hown' := Li.own_made hown
  have hB1 := below_none hgrow
  have hB := hB.trans (hB1.mono hB.size)
  clear hown hgrow hB1
  have hx := hx
  go_loopw [16] (fun i wr => ∃ k : Nat, k ≤ rs.length ∧ i = .int .i64 k ∧ ∃ l : List Int, l.length = rs.length ∧ Li.Like l (labs rs) k ∧ Li.Own wr w.heap.size (.slice (some ⟨w1.heap.size, 0, none⟩) rs.length rs.length) l ∧ Below w.heap.size w wr) (fun i _ => rs.length - (intOf i).toNat)
  case atStart => exact ⟨0, Nat.zero_le _, rfl, _, by simp, fun j hj => by omega, hown', hB⟩
  case round =>
   obtain ⟨k, hk, rfl, l, hll, hlike, hown, hBr⟩ := hrel
   have hlen := labs_length rs
   by_cases hlt : k < rs.length
   ·
    rcases hx.below hBr with h0 | ⟨xb, xo, rfl, hxb, hxc⟩
    ·
     rw [h0] at hlt; simp at hlt
    ·
     obtain ⟨v0, v1, v2, ⟨d0, d1, d2⟩, hr⟩ := hxc k hlt
     clear hxc
     obtain ⟨a0, q0, a1, q1, rfl, rfl, rfl, _, _⟩ := hr
     have HL : Hid (Li.Like (l.set k rs[k].label) (labs rs) (k + 1)) := by
      have := Li.like_set hlike (by omega) (by omega)
      rwa [labs_get rs k hlt] at this
     have hBa : Below wr.heap.size wr (wr.alloc (.cells #[.slice a0 rs[k].nums.length q0, .slice a1 rs[k].cats.length q1, .int .i64 rs[k].label] 50)) := (Below.refl _ _).alloc (Nat.le_refl _) _
     have hBr' := hBr.trans (hBa.mono hBr.size)
     have hown1 := hown.below hBa
     have hkl : k < l.length := by rw [hll]; exact hlt
     have hcl := hown1.cell hll k hkl
     have hcf := hown1.frozen hll k
     have hg1 := (hown1.ge w1.heap.size rfl).2
     have HO : Hid _ := hown1.set hll k rs[k].label
     have HBn : Hid _ := hBr'.setCell (p := ⟨w1.heap.size, k, none⟩) (by exact hle) (.int .i64 rs[k].label)
     clear hown hown1 hlike hBa hBr' hlen dx0 dx1 dx2 cx0 cx1 cx2
     go_wp2
     go_roundw
     case rel => exact ⟨k + 1, by omega, by go_num, l.set k rs[k].label, by simpa using hll, HL.out, HO.out, HBn.out⟩
     case measure => simp [intOf]; omega
   ·
    have e := Li.like_all (xs := labs rs) (ys := l) (by rw [hlen, show rs.length = k by omega]; exact hlike) (by omega)
    have HO : Hid (Li.Own wr w.heap.size (.slice (some ⟨w1.heap.size, 0, none⟩) rs.length rs.length) (labels n c rs)) := by show Li.Own _ _ _ _; rw [HR.out, ← e]; exact hown
    clear e hown hlike hlen hll
    go_wp2
    go_ret
    exact ⟨_, rfl, HO.out, hBr⟩
theorem take_get {α : Type} (xs : List α) (k : Nat) (h : k < xs.length) : xs.take (k + 1) = xs.take k ++ [xs[k]] := List.take_succ_eq_append_getElem h
set_option maxHeartbeats 2000000 in
theorem slabels (w : World) (n c : Int) (a : Option Addr) (cap : Nat) (rs : List Row) (hx : IsR w a rs) (hl : rs.length + szR rs ≤ 1048576) :
  Calls Tryz.prog 42 #[.agg #[.int .i64 n, .int .i64 c, .slice a rs.length cap]] w fun e w' => ∃ v, e = .returned v ∧ Li.Own w' w.heap.size v (labels n c rs) ∧ Below w.heap.size w w' := by
 obtain ⟨i0, hi, hz0, hz1, hz2⟩ := info_parts info_int
 obtain ⟨W, hW, hsz, hB, bx⟩ := box3_new' w (.int .i64 n) (.int .i64 c) (.slice a rs.length cap) 32
 have HW : Hid (w.alloc (.cells #[.int .i64 n, .int .i64 c, .slice a rs.length cap] 32) = W) := hW
 have hoe : Li.Own (W.alloc (.cells #[] 3)) W.heap.size (.slice (some ⟨W.heap.size, 0, none⟩) 0 0) [] := own_empty _ _ (Nat.le_refl _)
 have hbe : Below W.heap.size W (W.alloc (.cells #[] 3)) := (Below.refl _ _).alloc (Nat.le_refl _) _
 rw [← hW] at hoe hbe
 have hx := hx.below hB
 have hle := hB.size
 have HS : Hid (W.heap.size = w.heap.size + 1) := hsz
 clear hW hsz
 go_enter Tryz.func42, Tryz.ntmps42
 go_wp2
 go_loopw [3, 4] (fun v i wr => ∃ k : Nat, k ≤ rs.length ∧ i = .int .i64 k ∧ (k = 0 ∨ tok n c rs = true) ∧ Li.Own wr W.heap.size v ((labs rs).take k) ∧ Below W.heap.size W wr) (fun _ i _ => rs.length - (intOf i).toNat)
 case atStart => exact ⟨0, Nat.zero_le _, rfl, .inl rfl, by rw [← HW.out]; simpa using hoe, by rw [← HW.out]; simpa using hbe⟩
 case round =>
  obtain ⟨k, hk, rfl, hor, hown, hBr⟩ := hrel
  have HOR : Hid (k = 0 ∨ tok n c rs = true) := hor
  have hlen := labs_length rs
  have htl : ((labs rs).take k).length = k := by rw [List.length_take, hlen]; omega
  have bxr := bx.below hBr
  obtain ⟨_, ⟨cx0, cx1, cx2⟩, _⟩ := id bxr
  clear hor hoe hbe
  by_cases hlt : k < rs.length
  ·
   go_wp2_with fail
   refine (stab _ _ _ _ _ rs (hx.below hBr) hl).mono ?_
   rintro e w2 ⟨rfl, hB2⟩
   have hown := hown.below hB2
   have hBr := hBr.trans (hB2.mono hBr.size)
   have bxr := bxr.below hB2
   clear hB2 cx0 cx1 cx2
   obtain ⟨_, ⟨cx0, cx1, cx2⟩, _⟩ := id bxr
   cases ht : tok n c rs
   ·
    have HO : Hid (Li.Own w2 w.heap.size u3 (labels n c rs)) := by
     show Li.Own _ _ _ _
     have e : labels n c rs = [] := by unfold labels; rw [ht]; rfl
     have h0 : k = 0 := by rcases HOR.out with h | h; exact h; rw [ht] at h; cases h
     rw [e]
     subst h0
     exact hown.mono hle
    have hBe := hB.trans (hBr.mono hB.size)
    clear ht hown
    go_wp2
    go_ret
    exact ⟨_, rfl, HO.out, hBe⟩
   ·
    have HT : Hid (tok n c rs = true) := ht
    clear ht
    rcases hx.below hBr with h0 | ⟨xb, xo, rfl, hxb, hxc⟩
    ·
     rw [h0] at hlt; simp at hlt
    ·
     obtain ⟨v0, v1, v2, ⟨d0, d1, d2⟩, hr⟩ := hxc k hlt
     clear hxc
     obtain ⟨a0, q0, a1, q1, rfl, rfl, rfl, _, _⟩ := hr
     have HTK : Hid ((labs rs).take (k + 1) = (labs rs).take k ++ [rs[k].label]) := by
      have := take_get (labs rs) k (by omega)
      rwa [labs_get rs k hlt] at this
     have hsz2 := hBr.size
     clear hlen
     go_wp2_with (at_builtin; refine wpList_append_own _ rfl _ _ 37 rfl W.heap.size 3 i0 (.int .i64 0) 1 8 Tryz.underlying37 hi hz0 hz1 hz2 rfl (by decide) _ _ _ rfl (World.ownsRow.alloc hown _) ⟨w2.heap.size, 0, none⟩ 1 1 [.int .i64 rs[k].label] rfl rfl (one_cell _ _ _) (one_one _) (by unfold maxLen; omega) (by omega) (by simp; omega) ?_)
     intro v' w3 hown' hgrow hnn
     clear hnn
     have ho2 : Li.Own w3 W.heap.size v' ((labs rs).take (k + 1)) := by rw [HTK.out]; exact own_snoc htl hown'
     have hB2 : Below W.heap.size W w3 := (hBr.alloc hsz2 _).grown hgrow (by simp; omega) (fun g hg => (World.ownsRow.lt hown g hg).1)
     clear hown' hgrow hown htl
     go_wp2
     go_roundw
     case rel => exact ⟨k + 1, by omega, by go_num, .inr HT.out, ho2, hB2⟩
     case measure => simp [intOf]; omega
  ·
   have HO : Hid (Li.Own wr w.heap.size u3 (labels n c rs)) := by
    show Li.Own _ _ _ _
    have e : (labs rs).take k = labs rs := List.take_of_length_le (by omega)
    rw [e] at hown
    have e2 : labels n c rs = labs rs := by
     unfold labels
     rcases HOR.out with h | h
     ·
      have : rs = [] := List.length_eq_zero_iff.1 (by omega)
      subst this; simp [labs]
     ·
      rw [h]; rfl
    rw [e2]; exact hown.mono hle
   have hBe := hB.trans (hBr.mono hB.size)
   clear hown htl hlen
   go_wp2
   go_ret
   exact ⟨_, rfl, HO.out, hBe⟩
def nat (rs : List Row) (p : Nat) : List Int := rs.map fun r => r.nums.getD p 0
theorem tok_nums {n c : Int} {rs : List Row} (h : tok n c rs = true) (j : Nat) (hj : j < rs.length) : (rs[j].nums.length : Int) = n ∧ (rs[j].cats.length : Int) = c := by
 have h2 := (tok_iff.1 h).2.2
 have := rok_iff.1 (List.all_eq_true.1 h2 _ (List.getElem_mem hj))
 exact ⟨this.2.1, this.2.2.1⟩
end Go.Proofs.YtglllflleabmbaaGreat.Co
/-
  DERIVED: THE SHELF's CONTRACTS AT THIS DUMP, IN PLAIN WORDS (tools/lay-plain.mjs out of 'TryzShelf.lean', which tools/lay-shelf.mjs wrote): THE SAME DECLARATIONS UNDER THE SAME NAMES: 'import', 'namespace', 'open', 'def', 'theorem' AND NOTHING ELSE: no command of the shelf's: FOR A HAND-IN. Each laying: the table of numbers ('.._ren') and one theorem, a field a fact of the dump's own or the kernel's comparison; each contract: ONE APPLICATION.
-/
namespace Go.Proofs
open Go.Shelf
def Tryz.laysM316_ren : Go.Shelf.Ren := ⟨fun | 316 => 77 | n => n, fun | 9 => 9 | 3 => 3 | 4 => 4 | 37 => 22 | 0 => 0 | 127 => 134 | 5 => 5 | n => n, fun | n => n⟩
theorem Tryz.laysM316 : Go.Proofs.LaysM.n316 Tryz.prog Tryz.laysM316_ren := {
 mixed := by kernel_rfl
 f316 := Tryz.func77.trans (congrArg some (by kernel_rfl))
 t0 := Tryz.underlying0
 a0 := Tryz.isAgg0
 z0 := Tryz.sizeOf0
 v0 := Tryz.zeroValue0
 t3 := Tryz.underlying3
 a3 := Tryz.isAgg3
 z3 := Tryz.sizeOf3
 v3 := Tryz.zeroValue3
 t4 := Tryz.underlying4
 a4 := Tryz.isAgg4
 z4 := Tryz.sizeOf4
 v4 := Tryz.zeroValue4
 t9 := Tryz.underlying9
 a9 := Tryz.isAgg9
 z9 := Tryz.sizeOf9
 v9 := Tryz.zeroValue9
 t37 := Tryz.underlying22
 a37 := Tryz.isAgg22
 z37 := Tryz.sizeOf22
 v37 := Tryz.zeroValue22
 t127 := Tryz.underlying134
 a127 := Tryz.isAgg134
 z127 := Tryz.sizeOf134
 v127 := Tryz.zeroValue134
 t5 := Tryz.underlying5
 a5 := Tryz.isAgg5
 z5 := Tryz.sizeOf5
 v5 := Tryz.zeroValue5
 i0 := by kernel_rfl
 i3 := by kernel_rfl
 i4 := by kernel_rfl
 i5 := by kernel_rfl
 i9 := by kernel_rfl
 i37 := by kernel_rfl
 i127 := by kernel_rfl }
open Go.RowKit in
theorem Tryz.stringslite_Clone (s : ByteArray) (w : World) (hlim : s.size ≤ 281474976710656) :
  Calls Tryz.prog 77 #[.string s] w fun e w' => e = .returned (.string s) ∧ Below w.heap.size w w' := Any.stringslite_Clone Tryz.laysM316 s w hlim
def Tryz.laysNm216_ren : Go.Shelf.Ren := ⟨fun | 16 => 85 | n => n, fun | 24 => 48 | 9 => 9 | 4 => 4 | n => n, fun | n => n⟩
theorem Tryz.laysNm216 : Go.Proofs.Lays2.n16 Tryz.prog Tryz.laysNm216_ren := {
 mixed := by kernel_rfl
 f16 := Tryz.func85.trans (congrArg some (by kernel_rfl))
 t4 := Tryz.underlying4
 a4 := Tryz.isAgg4
 z4 := Tryz.sizeOf4
 v4 := Tryz.zeroValue4
 t9 := Tryz.underlying9
 a9 := Tryz.isAgg9
 z9 := Tryz.sizeOf9
 v9 := Tryz.zeroValue9
 t24 := Tryz.underlying48
 a24 := Tryz.isAgg48
 z24 := Tryz.sizeOf48
 v24 := Tryz.zeroValue48
 i9 := by kernel_rfl }
open Go.RowKit Go.Lib in
theorem Tryz.slices_Clone_string (b off n c : Nat) (zs : List ByteArray) (w : World) (hz : n ≤ zs.length) (hbig : n * 16 ≤ 140737488355328) (hc : ∀ j, j < zs.length → w.cell? ⟨b, off + j, none⟩ = some (.string (zs.getD j ByteArray.empty))) :
  Calls Tryz.prog 85 #[.slice (some ⟨b, off, none⟩) n c] w fun e w' => ∃ v', e = .returned v' ∧ w'.ownsRow w.heap.size 9 1 v' n ((zs.take n).map (Value.string)) ∧ v' ≠ .slice none 0 0 ∧ Below w.heap.size w w' := Any.slices_Clone_string Tryz.laysNm216 b off n c zs w hz hbig hc
open Go.RowKit Go.Lib in
theorem Tryz.slices_Clone_string_nil (n c : Nat) (w : World) :
  Calls Tryz.prog 85 #[.slice none n c] w fun e w' => e = .returned (.slice none 0 0) ∧ w' = w := Any.slices_Clone_string_nil Tryz.laysNm216 n c w
open Go.RowKit Go.Lib in
theorem Tryz.slices_Clone_string_zero (a : Addr) (c : Nat) (w : World) :
  Calls Tryz.prog 85 #[.slice (some a) 0 c] w fun e w' => ∃ v', e = .returned v' ∧ w'.ownsRow w.heap.size 9 1 v' 0 [] ∧ v' ≠ .slice none 0 0 ∧ Below w.heap.size w w' := Any.slices_Clone_string_zero Tryz.laysNm216 a c w
end Go.Proofs
/-
  The words of a table: contracts of Words, of the program and of its model, over a plain function of lists.
-/
namespace Go.Proofs.YtglllflleabmbaaGreat.Co
set_option maxRecDepth 20000
open Go.RowKit
open Go.Proofs.YtglllflleabmbaaGreat.Tb
open Go.Proofs.YtglllflleabmbaaGreat.Tk
open Go.Proofs.YtglllflleabmbaaGreat.Li (ret_bool grown_set below_none btw between_any)

theorem sone_cell (w : World) (T : TypeId) (x : ByteArray) : ∀ j u, ([Value.string x] : List Value)[j]? = some u → (w.alloc (.cells #[.string x] T)).cell? ((⟨w.heap.size, 0, none⟩ : Addr).add j) = some u := by
 intro j u hj
 match j, hj with
 | 0, hj => simp at hj; subst hj; simp [Addr.add]
theorem sone_one (x : ByteArray) : ∀ u ∈ ([Value.string x] : List Value), u.oneCell' = true := by
 intro u hu; simp at hu; subst hu; rfl
theorem sown_snoc {w : World} {base n : Nat} {v : Value} {l : List ByteArray} {x : ByteArray} (hn : l.length = n) (h : w.ownsRow base 9 1 v (n + 1) (Ls.sv l ++ [.string x])) : Ls.Own w base v (l ++ [x]) := by
 subst hn
 unfold Ls.Own
 rw [← Ls.sv_append, List.length_append]
 exact h
theorem sown_empty (w : World) (base : Nat) (hb : base ≤ w.heap.size) : Ls.Own (w.alloc (.cells #[] 9)) base (.slice (some ⟨w.heap.size, 0, none⟩) 0 0) [] :=
 World.ownsRow_made w #[] 0 hb (by unfold maxLen; omega) (by simp)
def cat (rs : List Row) (p : Nat) : List ByteArray := rs.map fun r => r.cats.getD p ⟨#[]⟩
def words (n c : Int) (rs : List Row) (num : Int) : List ByteArray := if tok n c rs = true ∧ 0 ≤ num ∧ num < c then cat rs num.toNat else []
theorem cat_length (rs : List Row) (p : Nat) : (cat rs p).length = rs.length := by simp [cat]
theorem cat_get (rs : List Row) (p j : Nat) (h : j < rs.length) (hp : p < rs[j].cats.length) : (cat rs p)[j]'(by rw [cat_length]; exact h) = rs[j].cats[p] := by simp [cat, hp]
set_option maxHeartbeats 400000 in
theorem clone (w : World) (s : ByteArray) (hs : s.size ≤ 281474976710656) :
  Calls Tryz.prog 51 #[.string s] w fun e w' => e = .returned (.string s) ∧ Below w.heap.size w w' := by
 go_enter Tryz.func51, Tryz.ntmps51
 go_wp2_with (go_at_call 77; refine (Tryz.stringslite_Clone _ _ hs).mono ?_; rintro e w1 ⟨rfl, hB⟩)
 go_ret
 exact ⟨rfl, hB⟩
set_option maxHeartbeats 2000000 in
theorem iwords (w : World) (n c : Int) (a : Option Addr) (cap : Nat) (rs : List Row) (num : Int) (hx : IsR w a rs) (hl : rs.length + szR rs ≤ 1048576) :
  Calls Tryz.prog 104 #[.agg #[.int .i64 n, .int .i64 c, .slice a rs.length cap], .int .i64 num] w fun e w' => ∃ v, e = .returned v ∧ Ls.Own w' w.heap.size v (words n c rs num) ∧ Below w.heap.size w w' := by
 obtain ⟨i0, hi, hz0, hz1, hz2⟩ := info_parts Ls.info_str
 obtain ⟨W, hW, hsz, hB, bx⟩ := box3_new' w (.int .i64 n) (.int .i64 c) (.slice a rs.length cap) 32
 have HW : Hid (w.alloc (.cells #[.int .i64 n, .int .i64 c, .slice a rs.length cap] 32) = W) := hW
 clear hW
 go_enter Tryz.func104, Tryz.ntmps104
 go_wp2_with fail
 rw [HW.out]
 clear HW
 refine (Tk.itab _ _ _ _ _ rs (hx.below hB) hl).mono ?_
 rintro e w1 ⟨rfl, hB1⟩
 have bx := bx.below hB1
 have hB := hB.trans (hB1.mono hB.size)
 clear hB1 hsz
 obtain ⟨hbx, ⟨cx0, cx1, cx2⟩, _⟩ := id bx
 cases ht : tok n c rs
 ·
  have HR : Hid (words n c rs num = []) := by show _ = _; unfold words; rw [if_neg (by rw [ht]; simp)]
  go_wp2
  go_ret
  exact ⟨_, rfl, by rw [HR.out]; exact Ls.Own.nil _ _, hB⟩
 by_cases h0 : num < 0
 ·
  have HR : Hid (words n c rs num = []) := by show _ = _; unfold words; rw [if_neg (by omega)]
  clear ht
  go_wp2
  go_ret
  exact ⟨_, rfl, by rw [HR.out]; exact Ls.Own.nil _ _, hB⟩
 by_cases h1 : c ≤ num
 ·
  have HR : Hid (words n c rs num = []) := by show _ = _; unfold words; rw [if_neg (by omega)]
  clear ht
  go_wp2
  go_ret
  exact ⟨_, rfl, by rw [HR.out]; exact Ls.Own.nil _ _, hB⟩
 ·
  have HR : Hid (words n c rs num = cat rs num.toNat) := by show _ = _; unfold words; rw [if_pos ⟨ht, by omega, by omega⟩]
  have HT : Hid (tok n c rs = true) := ht
  have hle := hB.size
  clear ht
  go_wp2_with (at_make; refine wpList_make_full _ rfl _ _ 48 rfl w.heap.size 9 i0 (.string ⟨#[]⟩) 1 Tryz.underlying48 hi hz0 hz1 _ _ _ _ rs.length rfl rfl (by omega) (by omega) (by rw [hz2]; omega) (by unfold maxLen; omega) (by omega) ?_; intro w2 hown hgrow; have bx2 := bx.below (below_none hgrow); obtain ⟨_, ⟨dx0, dx1, dx2⟩, _⟩ := id bx2)
  have hown' := Ls.own_made hown
  have hB1 := below_none hgrow
  have hB := hB.trans (hB1.mono hB.size)
  clear hown hgrow hB1
  go_loopw [29] (fun i wr => ∃ k : Nat, k ≤ rs.length ∧ i = .int .i64 k ∧ ∃ l : List ByteArray, l.length = rs.length ∧ Ls.Like l (cat rs num.toNat) k ∧ Ls.Own wr w.heap.size (.slice (some ⟨w1.heap.size, 0, none⟩) rs.length rs.length) l ∧ Below w.heap.size w wr) (fun i _ => rs.length - (intOf i).toNat)
  case atStart => exact ⟨0, Nat.zero_le _, rfl, _, by simp, fun j hj => by omega, hown', hB⟩
  case round =>
   obtain ⟨k, hk, rfl, l, hll, hlike, hown, hBr⟩ := hrel
   have hlen := cat_length rs num.toNat
   by_cases hlt : k < rs.length
   ·
    rcases hx.below hBr with h0' | ⟨xb, xo, rfl, hxb, hxc⟩
    ·
     rw [h0'] at hlt; simp at hlt
    ·
     obtain ⟨v0, v1, v2, ⟨d0, d1, d2⟩, hr⟩ := hxc k hlt
     clear hxc
     obtain ⟨a0, q0, a1, q1, rfl, rfl, rfl, _, j0⟩ := hr
     have hnl := (tok_nums HT.out k hlt).2
     have hp : num.toNat < rs[k].cats.length := by omega
     have hp' : num < (rs[k].cats.length : Int) := by omega
     have hBa : Below wr.heap.size wr (wr.alloc (.cells #[.slice a0 rs[k].nums.length q0, .slice a1 rs[k].cats.length q1, .int .i64 rs[k].label] 50)) := (Below.refl _ _).alloc (Nat.le_refl _) _
     rcases j0.below hBa with h0' | ⟨yb, yo, rfl, hyb, hyc⟩
     ·
      rw [h0'] at hp; simp at hp
     have hcy := hyc num.toNat hp
     have HL : Hid (Ls.Like (l.set k (rs[k].cats[num.toNat]'hp)) (cat rs num.toNat) (k + 1)) := by
      have := Ls.like_set hlike (by omega) (by omega)
      rwa [cat_get rs num.toNat k hlt hp] at this
     have hwl := word_le rs[k].cats num.toNat hp
     have hz := szR_at rs k hlt
     unfold Row.sz at hz
     have hxs : (rs[k].cats[num.toNat]'hp).size ≤ 1048576 := by omega
     obtain ⟨x, hx'⟩ : ∃ x, rs[k].cats[num.toNat]'hp = x := ⟨_, rfl⟩
     rw [hx'] at hcy HL hxs
     clear hx' hyc hwl hz
     have hBr' := hBr.trans (hBa.mono hBr.size)
     have hown1 := hown.below hBa
     have HNL : Hid ((rs[k].cats.length : Int) = c) := hnl
     clear hown hlike hBa hlen dx0 dx1 dx2 cx0 cx1 cx2 hnl
     go_wp2_with fail
     refine (clone _ _ (by omega)).mono ?_
     rintro e w4 ⟨rfl, hB4⟩
     have hBr' := hBr'.trans (hB4.mono hBr'.size)
     have hown1 := hown1.below hB4
     have hkl : k < l.length := by rw [hll]; exact hlt
     have hcl := hown1.cell hll k hkl
     have hcf := hown1.frozen hll k
     have hg1 := (hown1.ge w1.heap.size rfl).2
     have HO : Hid _ := hown1.set hll k x
     have HBn : Hid _ := hBr'.setCell (p := ⟨w1.heap.size, k, none⟩) (by exact hle) (.string x)
     clear hown1 hBr' hB4 d0 d1 d2 hcy
     go_wp2
     go_roundw
     case rel => exact ⟨k + 1, by omega, by go_num, l.set k x, by simpa using hll, HL.out, HO.out, HBn.out⟩
     case measure => simp [intOf]; omega
   ·
    have e := Ls.like_all (xs := cat rs num.toNat) (ys := l) (by rw [hlen, show rs.length = k by omega]; exact hlike) (by omega)
    have HO : Hid (Ls.Own wr w.heap.size (.slice (some ⟨w1.heap.size, 0, none⟩) rs.length rs.length) (words n c rs num)) := by show Ls.Own _ _ _ _; rw [HR.out, ← e]; exact hown
    clear e hown hlike hlen hll
    go_wp2
    go_ret
    exact ⟨_, rfl, HO.out, hBr⟩
set_option maxHeartbeats 2000000 in
theorem swords (w : World) (n c : Int) (a : Option Addr) (cap : Nat) (rs : List Row) (num : Int) (hx : IsR w a rs) (hl : rs.length + szR rs ≤ 1048576) (hnb : -9223372036854775808 ≤ c ∧ c ≤ 9223372036854775807) :
  Calls Tryz.prog 112 #[.agg #[.int .i64 n, .int .i64 c, .slice a rs.length cap], .int .i64 num] w fun e w' => ∃ v, e = .returned v ∧ Ls.Own w' w.heap.size v (words n c rs num) ∧ Below w.heap.size w w' := by
 obtain ⟨i0, hi, hz0, hz1, hz2⟩ := info_parts Ls.info_str
 obtain ⟨W0, hW, hsz, hB, bx⟩ := box3_new' w (.int .i64 n) (.int .i64 c) (.slice a rs.length cap) 32
 obtain ⟨W, hW1, hB0⟩ : ∃ W, W0.alloc (.cells #[] 9) = W ∧ Below W0.heap.size W0 W := ⟨_, rfl, (Below.refl _ _).alloc (Nat.le_refl _) _⟩
 have hoe : Ls.Own W W0.heap.size (.slice (some ⟨W0.heap.size, 0, none⟩) 0 0) [] := by rw [← hW1]; exact sown_empty _ _ (Nat.le_refl _)
 have HW : Hid ((w.alloc (.cells #[.int .i64 n, .int .i64 c, .slice a rs.length cap] 32)).alloc (.cells #[] 9) = W) := by show _ = _; rw [hW]; exact hW1
 have bx := bx.below hB0
 have hB := hB.trans (hB0.mono hB.size)
 have hoe := hoe.mono (base' := w.heap.size + 1) (by omega)
 have HS : Hid (W0.heap.size = w.heap.size + 1) := hsz
 rw [hsz] at hoe
 clear hW hW1 hsz hB0
 go_enter Tryz.func112, Tryz.ntmps112
 go_wp2_with fail
 rw [HW.out]
 clear HW
 refine (Tk.stab _ _ _ _ _ rs (hx.below hB) hl).mono ?_
 rintro e w1 ⟨rfl, hB1⟩
 have bx := bx.below hB1
 have hoe := hoe.below hB1
 have hB := hB.trans (hB1.mono hB.size)
 have hx0 := hx
 clear hB1
 obtain ⟨hbx, ⟨cx0, cx1, cx2⟩, _⟩ := id bx
 cases ht : tok n c rs
 ·
  have HO : Hid (Ls.Own w1 w.heap.size (.slice (some ⟨w.heap.size + 1, 0, none⟩) 0 0) (words n c rs num)) := by
   show Ls.Own _ _ _ _
   have e : words n c rs num = [] := by unfold words; rw [if_neg (by rw [ht]; simp)]
   rw [e]; exact hoe.mono (by omega)
  clear ht hoe
  go_wp2
  go_ret
  exact ⟨_, rfl, HO.out, hB⟩
 have hsk := (tok_iff.1 ht).1
 have hsn := sok_iff.1 hsk
 cases hb : btw num 0 (c - 1)
 ·
  have HO : Hid (Ls.Own w1 w.heap.size (.slice (some ⟨w.heap.size + 1, 0, none⟩) 0 0) (words n c rs num)) := by
   show Ls.Own _ _ _ _
   have hb' : ¬ (0 ≤ num ∧ num ≤ c - 1) := of_decide_eq_false hb
   have e : words n c rs num = [] := by unfold words; rw [if_neg (by omega)]
   rw [e]; exact hoe.mono (by omega)
  clear ht hoe hsk
  go_wp2_with (go_at_call 68; refine (between_any _ _ _ _).mono ?_; rintro e w' ⟨rfl, hw'⟩; subst w')
  go_ret
  exact ⟨_, rfl, HO.out, hB⟩
 ·
  have hb' : 0 ≤ num ∧ num ≤ c - 1 := of_decide_eq_true hb
  have HR : Hid (words n c rs num = cat rs num.toNat) := by show _ = _; unfold words; rw [if_pos ⟨ht, by omega, by omega⟩]
  have HT : Hid (tok n c rs = true) := ht
  have hnl0 := hb'.1
  clear ht hsk
  go_wp2_with (go_at_call 68; refine (between_any _ _ _ _).mono ?_; rintro e w' ⟨rfl, hw'⟩; subst w')
  go_loopw [5, 6] (fun v i wr => ∃ k : Nat, k ≤ rs.length ∧ i = .int .i64 k ∧ Ls.Own wr (w.heap.size + 1) v ((cat rs num.toNat).take k) ∧ Below (w.heap.size + 1) w1 wr) (fun _ i _ => rs.length - (intOf i).toNat)
  case atStart => exact ⟨0, Nat.zero_le _, rfl, by simpa using hoe, Below.refl _ _⟩
  case round =>
   obtain ⟨k, hk, rfl, hown, hBr⟩ := hrel
   have hlen := cat_length rs num.toNat
   have htl : ((cat rs num.toNat).take k).length = k := by rw [List.length_take, hlen]; omega
   have hw1 : w.heap.size < w1.heap.size := hbx
   have bxr := bx.keptAt hBr.size (hBr.block _ (by omega))
   have hBe := hB.trans (hBr.mono (Nat.le_succ _))
   obtain ⟨_, ⟨ex0, ex1, ex2⟩, _⟩ := id bxr
   have hxr := hx0.below hBe
   clear hoe
   by_cases hlt : k < rs.length
   ·
    rcases hxr with h0' | ⟨xb, xo, rfl, hxb, hxc⟩
    ·
     rw [h0'] at hlt; simp at hlt
    ·
     obtain ⟨v0, v1, v2, ⟨d0, d1, d2⟩, hr⟩ := hxc k hlt
     clear hxc
     obtain ⟨a0, q0, a1, q1, rfl, rfl, rfl, _, j0⟩ := hr
     have hnl := (tok_nums HT.out k hlt).2
     have hp : num.toNat < rs[k].cats.length := by omega
     have hp' : num < (rs[k].cats.length : Int) := by omega
     rcases j0 with h0' | ⟨yb, yo, rfl, hyb, hyc⟩
     ·
      rw [h0'] at hp; simp at hp
     have hcy := hyc num.toNat hp
     have HTK : Hid ((cat rs num.toNat).take (k + 1) = (cat rs num.toNat).take k ++ [rs[k].cats[num.toNat]'hp]) := by
      have := take_get (cat rs num.toNat) k (by omega)
      rwa [cat_get rs num.toNat k hlt hp] at this
     obtain ⟨x, hx'⟩ : ∃ x, rs[k].cats[num.toNat]'hp = x := ⟨_, rfl⟩
     rw [hx'] at hcy HTK
     have hsz2 := hBr.size
     clear hlen hx' hyc hnl
     go_wp2_with (at_builtin; refine wpList_append_own _ rfl _ _ 48 rfl (w.heap.size + 1) 9 i0 (.string ⟨#[]⟩) 1 16 Tryz.underlying48 hi hz0 hz1 hz2 rfl (by decide) _ _ _ rfl (World.ownsRow.alloc hown _) ⟨wr.heap.size, 0, none⟩ 1 1 [.string x] rfl rfl (sone_cell _ _ _) (sone_one _) (by unfold maxLen; omega) (by omega) (by simp; omega) ?_)
     intro v' w3 hown' hgrow hnn
     clear hnn
     have ho2 : Ls.Own w3 (w.heap.size + 1) v' ((cat rs num.toNat).take (k + 1)) := by rw [HTK.out]; exact sown_snoc htl hown'
     have hB2 : Below (w.heap.size + 1) w1 w3 := (hBr.alloc (by omega) _).grown hgrow (by simp; omega) (fun g hg => (World.ownsRow.lt hown g hg).1)
     clear hown' hgrow hown htl
     go_wp2
     go_roundw
     case rel => exact ⟨k + 1, by omega, by go_num, ho2, hB2⟩
     case measure => simp [intOf]; omega
   ·
    have HO : Hid (Ls.Own wr w.heap.size u5 (words n c rs num)) := by
     show Ls.Own _ _ _ _
     have e : (cat rs num.toNat).take k = cat rs num.toNat := List.take_of_length_le (by omega)
     rw [e] at hown
     rw [HR.out]; exact hown.mono (by omega)
    clear hown htl hlen
    go_wp2
    go_ret
    exact ⟨_, rfl, HO.out, hBe⟩
end Go.Proofs.YtglllflleabmbaaGreat.Co
/-
  Words told by labels, by themselves: dictionaries, pairs, tallies of a word over places, the number that a tally gives.
-/
namespace Go.Proofs.YtglllflleabmbaaGreat.Wd

theorem ba_ext {a b : ByteArray} (h : a.data.toList = b.data.toList) : a = b := by
 obtain ⟨⟨l⟩⟩ := a; obtain ⟨⟨r⟩⟩ := b; simp at h; rw [h]

def fst (s : ByteArray) : List ByteArray → Nat
 | [] => 0
 | x :: r => if x = s then 0 else fst s r + 1
theorem fst_le (s : ByteArray) : ∀ xs, fst s xs ≤ xs.length
 | [] => Nat.le_refl _
 | x :: r => by
  unfold fst
  split
  ·
   omega
  ·
   have := fst_le s r; simp; omega
theorem fst_lt {s : ByteArray} : ∀ {xs}, fst s xs < xs.length ↔ s ∈ xs
 | [] => by simp [fst]
 | x :: r => by
  unfold fst
  split
  ·
   rename_i h; simp [h]
  ·
   rename_i h
   have := fst_lt (s := s) (xs := r)
   simp only [List.length_cons, Nat.add_lt_add_iff_right, List.mem_cons]
   rw [this]
   constructor
   ·
    exact .inr
   ·
    rintro (rfl | h')
    ·
     exact absurd rfl h
    ·
     exact h'
theorem fst_at {s : ByteArray} : ∀ {xs : List ByteArray} (h : fst s xs < xs.length), xs[fst s xs] = s
 | [], h => by simp at h
 | x :: r, h => by
  by_cases e : x = s
  ·
   have h0 : fst s (x :: r) = 0 := by simp [fst, e]
   simp only [h0, List.getElem_cons_zero]
   exact e
  ·
   have h1 : fst s (x :: r) = fst s r + 1 := by simp [fst, e]
   simp only [h1, List.getElem_cons_succ]
   exact fst_at (by simp [h1] at h; exact h)
theorem fst_min {s : ByteArray} : ∀ {xs : List ByteArray} (j : Nat) (hj : j < xs.length), xs[j] = s → fst s xs ≤ j
 | [], j, h, _ => by simp at h
 | x :: r, j, h, e => by
  unfold fst
  split
  ·
   omega
  ·
   rename_i hx
   cases j with
   | zero => exact absurd e hx
   | succ j => have := fst_min (s := s) (xs := r) j (by simpa using h) (by simpa using e); omega
def idOf (xs : List ByteArray) (s : ByteArray) : Int := if fst s xs < xs.length then (fst s xs : Int) else -1
theorem idOf_found {xs : List ByteArray} {s : ByteArray} {k : Nat} (hk : k < xs.length) (h : xs[k] = s) (hn : ∀ j (hj : j < xs.length), j < k → ¬ xs[j] = s) : idOf xs s = k := by
 have h1 := fst_min k hk h
 have h2 : fst s xs < xs.length := by omega
 have h3 := fst_at h2
 have h4 : fst s xs = k := by
  apply Classical.byContradiction
  intro hne
  exact hn _ h2 (by omega) h3
 unfold idOf
 rw [if_pos h2, h4]
theorem idOf_none {xs : List ByteArray} {s : ByteArray} (hn : ∀ j (hj : j < xs.length), ¬ xs[j] = s) : idOf xs s = -1 := by
 unfold idOf
 rw [if_neg]
 intro h
 exact hn _ h (fst_at h)
theorem idOf_neg {xs : List ByteArray} {s : ByteArray} : idOf xs s < 0 ↔ ¬ s ∈ xs := by
 unfold idOf
 split
 ·
  rename_i h; rw [fst_lt] at h; simp [h]
 ·
  rename_i h; rw [fst_lt] at h; simp [h]
theorem idOf_lo (xs : List ByteArray) (s : ByteArray) : -1 ≤ idOf xs s := by unfold idOf; split <;> omega
theorem idOf_hi (xs : List ByteArray) (s : ByteArray) : idOf xs s < xs.length := by unfold idOf; split <;> omega

def dict : List ByteArray → List ByteArray → List ByteArray
 | acc, [] => acc
 | acc, x :: r => if fst x acc < acc.length then dict acc r else dict (acc ++ [x]) r
theorem dict_old {acc r : List ByteArray} {x : ByteArray} (h : x ∈ acc) : dict acc (x :: r) = dict acc r := by simp only [dict]; rw [if_pos (fst_lt.2 h)]
theorem dict_new {acc r : List ByteArray} {x : ByteArray} (h : ¬ x ∈ acc) : dict acc (x :: r) = dict (acc ++ [x]) r := by simp only [dict]; rw [if_neg (fun h' => h (fst_lt.1 h'))]
def dictOf (ws : List ByteArray) : List ByteArray := dict [] ws
theorem dict_app : ∀ (a b acc : List ByteArray), dict acc (a ++ b) = dict (dict acc a) b
 | [], _, _ => rfl
 | y :: r, b, acc => by
  rw [List.cons_append]
  by_cases h : y ∈ acc
  ·
   rw [dict_old h, dict_old h, dict_app r b acc]
  ·
   rw [dict_new h, dict_new h, dict_app r b (acc ++ [y])]
theorem dict_ext : ∀ (ws acc : List ByteArray), ∃ t, dict acc ws = acc ++ t
 | [], acc => ⟨[], by simp [dict]⟩
 | y :: r, acc => by
  by_cases h : y ∈ acc
  ·
   rw [dict_old h]; exact dict_ext r acc
  ·
   rw [dict_new h]
   obtain ⟨t, ht⟩ := dict_ext r (acc ++ [y])
   exact ⟨y :: t, by rw [ht]; simp⟩
theorem dict_mem (s : ByteArray) : ∀ (ws acc : List ByteArray), s ∈ dict acc ws ↔ s ∈ acc ∨ s ∈ ws
 | [], acc => by simp [dict]
 | y :: r, acc => by
  by_cases h : y ∈ acc
  ·
   rw [dict_old h, dict_mem s r acc, List.mem_cons]
   constructor
   ·
    rintro (h' | h')
    ·
     exact .inl h'
    ·
     exact .inr (.inr h')
   ·
    rintro (h' | rfl | h')
    ·
     exact .inl h'
    ·
     exact .inl h
    ·
     exact .inr h'
  ·
   rw [dict_new h, dict_mem s r (acc ++ [y])]
   simp [or_assoc]
theorem dictOf_mem {s : ByteArray} {ws : List ByteArray} : s ∈ dictOf ws ↔ s ∈ ws := by unfold dictOf; rw [dict_mem]; simp
theorem dict_len : ∀ (ws acc : List ByteArray), (dict acc ws).length ≤ acc.length + ws.length
 | [], acc => by simp [dict]
 | y :: r, acc => by
  by_cases hy : y ∈ acc
  ·
   rw [dict_old hy]; have := dict_len r acc; simp; omega
  ·
   rw [dict_new hy]; have := dict_len r (acc ++ [y]); simp at this; simp; omega
theorem dictOf_len (ws : List ByteArray) : (dictOf ws).length ≤ ws.length := by have := dict_len ws []; simpa [dictOf] using this
theorem dictOf_old {ws : List ByteArray} {k : Nat} (hk : k < ws.length) (h : ws[k] ∈ ws.take k) : dictOf (ws.take (k + 1)) = dictOf (ws.take k) := by
 rw [List.take_succ_eq_append_getElem hk]
 show dict [] _ = _
 rw [dict_app, dict_old (show ws[k] ∈ dict [] (ws.take k) from dictOf_mem.2 h)]
 rfl
theorem dictOf_new {ws : List ByteArray} {k : Nat} (hk : k < ws.length) (h : ¬ ws[k] ∈ ws.take k) : dictOf (ws.take (k + 1)) = dictOf (ws.take k) ++ [ws[k]] := by
 rw [List.take_succ_eq_append_getElem hk]
 show dict [] _ = _
 rw [dict_app, dict_new (fun h' => h (dictOf_mem.1 (show ws[k] ∈ dictOf _ from h')))]
 rfl
theorem fst_first {ws : List ByteArray} {k : Nat} (hk : k < ws.length) : fst ws[k] ws = k ↔ ¬ ws[k] ∈ ws.take k := by
 constructor
 ·
  intro h hm
  obtain ⟨j, hj, e⟩ := List.getElem_of_mem hm
  have hj' : j < k := by simp at hj; omega
  have := fst_min j (by omega) (show ws[j] = ws[k] by rw [← e]; simp)
  omega
 ·
  intro h
  have h1 := fst_min k hk rfl
  have h2 : fst ws[k] ws < ws.length := by omega
  have h3 := fst_at h2
  apply Classical.byContradiction
  intro hne
  apply h
  rw [List.mem_take_iff_getElem]
  exact ⟨fst ws[k] ws, by omega, h3⟩
def hasL (l : List ByteArray) (s : ByteArray) : Bool := decide (fst s l < l.length)
def valL (l : List ByteArray) (s : ByteArray) : Int := if fst s l < l.length then (fst s l : Int) else 0
theorem hasL_iff {l : List ByteArray} {s : ByteArray} : hasL l s = true ↔ s ∈ l := by unfold hasL; rw [decide_eq_true_iff]; exact fst_lt
theorem hasL_no {l : List ByteArray} {s : ByteArray} (h : ¬ s ∈ l) : hasL l s = false := by
 cases e : hasL l s
 ·
  rfl
 ·
  exact absurd (hasL_iff.1 e) h
theorem fst_snoc_in {s : ByteArray} (x : ByteArray) : ∀ {l : List ByteArray}, s ∈ l → fst s (l ++ [x]) = fst s l
 | [], h => by simp at h
 | y :: r, h => by
  simp only [List.cons_append, fst]
  by_cases e : y = s
  ·
   rw [if_pos e, if_pos e]
  ·
   rw [if_neg e, if_neg e, fst_snoc_in x (by rcases List.mem_cons.1 h with h | h; exact absurd h.symm e; exact h)]
theorem fst_snoc_out {s : ByteArray} (x : ByteArray) : ∀ {l : List ByteArray}, ¬ s ∈ l → fst s (l ++ [x]) = l.length + (if x = s then 0 else 1)
 | [], _ => by simp [fst]
 | y :: r, h => by
  simp only [List.cons_append, fst, List.length_cons]
  rw [if_neg (fun e => h (by simp [e])), fst_snoc_out x (fun h' => h (by simp [h']))]
  omega
theorem snoc_old {l : List ByteArray} {x : ByteArray} (h : x ∈ l) (s : ByteArray) : hasL (l ++ [x]) s = hasL l s ∧ valL (l ++ [x]) s = valL l s := by
 by_cases hs : s ∈ l
 ·
  have h1 := fst_lt.2 hs
  have e := fst_snoc_in x hs
  refine ⟨by rw [hasL_iff.2 hs, hasL_iff.2 (List.mem_append_left _ hs)], ?_⟩
  unfold valL
  rw [e, if_pos h1, if_pos (by simp; omega)]
 ·
  have hx : ¬ s ∈ l ++ [x] := by
   simp only [List.mem_append, List.mem_singleton, not_or]
   exact ⟨hs, fun e => hs (e ▸ h)⟩
  refine ⟨by rw [hasL_no hs, hasL_no hx], ?_⟩
  unfold valL
  rw [if_neg (fun h' => hs (fst_lt.1 h')), if_neg (fun h' => hx (fst_lt.1 h'))]
theorem snoc_new {l : List ByteArray} {x : ByteArray} (h : ¬ x ∈ l) (s : ByteArray) : hasL (l ++ [x]) s = (if s = x then true else hasL l s) ∧ valL (l ++ [x]) s = (if s = x then (l.length : Int) else valL l s) := by
 by_cases e : s = x
 ·
  subst e
  rw [if_pos rfl, if_pos rfl]
  have hm : s ∈ l ++ [s] := by simp
  refine ⟨hasL_iff.2 hm, ?_⟩
  unfold valL
  rw [if_pos (fst_lt.2 hm), fst_snoc_out s h, if_pos rfl]
  simp
 ·
  rw [if_neg e, if_neg e]
  by_cases hs : s ∈ l
  ·
   have h1 := fst_lt.2 hs
   refine ⟨by rw [hasL_iff.2 hs, hasL_iff.2 (List.mem_append_left _ hs)], ?_⟩
   unfold valL
   rw [fst_snoc_in x hs, if_pos h1, if_pos (by simp; omega)]
  ·
   have hx : ¬ s ∈ l ++ [x] := by
    simp only [List.mem_append, List.mem_singleton, not_or]
    exact ⟨hs, e⟩
   refine ⟨by rw [hasL_no hs, hasL_no hx], ?_⟩
   unfold valL
   rw [if_neg (fun h' => hs (fst_lt.1 h')), if_neg (fun h' => hx (fst_lt.1 h'))]
theorem valL_at {ws : List ByteArray} {k : Nat} (hk : k < ws.length) : valL ws ws[k] = (fst ws[k] ws : Int) := by
 unfold valL; rw [if_pos (fst_lt.2 (List.getElem_mem hk))]
def pr (a b : ByteArray) : ByteArray := a ++ ⟨#[43]⟩ ++ b
def paired (xs ys : List ByteArray) : List ByteArray := if xs.length = ys.length then List.zipWith pr xs ys else []
def wat (ws : List ByteArray) (j : Int) : ByteArray := ws.getD j.toNat ⟨#[]⟩
def lat (ls : List Int) (j : Int) : Int := ls.getD j.toNat 0
theorem wat_get {ws : List ByteArray} {j : Int} (h : j.toNat < ws.length) : wat ws j = ws[j.toNat] := by simp [wat, List.getD_eq_getElem?_getD, List.getElem?_eq_getElem h]
theorem lat_get {ls : List Int} {j : Int} (h : j.toNat < ls.length) : lat ls j = ls[j.toNat] := by simp [lat, List.getD_eq_getElem?_getD, List.getElem?_eq_getElem h]
def tr (ws : List ByteArray) (s : ByteArray) : List Int → Int
 | [] => 0
 | j :: r => (if wat ws j = s then 1 else 0) + tr ws s r
def tl (ws : List ByteArray) (ls : List Int) (s : ByteArray) : List Int → Int
 | [] => 0
 | j :: r => (if wat ws j = s then lat ls j else 0) + tl ws ls s r
theorem tr_snoc (ws : List ByteArray) (s : ByteArray) (x : Int) : ∀ js, tr ws s (js ++ [x]) = tr ws s js + (if wat ws x = s then 1 else 0)
 | [] => by simp [tr]
 | j :: r => by simp only [List.cons_append, tr]; rw [tr_snoc ws s x r]; omega
theorem tl_snoc (ws : List ByteArray) (ls : List Int) (s : ByteArray) (x : Int) : ∀ js, tl ws ls s (js ++ [x]) = tl ws ls s js + (if wat ws x = s then lat ls x else 0)
 | [] => by simp [tl]
 | j :: r => by simp only [List.cons_append, tl]; rw [tl_snoc ws ls s x r]; omega
theorem tr_bd (ws : List ByteArray) (s : ByteArray) : ∀ js, 0 ≤ tr ws s js ∧ tr ws s js ≤ (js.length : Int)
 | [] => by simp [tr]
 | j :: r => by have := tr_bd ws s r; simp only [tr, List.length_cons]; split <;> omega
def Sml (ls : List Int) : Prop := ∀ j : Int, -1000000 ≤ lat ls j ∧ lat ls j ≤ 1000000
theorem tl_bd {ws : List ByteArray} {ls : List Int} (h : Sml ls) (s : ByteArray) : ∀ js, -1000000 * tr ws s js ≤ tl ws ls s js ∧ tl ws ls s js ≤ 1000000 * tr ws s js
 | [] => by simp [tr, tl]
 | j :: r => by have := tl_bd (ws := ws) h s r; have := h j; simp only [tr, tl]; split <;> omega
theorem sml_of {ls : List Int} (h : ∀ x ∈ ls, -1000000 ≤ x ∧ x ≤ 1000000) : Sml ls := by
 intro j
 unfold lat
 rw [List.getD_eq_getElem?_getD]
 cases e : ls[j.toNat]? with
 | none => simp
 | some x => exact h x (List.mem_of_getElem? e)
def tal (ws : List ByteArray) (ls js : List Int) (s : ByteArray) : Int × Int := (tr ws s js, tl ws ls s js)
def idx (n : Nat) : List Int := (List.range n).map fun (i : Nat) => (i : Int)
theorem idx_len (n : Nat) : (idx n).length = n := by simp [idx]
end Go.Proofs.YtglllflleabmbaaGreat.Wd
/-
  Pairs of words: contracts of Paired, of the program and of its model, over one plain function.
-/
namespace Go.Proofs.YtglllflleabmbaaGreat.Pa
open Go.RowKit
open Go.Proofs.YtglllflleabmbaaGreat.Wd
open Go.Proofs.YtglllflleabmbaaGreat.Li (below_none)

theorem pr_size (a b : ByteArray) : (pr a b).size = a.size + 1 + b.size := by
 unfold pr; simp [ByteArray.size_append]; rfl
theorem paired_no {xs ys : List ByteArray} (h : ¬ xs.length = ys.length) : paired xs ys = [] := by unfold paired; rw [if_neg h]
theorem paired_yes {xs ys : List ByteArray} (h : xs.length = ys.length) : paired xs ys = List.zipWith pr xs ys := by unfold paired; rw [if_pos h]
theorem paired_len {xs ys : List ByteArray} (h : xs.length = ys.length) : (paired xs ys).length = xs.length := by rw [paired_yes h]; simp; omega
theorem paired_get {xs ys : List ByteArray} (h : xs.length = ys.length) (k : Nat) (hk : k < (paired xs ys).length) : (paired xs ys)[k] = pr (xs[k]'(by rw [paired_len h] at hk; exact hk)) (ys[k]'(by rw [paired_len h] at hk; omega)) := by
 simp [paired_yes h]
set_option maxHeartbeats 2000000 in
theorem ipair (w : World) (a b : Option Addr) (ca cb : Nat) (xs ys : List ByteArray) (hx : Ls.IsS w a xs) (hy : Ls.IsS w b ys) (hl : xs.length ≤ 1048576) (hl' : ys.length ≤ 1048576) (hz : ∀ j (h : j < xs.length), xs[j].size ≤ 1048576) (hz' : ∀ j (h : j < ys.length), ys[j].size ≤ 1048576) :
  Calls Tryz.prog 86 #[.slice a xs.length ca, .slice b ys.length cb] w fun e w' => ∃ v, e = .returned v ∧ Ls.Own w' w.heap.size v (paired xs ys) ∧ Below w.heap.size w w' := by
 by_cases he : xs.length = ys.length
 rotate_left
 ·
  rw [paired_no he]
  have he' : ((xs.length : Int) != (ys.length : Int)) = true := by simp; omega
  go_enter Tryz.func86, Tryz.ntmps86
  go_wp2
  go_ret
  exact ⟨_, rfl, Ls.Own.nil _ _, Below.refl _ _⟩
 have he' : ((xs.length : Int) != (ys.length : Int)) = false := by simp; omega
 have hpl := paired_len he
 have HPL : Hid ((paired xs ys).length = xs.length) := hpl
 have HE : Hid (xs.length = ys.length) := he
 clear he hpl
 obtain ⟨i0, hi, hz0, hz1, hz2⟩ := info_parts Ls.info_str
 go_enter Tryz.func86, Tryz.ntmps86
 go_wp2_with (at_make; refine wpList_make_full _ rfl _ _ 48 rfl w.heap.size 9 i0 (.string ⟨#[]⟩) 1 Tryz.underlying48 hi hz0 hz1 _ _ _ _ xs.length rfl rfl (by omega) (by omega) (by rw [hz2]; omega) (by unfold maxLen; omega) (Nat.le_refl _) ?_; intro w1 hown hgrow)
 have hown' := Ls.own_made hown
 have hB1 := below_none hgrow
 clear hown hgrow
 go_loopw [18] (fun i wr => ∃ k : Nat, k ≤ xs.length ∧ i = .int .i64 k ∧ ∃ l : List ByteArray, l.length = xs.length ∧ Ls.Like l (paired xs ys) k ∧ Ls.Own wr w.heap.size (.slice (some ⟨w.heap.size, 0, none⟩) xs.length xs.length) l ∧ Below w.heap.size w wr) (fun i _ => xs.length - (intOf i).toNat)
 case atStart => exact ⟨0, Nat.zero_le _, rfl, _, by simp, fun j hj => by omega, hown', hB1⟩
 case round =>
  obtain ⟨k, hk, rfl, l, hll, hlike, hown, hB⟩ := hrel
  by_cases hlt : k < xs.length
  ·
   have hly : k < ys.length := by have := HE.out; omega
   rcases hx with rfl | ⟨xb, xo, rfl, hxb, hxc⟩
   ·
    simp at hlt
   rcases hy with rfl | ⟨yb, yo, rfl, hyb, hyc⟩
   ·
    simp at hly
   have hcx : wr.cell? ⟨xb, xo + k, none⟩ = some (.string xs[k]) := (hB.cell (by exact hxb)).trans (hxc k hlt)
   have hcy : wr.cell? ⟨yb, yo + k, none⟩ = some (.string ys[k]) := (hB.cell (by exact hyb)).trans (hyc k hly)
   obtain ⟨cv, hcl⟩ : ∃ cv, wr.cell? ⟨w.heap.size, k, none⟩ = some (.string cv) := ⟨_, hown.cell hll k (by omega)⟩
   have hcf := hown.frozen hll k
   have HO : Hid (Ls.Own wr w.heap.size (.slice (some ⟨w.heap.size, 0, none⟩) xs.length xs.length) l) := hown
   have hkp : k < (paired xs ys).length := by rw [HPL.out]; exact hlt
   have HL : Hid (Ls.Like (l.set k (pr xs[k] ys[k])) (paired xs ys) (k + 1)) := by
    have := Ls.like_set hlike hkp (by rw [HPL.out]; exact hll)
    rwa [paired_get HE.out] at this
   have z1 := hz k hlt
   have z2 := hz' k hly
   have HLL : Hid (l.length = xs.length) := hll
   obtain ⟨x, ex⟩ : ∃ x, xs[k] = x := ⟨_, rfl⟩
   obtain ⟨y, ey⟩ : ∃ y, ys[k] = y := ⟨_, rfl⟩
   rw [ex] at hcx z1 HL
   rw [ey] at hcy z2 HL
   clear hown hlike hxc hyc ex ey hz hz' hll
   go_wp2
   go_roundw
   case rel => exact ⟨k + 1, by omega, by go_num, l.set k (pr x y), by simpa using HLL.out, HL.out, HO.out.set HLL.out k _, hB.setCell (p := ⟨w.heap.size, k, none⟩) (Nat.le_refl _) _⟩
   case measure => simp [intOf]; omega
  ·
   obtain rfl : k = xs.length := by omega
   have HO : Hid (Ls.Own wr w.heap.size (.slice (some ⟨w.heap.size, 0, none⟩) xs.length xs.length) (paired xs ys)) := by
    have e := Ls.like_all (xs := paired xs ys) (by rw [HPL.out]; exact hlike) (by rw [HPL.out]; exact hll)
    rw [← e]; exact hown
   clear hown hlike hll
   go_wp2
   go_ret
   exact ⟨_, rfl, HO.out, hB⟩
set_option maxHeartbeats 4000000 in
theorem spair (w : World) (a b : Option Addr) (ca cb : Nat) (xs ys : List ByteArray) (hx : Ls.IsS w a xs) (hy : Ls.IsS w b ys) (hl : xs.length ≤ 1048576) (hl' : ys.length ≤ 1048576) (hz : ∀ j (h : j < xs.length), xs[j].size ≤ 1048576) (hz' : ∀ j (h : j < ys.length), ys[j].size ≤ 1048576) :
    Calls Tryz.prog 113 #[.slice a xs.length ca, .slice b ys.length cb] w fun e w' => ∃ v, e = .returned v ∧ Ls.Own w' w.heap.size v (paired xs ys) ∧ Below w.heap.size w w' := by
  by_cases he : xs.length = ys.length
  rotate_left
  · rw [paired_no he]
    have he' : ((xs.length : Int) == (ys.length : Int)) = false := by simp; omega
    have ho := Ap.sown_empty w w.heap.size (Nat.le_refl _)
    have hB : Below w.heap.size w (w.alloc (.cells #[] 9)) := (Below.refl _ _).alloc (Nat.le_refl _) _
    by_cases h0 : 0 < xs.length
    · go_enter Tryz.func113, Tryz.ntmps113
      go_wp2
      refine wp_loop_rounds 1 ?_
      rw [rounds_succ]
      go_wp2
      go_ret
      exact ⟨_, rfl, ho, hB⟩
    · have h0' : xs.length = 0 := by omega
      rw [h0'] at he' ⊢
      clear h0 h0'
      go_enter Tryz.func113, Tryz.ntmps113
      go_wp2
      refine wp_loop_rounds 1 ?_
      rw [rounds_succ]
      go_wp2
      go_ret
      exact ⟨_, rfl, ho, hB⟩
  have he' : ((xs.length : Int) == (ys.length : Int)) = true := by simp; omega
  have hpl := paired_len he
  have HPL : Hid ((paired xs ys).length = xs.length) := hpl
  have HE : Hid (xs.length = ys.length) := he
  clear he hpl
  obtain ⟨i0, hi, hz0, hz1, hz2⟩ := info_parts Ls.info_str
  have ho := Ap.sown_empty w w.heap.size (Nat.le_refl _)
  have hB1 : Below w.heap.size w (w.alloc (.cells #[] 9)) := (Below.refl _ _).alloc (Nat.le_refl _) _
  go_enter Tryz.func113, Tryz.ntmps113
  go_wp2
  go_loopw [5, 6] (fun v i wr => ∃ k : Nat, k ≤ xs.length ∧ i = .int .i64 k ∧ Ls.Own wr w.heap.size v ((paired xs ys).take k) ∧ Below w.heap.size w wr) (fun _ i _ => xs.length - (intOf i).toNat)
  case atStart => exact ⟨0, Nat.zero_le _, rfl, by simpa using ho, hB1⟩
  case round =>
    obtain ⟨k, hk, rfl, hown, hB⟩ := hrel
    clear ho hB1
    by_cases hlt : k < xs.length
    · have hly : k < ys.length := by have := HE.out; omega
      have hkp : k < (paired xs ys).length := by rw [HPL.out]; exact hlt
      have HT : Hid ((paired xs ys).take (k + 1) = (paired xs ys).take k ++ [pr xs[k] ys[k]]) := by show _ = _; rw [List.take_succ_eq_append_getElem hkp, paired_get HE.out]
      have htl : ((paired xs ys).take k).length = k := by rw [List.length_take, HPL.out]; omega
      rcases hx.below hB with rfl | ⟨xb, xo, rfl, hxb, hxc⟩
      · simp at hlt
      rcases hy.below hB with rfl | ⟨yb, yo, rfl, hyb, hyc⟩
      · simp at hly
      have hcx := hxc k hlt
      have hcy := hyc k hly
      have z1 := hz k hlt
      have z2 := hz' k hly
      obtain ⟨x, ex⟩ : ∃ x, xs[k] = x := ⟨_, rfl⟩
      obtain ⟨y, ey⟩ : ∃ y, ys[k] = y := ⟨_, rfl⟩
      rw [ex] at hcx z1 HT
      rw [ey] at hcy z2 HT
      obtain ⟨m, hm⟩ : ∃ m, (paired xs ys).take k = m := ⟨_, rfl⟩
      rw [hm] at hown HT htl
      have HM : Hid (m.length = k) := htl
      clear hxc hyc ex ey hz hz' hm htl
      have hBs := hB.size
      have c1 : ¬ 9223372036854775807 < x.size + 1 := by omega
      have c2 : ¬ 9223372036854775807 < x.size + 1 + y.size := by omega
      go_wp2_with fail
      go_region_law (refine step_append_lies _ rfl _ _ 48 rfl w.heap.size 9 i0 (.string ⟨#[]⟩) 1 16 Tryz.underlying48 hi hz0 hz1 hz2 rfl (by decide) u5 m.length (Ls.sv m) rfl (World.ownsRow.alloc (w := World.drew _) hown _) _ 1 1 [.string (pr x y)] rfl rfl (Ap.one_at rfl (by simp)) (Ap.one_one _ rfl) (by decide) (by have := HM.out; unfold maxLen; omega) (by have := HM.out; omega) (by simp; omega) _ rfl ?_
                     intro g cap w5 hown5 hgrow hpos hglt)
      all_goals
        have ho5 := Ap.sown_snoc rfl hown5
        have hB5 : Below w.heap.size w w5 := Ap.below_app (hB.alloc hBs _) (by simp; omega) (Ap.grown_undrew hgrow) (fun k hk => (hown.ge k hk).1)
        clear hown5 hgrow hpos
        go_wp2
        go_roundw
        case rel => exact ⟨k + 1, by omega, by go_num, by rw [HT.out]; have := HM.out; simpa using ho5, hB5⟩
        case measure => simp [intOf]; omega
    · obtain rfl : k = xs.length := by omega
      have HO : Hid (Ls.Own wr w.heap.size u5 (paired xs ys)) := by
        have : (paired xs ys).take xs.length = paired xs ys := List.take_of_length_le (by rw [HPL.out]; exact Nat.le_refl _)
        rw [← this]; exact hown
      clear hown
      go_wp2
      go_ret
      exact ⟨_, rfl, HO.out, hB⟩
end Go.Proofs.YtglllflleabmbaaGreat.Pa
