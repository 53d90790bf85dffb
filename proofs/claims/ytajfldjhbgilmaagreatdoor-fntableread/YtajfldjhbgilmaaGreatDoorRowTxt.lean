/-
  The text of a row and of a table: plain functions of lists; contracts of the program's rowText and TableText and of its model's TableText.
-/
import Derived.Test.YtajfldjhbgilmaaGreatDoorShelfB
import Derived.Test.YtajfldjhbgilmaaGreatDoorTabX
import Derived.Test.YtajfldjhbgilmaaGreatDoorTxt
import Derived.Test.YtajfldjhbgilmaaGreatDoorBld
import Derived.Laws.AppendOwnNone
import Derived.Lib.AppendStr
namespace Go.Proofs.YtajfldjhbgilmaaGreatDoor.Tt
open Go.RowKit
open Go.Proofs.YtajfldjhbgilmaaGreatDoor.Tb
open Go.Proofs.YtajfldjhbgilmaaGreatDoor.Tk
open Go.Proofs.YtajfldjhbgilmaaGreatDoor.Li (ret_bool grown_refl grown_trans grown_set below_none)

def fb (x : Int) : ByteArray := ⟨(Tx.ftext x).toArray⟩
def nparts (xs : List Int) : List ByteArray := xs.map fb
def rparts (r : Row) : List ByteArray := nparts r.nums ++ r.cats ++ [fb r.label]
def rtext (r : Row) : List UInt8 := Lib.join ((rparts r).map (·.data.toList)) [44] ++ [10]
def ttext (rs : List Row) : List UInt8 := (rs.map rtext).flatten
theorem nparts_length (xs : List Int) : (nparts xs).length = xs.length := by simp [nparts]
theorem nparts_get (xs : List Int) (j : Nat) (h : j < xs.length) : (nparts xs)[j]'(by rw [nparts_length]; exact h) = fb xs[j] := by simp [nparts]
theorem ftext_le (x : Int) : (Tx.ftext x).length ≤ 44 := by
  unfold Tx.ftext
  split
  · rename_i h
    have hb := Tx.fok_iff h
    split
    · have := Tx.fpos_len (-x) (by omega) (by omega); simp; omega
    · have := Tx.fpos_len x (by omega) (by omega); omega
  · simp
theorem fb_size (x : Int) : (fb x).size ≤ 44 := by unfold fb; simpa [ByteArray.size] using ftext_le x
theorem join_le (k : Nat) : ∀ (ps : List (List UInt8)), (∀ p ∈ ps, p.length ≤ k) → (Lib.join ps [44]).length ≤ ps.length * (k + 1)
  | [], _ => by simp [Lib.join_nil]
  | p :: ps, h => by
    rw [Lib.join_cons, List.length_append]
    have h1 := h p (by simp)
    have h2 : ∀ (qs : List (List UInt8)), (∀ q ∈ qs, q.length ≤ k) → (Lib.joinTail [44] qs).length ≤ qs.length * (k + 1) := by
      intro qs
      induction qs with
      | nil => intro _; simp [Lib.joinTail]
      | cons q qs ih =>
        intro hq
        have a := hq q (by simp)
        have b := ih (fun x hx => hq x (by simp [hx]))
        simp only [Lib.joinTail, List.map_cons, List.flatten_cons, List.length_append, List.length_cons, List.length_nil] at b ⊢
        rw [Nat.add_mul]
        omega
    have h3 := h2 ps (fun x hx => h x (by simp [hx]))
    simp only [List.length_cons]
    rw [Nat.add_mul]
    omega
theorem rok_sizes {n c : Int} {r : Row} (h : rok n c r = true) : r.nums.length ≤ 3 ∧ r.cats.length ≤ 2 ∧ ∀ s ∈ r.cats, s.size ≤ 12 := by
  obtain ⟨hs, h1, h2, _, h4, _⟩ := rok_iff.1 h
  have := sok_iff.1 hs
  refine ⟨by omega, by omega, fun s hm => ?_⟩
  have := List.all_eq_true.1 h4 s hm
  unfold wok wlen at this
  simp at this
  exact this.1.2
theorem rparts_length (r : Row) : (rparts r).length = r.nums.length + r.cats.length + 1 := by unfold rparts; rw [List.length_append, List.length_append, nparts_length]; rfl
theorem rtext_len {n c : Int} {r : Row} (h : rok n c r = true) : (rtext r).length ≤ 280 := by
  obtain ⟨h1, h2, h3⟩ := rok_sizes h
  have := join_le 44 ((rparts r).map (·.data.toList)) (fun p hp => by
    simp only [rparts, List.map_append, List.mem_append, List.mem_map, nparts] at hp
    rcases hp with (⟨b, ⟨x, _, rfl⟩, rfl⟩ | ⟨s, hs, rfl⟩) | hp
    · simpa [fb] using ftext_le x
    · have := h3 s hs; show s.data.toList.length ≤ 44; rw [Array.length_toList]; show s.size ≤ 44; omega
    · obtain ⟨b, hb, rfl⟩ := hp
      simp at hb; subst hb
      simpa [fb] using ftext_le r.label)
  have hl : ((rparts r).map (·.data.toList)).length ≤ 6 := by rw [List.length_map, rparts_length]; omega
  unfold rtext
  rw [List.length_append]
  simp only [List.length_cons, List.length_nil]
  have : ((rparts r).map (·.data.toList)).length * (44 + 1) ≤ 6 * 45 := Nat.mul_le_mul hl (Nat.le_refl _)
  omega
theorem ttext_take (rs : List Row) (k : Nat) (h : k < rs.length) : ttext (rs.take (k + 1)) = ttext (rs.take k) ++ rtext rs[k] := by
  unfold ttext
  rw [List.take_succ_eq_append_getElem h, List.map_append, List.flatten_append]
  simp only [List.map_cons, List.map_nil, List.flatten_cons, List.flatten_nil, List.append_nil]
theorem ttext_len {n c : Int} : ∀ (rs : List Row), rs.all (rok n c) = true → (ttext rs).length ≤ rs.length * 280
  | [], _ => by simp [ttext]
  | r :: rs, h => by
    simp only [List.all_cons, Bool.and_eq_true] at h
    have h1 := rtext_len h.1
    have h2 := ttext_len rs h.2
    unfold ttext at h2 ⊢
    simp only [List.map_cons, List.flatten_cons, List.length_append, List.length_cons]
    rw [Nat.add_mul]
    omega
theorem sone_cell (w : World) (T : TypeId) (x : ByteArray) : ∀ j u, ([Value.string x] : List Value)[j]? = some u → (w.alloc (.cells #[.string x] T)).cell? ((⟨w.heap.size, 0, none⟩ : Addr).add j) = some u := by
  intro j u hj
  match j, hj with
  | 0, hj => simp at hj; subst hj; simp [Addr.add]
theorem sone_one (x : ByteArray) : ∀ u ∈ ([Value.string x] : List Value), u.oneCell' = true := by
  intro u hu; simp at hu; subst hu; rfl
theorem sown_snoc {w : World} {base n : Nat} {v : Value} {l : List ByteArray} {x : ByteArray} (hn : l.length = n) (h : w.ownsRow base 9 1 v (n + 1) (Ls.sv l ++ [.string x])) : Ls.Own w base v (l ++ [x]) := by
  subst hn
  unfold Ls.Own
  rw [← Ls.sv_append, List.length_append]
  exact h
theorem sown_more {w : World} {base n m : Nat} {v : Value} {l k : List ByteArray} (hn : l.length = n) (hm : k.length = m) (h : w.ownsRow base 9 1 v (n + m) (Ls.sv l ++ Ls.sv k)) : Ls.Own w base v (l ++ k) := by
  subst hn; subst hm
  unfold Ls.Own
  rw [← Ls.sv_append, List.length_append]
  exact h
theorem iss_cells {w : World} {b off : Nat} {xs : List ByteArray} (h : ∀ j (hj : j < xs.length), w.cell? ⟨b, off + j, none⟩ = some (.string xs[j])) : ∀ j u, (Ls.sv xs)[j]? = some u → w.cell? ((⟨b, off, none⟩ : Addr).add j) = some u := by
  intro j u hj
  have hlt : j < xs.length := by
    have := (List.getElem?_eq_some_iff.1 hj).1
    rwa [Ls.sv_length] at this
  rw [Ls.sv_get xs j hlt] at hj
  cases hj
  rw [Go.WideShapes.add_plain]
  exact h j hlt
theorem take_get {α : Type} (xs : List α) (k : Nat) (h : k < xs.length) : xs.take (k + 1) = xs.take k ++ [xs[k]] := List.take_succ_eq_append_getElem h
theorem run_append_nil {P : Program} {w : World} (base : Nat) (t ty e : TypeId) (i : TypeInfo) (size : Nat) (ht : P.underlying t = some (.slice e)) (hi : P.info? e = some i)
    (v : Value) (n : Nat) (xs : List Value) (hown : w.ownsRow base e size v n xs) (c : Nat) :
    (Builtin.append_ #[t, t] ty #[v, .slice none 0 c]).run P w = .ok v w := by
  rcases hown.2 with ⟨rfl, rfl⟩ | ⟨g, cap, cur, rfl, _, _, hnc, _⟩
  · simp [Builtin.append_, run_underlying ht, sizeOf, typeInfo, hi, Builtin.lenOf, Builtin.firstCells]
  · simp [Builtin.append_, run_underlying ht, sizeOf, typeInfo, hi, Builtin.lenOf, Builtin.firstCells, hnc, storeCells]
theorem wpList_append_nil {P : Program} {w : World} {ops : Array Oper} {rest : List Oper} {o : Oper} {a : Act} {Q : Exit → Act → World → Prop} (hgd : o.guard = none) (s x : Operand) (t : TypeId)
    (ho : o.op = .call { callee := .builtin .append, args := #[s, x], argTypes := #[t, t] })
    (base : Nat) (e : TypeId) (i : TypeInfo) (size : Nat) (ht : P.underlying t = some (.slice e)) (hi : P.info? e = some i)
    (v : Value) (n : Nat) (xs : List Value) (hs : a.eval s = v) (hown : w.ownsRow base e size v n xs) (c : Nat) (hx : a.eval x = .slice none 0 c)
    (h : wpList P ops Q rest (a.put o.dst v) w) : wpList P ops Q (o :: rest) a w := by
  refine wpList_plain hgd fun K hK => ?_
  have hrun := run_append_nil (P := P) (w := w) base t o.type e i size ht hi v n xs hown c
  unfold Oper.wp
  simp [execOp, ho, resolve, invoke, builtin, hs, hx, hrun, Result.andThen]
  exact hK _ _ h
set_option maxRecDepth 100000 in
set_option maxHeartbeats 2000000 in
theorem irow (w : World) (n c : Int) (v0 v1 v2 : Value) (r : Row) (hr : RowIs w v0 v1 v2 r) (hk : rok n c r = true) (hT : Nu.Tab w) :
    Calls Tryz.prog 26 #[.agg #[v0, v1, v2]] w fun e w' => e = .returned (.string ⟨(rtext r).toArray⟩) ∧ Below w.heap.size w w' := by
  obtain ⟨i0, hi, hz0, hz1, hz2⟩ := info_parts Ls.info_str
  obtain ⟨a0, q0, a1, q1, rfl, rfl, rfl, j0, j1⟩ := hr
  obtain ⟨s1, s2, s3⟩ := rok_sizes hk
  obtain ⟨W, hW, hsz, hB, bx⟩ := box3_new' w (.slice a0 r.nums.length q0) (.slice a1 r.cats.length q1) (.int .i64 r.label) 54
  have HW : Hid (w.alloc (.cells #[.slice a0 r.nums.length q0, .slice a1 r.cats.length q1, .int .i64 r.label] 54) = W) := hW
  have j0 := j0.below hB
  have j1 := j1.below hB
  have hT := hT.below hB
  have hle := hB.size
  obtain ⟨hbx, ⟨cx0, cx1, cx2⟩, _⟩ := id bx
  clear hW hsz
  go_enter Tryz.func26, Tryz.ntmps26
  go_wp2
  rw [HW.out]
  clear HW
  go_loopw [3, 9] (fun v i wr => ∃ k : Nat, k ≤ r.nums.length ∧ i = .int .i64 k ∧ Ls.Own wr W.heap.size v ((nparts r.nums).take k) ∧ Below W.heap.size W wr) (fun _ i _ => r.nums.length - (intOf i).toNat)
  case atStart => exact ⟨0, Nat.zero_le _, rfl, Ls.Own.nil _ _, Below.refl _ _⟩
  case round =>
    obtain ⟨k, hkn, rfl, hown, hBr⟩ := hrel
    have hlen := nparts_length r.nums
    have htl : ((nparts r.nums).take k).length = k := by rw [List.length_take, hlen]; omega
    by_cases hlt : k < r.nums.length
    · rcases j0.below hBr with h0 | ⟨xb, xo, rfl, hxb, hxc⟩
      · rw [h0] at hlt; simp at hlt
      · have hcx := hxc k hlt
        have HTK : Hid ((nparts r.nums).take (k + 1) = (nparts r.nums).take k ++ [fb r.nums[k]]) := by
          have := take_get (nparts r.nums) k (by omega)
          rwa [nparts_get r.nums k hlt] at this
        clear hxc hlen
        go_wp2_with fail
        refine (Tx.itext _ _ (hT.below hBr)).mono ?_
        rintro e w2 ⟨rfl, hB2⟩
        have hown := hown.below hB2
        have hBr := hBr.trans (hB2.mono hBr.size)
        have hsz2 := hBr.size
        clear hB2
        go_wp2_with (at_builtin; refine wpList_append_own _ rfl _ _ 42 rfl W.heap.size 9 i0 (.string ⟨#[]⟩) 1 16 Tryz.underlying42 hi hz0 hz1 hz2 rfl (by decide) _ _ _ rfl (World.ownsRow.alloc hown _) ⟨w2.heap.size, 0, none⟩ 1 1 [.string ⟨(Tx.ftext r.nums[k]).toArray⟩] rfl rfl (sone_cell _ _ _) (sone_one _) (by unfold maxLen; omega) (by omega) (by simp; omega) ?_)
        intro v' w3 hown' hgrow hnn
        clear hnn
        have ho2 : Ls.Own w3 W.heap.size v' ((nparts r.nums).take (k + 1)) := by rw [HTK.out]; exact sown_snoc htl hown'
        have hB2 : Below W.heap.size W w3 := (hBr.alloc hsz2 _).grown hgrow (by simp; omega) (fun g hg => (World.ownsRow.lt hown g hg).1)
        clear hown' hgrow hown htl
        go_wp2
        go_roundw
        case rel => exact ⟨k + 1, by omega, by go_num, ho2, hB2⟩
        case measure => simp [intOf]; omega
    · have ho : Ls.Own wr W.heap.size u3 (nparts r.nums) := by
        rwa [List.take_of_length_le (by omega)] at hown
      clear hown htl
      have bxr := bx.below hBr
      obtain ⟨_, ⟨dx0, dx1, dx2⟩, _⟩ := id bxr
      have hszr := hBr.size
      have hnl := nparts_length r.nums
      have hnc : (nparts r.nums ++ r.cats).length = r.nums.length + r.cats.length := by rw [List.length_append, hnl]
      have HNL : Hid ((nparts r.nums).length = r.nums.length) := hnl
      have hnl' : (nparts r.nums).length ≤ 3 := by omega
      have hnc' : (nparts r.nums ++ r.cats).length ≤ 5 := by omega
      have HNC : Hid ((nparts r.nums ++ r.cats).length = r.nums.length + r.cats.length) := hnc
      clear hnl hnc hlen
      rcases j1.below hBr with h0 | ⟨xb, xo, rfl, hxb, hxc⟩
      · have hl0 : r.cats.length = 0 := by rw [h0]; rfl
        rw [hl0] at dx1
        have HL0 : Hid (r.cats = []) := h0
        cases a1 with
        | none =>
          obtain ⟨w3, hw3⟩ : ∃ w3, wr = w3 := ⟨_, rfl⟩
          subst hw3
          have ho3 : Ls.Own wr W.heap.size u3 (nparts r.nums ++ r.cats) := by rw [HL0.out, List.append_nil]; exact ho
          have hB3 := hBr
          clear hl0 h0
          go_wp2_with (at_builtin; refine wpList_append_nil rfl _ _ 42 rfl W.heap.size 9 i0 1 Tryz.underlying42 hi _ _ _ rfl ho q1 rfl ?_)
          refine (Tx.itext _ _ (hT.below hB3)).mono ?_
          rintro e w4 ⟨rfl, hB4⟩
          have ho4 := ho3.below hB4
          have hB4 := hB3.trans (hB4.mono hB3.size)
          have hsz4 := hB4.size
          go_wp2_with (at_builtin; refine wpList_append_own _ rfl _ _ 42 rfl W.heap.size 9 i0 (.string ⟨#[]⟩) 1 16 Tryz.underlying42 hi hz0 hz1 hz2 rfl (by decide) _ _ _ rfl (World.ownsRow.alloc ho4 _) ⟨w4.heap.size, 0, none⟩ 1 1 [.string ⟨(Tx.ftext r.label).toArray⟩] rfl rfl (sone_cell _ _ _) (sone_one _) (by unfold maxLen; omega) (by omega) (by simp; omega) ?_)
          intro v5 w5 hown5 hgrow5 hnn5
          clear hnn5
          have ho5 : Ls.Own w5 W.heap.size v5 (rparts r) := sown_snoc (x := fb r.label) (List.length_append) hown5
          have hB5 : Below W.heap.size W w5 := (hB4.alloc hsz4 _).grown hgrow5 (by simp; omega) (fun g hg => (World.ownsRow.lt ho4 g hg).1)
          have hrl : (rparts r).length ≤ 6 := by rw [rparts_length]; omega
          have hrp : 0 < (rparts r).length := by rw [rparts_length]; omega
          have hjl : (Lib.join ((rparts r).map (·.data.toList)) [44]).length ≤ 280 := by have := rtext_len hk; unfold rtext at this; rw [List.length_append] at this; omega
          clear hown5 hgrow5 ho4 ho3
          obtain ⟨a5, q5, e5, i5⟩ := ho5.iss
          have hcp : (rparts r).length ≤ q5 := by
            rcases ho5.2 with ⟨hv, h0⟩ | ⟨g, cap, cur, hv, _, _, hc, _⟩
            · omega
            · rw [e5] at hv; cases hv; exact hc
          subst e5
          rcases i5 with h0 | ⟨g5, o5, rfl, hg5, hc5⟩
          · rw [h0] at hrp; simp at hrp
          have hcells : ∀ (j : Nat) x, (rparts r)[j]? = some x → w5.cell? ⟨g5, o5 + j, none⟩ = some (.string x) := fun j x hj => by
            obtain ⟨hlt5, he5⟩ := List.getElem?_eq_some_iff.1 hj
            rw [← he5]; exact hc5 j hlt5
          have HR : Hid (rtext r = Lib.join ((rparts r).map (·.data.toList)) [44] ++ [10]) := rfl
          have hBe := hB.trans (hB5.mono hB.size)
          clear hc5 ho5 hB4 hsz4
          go_wp2_with fail
          refine (Tryz.strings_Join g5 o5 q5 (rparts r) ⟨#[44]⟩ w5 hcells hg5 (by omega) hcp (by show (Lib.join _ [44]).length ≤ _; omega)).mono ?_
          rintro e w6 ⟨rfl, hB6⟩
          have hBe := hBe.trans (hB6.mono hBe.size)
          go_wp2
          go_ret
          exact ⟨by rw [HR.out]; exact congrArg Ending.returned (congrArg Value.string (Tx.ba_ext (by simp))), hBe⟩
        | some ad =>
          clear hl0 h0
          go_wp2_with (at_builtin; refine wpList_append_own _ rfl _ _ 42 rfl W.heap.size 9 i0 (.string ⟨#[]⟩) 1 16 Tryz.underlying42 hi hz0 hz1 hz2 rfl (by decide) _ _ _ rfl ho ad 0 q1 [] rfl rfl (by intro j u hj; simp at hj) (by intro u hu; simp at hu) (by unfold maxLen; omega) (by omega) (by omega) ?_; intro v3 w3 hown3 hgrow hnn
                       have ho3 : Ls.Own w3 W.heap.size v3 (nparts r.nums ++ r.cats) := by rw [HL0.out]; exact sown_more rfl (k := []) rfl hown3
                       have hB3 : Below W.heap.size W w3 := hBr.grown hgrow hszr (fun g hg => (World.ownsRow.lt ho g hg).1)
                       have bx3 := bx.below hB3
                       obtain ⟨_, ⟨ex0, ex1, ex2⟩, _⟩ := id bx3
                       clear hnn hown3 hgrow)
          refine (Tx.itext _ _ (hT.below hB3)).mono ?_
          rintro e w4 ⟨rfl, hB4⟩
          have ho4 := ho3.below hB4
          have hB4 := hB3.trans (hB4.mono hB3.size)
          have hsz4 := hB4.size
          go_wp2_with (at_builtin; refine wpList_append_own _ rfl _ _ 42 rfl W.heap.size 9 i0 (.string ⟨#[]⟩) 1 16 Tryz.underlying42 hi hz0 hz1 hz2 rfl (by decide) _ _ _ rfl (World.ownsRow.alloc ho4 _) ⟨w4.heap.size, 0, none⟩ 1 1 [.string ⟨(Tx.ftext r.label).toArray⟩] rfl rfl (sone_cell _ _ _) (sone_one _) (by unfold maxLen; omega) (by omega) (by simp; omega) ?_)
          intro v5 w5 hown5 hgrow5 hnn5
          clear hnn5
          have ho5 : Ls.Own w5 W.heap.size v5 (rparts r) := sown_snoc (x := fb r.label) (List.length_append) hown5
          have hB5 : Below W.heap.size W w5 := (hB4.alloc hsz4 _).grown hgrow5 (by simp; omega) (fun g hg => (World.ownsRow.lt ho4 g hg).1)
          have hrl : (rparts r).length ≤ 6 := by rw [rparts_length]; omega
          have hrp : 0 < (rparts r).length := by rw [rparts_length]; omega
          have hjl : (Lib.join ((rparts r).map (·.data.toList)) [44]).length ≤ 280 := by have := rtext_len hk; unfold rtext at this; rw [List.length_append] at this; omega
          clear hown5 hgrow5 ho4 ho3
          obtain ⟨a5, q5, e5, i5⟩ := ho5.iss
          have hcp : (rparts r).length ≤ q5 := by
            rcases ho5.2 with ⟨hv, h0⟩ | ⟨g, cap, cur, hv, _, _, hc, _⟩
            · omega
            · rw [e5] at hv; cases hv; exact hc
          subst e5
          rcases i5 with h0 | ⟨g5, o5, rfl, hg5, hc5⟩
          · rw [h0] at hrp; simp at hrp
          have hcells : ∀ (j : Nat) x, (rparts r)[j]? = some x → w5.cell? ⟨g5, o5 + j, none⟩ = some (.string x) := fun j x hj => by
            obtain ⟨hlt5, he5⟩ := List.getElem?_eq_some_iff.1 hj
            rw [← he5]; exact hc5 j hlt5
          have HR : Hid (rtext r = Lib.join ((rparts r).map (·.data.toList)) [44] ++ [10]) := rfl
          have hBe := hB.trans (hB5.mono hB.size)
          clear hc5 ho5 hB4 hsz4
          go_wp2_with fail
          refine (Tryz.strings_Join g5 o5 q5 (rparts r) ⟨#[44]⟩ w5 hcells hg5 (by omega) hcp (by show (Lib.join _ [44]).length ≤ _; omega)).mono ?_
          rintro e w6 ⟨rfl, hB6⟩
          have hBe := hBe.trans (hB6.mono hBe.size)
          go_wp2
          go_ret
          exact ⟨by rw [HR.out]; exact congrArg Ending.returned (congrArg Value.string (Tx.ba_ext (by simp))), hBe⟩
      · go_wp2_with (at_builtin; refine wpList_append_own _ rfl _ _ 42 rfl W.heap.size 9 i0 (.string ⟨#[]⟩) 1 16 Tryz.underlying42 hi hz0 hz1 hz2 rfl (by decide) _ _ _ rfl ho ⟨xb, xo, none⟩ r.cats.length q1 (Ls.sv r.cats) rfl (by rw [Ls.sv_length, Nat.mul_one]) (iss_cells hxc) (Ls.sv_one _) (by unfold maxLen; omega) (by omega) (by omega) ?_; intro v3 w3 hown3 hgrow hnn
                     have ho3 : Ls.Own w3 W.heap.size v3 (nparts r.nums ++ r.cats) := sown_more rfl rfl hown3
                     have hB3 : Below W.heap.size W w3 := hBr.grown hgrow hszr (fun g hg => (World.ownsRow.lt ho g hg).1)
                     have bx3 := bx.below hB3
                     obtain ⟨_, ⟨ex0, ex1, ex2⟩, _⟩ := id bx3
                     clear hnn hown3 hgrow)
        refine (Tx.itext _ _ (hT.below hB3)).mono ?_
        rintro e w4 ⟨rfl, hB4⟩
        have ho4 := ho3.below hB4
        have hB4 := hB3.trans (hB4.mono hB3.size)
        have hsz4 := hB4.size
        go_wp2_with (at_builtin; refine wpList_append_own _ rfl _ _ 42 rfl W.heap.size 9 i0 (.string ⟨#[]⟩) 1 16 Tryz.underlying42 hi hz0 hz1 hz2 rfl (by decide) _ _ _ rfl (World.ownsRow.alloc ho4 _) ⟨w4.heap.size, 0, none⟩ 1 1 [.string ⟨(Tx.ftext r.label).toArray⟩] rfl rfl (sone_cell _ _ _) (sone_one _) (by unfold maxLen; omega) (by omega) (by simp; omega) ?_)
        intro v5 w5 hown5 hgrow5 hnn5
        clear hnn5
        have ho5 : Ls.Own w5 W.heap.size v5 (rparts r) := sown_snoc (x := fb r.label) (List.length_append) hown5
        have hB5 : Below W.heap.size W w5 := (hB4.alloc hsz4 _).grown hgrow5 (by simp; omega) (fun g hg => (World.ownsRow.lt ho4 g hg).1)
        have hrl : (rparts r).length ≤ 6 := by rw [rparts_length]; omega
        have hrp : 0 < (rparts r).length := by rw [rparts_length]; omega
        have hjl : (Lib.join ((rparts r).map (·.data.toList)) [44]).length ≤ 280 := by have := rtext_len hk; unfold rtext at this; rw [List.length_append] at this; omega
        clear hown5 hgrow5 ho4 ho3
        obtain ⟨a5, q5, e5, i5⟩ := ho5.iss
        have hcp : (rparts r).length ≤ q5 := by
          rcases ho5.2 with ⟨hv, h0⟩ | ⟨g, cap, cur, hv, _, _, hc, _⟩
          · omega
          · rw [e5] at hv; cases hv; exact hc
        subst e5
        rcases i5 with h0 | ⟨g5, o5, rfl, hg5, hc5⟩
        · rw [h0] at hrp; simp at hrp
        have hcells : ∀ (j : Nat) x, (rparts r)[j]? = some x → w5.cell? ⟨g5, o5 + j, none⟩ = some (.string x) := fun j x hj => by
          obtain ⟨hlt5, he5⟩ := List.getElem?_eq_some_iff.1 hj
          rw [← he5]; exact hc5 j hlt5
        have HR : Hid (rtext r = Lib.join ((rparts r).map (·.data.toList)) [44] ++ [10]) := rfl
        have hBe := hB.trans (hB5.mono hB.size)
        clear hc5 ho5 hB4 hsz4
        go_wp2_with fail
        refine (Tryz.strings_Join g5 o5 q5 (rparts r) ⟨#[44]⟩ w5 hcells hg5 (by omega) hcp (by show (Lib.join _ [44]).length ≤ _; omega)).mono ?_
        rintro e w6 ⟨rfl, hB6⟩
        have hBe := hBe.trans (hB6.mono hBe.size)
        go_wp2
        go_ret
        exact ⟨by rw [HR.out]; exact congrArg Ending.returned (congrArg Value.string (Tx.ba_ext (by simp))), hBe⟩
theorem builder_below {T e : TypeId} {B b : Nat} {bs : List Value} {w w' : World} (h : Lib.IsBuilder T e B b bs w) (hB : Below w.heap.size w w') : Lib.IsBuilder T e B b bs w' := by
  have one : ∀ {p : Value}, Lib.BuilderAt T e B b p bs w → Lib.BuilderAt T e B b p bs w' := fun {p} h => by
    obtain ⟨h1, v, hb, ho, hne⟩ := h
    have hlt : b < w.heap.size := (Array.getElem?_eq_some_iff.1 hb).1
    exact ⟨h1, v, by rw [hB.block b hlt]; exact hb, ownsRow_at ho (fun k e => hB.block k (World.ownsRow.lt ho k e).2), hne⟩
  rcases h with h | h
  · exact .inl (one h)
  · exact .inr (one h)
theorem ba_size (l : List UInt8) : (ByteArray.mk l.toArray).size = l.length := by simp [ByteArray.size]
theorem bc_len (l : List UInt8) : (Lib.byteCells l).length = l.length := by simp [Lib.byteCells]
theorem cells_more (l k : List UInt8) : Lib.byteCells l ++ Lib.strCells ⟨k.toArray⟩ = Lib.byteCells (l ++ k) := by simp [Lib.byteCells, Lib.strCells]
def tabtext (n c : Int) (rs : List Row) : List UInt8 := if tok n c rs = true then ttext rs else []
theorem all_at {n c : Int} {rs : List Row} (h : tok n c rs = true) (k : Nat) (hk : k < rs.length) : rok n c rs[k] = true := List.all_eq_true.1 (tok_iff.1 h).2.2 _ (List.getElem_mem hk)
theorem all_take {n c : Int} {rs : List Row} (h : tok n c rs = true) (k : Nat) : (rs.take k).all (rok n c) = true := by
  rw [List.all_eq_true]
  intro r hr
  exact List.all_eq_true.1 (tok_iff.1 h).2.2 _ (List.mem_of_mem_take hr)
theorem ttext_pre {n c : Int} {rs : List Row} (h : tok n c rs = true) (k : Nat) : (ttext (rs.take k)).length ≤ 11200 := by
  have h1 := ttext_len (rs.take k) (all_take h k)
  have h2 := (tok_iff.1 h).2.1
  have h3 : (rs.take k).length ≤ 40 := by rw [List.length_take]; omega
  have := Nat.mul_le_mul h3 (Nat.le_refl 280)
  omega
set_option maxRecDepth 100000 in
set_option maxHeartbeats 2000000 in
theorem ittext (w : World) (n c : Int) (a : Option Addr) (cap : Nat) (rs : List Row) (hx : IsR w a rs) (hl : rs.length + szR rs ≤ 1048576) (hT : Nu.Tab w) :
    Calls Tryz.prog 9 #[.agg #[.int .i64 n, .int .i64 c, .slice a rs.length cap]] w fun e w' => e = .returned (.string ⟨(tabtext n c rs).toArray⟩) ∧ Below w.heap.size w w' := by
  obtain ⟨W, hW, hsz, hB, bx⟩ := box3_new' w (.int .i64 n) (.int .i64 c) (.slice a rs.length cap) 30
  have HW : Hid (w.alloc (.cells #[.int .i64 n, .int .i64 c, .slice a rs.length cap] 30) = W) := hW
  clear hW
  go_enter Tryz.func9, Tryz.ntmps9
  go_wp2_with fail
  rw [HW.out]
  clear HW
  refine (itab _ _ _ _ _ rs (hx.below hB) hl).mono ?_
  rintro e w1 ⟨rfl, hB1⟩
  have bx := bx.below hB1
  have hB := hB.trans (hB1.mono hB.size)
  clear hB1 hsz
  cases ht : tok n c rs
  · have HR : Hid (tabtext n c rs = []) := by show _ = _; unfold tabtext; rw [ht]; rfl
    go_wp2
    go_ret
    exact ⟨by rw [HR.out]; rfl, hB⟩
  · have HR : Hid (tabtext n c rs = ttext rs) := by show _ = _; unfold tabtext; rw [ht]; rfl
    have HT : Hid (tok n c rs = true) := ht
    clear ht
    obtain ⟨W1, hW1, hBb, hb0⟩ : ∃ W1, w1.alloc (.cells #[.pointer none, .slice none 0 0] 61) = W1 ∧ Below w1.heap.size w1 W1 ∧ Lib.IsBuilder 61 5 w1.heap.size w1.heap.size [] W1 := ⟨_, rfl, (Below.refl _ _).alloc (Nat.le_refl _) _, Lib.fresh_isBuilder _ _ _⟩
    have HW1 : Hid (w1.alloc (.cells #[.pointer none, .slice none 0 0] 61) = W1) := hW1
    clear hW1
    obtain ⟨hbx, ⟨cx0, cx1, cx2⟩, _⟩ := id bx
    have hle := hB.size
    go_wp2
    rw [HW1.out]
    clear HW1
    go_loopw [12] (fun i wr => ∃ k : Nat, k ≤ rs.length ∧ i = .int .i64 k ∧ Lib.IsBuilder 61 5 w1.heap.size w1.heap.size (Lib.byteCells (ttext (rs.take k))) wr ∧ Below w1.heap.size w1 wr) (fun i _ => rs.length - (intOf i).toNat)
    case atStart => exact ⟨0, Nat.zero_le _, rfl, hb0, hBb⟩
    case round =>
      obtain ⟨k, hk, rfl, hbl, hBr⟩ := hrel
      have hBe := hB.trans (hBr.mono hle)
      by_cases hlt : k < rs.length
      · rcases hx.below hBe with h0 | ⟨xb, xo, rfl, hxb, hxc⟩
        · rw [h0] at hlt; simp at hlt
        · obtain ⟨v0, v1, v2, ⟨d0, d1, d2⟩, hr⟩ := hxc k hlt
          clear hxc
          have hr' := hr
          obtain ⟨a0, q0, a1, q1, rfl, rfl, rfl, _, _⟩ := hr'
          have hrk := all_at HT.out k hlt
          have hrt := rtext_len hrk
          have htp := ttext_pre HT.out k
          have HTK : Hid (ttext (rs.take (k + 1)) = ttext (rs.take k) ++ rtext rs[k]) := ttext_take rs k hlt
          have hBa : Below wr.heap.size wr (wr.alloc (.cells #[.slice a0 rs[k].nums.length q0, .slice a1 rs[k].cats.length q1, .int .i64 rs[k].label] 54)) := (Below.refl _ _).alloc (Nat.le_refl _) _
          go_wp2_with fail
          refine (irow _ n c _ _ _ rs[k] (hr.below hBa) hrk ((hT.below hBe).below hBa)).mono ?_
          rintro e w3 ⟨rfl, hB3⟩
          have hB3 := hBa.trans (hB3.mono hBa.size)
          have hbl := builder_below hbl hB3
          have hBr := hBr.trans (hB3.mono hBr.size)
          clear hB3 hBa hr d0 d1 d2
          go_wp2_with fail
          refine (Bd.write _ _ _ _ _ hbl (by rw [bc_len, ba_size]; omega) hBr.size).mono ?_
          rintro e w4 ⟨rfl, hb4, hB4⟩
          have hBr := hBr.trans hB4
          have HB4 : Hid (Lib.IsBuilder 61 5 w1.heap.size w1.heap.size (Lib.byteCells (ttext (rs.take (k + 1)))) w4) := by
            show Lib.IsBuilder _ _ _ _ _ _
            rw [HTK.out, ← cells_more]
            exact .inr hb4
          clear hB4 hb4 hbl
          go_wp2
          go_roundw
          case rel => exact ⟨k + 1, by omega, by go_num, HB4.out, hBr⟩
          case measure => simp [intOf]; omega
      · have e : rs.take k = rs := List.take_of_length_le (by omega)
        rw [e] at hbl
        have htp := ttext_pre HT.out k
        clear e
        go_wp2_with fail
        refine (Tryz.Builder_String_any _ _ _ _ hbl hBr.size).mono ?_
        rintro e w5 ⟨rfl, hB5⟩
        have hBe := hBe.trans (hB5.mono hle)
        go_wp2
        go_ret
        exact ⟨by rw [HR.out]; rfl, hBe⟩
end Go.Proofs.YtajfldjhbgilmaaGreatDoor.Tt
