/-
  Which rows and tables are right: contracts of SampleOk and TableOk, of the program and of its model, over the plain functions 'rok', 'tok'.
-/
import Derived.Test.YtkiddmbenepfjaaTabOk
namespace Go.Proofs.Ytkiddmbenepfjaa.Tk
set_option maxRecDepth 20000
open Go.RowKit
open Go.Proofs.Ytkiddmbenepfjaa.Tb
open Go.Proofs.Ytkiddmbenepfjaa.Li (ret_bool btw between_any)

def nok (xs : List Int) : Bool := xs.all fok
def cok (ws : List ByteArray) : Bool := ws.all wok
def rok (n c : Int) (r : Row) : Bool := sok n c && (decide ((r.nums.length : Int) = n) && (decide ((r.cats.length : Int) = c) && (nok r.nums && (cok r.cats && lok r.label))))
theorem rok_sok {n c : Int} {r : Row} (h : sok n c = false) : rok n c r = false := by simp [rok, h]
theorem rok_n {n c : Int} {r : Row} (h : ¬ (r.nums.length : Int) = n) : rok n c r = false := by simp [rok, h]
theorem rok_c {n c : Int} {r : Row} (h : ¬ (r.cats.length : Int) = c) : rok n c r = false := by simp [rok, h]
theorem rok_nok {n c : Int} {r : Row} (h : nok r.nums = false) : rok n c r = false := by simp [rok, h]
theorem rok_cok {n c : Int} {r : Row} (h : cok r.cats = false) : rok n c r = false := by simp [rok, h]
theorem rok_lok {n c : Int} {r : Row} (h : lok r.label = false) : rok n c r = false := by simp [rok, h]
theorem rok_all {n c : Int} {r : Row} (h0 : sok n c = true) (h1 : (r.nums.length : Int) = n) (h2 : (r.cats.length : Int) = c) (h3 : nok r.nums = true) (h4 : cok r.cats = true) (h5 : lok r.label = true) : rok n c r = true := by
  simp [rok, h0, h1, h2, h3, h4, h5]
theorem rok_iff {n c : Int} {r : Row} : rok n c r = true ↔ sok n c = true ∧ (r.nums.length : Int) = n ∧ (r.cats.length : Int) = c ∧ nok r.nums = true ∧ cok r.cats = true ∧ lok r.label = true := by
  simp [rok]
theorem pre_snoc {α : Type} (p : α → Bool) (xs : List α) (k : Nat) (h : k < xs.length) (ha : (xs.take k).all p = true) (hb : p xs[k] = true) : (xs.take (k + 1)).all p = true := by
  rw [List.take_succ_eq_append_getElem h]; simp only [List.all_append, ha, List.all_cons, hb, List.all_nil, Bool.and_true]
theorem pre_no {α : Type} (p : α → Bool) (xs : List α) (k : Nat) (h : k < xs.length) (hb : p xs[k] = false) : xs.all p = false := by
  cases e : xs.all p
  · rfl
  · have := List.all_eq_true.1 e _ (List.getElem_mem h)
    rw [hb] at this; cases this
theorem pre_end {α : Type} (p : α → Bool) (xs : List α) (k : Nat) (h : ¬ k < xs.length) (ha : (xs.take k).all p = true) : xs.all p = true := by
  rwa [List.take_of_length_le (by omega)] at ha
theorem word_le (ws : List ByteArray) (k : Nat) (h : k < ws.length) : ws[k].size ≤ lets ws := by
  have h1 := lets_take ws k h
  have h2 := lets_le ws (k + 1)
  omega
/-- A variable of two cells. -/
def Box2 (w : World) (b : Nat) (v0 v1 : Value) : Prop :=
  b < w.heap.size ∧ w.cell? ⟨b, 0, none⟩ = some v0 ∧ w.cell? ⟨b, 1, none⟩ = some v1
theorem Box2.below {w w1 : World} {b : Nat} {v0 v1 : Value} (h : Box2 w b v0 v1) (hB : Below w.heap.size w w1) : Box2 w1 b v0 v1 := by
  obtain ⟨hlt, c0, c1⟩ := h
  exact ⟨Nat.lt_of_lt_of_le hlt hB.size, (hB.cell (by exact hlt)).trans c0, (hB.cell (by exact hlt)).trans c1⟩
theorem boxes23 (w : World) (s0 s1 v0 v1 v2 : Value) (T U : TypeId) : ∃ W, (w.alloc (.cells #[s0, s1] T)).alloc (.cells #[v0, v1, v2] U) = W ∧ W.heap.size = w.heap.size + 2 ∧ Below w.heap.size w W ∧ Box2 W w.heap.size s0 s1 ∧ Box3 W (w.heap.size + 1) v0 v1 v2 := by
  refine ⟨_, rfl, by simp, ((Below.refl _ _).alloc (Nat.le_refl _) _).alloc (by simp) _, ⟨by simp; omega, ?_, ?_⟩, ?_⟩
  · rw [World.cell?_alloc_lt _ _ ⟨w.heap.size, 0, none⟩ (by simp)]; simp
  · rw [World.cell?_alloc_lt _ _ ⟨w.heap.size, 1, none⟩ (by simp)]; simp
  · have := box3_new (w.alloc (.cells #[s0, s1] T)) v0 v1 v2 U
    rwa [size_alloc] at this
set_option maxHeartbeats 2000000 in
theorem isam (w : World) (n c : Int) (v0 v1 v2 : Value) (r : Row) (hr : RowIs w v0 v1 v2 r) (hl : r.sz ≤ 1048576) :
    Calls Try.prog 106 #[.agg #[.int .i64 n, .int .i64 c], .agg #[v0, v1, v2]] w fun e w' => e = .returned (.bool (rok n c r)) ∧ Below w.heap.size w w' := by
  obtain ⟨a0, c0, a1, c1, rfl, rfl, rfl, i0, i1⟩ := hr
  unfold Row.sz at hl
  obtain ⟨W, hW, hsz, hB, bs, bx⟩ := boxes23 w (.int .i64 n) (.int .i64 c) (.slice a0 r.nums.length c0) (.slice a1 r.cats.length c1) (.int .i64 r.label) 30 45
  have HW : Hid ((w.alloc (.cells #[.int .i64 n, .int .i64 c] 30)).alloc (.cells #[.slice a0 r.nums.length c0, .slice a1 r.cats.length c1, .int .i64 r.label] 45) = W) := hW
  clear hW
  go_enter Try.func106, Try.ntmps106
  go_wp2_with fail
  rw [HW.out]
  clear HW
  refine (isch _ _ _).mono ?_
  rintro e w1 ⟨rfl, hB1⟩
  have bs := bs.below hB1
  have bx := bx.below hB1
  have hB := hB.trans (hB1.mono hB.size)
  clear hB1 hsz
  have i0 := i0.below hB
  have i1 := i1.below hB
  obtain ⟨_, cs0, cs1⟩ := bs
  obtain ⟨hbx, ⟨cx0, cx1, cx2⟩, _⟩ := id bx
  cases hs : sok n c
  · have HR : Hid (rok n c r = false) := rok_sok hs
    go_wp2
    go_ret
    exact ⟨by rw [HR.out]; rfl, hB⟩
  by_cases hn : (r.nums.length : Int) = n
  rotate_left
  · have HR : Hid (rok n c r = false) := rok_n hn
    have hn' : ((r.nums.length : Int) != n) = true := bne_iff_ne.2 hn
    clear hn
    go_wp2
    go_ret
    exact ⟨by rw [HR.out]; rfl, hB⟩
  have hn' : ((r.nums.length : Int) != n) = false := bne_eq_false_iff_eq.2 hn
  by_cases hc : (r.cats.length : Int) = c
  rotate_left
  · have HR : Hid (rok n c r = false) := rok_c hc
    have hc' : ((r.cats.length : Int) != c) = true := bne_iff_ne.2 hc
    clear hc hn
    go_wp2
    go_ret
    exact ⟨by rw [HR.out]; rfl, hB⟩
  have hc' : ((r.cats.length : Int) != c) = false := bne_eq_false_iff_eq.2 hc
  have HS : Hid (sok n c = true ∧ (r.nums.length : Int) = n ∧ (r.cats.length : Int) = c) := ⟨hs, hn, hc⟩
  clear hn hc
  go_wp2
  go_loop [31] (fun i => ∃ k : Nat, k ≤ r.nums.length ∧ i = .int .i64 k ∧ (r.nums.take k).all fok = true) (fun i => r.nums.length - (intOf i).toNat)
  case atStart => exact ⟨0, Nat.zero_le _, rfl, rfl⟩
  case round =>
    obtain ⟨k, hk, rfl, ha⟩ := hrel
    have HA : Hid ((r.nums.take k).all fok = true) := ha
    clear ha
    by_cases hlt : k < r.nums.length
    · rcases i0 with h0 | ⟨xb, xo, rfl, hxb, hxc⟩
      · rw [h0] at hlt; simp at hlt
      · have hcx := hxc k hlt
        clear hxc
        cases hq : fok r.nums[k]
        · have HR : Hid (rok n c r = false) := rok_nok (pre_no fok r.nums k hlt hq)
          go_wp2_with (go_at_call 42; refine (iok_any _ _).mono ?_; rintro e w' ⟨rfl, hw'⟩; subst w')
          go_ret
          exact ⟨by rw [HR.out]; rfl, hB⟩
        · have HN : Hid ((r.nums.take (k + 1)).all fok = true) := pre_snoc fok r.nums k hlt HA.out hq
          go_wp2_with (go_at_call 42; refine (iok_any _ _).mono ?_; rintro e w' ⟨rfl, hw'⟩; subst w')
          go_round
          case rel => exact ⟨k + 1, by omega, by go_num, HN.out⟩
          case measure => simp [intOf]; omega
    · have HN : Hid (nok r.nums = true) := pre_end fok r.nums k hlt HA.out
      clear HA
      go_wp2
      go_loopw [42] (fun i wr => ∃ k : Nat, k ≤ r.cats.length ∧ i = .int .i64 k ∧ (r.cats.take k).all wok = true ∧ Below w1.heap.size w1 wr) (fun i _ => r.cats.length - (intOf i).toNat)
      case atStart => exact ⟨0, Nat.zero_le _, rfl, rfl, Below.refl _ _⟩
      case round =>
        obtain ⟨k, hk, rfl, ha, hBr⟩ := hrel
        have HA : Hid ((r.cats.take k).all wok = true) := ha
        clear ha
        by_cases hlt : k < r.cats.length
        · rcases i1.below hBr with h0 | ⟨xb, xo, rfl, hxb, hxc⟩
          · rw [h0] at hlt; simp at hlt
          · have hcx := hxc k hlt
            have hwl := word_le r.cats k hlt
            clear hxc
            go_wp2_with fail
            refine (iword _ _ (by omega)).mono ?_
            rintro e w2 ⟨rfl, hB2⟩
            have hBr := hBr.trans (hB2.mono hBr.size)
            have hB := hB.trans (hBr.mono hB.size)
            clear hB2
            cases hq : wok r.cats[k]
            · have HR : Hid (rok n c r = false) := rok_cok (pre_no wok r.cats k hlt hq)
              go_wp2
              go_ret
              exact ⟨by rw [HR.out]; rfl, hB⟩
            · have HC : Hid ((r.cats.take (k + 1)).all wok = true) := pre_snoc wok r.cats k hlt HA.out hq
              go_wp2
              go_roundw
              case rel => exact ⟨k + 1, by omega, by go_num, HC.out, hBr⟩
              case measure => simp [intOf]; omega
        · have HC : Hid (cok r.cats = true) := pre_end wok r.cats k hlt HA.out
          have hB := hB.trans (hBr.mono hB.size)
          have bx := bx.below hBr
          obtain ⟨_, ⟨cx0, cx1, cx2⟩, _⟩ := bx
          have HR : Hid (rok n c r = lok r.label) := by
            cases hq : lok r.label
            · exact rok_lok hq
            · exact rok_all HS.out.1 HS.out.2.1 HS.out.2.2 HN.out HC.out hq
          clear hBr HA
          go_wp2_with (go_at_call 109; refine (ilab _ _).mono ?_; rintro e w' ⟨rfl, hw'⟩; subst w')
          go_ret
          exact ⟨by rw [HR.out]; rfl, hB⟩
def tok (n c : Int) (rs : List Row) : Bool := sok n c && (decide (rs.length ≤ 40) && rs.all (rok n c))
theorem tok_sok {n c : Int} {rs : List Row} (h : sok n c = false) : tok n c rs = false := by simp [tok, h]
theorem tok_len {n c : Int} {rs : List Row} (h : ¬ rs.length ≤ 40) : tok n c rs = false := by simp [tok, h]
theorem tok_row {n c : Int} {rs : List Row} (h : rs.all (rok n c) = false) : tok n c rs = false := by unfold tok; rw [h]; simp
theorem tok_all {n c : Int} {rs : List Row} (h0 : sok n c = true) (h1 : rs.length ≤ 40) (h2 : rs.all (rok n c) = true) : tok n c rs = true := by unfold tok; rw [h0, h2]; simp [h1]
theorem tok_iff {n c : Int} {rs : List Row} : tok n c rs = true ↔ sok n c = true ∧ rs.length ≤ 40 ∧ rs.all (rok n c) = true := by unfold tok; simp
theorem box3_new' (w : World) (v0 v1 v2 : Value) (T : TypeId) : ∃ W, w.alloc (.cells #[v0, v1, v2] T) = W ∧ W.heap.size = w.heap.size + 1 ∧ Below w.heap.size w W ∧ Box3 W w.heap.size v0 v1 v2 :=
  ⟨_, rfl, by simp, (Below.refl _ _).alloc (Nat.le_refl _) _, box3_new _ _ _ _ _⟩
set_option maxHeartbeats 2000000 in
theorem itab (w : World) (n c : Int) (a : Option Addr) (cap : Nat) (rs : List Row) (hx : IsR w a rs) (hl : rs.length + szR rs ≤ 1048576) :
    Calls Try.prog 100 #[.agg #[.int .i64 n, .int .i64 c, .slice a rs.length cap]] w fun e w' => e = .returned (.bool (tok n c rs)) ∧ Below w.heap.size w w' := by
  obtain ⟨W, hW, hsz, hB, bx⟩ := box3_new' w (.int .i64 n) (.int .i64 c) (.slice a rs.length cap) 106
  have HW : Hid (w.alloc (.cells #[.int .i64 n, .int .i64 c, .slice a rs.length cap] 106) = W) := hW
  clear hW
  go_enter Try.func100, Try.ntmps100
  go_wp2_with fail
  rw [HW.out]
  clear HW
  refine (isch _ _ _).mono ?_
  rintro e w1 ⟨rfl, hB1⟩
  have bx := bx.below hB1
  have hB := hB.trans (hB1.mono hB.size)
  clear hB1 hsz
  have hx := hx.below hB
  obtain ⟨hbx, ⟨cx0, cx1, cx2⟩, _⟩ := id bx
  cases hs : sok n c
  · have HR : Hid (tok n c rs = false) := tok_sok hs
    go_wp2
    go_ret
    exact ⟨by rw [HR.out]; rfl, hB⟩
  by_cases hn : rs.length ≤ 40
  rotate_left
  · have HR : Hid (tok n c rs = false) := tok_len hn
    have hn' : (40 : Int) < rs.length := by omega
    clear hn
    go_wp2
    go_ret
    exact ⟨by rw [HR.out]; rfl, hB⟩
  have hn' : ¬ (40 : Int) < rs.length := by omega
  have HS : Hid (sok n c = true) := hs
  clear hs
  go_wp2
  go_loopw [18] (fun i wr => ∃ k : Nat, k ≤ rs.length ∧ i = .int .i64 k ∧ (rs.take k).all (rok n c) = true ∧ Below w1.heap.size w1 wr) (fun i _ => rs.length - (intOf i).toNat)
  case atStart => exact ⟨0, Nat.zero_le _, rfl, rfl, Below.refl _ _⟩
  case round =>
    obtain ⟨k, hk, rfl, ha, hBr⟩ := hrel
    have HA : Hid ((rs.take k).all (rok n c) = true) := ha
    clear ha
    by_cases hlt : k < rs.length
    · rcases hx.below hBr with h0 | ⟨xb, xo, rfl, hxb, hxc⟩
      · rw [h0] at hlt; simp at hlt
      · obtain ⟨v0, v1, v2, ⟨d0, d1, d2⟩, hr⟩ := hxc k hlt
        have hz := szR_at rs k hlt
        have bxr := bx.below hBr
        obtain ⟨_, ⟨cx0, cx1, cx2⟩, _⟩ := id bxr
        clear hxc
        have hr' := hr
        obtain ⟨a0, q0, a1, q1, rfl, rfl, rfl, _, _⟩ := hr'
        go_wp2_with fail
        have hBa : Below wr.heap.size wr (wr.alloc (.cells #[.slice a0 rs[k].nums.length q0, .slice a1 rs[k].cats.length q1, .int .i64 rs[k].label] 45)) := (Below.refl _ _).alloc (Nat.le_refl _) _
        refine (isam _ _ _ _ _ _ rs[k] (hr.below hBa) (by omega)).mono ?_
        rintro e w2 ⟨rfl, hB2⟩
        have hB2 := hBa.trans (hB2.mono hBa.size)
        have hBr := hBr.trans (hB2.mono hBr.size)
        have hB := hB.trans (hBr.mono hB.size)
        clear hB2 hBa hr d0 d1 d2
        cases hq : rok n c rs[k]
        · have HR : Hid (tok n c rs = false) := tok_row (pre_no _ rs k hlt hq)
          go_wp2
          go_ret
          exact ⟨by rw [HR.out]; rfl, hB⟩
        · have HN : Hid ((rs.take (k + 1)).all (rok n c) = true) := pre_snoc _ rs k hlt HA.out hq
          go_wp2
          go_roundw
          case rel => exact ⟨k + 1, by omega, by go_num, HN.out, hBr⟩
          case measure => simp [intOf]; omega
    · have HR : Hid (tok n c rs = true) := tok_all HS.out hn (pre_end _ rs k hlt HA.out)
      have hB := hB.trans (hBr.mono hB.size)
      go_wp2
      go_ret
      exact ⟨by rw [HR.out]; rfl, hB⟩
end Go.Proofs.Ytkiddmbenepfjaa.Tk
