/-
  Contracts that the proof leans on, put together in the order in which they build.
-/
import Derived.Test.YtifemdjookmboaaGreatDoorPart3
import Derived.Deep.DeepMust
import Derived.Deep.RegionWith
import Derived.Deep.RegionHeld3
import Derived.Deep.RegionHeldLaw
/-
  Which rows and tables are right: contracts of SampleOk and TableOk, of the program and of its model, over the plain functions 'rok', 'tok'.
-/
namespace Go.Proofs.YtifemdjookmboaaGreatDoor.Tk
set_option maxRecDepth 20000
open Go.RowKit
open Go.Proofs.YtifemdjookmboaaGreatDoor.Tb
open Go.Proofs.YtifemdjookmboaaGreatDoor.Li (ret_bool btw between_any)

def nok (xs : List Int) : Bool := xs.all fok
def cok (ws : List ByteArray) : Bool := ws.all wok
def rok (n c : Int) (r : Row) : Bool := sok n c && (decide ((r.nums.length : Int) = n) && (decide ((r.cats.length : Int) = c) && (nok r.nums && (cok r.cats && lok r.label))))
theorem rok_sok {n c : Int} {r : Row} (h : sok n c = false) : rok n c r = false := by simp [rok, h]
theorem rok_n {n c : Int} {r : Row} (h : ¬ (r.nums.length : Int) = n) : rok n c r = false := by simp [rok, h]
theorem rok_c {n c : Int} {r : Row} (h : ¬ (r.cats.length : Int) = c) : rok n c r = false := by simp [rok, h]
theorem rok_nok {n c : Int} {r : Row} (h : nok r.nums = false) : rok n c r = false := by simp [rok, h]
theorem rok_cok {n c : Int} {r : Row} (h : cok r.cats = false) : rok n c r = false := by simp [rok, h]
theorem rok_lok {n c : Int} {r : Row} (h : lok r.label = false) : rok n c r = false := by simp [rok, h]
theorem rok_all {n c : Int} {r : Row} (h0 : sok n c = true) (h1 : (r.nums.length : Int) = n) (h2 : (r.cats.length : Int) = c) (h3 : nok r.nums = true) (h4 : cok r.cats = true) (h5 : lok r.label = true) : rok n c r = true := by
  simp [rok, h0, h1, h2, h3, h4, h5]
theorem rok_iff {n c : Int} {r : Row} : rok n c r = true ↔ sok n c = true ∧ (r.nums.length : Int) = n ∧ (r.cats.length : Int) = c ∧ nok r.nums = true ∧ cok r.cats = true ∧ lok r.label = true := by
  simp [rok]
theorem pre_snoc {α : Type} (p : α → Bool) (xs : List α) (k : Nat) (h : k < xs.length) (ha : (xs.take k).all p = true) (hb : p xs[k] = true) : (xs.take (k + 1)).all p = true := by
  rw [List.take_succ_eq_append_getElem h]; simp only [List.all_append, ha, List.all_cons, hb, List.all_nil, Bool.and_true]
theorem pre_no {α : Type} (p : α → Bool) (xs : List α) (k : Nat) (h : k < xs.length) (hb : p xs[k] = false) : xs.all p = false := by
  cases e : xs.all p
  · rfl
  · have := List.all_eq_true.1 e _ (List.getElem_mem h)
    rw [hb] at this; cases this
theorem pre_end {α : Type} (p : α → Bool) (xs : List α) (k : Nat) (h : ¬ k < xs.length) (ha : (xs.take k).all p = true) : xs.all p = true := by
  rwa [List.take_of_length_le (by omega)] at ha
theorem word_le (ws : List ByteArray) (k : Nat) (h : k < ws.length) : ws[k].size ≤ lets ws := by
  have h1 := lets_take ws k h
  have h2 := lets_le ws (k + 1)
  omega
/-- A variable of two cells. -/
def Box2 (w : World) (b : Nat) (v0 v1 : Value) : Prop :=
  b < w.heap.size ∧ w.cell? ⟨b, 0, none⟩ = some v0 ∧ w.cell? ⟨b, 1, none⟩ = some v1
theorem Box2.below {w w1 : World} {b : Nat} {v0 v1 : Value} (h : Box2 w b v0 v1) (hB : Below w.heap.size w w1) : Box2 w1 b v0 v1 := by
  obtain ⟨hlt, c0, c1⟩ := h
  exact ⟨Nat.lt_of_lt_of_le hlt hB.size, (hB.cell (by exact hlt)).trans c0, (hB.cell (by exact hlt)).trans c1⟩
theorem boxes23 (w : World) (s0 s1 v0 v1 v2 : Value) (T U : TypeId) : ∃ W, (w.alloc (.cells #[s0, s1] T)).alloc (.cells #[v0, v1, v2] U) = W ∧ W.heap.size = w.heap.size + 2 ∧ Below w.heap.size w W ∧ Box2 W w.heap.size s0 s1 ∧ Box3 W (w.heap.size + 1) v0 v1 v2 := by
  refine ⟨_, rfl, by simp, ((Below.refl _ _).alloc (Nat.le_refl _) _).alloc (by simp) _, ⟨by simp; omega, ?_, ?_⟩, ?_⟩
  · rw [World.cell?_alloc_lt _ _ ⟨w.heap.size, 0, none⟩ (by simp)]; simp
  · rw [World.cell?_alloc_lt _ _ ⟨w.heap.size, 1, none⟩ (by simp)]; simp
  · have := box3_new (w.alloc (.cells #[s0, s1] T)) v0 v1 v2 U
    rwa [size_alloc] at this
set_option maxHeartbeats 2000000 in
theorem isam (w : World) (n c : Int) (v0 v1 v2 : Value) (r : Row) (hr : RowIs w v0 v1 v2 r) (hl : r.sz ≤ 1048576) :
    Calls Tryz.prog 125 #[.agg #[.int .i64 n, .int .i64 c], .agg #[v0, v1, v2]] w fun e w' => e = .returned (.bool (rok n c r)) ∧ Below w.heap.size w w' := by
  obtain ⟨a0, c0, a1, c1, rfl, rfl, rfl, i0, i1⟩ := hr
  unfold Row.sz at hl
  obtain ⟨W, hW, hsz, hB, bs, bx⟩ := boxes23 w (.int .i64 n) (.int .i64 c) (.slice a0 r.nums.length c0) (.slice a1 r.cats.length c1) (.int .i64 r.label) 23 150
  have HW : Hid ((w.alloc (.cells #[.int .i64 n, .int .i64 c] 23)).alloc (.cells #[.slice a0 r.nums.length c0, .slice a1 r.cats.length c1, .int .i64 r.label] 150) = W) := hW
  clear hW
  go_enter Tryz.func125, Tryz.ntmps125
  go_wp2_with fail
  rw [HW.out]
  clear HW
  refine (isch _ _ _).mono ?_
  rintro e w1 ⟨rfl, hB1⟩
  have bs := bs.below hB1
  have bx := bx.below hB1
  have hB := hB.trans (hB1.mono hB.size)
  clear hB1 hsz
  have i0 := i0.below hB
  have i1 := i1.below hB
  obtain ⟨_, cs0, cs1⟩ := bs
  obtain ⟨hbx, ⟨cx0, cx1, cx2⟩, _⟩ := id bx
  cases hs : sok n c
  · have HR : Hid (rok n c r = false) := rok_sok hs
    go_wp2
    go_ret
    exact ⟨by rw [HR.out]; rfl, hB⟩
  by_cases hn : (r.nums.length : Int) = n
  rotate_left
  · have HR : Hid (rok n c r = false) := rok_n hn
    have hn' : ((r.nums.length : Int) != n) = true := bne_iff_ne.2 hn
    clear hn
    go_wp2
    go_ret
    exact ⟨by rw [HR.out]; rfl, hB⟩
  have hn' : ((r.nums.length : Int) != n) = false := bne_eq_false_iff_eq.2 hn
  by_cases hc : (r.cats.length : Int) = c
  rotate_left
  · have HR : Hid (rok n c r = false) := rok_c hc
    have hc' : ((r.cats.length : Int) != c) = true := bne_iff_ne.2 hc
    clear hc hn
    go_wp2
    go_ret
    exact ⟨by rw [HR.out]; rfl, hB⟩
  have hc' : ((r.cats.length : Int) != c) = false := bne_eq_false_iff_eq.2 hc
  have HS : Hid (sok n c = true ∧ (r.nums.length : Int) = n ∧ (r.cats.length : Int) = c) := ⟨hs, hn, hc⟩
  clear hn hc
  go_wp2
  go_loop [31] (fun i => ∃ k : Nat, k ≤ r.nums.length ∧ i = .int .i64 k ∧ (r.nums.take k).all fok = true) (fun i => r.nums.length - (intOf i).toNat)
  case atStart => exact ⟨0, Nat.zero_le _, rfl, rfl⟩
  case round =>
    obtain ⟨k, hk, rfl, ha⟩ := hrel
    have HA : Hid ((r.nums.take k).all fok = true) := ha
    clear ha
    by_cases hlt : k < r.nums.length
    · rcases i0 with h0 | ⟨xb, xo, rfl, hxb, hxc⟩
      · rw [h0] at hlt; simp at hlt
      · have hcx := hxc k hlt
        clear hxc
        cases hq : fok r.nums[k]
        · have HR : Hid (rok n c r = false) := rok_nok (pre_no fok r.nums k hlt hq)
          go_wp2_with (go_at_call 58; refine (iok_any _ _).mono ?_; rintro e w' ⟨rfl, hw'⟩; subst w')
          go_ret
          exact ⟨by rw [HR.out]; rfl, hB⟩
        · have HN : Hid ((r.nums.take (k + 1)).all fok = true) := pre_snoc fok r.nums k hlt HA.out hq
          go_wp2_with (go_at_call 58; refine (iok_any _ _).mono ?_; rintro e w' ⟨rfl, hw'⟩; subst w')
          go_round
          case rel => exact ⟨k + 1, by omega, by go_num, HN.out⟩
          case measure => simp [intOf]; omega
    · have HN : Hid (nok r.nums = true) := pre_end fok r.nums k hlt HA.out
      clear HA
      go_wp2
      go_loopw [42] (fun i wr => ∃ k : Nat, k ≤ r.cats.length ∧ i = .int .i64 k ∧ (r.cats.take k).all wok = true ∧ Below w1.heap.size w1 wr) (fun i _ => r.cats.length - (intOf i).toNat)
      case atStart => exact ⟨0, Nat.zero_le _, rfl, rfl, Below.refl _ _⟩
      case round =>
        obtain ⟨k, hk, rfl, ha, hBr⟩ := hrel
        have HA : Hid ((r.cats.take k).all wok = true) := ha
        clear ha
        by_cases hlt : k < r.cats.length
        · rcases i1.below hBr with h0 | ⟨xb, xo, rfl, hxb, hxc⟩
          · rw [h0] at hlt; simp at hlt
          · have hcx := hxc k hlt
            have hwl := word_le r.cats k hlt
            clear hxc
            go_wp2_with fail
            refine (iword _ _ (by omega)).mono ?_
            rintro e w2 ⟨rfl, hB2⟩
            have hBr := hBr.trans (hB2.mono hBr.size)
            have hB := hB.trans (hBr.mono hB.size)
            clear hB2
            cases hq : wok r.cats[k]
            · have HR : Hid (rok n c r = false) := rok_cok (pre_no wok r.cats k hlt hq)
              go_wp2
              go_ret
              exact ⟨by rw [HR.out]; rfl, hB⟩
            · have HC : Hid ((r.cats.take (k + 1)).all wok = true) := pre_snoc wok r.cats k hlt HA.out hq
              go_wp2
              go_roundw
              case rel => exact ⟨k + 1, by omega, by go_num, HC.out, hBr⟩
              case measure => simp [intOf]; omega
        · have HC : Hid (cok r.cats = true) := pre_end wok r.cats k hlt HA.out
          have hB := hB.trans (hBr.mono hB.size)
          have bx := bx.below hBr
          obtain ⟨_, ⟨cx0, cx1, cx2⟩, _⟩ := bx
          have HR : Hid (rok n c r = lok r.label) := by
            cases hq : lok r.label
            · exact rok_lok hq
            · exact rok_all HS.out.1 HS.out.2.1 HS.out.2.2 HN.out HC.out hq
          clear hBr HA
          go_wp2_with (go_at_call 131; refine (ilab _ _).mono ?_; rintro e w' ⟨rfl, hw'⟩; subst w')
          go_ret
          exact ⟨by rw [HR.out]; rfl, hB⟩
def tok (n c : Int) (rs : List Row) : Bool := sok n c && (decide (rs.length ≤ 40) && rs.all (rok n c))
theorem tok_sok {n c : Int} {rs : List Row} (h : sok n c = false) : tok n c rs = false := by simp [tok, h]
theorem tok_len {n c : Int} {rs : List Row} (h : ¬ rs.length ≤ 40) : tok n c rs = false := by simp [tok, h]
theorem tok_row {n c : Int} {rs : List Row} (h : rs.all (rok n c) = false) : tok n c rs = false := by unfold tok; rw [h]; simp
theorem tok_all {n c : Int} {rs : List Row} (h0 : sok n c = true) (h1 : rs.length ≤ 40) (h2 : rs.all (rok n c) = true) : tok n c rs = true := by unfold tok; rw [h0, h2]; simp [h1]
theorem tok_iff {n c : Int} {rs : List Row} : tok n c rs = true ↔ sok n c = true ∧ rs.length ≤ 40 ∧ rs.all (rok n c) = true := by unfold tok; simp
theorem box3_new' (w : World) (v0 v1 v2 : Value) (T : TypeId) : ∃ W, w.alloc (.cells #[v0, v1, v2] T) = W ∧ W.heap.size = w.heap.size + 1 ∧ Below w.heap.size w W ∧ Box3 W w.heap.size v0 v1 v2 :=
  ⟨_, rfl, by simp, (Below.refl _ _).alloc (Nat.le_refl _) _, box3_new _ _ _ _ _⟩
set_option maxHeartbeats 2000000 in
theorem itab (w : World) (n c : Int) (a : Option Addr) (cap : Nat) (rs : List Row) (hx : IsR w a rs) (hl : rs.length + szR rs ≤ 1048576) :
    Calls Tryz.prog 118 #[.agg #[.int .i64 n, .int .i64 c, .slice a rs.length cap]] w fun e w' => e = .returned (.bool (tok n c rs)) ∧ Below w.heap.size w w' := by
  obtain ⟨W, hW, hsz, hB, bx⟩ := box3_new' w (.int .i64 n) (.int .i64 c) (.slice a rs.length cap) 111
  have HW : Hid (w.alloc (.cells #[.int .i64 n, .int .i64 c, .slice a rs.length cap] 111) = W) := hW
  clear hW
  go_enter Tryz.func118, Tryz.ntmps118
  go_wp2_with fail
  rw [HW.out]
  clear HW
  refine (isch _ _ _).mono ?_
  rintro e w1 ⟨rfl, hB1⟩
  have bx := bx.below hB1
  have hB := hB.trans (hB1.mono hB.size)
  clear hB1 hsz
  have hx := hx.below hB
  obtain ⟨hbx, ⟨cx0, cx1, cx2⟩, _⟩ := id bx
  cases hs : sok n c
  · have HR : Hid (tok n c rs = false) := tok_sok hs
    go_wp2
    go_ret
    exact ⟨by rw [HR.out]; rfl, hB⟩
  by_cases hn : rs.length ≤ 40
  rotate_left
  · have HR : Hid (tok n c rs = false) := tok_len hn
    have hn' : (40 : Int) < rs.length := by omega
    clear hn
    go_wp2
    go_ret
    exact ⟨by rw [HR.out]; rfl, hB⟩
  have hn' : ¬ (40 : Int) < rs.length := by omega
  have HS : Hid (sok n c = true) := hs
  clear hs
  go_wp2
  go_loopw [18] (fun i wr => ∃ k : Nat, k ≤ rs.length ∧ i = .int .i64 k ∧ (rs.take k).all (rok n c) = true ∧ Below w1.heap.size w1 wr) (fun i _ => rs.length - (intOf i).toNat)
  case atStart => exact ⟨0, Nat.zero_le _, rfl, rfl, Below.refl _ _⟩
  case round =>
    obtain ⟨k, hk, rfl, ha, hBr⟩ := hrel
    have HA : Hid ((rs.take k).all (rok n c) = true) := ha
    clear ha
    by_cases hlt : k < rs.length
    · rcases hx.below hBr with h0 | ⟨xb, xo, rfl, hxb, hxc⟩
      · rw [h0] at hlt; simp at hlt
      · obtain ⟨v0, v1, v2, ⟨d0, d1, d2⟩, hr⟩ := hxc k hlt
        have hz := szR_at rs k hlt
        have bxr := bx.below hBr
        obtain ⟨_, ⟨cx0, cx1, cx2⟩, _⟩ := id bxr
        clear hxc
        have hr' := hr
        obtain ⟨a0, q0, a1, q1, rfl, rfl, rfl, _, _⟩ := hr'
        go_wp2_with fail
        have hBa : Below wr.heap.size wr (wr.alloc (.cells #[.slice a0 rs[k].nums.length q0, .slice a1 rs[k].cats.length q1, .int .i64 rs[k].label] 150)) := (Below.refl _ _).alloc (Nat.le_refl _) _
        refine (isam _ _ _ _ _ _ rs[k] (hr.below hBa) (by omega)).mono ?_
        rintro e w2 ⟨rfl, hB2⟩
        have hB2 := hBa.trans (hB2.mono hBa.size)
        have hBr := hBr.trans (hB2.mono hBr.size)
        have hB := hB.trans (hBr.mono hB.size)
        clear hB2 hBa hr d0 d1 d2
        cases hq : rok n c rs[k]
        · have HR : Hid (tok n c rs = false) := tok_row (pre_no _ rs k hlt hq)
          go_wp2
          go_ret
          exact ⟨by rw [HR.out]; rfl, hB⟩
        · have HN : Hid ((rs.take (k + 1)).all (rok n c) = true) := pre_snoc _ rs k hlt HA.out hq
          go_wp2
          go_roundw
          case rel => exact ⟨k + 1, by omega, by go_num, HN.out, hBr⟩
          case measure => simp [intOf]; omega
    · have HR : Hid (tok n c rs = true) := tok_all HS.out hn (pre_end _ rs k hlt HA.out)
      have hB := hB.trans (hBr.mono hB.size)
      go_wp2
      go_ret
      exact ⟨by rw [HR.out]; rfl, hB⟩
end Go.Proofs.YtifemdjookmboaaGreatDoor.Tk
/-
  Small laws for the walks over tables: frames behind a draw; a row of the call's own; a box of two cells.
-/
namespace Go.Proofs.YtifemdjookmboaaGreatDoor.Tk
set_option maxRecDepth 20000
open Go.RowKit
open Go.Proofs.YtifemdjookmboaaGreatDoor.Tb
/-- A draw turns nothing in memory. -/
theorem undrew {w w1 : World} (h : Below w.drew.heap.size w.drew w1) : Below w.heap.size w w1 := ⟨h.os, h.tape, h.output, h.size, h.block⟩
theorem rowIs_own {w : World} {B : Nat} {u0 u1 : Value} {r : Row} (o0 : Li.Own w B u0 r.nums) (o1 : Ls.Own w B u1 r.cats) : RowIs w u0 u1 (.int .i64 r.label) r := by
  obtain ⟨a0, q0, e0, i0⟩ := o0.isl
  obtain ⟨a1, q1, e1, i1⟩ := o1.iss
  exact ⟨a0, q0, a1, q1, e0, e1, rfl, i0, i1⟩
end Go.Proofs.YtifemdjookmboaaGreatDoor.Tk
/-
  Marks in a table of the call's own: what stands in it afterwards; nothing outside its blocks turns; whether the marks are held.
-/
namespace Go.Proofs.YtifemdjookmboaaGreatDoor.Mk
set_option maxRecDepth 100000
open Go.RowKit
open Go.Proofs.YtifemdjookmboaaGreatDoor.Tb
open Go.Proofs.YtifemdjookmboaaGreatDoor.Li (ret_bool grown_refl grown_trans grown_set below_none)

/-- Outside the blocks lo .. hi - 1 nothing that was there has turned. -/
structure Win (lo hi : Nat) (w w' : World) : Prop where
  os : w'.os = w.os
  tape : w'.tape = w.tape
  output : w'.output = w.output
  size : w.heap.size ≤ w'.heap.size
  block : ∀ k, k < w.heap.size → (k < lo ∨ hi ≤ k) → w'.heap[k]? = w.heap[k]?
theorem Win.refl (lo hi : Nat) (w : World) : Win lo hi w w := ⟨rfl, rfl, rfl, Nat.le_refl _, fun _ _ _ => rfl⟩
theorem Win.trans {lo hi : Nat} {a b c : World} (h : Win lo hi a b) (h' : Win lo hi b c) : Win lo hi a c :=
  ⟨h'.os.trans h.os, h'.tape.trans h.tape, h'.output.trans h.output, Nat.le_trans h.size h'.size, fun k hk ho => (h'.block k (Nat.lt_of_lt_of_le hk h.size) ho).trans (h.block k hk ho)⟩
theorem Win.grown {lo hi : Nat} {a w w' : World} {row : Option Nat} (h : Win lo hi a w) (hg : w.grownBy w' row) (hr : ∀ k, row = some k → lo ≤ k ∧ k < hi) : Win lo hi a w' :=
  h.trans ⟨hg.os, hg.tape, hg.output, hg.size, fun k hk ho => hg.block k hk (fun e => by have := hr k e.symm; omega)⟩
theorem Win.below {lo hi : Nat} {a w w' : World} (h : Win lo hi a w) (hB : Below w.heap.size w w') : Win lo hi a w' :=
  h.trans ⟨hB.os, hB.tape, hB.output, hB.size, fun k hk _ => hB.block k hk⟩
theorem Win.toBelow {lo hi : Nat} {w w' : World} (h : Win lo hi w w') (hlo : lo ≤ w.heap.size) : Below lo w w' :=
  ⟨h.os, h.tape, h.output, h.size, fun k hk => h.block k (by omega) (.inl hk)⟩
theorem Win.own {lo hi B : Nat} {w w' : World} {v : Value} {xs : List Int} (h : Win lo hi w w') (o : Li.Own w B v xs) (hB : ∀ k, v.ownBlock = some k → k < lo ∨ hi ≤ k) : Li.Own w' B v xs :=
  ownsRow_at o fun k e => h.block k (o.ge k e).2 (hB k e)
theorem Win.sown {lo hi B : Nat} {w w' : World} {v : Value} {xs : List ByteArray} (h : Win lo hi w w') (o : Ls.Own w B v xs) (hB : ∀ k, v.ownBlock = some k → k < lo ∨ hi ≤ k) : Ls.Own w' B v xs :=
  ownsRow_at o fun k e => h.block k (o.ge k e).2 (hB k e)
/-- A row of the table is written over: its numbers, its words, its label. -/
theorem own_marked {wr w1 w2 : World} {lo hi g i cap : Nat} {v : Value} {xs : List Value} {V0 V1 : Nat → Value} {l : List Row} (hil : i < l.length)
    (hg : ∀ k, v.ownBlock = some k → k = g ∧ k < hi) (hvg : v.ownBlock = some g) (hown : wr.ownsRow lo 150 3 v l.length xs) (hn : Nest wr lo g V0 V1 xs l l.length)
    (hh : ∀ i, i < l.length → (∀ b, (V0 i).ownBlock = some b → b < hi) ∧ (∀ b, (V1 i).ownBlock = some b → b < hi))
    {ys : List Int} {zs : List ByteArray} {lab : Int} (o0 : Li.Own w1 lo (V0 i) ys) (g1 : wr.grownBy w1 (V0 i).ownBlock) (o1 : Ls.Own w2 lo (V1 i) zs) (g2 : w1.grownBy w2 (V1 i).ownBlock)
    (hv : v = .slice (some ⟨g, 0, none⟩) l.length cap) :
    OwnT (w2.setCell ⟨g, i * 3 + 2, none⟩ (.int .i64 lab)) lo hi v (l.set i ⟨ys, zs, lab⟩) := by
  subst hv
  obtain ⟨hcells, hsp1, hsp2⟩ := hn
  have ga : ∀ (u : Value), u.ownBlock ≠ some g → ∀ {w w' : World} (k : Nat), w.grownBy w' u.ownBlock → k = g → k < w.heap.size → w'.heap[k]? = w.heap[k]? := fun u hu w w' k hgr e hk => hgr.block k hk (by subst e; exact fun e' => hu e'.symm)
  have hgl : g < wr.heap.size := (World.ownsRow.lt hown g rfl).2
  have own1 : w1.ownsRow lo 150 3 (.slice (some ⟨g, 0, none⟩) l.length cap) l.length xs := ownsRow_at hown fun k e => ga _ (hsp1 i hil).1 k g1 (hg k e).1 (World.ownsRow.lt hown k e).2
  have own2 : w2.ownsRow lo 150 3 (.slice (some ⟨g, 0, none⟩) l.length cap) l.length xs := ownsRow_at own1 fun k e => ga _ (hsp1 i hil).2 k g2 (hg k e).1 (World.ownsRow.lt own1 k e).2
  have hxl := hown.1
  have st := (World.ownsRow.stored own2 (i * 3 + 2) (.int .i64 lab)).1
  have off : ∀ {w w' : World} (u u' : Value) (k : Nat), w.grownBy w' u'.ownBlock → apart u u' → u.ownBlock = some k → k < w.heap.size → w'.heap[k]? = w.heap[k]? := fun u u' k hgr ha e hk => hgr.block k hk (by
    rcases ha with h | h
    · rw [e] at h; cases h
    · rw [← e]; exact h)
  have off' : ∀ {w w' : World} (u u' : Value) (k : Nat), w.grownBy w' u'.ownBlock → apart u' u → u.ownBlock = some k → k < w.heap.size → w'.heap[k]? = w.heap[k]? := fun u u' k hgr ha e hk => hgr.block k hk (by
    rcases ha with h | h
    · rw [h]; simp
    · rw [← e]; exact fun e' => h e'.symm)
  have tail : ∀ (u : Value) (k : Nat), u.ownBlock ≠ some g → u.ownBlock = some k → (w2.setCell ⟨g, i * 3 + 2, none⟩ (.int .i64 lab)).heap[k]? = w2.heap[k]? := fun u k hu e => Below.heap_setCell _ _ _ _ (by simp only; rintro rfl; exact hu e)
  refine ⟨g, xs.set (i * 3 + 2) (.int .i64 lab), V0, V1, fun k e => hg k e, ?_, ⟨fun j hj hjk => ?_, ?_⟩, ?_⟩
  · rw [List.length_set]; exact st
  · have hj' : j < l.length := by simpa using hj
    by_cases e : j = i
    · subst e
      obtain ⟨⟨c0, c1, c2⟩, _, _⟩ := hcells j hj' hj'
      simp only [List.getElem_set_self]
      refine ⟨⟨?_, ?_, ?_⟩, ?_, ?_⟩
      · rw [List.getElem?_set, if_neg (by omega)]; exact c0
      · rw [List.getElem?_set, if_neg (by omega)]; exact c1
      · rw [List.getElem?_set, if_pos rfl, if_pos (by omega)]
      · have o0' : Li.Own w2 lo (V0 j) ys := ownsRow_at o0 fun k e => off _ _ k g2 (hsp2 j j hj' hj').2 e (o0.ge k e).2
        exact ownsRow_at o0' fun k e => tail _ k (hsp1 j hj').1 e
      · exact ownsRow_at o1 fun k e => tail _ k (hsp1 j hj').2 e
    · obtain ⟨⟨c0, c1, c2⟩, p0, p1⟩ := hcells j hj' hj'
      have el : (l.set i ⟨ys, zs, lab⟩)[j] = l[j] := List.getElem_set_ne (fun h => e h.symm) _
      rw [el]
      refine ⟨⟨?_, ?_, ?_⟩, ?_, ?_⟩
      · rw [List.getElem?_set, if_neg (by omega)]; exact c0
      · rw [List.getElem?_set, if_neg (by omega)]; exact c1
      · rw [List.getElem?_set, if_neg (by omega)]; exact c2
      · have q1 : Li.Own w1 lo (V0 j) l[j].nums := ownsRow_at p0 fun k ek => off _ _ k g1 ((hsp2 j i hj' hil).1 e).1 ek (p0.ge k ek).2
        have q2 : Li.Own w2 lo (V0 j) l[j].nums := ownsRow_at q1 fun k ek => off _ _ k g2 (hsp2 j i hj' hil).2 ek (q1.ge k ek).2
        exact ownsRow_at q2 fun k ek => tail _ k (hsp1 j hj').1 ek
      · have q1 : Ls.Own w1 lo (V1 j) l[j].cats := ownsRow_at p1 fun k ek => off' _ _ k g1 (hsp2 i j hil hj').2 ek (p1.ge k ek).2
        have q2 : Ls.Own w2 lo (V1 j) l[j].cats := ownsRow_at q1 fun k ek => off _ _ k g2 ((hsp2 j i hj' hil).1 e).2 ek (q1.ge k ek).2
        exact ownsRow_at q2 fun k ek => tail _ k (hsp1 j hj').2 ek
  · rw [List.length_set]; exact ⟨hsp1, hsp2⟩
  · rw [List.length_set]; exact hh
def wt (r : Row) : Nat := r.nums.length + r.cats.length + 1
def wts : List Row → Nat
  | [] => 0
  | r :: rs => wt r + wts rs
theorem wts_take (rs : List Row) (k : Nat) (h : k < rs.length) : wts (rs.take (k + 1)) = wts (rs.take k) + wt rs[k] := by
  induction rs generalizing k with
  | nil => simp at h
  | cons s r ih =>
    cases k with
    | zero => simp [wts]
    | succ k =>
      simp only [List.take_succ_cons, wts, List.getElem_cons_succ]
      rw [ih k (by simpa using h)]
      omega
theorem wts_le (rs : List Row) : wts rs ≤ rs.length + szR rs := by
  induction rs with
  | nil => simp [wts]
  | cons r rs ih => simp only [wts, wt, szR, Row.sz, List.length_cons]; omega
theorem wts_pre (rs : List Row) (k : Nat) : wts (rs.take k) ≤ wts rs := by
  induction rs generalizing k with
  | nil => simp
  | cons s r ih =>
    cases k with
    | zero => simp [wts]
    | succ k => simp only [List.take_succ_cons, wts]; have := ih k; omega
def mrow (k : Nat) (r : Row) : Row := ⟨Li.marks k r.nums.length, mtexts (k + r.nums.length) r.cats.length, ((k + r.nums.length + r.cats.length : Nat) : Int)⟩
def mrows (k : Nat) (rs : List Row) : List Row := rs.mapIdx fun j r => mrow (k + wts (rs.take j)) r
theorem mrows_length (k : Nat) (rs : List Row) : (mrows k rs).length = rs.length := by simp [mrows]
theorem mrows_get (k : Nat) (rs : List Row) (j : Nat) (h : j < (mrows k rs).length) : (mrows k rs)[j] = mrow (k + wts (rs.take j)) (rs[j]'(by rwa [mrows_length] at h)) := by simp [mrows]
/-- As far as i the rows are marked, from i on they are as they were. -/
def Half (k : Nat) (rs l : List Row) (i : Nat) : Prop := l.length = rs.length ∧ (∀ j, j < i → l[j]? = (mrows k rs)[j]?) ∧ ∀ j, i ≤ j → l[j]? = rs[j]?
theorem half_set {k : Nat} {rs l : List Row} {i : Nat} (h : Half k rs l i) (hi : i < rs.length) : Half k rs (l.set i (mrow (k + wts (rs.take i)) rs[i])) (i + 1) := by
  obtain ⟨hl, h1, h2⟩ := h
  refine ⟨by simpa using hl, fun j hj => ?_, fun j hj => ?_⟩
  · rw [List.getElem?_set]
    split
    · rename_i e; subst e
      rw [if_pos (by omega), List.getElem?_eq_getElem (by rw [mrows_length]; omega), mrows_get]
    · exact h1 j (by omega)
  · rw [List.getElem?_set, if_neg (by omega)]; exact h2 j (by omega)
theorem half_end {k : Nat} {rs l : List Row} {i : Nat} (h : Half k rs l i) (hi : ¬ i < rs.length) : l = mrows k rs := by
  apply List.ext_getElem?
  intro j
  by_cases hj : j < rs.length
  · exact h.2.1 j (by omega)
  · rw [List.getElem?_eq_none (by have := h.1; omega), List.getElem?_eq_none (by rw [mrows_length]; omega)]
theorem half_at {k : Nat} {rs l : List Row} {i : Nat} (h : Half k rs l i) (hi : i < rs.length) (hil : i < l.length) : l[i] = rs[i] := by
  have := h.2.2 i (Nat.le_refl _)
  rw [List.getElem?_eq_getElem hil, List.getElem?_eq_getElem hi] at this
  exact Option.some.inj this
end Go.Proofs.YtifemdjookmboaaGreatDoor.Mk
/-
  Rows as the laws and both texts hold them: what is read, what may be written, where it lies; contracts of the laws' own helpers over lists of lists.
-/
namespace Go.Proofs.YtifemdjookmboaaGreatDoor.Sv
open Go.RowKit
open Go.Proofs.YtifemdjookmboaaGreatDoor.Li (iv ret_bool ret_int below_none IsL)
open Go.Proofs.YtifemdjookmboaaGreatDoor.Tb (sub sub_yes sub_no)
set_option linter.unusedVariables false

/-- What was written lies in blocks of B alone. -/
structure Fr (B : Nat → Prop) (w w1 : World) : Prop where
  os : w1.os = w.os
  tape : w1.tape = w.tape
  output : w1.output = w.output
  size : w.heap.size ≤ w1.heap.size
  block : ∀ k, k < w.heap.size → ¬ B k → w1.heap[k]? = w.heap[k]?
theorem Fr.refl (B : Nat → Prop) (w : World) : Fr B w w := ⟨rfl, rfl, rfl, Nat.le_refl _, fun _ _ _ => rfl⟩
theorem Fr.trans {B : Nat → Prop} {w w1 w2 : World} (h : Fr B w w1) (h' : Fr B w1 w2) : Fr B w w2 :=
  ⟨h'.os.trans h.os, h'.tape.trans h.tape, h'.output.trans h.output, Nat.le_trans h.size h'.size, fun k hk hb => (h'.block k (Nat.lt_of_lt_of_le hk h.size) hb).trans (h.block k hk hb)⟩
theorem Fr.mono {B B' : Nat → Prop} {w w1 : World} (h : Fr B w w1) (hb : ∀ k, B k → B' k) : Fr B' w w1 := ⟨h.os, h.tape, h.output, h.size, fun k hk hn => h.block k hk (fun e => hn (hb k e))⟩
theorem fr_below {B : Nat → Prop} {w w1 : World} (h : Below w.heap.size w w1) : Fr B w w1 := ⟨h.os, h.tape, h.output, h.size, fun k hk _ => h.block k hk⟩
theorem fr_grown {B : Nat → Prop} {w w1 : World} {g : Nat} (h : w.grownBy w1 (some g)) (hg : B g) : Fr B w w1 := ⟨h.os, h.tape, h.output, h.size, fun k hk hn => h.block k hk (fun e => by cases e; exact hn hg)⟩
theorem Fr.bel {B : Nat → Prop} {w w1 : World} {n : Nat} (h : Fr B w w1) (hb : ∀ k, B k → n ≤ k) (hn : n ≤ w.heap.size) : Below n w w1 := ⟨h.os, h.tape, h.output, h.size, fun k hk => h.block k (by omega) (fun e => by have := hb k e; omega)⟩

/-- Cells that may be written, from offset off of block g on. -/
def Wr (w : World) (g off : Nat) (vs : List Value) : Prop := g < w.heap.size ∧ ∀ j (hj : j < vs.length), w.cell? ⟨g, off + j, none⟩ = some vs[j] ∧ w.frozen? ⟨g, off + j, none⟩ = false
theorem Wr.keptAt {w w1 : World} {g off : Nat} {vs : List Value} (h : Wr w g off vs) (hs : w.heap.size ≤ w1.heap.size) (hb : w1.heap[g]? = w.heap[g]?) : Wr w1 g off vs := by
  refine ⟨by have := h.1; omega, fun j hj => ⟨?_, ?_⟩⟩
  · rw [World.cell?_of_block (w := w) (a := ⟨g, off + j, none⟩) hb]; exact (h.2 j hj).1
  · rw [World.frozen?_of_block (w := w) (a := ⟨g, off + j, none⟩) hb]; exact (h.2 j hj).2
theorem Wr.set {w : World} {g off : Nat} {vs : List Value} (h : Wr w g off vs) (j : Nat) (hj : j < vs.length) (v : Value) : Wr (w.setCell ⟨g, off + j, none⟩ v) g off (vs.set j v) := by
  refine ⟨by simpa [World.setCell] using h.1, fun i hi => ⟨?_, ?_⟩⟩
  · have hi' : i < vs.length := by simpa using hi
    by_cases e : i = j
    · subst e
      rw [World.cell?_setCell_same _ _ _ (h.2 i hj).1]
      simp
    · rw [World.cell?_setCell_other _ _ _ _ (by intro e'; injection e' with _ e'; omega), (h.2 i hi').1]
      rw [List.getElem_set_ne (by omega)]
  · have hi' : i < vs.length := by simpa using hi
    rw [World.frozen?_setCell]; exact (h.2 i hi').2
theorem own_wr {w : World} {base g n cap : Nat} {xs : List Int} (h : Li.Own w base (.slice (some ⟨g, 0, none⟩) n cap) xs) (hn : xs.length = n) : Wr w g 0 (iv xs) := by
  refine ⟨(h.ge g rfl).2, fun j hj => ?_⟩
  have hj' : j < xs.length := by simpa [iv] using hj
  rw [Nat.zero_add]
  refine ⟨?_, h.frozen hn j⟩
  rw [h.cell hn j hj']
  simp [iv]
/-- A slice of ints that may be written, in a block of B (if it is not empty). -/
def OwI (w : World) (B : Nat → Prop) (v : Value) (xs : List Int) : Prop := ∃ a cap, v = .slice a xs.length cap ∧ (xs = [] ∨ ∃ g off, a = some ⟨g, off, none⟩ ∧ B g ∧ Wr w g off (iv xs))
theorem OwI.isl {w : World} {B : Nat → Prop} {v : Value} {xs : List Int} (h : OwI w B v xs) : ∃ a cap, v = .slice a xs.length cap ∧ IsL w a xs := by
  obtain ⟨a, cap, e, h⟩ := h
  refine ⟨a, cap, e, ?_⟩
  rcases h with h | ⟨g, off, rfl, _, hw⟩
  · exact .inl h
  · refine .inr ⟨g, off, rfl, hw.1, fun j hj => ?_⟩
    have := (hw.2 j (by simpa [iv] using hj)).1
    simpa [iv] using this
theorem OwI.fr {w w1 : World} {B B' : Nat → Prop} {v : Value} {xs : List Int} (h : OwI w B v xs) (hf : Fr B' w w1) (hd : ∀ k, B k → ¬ B' k) : OwI w1 B v xs := by
  obtain ⟨a, cap, e, h⟩ := h
  refine ⟨a, cap, e, ?_⟩
  rcases h with h | ⟨g, off, ha, hb, hw⟩
  · exact .inl h
  · exact .inr ⟨g, off, ha, hb, hw.keptAt hf.size (hf.block g hw.1 (hd g hb))⟩
theorem OwI.below {w w1 : World} {B : Nat → Prop} {v : Value} {xs : List Int} (h : OwI w B v xs) (hb : Below w.heap.size w w1) : OwI w1 B v xs := h.fr (fr_below (B := fun _ => False) hb) (fun _ _ e => e)
theorem OwI.mono {w : World} {B B' : Nat → Prop} {v : Value} {xs : List Int} (h : OwI w B v xs) (hb : ∀ k, B k → B' k) : OwI w B' v xs := by
  obtain ⟨a, cap, e, h⟩ := h
  refine ⟨a, cap, e, ?_⟩
  rcases h with h | ⟨g, off, ha, hg, hw⟩
  · exact .inl h
  · exact .inr ⟨g, off, ha, hb g hg, hw⟩
theorem owi_of {w : World} {base g n cap : Nat} {B : Nat → Prop} {xs : List Int} (h : Li.Own w base (.slice (some ⟨g, 0, none⟩) n cap) xs) (hn : xs.length = n) (hb : B g) : OwI w B (.slice (some ⟨g, 0, none⟩) n cap) xs := by
  subst hn
  exact ⟨_, cap, rfl, .inr ⟨g, 0, rfl, hb, own_wr h rfl⟩⟩
theorem owi_own {w : World} {base : Nat} {v : Value} {xs : List Int} (h : Li.Own w base v xs) : OwI w (fun k => base ≤ k ∧ k < w.heap.size) v xs := by
  have h' := h
  rcases h.2 with ⟨rfl, h0⟩ | ⟨g, cap, cur, rfl, hb, hh, _⟩
  · obtain rfl := List.length_eq_zero_iff.1 h0
    exact ⟨none, 0, rfl, .inl rfl⟩
  · exact owi_of h' rfl ⟨hb, (h'.ge g rfl).2⟩

/-- Lists of ints one behind the other: what is read. -/
def IsV (w : World) (a : Option Addr) (xs : List (List Int)) : Prop :=
  xs = [] ∨ ∃ b off, a = some ⟨b, off, none⟩ ∧ b < w.heap.size ∧ ∀ j (hj : j < xs.length), ∃ a' c', w.cell? ⟨b, off + j, none⟩ = some (.slice a' xs[j].length c') ∧ IsL w a' xs[j]
theorem IsV.below {w w1 : World} {a : Option Addr} {xs : List (List Int)} (h : IsV w a xs) (hB : Below w.heap.size w w1) : IsV w1 a xs := by
  rcases h with h | ⟨b, off, rfl, hb, hc⟩
  · exact .inl h
  · refine .inr ⟨b, off, rfl, Nat.lt_of_lt_of_le hb hB.size, fun j hj => ?_⟩
    obtain ⟨a', c', hx, hi⟩ := hc j hj
    exact ⟨a', c', (hB.cell (by exact hb)).trans hx, hi.below hB⟩
theorem IsV.drewN {w : World} {a : Option Addr} {xs : List (List Int)} (h : IsV w a xs) (n : Nat) : IsV (w.drewN n) a xs := h
def tot : List (List Int) → Nat
  | [] => 0
  | x :: xs => x.length + tot xs
theorem tot_take (xs : List (List Int)) (k : Nat) (h : k < xs.length) : tot (xs.take (k + 1)) = tot (xs.take k) + xs[k].length := by
  induction xs generalizing k with
  | nil => simp at h
  | cons s r ih =>
    cases k with
    | zero => simp [tot]
    | succ k =>
      simp only [List.take_succ_cons, tot, List.getElem_cons_succ]
      rw [ih k (by simpa using h)]
      omega
theorem tot_le (xs : List (List Int)) (k : Nat) : tot (xs.take k) ≤ tot xs := by
  induction xs generalizing k with
  | nil => simp
  | cons s r ih =>
    cases k with
    | zero => simp [tot]
    | succ k => simp only [List.take_succ_cons, tot]; have := ih k; omega
theorem tot_at (xs : List (List Int)) (k : Nat) (h : k < xs.length) : xs[k].length ≤ tot xs := by
  have h1 := tot_take xs k h
  have h2 := tot_le xs (k + 1)
  omega
def FitsV (xs : List (List Int)) : Prop := xs.length ≤ 9223372036854775807 ∧ ∀ j (hj : j < xs.length), xs[j].length ≤ 9223372036854775807
/-- A variable: its cells. -/
theorem Wr.below {w w1 : World} {g off : Nat} {vs : List Value} (h : Wr w g off vs) (hb : Below w.heap.size w w1) : Wr w1 g off vs := h.keptAt hb.size (hb.block g h.1)
theorem Wr.alloc {w : World} {g off : Nat} {vs : List Value} (h : Wr w g off vs) (o : Obj) : Wr (w.alloc o) g off vs := h.below ((Below.refl _ _).alloc (Nat.le_refl _) _)
theorem Wr.setOther {w : World} {g off b o : Nat} {vs : List Value} {v : Value} (h : Wr w g off vs) (hne : ¬ g = b) : Wr (w.setCell ⟨b, o, none⟩ v) g off vs :=
  h.keptAt (by simp [World.setCell]) (Below.heap_setCell _ _ _ _ (fun e => hne (by simpa using e)))
theorem wr_new (w : World) (vs : List Value) (T : TypeId) : Wr (w.alloc (.cells vs.toArray T)) w.heap.size 0 vs :=
  ⟨by simp, fun j hj => ⟨by rw [Nat.zero_add]; simp [World.cell?_alloc_new, hj], by simp⟩⟩
theorem size_alloc (w : World) (o : Obj) : (w.alloc o).heap.size = w.heap.size + 1 := by simp
theorem wr1 {w : World} {b : Nat} {v0 : Value} (h : Wr w b 0 [v0]) : b < w.heap.size ∧ w.cell? ⟨b, 0, none⟩ = some v0 ∧ w.frozen? ⟨b, 0, none⟩ = false :=
  ⟨h.1, (h.2 0 (by simp)).1, (h.2 0 (by simp)).2⟩
theorem wr2 {w : World} {b : Nat} {v0 v1 : Value} (h : Wr w b 0 [v0, v1]) : b < w.heap.size ∧ (w.cell? ⟨b, 0, none⟩ = some v0 ∧ w.cell? ⟨b, 1, none⟩ = some v1) ∧ w.frozen? ⟨b, 0, none⟩ = false ∧ w.frozen? ⟨b, 1, none⟩ = false :=
  ⟨h.1, ⟨(h.2 0 (by simp)).1, (h.2 1 (by simp)).1⟩, (h.2 0 (by simp)).2, (h.2 1 (by simp)).2⟩
theorem wr5 {w : World} {b : Nat} {v0 v1 v2 v3 v4 : Value} (h : Wr w b 0 [v0, v1, v2, v3, v4]) :
    b < w.heap.size ∧ (w.cell? ⟨b, 0, none⟩ = some v0 ∧ w.cell? ⟨b, 1, none⟩ = some v1 ∧ w.cell? ⟨b, 2, none⟩ = some v2 ∧ w.cell? ⟨b, 3, none⟩ = some v3 ∧ w.cell? ⟨b, 4, none⟩ = some v4) ∧
    w.frozen? ⟨b, 0, none⟩ = false ∧ w.frozen? ⟨b, 1, none⟩ = false ∧ w.frozen? ⟨b, 2, none⟩ = false ∧ w.frozen? ⟨b, 3, none⟩ = false ∧ w.frozen? ⟨b, 4, none⟩ = false :=
  ⟨h.1, ⟨(h.2 0 (by simp)).1, (h.2 1 (by simp)).1, (h.2 2 (by simp)).1, (h.2 3 (by simp)).1, (h.2 4 (by simp)).1⟩, (h.2 0 (by simp)).2, (h.2 1 (by simp)).2, (h.2 2 (by simp)).2, (h.2 3 (by simp)).2, (h.2 4 (by simp)).2⟩
/-- One, two, three new variables, one behind the other. -/
theorem new1 (w : World) (vs : List Value) (T : TypeId) : ∃ W, w.alloc (.cells vs.toArray T) = W ∧ W.heap.size = w.heap.size + 1 ∧ Below w.heap.size w W ∧ Wr W w.heap.size 0 vs :=
  ⟨_, rfl, by simp, (Below.refl _ _).alloc (Nat.le_refl _) _, wr_new _ _ _⟩
theorem new2 (w : World) (vs us : List Value) (T U : TypeId) : ∃ W, (w.alloc (.cells vs.toArray T)).alloc (.cells us.toArray U) = W ∧ W.heap.size = w.heap.size + 2 ∧ Below w.heap.size w W ∧ Wr W w.heap.size 0 vs ∧ Wr W (w.heap.size + 1) 0 us := by
  refine ⟨_, rfl, by simp, ((Below.refl _ _).alloc (Nat.le_refl _) _).alloc (by simp) _, ?_, ?_⟩
  · exact (wr_new _ _ _).alloc _
  · have := wr_new (w.alloc (.cells vs.toArray T)) us U
    rwa [size_alloc] at this
theorem new3 (w : World) (vs us xs : List Value) (T U X : TypeId) : ∃ W, ((w.alloc (.cells vs.toArray T)).alloc (.cells us.toArray U)).alloc (.cells xs.toArray X) = W ∧ W.heap.size = w.heap.size + 3 ∧ Below w.heap.size w W ∧ Wr W w.heap.size 0 vs ∧ Wr W (w.heap.size + 1) 0 us ∧ Wr W (w.heap.size + 2) 0 xs := by
  refine ⟨_, rfl, by simp, (((Below.refl _ _).alloc (Nat.le_refl _) _).alloc (by simp) _).alloc (by simp; omega) _, ?_, ?_, ?_⟩
  · exact ((wr_new _ _ _).alloc _).alloc _
  · have := (wr_new (w.alloc (.cells vs.toArray T)) us U).alloc (.cells xs.toArray X)
    rwa [size_alloc] at this
  · have := wr_new ((w.alloc (.cells vs.toArray T)).alloc (.cells us.toArray U)) xs X
    rwa [size_alloc, size_alloc] at this

end Go.Proofs.YtifemdjookmboaaGreatDoor.Sv
/-
  Tables of words and their numbers (CtrTab), one behind the other: what is read, what may be written; contracts of the laws' own helpers over them.
-/
namespace Go.Proofs.YtifemdjookmboaaGreatDoor.Kt
set_option maxRecDepth 20000
open Go.RowKit
open Go.Proofs.YtifemdjookmboaaGreatDoor.Tb (ownsRow_at)
open Go.Proofs.YtifemdjookmboaaGreatDoor.Sv (Fr fr_below)
open Go.Proofs.YtifemdjookmboaaGreatDoor.Mk (mtexts mtexts_length)
open Go.Proofs.YtifemdjookmboaaGreatDoor.Li (marks marks_length)
set_option linter.unusedVariables false

/-- Words, and a number for each. -/
structure Kv where
  ws : List ByteArray
  vs : List Int
def ktot : List Kv → Nat
  | [] => 0
  | t :: ts => t.ws.length + t.vs.length + ktot ts
theorem ktot_take (ts : List Kv) (k : Nat) (h : k < ts.length) : ktot (ts.take (k + 1)) = ktot (ts.take k) + (ts[k].ws.length + ts[k].vs.length) := by
  induction ts generalizing k with
  | nil => simp at h
  | cons s r ih =>
    cases k with
    | zero => simp [ktot]
    | succ k =>
      simp only [List.take_succ_cons, ktot, List.getElem_cons_succ]
      rw [ih k (by simpa using h)]
      omega
theorem ktot_le (ts : List Kv) (k : Nat) : ktot (ts.take k) ≤ ktot ts := by
  induction ts generalizing k with
  | nil => simp
  | cons s r ih =>
    cases k with
    | zero => simp [ktot]
    | succ k => simp only [List.take_succ_cons, ktot]; have := ih k; omega
theorem ktot_at (ts : List Kv) (k : Nat) (h : k < ts.length) : ts[k].ws.length + ts[k].vs.length ≤ ktot ts := by
  have h1 := ktot_take ts k h
  have h2 := ktot_le ts (k + 1)
  omega
/-- What is read of them. -/
def IsK (w : World) (a : Option Addr) (ts : List Kv) : Prop :=
  ts = [] ∨ ∃ b off, a = some ⟨b, off, none⟩ ∧ b < w.heap.size ∧ ∀ j (hj : j < ts.length), ∃ a0 c0 a1 c1, (w.cell? ⟨b, off + j * 2, none⟩ = some (.slice a0 ts[j].ws.length c0) ∧ w.cell? ⟨b, off + j * 2 + 1, none⟩ = some (.slice a1 ts[j].vs.length c1)) ∧ Ls.IsS w a0 ts[j].ws ∧ Li.IsL w a1 ts[j].vs
theorem IsK.below {w w1 : World} {a : Option Addr} {ts : List Kv} (h : IsK w a ts) (hB : Below w.heap.size w w1) : IsK w1 a ts := by
  rcases h with h | ⟨b, off, rfl, hb, hc⟩
  · exact .inl h
  · refine .inr ⟨b, off, rfl, Nat.lt_of_lt_of_le hb hB.size, fun j hj => ?_⟩
    obtain ⟨a0, c0, a1, c1, ⟨h0, h1⟩, i0, i1⟩ := hc j hj
    exact ⟨a0, c0, a1, c1, ⟨(hB.cell (by exact hb)).trans h0, (hB.cell (by exact hb)).trans h1⟩, i0.below hB, i1.below hB⟩
/-- What may be written of them: all in blocks of B, no two in one. -/
def OwK (w : World) (B : Nat → Prop) (v : Value) (ts : List Kv) : Prop :=
  ∃ vs : List Value, w.ownsRow 0 39 2 v ts.length vs ∧ vs.length = ts.length * 2 ∧ (∀ j (h : j < ts.length), Ls.Own w 0 (vs.getD (j * 2) undef) ts[j].ws ∧ Li.Own w 0 (vs.getD (j * 2 + 1) undef) ts[j].vs) ∧ (∀ k, v.ownBlock = some k → B k) ∧ (∀ p, p < vs.length → ∀ k, (vs.getD p undef).ownBlock = some k → B k ∧ v.ownBlock ≠ some k) ∧ (∀ p q, p < vs.length → q < vs.length → ¬ p = q → ∀ k, (vs.getD p undef).ownBlock = some k → (vs.getD q undef).ownBlock ≠ some k)
variable {w w1 : World} {B : Nat → Prop} {v : Value} {ts : List Kv}
theorem half2 {p n : Nat} (h : p < n * 2) : ∃ j, j < n ∧ (p = j * 2 ∨ p = j * 2 + 1) := ⟨p / 2, by omega, by omega⟩
theorem OwK.lt (h : OwK w B v ts) : (∀ k, v.ownBlock = some k → k < w.heap.size) := by
  obtain ⟨vs, ho, _⟩ := h
  exact fun k hk => (World.ownsRow.lt ho k hk).2
theorem OwK.nil (w : World) (B : Nat → Prop) : OwK w B (.slice none 0 0) [] :=
  ⟨[], World.ownsRow_nil _ _ _ _, rfl, fun j h => by simp at h, fun k hk => by simp [Value.ownBlock] at hk, fun p h => by simp at h, fun p q h => by simp at h⟩
theorem OwK.fr {B' : Nat → Prop} (h : OwK w B v ts) (hf : Fr B' w w1) (hd : ∀ k, B k → ¬ B' k) : OwK w1 B v ts := by
  obtain ⟨vs, ho, hl, he, hv, hb, hs⟩ := h
  refine ⟨vs, ownsRow_at ho (fun k e => hf.block k (World.ownsRow.lt ho k e).2 (hd k (hv k e))), hl, fun j hj => ?_, hv, hb, hs⟩
  obtain ⟨h0, h1⟩ := he j hj
  exact ⟨ownsRow_at h0 (fun k e => hf.block k (h0.ge k e).2 (hd k (hb _ (by omega) k e).1)), ownsRow_at h1 (fun k e => hf.block k (h1.ge k e).2 (hd k (hb _ (by omega) k e).1))⟩
theorem OwK.below (h : OwK w B v ts) (hb : Below w.heap.size w w1) : OwK w1 B v ts := h.fr (fr_below (B := fun _ => False) hb) (fun _ _ e => e)
theorem OwK.mono {B' : Nat → Prop} (h : OwK w B v ts) (hb : ∀ k, B k → B' k) : OwK w B' v ts := by
  obtain ⟨vs, ho, hl, he, hv, hbb, hs⟩ := h
  exact ⟨vs, ho, hl, he, fun k e => hb k (hv k e), fun p hp k e => ⟨hb k (hbb p hp k e).1, (hbb p hp k e).2⟩, hs⟩
theorem OwK.bound (h : OwK w B v ts) : OwK w (fun k => B k ∧ k < w.heap.size) v ts := by
  obtain ⟨vs, ho, hl, he, hv, hbb, hs⟩ := h
  refine ⟨vs, ho, hl, he, fun k e => ⟨hv k e, (World.ownsRow.lt ho k e).2⟩, fun p hp k e => ⟨⟨(hbb p hp k e).1, ?_⟩, (hbb p hp k e).2⟩, hs⟩
  obtain ⟨j, hj, rfl | rfl⟩ := half2 (n := ts.length) (p := p) (by omega)
  · exact ((he j hj).1.ge k e).2
  · exact ((he j hj).2.ge k e).2
theorem OwK.isk (h : OwK w B v ts) : ∃ a cap, v = .slice a ts.length cap ∧ IsK w a ts := by
  obtain ⟨vs, ho, hl, he, _⟩ := h
  have h' := ho
  rcases ho.2 with ⟨rfl, h0⟩ | ⟨g, cap, cur, rfl, hb, hh, _⟩
  · obtain rfl := List.length_eq_zero_iff.1 h0
    exact ⟨none, 0, rfl, .inl rfl⟩
  · refine ⟨_, cap, rfl, .inr ⟨g, 0, rfl, (Array.getElem?_eq_some_iff.1 hh).1, fun j hj => ?_⟩⟩
    obtain ⟨o0, o1⟩ := he j hj
    obtain ⟨a0, c0, e0, i0⟩ := o0.iss
    obtain ⟨a1, c1, e1, i1⟩ := o1.isl
    refine ⟨a0, c0, a1, c1, ⟨?_, ?_⟩, i0, i1⟩
    · rw [Nat.zero_add, World.ownsRow.cellAt h' _ (by omega), ← e0]
      simp [List.getElem?_eq_getElem (show j * 2 < vs.length by omega)]
    · rw [Nat.zero_add, World.ownsRow.cellAt h' _ (by omega), ← e1]
      simp [List.getElem?_eq_getElem (show j * 2 + 1 < vs.length by omega)]
theorem getD_app1 {α : Type} {xs : List α} {a b d : α} {p : Nat} (h : p < xs.length) : (xs ++ [a, b]).getD p d = xs.getD p d := by
  simp [List.getElem?_append_left h]
theorem getD_app2 {α : Type} {xs : List α} {a b d : α} : (xs ++ [a, b]).getD xs.length d = a := by simp
theorem getD_app3 {α : Type} {xs : List α} {a b d : α} : (xs ++ [a, b]).getD (xs.length + 1) d = b := by simp
/-- One more behind the others: its words and numbers lie in blocks from m on, all that was there in blocks below. -/
theorem owk_snoc {v5 u0 u1 : Value} {x : Kv} {vs : List Value} {m : Nat} (hl : vs.length = ts.length * 2) (he : ∀ j (h : j < ts.length), Ls.Own w 0 (vs.getD (j * 2) undef) ts[j].ws ∧ Li.Own w 0 (vs.getD (j * 2 + 1) undef) ts[j].vs)
    (hv : ∀ k, v.ownBlock = some k → B k ∧ k < m) (hb : ∀ p, p < vs.length → ∀ k, (vs.getD p undef).ownBlock = some k → (B k ∧ k < m) ∧ v.ownBlock ≠ some k) (hs : ∀ p q, p < vs.length → q < vs.length → ¬ p = q → ∀ k, (vs.getD p undef).ownBlock = some k → (vs.getD q undef).ownBlock ≠ some k)
    (h0 : Ls.Own w m u0 x.ws) (h1 : Li.Own w m u1 x.vs) (h01 : ∀ k, u0.ownBlock = some k → u1.ownBlock ≠ some k) (hB : ∀ k, m ≤ k → B k) (hm : m ≤ w.heap.size)
    (ho : w1.ownsRow 0 39 2 v5 (ts.length + 1) (vs ++ [u0, u1])) (hg : w.grownBy w1 v.ownBlock) (hloc : v5.ownBlock = v.ownBlock ∨ v5.ownBlock = some w.heap.size) : OwK w1 B v5 (ts ++ [x]) := by
  have hn5 : ∀ k, k < w.heap.size → v.ownBlock ≠ some k → v5.ownBlock ≠ some k := fun k hk hn e => by
    rcases hloc with h | h
    · exact hn (h ▸ e)
    · rw [h] at e; injection e with e; omega
  have hvm : ∀ k, m ≤ k → v.ownBlock ≠ some k := fun k hk e => by have := (hv k e).2; omega
  refine ⟨vs ++ [u0, u1], by simpa using ho, by simp; omega, fun j hj => ?_, fun k e => ?_, fun p hp k e => ?_, fun p q hp hq hpq k e => ?_⟩
  · by_cases hjl : j < ts.length
    · rw [List.getElem_append_left hjl, getD_app1 (by omega), getD_app1 (by omega)]
      obtain ⟨q0, q1⟩ := he j hjl
      exact ⟨ownsRow_at q0 (fun k e => hg.block k (q0.ge k e).2 (fun e' => (hb _ (by omega) k e).2 e'.symm)), ownsRow_at q1 (fun k e => hg.block k (q1.ge k e).2 (fun e' => (hb _ (by omega) k e).2 e'.symm))⟩
    · have e1 : j = ts.length := by simp at hj; omega
      subst e1
      rw [List.getElem_append_right (by omega), ← hl, getD_app2, getD_app3]
      simp only [Nat.sub_self, List.getElem_cons_zero]
      have q0 : Ls.Own w1 m u0 x.ws := ownsRow_at h0 (fun k e => hg.block k (h0.ge k e).2 (fun e' => hvm k (h0.ge k e).1 e'.symm))
      have q1 : Li.Own w1 m u1 x.vs := ownsRow_at h1 (fun k e => hg.block k (h1.ge k e).2 (fun e' => hvm k (h1.ge k e).1 e'.symm))
      exact ⟨q0.mono (Nat.zero_le _), q1.mono (Nat.zero_le _)⟩
  · rcases hloc with h | h
    · exact (hv k (h ▸ e)).1
    · rw [h] at e; injection e with e; exact hB k (by omega)
  · by_cases hpl : p < vs.length
    · rw [getD_app1 hpl] at e
      obtain ⟨j, hj, hpj⟩ := half2 (n := ts.length) (p := p) (by omega)
      have hks : k < w.heap.size := by
        rcases hpj with rfl | rfl
        · exact ((he j hj).1.ge k e).2
        · exact ((he j hj).2.ge k e).2
      exact ⟨(hb p hpl k e).1.1, hn5 k hks (hb p hpl k e).2⟩
    · have hp' : p = vs.length ∨ p = vs.length + 1 := by simp at hp; omega
      rcases hp' with rfl | rfl
      · rw [getD_app2] at e
        exact ⟨hB k (h0.ge k e).1, hn5 k (h0.ge k e).2 (hvm k (h0.ge k e).1)⟩
      · rw [getD_app3] at e
        exact ⟨hB k (h1.ge k e).1, hn5 k (h1.ge k e).2 (hvm k (h1.ge k e).1)⟩
  · have hp' : p < vs.length ∨ p = vs.length ∨ p = vs.length + 1 := by simp at hp; omega
    have hq' : q < vs.length ∨ q = vs.length ∨ q = vs.length + 1 := by simp at hq; omega
    rcases hp' with h1' | rfl | rfl <;> rcases hq' with h2' | rfl | rfl
    · rw [getD_app1 h1'] at e; rw [getD_app1 h2']; exact hs p q h1' h2' hpq k e
    · rw [getD_app1 h1'] at e; rw [getD_app2]; intro e'; have := (hb p h1' k e).1.2; have := (h0.ge k e').1; omega
    · rw [getD_app1 h1'] at e; rw [getD_app3]; intro e'; have := (hb p h1' k e).1.2; have := (h1.ge k e').1; omega
    · rw [getD_app2] at e; rw [getD_app1 h2']; intro e'; have := (hb q h2' k e').1.2; have := (h0.ge k e).1; omega
    · exact absurd rfl hpq
    · rw [getD_app2] at e; rw [getD_app3]; exact h01 k e
    · rw [getD_app3] at e; rw [getD_app1 h2']; intro e'; have := (hb q h2' k e').1.2; have := (h1.ge k e).1; omega
    · rw [getD_app3] at e; rw [getD_app2]; intro e'; exact h01 k e' e
    · exact absurd rfl hpq
/-- Written over: the words, or the numbers, of one of them. -/
theorem OwK.set0 (h : OwK w B v ts) (j : Nat) (hj : j < ts.length) : ∃ a c, v = .slice a ts.length c ∧ ∃ g a0 c0, a = some ⟨g, 0, none⟩ ∧ w.cell? ⟨g, j * 2, none⟩ = some (.slice a0 ts[j].ws.length c0) ∧ Ls.Own w 0 (.slice a0 ts[j].ws.length c0) ts[j].ws ∧ g < w.heap.size ∧
    ∀ w1 ws', Ls.Own w1 0 (.slice a0 ts[j].ws.length c0) ws' → w.grownBy w1 (Value.slice a0 ts[j].ws.length c0).ownBlock → OwK w1 B v (ts.set j ⟨ws', ts[j].vs⟩) ∧ Fr B w w1 := by
  obtain ⟨vs, ho, hl, he, hv, hb, hs⟩ := h
  have h' := ho
  rcases ho.2 with ⟨rfl, h0⟩ | ⟨g, cap, cur, rfl, hbg, hh, _⟩
  · omega
  obtain ⟨o0, o1⟩ := he j hj
  obtain ⟨a0, c0, e0, i0⟩ := o0.iss
  refine ⟨_, cap, rfl, g, a0, c0, rfl, ?_, e0 ▸ o0, (Array.getElem?_eq_some_iff.1 hh).1, fun w1 ws' hw hg => ?_⟩
  · rw [World.ownsRow.cellAt h' _ (by omega), ← e0]
    simp [List.getElem?_eq_getElem (show j * 2 < vs.length by omega)]
  · rw [← e0] at hw hg
    have hk : ∀ p, p < vs.length → ¬ p = j * 2 → ∀ k, (vs.getD p undef).ownBlock = some k → some k ≠ (vs.getD (j * 2) undef).ownBlock := fun p hp hne k e e' => hs p (j * 2) hp (by omega) hne k e e'.symm
    refine ⟨⟨vs, by rw [List.length_set]; exact ownsRow_at h' (fun k e => hg.block k (World.ownsRow.lt h' k e).2 (fun e' => (hb (j * 2) (by omega) k e'.symm).2 e)), by simpa using hl, fun i hi => ?_, hv, hb, hs⟩, ?_⟩
    · have hi' : i < ts.length := by simpa using hi
      obtain ⟨q0, q1⟩ := he i hi'
      have k1 : Li.Own w1 0 (vs.getD (i * 2 + 1) undef) ts[i].vs := ownsRow_at q1 (fun k e => hg.block k (q1.ge k e).2 (hk _ (by omega) (by omega) k e))
      by_cases hij : j = i
      · subst hij
        rw [List.getElem_set_self]
        exact ⟨hw, k1⟩
      · rw [List.getElem_set_ne hij]
        exact ⟨ownsRow_at q0 (fun k e => hg.block k (q0.ge k e).2 (hk _ (by omega) (by omega) k e)), k1⟩
    · exact ⟨hg.os, hg.tape, hg.output, hg.size, fun k hk' hn => hg.block k hk' (fun e => hn (hb (j * 2) (by omega) k e.symm).1)⟩
theorem OwK.set1 (h : OwK w B v ts) (j : Nat) (hj : j < ts.length) : ∃ a c, v = .slice a ts.length c ∧ ∃ g a0 c0, a = some ⟨g, 0, none⟩ ∧ w.cell? ⟨g, j * 2 + 1, none⟩ = some (.slice a0 ts[j].vs.length c0) ∧ Li.Own w 0 (.slice a0 ts[j].vs.length c0) ts[j].vs ∧ g < w.heap.size ∧
    ∀ w1 vs', Li.Own w1 0 (.slice a0 ts[j].vs.length c0) vs' → w.grownBy w1 (Value.slice a0 ts[j].vs.length c0).ownBlock → OwK w1 B v (ts.set j ⟨ts[j].ws, vs'⟩) ∧ Fr B w w1 := by
  obtain ⟨vs, ho, hl, he, hv, hb, hs⟩ := h
  have h' := ho
  rcases ho.2 with ⟨rfl, h0⟩ | ⟨g, cap, cur, rfl, hbg, hh, _⟩
  · omega
  obtain ⟨o0, o1⟩ := he j hj
  obtain ⟨a0, c0, e0, i0⟩ := o1.isl
  refine ⟨_, cap, rfl, g, a0, c0, rfl, ?_, e0 ▸ o1, (Array.getElem?_eq_some_iff.1 hh).1, fun w1 ws' hw hg => ?_⟩
  · rw [World.ownsRow.cellAt h' _ (by omega), ← e0]
    simp [List.getElem?_eq_getElem (show j * 2 + 1 < vs.length by omega)]
  · rw [← e0] at hw hg
    have hk : ∀ p, p < vs.length → ¬ p = j * 2 + 1 → ∀ k, (vs.getD p undef).ownBlock = some k → some k ≠ (vs.getD (j * 2 + 1) undef).ownBlock := fun p hp hne k e e' => hs p (j * 2 + 1) hp (by omega) hne k e e'.symm
    refine ⟨⟨vs, by rw [List.length_set]; exact ownsRow_at h' (fun k e => hg.block k (World.ownsRow.lt h' k e).2 (fun e' => (hb (j * 2 + 1) (by omega) k e'.symm).2 e)), by simpa using hl, fun i hi => ?_, hv, hb, hs⟩, ?_⟩
    · have hi' : i < ts.length := by simpa using hi
      obtain ⟨q0, q1⟩ := he i hi'
      have k1 : Ls.Own w1 0 (vs.getD (i * 2) undef) ts[i].ws := ownsRow_at q0 (fun k e => hg.block k (q0.ge k e).2 (hk _ (by omega) (by omega) k e))
      by_cases hij : j = i
      · subst hij
        rw [List.getElem_set_self]
        exact ⟨k1, hw⟩
      · rw [List.getElem_set_ne hij]
        exact ⟨k1, ownsRow_at q1 (fun k e => hg.block k (q1.ge k e).2 (hk _ (by omega) (by omega) k e))⟩
    · exact ⟨hg.os, hg.tape, hg.output, hg.size, fun k hk' hn => hg.block k hk' (fun e => hn (hb (j * 2 + 1) (by omega) k e.symm).1)⟩
/-- The marks that the laws write. -/
def km (q : Nat) (t : Kv) : Kv := ⟨mtexts q t.ws.length, marks ((q + t.ws.length : Nat) : Int) t.vs.length⟩
def kmarksN (q : Nat) (ts : List Kv) : List Kv := ts.mapIdx fun j t => km (q + ktot (ts.take j)) t
theorem kmarksN_length (q : Nat) (ts : List Kv) : (kmarksN q ts).length = ts.length := by simp [kmarksN]
theorem kmarksN_get (q : Nat) (ts : List Kv) (j : Nat) (h : j < (kmarksN q ts).length) : (kmarksN q ts)[j] = km (q + ktot (ts.take j)) (ts[j]'(by rwa [kmarksN_length] at h)) := by simp [kmarksN]
def kmarks (q : Int) (ts : List Kv) : List Kv := kmarksN q.toNat ts
theorem kmarks_length (q : Int) (ts : List Kv) : (kmarks q ts).length = ts.length := kmarksN_length _ _
def Half (q : Nat) (ts l : List Kv) (i : Nat) : Prop := l.length = ts.length ∧ (∀ j, j < i → l[j]? = (kmarksN q ts)[j]?) ∧ ∀ j, i ≤ j → l[j]? = ts[j]?
theorem half_set {q : Nat} {ts l : List Kv} {i : Nat} (h : Half q ts l i) (hi : i < ts.length) : Half q ts (l.set i (km (q + ktot (ts.take i)) ts[i])) (i + 1) := by
  refine ⟨by simpa using h.1, fun j hj => ?_, fun j hj => ?_⟩
  · rw [List.getElem?_set]
    split
    · rename_i e; subst e
      rw [if_pos (by rw [h.1]; exact hi), List.getElem?_eq_getElem (by rw [kmarksN_length]; exact hi), kmarksN_get]
    · exact h.2.1 j (by omega)
  · rw [List.getElem?_set_ne (by omega)]; exact h.2.2 j (by omega)
theorem half_end {q : Nat} {ts l : List Kv} {i : Nat} (h : Half q ts l i) (hi : ¬ i < ts.length) : l = kmarksN q ts := by
  apply List.ext_getElem?
  intro j
  by_cases hj : j < i
  · exact h.2.1 j hj
  · rw [List.getElem?_eq_none (by rw [h.1]; omega), List.getElem?_eq_none (by rw [kmarksN_length]; omega)]
theorem half_at {q : Nat} {ts l : List Kv} {i : Nat} (h : Half q ts l i) (hi : i < ts.length) (hil : i < l.length) : l[i] = ts[i] := by
  have := h.2.2 i (Nat.le_refl _)
  rw [List.getElem?_eq_getElem hil, List.getElem?_eq_getElem hi] at this
  exact Option.some.inj this
theorem set_set_same {α : Type} {l : List α} {i : Nat} {x y : α} : (l.set i x).set i y = l.set i y := by simp
set_option maxHeartbeats 2000000 in
theorem markTabs (w : World) (B : Nat → Prop) (v : Value) (q : Int) (ts : List Kv) (h : OwK w B v ts) (hl : ts.length + ktot ts ≤ 1048576) (k0 : 0 ≤ q) (k1 : q ≤ 100000000000) :
    Calls Tryz.prog 19 #[v, .int .i64 q] w fun e w' => e = .returned (.int .i64 (q + ktot ts)) ∧ OwK w' B v (kmarks q ts) ∧ Fr B w w' := by
  obtain ⟨n, rfl⟩ : ∃ n : Nat, q = (n : Int) := ⟨q.toNat, by omega⟩
  obtain ⟨a, cap, rfl, _⟩ := h.isk
  go_enter Tryz.func19, Tryz.ntmps19
  go_wp2
  go_loopw [1, 5] (fun kk i wr => ∃ j : Nat, j ≤ ts.length ∧ i = .int .i64 j ∧ kk = .int .i64 ((n + ktot (ts.take j) : Nat) : Int) ∧ ∃ l, Half n ts l j ∧ OwK wr B (.slice a ts.length cap) l ∧ Fr B w wr) (fun _ i _ => ts.length - (intOf i).toNat)
  case atStart => exact ⟨0, Nat.zero_le _, rfl, by simp [ktot], ts, ⟨rfl, fun j hj => by omega, fun j _ => rfl⟩, h, Fr.refl _ _⟩
  case round =>
    obtain ⟨j, hj, rfl, rfl, l, hh, ok, hf⟩ := hrel
    have hpre := ktot_le ts j
    by_cases hlt : j < ts.length
    · have hll : l.length = ts.length := hh.1
      have hjl : j < l.length := by omega
      have hat := half_at hh hlt hjl
      have hnew := half_set hh hlt
      have htk := ktot_take ts j hlt
      have hta := ktot_at ts j hlt
      have HTK : Hid (ktot (ts.take (j + 1)) = ktot (ts.take j) + (ts[j].ws.length + ts[j].vs.length)) := htk
      obtain ⟨t, ht⟩ : ∃ t, ts[j] = t := ⟨_, rfl⟩
      rw [ht] at hat hnew hta HTK
      obtain ⟨K, hK⟩ : ∃ K, n + ktot (ts.take j) = K := ⟨_, rfl⟩
      rw [hK] at hnew ⊢
      have HK : Hid (n + ktot (ts.take j) = K) := hK
      have hK1 : K ≤ 200000000000 := by omega
      have HNEW : Hid (Half n ts (l.set j (km K t)) (j + 1)) := hnew
      have HLL : Hid (l.length = ts.length) := hll
      clear hh hnew htk ht hK
      obtain ⟨_, _, e1, g, a0, c0, rfl, dc0, os, hgl, hset⟩ := ok.set0 j hjl
      rw [hll] at e1
      cases e1
      rw [hat] at dc0 os hset
      clear hll
      go_wp2_with fail
      refine (Mk.mark_strs _ 0 _ _ _ K t.ws rfl os (by omega) (by omega)).mono ?_
      rintro e w1 ⟨rfl, o1, hg1⟩
      obtain ⟨ok1, hf1⟩ := hset w1 _ o1 hg1
      have hf := hf.trans hf1
      clear hset os o1 hg1 hf1 dc0 ok
      obtain ⟨l1, hl1⟩ : ∃ l1, l.set j (⟨mtexts K t.ws.length, t.vs⟩ : Kv) = l1 := ⟨_, rfl⟩
      rw [hl1] at ok1
      have hl1l : l1.length = l.length := by rw [← hl1]; simp
      have hj1 : j < l1.length := by omega
      have hat1 : l1[j] = (⟨mtexts K t.ws.length, t.vs⟩ : Kv) := by simp only [← hl1]; simp
      have HS2 : Hid (∀ y, l1.set j y = l.set j y) := fun y => by rw [← hl1, set_set_same]
      obtain ⟨_, _, e1, g', a1, c1, ea, dc1, oi, hgl1, hset1⟩ := ok1.set1 j hj1
      rw [hl1l, HLL.out] at e1
      cases e1
      cases ea
      rw [hat1] at dc1 oi hset1
      have dc1 : w1.cell? ⟨g, j * 2 + 1, none⟩ = some (.slice a1 t.vs.length c1) := dc1
      have oi : Li.Own w1 0 (.slice a1 t.vs.length c1) t.vs := oi
      clear hl1 hl1l hat1 hj1 ok1
      go_wp2_with fail
      refine (Li.mark_walk _ 0 _ _ _ ((K + t.ws.length : Nat) : Int) t.vs rfl oi (by omega) (by omega) (by omega)).mono ?_
      rintro e w2 ⟨rfl, o2, hg2, _⟩
      obtain ⟨ok2, hf2⟩ := hset1 w2 _ o2 hg2
      rw [HS2.out] at ok2
      have hf := hf.trans hf2
      have HOK : Hid (OwK w2 B (.slice (some ⟨g, 0, none⟩) ts.length cap) (l.set j (km K t))) := ok2
      have hnum : (((K + t.ws.length : Nat) : Int) + (t.vs.length : Int)) = ((n + ktot (ts.take (j + 1)) : Nat) : Int) := by rw [HTK.out]; have := HK.out; omega
      have HNUM : Hid ((((K + t.ws.length : Nat) : Int) + (t.vs.length : Int)) = ((n + ktot (ts.take (j + 1)) : Nat) : Int)) := hnum
      clear hset1 oi o2 hg2 hf2 dc1 ok2 hnum
      rw [HNUM.out]
      go_wp2
      go_roundw
      case rel => exact ⟨j + 1, by omega, by go_num, rfl, _, HNEW.out, HOK.out, hf⟩
      case measure => simp [intOf]; omega
    · obtain rfl : j = ts.length := by omega
      have hle : l = kmarksN n ts := half_end hh hlt
      have HOK : Hid (OwK wr B (.slice a ts.length cap) (kmarks (n : Int) ts)) := by
        show OwK _ _ _ _
        unfold kmarks
        rw [Int.toNat_natCast, ← hle]; exact ok
      have HNUM : Hid (((n + ktot (ts.take ts.length) : Nat) : Int) = (n : Int) + (ktot ts : Int)) := by show _ = _; rw [List.take_length]; omega
      clear hle ok hlt
      rw [HNUM.out]
      go_wp2
      go_ret
      exact ⟨rfl, HOK.out, hf⟩
end Go.Proofs.YtifemdjookmboaaGreatDoor.Kt
