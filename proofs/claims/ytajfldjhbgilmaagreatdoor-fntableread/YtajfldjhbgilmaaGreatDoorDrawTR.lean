/-
  What the model draws for reading: a schema and a text.
-/
import Derived.Test.YtajfldjhbgilmaaGreatDoorDrawX
import Derived.Test.YtajfldjhbgilmaaGreatDoorSpecTxt
import Derived.Test.YtajfldjhbgilmaaGreatDoorHeldS
namespace Go.Proofs.YtajfldjhbgilmaaGreatDoor.Dq
set_option maxRecDepth 100000
open Go.RowKit
open Go.Proofs.YtajfldjhbgilmaaGreatDoor.Tb Go.Proofs.YtajfldjhbgilmaaGreatDoor.Tk Go.Proofs.YtajfldjhbgilmaaGreatDoor.Db
/-- A variable of two cells that may be written. -/
def Cell2 (w : World) (b : Nat) (v0 v1 : Value) : Prop := b < w.heap.size ∧ w.cell? ⟨b, 0, none⟩ = some v0 ∧ w.cell? ⟨b, 1, none⟩ = some v1 ∧ w.frozen? ⟨b, 0, none⟩ = false ∧ w.frozen? ⟨b, 1, none⟩ = false
theorem Cell2.keptAt {w w1 : World} {b : Nat} {v0 v1 : Value} (h : Cell2 w b v0 v1) (hs : w.heap.size ≤ w1.heap.size) (hb : w1.heap[b]? = w.heap[b]?) : Cell2 w1 b v0 v1 := by
  obtain ⟨hlt, c0, c1, f0, f1⟩ := h
  refine ⟨by omega, ?_, ?_, ?_, ?_⟩
  · rw [World.cell?_of_block (a := ⟨b, 0, none⟩) hb]; exact c0
  · rw [World.cell?_of_block (a := ⟨b, 1, none⟩) hb]; exact c1
  · rw [World.frozen?_of_block (a := ⟨b, 0, none⟩) hb]; exact f0
  · rw [World.frozen?_of_block (a := ⟨b, 1, none⟩) hb]; exact f1
theorem Cell2.below {w w1 : World} {b : Nat} {v0 v1 : Value} (h : Cell2 w b v0 v1) (hB : Below w.heap.size w w1) : Cell2 w1 b v0 v1 := h.keptAt hB.size (hB.block b h.1)
theorem Cell2.cur {w w1 : World} {b q : Nat} {v0 v1 : Value} (h : Cell2 w b v0 v1) (hg : w.grownBy w1 (some q)) (hq : ¬ b = q) : Cell2 w1 b v0 v1 := h.keptAt hg.size (hg.block b h.1 (by simp; exact hq))
theorem Cell2.drew {w : World} {b : Nat} {v0 v1 : Value} (h : Cell2 w b v0 v1) : Cell2 w.drew b v0 v1 := h
theorem Cell2.alloc {w : World} {b : Nat} {v0 v1 : Value} (h : Cell2 w b v0 v1) (o : Obj) : Cell2 (w.alloc o) b v0 v1 := h.below ((Below.refl _ _).alloc (Nat.le_refl _) _)
theorem cell2_new (w : World) (v0 v1 : Value) (T : TypeId) : Cell2 (w.alloc (.cells #[v0, v1] T)) w.heap.size v0 v1 := ⟨by simp, by simp, by simp, by simp, by simp⟩
theorem tabS (y : Int) (h0 : 0 ≤ y) (h1 : y < 7) : ∃ t : ByteArray, (∀ h, ([Value.string ⟨#[]⟩, Value.string ⟨#[44]⟩, Value.string ⟨#[10]⟩, Value.string ⟨#[48]⟩, Value.string ⟨#[46]⟩, Value.string ⟨#[65]⟩, Value.string ⟨#[49, 48, 48, 48, 48, 48, 48, 46, 48, 48, 49, 44]⟩] : List Value)[y.toNat]'h = .string t) ∧ t.size ≤ 12 := by
  have : ∀ n, n < 7 → ∃ t : ByteArray, (∀ h, ([Value.string ⟨#[]⟩, Value.string ⟨#[44]⟩, Value.string ⟨#[10]⟩, Value.string ⟨#[48]⟩, Value.string ⟨#[46]⟩, Value.string ⟨#[65]⟩, Value.string ⟨#[49, 48, 48, 48, 48, 48, 48, 46, 48, 48, 49, 44]⟩] : List Value)[n]'h = .string t) ∧ t.size ≤ 12 := by
    intro n hn
    match n, hn with
    | 0, _ => exact ⟨_, fun _ => rfl, by decide⟩
    | 1, _ => exact ⟨_, fun _ => rfl, by decide⟩
    | 2, _ => exact ⟨_, fun _ => rfl, by decide⟩
    | 3, _ => exact ⟨_, fun _ => rfl, by decide⟩
    | 4, _ => exact ⟨_, fun _ => rfl, by decide⟩
    | 5, _ => exact ⟨_, fun _ => rfl, by decide⟩
    | 6, _ => exact ⟨_, fun _ => rfl, by decide⟩
  exact this y.toNat (by omega)
theorem minS (k z : Int) (n : Nat) (h0 : 0 ≤ k) (h1 : 0 ≤ z) (h2 : k ≤ 100000) (h3 : z ≤ 1000) : 0 ≤ min (n : Int) (IntKind.i64.wrap (k + z)) ∧ min (n : Int) (IntKind.i64.wrap (k + z)) ≤ (n : Int) := by
  have e : IntKind.i64.wrap (k + z) = k + z := by rw [IntKind.wrap_i64]; omega
  rw [e]; omega
theorem keptC {w w' : World} {b : Nat} (h : w.grownBy w' (some b)) : ∀ blk o, b < blk → blk < w.heap.size → w'.cell? ⟨blk, o, none⟩ = w.cell? ⟨blk, o, none⟩ :=
  fun blk o h1 h2 => World.cell?_of_block (a := ⟨blk, o, none⟩) (h.block blk h2 (fun e => by cases e; omega))
theorem belN {w W w' : World} {B b : Nat} (h : Below B w W) (hg : W.grownBy w' (some b)) (hb : B ≤ b) (hB : B ≤ W.heap.size) : Below B w w' := h.trans (Cu.grown_below hg hb hB)
theorem szS (S t : ByteArray) (k m n : Nat) (hS : S.size ≤ 11200) (ht : t.size ≤ 12) : (S.extract 0 k ++ t ++ S.extract m n).size ≤ 100000 := by
  simp only [ByteArray.size_append, ByteArray.size_extract]
  omega
theorem tab_le (n c : Int) (rs : List Row) : (⟨(Tt.tabtext n c rs).toArray⟩ : ByteArray).size ≤ 11200 := by
  rw [Tt.ba_size]
  unfold Tt.tabtext
  split
  · rename_i h
    have := Tt.ttext_pre h rs.length
    rwa [List.take_length] at this
  · simp
theorem szR60 : ∀ (rs : List Row), (∀ r ∈ rs, Row.sz r ≤ 60 ∧ Row.fits r) → szR rs ≤ 60 * rs.length
  | [], _ => by simp [szR]
  | r :: rs, h => by
    have h1 := (h r (by simp)).1
    have h2 := szR60 rs (fun r' hr' => h r' (by simp [hr']))
    simp only [szR, List.length_cons]; omega
theorem pick_pos (w : World) (b : Nat) (K : Int) (hc : Cu.Cur w b K) (hK : K ≤ 1000000000000000000) (n : Int) (h1 : 1 ≤ n) (hn' : n ≤ 1000000000000000000) :
    Calls Tryz.prog 15 #[.pointer (some ⟨b, 0, none⟩), .int .i64 n] w fun e w' => ∃ x : Int, e = .returned (.int .i64 x) ∧ 0 ≤ x ∧ x < n ∧ w.grownBy w' (some b) ∧ w'.heap.size = w.heap.size ∧ Cu.Cur w' b (K + 1) := by
  by_cases hn : n < 2
  · refine (Cu.pick_lt w b n hn).mono ?_
    rintro e w' ⟨rfl, rfl⟩
    exact ⟨0, rfl, by omega, by omega, Cu.grown_refl _ _, rfl, hc.mono (by omega)⟩
  · refine (Cu.pick_any w b K hc hK n hn').mono ?_
    rintro e w' ⟨x, rfl, x0, x1, r⟩
    exact ⟨x, rfl, x0, x1 (by omega), r⟩
theorem endTR {w V : World} {n c : Int} {Post : Ending → World → Prop} (t : Array Value) (s : ByteArray) (h2 : t[2]?.getD undef = .pointer (some ⟨w.heap.size, 0, none⟩)) (h3 : t[3]?.getD undef = .string s)
    (c0 : V.cell? ⟨w.heap.size, 0, none⟩ = some (.int .i64 n)) (c1 : V.cell? ⟨w.heap.size, 1, none⟩ = some (.int .i64 c)) (hP : Post (.returned (.tuple #[.agg #[.int .i64 n, .int .i64 c], .string s])) V) :
    bodyPost Tryz.prog Tryz.f5 Post Exit.ret { tmps := t, defers := [] } V :=
  bodyPost_ret (v := .tuple #[.agg #[.int .i64 n, .int .i64 c], .string s]) (by simp [results, Tryz.results5, go_sem, h2, h3, c0, c1]) rfl hP
-- @LEMMAS@
theorem tabCell (w : World) (y : Int) (t : ByteArray) (h0 : 0 ≤ y) (h1 : y < 7) (ht : ∀ h, ([Value.string ⟨#[]⟩, Value.string ⟨#[44]⟩, Value.string ⟨#[10]⟩, Value.string ⟨#[48]⟩, Value.string ⟨#[46]⟩, Value.string ⟨#[65]⟩, Value.string ⟨#[49, 48, 48, 48, 48, 48, 48, 46, 48, 48, 49, 44]⟩] : List Value)[y.toNat]'h = .string t) :
    (w.alloc (.cells #[.string ⟨#[]⟩, .string ⟨#[44]⟩, .string ⟨#[10]⟩, .string ⟨#[48]⟩, .string ⟨#[46]⟩, .string ⟨#[65]⟩, .string ⟨#[49, 48, 48, 48, 48, 48, 48, 46, 48, 48, 49, 44]⟩] 9)).cell? ⟨w.heap.size, y.toNat, none⟩ = some (.string t) := by
  have key : ∀ m, m < 7 → ∀ h, (w.alloc (.cells #[.string ⟨#[]⟩, .string ⟨#[44]⟩, .string ⟨#[10]⟩, .string ⟨#[48]⟩, .string ⟨#[46]⟩, .string ⟨#[65]⟩, .string ⟨#[49, 48, 48, 48, 48, 48, 48, 46, 48, 48, 49, 44]⟩] 9)).cell? ⟨w.heap.size, m, none⟩ = some (([Value.string ⟨#[]⟩, Value.string ⟨#[44]⟩, Value.string ⟨#[10]⟩, Value.string ⟨#[48]⟩, Value.string ⟨#[46]⟩, Value.string ⟨#[65]⟩, Value.string ⟨#[49, 48, 48, 48, 48, 48, 48, 46, 48, 48, 49, 44]⟩] : List Value)[m]'h) := by
    intro m hm h
    match m, hm with
    | 0, _ => simp
    | 1, _ => simp
    | 2, _ => simp
    | 3, _ => simp
    | 4, _ => simp
    | 5, _ => simp
    | 6, _ => simp
  rw [key y.toNat (by omega) (by simp; omega), ht]
theorem endC {U : World} {b : Nat} {v0 v1 : Value} {n c : Int} (h : Cell2 U b v0 v1) : ((U.setCell ⟨b, 0, none⟩ (.int .i64 n)).setCell ⟨b, 1, none⟩ (.int .i64 c)).cell? ⟨b, 0, none⟩ = some (.int .i64 n) ∧ ((U.setCell ⟨b, 0, none⟩ (.int .i64 n)).setCell ⟨b, 1, none⟩ (.int .i64 c)).cell? ⟨b, 1, none⟩ = some (.int .i64 c) := by
  obtain ⟨_, c0, c1, _, _⟩ := h
  constructor <;> simp [go_sem, c0, c1]
theorem apart2 {U : World} {b b' o : Nat} {n c : Int} (h : ¬ b = b') : ((U.setCell ⟨b, 0, none⟩ (.int .i64 n)).setCell ⟨b, 1, none⟩ (.int .i64 c)).cell? ⟨b', o, none⟩ = U.cell? ⟨b', o, none⟩ := by
  rw [World.cell?_setCell_far _ _ _ _ h, World.cell?_setCell_far _ _ _ _ h]
theorem keepS {U : World} {b b1 b2 o : Nat} {v0 v1 : Value} {n c : Int} {x : Value} (_ : Cell2 U b v0 v1) (h1 : ¬ b = b1) (h2 : ¬ b = b2) (hS : U.cell? ⟨b1, 0, none⟩ = some (.int .i64 n) ∧ U.cell? ⟨b1, 1, none⟩ = some (.int .i64 c) ∧ U.cell? ⟨b2, o, none⟩ = some x) :
    ((U.setCell ⟨b, 0, none⟩ (.int .i64 n)).setCell ⟨b, 1, none⟩ (.int .i64 c)).cell? ⟨b1, 0, none⟩ = some (.int .i64 n) ∧ ((U.setCell ⟨b, 0, none⟩ (.int .i64 n)).setCell ⟨b, 1, none⟩ (.int .i64 c)).cell? ⟨b1, 1, none⟩ = some (.int .i64 c) ∧ ((U.setCell ⟨b, 0, none⟩ (.int .i64 n)).setCell ⟨b, 1, none⟩ (.int .i64 c)).cell? ⟨b2, o, none⟩ = some x :=
  ⟨(apart2 h1).trans hS.1, (apart2 h1).trans hS.2.1, (apart2 h2).trans hS.2.2⟩
theorem keep2 {U : World} {b b1 : Nat} {v0 v1 : Value} {n c : Int} (_ : Cell2 U b v0 v1) (h1 : ¬ b = b1) (hS : U.cell? ⟨b1, 0, none⟩ = some (.int .i64 n) ∧ U.cell? ⟨b1, 1, none⟩ = some (.int .i64 c)) :
    ((U.setCell ⟨b, 0, none⟩ (.int .i64 n)).setCell ⟨b, 1, none⟩ (.int .i64 c)).cell? ⟨b1, 0, none⟩ = some (.int .i64 n) ∧ ((U.setCell ⟨b, 0, none⟩ (.int .i64 n)).setCell ⟨b, 1, none⟩ (.int .i64 c)).cell? ⟨b1, 1, none⟩ = some (.int .i64 c) :=
  ⟨(apart2 h1).trans hS.1, (apart2 h1).trans hS.2⟩
theorem size2 {U : World} {b : Nat} {n c : Int} : ((U.setCell ⟨b, 0, none⟩ (.int .i64 n)).setCell ⟨b, 1, none⟩ (.int .i64 c)).heap.size = U.heap.size := by simp [World.setCell]
theorem allocC {U : World} {b o : Nat} (O : Obj) (h : b < U.heap.size) : (U.alloc O).cell? ⟨b, o, none⟩ = U.cell? ⟨b, o, none⟩ := World.cell?_of_block (a := ⟨b, o, none⟩) (Below.heap_alloc _ _ _ h)
theorem boxS {U : World} {b b1 : Nat} {v0 v1 v2 : Value} {n c : Int} (h : Cell2 U b v0 v1) (h1 : ¬ b = b1) (hS : Box3 U b1 (.int .i64 n) (.int .i64 c) v2) (O : Obj) :
    (((U.setCell ⟨b, 0, none⟩ (.int .i64 n)).setCell ⟨b, 1, none⟩ (.int .i64 c)).alloc O).cell? ⟨b1, 0, none⟩ = some (.int .i64 n) ∧ (((U.setCell ⟨b, 0, none⟩ (.int .i64 n)).setCell ⟨b, 1, none⟩ (.int .i64 c)).alloc O).cell? ⟨b1, 1, none⟩ = some (.int .i64 c) :=
  have h2 := keep2 (n := n) (c := c) h h1 ⟨hS.2.1.1, hS.2.1.2.1⟩
  ⟨(allocC O (by rw [size2]; exact hS.1)).trans h2.1, (allocC O (by rw [size2]; exact hS.1)).trans h2.2⟩
theorem endA {U : World} {b : Nat} {v0 v1 : Value} {n c : Int} (h : Cell2 U b v0 v1) (O : Obj) : (((U.setCell ⟨b, 0, none⟩ (.int .i64 n)).setCell ⟨b, 1, none⟩ (.int .i64 c)).alloc O).cell? ⟨b, 0, none⟩ = some (.int .i64 n) ∧ (((U.setCell ⟨b, 0, none⟩ (.int .i64 n)).setCell ⟨b, 1, none⟩ (.int .i64 c)).alloc O).cell? ⟨b, 1, none⟩ = some (.int .i64 c) :=
  ⟨(allocC O (by rw [size2]; exact h.1)).trans (endC h).1, (allocC O (by rw [size2]; exact h.1)).trans (endC h).2⟩
theorem tabCell2 {n c : Int} (U : World) (b : Nat) (y : Int) (t : ByteArray) (h0 : 0 ≤ y) (h1 : y < 7) (ht : ∀ h, ([Value.string ⟨#[]⟩, Value.string ⟨#[44]⟩, Value.string ⟨#[10]⟩, Value.string ⟨#[48]⟩, Value.string ⟨#[46]⟩, Value.string ⟨#[65]⟩, Value.string ⟨#[49, 48, 48, 48, 48, 48, 48, 46, 48, 48, 49, 44]⟩] : List Value)[y.toNat]'h = .string t) :
    (((U.setCell ⟨b, 0, none⟩ (.int .i64 n)).setCell ⟨b, 1, none⟩ (.int .i64 c)).alloc (.cells #[.string ⟨#[]⟩, .string ⟨#[44]⟩, .string ⟨#[10]⟩, .string ⟨#[48]⟩, .string ⟨#[46]⟩, .string ⟨#[65]⟩, .string ⟨#[49, 48, 48, 48, 48, 48, 48, 46, 48, 48, 49, 44]⟩] 9)).cell? ⟨U.heap.size, y.toNat, none⟩ = some (.string t) := by
  have h := tabCell ((U.setCell ⟨b, 0, none⟩ (.int .i64 n)).setCell ⟨b, 1, none⟩ (.int .i64 c)) y t h0 h1 ht
  rwa [size2] at h
-- @AMMEL@
set_option maxHeartbeats 200000000 in
theorem drawTableRead (hany : ∀ (w : World) (b : Nat) (K : Int), Cu.Cur w b K → K ≤ 10000000000000 → Calls Tryz.prog 12 #[.pointer (some ⟨b, 0, none⟩)] w (Any w b K))
    (w : World) (a : Option Addr) (len cap : Nat) (hB : Cu.Bytes w w.heap.size a len) (hl : (len : Int) ≤ 1048576) :
    Calls Tryz.prog 5 #[.slice a len cap] w fun e w' => ∃ (n c : Int) (s : ByteArray), e = .returned (.tuple #[.agg #[.int .i64 n, .int .i64 c], .string s]) ∧ s.size ≤ 100000 ∧ Below w.heap.size w w' := by
  have rc := cell2_new w (.int .i64 0) (.int .i64 0) 25
  have hBa : Cu.Bytes (w.alloc (.cells #[.int .i64 0, .int .i64 0] 25)) (w.alloc (.cells #[.int .i64 0, .int .i64 0] 25)).heap.size a len :=
    hB.keptB (by simp) (fun k hk => Below.heap_alloc _ _ _ hk)
  have e0 := size_alloc w (.cells #[.int .i64 0, .int .i64 0] 25)
  go_enter Tryz.func5, Tryz.ntmps5
  go_wp2_with fail
  obtain ⟨W, hW⟩ : ∃ W, w.alloc (.cells #[.int .i64 0, .int .i64 0] 25) = W := ⟨_, rfl⟩
  rw [hW] at rc hBa e0 ⊢
  have hBW : Below w.heap.size w W := by rw [← hW]; exact (Below.refl _ _).alloc (Nat.le_refl _) _
  have hs0 : w.heap.size < W.heap.size := by omega
  clear hW e0
  refine (Cu.open_any _ _ _ _ hBa hl).mono ?_
  rintro e w1 ⟨rfl, hg1, hc1⟩
  have rc1 := rc.cur hg1 (by omega)
  go_wp2_with fail
  refine (hany _ _ _ hc1 (by omega)).mono ?_
  rintro e w2 ⟨n, c, ar, cp, rs, rfl, hb, hR, hg2, hc2⟩
  have rc2 := rc1.cur hg2 (by omega)
  have hgg := Cu.grown_trans hg1 hg2
  have hBB : Below w.heap.size w w2 := hBW.trans (Cu.grown_below hgg (by omega) (by omega))
  have hsz := szR60 rs hb.2
  have hlr : rs.length + szR rs ≤ 1048576 := by have := hb.1; omega
  have hW2 : W.heap.size < w2.heap.size := hc2.lt
  have hR2 : IsR (w2.alloc (.cells #[.int .i64 n, .int .i64 c, .slice ar rs.length cp] 30)) ar rs := hR _ (by simp) (fun k hk _ => Below.heap_alloc _ _ _ hk)
  have bt := box3_new w2 (.int .i64 n) (.int .i64 c) (.slice ar rs.length cp) 30
  replace rc2 := rc2.alloc (.cells #[.int .i64 n, .int .i64 c, .slice ar rs.length cp] 30)
  replace hc2 := hc2.alloc (.cells #[.int .i64 n, .int .i64 c, .slice ar rs.length cp] 30)
  replace hBB := hBB.alloc hBB.size (.cells #[.int .i64 n, .int .i64 c, .slice ar rs.length cp] 30)
  clear hg1 hg2 hgg hR hb hsz hBa hB rc rc1 hc1 hBW
  go_wp2_with fail
  refine (Tt.sttext _ n c ar cp rs hR2 hlr).mono ?_
  rintro e w3 ⟨rfl, hB3⟩
  replace bt := bt.below hB3
  have rc3 := rc2.below hB3
  have hc3 := hc2.kept hB3.size (fun k hk => hB3.block k hk)
  replace hBB := hBB.trans (hB3.mono hBB.size)
  have hts := tab_le n c rs
  obtain ⟨s, es⟩ : ∃ s, (⟨(Tt.tabtext n c rs).toArray⟩ : ByteArray) = s := ⟨_, rfl⟩
  rw [es] at hts ⊢
  have h23 : w2.heap.size < w3.heap.size := bt.1
  clear es hB3 hR2 hlr rc2 hc2
  go_wp2_with fail
  refine (Cu.once_any _ _ _ hc3 (by omega) _ (by omega) (by omega)).mono ?_
  rintro e w4 ⟨t, rfl, hg4, hz4, hc4⟩
  replace bt := box3_cur bt hg4 (by omega)
  have rc4 := rc3.cur hg4 (by omega)
  replace hBB := belN hBB hg4 (by omega) (by omega)
  have h24 : w2.heap.size < w4.heap.size := bt.1
  clear hg4 hz4 hc3 rc3 h23
  cases t
  · obtain ⟨hbt, ⟨t0, t1, t2⟩, _⟩ := id bt
    obtain ⟨hr, r0, r1, rf0, rf1⟩ := id rc4
    go_wp2
    refine bodyPost_ret (v := .tuple #[.agg #[.int .i64 n, .int .i64 c], .string s]) (by simp [results, Tryz.results5, go_sem, r0, r1]) rfl ⟨n, c, s, rfl, by omega, ?_⟩
    exact (hBB.setCell (p := ⟨w.heap.size, 0, none⟩) (Nat.le_refl _) _).setCell (p := ⟨w.heap.size, 1, none⟩) (Nat.le_refl _) _
  · go_wp2_with fail
    refine (pick_pos _ _ _ hc4 (by omega) _ (by omega) (by omega)).mono ?_
    rintro e w5 ⟨k, rfl, k0, k1, hg5, hz5, hc5⟩
    have k2 : k ≤ (s.size : Int) := by omega
    replace bt := box3_cur bt hg5 (by omega)
    have rc5 := rc4.cur hg5 (by omega)
    replace hBB := belN hBB hg5 (by omega) (by omega)
    have h25 : w2.heap.size < w5.heap.size := bt.1
    have hlt5 : W.heap.size < w5.heap.size := hc5.lt
    obtain ⟨hbt, ⟨t0, t1, -⟩, -⟩ := id bt
    have HBT : Hid (Box3 w5 w2.heap.size (.int .i64 n) (.int .i64 c) (.slice ar rs.length cp)) := bt
    have HRC : Hid (Cell2 w5 w.heap.size (.int .i64 0) (.int .i64 0)) := rc5
    have HBB : Hid (Below w.heap.size w w5) := hBB
    have hC5 : Hid (Cu.Cur w5 W.heap.size (0 + 2000 + 1 + 1)) := hc5
    have hne : ¬ w.heap.size = w2.heap.size := by omega
    have hne' : w.heap.size ≠ w2.heap.size := hne
    have hbX : ¬ w2.heap.size = W.heap.size := by omega
    have hwW : ¬ w.heap.size = W.heap.size := by omega
    have HTS : Hid (s.size ≤ 11200) := hts
    clear hg5 hz5 hc4 k1 rc4 h24 bt rc5 hBB hc5 hbt hany hl
    go_wp2_with fail
    rename_i K1 hK1 K2 hK2
    have HK1 : Hid (type_of% hK1) := hK1
    have HK2 : Hid (type_of% hK2) := hK2
    clear hK1 hK2
    -- @REGION@
    have hS : w5.drew.cell? ⟨w2.heap.size, 0, none⟩ = some (.int .i64 n) ∧ w5.drew.cell? ⟨w2.heap.size, 1, none⟩ = some (.int .i64 c) := ⟨t0, t1⟩
    refine Hs.start (fun U => U.cell? ⟨w2.heap.size, 0, none⟩ = some (.int .i64 n) ∧ U.cell? ⟨w2.heap.size, 1, none⟩ = some (.int .i64 c)) (by kernel_rfl) ?_
    refine Hs.takeD (i := 0) (some 21) (.pointer (some ⟨w2.heap.size, 0, none⟩)) rfl rfl (by kernel_rfl) (by kernel_rfl) (by kernel_rfl) (fun _ _ _ h => h) hS (Or.inl ⟨by rfl, ?_⟩) ?_
    · rintro U ⟨u0, u1⟩; go_simp; try with_reducible rfl
    try simp only [Act.put]
    refine Hs.takeD (i := 1) (some 22) (.agg #[.int .i64 n, .int .i64 c]) rfl rfl (by kernel_rfl) (by kernel_rfl) (by kernel_rfl) (fun _ _ _ h => h) hS (Or.inl ⟨by rfl, ?_⟩) ?_
    · rintro U ⟨u0, u1⟩; go_simp; try with_reducible rfl
    try simp only [Act.put]
    refine Hs.takeD (i := 2) (some 23) (.string s) rfl rfl (by kernel_rfl) (by kernel_rfl) (by kernel_rfl) (fun _ _ _ h => h) hS (Or.inl ⟨by rfl, ?_⟩) ?_
    · rintro U ⟨u0, u1⟩; go_simp; try with_reducible rfl
    try simp only [Act.put]
    refine Hs.takeD (i := 3) (some 24) (.int .i64 k) rfl rfl (by kernel_rfl) (by kernel_rfl) (by kernel_rfl) (fun _ _ _ h => h) hS (Or.inl ⟨by rfl, ?_⟩) ?_
    · rintro U ⟨u0, u1⟩; go_simp; try with_reducible rfl
    try simp only [Act.put]
    refine Hs.takeD (i := 4) (some 25) (.string (s.extract 0 k.toNat)) rfl rfl (by kernel_rfl) (by kernel_rfl) (by kernel_rfl) (fun _ _ _ h => h) hS (Or.inl ⟨by rfl, ?_⟩) ?_
    · rintro U ⟨u0, u1⟩; go_simp; try with_reducible rfl
    try simp only [Act.put]
    refine Hs.takeD (i := 6) (some 27) (.pointer (some ⟨W.heap.size, 0, none⟩)) rfl rfl (by kernel_rfl) (by kernel_rfl) (by kernel_rfl) (fun _ _ _ h => h) hS (Or.inl ⟨by rfl, ?_⟩) ?_
    · rintro U ⟨u0, u1⟩; go_simp; try with_reducible rfl
    try simp only [Act.put]
    refine Hs.takeD (i := 11) (some 32) (.string s) rfl rfl (by kernel_rfl) (by kernel_rfl) (by kernel_rfl) (fun _ _ _ h => h) hS (Or.inl ⟨by rfl, ?_⟩) ?_
    · rintro U ⟨u0, u1⟩; go_simp; try with_reducible rfl
    try simp only [Act.put]
    refine Hs.takeD (i := 12) (some 33) (.string s) rfl rfl (by kernel_rfl) (by kernel_rfl) (by kernel_rfl) (fun _ _ _ h => h) hS (Or.inl ⟨by rfl, ?_⟩) ?_
    · rintro U ⟨u0, u1⟩; go_simp; try with_reducible rfl
    try simp only [Act.put]
    refine Hs.takeD (i := 13) (some 34) (.int .i64 s.size) rfl rfl (by kernel_rfl) (by kernel_rfl) (by kernel_rfl) (fun _ _ _ h => h) hS (Or.inl ⟨by rfl, ?_⟩) ?_
    · rintro U ⟨u0, u1⟩; go_simp; try with_reducible rfl
    try simp only [Act.put]
    refine Hs.takeD (i := 14) (some 35) (.int .i64 k) rfl rfl (by kernel_rfl) (by kernel_rfl) (by kernel_rfl) (fun _ _ _ h => h) hS (Or.inl ⟨by rfl, ?_⟩) ?_
    · rintro U ⟨u0, u1⟩; go_simp; try with_reducible rfl
    try simp only [Act.put]
    refine Hs.takeD (i := 15) (some 36) (.pointer (some ⟨W.heap.size, 0, none⟩)) rfl rfl (by kernel_rfl) (by kernel_rfl) (by kernel_rfl) (fun _ _ _ h => h) hS (Or.inl ⟨by rfl, ?_⟩) ?_
    · rintro U ⟨u0, u1⟩; go_simp; try with_reducible rfl
    try simp only [Act.put]
    have hneW : ¬ w.heap.size = w5.heap.size := by omega
    refine Hs.two (i := 5) (j := 7) (by kernel_rfl) rfl rfl rfl rfl ?_ ?_
    · skip
      intro K5 hK5
      go_simp
      have hbA := Box3.alloc (w := World.drew _) HBT.out (.cells #[.string ⟨#[]⟩, .string ⟨#[44]⟩, .string ⟨#[10]⟩, .string ⟨#[48]⟩, .string ⟨#[46]⟩, .string ⟨#[65]⟩, .string ⟨#[49, 48, 48, 48, 48, 48, 48, 46, 48, 48, 49, 44]⟩] 9)
      refine hK5 _ _ ⟨hbA.2.1.1, hbA.2.1.2.1⟩ ?_
      clear hK5 K5
      try simp only [Act.put]
      refine Hs.one (i := 7) (by kernel_rfl) rfl rfl ?_
      intro K7 hK7
      go_simp
      go_wp2_with (go_at_call 15; refine (Cu.pick_any _ _ _ (hC5.out.drew.alloc _) (by omega) _ (by omega)).mono ?_; rintro e w6 ⟨y, rfl, y0, y1, hg6, hz6, hc6⟩)
      have y2 := y1 (by omega)
      obtain ⟨t, ht, hts'⟩ := tabS y y0 (by omega)
      have hcat : ¬ 9223372036854775807 < k.toNat + t.size := by omega
      have HRC6 : Hid (Cell2 w6 w.heap.size (.int .i64 0) (.int .i64 0)) := (HRC.out.drew.alloc _).cur hg6 hwW
      have HBT6 : Hid (Box3 w6 w2.heap.size (.int .i64 n) (.int .i64 c) (.slice ar rs.length cp)) := box3_cur (Box3.alloc (w := World.drew _) HBT.out _) hg6 hbX
      have HBB6 : Hid (Below w.heap.size w w6) := belN (HBB.out.drew.alloc (by first | omega | (simp; omega)) _) hg6 (by omega) (by first | omega | (simp; omega))
      have hC6 : Hid (Cu.Cur w6 W.heap.size _) := hc6
      have hS6 := And.intro HBT6.out.2.1.1 HBT6.out.2.1.2.1
      have hlt6 : W.heap.size < w6.heap.size := hc6.lt
      have hlt56 : w5.heap.size < w6.heap.size := by rw [hz6]; simp
      have hx6 : w6.cell? ⟨w5.heap.size, y.toNat, none⟩ = some (.string t) := (keptC hg6 _ _ hlt5 (by simp)).trans (tabCell (World.drew _) y t y0 y2 ht)
      clear hg6 hz6 hc6 y1
      refine hK7 _ _ hS6 ?_
      clear hK7 K7
      try simp only [Act.put]
      refine Hs.more (S' := fun U => U.cell? ⟨w2.heap.size, 0, none⟩ = some (.int .i64 n) ∧ U.cell? ⟨w2.heap.size, 1, none⟩ = some (.int .i64 c) ∧ U.cell? ⟨w5.heap.size, y.toNat, none⟩ = some (.string t)) (fun _ h => ⟨h.1, h.2.1⟩) ?_
      have hSx := And.intro HBT6.out.2.1.1 (And.intro HBT6.out.2.1.2.1 hx6)
      refine Hs.takeD (i := 8) (some 29) (.pointer (some ⟨w5.heap.size, y.toNat, none⟩)) rfl rfl (by kernel_rfl) (by kernel_rfl) (by kernel_rfl) (fun _ _ _ h => h) hSx (Or.inl ⟨by rfl, ?_⟩) ?_
      · rintro U ⟨u0, u1, u2⟩; go_simp; try with_reducible rfl
      try simp only [Act.put]
      refine Hs.takeD (i := 9) (some 30) (.string t) rfl rfl (by kernel_rfl) (by kernel_rfl) (by kernel_rfl) (fun _ _ _ h => h) hSx (Or.inl ⟨by rfl, ?_⟩) ?_
      · rintro U ⟨u0, u1, u2⟩; go_simp; try with_reducible rfl
      try simp only [Act.put]
      refine Hs.takeD (i := 10) (some 31) (.string (s.extract 0 k.toNat ++ t)) rfl rfl (by kernel_rfl) (by kernel_rfl) (by kernel_rfl) (fun _ _ _ h => h) hSx (Or.inl ⟨by rfl, ?_⟩) ?_
      · rintro U ⟨u0, u1, u2⟩; go_simp; try with_reducible rfl
      try simp only [Act.put]
      refine Hs.one (i := 16) (by kernel_rfl) rfl rfl ?_
      intro K16 hK16
      go_simp
      go_wp2_with (go_at_call 15; refine (Cu.pick_any _ _ _ (hC6.out) (by omega) _ (by omega)).mono ?_; rintro e w7 ⟨z, rfl, z0, z1, hg7, hz7, hc7⟩)
      have z2 := z1 (by omega)
      have hwr : IntKind.i64.wrap (k + z) = k + z := by rw [IntKind.wrap_i64]; omega
      have m0 : 0 ≤ min (s.size : Int) (k + z) := by omega
      have m1 : min (s.size : Int) (k + z) ≤ (s.size : Int) := by omega
      have hcat2 : ¬ 9223372036854775807 < k.toNat + t.size + (s.size - (min (s.size : Int) (k + z)).toNat) := by omega
      have HRC7 : Hid (Cell2 w7 w.heap.size (.int .i64 0) (.int .i64 0)) := HRC6.out.cur hg7 hwW
      have HBT7 : Hid (Box3 w7 w2.heap.size (.int .i64 n) (.int .i64 c) (.slice ar rs.length cp)) := box3_cur HBT6.out hg7 hbX
      have HBB7 : Hid (Below w.heap.size w w7) := belN HBB6.out hg7 (by omega) (by first | omega | (simp; omega))
      have hx7 : w7.cell? ⟨w5.heap.size, y.toNat, none⟩ = some (.string t) := (keptC hg7 _ _ hlt5 (by first | omega | (simp; done) | (simp; omega))).trans hx6
      have hS7 := And.intro HBT7.out.2.1.1 (And.intro HBT7.out.2.1.2.1 hx7)
      have hlt7 : W.heap.size < w7.heap.size := hc7.lt
      clear hg7 hz7 hc7 z1
      refine hK16 _ _ hS7 ?_
      clear hK16 K16
      try simp only [Act.put]
      refine Hs.takeD (i := 17) (some 38) (.int .i64 (k + z)) rfl rfl (by kernel_rfl) (by kernel_rfl) (by kernel_rfl) (fun _ _ _ h => h) hS7 (Or.inl ⟨by rfl, ?_⟩) ?_
      · rintro U ⟨u0, u1, u2⟩; go_simp; try with_reducible rfl
      try simp only [Act.put]
      refine Hs.takeD (i := 18) (some 39) (.int .i64 (min (s.size : Int) (k + z))) rfl rfl (by kernel_rfl) (by kernel_rfl) (by kernel_rfl) (fun _ _ _ h => h) hS7 (Or.inl ⟨by rfl, ?_⟩) ?_
      · rintro U ⟨u0, u1, u2⟩; go_simp; try with_reducible rfl
      try simp only [Act.put]
      refine Hs.takeD (i := 19) (some 40) (.string (s.extract (min (s.size : Int) (k + z)).toNat s.size)) rfl rfl (by kernel_rfl) (by kernel_rfl) (by kernel_rfl) (fun _ _ _ h => h) hS7 (Or.inl ⟨by rfl, ?_⟩) ?_
      · rintro U ⟨u0, u1, u2⟩; go_simp; try with_reducible rfl
      try simp only [Act.put]
      refine Hs.takeD (i := 20) (some 41) (.string (s.extract 0 k.toNat ++ t ++ s.extract (min (s.size : Int) (k + z)).toNat s.size)) rfl rfl (by kernel_rfl) (by kernel_rfl) (by kernel_rfl) (fun _ _ _ h => h) hS7 (Or.inl ⟨by rfl, ?_⟩) ?_
      · rintro U ⟨u0, u1, u2⟩; go_simp; try with_reducible rfl
      try simp only [Act.put]
      have hnb : ¬ w.heap.size = w5.heap.size := Nat.ne_of_lt (Nat.lt_trans hs0 hlt5)
      have hrc := HRC7.out
      obtain ⟨hr7, q0, q1, qf0, qf1⟩ := hrc
      refine Hs.one (i := 21) (by kernel_rfl) rfl rfl ?_
      intro K21 hK21
      go_simp
      have hS8 := keepS (n := n) (c := c) HRC7.out hne hnb hS7
      refine hK21 _ _ hS8 ?_
      clear hK21 K21
      try simp only [Act.put]
      refine Hs.takeD (i := 22) (some 3) (.string (s.extract 0 k.toNat ++ t ++ s.extract (min (s.size : Int) (k + z)).toNat s.size)) rfl rfl (by kernel_rfl) (by kernel_rfl) (by kernel_rfl) (fun _ _ _ h => h) hS8 (Or.inl ⟨by rfl, ?_⟩) ?_
      · rintro U ⟨u0, u1, u2⟩; go_simp; try with_reducible rfl
      try simp only [Act.put]
      refine wpAnyH_done (by kernel_rfl) ?_ _
      have hK1 := HK1.out
      have hK2 := HK2.out
      clear HK1 HK2
      have hE := endC (n := n) (c := c) HRC7.out
      have hF : Below w.heap.size w (((w7).setCell ⟨w.heap.size, 0, none⟩ (.int .i64 n)).setCell ⟨w.heap.size, 1, none⟩ (.int .i64 c)) := (HBB7.out.setCell (p := ⟨w.heap.size, 0, none⟩) (Nat.le_refl _) _).setCell (p := ⟨w.heap.size, 1, none⟩) (Nat.le_refl _) _
      obtain ⟨V, hV⟩ : ∃ V, ((w7).setCell ⟨w.heap.size, 0, none⟩ (.int .i64 n)).setCell ⟨w.heap.size, 1, none⟩ (.int .i64 c) = V := ⟨_, rfl⟩
      rw [hV] at hE hF ⊢
      clear hV
      obtain ⟨e0, e1⟩ := hE
      go_wp2
      exact endTR (w := w) (n := n) (c := c) _ _ rfl rfl e0 e1 ⟨n, c, _, rfl, szS _ _ _ _ _ HTS.out hts', hF⟩
    · skip
      intro K7 hK7
      go_simp
      go_wp2_with (go_at_call 15; refine (Cu.pick_any _ _ _ (hC5.out.drew) (by omega) _ (by omega)).mono ?_; rintro e w6 ⟨y, rfl, y0, y1, hg6, hz6, hc6⟩)
      have y2 := y1 (by omega)
      obtain ⟨t, ht, hts'⟩ := tabS y y0 (by omega)
      have hcat : ¬ 9223372036854775807 < k.toNat + t.size := by omega
      have HRC6 : Hid (Cell2 w6 w.heap.size (.int .i64 0) (.int .i64 0)) := HRC.out.drew.cur hg6 hwW
      have HBT6 : Hid (Box3 w6 w2.heap.size (.int .i64 n) (.int .i64 c) (.slice ar rs.length cp)) := box3_cur (w := World.drew _) HBT.out hg6 hbX
      have HBB6 : Hid (Below w.heap.size w w6) := belN HBB.out.drew hg6 (by omega) (by first | omega | (simp; omega))
      have hC6 : Hid (Cu.Cur w6 W.heap.size _) := hc6
      have hS6 := And.intro HBT6.out.2.1.1 HBT6.out.2.1.2.1
      have hlt6 : W.heap.size < w6.heap.size := hc6.lt
      clear hg6 hz6 hc6 y1
      refine hK7 _ _ hS6 ?_
      clear hK7 K7
      try simp only [Act.put]
      refine Hs.two (i := 5) (j := 16) (by kernel_rfl) rfl rfl rfl rfl ?_ ?_
      · skip
        intro K5 hK5
        go_simp
        have hbA := HBT6.out.alloc (.cells #[.string ⟨#[]⟩, .string ⟨#[44]⟩, .string ⟨#[10]⟩, .string ⟨#[48]⟩, .string ⟨#[46]⟩, .string ⟨#[65]⟩, .string ⟨#[49, 48, 48, 48, 48, 48, 48, 46, 48, 48, 49, 44]⟩] 9)
        refine hK5 _ _ ⟨hbA.2.1.1, hbA.2.1.2.1⟩ ?_
        clear hK5 K5
        try simp only [Act.put]
        refine Hs.more (S' := fun U => U.cell? ⟨w2.heap.size, 0, none⟩ = some (.int .i64 n) ∧ U.cell? ⟨w2.heap.size, 1, none⟩ = some (.int .i64 c) ∧ U.cell? ⟨w6.heap.size, y.toNat, none⟩ = some (.string t)) (fun _ h => ⟨h.1, h.2.1⟩) ?_
        have hSx := And.intro hbA.2.1.1 (And.intro hbA.2.1.2.1 (tabCell w6 y t y0 y2 ht))
        refine Hs.takeD (i := 8) (some 29) (.pointer (some ⟨w6.heap.size, y.toNat, none⟩)) rfl rfl (by kernel_rfl) (by kernel_rfl) (by kernel_rfl) (fun _ _ _ h => h) hSx (Or.inl ⟨by rfl, ?_⟩) ?_
        · rintro U ⟨u0, u1, u2⟩; go_simp; try with_reducible rfl
        try simp only [Act.put]
        refine Hs.takeD (i := 9) (some 30) (.string t) rfl rfl (by kernel_rfl) (by kernel_rfl) (by kernel_rfl) (fun _ _ _ h => h) hSx (Or.inl ⟨by rfl, ?_⟩) ?_
        · rintro U ⟨u0, u1, u2⟩; go_simp; try with_reducible rfl
        try simp only [Act.put]
        refine Hs.takeD (i := 10) (some 31) (.string (s.extract 0 k.toNat ++ t)) rfl rfl (by kernel_rfl) (by kernel_rfl) (by kernel_rfl) (fun _ _ _ h => h) hSx (Or.inl ⟨by rfl, ?_⟩) ?_
        · rintro U ⟨u0, u1, u2⟩; go_simp; try with_reducible rfl
        try simp only [Act.put]
        refine Hs.one (i := 16) (by kernel_rfl) rfl rfl ?_
        intro K16 hK16
        go_simp
        go_wp2_with (go_at_call 15; refine (Cu.pick_any _ _ _ (hC6.out.alloc _) (by omega) _ (by omega)).mono ?_; rintro e w7 ⟨z, rfl, z0, z1, hg7, hz7, hc7⟩)
        have z2 := z1 (by omega)
        have hwr : IntKind.i64.wrap (k + z) = k + z := by rw [IntKind.wrap_i64]; omega
        have m0 : 0 ≤ min (s.size : Int) (k + z) := by omega
        have m1 : min (s.size : Int) (k + z) ≤ (s.size : Int) := by omega
        have hcat2 : ¬ 9223372036854775807 < k.toNat + t.size + (s.size - (min (s.size : Int) (k + z)).toNat) := by omega
        have HRC7 : Hid (Cell2 w7 w.heap.size (.int .i64 0) (.int .i64 0)) := (HRC6.out.alloc _).cur hg7 hwW
        have HBT7 : Hid (Box3 w7 w2.heap.size (.int .i64 n) (.int .i64 c) (.slice ar rs.length cp)) := box3_cur (HBT6.out.alloc _) hg7 hbX
        have HBB7 : Hid (Below w.heap.size w w7) := belN (HBB6.out.alloc (by first | omega | (simp; omega)) _) hg7 (by omega) (by first | omega | (simp; omega))
        have hx7 : w7.cell? ⟨w6.heap.size, y.toNat, none⟩ = some (.string t) := (keptC hg7 _ _ hlt6 (by first | omega | (simp; done) | (simp; omega))).trans (tabCell _ y t y0 y2 ht)
        have hS7 := And.intro HBT7.out.2.1.1 (And.intro HBT7.out.2.1.2.1 hx7)
        have hlt7 : W.heap.size < w7.heap.size := hc7.lt
        clear hg7 hz7 hc7 z1
        refine hK16 _ _ hS7 ?_
        clear hK16 K16
        try simp only [Act.put]
        refine Hs.takeD (i := 17) (some 38) (.int .i64 (k + z)) rfl rfl (by kernel_rfl) (by kernel_rfl) (by kernel_rfl) (fun _ _ _ h => h) hS7 (Or.inl ⟨by rfl, ?_⟩) ?_
        · rintro U ⟨u0, u1, u2⟩; go_simp; try with_reducible rfl
        try simp only [Act.put]
        refine Hs.takeD (i := 18) (some 39) (.int .i64 (min (s.size : Int) (k + z))) rfl rfl (by kernel_rfl) (by kernel_rfl) (by kernel_rfl) (fun _ _ _ h => h) hS7 (Or.inl ⟨by rfl, ?_⟩) ?_
        · rintro U ⟨u0, u1, u2⟩; go_simp; try with_reducible rfl
        try simp only [Act.put]
        refine Hs.takeD (i := 19) (some 40) (.string (s.extract (min (s.size : Int) (k + z)).toNat s.size)) rfl rfl (by kernel_rfl) (by kernel_rfl) (by kernel_rfl) (fun _ _ _ h => h) hS7 (Or.inl ⟨by rfl, ?_⟩) ?_
        · rintro U ⟨u0, u1, u2⟩; go_simp; try with_reducible rfl
        try simp only [Act.put]
        refine Hs.takeD (i := 20) (some 41) (.string (s.extract 0 k.toNat ++ t ++ s.extract (min (s.size : Int) (k + z)).toNat s.size)) rfl rfl (by kernel_rfl) (by kernel_rfl) (by kernel_rfl) (fun _ _ _ h => h) hS7 (Or.inl ⟨by rfl, ?_⟩) ?_
        · rintro U ⟨u0, u1, u2⟩; go_simp; try with_reducible rfl
        try simp only [Act.put]
        have hnb : ¬ w.heap.size = w6.heap.size := Nat.ne_of_lt (Nat.lt_trans hs0 hlt6)
        have hrc := HRC7.out
        obtain ⟨hr7, q0, q1, qf0, qf1⟩ := hrc
        refine Hs.one (i := 21) (by kernel_rfl) rfl rfl ?_
        intro K21 hK21
        go_simp
        have hS8 := keepS (n := n) (c := c) HRC7.out hne hnb hS7
        refine hK21 _ _ hS8 ?_
        clear hK21 K21
        try simp only [Act.put]
        refine Hs.takeD (i := 22) (some 3) (.string (s.extract 0 k.toNat ++ t ++ s.extract (min (s.size : Int) (k + z)).toNat s.size)) rfl rfl (by kernel_rfl) (by kernel_rfl) (by kernel_rfl) (fun _ _ _ h => h) hS8 (Or.inl ⟨by rfl, ?_⟩) ?_
        · rintro U ⟨u0, u1, u2⟩; go_simp; try with_reducible rfl
        try simp only [Act.put]
        refine wpAnyH_done (by kernel_rfl) ?_ _
        have hK1 := HK1.out
        have hK2 := HK2.out
        clear HK1 HK2
        have hE := endC (n := n) (c := c) HRC7.out
        have hF : Below w.heap.size w (((w7).setCell ⟨w.heap.size, 0, none⟩ (.int .i64 n)).setCell ⟨w.heap.size, 1, none⟩ (.int .i64 c)) := (HBB7.out.setCell (p := ⟨w.heap.size, 0, none⟩) (Nat.le_refl _) _).setCell (p := ⟨w.heap.size, 1, none⟩) (Nat.le_refl _) _
        obtain ⟨V, hV⟩ : ∃ V, ((w7).setCell ⟨w.heap.size, 0, none⟩ (.int .i64 n)).setCell ⟨w.heap.size, 1, none⟩ (.int .i64 c) = V := ⟨_, rfl⟩
        rw [hV] at hE hF ⊢
        clear hV
        obtain ⟨e0, e1⟩ := hE
        go_wp2
        exact endTR (w := w) (n := n) (c := c) _ _ rfl rfl e0 e1 ⟨n, c, _, rfl, szS _ _ _ _ _ HTS.out hts', hF⟩
      · skip
        intro K16 hK16
        go_simp
        go_wp2_with (go_at_call 15; refine (Cu.pick_any _ _ _ (hC6.out) (by omega) _ (by omega)).mono ?_; rintro e w7 ⟨z, rfl, z0, z1, hg7, hz7, hc7⟩)
        have z2 := z1 (by omega)
        have hwr : IntKind.i64.wrap (k + z) = k + z := by rw [IntKind.wrap_i64]; omega
        have m0 : 0 ≤ min (s.size : Int) (k + z) := by omega
        have m1 : min (s.size : Int) (k + z) ≤ (s.size : Int) := by omega
        have hcat2 : ¬ 9223372036854775807 < k.toNat + t.size + (s.size - (min (s.size : Int) (k + z)).toNat) := by omega
        have HRC7 : Hid (Cell2 w7 w.heap.size (.int .i64 0) (.int .i64 0)) := HRC6.out.cur hg7 hwW
        have HBT7 : Hid (Box3 w7 w2.heap.size (.int .i64 n) (.int .i64 c) (.slice ar rs.length cp)) := box3_cur HBT6.out hg7 hbX
        have HBB7 : Hid (Below w.heap.size w w7) := belN HBB6.out hg7 (by omega) (by first | omega | (simp; omega))
        have hS7 := And.intro HBT7.out.2.1.1 HBT7.out.2.1.2.1
        have hlt7 : W.heap.size < w7.heap.size := hc7.lt
        clear hg7 hz7 hc7 z1
        refine hK16 _ _ hS7 ?_
        clear hK16 K16
        try simp only [Act.put]
        refine Hs.takeD (i := 17) (some 38) (.int .i64 (k + z)) rfl rfl (by kernel_rfl) (by kernel_rfl) (by kernel_rfl) (fun _ _ _ h => h) hS7 (Or.inl ⟨by rfl, ?_⟩) ?_
        · rintro U ⟨u0, u1⟩; go_simp; try with_reducible rfl
        try simp only [Act.put]
        refine Hs.takeD (i := 18) (some 39) (.int .i64 (min (s.size : Int) (k + z))) rfl rfl (by kernel_rfl) (by kernel_rfl) (by kernel_rfl) (fun _ _ _ h => h) hS7 (Or.inl ⟨by rfl, ?_⟩) ?_
        · rintro U ⟨u0, u1⟩; go_simp; try with_reducible rfl
        try simp only [Act.put]
        refine Hs.takeD (i := 19) (some 40) (.string (s.extract (min (s.size : Int) (k + z)).toNat s.size)) rfl rfl (by kernel_rfl) (by kernel_rfl) (by kernel_rfl) (fun _ _ _ h => h) hS7 (Or.inl ⟨by rfl, ?_⟩) ?_
        · rintro U ⟨u0, u1⟩; go_simp; try with_reducible rfl
        try simp only [Act.put]
        have hnb : ¬ w.heap.size = w7.heap.size := Nat.ne_of_lt (Nat.lt_trans hs0 hlt7)
        refine Hs.two (i := 5) (j := 21) (by kernel_rfl) rfl rfl rfl rfl ?_ ?_
        · skip
          intro K5 hK5
          go_simp
          have hbA := HBT7.out.alloc (.cells #[.string ⟨#[]⟩, .string ⟨#[44]⟩, .string ⟨#[10]⟩, .string ⟨#[48]⟩, .string ⟨#[46]⟩, .string ⟨#[65]⟩, .string ⟨#[49, 48, 48, 48, 48, 48, 48, 46, 48, 48, 49, 44]⟩] 9)
          refine hK5 _ _ ⟨hbA.2.1.1, hbA.2.1.2.1⟩ ?_
          clear hK5 K5
          try simp only [Act.put]
          refine Hs.more (S' := fun U => U.cell? ⟨w2.heap.size, 0, none⟩ = some (.int .i64 n) ∧ U.cell? ⟨w2.heap.size, 1, none⟩ = some (.int .i64 c) ∧ U.cell? ⟨w7.heap.size, y.toNat, none⟩ = some (.string t)) (fun _ h => ⟨h.1, h.2.1⟩) ?_
          have hSx := And.intro hbA.2.1.1 (And.intro hbA.2.1.2.1 (tabCell w7 y t y0 y2 ht))
          refine Hs.takeD (i := 8) (some 29) (.pointer (some ⟨w7.heap.size, y.toNat, none⟩)) rfl rfl (by kernel_rfl) (by kernel_rfl) (by kernel_rfl) (fun _ _ _ h => h) hSx (Or.inl ⟨by rfl, ?_⟩) ?_
          · rintro U ⟨u0, u1, u2⟩; go_simp; try with_reducible rfl
          try simp only [Act.put]
          refine Hs.takeD (i := 9) (some 30) (.string t) rfl rfl (by kernel_rfl) (by kernel_rfl) (by kernel_rfl) (fun _ _ _ h => h) hSx (Or.inl ⟨by rfl, ?_⟩) ?_
          · rintro U ⟨u0, u1, u2⟩; go_simp; try with_reducible rfl
          try simp only [Act.put]
          refine Hs.takeD (i := 10) (some 31) (.string (s.extract 0 k.toNat ++ t)) rfl rfl (by kernel_rfl) (by kernel_rfl) (by kernel_rfl) (fun _ _ _ h => h) hSx (Or.inl ⟨by rfl, ?_⟩) ?_
          · rintro U ⟨u0, u1, u2⟩; go_simp; try with_reducible rfl
          try simp only [Act.put]
          refine Hs.takeD (i := 20) (some 41) (.string (s.extract 0 k.toNat ++ t ++ s.extract (min (s.size : Int) (k + z)).toNat s.size)) rfl rfl (by kernel_rfl) (by kernel_rfl) (by kernel_rfl) (fun _ _ _ h => h) hSx (Or.inl ⟨by rfl, ?_⟩) ?_
          · rintro U ⟨u0, u1, u2⟩; go_simp; try with_reducible rfl
          try simp only [Act.put]
          have hrc := HRC7.out.alloc (.cells #[.string ⟨#[]⟩, .string ⟨#[44]⟩, .string ⟨#[10]⟩, .string ⟨#[48]⟩, .string ⟨#[46]⟩, .string ⟨#[65]⟩, .string ⟨#[49, 48, 48, 48, 48, 48, 48, 46, 48, 48, 49, 44]⟩] 9)
          obtain ⟨hr7, q0, q1, qf0, qf1⟩ := hrc
          refine Hs.one (i := 21) (by kernel_rfl) rfl rfl ?_
          intro K21 hK21
          go_simp
          have hS8 := keepS (n := n) (c := c) (HRC7.out.alloc (.cells #[.string ⟨#[]⟩, .string ⟨#[44]⟩, .string ⟨#[10]⟩, .string ⟨#[48]⟩, .string ⟨#[46]⟩, .string ⟨#[65]⟩, .string ⟨#[49, 48, 48, 48, 48, 48, 48, 46, 48, 48, 49, 44]⟩] 9)) hne hnb hSx
          refine hK21 _ _ hS8 ?_
          clear hK21 K21
          try simp only [Act.put]
          refine Hs.takeD (i := 22) (some 3) (.string (s.extract 0 k.toNat ++ t ++ s.extract (min (s.size : Int) (k + z)).toNat s.size)) rfl rfl (by kernel_rfl) (by kernel_rfl) (by kernel_rfl) (fun _ _ _ h => h) hS8 (Or.inl ⟨by rfl, ?_⟩) ?_
          · rintro U ⟨u0, u1, u2⟩; go_simp; try with_reducible rfl
          try simp only [Act.put]
          refine wpAnyH_done (by kernel_rfl) ?_ _
          have hK1 := HK1.out
          have hK2 := HK2.out
          clear HK1 HK2
          have hE := endC (n := n) (c := c) (HRC7.out.alloc (.cells #[.string ⟨#[]⟩, .string ⟨#[44]⟩, .string ⟨#[10]⟩, .string ⟨#[48]⟩, .string ⟨#[46]⟩, .string ⟨#[65]⟩, .string ⟨#[49, 48, 48, 48, 48, 48, 48, 46, 48, 48, 49, 44]⟩] 9))
          have hF : Below w.heap.size w (((w7.alloc (.cells #[.string ⟨#[]⟩, .string ⟨#[44]⟩, .string ⟨#[10]⟩, .string ⟨#[48]⟩, .string ⟨#[46]⟩, .string ⟨#[65]⟩, .string ⟨#[49, 48, 48, 48, 48, 48, 48, 46, 48, 48, 49, 44]⟩] 9)).setCell ⟨w.heap.size, 0, none⟩ (.int .i64 n)).setCell ⟨w.heap.size, 1, none⟩ (.int .i64 c)) := ((HBB7.out.alloc HBB7.out.size _).setCell (p := ⟨w.heap.size, 0, none⟩) (Nat.le_refl _) _).setCell (p := ⟨w.heap.size, 1, none⟩) (Nat.le_refl _) _
          obtain ⟨V, hV⟩ : ∃ V, ((w7.alloc (.cells #[.string ⟨#[]⟩, .string ⟨#[44]⟩, .string ⟨#[10]⟩, .string ⟨#[48]⟩, .string ⟨#[46]⟩, .string ⟨#[65]⟩, .string ⟨#[49, 48, 48, 48, 48, 48, 48, 46, 48, 48, 49, 44]⟩] 9)).setCell ⟨w.heap.size, 0, none⟩ (.int .i64 n)).setCell ⟨w.heap.size, 1, none⟩ (.int .i64 c) = V := ⟨_, rfl⟩
          rw [hV] at hE hF ⊢
          clear hV
          obtain ⟨e0, e1⟩ := hE
          go_wp2
          exact endTR (w := w) (n := n) (c := c) _ _ rfl rfl e0 e1 ⟨n, c, _, rfl, szS _ _ _ _ _ HTS.out hts', hF⟩
        · skip
          have hrc := HRC7.out
          obtain ⟨hr7, q0, q1, qf0, qf1⟩ := hrc
          intro K21 hK21
          go_simp
          have hS8 := keep2 (n := n) (c := c) HRC7.out hne hS7
          refine hK21 _ _ hS8 ?_
          clear hK21 K21
          try simp only [Act.put]
          have hz8 : (((w7).setCell ⟨w.heap.size, 0, none⟩ (.int .i64 n)).setCell ⟨w.heap.size, 1, none⟩ (.int .i64 c)).heap.size = w7.heap.size := by simp [World.setCell]
          refine Hs.one (i := 5) (by kernel_rfl) rfl rfl ?_
          intro K5 hK5
          go_simp
          have hbA := boxS (n := n) (c := c) HRC7.out hne HBT7.out (.cells #[.string ⟨#[]⟩, .string ⟨#[44]⟩, .string ⟨#[10]⟩, .string ⟨#[48]⟩, .string ⟨#[46]⟩, .string ⟨#[65]⟩, .string ⟨#[49, 48, 48, 48, 48, 48, 48, 46, 48, 48, 49, 44]⟩] 9)
          refine hK5 _ _ ⟨hbA.1, hbA.2⟩ ?_
          clear hK5 K5
          try simp only [Act.put]
          refine Hs.more (S' := fun U => U.cell? ⟨w2.heap.size, 0, none⟩ = some (.int .i64 n) ∧ U.cell? ⟨w2.heap.size, 1, none⟩ = some (.int .i64 c) ∧ U.cell? ⟨w7.heap.size, y.toNat, none⟩ = some (.string t)) (fun _ h => ⟨h.1, h.2.1⟩) ?_
          have hSx := And.intro hbA.1 (And.intro hbA.2 (tabCell2 (n := n) (c := c) w7 w.heap.size y t y0 y2 ht))
          refine Hs.takeD (i := 8) (some 29) (.pointer (some ⟨w7.heap.size, y.toNat, none⟩)) rfl rfl (by kernel_rfl) (by kernel_rfl) (by kernel_rfl) (fun _ _ _ h => h) hSx (Or.inl ⟨by rfl, ?_⟩) ?_
          · rintro U ⟨u0, u1, u2⟩; go_simp; try with_reducible rfl
          try simp only [Act.put]
          refine Hs.takeD (i := 9) (some 30) (.string t) rfl rfl (by kernel_rfl) (by kernel_rfl) (by kernel_rfl) (fun _ _ _ h => h) hSx (Or.inl ⟨by rfl, ?_⟩) ?_
          · rintro U ⟨u0, u1, u2⟩; go_simp; try with_reducible rfl
          try simp only [Act.put]
          refine Hs.takeD (i := 10) (some 31) (.string (s.extract 0 k.toNat ++ t)) rfl rfl (by kernel_rfl) (by kernel_rfl) (by kernel_rfl) (fun _ _ _ h => h) hSx (Or.inl ⟨by rfl, ?_⟩) ?_
          · rintro U ⟨u0, u1, u2⟩; go_simp; try with_reducible rfl
          try simp only [Act.put]
          refine Hs.takeD (i := 20) (some 41) (.string (s.extract 0 k.toNat ++ t ++ s.extract (min (s.size : Int) (k + z)).toNat s.size)) rfl rfl (by kernel_rfl) (by kernel_rfl) (by kernel_rfl) (fun _ _ _ h => h) hSx (Or.inl ⟨by rfl, ?_⟩) ?_
          · rintro U ⟨u0, u1, u2⟩; go_simp; try with_reducible rfl
          try simp only [Act.put]
          refine Hs.takeD (i := 22) (some 3) (.string (s.extract 0 k.toNat ++ t ++ s.extract (min (s.size : Int) (k + z)).toNat s.size)) rfl rfl (by kernel_rfl) (by kernel_rfl) (by kernel_rfl) (fun _ _ _ h => h) hSx (Or.inl ⟨by rfl, ?_⟩) ?_
          · rintro U ⟨u0, u1, u2⟩; go_simp; try with_reducible rfl
          try simp only [Act.put]
          refine wpAnyH_done (by kernel_rfl) ?_ _
          have hK1 := HK1.out
          have hK2 := HK2.out
          clear HK1 HK2
          have hE := endA (n := n) (c := c) HRC7.out (.cells #[.string ⟨#[]⟩, .string ⟨#[44]⟩, .string ⟨#[10]⟩, .string ⟨#[48]⟩, .string ⟨#[46]⟩, .string ⟨#[65]⟩, .string ⟨#[49, 48, 48, 48, 48, 48, 48, 46, 48, 48, 49, 44]⟩] 9)
          have hF : Below w.heap.size w (((((w7).setCell ⟨w.heap.size, 0, none⟩ (.int .i64 n)).setCell ⟨w.heap.size, 1, none⟩ (.int .i64 c)).alloc (.cells #[.string ⟨#[]⟩, .string ⟨#[44]⟩, .string ⟨#[10]⟩, .string ⟨#[48]⟩, .string ⟨#[46]⟩, .string ⟨#[65]⟩, .string ⟨#[49, 48, 48, 48, 48, 48, 48, 46, 48, 48, 49, 44]⟩] 9))) := ((HBB7.out.setCell (p := ⟨w.heap.size, 0, none⟩) (Nat.le_refl _) _).setCell (p := ⟨w.heap.size, 1, none⟩) (Nat.le_refl _) _).alloc (by have := HBB7.out.size; simpa [World.setCell] using this) _
          obtain ⟨V, hV⟩ : ∃ V, ((((w7).setCell ⟨w.heap.size, 0, none⟩ (.int .i64 n)).setCell ⟨w.heap.size, 1, none⟩ (.int .i64 c)).alloc (.cells #[.string ⟨#[]⟩, .string ⟨#[44]⟩, .string ⟨#[10]⟩, .string ⟨#[48]⟩, .string ⟨#[46]⟩, .string ⟨#[65]⟩, .string ⟨#[49, 48, 48, 48, 48, 48, 48, 46, 48, 48, 49, 44]⟩] 9)) = V := ⟨_, rfl⟩
          rw [hV] at hE hF ⊢
          clear hV
          obtain ⟨e0, e1⟩ := hE
          go_wp2
          exact endTR (w := w) (n := n) (c := c) _ _ rfl rfl e0 e1 ⟨n, c, _, rfl, szS _ _ _ _ _ HTS.out hts', hF⟩
end Go.Proofs.YtajfldjhbgilmaaGreatDoor.Dq
