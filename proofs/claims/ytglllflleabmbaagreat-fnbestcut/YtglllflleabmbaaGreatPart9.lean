/-
  Contracts that the proof leans on, put together in the order in which they build.
-/
import Derived.Test.YtglllflleabmbaaGreatPart1
import Derived.Deep.RegionWith
import Derived.Test.YtglllflleabmbaaGreatPart7
import Derived.Lib.ConvBytes
import Derived.Deep.DeepMust
import Derived.Test.YtglllflleabmbaaGreatPart8
/-
  Tables as the laws and both texts hold them: rows of numbers, words and a label; contracts of the laws' own helpers (how great, a copy, a comparison).
-/
namespace Go.Proofs.YtglllflleabmbaaGreat.Tb
open Go.RowKit
open Go.Proofs.YtglllflleabmbaaGreat.Li (ret_bool ret_int below_none)

structure Row where
  nums : List Int
  cats : List ByteArray
  label : Int
def RowIs (w : World) (v0 v1 v2 : Value) (r : Row) : Prop :=
  ∃ a0 c0 a1 c1, v0 = .slice a0 r.nums.length c0 ∧ v1 = .slice a1 r.cats.length c1 ∧ v2 = .int .i64 r.label ∧ Li.IsL w a0 r.nums ∧ Ls.IsS w a1 r.cats
def Row.fits (r : Row) : Prop := r.nums.length ≤ 9223372036854775807 ∧ r.cats.length ≤ 9223372036854775807 ∧ Fits r.cats
def Row.sz (r : Row) : Nat := r.nums.length + (r.cats.length + lets r.cats)
theorem RowIs.below {w w1 : World} {v0 v1 v2 : Value} {r : Row} (h : RowIs w v0 v1 v2 r) (hB : Below w.heap.size w w1) : RowIs w1 v0 v1 v2 r := by
  obtain ⟨a0, c0, a1, c1, e0, e1, e2, h0, h1⟩ := h
  exact ⟨a0, c0, a1, c1, e0, e1, e2, h0.below hB, h1.below hB⟩

theorem grown_set' (w : World) (b o : Nat) (v : Value) : w.grownBy (w.setCell ⟨b, o, none⟩ v) (some b) := Li.grown_set w b o v
theorem own_off {w w1 : World} {B b : Nat} {v : Value} {xs : List Int} (h : Li.Own w B v xs) (hg : w.grownBy w1 (some b)) (hb : b < B) : Li.Own w1 B v xs := by
  refine h.kept hg ?_
  cases e : v.ownBlock with
  | none => exact .inl rfl
  | some k => exact .inr (by have := (h.ge k e).1; simp; omega)
theorem sown_off {w w1 : World} {B b : Nat} {v : Value} {xs : List ByteArray} (h : Ls.Own w B v xs) (hg : w.grownBy w1 (some b)) (hb : b < B) : Ls.Own w1 B v xs := by
  refine h.kept hg ?_
  cases e : v.ownBlock with
  | none => exact .inl rfl
  | some k => exact .inr (by have := (h.ge k e).1; simp; omega)
def Box3 (w : World) (b : Nat) (v0 v1 v2 : Value) : Prop :=
  b < w.heap.size ∧ (w.cell? ⟨b, 0, none⟩ = some v0 ∧ w.cell? ⟨b, 1, none⟩ = some v1 ∧ w.cell? ⟨b, 2, none⟩ = some v2) ∧ w.frozen? ⟨b, 0, none⟩ = false ∧ w.frozen? ⟨b, 1, none⟩ = false ∧ w.frozen? ⟨b, 2, none⟩ = false
theorem Box3.keptAt {w w1 : World} {b : Nat} {v0 v1 v2 : Value} (h : Box3 w b v0 v1 v2) (hs : w.heap.size ≤ w1.heap.size) (hb : w1.heap[b]? = w.heap[b]?) : Box3 w1 b v0 v1 v2 := by
  obtain ⟨hlt, ⟨c0, c1, c2⟩, f0, f1, f2⟩ := h
  refine ⟨by omega, ⟨?_, ?_, ?_⟩, ?_, ?_, ?_⟩
  · rw [World.cell?_of_block (w := w) (a := ⟨b, 0, none⟩) hb]; exact c0
  · rw [World.cell?_of_block (w := w) (a := ⟨b, 1, none⟩) hb]; exact c1
  · rw [World.cell?_of_block (w := w) (a := ⟨b, 2, none⟩) hb]; exact c2
  · rw [World.frozen?_of_block (w := w) (a := ⟨b, 0, none⟩) hb]; exact f0
  · rw [World.frozen?_of_block (w := w) (a := ⟨b, 1, none⟩) hb]; exact f1
  · rw [World.frozen?_of_block (w := w) (a := ⟨b, 2, none⟩) hb]; exact f2
theorem Box3.below {w w1 : World} {b : Nat} {v0 v1 v2 : Value} (h : Box3 w b v0 v1 v2) (hB : Below w.heap.size w w1) : Box3 w1 b v0 v1 v2 := h.keptAt hB.size (hB.block b h.1)
theorem Box3.setOther {w : World} {b g o : Nat} {v0 v1 v2 v : Value} (h : Box3 w b v0 v1 v2) (hne : ¬ b = g) : Box3 (w.setCell ⟨g, o, none⟩ v) b v0 v1 v2 :=
  h.keptAt (by simp [World.setCell]) (Below.heap_setCell _ _ _ _ (fun e => hne (by simpa using e)))
theorem Box3.set0 {w : World} {b : Nat} {v0 v1 v2 : Value} (h : Box3 w b v0 v1 v2) (v : Value) : Box3 (w.setCell ⟨b, 0, none⟩ v) b v v1 v2 := by
  obtain ⟨hlt, ⟨c0, c1, c2⟩, f0, f1, f2⟩ := h
  refine ⟨by simpa [World.setCell] using hlt, ⟨World.cell?_setCell_same _ _ _ c0, ?_, ?_⟩, ?_, ?_, ?_⟩
  · rw [World.cell?_setCell_other _ _ _ _ (by simp)]; exact c1
  · rw [World.cell?_setCell_other _ _ _ _ (by simp)]; exact c2
  all_goals (rw [World.frozen?_setCell]; assumption)
theorem Box3.set1 {w : World} {b : Nat} {v0 v1 v2 : Value} (h : Box3 w b v0 v1 v2) (v : Value) : Box3 (w.setCell ⟨b, 1, none⟩ v) b v0 v v2 := by
  obtain ⟨hlt, ⟨c0, c1, c2⟩, f0, f1, f2⟩ := h
  refine ⟨by simpa [World.setCell] using hlt, ⟨?_, World.cell?_setCell_same _ _ _ c1, ?_⟩, ?_, ?_, ?_⟩
  · rw [World.cell?_setCell_other _ _ _ _ (by simp)]; exact c0
  · rw [World.cell?_setCell_other _ _ _ _ (by simp)]; exact c2
  all_goals (rw [World.frozen?_setCell]; assumption)
theorem box3_new (w : World) (v0 v1 v2 : Value) (T : TypeId) : Box3 (w.alloc (.cells #[v0, v1, v2] T)) w.heap.size v0 v1 v2 :=
  ⟨by simp, ⟨by simp [World.cell?_alloc_new], by simp [World.cell?_alloc_new], by simp [World.cell?_alloc_new]⟩, by simp, by simp, by simp⟩
theorem Box3.alloc {w : World} {b : Nat} {v0 v1 v2 : Value} (h : Box3 w b v0 v1 v2) (o : Obj) : Box3 (w.alloc o) b v0 v1 v2 := h.below ((Below.refl _ _).alloc (Nat.le_refl _) _)
theorem size_alloc (w : World) (o : Obj) : (w.alloc o).heap.size = w.heap.size + 1 := by simp
theorem results_cell {fn : Func} {p : Tmp} {ty : TypeId} (h : fn.results = #[.cell p ty]) (tmps : Array Value) (P : Program) (w : World) :
    (results fn tmps).run P w = ((asAddr (tmps.getD p undef)).run P w).andThen fun a w₁ => (loadVar ty a).run P w₁ := by
  simp only [results, h]
  simp [Sem.run_bind, Result.andThen]
def IsR (w : World) (a : Option Addr) (rs : List Row) : Prop :=
  rs = [] ∨ ∃ b off, a = some ⟨b, off, none⟩ ∧ b < w.heap.size ∧ ∀ j (hj : j < rs.length), ∃ v0 v1 v2, (w.cell? ⟨b, off + j * 3, none⟩ = some v0 ∧ w.cell? ⟨b, off + j * 3 + 1, none⟩ = some v1 ∧ w.cell? ⟨b, off + j * 3 + 2, none⟩ = some v2) ∧ RowIs w v0 v1 v2 rs[j]
theorem IsR.below {w w1 : World} {a : Option Addr} {rs : List Row} (h : IsR w a rs) (hB : Below w.heap.size w w1) : IsR w1 a rs := by
  rcases h with h | ⟨b, off, rfl, hb, hc⟩
  · exact .inl h
  · refine .inr ⟨b, off, rfl, Nat.lt_of_lt_of_le hb hB.size, fun j hj => ?_⟩
    obtain ⟨v0, v1, v2, ⟨c0, c1, c2⟩, hr⟩ := hc j hj
    exact ⟨v0, v1, v2, ⟨(hB.cell (by exact hb)).trans c0, (hB.cell (by exact hb)).trans c1, (hB.cell (by exact hb)).trans c2⟩, hr.below hB⟩
def szR : List Row → Nat
  | [] => 0
  | r :: rs => r.sz + szR rs
theorem szR_take (rs : List Row) (k : Nat) (h : k < rs.length) : szR (rs.take (k + 1)) = szR (rs.take k) + rs[k].sz := by
  induction rs generalizing k with
  | nil => simp at h
  | cons s r ih =>
    cases k with
    | zero => simp [szR]
    | succ k =>
      simp only [List.take_succ_cons, szR, List.getElem_cons_succ]
      rw [ih k (by simpa using h)]
      omega
theorem szR_le (rs : List Row) (k : Nat) : szR (rs.take k) ≤ szR rs := by
  induction rs generalizing k with
  | nil => simp
  | cons s r ih =>
    cases k with
    | zero => simp [szR]
    | succ k => simp only [List.take_succ_cons, szR]; have := ih k; omega
theorem szR_at (rs : List Row) (k : Nat) (h : k < rs.length) : rs[k].sz ≤ szR rs := by
  have h1 := szR_take rs k h
  have h2 := szR_le rs (k + 1)
  omega
theorem info_smp : (Tryz.prog.info? 50).map (fun i => (i.zero, i.size, i.bytes)) = some (some (.agg #[.slice none 0 0, .slice none 0 0, .int .i64 0]), 3, 56) := by kernel_rfl
def apart (u v : Value) : Prop := u.ownBlock = none ∨ u.ownBlock ≠ v.ownBlock
theorem apart_of {u v : Value} (h : ∀ k, u.ownBlock = some k → v.ownBlock = some k → False) : apart u v := by
  cases e : u.ownBlock with
  | none => exact .inl e
  | some k => exact .inr fun e' => h k e (by rw [← e', e])
def Sp (V0 V1 : Nat → Value) (g k : Nat) : Prop :=
  (∀ i, i < k → (V0 i).ownBlock ≠ some g ∧ (V1 i).ownBlock ≠ some g) ∧
  ∀ i j, i < k → j < k → (i ≠ j → apart (V0 i) (V0 j) ∧ apart (V1 i) (V1 j)) ∧ apart (V0 i) (V1 j)
def Nest (w : World) (B g : Nat) (V0 V1 : Nat → Value) (xs : List Value) (rs : List Row) (k : Nat) : Prop :=
  (∀ i (hi : i < rs.length), i < k → (xs[i * 3]? = some (V0 i) ∧ xs[i * 3 + 1]? = some (V1 i) ∧ xs[i * 3 + 2]? = some (.int .i64 rs[i].label)) ∧ Li.Own w B (V0 i) rs[i].nums ∧ Ls.Own w B (V1 i) rs[i].cats) ∧ Sp V0 V1 g k
theorem nest_zero (w : World) (B g : Nat) (V0 V1 : Nat → Value) (xs : List Value) (rs : List Row) : Nest w B g V0 V1 xs rs 0 :=
  ⟨fun _ _ h => by omega, fun _ h => by omega, fun _ _ h => by omega⟩
def upd (V : Nat → Value) (k : Nat) (u : Value) : Nat → Value := fun i => if i = k then u else V i
theorem upd_at (V : Nat → Value) (k : Nat) (u : Value) : upd V k u k = u := if_pos rfl
theorem upd_off {V : Nat → Value} {k i : Nat} (u : Value) (h : i ≠ k) : upd V k u i = V i := if_neg h
theorem ownsRow_at {w w1 : World} {base : Nat} {e : TypeId} {size : Nat} {v : Value} {n : Nat} {xs : List Value} (h : w.ownsRow base e size v n xs) (hk : ∀ k, v.ownBlock = some k → w1.heap[k]? = w.heap[k]?) : w1.ownsRow base e size v n xs := by
  refine ⟨h.1, ?_⟩
  rcases h.2 with h | ⟨g, cap, cur, rfl, hb, hh, r⟩
  · exact .inl h
  · exact .inr ⟨g, cap, cur, rfl, hb, by rw [hk g rfl]; exact hh, r⟩
def OwnT (w : World) (lo hi : Nat) (v : Value) (rs : List Row) : Prop :=
  ∃ g xs V0 V1, (∀ k, v.ownBlock = some k → k = g ∧ k < hi) ∧ w.ownsRow lo 50 3 v rs.length xs ∧ Nest w lo g V0 V1 xs rs rs.length ∧
    ∀ i, i < rs.length → (∀ b, (V0 i).ownBlock = some b → b < hi) ∧ (∀ b, (V1 i).ownBlock = some b → b < hi)
theorem OwnT.isr {w : World} {lo hi : Nat} {v : Value} {rs : List Row} (h : OwnT w lo hi v rs) : ∃ a cap, v = .slice a rs.length cap ∧ IsR w a rs := by
  obtain ⟨g, xs, V0, V1, hg, hown, ⟨hn, _⟩, _⟩ := h
  have hown' := hown
  rcases hown.2 with ⟨rfl, h0⟩ | ⟨g', cap, cur, rfl, hb, hh, _⟩
  · exact ⟨none, 0, by rw [h0], .inl (List.length_eq_zero_iff.1 h0)⟩
  · obtain ⟨rfl, _⟩ := hg g' rfl
    have hlt : g' < w.heap.size := (Array.getElem?_eq_some_iff.1 hh).1
    refine ⟨_, cap, rfl, .inr ⟨g', 0, rfl, hlt, fun j hj => ?_⟩⟩
    obtain ⟨⟨c0, c1, c2⟩, o0, o1⟩ := hn j hj hj
    refine ⟨V0 j, V1 j, .int .i64 rs[j].label, ⟨?_, ?_, ?_⟩, ?_⟩
    · rw [Nat.zero_add, World.ownsRow.cellAt hown' _ (by omega), c0]
    · rw [Nat.zero_add, World.ownsRow.cellAt hown' _ (by omega), c1]
    · rw [Nat.zero_add, World.ownsRow.cellAt hown' _ (by omega), c2]
    · obtain ⟨a0, q0, e0, i0⟩ := o0.isl
      obtain ⟨a1, q1, e1, i1⟩ := o1.iss
      exact ⟨a0, q0, a1, q1, e0, e1, rfl, i0, i1⟩
theorem OwnT.keptAt {w w1 : World} {lo hi : Nat} {v : Value} {rs : List Row} (h : OwnT w lo hi v rs) (hk : ∀ k, lo ≤ k → k < hi → k < w.heap.size → w1.heap[k]? = w.heap[k]?) : OwnT w1 lo hi v rs := by
  obtain ⟨g, xs, V0, V1, hg, hown, ⟨hn, hs⟩, hv⟩ := h
  refine ⟨g, xs, V0, V1, hg, ownsRow_at hown (fun k e => hk k (World.ownsRow.lt hown k e).1 (hg k e).2 (World.ownsRow.lt hown k e).2), ⟨fun i hi' hik => ?_, hs⟩, hv⟩
  obtain ⟨hc, o0, o1⟩ := hn i hi' hik
  exact ⟨hc, ownsRow_at o0 (fun k e => hk k (o0.ge k e).1 ((hv i hi').1 k e) (o0.ge k e).2), ownsRow_at o1 (fun k e => hk k (o1.ge k e).1 ((hv i hi').2 k e) (o1.ge k e).2)⟩
theorem OwnT.below {w w1 : World} {lo hi : Nat} {v : Value} {rs : List Row} (h : OwnT w lo hi v rs) (hB : Below w.heap.size w w1) : OwnT w1 lo hi v rs :=
  h.keptAt fun k _ _ hk => hB.block k hk
theorem OwnT.off {w w1 : World} {lo hi b : Nat} {v : Value} {rs : List Row} (h : OwnT w lo hi v rs) (hg : w.grownBy w1 (some b)) (hb : b < lo ∨ hi ≤ b) : OwnT w1 lo hi v rs :=
  h.keptAt fun k h1 h2 hk => hg.block k hk (by simp; omega)
theorem OwnT.mono {w : World} {lo lo' hi hi' : Nat} {v : Value} {rs : List Row} (h : OwnT w lo hi v rs) (hl : lo' ≤ lo) (hh : hi ≤ hi') : OwnT w lo' hi' v rs := by
  obtain ⟨g, xs, V0, V1, hg, hown, ⟨hn, hs⟩, hv⟩ := h
  refine ⟨g, xs, V0, V1, fun k e => ⟨(hg k e).1, by have := (hg k e).2; omega⟩, ?_, ⟨fun i hi' hik => ?_, hs⟩, fun i hi' => ⟨fun b e => by have := (hv i hi').1 b e; omega, fun b e => by have := (hv i hi').2 b e; omega⟩⟩
  · refine ⟨hown.1, ?_⟩
    rcases hown.2 with h | ⟨g', cap, cur, e, hb', r⟩
    · exact .inl h
    · exact .inr ⟨g', cap, cur, e, by omega, r⟩
  · obtain ⟨hc, o0, o1⟩ := hn i hi' hik
    exact ⟨hc, o0.mono hl, o1.mono hl⟩
theorem OwnT.nil (w : World) (lo hi : Nat) : OwnT w lo hi (.slice none 0 0) [] :=
  ⟨0, [], fun _ => undef, fun _ => undef, fun k e => by simp [Value.ownBlock] at e, World.ownsRow_nil _ _ _ _, nest_zero _ _ _ _ _ _ _, fun i h => by simp at h⟩
theorem Box3.set2 {w : World} {b : Nat} {v0 v1 v2 : Value} (h : Box3 w b v0 v1 v2) (v : Value) : Box3 (w.setCell ⟨b, 2, none⟩ v) b v0 v1 v := by
  obtain ⟨hlt, ⟨c0, c1, c2⟩, f0, f1, f2⟩ := h
  refine ⟨by simpa [World.setCell] using hlt, ⟨?_, ?_, World.cell?_setCell_same _ _ _ c2⟩, ?_, ?_, ?_⟩
  · rw [World.cell?_setCell_other _ _ _ _ (by simp)]; exact c0
  · rw [World.cell?_setCell_other _ _ _ _ (by simp)]; exact c1
  all_goals (rw [World.frozen?_setCell]; assumption)
end Go.Proofs.YtglllflleabmbaaGreat.Tb
/-
  Which schemas, rows and tables are right: plain functions of lists; contracts of the program's and of its model's tests, which answer just these.
-/
namespace Go.Proofs.YtglllflleabmbaaGreat.Tk
set_option maxRecDepth 20000
open Go.RowKit
open Go.Proofs.YtglllflleabmbaaGreat.Tb
open Go.Proofs.YtglllflleabmbaaGreat.Li (ret_bool btw between_any)

def fok (x : Int) : Bool := decide (-1000000000 ≤ x ∧ x ≤ 1000000000)
def sok (n c : Int) : Bool := decide ((0 ≤ n ∧ n ≤ 3) ∧ (0 ≤ c ∧ c ≤ 2))
def wbyte (c : UInt8) : Bool := decide ((97 ≤ c.toNat ∧ c.toNat ≤ 122) ∨ (48 ≤ c.toNat ∧ c.toNat ≤ 57) ∨ c.toNat = 95)
def wlen (s : ByteArray) : Bool := decide (1 ≤ s.size ∧ s.size ≤ 12)
def wok (s : ByteArray) : Bool := wlen s && s.data.toList.all wbyte
theorem sok_iff {n c : Int} : sok n c = true ↔ (0 ≤ n ∧ n ≤ 3) ∧ (0 ≤ c ∧ c ≤ 2) := by simp [sok]
set_option maxHeartbeats 400000 in
theorem ok_any (x : Int) (w : World) :
    Calls Tryz.prog 74 #[.int .i64 x] w fun e w' => e = .returned (.bool (fok x)) ∧ w' = w := by
  by_cases h1 : -1000000000 ≤ x <;> by_cases h2 : x ≤ 1000000000
  all_goals
    go_enter Tryz.func74, Tryz.ntmps74
    go_wp2
    go_ret
    refine ⟨ret_bool ?_, rfl⟩
    simp [fok, h1, h2]
set_option maxHeartbeats 400000 in
theorem iok_any (x : Int) (w : World) :
    Calls Tryz.prog 47 #[.int .i64 x] w fun e w' => e = .returned (.bool (fok x)) ∧ w' = w := by
  go_enter Tryz.func47, Tryz.ntmps47
  go_wp2_with (go_at_call 74; refine (ok_any _ _).mono ?_; rintro e w' ⟨rfl, rfl⟩)
  go_ret
  exact ⟨rfl, rfl⟩
set_option maxHeartbeats 400000 in
theorem sok_any (x : Int) (w : World) :
    Calls Tryz.prog 69 #[.int .i64 x] w fun e w' => e = .returned (.bool (fok x)) ∧ w' = w := by
  go_enter Tryz.func69, Tryz.ntmps69
  go_wp2_with (go_at_call 68; refine (between_any _ _ _ _).mono ?_; rintro e w' ⟨rfl, rfl⟩)
  go_ret
  exact ⟨rfl, rfl⟩
set_option maxHeartbeats 1000000 in
theorem isch (w : World) (n c : Int) :
    Calls Tryz.prog 45 #[.agg #[.int .i64 n, .int .i64 c]] w fun e w' => e = .returned (.bool (sok n c)) ∧ Below w.heap.size w w' := by
  by_cases h1 : 0 ≤ n
  · by_cases h2 : n ≤ 3
    · by_cases h3 : 0 ≤ c
      · by_cases h4 : c ≤ 2
        all_goals
          go_enter Tryz.func45, Tryz.ntmps45
          go_wp2
          go_ret
          exact ⟨ret_bool (by unfold sok; first | exact (decide_eq_true (by omega)).symm | exact (decide_eq_false (by omega)).symm), by first | exact (Below.refl _ _).alloc (Nat.le_refl _) _ | exact Go.below_drewN ((Below.refl _ _).alloc (Nat.le_refl _) _) _⟩
      · go_enter Tryz.func45, Tryz.ntmps45
        go_wp2
        go_ret
        exact ⟨ret_bool (by unfold sok; first | exact (decide_eq_true (by omega)).symm | exact (decide_eq_false (by omega)).symm), by first | exact (Below.refl _ _).alloc (Nat.le_refl _) _ | exact Go.below_drewN ((Below.refl _ _).alloc (Nat.le_refl _) _) _⟩
    · go_enter Tryz.func45, Tryz.ntmps45
      go_wp2
      go_ret
      exact ⟨ret_bool (by unfold sok; first | exact (decide_eq_true (by omega)).symm | exact (decide_eq_false (by omega)).symm), by first | exact (Below.refl _ _).alloc (Nat.le_refl _) _ | exact Go.below_drewN ((Below.refl _ _).alloc (Nat.le_refl _) _) _⟩
  · go_enter Tryz.func45, Tryz.ntmps45
    go_wp2
    go_ret
    exact ⟨ret_bool (by unfold sok; first | exact (decide_eq_true (by omega)).symm | exact (decide_eq_false (by omega)).symm), by first | exact (Below.refl _ _).alloc (Nat.le_refl _) _ | exact Go.below_drewN ((Below.refl _ _).alloc (Nat.le_refl _) _) _⟩
theorem sok_btw (n c : Int) : sok n c = (btw n 0 3 && btw c 0 2) := by simp [sok, btw]
set_option maxHeartbeats 1000000 in
theorem ssch (w : World) (n c : Int) :
    Calls Tryz.prog 67 #[.agg #[.int .i64 n, .int .i64 c]] w fun e w' => e = .returned (.bool (sok n c)) ∧ Below w.heap.size w w' := by
  cases h1 : btw n 0 3
  · go_enter Tryz.func67, Tryz.ntmps67
    go_wp2_with (go_at_call 68; refine (between_any _ _ _ _).mono ?_; rintro e w' ⟨rfl, rfl⟩)
    go_ret
    exact ⟨ret_bool (by rw [sok_btw, h1]; rfl), (Below.refl _ _).alloc (Nat.le_refl _) _⟩
  · go_enter Tryz.func67, Tryz.ntmps67
    go_wp2_with (go_at_call 68; refine (between_any _ _ _ _).mono ?_; rintro e w' ⟨rfl, rfl⟩)
    go_ret
    exact ⟨ret_bool (by rw [sok_btw, h1]; rfl), (Below.refl _ _).alloc (Nat.le_refl _) _⟩
set_option maxHeartbeats 1000000 in
theorem iwbyte (w : World) (c : UInt8) :
    Calls Tryz.prog 107 #[.int .u8 (c.toNat : Int)] w fun e w' => e = .returned (.bool (wbyte c)) ∧ w' = w := by
  by_cases h1 : 97 ≤ (c.toNat : Int) <;> by_cases h2 : (c.toNat : Int) ≤ 122 <;> by_cases h3 : 48 ≤ (c.toNat : Int) <;> by_cases h4 : (c.toNat : Int) ≤ 57 <;> by_cases h5 : (c.toNat : Int) = 95
  all_goals first | (exfalso; omega) | skip
  all_goals
    go_enter Tryz.func107, Tryz.ntmps107
    go_wp2
    go_ret
    refine ⟨ret_bool ?_, rfl⟩
    unfold wbyte
    first | exact (decide_eq_true (by omega)).symm | exact (decide_eq_false (by omega)).symm | (refine Eq.trans (b := false) (beq_eq_false_iff_ne.2 (by omega)) ?_; exact (decide_eq_false (by omega)).symm)
theorem take_snoc (s : ByteArray) (k : Nat) (h : k < s.size) : s.data.toList.take (k + 1) = s.data.toList.take k ++ [s[k]] := by
  rw [List.take_succ_eq_append_getElem (by simpa using h)]; rfl
theorem all_snoc (s : ByteArray) (k : Nat) (h : k < s.size) (ha : (s.data.toList.take k).all wbyte = true) (hb : wbyte s[k] = true) : (s.data.toList.take (k + 1)).all wbyte = true := by
  rw [take_snoc s k h]; simp only [List.all_append, ha, List.all_cons, hb, List.all_nil, Bool.and_true]
theorem all_no (s : ByteArray) (k : Nat) (h : k < s.size) (hb : wbyte s[k] = false) : s.data.toList.all wbyte = false := by
  have hm : s[k] ∈ s.data.toList := by
    have : s[k] = s.data.toList[k]'(by simpa using h) := rfl
    rw [this]; exact List.getElem_mem _
  cases e : s.data.toList.all wbyte
  · rfl
  · have := List.all_eq_true.1 e _ hm
    rw [hb] at this; cases this
theorem all_end (s : ByteArray) (ha : (s.data.toList.take s.size).all wbyte = true) : s.data.toList.all wbyte = true := by
  rwa [List.take_of_length_le (by simp)] at ha
theorem wok_no {s : ByteArray} (h : wlen s = false) : wok s = false := by unfold wok; rw [h]; rfl
theorem wok_yes {s : ByteArray} (h : wlen s = true) : wok s = s.data.toList.all wbyte := by unfold wok; rw [h]; rfl
theorem wlen_btw (s : ByteArray) : btw (s.size : Int) 1 12 = wlen s := by
  unfold btw wlen
  rw [Bool.eq_iff_iff]
  simp only [decide_eq_true_eq]
  omega
theorem btw_az (c : UInt8) (lo hi : Int) : btw (wrap64 (c.toNat : Int)) lo hi = decide (lo ≤ (c.toNat : Int) ∧ (c.toNat : Int) ≤ hi) := by
  have : c.toNat < 256 := c.toNat_lt
  rw [show wrap64 (c.toNat : Int) = (c.toNat : Int) by unfold wrap64; omega]
  rfl
set_option maxHeartbeats 1000000 in
theorem sword (w : World) (s : ByteArray) (hs : s.size ≤ 9223372036854775807) :
    Calls Tryz.prog 128 #[.string s] w fun e w' => e = .returned (.bool (wok s)) ∧ ∃ n, w' = w.drewN n := by
  cases hw : wlen s
  · have HW : Hid (wok s = false) := wok_no hw
    have hb : btw (s.size : Int) 1 12 = false := (wlen_btw s).trans hw
    clear hw
    go_enter Tryz.func128, Tryz.ntmps128
    go_wp2_with (go_at_call 68; refine (between_any _ _ _ _).mono ?_; rintro e w' ⟨rfl, hw'⟩; subst w')
    go_ret
    exact ⟨by rw [HW.out]; rfl, 0, rfl⟩
  · have HW : Hid (wok s = s.data.toList.all wbyte) := wok_yes hw
    have hb : btw (s.size : Int) 1 12 = true := (wlen_btw s).trans hw
    clear hw
    go_enter Tryz.func128, Tryz.ntmps128
    go_wp2_with (go_at_call 68; refine (between_any _ _ _ _).mono ?_; rintro e w' ⟨rfl, hw'⟩; subst w')
    go_loopw [3] (fun i wr => ∃ k : Nat, k ≤ s.size ∧ i = .int .i64 k ∧ (s.data.toList.take k).all wbyte = true ∧ ∃ n, wr = w.drewN n) (fun i _ => s.size - (intOf i).toNat)
    case atStart => exact ⟨0, Nat.zero_le _, rfl, rfl, 0, rfl⟩
    case round =>
      obtain ⟨k, hk, rfl, ha, n, rfl⟩ := hrel
      have HA : Hid ((s.data.toList.take k).all wbyte = true) := ha
      clear ha
      by_cases hlt : k < s.size
      · cases hq : wbyte s[k]
        · have HQ : Hid (s.data.toList.all wbyte = false) := all_no s k hlt hq
          have h1 : btw (wrap64 (s[k].toNat : Int)) 97 122 = false := by rw [btw_az]; unfold wbyte at hq; have := of_decide_eq_false hq; exact decide_eq_false (by omega)
          have h2 : btw (wrap64 (s[k].toNat : Int)) 48 57 = false := by rw [btw_az]; unfold wbyte at hq; have := of_decide_eq_false hq; exact decide_eq_false (by omega)
          have h3 : ((s[k].toNat : Int) != 95) = true := by unfold wbyte at hq; have := of_decide_eq_false hq; exact bne_iff_ne.2 (by omega)
          clear hq
          go_wp2_with (go_at_call 68; refine (between_any _ _ _ _).mono ?_; rintro e w' ⟨rfl, hw'⟩; subst w')
          go_ret
          exact ⟨by rw [HW.out, HQ.out]; rfl, _, rfl⟩
        · have HN : Hid ((s.data.toList.take (k + 1)).all wbyte = true) := all_snoc s k hlt HA.out hq
          unfold wbyte at hq
          have hq := of_decide_eq_true hq
          by_cases c1 : 97 ≤ s[k].toNat ∧ s[k].toNat ≤ 122
          · have h1 : btw (wrap64 (s[k].toNat : Int)) 97 122 = true := by rw [btw_az]; exact decide_eq_true (by omega)
            clear hq c1
            go_wp2_with (go_at_call 68; refine (between_any _ _ _ _).mono ?_; rintro e w' ⟨rfl, hw'⟩; subst w')
            go_roundw
            case rel => exact ⟨k + 1, by omega, by go_num, HN.out, _, rfl⟩
            case measure => simp [intOf]; omega
          · have h1 : btw (wrap64 (s[k].toNat : Int)) 97 122 = false := by rw [btw_az]; exact decide_eq_false (by omega)
            by_cases c2 : 48 ≤ s[k].toNat ∧ s[k].toNat ≤ 57
            · have h2 : btw (wrap64 (s[k].toNat : Int)) 48 57 = true := by rw [btw_az]; exact decide_eq_true (by omega)
              clear hq c1 c2
              go_wp2_with (go_at_call 68; refine (between_any _ _ _ _).mono ?_; rintro e w' ⟨rfl, hw'⟩; subst w')
              go_roundw
              case rel => exact ⟨k + 1, by omega, by go_num, HN.out, _, rfl⟩
              case measure => simp [intOf]; omega
            · have h2 : btw (wrap64 (s[k].toNat : Int)) 48 57 = false := by rw [btw_az]; exact decide_eq_false (by omega)
              have h3 : ((s[k].toNat : Int) != 95) = false := bne_eq_false_iff_eq.2 (by omega)
              clear hq c1 c2
              go_wp2_with (go_at_call 68; refine (between_any _ _ _ _).mono ?_; rintro e w' ⟨rfl, hw'⟩; subst w')
              go_roundw
              case rel => exact ⟨k + 1, by omega, by go_num, HN.out, _, rfl⟩
              case measure => simp [intOf]; omega
      · go_wp2
        go_ret
        exact ⟨by rw [HW.out, all_end s (by have := HA.out; rwa [show k = s.size by omega] at this)]; rfl, _, rfl⟩
theorem bytes_below (w : World) (e : TypeId) (s : ByteArray) : Below w.heap.size w (Lib.bytesWorld w e s) :=
  ⟨rfl, rfl, rfl, by rw [Lib.bytesWorld_size]; omega, fun k hk => Lib.bytesWorld_at_old w e s k hk⟩
set_option maxHeartbeats 1000000 in
theorem iword (w : World) (s : ByteArray) (hs : s.size ≤ 9223372036854775807) :
    Calls Tryz.prog 78 #[.string s] w fun e w' => e = .returned (.bool (wok s)) ∧ Below w.heap.size w w' := by
  cases hw : wlen s
  · have HW : Hid (wok s = false) := wok_no hw
    by_cases h1 : (s.size : Int) < 1
    · clear hw
      go_enter Tryz.func78, Tryz.ntmps78
      go_wp2
      go_ret
      exact ⟨by rw [HW.out]; rfl, Below.refl _ _⟩
    · have h2 : 12 < (s.size : Int) := by unfold wlen at hw; have := of_decide_eq_false hw; omega
      clear hw
      go_enter Tryz.func78, Tryz.ntmps78
      go_wp2
      go_ret
      exact ⟨by rw [HW.out]; rfl, Below.refl _ _⟩
  · have HW : Hid (wok s = s.data.toList.all wbyte) := wok_yes hw
    have h1 : ¬ (s.size : Int) < 1 := by unfold wlen at hw; have := of_decide_eq_true hw; omega
    have h2 : ¬ 12 < (s.size : Int) := by unfold wlen at hw; have := of_decide_eq_true hw; omega
    clear hw
    have hcv := Lib.run_convert_string_bytes (P := Tryz.prog) w 9 22 5 s Tryz.underlying9 Tryz.underlying22 Tryz.underlying5
    obtain ⟨W, hW, hB, hc⟩ : ∃ W, Lib.bytesWorld w 5 s = W ∧ Below w.heap.size w W ∧ ∀ j (hj : j < s.size), W.cell? ⟨w.heap.size, j, none⟩ = some (.int .u8 (s[j].toNat : Int)) :=
      ⟨_, rfl, bytes_below _ _ _, fun j hj => by rw [Lib.bytesWorld_cell w _ s j hj]; simp [List.getD, hj]; rfl⟩
    obtain ⟨cap, hcap⟩ : ∃ cap, grownCap w s.size 0 5 = cap := ⟨_, rfl⟩
    rw [hW, hcap] at hcv
    clear hW hcap
    go_enter Tryz.func78, Tryz.ntmps78
    go_wp2
    go_loop [16] (fun i => ∃ k : Nat, k ≤ s.size ∧ i = .int .i64 k ∧ (s.data.toList.take k).all wbyte = true) (fun i => s.size - (intOf i).toNat)
    case atStart => exact ⟨0, Nat.zero_le _, rfl, rfl⟩
    case round =>
      obtain ⟨k, hk, rfl, ha⟩ := hrel
      have HA : Hid ((s.data.toList.take k).all wbyte = true) := ha
      clear ha
      by_cases hlt : k < s.size
      · have hck := hc k hlt
        cases hq : wbyte s[k]
        · have HQ : Hid (s.data.toList.all wbyte = false) := all_no s k hlt hq
          go_wp2_with (go_at_call 107; refine (iwbyte _ _).mono ?_; rintro e w' ⟨rfl, hw'⟩; subst w')
          go_ret
          exact ⟨by rw [HW.out, HQ.out]; rfl, hB⟩
        · have HN : Hid ((s.data.toList.take (k + 1)).all wbyte = true) := all_snoc s k hlt HA.out hq
          go_wp2_with (go_at_call 107; refine (iwbyte _ _).mono ?_; rintro e w' ⟨rfl, hw'⟩; subst w')
          go_round
          case rel => exact ⟨k + 1, by omega, by go_num, HN.out⟩
          case measure => simp [intOf]; omega
      · go_wp2
        go_ret
        exact ⟨by rw [HW.out, all_end s (by have := HA.out; rwa [show k = s.size by omega] at this)]; rfl, hB⟩
end Go.Proofs.YtglllflleabmbaaGreat.Tk
/-
  Which rows and tables are right: contracts of SampleOk and TableOk, of the program and of its model, over the plain functions 'rok', 'tok'.
-/
namespace Go.Proofs.YtglllflleabmbaaGreat.Tk
set_option maxRecDepth 20000
open Go.RowKit
open Go.Proofs.YtglllflleabmbaaGreat.Tb
open Go.Proofs.YtglllflleabmbaaGreat.Li (ret_bool btw between_any)

def nok (xs : List Int) : Bool := xs.all fok
def cok (ws : List ByteArray) : Bool := ws.all wok
def rok (n c : Int) (r : Row) : Bool := sok n c && (decide ((r.nums.length : Int) = n) && (decide ((r.cats.length : Int) = c) && (nok r.nums && (cok r.cats && lok r.label))))
theorem rok_sok {n c : Int} {r : Row} (h : sok n c = false) : rok n c r = false := by simp [rok, h]
theorem rok_n {n c : Int} {r : Row} (h : ¬ (r.nums.length : Int) = n) : rok n c r = false := by simp [rok, h]
theorem rok_c {n c : Int} {r : Row} (h : ¬ (r.cats.length : Int) = c) : rok n c r = false := by simp [rok, h]
theorem rok_nok {n c : Int} {r : Row} (h : nok r.nums = false) : rok n c r = false := by simp [rok, h]
theorem rok_cok {n c : Int} {r : Row} (h : cok r.cats = false) : rok n c r = false := by simp [rok, h]
theorem rok_lok {n c : Int} {r : Row} (h : lok r.label = false) : rok n c r = false := by simp [rok, h]
theorem rok_all {n c : Int} {r : Row} (h0 : sok n c = true) (h1 : (r.nums.length : Int) = n) (h2 : (r.cats.length : Int) = c) (h3 : nok r.nums = true) (h4 : cok r.cats = true) (h5 : lok r.label = true) : rok n c r = true := by
  simp [rok, h0, h1, h2, h3, h4, h5]
theorem rok_iff {n c : Int} {r : Row} : rok n c r = true ↔ sok n c = true ∧ (r.nums.length : Int) = n ∧ (r.cats.length : Int) = c ∧ nok r.nums = true ∧ cok r.cats = true ∧ lok r.label = true := by
  simp [rok]
theorem pre_snoc {α : Type} (p : α → Bool) (xs : List α) (k : Nat) (h : k < xs.length) (ha : (xs.take k).all p = true) (hb : p xs[k] = true) : (xs.take (k + 1)).all p = true := by
  rw [List.take_succ_eq_append_getElem h]; simp only [List.all_append, ha, List.all_cons, hb, List.all_nil, Bool.and_true]
theorem pre_no {α : Type} (p : α → Bool) (xs : List α) (k : Nat) (h : k < xs.length) (hb : p xs[k] = false) : xs.all p = false := by
  cases e : xs.all p
  · rfl
  · have := List.all_eq_true.1 e _ (List.getElem_mem h)
    rw [hb] at this; cases this
theorem pre_end {α : Type} (p : α → Bool) (xs : List α) (k : Nat) (h : ¬ k < xs.length) (ha : (xs.take k).all p = true) : xs.all p = true := by
  rwa [List.take_of_length_le (by omega)] at ha
theorem word_le (ws : List ByteArray) (k : Nat) (h : k < ws.length) : ws[k].size ≤ lets ws := by
  have h1 := lets_take ws k h
  have h2 := lets_le ws (k + 1)
  omega
def Box2 (w : World) (b : Nat) (v0 v1 : Value) : Prop :=
  b < w.heap.size ∧ w.cell? ⟨b, 0, none⟩ = some v0 ∧ w.cell? ⟨b, 1, none⟩ = some v1
theorem Box2.below {w w1 : World} {b : Nat} {v0 v1 : Value} (h : Box2 w b v0 v1) (hB : Below w.heap.size w w1) : Box2 w1 b v0 v1 := by
  obtain ⟨hlt, c0, c1⟩ := h
  exact ⟨Nat.lt_of_lt_of_le hlt hB.size, (hB.cell (by exact hlt)).trans c0, (hB.cell (by exact hlt)).trans c1⟩
theorem boxes23 (w : World) (s0 s1 v0 v1 v2 : Value) (T U : TypeId) : ∃ W, (w.alloc (.cells #[s0, s1] T)).alloc (.cells #[v0, v1, v2] U) = W ∧ W.heap.size = w.heap.size + 2 ∧ Below w.heap.size w W ∧ Box2 W w.heap.size s0 s1 ∧ Box3 W (w.heap.size + 1) v0 v1 v2 := by
  refine ⟨_, rfl, by simp, ((Below.refl _ _).alloc (Nat.le_refl _) _).alloc (by simp) _, ⟨by simp; omega, ?_, ?_⟩, ?_⟩
  · rw [World.cell?_alloc_lt _ _ ⟨w.heap.size, 0, none⟩ (by simp)]; simp
  · rw [World.cell?_alloc_lt _ _ ⟨w.heap.size, 1, none⟩ (by simp)]; simp
  · have := box3_new (w.alloc (.cells #[s0, s1] T)) v0 v1 v2 U
    rwa [size_alloc] at this
set_option maxHeartbeats 2000000 in
theorem isam (w : World) (n c : Int) (v0 v1 v2 : Value) (r : Row) (hr : RowIs w v0 v1 v2 r) (hl : r.sz ≤ 1048576) :
    Calls Tryz.prog 53 #[.agg #[.int .i64 n, .int .i64 c], .agg #[v0, v1, v2]] w fun e w' => e = .returned (.bool (rok n c r)) ∧ Below w.heap.size w w' := by
  obtain ⟨a0, c0, a1, c1, rfl, rfl, rfl, i0, i1⟩ := hr
  unfold Row.sz at hl
  obtain ⟨W, hW, hsz, hB, bs, bx⟩ := boxes23 w (.int .i64 n) (.int .i64 c) (.slice a0 r.nums.length c0) (.slice a1 r.cats.length c1) (.int .i64 r.label) 25 50
  have HW : Hid ((w.alloc (.cells #[.int .i64 n, .int .i64 c] 25)).alloc (.cells #[.slice a0 r.nums.length c0, .slice a1 r.cats.length c1, .int .i64 r.label] 50) = W) := hW
  clear hW
  go_enter Tryz.func53, Tryz.ntmps53
  go_wp2_with fail
  rw [HW.out]
  clear HW
  refine (isch _ _ _).mono ?_
  rintro e w1 ⟨rfl, hB1⟩
  have bs := bs.below hB1
  have bx := bx.below hB1
  have hB := hB.trans (hB1.mono hB.size)
  clear hB1 hsz
  have i0 := i0.below hB
  have i1 := i1.below hB
  obtain ⟨_, cs0, cs1⟩ := bs
  obtain ⟨hbx, ⟨cx0, cx1, cx2⟩, _⟩ := id bx
  cases hs : sok n c
  · have HR : Hid (rok n c r = false) := rok_sok hs
    go_wp2
    go_ret
    exact ⟨by rw [HR.out]; rfl, hB⟩
  by_cases hn : (r.nums.length : Int) = n
  rotate_left
  · have HR : Hid (rok n c r = false) := rok_n hn
    have hn' : ((r.nums.length : Int) != n) = true := bne_iff_ne.2 hn
    clear hn
    go_wp2
    go_ret
    exact ⟨by rw [HR.out]; rfl, hB⟩
  have hn' : ((r.nums.length : Int) != n) = false := bne_eq_false_iff_eq.2 hn
  by_cases hc : (r.cats.length : Int) = c
  rotate_left
  · have HR : Hid (rok n c r = false) := rok_c hc
    have hc' : ((r.cats.length : Int) != c) = true := bne_iff_ne.2 hc
    clear hc hn
    go_wp2
    go_ret
    exact ⟨by rw [HR.out]; rfl, hB⟩
  have hc' : ((r.cats.length : Int) != c) = false := bne_eq_false_iff_eq.2 hc
  have HS : Hid (sok n c = true ∧ (r.nums.length : Int) = n ∧ (r.cats.length : Int) = c) := ⟨hs, hn, hc⟩
  clear hn hc
  go_wp2
  go_loop [31] (fun i => ∃ k : Nat, k ≤ r.nums.length ∧ i = .int .i64 k ∧ (r.nums.take k).all fok = true) (fun i => r.nums.length - (intOf i).toNat)
  case atStart => exact ⟨0, Nat.zero_le _, rfl, rfl⟩
  case round =>
    obtain ⟨k, hk, rfl, ha⟩ := hrel
    have HA : Hid ((r.nums.take k).all fok = true) := ha
    clear ha
    by_cases hlt : k < r.nums.length
    · rcases i0 with h0 | ⟨xb, xo, rfl, hxb, hxc⟩
      · rw [h0] at hlt; simp at hlt
      · have hcx := hxc k hlt
        clear hxc
        cases hq : fok r.nums[k]
        · have HR : Hid (rok n c r = false) := rok_nok (pre_no fok r.nums k hlt hq)
          go_wp2_with (go_at_call 47; refine (iok_any _ _).mono ?_; rintro e w' ⟨rfl, hw'⟩; subst w')
          go_ret
          exact ⟨by rw [HR.out]; rfl, hB⟩
        · have HN : Hid ((r.nums.take (k + 1)).all fok = true) := pre_snoc fok r.nums k hlt HA.out hq
          go_wp2_with (go_at_call 47; refine (iok_any _ _).mono ?_; rintro e w' ⟨rfl, hw'⟩; subst w')
          go_round
          case rel => exact ⟨k + 1, by omega, by go_num, HN.out⟩
          case measure => simp [intOf]; omega
    · have HN : Hid (nok r.nums = true) := pre_end fok r.nums k hlt HA.out
      clear HA
      go_wp2
      go_loopw [42] (fun i wr => ∃ k : Nat, k ≤ r.cats.length ∧ i = .int .i64 k ∧ (r.cats.take k).all wok = true ∧ Below w1.heap.size w1 wr) (fun i _ => r.cats.length - (intOf i).toNat)
      case atStart => exact ⟨0, Nat.zero_le _, rfl, rfl, Below.refl _ _⟩
      case round =>
        obtain ⟨k, hk, rfl, ha, hBr⟩ := hrel
        have HA : Hid ((r.cats.take k).all wok = true) := ha
        clear ha
        by_cases hlt : k < r.cats.length
        · rcases i1.below hBr with h0 | ⟨xb, xo, rfl, hxb, hxc⟩
          · rw [h0] at hlt; simp at hlt
          · have hcx := hxc k hlt
            have hwl := word_le r.cats k hlt
            clear hxc
            go_wp2_with fail
            refine (iword _ _ (by omega)).mono ?_
            rintro e w2 ⟨rfl, hB2⟩
            have hBr := hBr.trans (hB2.mono hBr.size)
            have hB := hB.trans (hBr.mono hB.size)
            clear hB2
            cases hq : wok r.cats[k]
            · have HR : Hid (rok n c r = false) := rok_cok (pre_no wok r.cats k hlt hq)
              go_wp2
              go_ret
              exact ⟨by rw [HR.out]; rfl, hB⟩
            · have HC : Hid ((r.cats.take (k + 1)).all wok = true) := pre_snoc wok r.cats k hlt HA.out hq
              go_wp2
              go_roundw
              case rel => exact ⟨k + 1, by omega, by go_num, HC.out, hBr⟩
              case measure => simp [intOf]; omega
        · have HC : Hid (cok r.cats = true) := pre_end wok r.cats k hlt HA.out
          have hB := hB.trans (hBr.mono hB.size)
          have bx := bx.below hBr
          obtain ⟨_, ⟨cx0, cx1, cx2⟩, _⟩ := bx
          have HR : Hid (rok n c r = lok r.label) := by
            cases hq : lok r.label
            · exact rok_lok hq
            · exact rok_all HS.out.1 HS.out.2.1 HS.out.2.2 HN.out HC.out hq
          clear hBr HA
          go_wp2_with (go_at_call 79; refine (ilab _ _).mono ?_; rintro e w' ⟨rfl, hw'⟩; subst w')
          go_ret
          exact ⟨by rw [HR.out]; rfl, hB⟩
set_option maxHeartbeats 2000000 in
theorem ssam (w : World) (n c : Int) (v0 v1 v2 : Value) (r : Row) (hr : RowIs w v0 v1 v2 r) (hl : r.sz ≤ 1048576) :
    Calls Tryz.prog 100 #[.agg #[.int .i64 n, .int .i64 c], .agg #[v0, v1, v2]] w fun e w' => e = .returned (.bool (rok n c r)) ∧ Below w.heap.size w w' := by
  obtain ⟨a0, c0, a1, c1, rfl, rfl, rfl, i0, i1⟩ := hr
  unfold Row.sz at hl
  obtain ⟨W, hW, hsz, hB, bs, bx⟩ := boxes23 w (.int .i64 n) (.int .i64 c) (.slice a0 r.nums.length c0) (.slice a1 r.cats.length c1) (.int .i64 r.label) 25 50
  have HW : Hid ((w.alloc (.cells #[.int .i64 n, .int .i64 c] 25)).alloc (.cells #[.slice a0 r.nums.length c0, .slice a1 r.cats.length c1, .int .i64 r.label] 50) = W) := hW
  clear hW
  go_enter Tryz.func100, Tryz.ntmps100
  go_wp2_with fail
  rw [HW.out]
  clear HW
  refine (ssch _ _ _).mono ?_
  rintro e w1 ⟨rfl, hB1⟩
  have bs := bs.below hB1
  have bx := bx.below hB1
  have hB := hB.trans (hB1.mono hB.size)
  clear hB1 hsz
  have i0 := i0.below hB
  have i1 := i1.below hB
  obtain ⟨_, cs0, cs1⟩ := bs
  obtain ⟨hbx, ⟨cx0, cx1, cx2⟩, _⟩ := id bx
  cases hs : sok n c
  · have HR : Hid (rok n c r = false) := rok_sok hs
    go_wp2
    go_ret
    exact ⟨by rw [HR.out]; rfl, hB⟩
  by_cases hn : (r.nums.length : Int) = n
  rotate_left
  · have HR : Hid (rok n c r = false) := rok_n hn
    have hn' : ((r.nums.length : Int) != n) = true := bne_iff_ne.2 hn
    clear hn
    go_wp2
    go_ret
    exact ⟨by rw [HR.out]; rfl, hB⟩
  have hn' : ((r.nums.length : Int) != n) = false := bne_eq_false_iff_eq.2 hn
  by_cases hc : (r.cats.length : Int) = c
  rotate_left
  · have HR : Hid (rok n c r = false) := rok_c hc
    have hc' : ((r.cats.length : Int) != c) = true := bne_iff_ne.2 hc
    clear hc hn
    go_wp2
    go_ret
    exact ⟨by rw [HR.out]; rfl, hB⟩
  have hc' : ((r.cats.length : Int) != c) = false := bne_eq_false_iff_eq.2 hc
  cases hlb : lok r.label
  · have HR : Hid (rok n c r = false) := rok_lok hlb
    clear hn hc
    go_wp2_with (go_at_call 118; refine (slab _ _).mono ?_; rintro e w' ⟨rfl, hw'⟩; subst w')
    go_ret
    exact ⟨by rw [HR.out]; rfl, hB⟩
  have HS : Hid (sok n c = true ∧ (r.nums.length : Int) = n ∧ (r.cats.length : Int) = c ∧ lok r.label = true) := ⟨hs, hn, hc, hlb⟩
  clear hn hc
  go_wp2_with (go_at_call 118; refine (slab _ _).mono ?_; rintro e w' ⟨rfl, hw'⟩; subst w')
  clear hlb
  go_loopw [5] (fun i wr => ∃ k : Nat, k ≤ r.nums.length ∧ i = .int .i64 k ∧ (r.nums.take k).all fok = true ∧ ∃ n, wr = w1.drewN n) (fun i _ => r.nums.length - (intOf i).toNat)
  case atStart => exact ⟨0, Nat.zero_le _, rfl, rfl, 0, rfl⟩
  case round =>
    obtain ⟨k, hk, rfl, ha, nd, rfl⟩ := hrel
    have HA : Hid ((r.nums.take k).all fok = true) := ha
    clear ha
    by_cases hlt : k < r.nums.length
    · rcases i0 with h0 | ⟨xb, xo, rfl, hxb, hxc⟩
      · rw [h0] at hlt; simp at hlt
      · have hcx := hxc k hlt
        clear hxc
        cases hq : fok r.nums[k]
        · have HR : Hid (rok n c r = false) := rok_nok (pre_no fok r.nums k hlt hq)
          go_wp2_with (go_at_call 69; refine (sok_any _ _).mono ?_; rintro e w' ⟨rfl, hw'⟩; subst w')
          go_ret
          exact ⟨by rw [HR.out]; rfl, Go.below_drewN hB _⟩
        · have HN : Hid ((r.nums.take (k + 1)).all fok = true) := pre_snoc fok r.nums k hlt HA.out hq
          go_wp2_with (go_at_call 69; refine (sok_any _ _).mono ?_; rintro e w' ⟨rfl, hw'⟩; subst w')
          go_roundw
          case rel => exact ⟨k + 1, by omega, by go_num, HN.out, _, rfl⟩
          case measure => simp [intOf]; omega
    · have HN : Hid (nok r.nums = true) := pre_end fok r.nums k hlt HA.out
      clear HA
      go_wp2
      go_loopw [6] (fun i wr => ∃ k : Nat, k ≤ r.cats.length ∧ i = .int .i64 k ∧ (r.cats.take k).all wok = true ∧ ∃ n, wr = w1.drewN n) (fun i _ => r.cats.length - (intOf i).toNat)
      case atStart => exact ⟨0, Nat.zero_le _, rfl, rfl, _, rfl⟩
      case round =>
        obtain ⟨k, hk, rfl, ha, nd', rfl⟩ := hrel
        have HA : Hid ((r.cats.take k).all wok = true) := ha
        clear ha
        by_cases hlt : k < r.cats.length
        · rcases i1 with h0 | ⟨xb, xo, rfl, hxb, hxc⟩
          · rw [h0] at hlt; simp at hlt
          · have hcx := hxc k hlt
            have hwl := word_le r.cats k hlt
            clear hxc
            go_wp2_with fail
            refine (sword _ _ (by omega)).mono ?_
            rintro e w2 ⟨rfl, nd2, hw2⟩
            subst w2
            cases hq : wok r.cats[k]
            · have HR : Hid (rok n c r = false) := rok_cok (pre_no wok r.cats k hlt hq)
              go_wp2
              go_ret
              exact ⟨by rw [HR.out]; rfl, by first | exact Go.below_drewN hB _ | exact Go.below_drewN (Go.below_drewN hB _) _⟩
            · have HC : Hid ((r.cats.take (k + 1)).all wok = true) := pre_snoc wok r.cats k hlt HA.out hq
              go_wp2
              go_roundw
              case rel => exact ⟨k + 1, by omega, by go_num, HC.out, _, by first | rfl | exact World.drewN_drewN _ _ _⟩
              case measure => simp [intOf]; omega
        · have HC : Hid (cok r.cats = true) := pre_end wok r.cats k hlt HA.out
          have HR : Hid (rok n c r = true) := rok_all HS.out.1 HS.out.2.1 HS.out.2.2.1 HN.out HC.out HS.out.2.2.2
          clear HA
          go_wp2
          go_ret
          exact ⟨by rw [HR.out]; rfl, Go.below_drewN hB _⟩
def tok (n c : Int) (rs : List Row) : Bool := sok n c && (decide (rs.length ≤ 40) && rs.all (rok n c))
theorem tok_sok {n c : Int} {rs : List Row} (h : sok n c = false) : tok n c rs = false := by simp [tok, h]
theorem tok_len {n c : Int} {rs : List Row} (h : ¬ rs.length ≤ 40) : tok n c rs = false := by simp [tok, h]
theorem tok_row {n c : Int} {rs : List Row} (h : rs.all (rok n c) = false) : tok n c rs = false := by unfold tok; rw [h]; simp
theorem tok_all {n c : Int} {rs : List Row} (h0 : sok n c = true) (h1 : rs.length ≤ 40) (h2 : rs.all (rok n c) = true) : tok n c rs = true := by unfold tok; rw [h0, h2]; simp [h1]
theorem tok_iff {n c : Int} {rs : List Row} : tok n c rs = true ↔ sok n c = true ∧ rs.length ≤ 40 ∧ rs.all (rok n c) = true := by unfold tok; simp
theorem box3_new' (w : World) (v0 v1 v2 : Value) (T : TypeId) : ∃ W, w.alloc (.cells #[v0, v1, v2] T) = W ∧ W.heap.size = w.heap.size + 1 ∧ Below w.heap.size w W ∧ Box3 W w.heap.size v0 v1 v2 :=
  ⟨_, rfl, by simp, (Below.refl _ _).alloc (Nat.le_refl _) _, box3_new _ _ _ _ _⟩
set_option maxHeartbeats 2000000 in
theorem itab (w : World) (n c : Int) (a : Option Addr) (cap : Nat) (rs : List Row) (hx : IsR w a rs) (hl : rs.length + szR rs ≤ 1048576) :
    Calls Tryz.prog 28 #[.agg #[.int .i64 n, .int .i64 c, .slice a rs.length cap]] w fun e w' => e = .returned (.bool (tok n c rs)) ∧ Below w.heap.size w w' := by
  obtain ⟨W, hW, hsz, hB, bx⟩ := box3_new' w (.int .i64 n) (.int .i64 c) (.slice a rs.length cap) 32
  have HW : Hid (w.alloc (.cells #[.int .i64 n, .int .i64 c, .slice a rs.length cap] 32) = W) := hW
  clear hW
  go_enter Tryz.func28, Tryz.ntmps28
  go_wp2_with fail
  rw [HW.out]
  clear HW
  refine (isch _ _ _).mono ?_
  rintro e w1 ⟨rfl, hB1⟩
  have bx := bx.below hB1
  have hB := hB.trans (hB1.mono hB.size)
  clear hB1 hsz
  have hx := hx.below hB
  obtain ⟨hbx, ⟨cx0, cx1, cx2⟩, _⟩ := id bx
  cases hs : sok n c
  · have HR : Hid (tok n c rs = false) := tok_sok hs
    go_wp2
    go_ret
    exact ⟨by rw [HR.out]; rfl, hB⟩
  by_cases hn : rs.length ≤ 40
  rotate_left
  · have HR : Hid (tok n c rs = false) := tok_len hn
    have hn' : (40 : Int) < rs.length := by omega
    clear hn
    go_wp2
    go_ret
    exact ⟨by rw [HR.out]; rfl, hB⟩
  have hn' : ¬ (40 : Int) < rs.length := by omega
  have HS : Hid (sok n c = true) := hs
  clear hs
  go_wp2
  go_loopw [18] (fun i wr => ∃ k : Nat, k ≤ rs.length ∧ i = .int .i64 k ∧ (rs.take k).all (rok n c) = true ∧ Below w1.heap.size w1 wr) (fun i _ => rs.length - (intOf i).toNat)
  case atStart => exact ⟨0, Nat.zero_le _, rfl, rfl, Below.refl _ _⟩
  case round =>
    obtain ⟨k, hk, rfl, ha, hBr⟩ := hrel
    have HA : Hid ((rs.take k).all (rok n c) = true) := ha
    clear ha
    by_cases hlt : k < rs.length
    · rcases hx.below hBr with h0 | ⟨xb, xo, rfl, hxb, hxc⟩
      · rw [h0] at hlt; simp at hlt
      · obtain ⟨v0, v1, v2, ⟨d0, d1, d2⟩, hr⟩ := hxc k hlt
        have hz := szR_at rs k hlt
        have bxr := bx.below hBr
        obtain ⟨_, ⟨cx0, cx1, cx2⟩, _⟩ := id bxr
        clear hxc
        have hr' := hr
        obtain ⟨a0, q0, a1, q1, rfl, rfl, rfl, _, _⟩ := hr'
        go_wp2_with fail
        have hBa : Below wr.heap.size wr (wr.alloc (.cells #[.slice a0 rs[k].nums.length q0, .slice a1 rs[k].cats.length q1, .int .i64 rs[k].label] 50)) := (Below.refl _ _).alloc (Nat.le_refl _) _
        refine (isam _ _ _ _ _ _ rs[k] (hr.below hBa) (by omega)).mono ?_
        rintro e w2 ⟨rfl, hB2⟩
        have hB2 := hBa.trans (hB2.mono hBa.size)
        have hBr := hBr.trans (hB2.mono hBr.size)
        have hB := hB.trans (hBr.mono hB.size)
        clear hB2 hBa hr d0 d1 d2
        cases hq : rok n c rs[k]
        · have HR : Hid (tok n c rs = false) := tok_row (pre_no _ rs k hlt hq)
          go_wp2
          go_ret
          exact ⟨by rw [HR.out]; rfl, hB⟩
        · have HN : Hid ((rs.take (k + 1)).all (rok n c) = true) := pre_snoc _ rs k hlt HA.out hq
          go_wp2
          go_roundw
          case rel => exact ⟨k + 1, by omega, by go_num, HN.out, hBr⟩
          case measure => simp [intOf]; omega
    · have HR : Hid (tok n c rs = true) := tok_all HS.out hn (pre_end _ rs k hlt HA.out)
      have hB := hB.trans (hBr.mono hB.size)
      go_wp2
      go_ret
      exact ⟨by rw [HR.out]; rfl, hB⟩
set_option maxHeartbeats 2000000 in
theorem stab (w : World) (n c : Int) (a : Option Addr) (cap : Nat) (rs : List Row) (hx : IsR w a rs) (hl : rs.length + szR rs ≤ 1048576) :
    Calls Tryz.prog 64 #[.agg #[.int .i64 n, .int .i64 c, .slice a rs.length cap]] w fun e w' => e = .returned (.bool (tok n c rs)) ∧ Below w.heap.size w w' := by
  obtain ⟨W, hW, hsz, hB, bx⟩ := box3_new' w (.int .i64 n) (.int .i64 c) (.slice a rs.length cap) 32
  have HW : Hid (w.alloc (.cells #[.int .i64 n, .int .i64 c, .slice a rs.length cap] 32) = W) := hW
  clear hW
  go_enter Tryz.func64, Tryz.ntmps64
  go_wp2_with fail
  rw [HW.out]
  clear HW
  refine (ssch _ _ _).mono ?_
  rintro e w1 ⟨rfl, hB1⟩
  have bx := bx.below hB1
  have hB := hB.trans (hB1.mono hB.size)
  clear hB1 hsz
  have hx := hx.below hB
  obtain ⟨hbx, ⟨cx0, cx1, cx2⟩, _⟩ := id bx
  cases hs : sok n c
  · have HR : Hid (tok n c rs = false) := tok_sok hs
    go_wp2
    go_ret
    exact ⟨by rw [HR.out]; rfl, hB⟩
  by_cases hn : rs.length ≤ 40
  rotate_left
  · have HR : Hid (tok n c rs = false) := tok_len hn
    have hn' : (40 : Int) < rs.length := by omega
    clear hn
    go_wp2
    go_ret
    exact ⟨by rw [HR.out]; rfl, hB⟩
  have hn' : ¬ (40 : Int) < rs.length := by omega
  have HS : Hid (sok n c = true) := hs
  clear hs
  go_wp2
  go_loopw [3] (fun i wr => ∃ k : Nat, k ≤ rs.length ∧ i = .int .i64 k ∧ (rs.take k).all (rok n c) = true ∧ Below w1.heap.size w1 wr) (fun i _ => rs.length - (intOf i).toNat)
  case atStart => exact ⟨0, Nat.zero_le _, rfl, rfl, Below.refl _ _⟩
  case round =>
    obtain ⟨k, hk, rfl, ha, hBr⟩ := hrel
    have HA : Hid ((rs.take k).all (rok n c) = true) := ha
    clear ha
    have bxr := bx.below hBr
    obtain ⟨_, ⟨cx0, cx1, cx2⟩, _⟩ := id bxr
    by_cases hlt : k < rs.length
    · rcases hx.below hBr with h0 | ⟨xb, xo, rfl, hxb, hxc⟩
      · rw [h0] at hlt; simp at hlt
      · obtain ⟨v0, v1, v2, ⟨d0, d1, d2⟩, hr⟩ := hxc k hlt
        have hz := szR_at rs k hlt
        clear hxc
        go_wp2
        go_region_with (go_at_call 100; refine (ssam _ _ _ _ _ _ rs[k] (by exact hr) (by omega)).mono ?_; rintro e w2 ⟨rfl, hB2⟩)
        all_goals
          have hBr : Below w1.heap.size w1 w2 := by first | exact hBr.trans (hB2.mono hBr.size) | exact hBr.drew.trans (hB2.mono hBr.size)
          have hB := hB.trans (hBr.mono hB.size)
          clear hB2 hr d0 d1 d2
          cases hq : rok n c rs[k]
          · have HR : Hid (tok n c rs = false) := tok_row (pre_no _ rs k hlt hq)
            go_wp2
            go_ret
            exact ⟨by rw [HR.out]; rfl, hB⟩
          · have HN : Hid ((rs.take (k + 1)).all (rok n c) = true) := pre_snoc _ rs k hlt HA.out hq
            go_wp2
            go_roundw
            case rel => exact ⟨k + 1, by omega, by go_num, HN.out, hBr⟩
            case measure => simp [intOf]; omega
    · have HR : Hid (tok n c rs = true) := tok_all HS.out hn (pre_end _ rs k hlt HA.out)
      have hB := hB.trans (hBr.mono hB.size)
      go_wp2
      go_ret
      exact ⟨by rw [HR.out]; rfl, hB⟩
end Go.Proofs.YtglllflleabmbaaGreat.Tk
/-
  Small laws for the walks over tables: frames behind a draw; a row of the call's own; a box of two cells.
-/
namespace Go.Proofs.YtglllflleabmbaaGreat.Tk
set_option maxRecDepth 20000
open Go.RowKit
open Go.Proofs.YtglllflleabmbaaGreat.Tb
end Go.Proofs.YtglllflleabmbaaGreat.Tk
/-
  Marks in a table of the call's own: what stands in it afterwards; nothing outside its blocks turns; whether the marks are held.
-/
namespace Go.Proofs.YtglllflleabmbaaGreat.Mk
set_option maxRecDepth 100000
open Go.RowKit
open Go.Proofs.YtglllflleabmbaaGreat.Tb
open Go.Proofs.YtglllflleabmbaaGreat.Li (ret_bool grown_refl grown_trans grown_set below_none)

structure Win (lo hi : Nat) (w w' : World) : Prop where
  os : w'.os = w.os
  tape : w'.tape = w.tape
  output : w'.output = w.output
  size : w.heap.size ≤ w'.heap.size
  block : ∀ k, k < w.heap.size → (k < lo ∨ hi ≤ k) → w'.heap[k]? = w.heap[k]?
theorem Win.refl (lo hi : Nat) (w : World) : Win lo hi w w := ⟨rfl, rfl, rfl, Nat.le_refl _, fun _ _ _ => rfl⟩
theorem Win.trans {lo hi : Nat} {a b c : World} (h : Win lo hi a b) (h' : Win lo hi b c) : Win lo hi a c :=
  ⟨h'.os.trans h.os, h'.tape.trans h.tape, h'.output.trans h.output, Nat.le_trans h.size h'.size, fun k hk ho => (h'.block k (Nat.lt_of_lt_of_le hk h.size) ho).trans (h.block k hk ho)⟩
theorem Win.grown {lo hi : Nat} {a w w' : World} {row : Option Nat} (h : Win lo hi a w) (hg : w.grownBy w' row) (hr : ∀ k, row = some k → lo ≤ k ∧ k < hi) : Win lo hi a w' :=
  h.trans ⟨hg.os, hg.tape, hg.output, hg.size, fun k hk ho => hg.block k hk (fun e => by have := hr k e.symm; omega)⟩
theorem Win.below {lo hi : Nat} {a w w' : World} (h : Win lo hi a w) (hB : Below w.heap.size w w') : Win lo hi a w' :=
  h.trans ⟨hB.os, hB.tape, hB.output, hB.size, fun k hk _ => hB.block k hk⟩
theorem Win.own {lo hi B : Nat} {w w' : World} {v : Value} {xs : List Int} (h : Win lo hi w w') (o : Li.Own w B v xs) (hB : ∀ k, v.ownBlock = some k → k < lo ∨ hi ≤ k) : Li.Own w' B v xs :=
  ownsRow_at o fun k e => h.block k (o.ge k e).2 (hB k e)
end Go.Proofs.YtglllflleabmbaaGreat.Mk
