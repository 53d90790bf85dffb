/-
  A job's text taken apart by the program: its schema, its settings, its two tables.
-/
import Derived.Test.YtadjedoakenlkaaGreatDoorJpb
import Derived.Maps.OwnSet
namespace Go.Proofs.YtadjedoakenlkaaGreatDoor.Jp
set_option maxRecDepth 100000
open Go.RowKit
open Go.Proofs.YtadjedoakenlkaaGreatDoor.Mt (nums ba_ext ba_size i64)
open Go.Proofs.YtadjedoakenlkaaGreatDoor.Rm (Vs inums inumbers)
open Go.Proofs.YtadjedoakenlkaaGreatDoor.Rs (b11)
set_option linter.unusedVariables false
theorem results_ct (fn : Func) (p q : Tmp) (ty : TypeId) (h : fn.results = #[.cell p ty, .tmp q]) (tmps : Array Value) (P : Program) (w : World) :
    (results fn tmps).run P w = ((asAddr (tmps.getD p undef)).run P w).andThen fun a w₁ => ((loadVar ty a).run P w₁).andThen fun v w₂ => .ok (.tuple #[v, tmps.getD q undef]) w₂ := by
  simp [results, h]
theorem boxn (w : World) (cs : Array Value) (T : TypeId) {w1 : World} (h : Below (w.alloc (.cells cs T)).heap.size (w.alloc (.cells cs T)) w1) :
    w.heap.size < w1.heap.size ∧ ∀ j (hj : j < cs.size), w1.cell? ⟨w.heap.size, j, none⟩ = some cs[j] ∧ w1.frozen? ⟨w.heap.size, j, none⟩ = false := by
  have hlt : w.heap.size < (w.alloc (.cells cs T)).heap.size := by simp
  have hb := h.block w.heap.size hlt
  refine ⟨Nat.lt_of_lt_of_le hlt h.size, fun j hj => ⟨?_, ?_⟩⟩
  · rw [World.cell?_of_block (a := ⟨w.heap.size, j, none⟩) hb]
    simp [World.cell?_alloc_new, hj]
  · rw [World.frozen?_of_block (a := ⟨w.heap.size, j, none⟩) hb]
    unfold World.frozen?
    simp only [heap_alloc_new]
    simp
theorem two {xs : List Int} (h : xs.length = 2) : ∃ a b, xs = [a, b] := by
  match xs, h with
  | [a, b], _ => exact ⟨a, b, rfl⟩
theorem seven {xs : List Int} (h : xs.length = 7) : ∃ a b c d e f g, xs = [a, b, c, d, e, f, g] := by
  match xs, h with
  | [a, b, c, d, e, f, g], _ => exact ⟨a, b, c, d, e, f, g, rfl⟩
def wS : ByteArray := ⟨#[115, 99, 104, 101, 109, 97]⟩
def wC : ByteArray := ⟨#[99, 111, 110, 102]⟩
/-- A schema of a line. -/
def Sch (l : List UInt8) (e : Ending) : Prop := (∃ x0 x1, NL wSchema 2 l [x0, x1] ∧ e = .returned (.tuple #[.agg #[.int .i64 x0, .int .i64 x1], .bool true])) ∨ ((∀ xs, ¬ NL wSchema 2 l xs) ∧ e = .returned (.tuple #[.agg #[.int .i64 0, .int .i64 0], .bool false]))
set_option maxHeartbeats 2000000 in
theorem isch (w : World) (l : ByteArray) (hV : Vs w) (hl : l.size ≤ 9000) :
    Calls Tryz.prog 12 #[.string l] w fun e w' => Sch l.data.toList e ∧ Below w.heap.size w w' := by
  go_enter Tryz.func12, Tryz.ntmps12
  have HA : Hid (Below w.heap.size w (w.alloc (.cells #[.int .i64 0, .int .i64 0] 23))) := (Below.refl _ _).alloc (Nat.le_refl _) _
  go_wp2_with fail
  refine (inb _ wS l 2 (hV.below HA.out) (by decide) hl (by decide)).mono ?_
  rintro e w1 ⟨he, hB⟩
  have HB1 : Hid (Below w.heap.size w w1) := HA.out.trans (hB.mono HA.out.size)
  obtain ⟨hbl, hbx⟩ := boxn w _ _ hB
  obtain ⟨c0, f0⟩ := hbx 0 (by decide)
  obtain ⟨c1, f1⟩ := hbx 1 (by decide)
  simp only [List.getElem_toArray, List.getElem_cons_zero, List.getElem_cons_succ] at c0 c1
  clear hbx hB HA
  have hr : w.heap.size ≤ w.heap.size := Nat.le_refl _
  rcases he with ⟨xs, a, c, hnl, rfl, ho⟩ | ⟨hno, v, rfl⟩
  · obtain ⟨x0, x1, rfl⟩ := two hnl.2.1
    have HN : Hid (type_of% hnl) := hnl
    rcases ho.2 with ⟨e, h0⟩ | ⟨A, cap, cur, e, hA, _⟩
    · simp at h0
    cases e
    have d0 := ho.cell rfl 0 (by simp)
    have d1 := ho.cell rfl 1 (by simp)
    simp only [List.getElem_cons_zero, List.getElem_cons_succ] at d0 d1
    have hAl := (ho.ge A rfl).2
    have hA1 : w.heap.size + 1 ≤ A := by have := (ho.ge A rfl).1; simpa using this
    have hAb : ¬ A = w.heap.size := by omega
    have hbA : ¬ w.heap.size = A := by omega
    clear ho hnl
    go_wp2_with fail
    go_region_held3 (fun w' => w'.cell? ⟨A, 0, none⟩ = some (.int .i64 x0) ∧ w'.cell? ⟨A, 1, none⟩ = some (.int .i64 x1)) (go_keep) (fail)
    go_wp2
    refine bodyPost_ret (v := .tuple #[.agg #[.int .i64 x0, .int .i64 x1], .bool true]) (by rw [results_ct _ _ _ _ rfl]; go_simp) rfl ⟨.inl ⟨x0, x1, HN.out, rfl⟩, ?_⟩
    exact ((HB1.out.setCell hr _).setCell hr _).drew
  · have HN : Hid (type_of% hno) := hno
    clear hno
    go_wp2
    refine bodyPost_ret (v := .tuple #[.agg #[.int .i64 0, .int .i64 0], .bool false]) (by rw [results_ct _ _ _ _ rfl]; go_simp) rfl ⟨.inr ⟨HN.out, rfl⟩, ?_⟩
    exact (HB1.out.setCell hr _).setCell hr _
/-- Settings of a line. -/
def Cnf (l : List UInt8) (e : Ending) : Prop := (∃ x0 x1 x2 x3 x4 x5 x6, NL wConf 7 l [x0, x1, x2, x3, x4, x5, x6] ∧ e = .returned (.tuple #[.agg #[.int .i64 x0, .int .i64 x1, .int .i64 x2, .int .i64 x3, .int .i64 x4, .int .i64 x5, .int .i64 x6], .bool true])) ∨ ((∀ xs, ¬ NL wConf 7 l xs) ∧ e = .returned (.tuple #[.agg #[.int .i64 0, .int .i64 0, .int .i64 0, .int .i64 0, .int .i64 0, .int .i64 0, .int .i64 0], .bool false]))
set_option maxHeartbeats 4000000 in
theorem icnf (w : World) (l : ByteArray) (hV : Vs w) (hl : l.size ≤ 9000) :
    Calls Tryz.prog 13 #[.string l] w fun e w' => Cnf l.data.toList e ∧ Below w.heap.size w w' := by
  go_enter Tryz.func13, Tryz.ntmps13
  have HA : Hid (Below w.heap.size w (w.alloc (.cells #[.int .i64 0, .int .i64 0, .int .i64 0, .int .i64 0, .int .i64 0, .int .i64 0, .int .i64 0] 25))) := (Below.refl _ _).alloc (Nat.le_refl _) _
  go_wp2_with fail
  refine (inb _ wC l 7 (hV.below HA.out) (by decide) hl (by decide)).mono ?_
  rintro e w1 ⟨he, hB⟩
  have HB1 : Hid (Below w.heap.size w w1) := HA.out.trans (hB.mono HA.out.size)
  obtain ⟨hbl, hbx⟩ := boxn w _ _ hB
  obtain ⟨c0, f0⟩ := hbx 0 (by decide)
  obtain ⟨c1, f1⟩ := hbx 1 (by decide)
  obtain ⟨c2, f2⟩ := hbx 2 (by decide)
  obtain ⟨c3, f3⟩ := hbx 3 (by decide)
  obtain ⟨c4, f4⟩ := hbx 4 (by decide)
  obtain ⟨c5, f5⟩ := hbx 5 (by decide)
  obtain ⟨c6, f6⟩ := hbx 6 (by decide)
  simp only [List.getElem_toArray, List.getElem_cons_zero, List.getElem_cons_succ] at c0 c1 c2 c3 c4 c5 c6
  clear hbx hB HA
  have hr : w.heap.size ≤ w.heap.size := Nat.le_refl _
  rcases he with ⟨xs, a, c, hnl, rfl, ho⟩ | ⟨hno, v, rfl⟩
  · obtain ⟨x0, x1, x2, x3, x4, x5, x6, rfl⟩ := seven hnl.2.1
    have HN : Hid (type_of% hnl) := hnl
    rcases ho.2 with ⟨e, h0⟩ | ⟨A, cap, cur, e, hA, _⟩
    · simp at h0
    cases e
    have d0 := ho.cell rfl 0 (by simp)
    have d1 := ho.cell rfl 1 (by simp)
    have d2 := ho.cell rfl 2 (by simp)
    have d3 := ho.cell rfl 3 (by simp)
    have d4 := ho.cell rfl 4 (by simp)
    have d5 := ho.cell rfl 5 (by simp)
    have d6 := ho.cell rfl 6 (by simp)
    simp only [List.getElem_cons_zero, List.getElem_cons_succ] at d0 d1 d2 d3 d4 d5 d6
    have hAl := (ho.ge A rfl).2
    have hA1 : w.heap.size + 1 ≤ A := by have := (ho.ge A rfl).1; simpa using this
    have hAb : ¬ A = w.heap.size := by omega
    have hbA : ¬ w.heap.size = A := by omega
    clear ho hnl
    go_wp2_with fail
    go_region_held3 (fun w' => w'.cell? ⟨A, 0, none⟩ = some (.int .i64 x0) ∧ w'.cell? ⟨A, 1, none⟩ = some (.int .i64 x1) ∧ w'.cell? ⟨A, 2, none⟩ = some (.int .i64 x2) ∧ w'.cell? ⟨A, 3, none⟩ = some (.int .i64 x3) ∧ w'.cell? ⟨A, 4, none⟩ = some (.int .i64 x4) ∧ w'.cell? ⟨A, 5, none⟩ = some (.int .i64 x5) ∧ w'.cell? ⟨A, 6, none⟩ = some (.int .i64 x6)) (go_keep) (fail)
    go_wp2
    refine bodyPost_ret (v := .tuple #[.agg #[.int .i64 x0, .int .i64 x1, .int .i64 x2, .int .i64 x3, .int .i64 x4, .int .i64 x5, .int .i64 x6], .bool true]) (by rw [results_ct _ _ _ _ rfl]; go_simp) rfl ⟨.inl ⟨x0, x1, x2, x3, x4, x5, x6, HN.out, rfl⟩, ?_⟩
    exact ((((((((HB1.out.setCell hr _).setCell hr _).setCell hr _).setCell hr _).setCell hr _).setCell hr _).setCell hr _)).drew
  · have HN : Hid (type_of% hno) := hno
    clear hno
    go_wp2
    refine bodyPost_ret (v := .tuple #[.agg #[.int .i64 0, .int .i64 0, .int .i64 0, .int .i64 0, .int .i64 0, .int .i64 0, .int .i64 0], .bool false]) (by rw [results_ct _ _ _ _ rfl]; go_simp) rfl ⟨.inr ⟨HN.out, rfl⟩, ?_⟩
    exact (((((((HB1.out.setCell hr _).setCell hr _).setCell hr _).setCell hr _).setCell hr _).setCell hr _).setCell hr _)
end Go.Proofs.YtadjedoakenlkaaGreatDoor.Jp
