/-
  A job's text taken apart by the program: the whole.
-/
import Derived.Test.YtadjedoakenlkaaGreatDoorJpd
namespace Go.Proofs.YtadjedoakenlkaaGreatDoor.Jp
set_option maxRecDepth 100000
open Go.RowKit
open Go.Proofs.YtadjedoakenlkaaGreatDoor.Mt (nums ba_ext ba_size i64)
open Go.Proofs.YtadjedoakenlkaaGreatDoor.Rm (Vs inums inumbers)
set_option linter.unusedVariables false
/-- A variable of the call's own: cells that may be written. -/
def Wb (w : World) (g : Nat) (vs : List Value) : Prop := g < w.heap.size ∧ ∀ j (hj : j < vs.length), w.cell? ⟨g, j, none⟩ = some vs[j] ∧ w.frozen? ⟨g, j, none⟩ = false
theorem Wb.below {w w1 : World} {g : Nat} {vs : List Value} (h : Wb w g vs) (hb : Below w.heap.size w w1) : Wb w1 g vs := by
  have hk := hb.block g h.1
  refine ⟨Nat.lt_of_lt_of_le h.1 hb.size, fun j hj => ⟨?_, ?_⟩⟩
  · rw [World.cell?_of_block (w := w) (a := ⟨g, j, none⟩) hk]; exact (h.2 j hj).1
  · rw [World.frozen?_of_block (w := w) (a := ⟨g, j, none⟩) hk]; exact (h.2 j hj).2
theorem Wb.set {w : World} {g : Nat} {vs : List Value} (h : Wb w g vs) (j : Nat) (hj : j < vs.length) (v : Value) : Wb (w.setCell ⟨g, j, none⟩ v) g (vs.set j v) := by
  refine ⟨by simpa [World.setCell] using h.1, fun i hi => ⟨?_, ?_⟩⟩
  · have hi' : i < vs.length := by simpa using hi
    by_cases e : i = j
    · subst e
      rw [World.cell?_setCell_same _ _ _ (h.2 i hj).1]
      simp
    · rw [World.cell?_setCell_other _ _ _ _ (by intro e'; injection e' with _ e'; omega), (h.2 i hi').1]
      rw [List.getElem_set_ne (by omega)]
  · have hi' : i < vs.length := by simpa using hi
    rw [World.frozen?_setCell]; exact (h.2 i hi').2
theorem wb_new (w : World) (cs : List Value) (T : TypeId) : Wb (w.alloc (.cells cs.toArray T)) w.heap.size cs := by
  have h := boxn w cs.toArray T (Below.refl _ _)
  exact ⟨h.1, fun j hj => h.2 j (by simpa using hj)⟩
theorem wb2 {w : World} {g : Nat} {x0 x1 : Value} (h : Wb w g [x0, x1]) : g < w.heap.size ∧ (w.cell? ⟨g, 0, none⟩ = some x0 ∧ w.cell? ⟨g, 1, none⟩ = some x1) ∧ w.frozen? ⟨g, 0, none⟩ = false ∧ w.frozen? ⟨g, 1, none⟩ = false :=
  ⟨h.1, ⟨(h.2 0 (by simp)).1, (h.2 1 (by simp)).1⟩, (h.2 0 (by simp)).2, (h.2 1 (by simp)).2⟩
theorem wb7 {w : World} {g : Nat} {x0 x1 x2 x3 x4 x5 x6 : Value} (h : Wb w g [x0, x1, x2, x3, x4, x5, x6]) : g < w.heap.size ∧ (w.cell? ⟨g, 0, none⟩ = some x0 ∧ w.cell? ⟨g, 1, none⟩ = some x1 ∧ w.cell? ⟨g, 2, none⟩ = some x2 ∧ w.cell? ⟨g, 3, none⟩ = some x3 ∧ w.cell? ⟨g, 4, none⟩ = some x4 ∧ w.cell? ⟨g, 5, none⟩ = some x5 ∧ w.cell? ⟨g, 6, none⟩ = some x6) ∧ w.frozen? ⟨g, 0, none⟩ = false ∧ w.frozen? ⟨g, 1, none⟩ = false ∧ w.frozen? ⟨g, 2, none⟩ = false ∧ w.frozen? ⟨g, 3, none⟩ = false ∧ w.frozen? ⟨g, 4, none⟩ = false ∧ w.frozen? ⟨g, 5, none⟩ = false ∧ w.frozen? ⟨g, 6, none⟩ = false :=
  ⟨h.1, ⟨(h.2 0 (by simp)).1, (h.2 1 (by simp)).1, (h.2 2 (by simp)).1, (h.2 3 (by simp)).1, (h.2 4 (by simp)).1, (h.2 5 (by simp)).1, (h.2 6 (by simp)).1⟩, (h.2 0 (by simp)).2, (h.2 1 (by simp)).2, (h.2 2 (by simp)).2, (h.2 3 (by simp)).2, (h.2 4 (by simp)).2, (h.2 5 (by simp)).2, (h.2 6 (by simp)).2⟩
theorem wb2s (w : World) (T : TypeId) (z0 z1 x0 x1 : Value) : ∃ W, ((w.alloc (.cells #[z0, z1] T)).setCell ⟨w.heap.size, 0, none⟩ x0).setCell ⟨w.heap.size, 1, none⟩ x1 = W ∧ Below w.heap.size w W ∧ Wb W w.heap.size [x0, x1] := by
  have hr : w.heap.size ≤ w.heap.size := Nat.le_refl _
  exact ⟨_, rfl, (((Below.refl _ _).alloc (Nat.le_refl _) _).setCell hr _).setCell hr _, ((wb_new w [z0, z1] T).set 0 (by simp) x0).set 1 (by simp) x1⟩
theorem wb7s (w : World) (T : TypeId) (z0 z1 z2 z3 z4 z5 z6 x0 x1 x2 x3 x4 x5 x6 : Value) : ∃ W, (((((((w.alloc (.cells #[z0, z1, z2, z3, z4, z5, z6] T)).setCell ⟨w.heap.size, 0, none⟩ x0).setCell ⟨w.heap.size, 1, none⟩ x1).setCell ⟨w.heap.size, 2, none⟩ x2).setCell ⟨w.heap.size, 3, none⟩ x3).setCell ⟨w.heap.size, 4, none⟩ x4).setCell ⟨w.heap.size, 5, none⟩ x5).setCell ⟨w.heap.size, 6, none⟩ x6 = W ∧ Below w.heap.size w W ∧ Wb W w.heap.size [x0, x1, x2, x3, x4, x5, x6] := by
  have hr : w.heap.size ≤ w.heap.size := Nat.le_refl _
  exact ⟨_, rfl, (((((((((Below.refl _ _).alloc (Nat.le_refl _) _).setCell hr _).setCell hr _).setCell hr _).setCell hr _).setCell hr _).setCell hr _).setCell hr _), ((((((((wb_new w [z0, z1, z2, z3, z4, z5, z6] T).set 0 (by simp) x0).set 1 (by simp) x1).set 2 (by simp) x2).set 3 (by simp) x3).set 4 (by simp) x4).set 5 (by simp) x5).set 6 (by simp) x6)⟩
theorem results_j (fn : Func) (p q r s t : Tmp) (t1 t2 : TypeId) (h : fn.results = #[.cell p t1, .cell q t2, .tmp r, .tmp s, .tmp t]) (tmps : Array Value) (P : Program) (w : World) :
    (results fn tmps).run P w = ((asAddr (tmps.getD p undef)).run P w).andThen fun a w₁ => ((loadVar t1 a).run P w₁).andThen fun v w₂ => ((asAddr (tmps.getD q undef)).run P w₂).andThen fun a' w₃ => ((loadVar t2 a').run P w₃).andThen fun v' w₄ => .ok (.tuple #[v, v', tmps.getD r undef, tmps.getD s undef, tmps.getD t undef]) w₄ := by
  simp [results, h]
theorem sch_ok {l : List UInt8} {e : Ending} (h : Sch l e) : ∃ a b ok, e = .returned (.tuple #[.agg #[.int .i64 a, .int .i64 b], .bool ok]) ∧ (ok = true → NL wSchema 2 l [a, b]) ∧ (ok = false → ∀ xs, ¬ NL wSchema 2 l xs) := by
  rcases h with ⟨a, b, h1, h2⟩ | ⟨h1, h2⟩
  · exact ⟨a, b, true, h2, fun _ => h1, fun h => by cases h⟩
  · exact ⟨0, 0, false, h2, (fun h => by cases h), fun _ => h1⟩
theorem cnf_ok {l : List UInt8} {e : Ending} (h : Cnf l e) : ∃ x0 x1 x2 x3 x4 x5 x6 ok, e = .returned (.tuple #[.agg #[.int .i64 x0, .int .i64 x1, .int .i64 x2, .int .i64 x3, .int .i64 x4, .int .i64 x5, .int .i64 x6], .bool ok]) ∧ (ok = true → NL wConf 7 l [x0, x1, x2, x3, x4, x5, x6]) ∧ (ok = false → ∀ xs, ¬ NL wConf 7 l xs) := by
  rcases h with ⟨x0, x1, x2, x3, x4, x5, x6, h1, h2⟩ | ⟨h1, h2⟩
  · exact ⟨x0, x1, x2, x3, x4, x5, x6, true, h2, fun _ => h1, fun h => by cases h⟩
  · exact ⟨0, 0, 0, 0, 0, 0, 0, false, h2, (fun h => by cases h), fun _ => h1⟩
theorem apr_ok {R : List UInt8} {e : Ending} (h : Apr R e) : ∃ (F L : ByteArray) (ok : Bool), e = .returned (.tuple #[.string F, .string L, .bool ok]) ∧ (ok = true → (Lib.cut R sep).2.2 = true ∧ c1 (Lib.cut R sep).1 ∈ modes ∧ F = ⟨((Lib.cut R sep).1 ++ [10]).toArray⟩ ∧ L = ⟨(Lib.cut R sep).2.1.toArray⟩) ∧ (ok = false → ¬ ((Lib.cut R sep).2.2 = true ∧ c1 (Lib.cut R sep).1 ∈ modes)) := by
  rcases h with ⟨h1, h2, h3⟩ | ⟨h1, h2⟩
  · exact ⟨_, _, true, h3, fun _ => ⟨h1, h2, rfl, rfl⟩, fun h => by cases h⟩
  · exact ⟨_, _, false, h2, (fun h => by cases h), fun _ => h1⟩
/-- What is answered of a job's text. -/
def Ans (s : List UInt8) (e : Ending) : Prop :=
  (∃ a b x0 x1 x2 x3 x4 x5 x6 F L, Ji s [a, b] [x0, x1, x2, x3, x4, x5, x6] F L ∧ e = .returned (.tuple #[.agg #[.int .i64 a, .int .i64 b], .agg #[.int .i64 x0, .int .i64 x1, .int .i64 x2, .int .i64 x3, .int .i64 x4, .int .i64 x5, .int .i64 x6], .string ⟨F.toArray⟩, .string ⟨L.toArray⟩, .bool true])) ∨
  ((∀ xs ys F L, ¬ Ji s xs ys F L) ∧ e = .returned (.tuple #[.agg #[.int .i64 0, .int .i64 0], .agg #[.int .i64 0, .int .i64 0, .int .i64 0, .int .i64 0, .int .i64 0, .int .i64 0, .int .i64 0], .string ⟨#[]⟩, .string ⟨#[]⟩, .bool false]))
theorem bel9 {w w1 : World} {R Q : Nat} (h : Below w.heap.size w w1) (hR : w.heap.size ≤ R) (hQ : w.heap.size ≤ Q) (a b x0 x1 x2 x3 x4 x5 x6 : Value) : Below w.heap.size w (((((((((w1.setCell ⟨R, 0, none⟩ a).setCell ⟨R, 1, none⟩ b).setCell ⟨Q, 0, none⟩ x0).setCell ⟨Q, 1, none⟩ x1).setCell ⟨Q, 2, none⟩ x2).setCell ⟨Q, 3, none⟩ x3).setCell ⟨Q, 4, none⟩ x4).setCell ⟨Q, 5, none⟩ x5).setCell ⟨Q, 6, none⟩ x6) := ((((((((h.setCell (p := ⟨R, 0, none⟩) hR _).setCell (p := ⟨R, 1, none⟩) hR _).setCell (p := ⟨Q, 0, none⟩) hQ _).setCell (p := ⟨Q, 1, none⟩) hQ _).setCell (p := ⟨Q, 2, none⟩) hQ _).setCell (p := ⟨Q, 3, none⟩) hQ _).setCell (p := ⟨Q, 4, none⟩) hQ _).setCell (p := ⟨Q, 5, none⟩) hQ _).setCell (p := ⟨Q, 6, none⟩) hQ _
set_option maxHeartbeats 4000000 in
theorem ijob (w : World) (s : ByteArray) (hV : Vs w) (hs : s.size ≤ 281474976710656) :
    Calls Tryz.prog 5 #[.string s] w fun e w' => Ans s.data.toList e ∧ Below w.heap.size w w' := by
  have hsz : s.data.toList.length = s.size := by simp
  obtain ⟨R, hR⟩ : ∃ R, w.heap.size = R := ⟨_, rfl⟩
  have HR : Hid (w.heap.size = R) := hR
  have HA : Hid (Below w.heap.size w ((w.alloc (.cells #[.int .i64 0, .int .i64 0] 23)).alloc (.cells #[.int .i64 0, .int .i64 0, .int .i64 0, .int .i64 0, .int .i64 0, .int .i64 0, .int .i64 0] 25))) := ((Below.refl _ _).alloc (Nat.le_refl _) _).alloc (by simp) _
  have HW1 : Hid (Wb ((w.alloc (.cells #[.int .i64 0, .int .i64 0] 23)).alloc (.cells #[.int .i64 0, .int .i64 0, .int .i64 0, .int .i64 0, .int .i64 0, .int .i64 0, .int .i64 0] 25)) R [.int .i64 0, .int .i64 0]) := by
    have h := wb_new w [.int .i64 0, .int .i64 0] 23
    rw [hR] at h
    exact h.below ((Below.refl _ _).alloc (Nat.le_refl _) _)
  have HW2 : Hid (Wb ((w.alloc (.cells #[.int .i64 0, .int .i64 0] 23)).alloc (.cells #[.int .i64 0, .int .i64 0, .int .i64 0, .int .i64 0, .int .i64 0, .int .i64 0, .int .i64 0] 25)) (R + 1) [.int .i64 0, .int .i64 0, .int .i64 0, .int .i64 0, .int .i64 0, .int .i64 0, .int .i64 0]) := by
    have h := wb_new (w.alloc (.cells #[.int .i64 0, .int .i64 0] 23)) [.int .i64 0, .int .i64 0, .int .i64 0, .int .i64 0, .int .i64 0, .int .i64 0, .int .i64 0] 25
    have e : (w.alloc (.cells #[.int .i64 0, .int .i64 0] 23)).heap.size = R + 1 := by simp [hR]
    rw [e] at h
    exact h
  clear hR
  by_cases hbig : 9000 < s.size
  · have HNO : Hid (∀ xs ys F L, ¬ Ji s.data.toList xs ys F L) := fun _ _ _ _ h => by have := h.1; omega
    clear hsz
    go_enter Tryz.func5, Tryz.ntmps5
    go_wp2
    refine bodyPost_ret (v := .tuple #[.agg #[.int .i64 0, .int .i64 0], .agg #[.int .i64 0, .int .i64 0, .int .i64 0, .int .i64 0, .int .i64 0, .int .i64 0, .int .i64 0], .string ⟨#[]⟩, .string ⟨#[]⟩, .bool false]) (by rw [results_j _ _ _ _ _ _ _ _ rfl]; go_simp) rfl ⟨.inr ⟨HNO.out, rfl⟩, ?_⟩
    exact HA.out
  go_enter Tryz.func5, Tryz.ntmps5
  go_wp2_with fail
  refine (ihassuf _ s (by omega)).mono ?_
  rintro e w1 ⟨he, hw⟩
  rw [← hw] at HA HW1 HW2
  rw [HR.out]
  have hR1 : w.heap.size ≤ R := by rw [HR.out]; exact Nat.le_refl _
  have hR2 : w.heap.size ≤ R + 1 := Nat.le_succ_of_le hR1
  have HV : Hid (Vs w1) := hV.below HA.out
  clear hw hV
  rcases he with ⟨hsuf, rfl⟩ | ⟨hsuf, rfl⟩
  rotate_left
  · have HNO : Hid (∀ xs ys F L, ¬ Ji s.data.toList xs ys F L) := fun _ _ _ _ h => hsuf h.2.1
    obtain ⟨b1, ⟨q0, q1⟩, u0, u1⟩ := wb2 HW1.out
    obtain ⟨b2, ⟨p0, p1, p2, p3, p4, p5, p6⟩, g0, g1, g2, g3, g4, g5, g6⟩ := wb7 HW2.out
    clear hsuf hsz
    have HA1 : Hid (type_of% HA.out) := HA.out
    have hr : R < R + 1 := Nat.lt_succ_self _
    go_wp2
    refine bodyPost_ret (v := .tuple #[.agg #[.int .i64 0, .int .i64 0], .agg #[.int .i64 0, .int .i64 0, .int .i64 0, .int .i64 0, .int .i64 0, .int .i64 0, .int .i64 0], .string ⟨#[]⟩, .string ⟨#[]⟩, .bool false]) (by rw [results_j _ _ _ _ _ _ _ _ rfl]; go_simp) rfl ⟨.inr ⟨HNO.out, rfl⟩, ?_⟩
    exact bel9 HA1.out hR1 hR2 _ _ _ _ _ _ _ _ _
  have HSU : Hid (type_of% hsuf) := hsuf
  have hcl : ∀ l : ByteArray, l.size ≤ 9000 → (ByteArray.mk (Lib.cut l.data.toList nEnd.data.toList).1.toArray).size ≤ 9000 ∧ (ByteArray.mk (Lib.cut l.data.toList nEnd.data.toList).2.1.toArray).size ≤ 9000 := fun l hl => by
    have h1 := cut_le l.data.toList nEnd.data.toList
    have h2 : l.data.toList.length = l.size := by simp
    rw [ba_size, ba_size]
    omega
  have HCL : Hid (type_of% hcl) := hcl
  have hs9 : s.size ≤ 9000 := by omega
  clear hsuf hcl hbig hs
  go_wp2_with fail
  refine (cutc w1 s nEnd (by omega) HV.out).mono ?_
  rintro e w2 ⟨rfl, hB2⟩
  have HV2 : Hid (Vs w2) := HV.out.below hB2
  have HX1 : Hid (type_of% (HW1.out.below hB2)) := HW1.out.below hB2
  have HX2 : Hid (type_of% (HW2.out.below hB2)) := HW2.out.below hB2
  have HB2 : Hid (Below w.heap.size w w2) := HA.out.trans (hB2.mono HA.out.size)
  clear hB2 HA HW1 HW2 HV
  obtain ⟨ha0, hr0⟩ := HCL.out s hs9
  have HA0 : Hid ((ByteArray.mk (Lib.cut s.data.toList nEnd.data.toList).1.toArray).data.toList = c1 s.data.toList) := by show _ = _; simp; rfl
  have HR0 : Hid ((ByteArray.mk (Lib.cut s.data.toList nEnd.data.toList).2.1.toArray).data.toList = c2 s.data.toList) := by show _ = _; simp; rfl
  generalize ByteArray.mk (Lib.cut s.data.toList nEnd.data.toList).1.toArray = a0 at ha0 HA0 ⊢
  generalize ByteArray.mk (Lib.cut s.data.toList nEnd.data.toList).2.1.toArray = r0 at hr0 HR0 ⊢
  generalize (Lib.cut s.data.toList nEnd.data.toList).2.2 = f0
  go_wp2_with fail
  refine (cutc w2 r0 nEnd (by omega) HV2.out).mono ?_
  rintro e w3 ⟨rfl, hB3⟩
  have HV3 : Hid (Vs w3) := HV2.out.below hB3
  have HY1 : Hid (type_of% (HX1.out.below hB3)) := HX1.out.below hB3
  have HY2 : Hid (type_of% (HX2.out.below hB3)) := HX2.out.below hB3
  have HB3 : Hid (Below w.heap.size w w3) := HB2.out.trans (hB3.mono HB2.out.size)
  clear hB3 HX1 HX2 HV2 HB2
  obtain ⟨ha1, hr1⟩ := HCL.out r0 hr0
  have HA1 : Hid ((ByteArray.mk (Lib.cut r0.data.toList nEnd.data.toList).1.toArray).data.toList = c1 (c2 s.data.toList)) := by show _ = _; rw [← HR0.out]; simp; rfl
  have HR1 : Hid ((ByteArray.mk (Lib.cut r0.data.toList nEnd.data.toList).2.1.toArray).data.toList = c2 (c2 s.data.toList)) := by show _ = _; rw [← HR0.out]; simp; rfl
  generalize ByteArray.mk (Lib.cut r0.data.toList nEnd.data.toList).1.toArray = a1 at ha1 HA1 ⊢
  generalize ByteArray.mk (Lib.cut r0.data.toList nEnd.data.toList).2.1.toArray = r1 at hr1 HR1 ⊢
  generalize (Lib.cut r0.data.toList nEnd.data.toList).2.2 = f1
  clear HCL
  go_wp2_with fail
  refine (isch w3 a0 HV3.out ha0).mono ?_
  rintro e w4 ⟨he, hB4⟩
  obtain ⟨a, b, ok1, rfl, hy1, hn1⟩ := sch_ok he
  have HYS : Hid (type_of% hy1) := hy1
  have HNS : Hid (type_of% hn1) := hn1
  have HV4 : Hid (Vs w4) := HV3.out.below hB4
  have HZ1 : Hid (type_of% (HY1.out.below hB4)) := HY1.out.below hB4
  have HZ2 : Hid (type_of% (HY2.out.below hB4)) := HY2.out.below hB4
  have HB4 : Hid (Below w.heap.size w w4) := HB3.out.trans (hB4.mono HB3.out.size)
  clear hB4 HY1 HY2 HV3 HB3 he hy1 hn1
  go_wp2_with fail
  obtain ⟨W5, hW5⟩ : ∃ W5, w4.alloc (.cells #[.int .i64 a, .int .i64 b] 23) = W5 := ⟨_, rfl⟩
  have hb5 : Below w4.heap.size w4 W5 := by rw [← hW5]; exact (Below.refl _ _).alloc (Nat.le_refl _) _
  have HS5 : Hid (Wb W5 w4.heap.size [.int .i64 a, .int .i64 b]) := by rw [← hW5]; exact wb_new w4 [.int .i64 a, .int .i64 b] _
  rw [hW5]
  have HV5 : Hid (Vs W5) := HV4.out.below hb5
  have HP1 : Hid (type_of% (HZ1.out.below hb5)) := HZ1.out.below hb5
  have HP2 : Hid (type_of% (HZ2.out.below hb5)) := HZ2.out.below hb5
  have HB5 : Hid (Below w.heap.size w W5) := HB4.out.trans (hb5.mono HB4.out.size)
  have HN1 : Hid (R + 1 < w4.heap.size) := HZ2.out.1
  obtain ⟨g1, hg1⟩ : ∃ g1, w4.heap.size = g1 := ⟨_, rfl⟩
  rw [hg1] at HN1 HS5
  rw [hg1]
  clear hb5 hW5 hg1 HZ1 HZ2 HV4 HB4
  refine (icnf W5 a1 HV5.out ha1).mono ?_
  rintro e w6 ⟨he, hB6⟩
  obtain ⟨x0, x1, x2, x3, x4, x5, x6, ok2, rfl, hy2, hn2⟩ := cnf_ok he
  have HYC : Hid (type_of% hy2) := hy2
  have HNC : Hid (type_of% hn2) := hn2
  have HV6 : Hid (Vs w6) := HV5.out.below hB6
  have HQ1 : Hid (type_of% (HP1.out.below hB6)) := HP1.out.below hB6
  have HQ2 : Hid (type_of% (HP2.out.below hB6)) := HP2.out.below hB6
  have HS6 : Hid (type_of% (HS5.out.below hB6)) := HS5.out.below hB6
  have HB6 : Hid (Below w.heap.size w w6) := HB5.out.trans (hB6.mono HB5.out.size)
  clear hB6 HP1 HP2 HV5 HB5 HS5 he hy2 hn2
  go_wp2_with fail
  obtain ⟨W7, hW7⟩ : ∃ W7, w6.alloc (.cells #[.int .i64 x0, .int .i64 x1, .int .i64 x2, .int .i64 x3, .int .i64 x4, .int .i64 x5, .int .i64 x6] 25) = W7 := ⟨_, rfl⟩
  have hb7 : Below w6.heap.size w6 W7 := by rw [← hW7]; exact (Below.refl _ _).alloc (Nat.le_refl _) _
  have HC7 : Hid (Wb W7 w6.heap.size [.int .i64 x0, .int .i64 x1, .int .i64 x2, .int .i64 x3, .int .i64 x4, .int .i64 x5, .int .i64 x6]) := by rw [← hW7]; exact wb_new w6 [.int .i64 x0, .int .i64 x1, .int .i64 x2, .int .i64 x3, .int .i64 x4, .int .i64 x5, .int .i64 x6] _
  rw [hW7]
  have HV7 : Hid (Vs W7) := HV6.out.below hb7
  have HT1 : Hid (type_of% (HQ1.out.below hb7)) := HQ1.out.below hb7
  have HT2 : Hid (type_of% (HQ2.out.below hb7)) := HQ2.out.below hb7
  have HS7 : Hid (type_of% (HS6.out.below hb7)) := HS6.out.below hb7
  have HB7 : Hid (Below w.heap.size w W7) := HB6.out.trans (hb7.mono HB6.out.size)
  have HN2 : Hid (g1 < w6.heap.size) := HS6.out.1
  obtain ⟨g2, hg2⟩ : ∃ g2, w6.heap.size = g2 := ⟨_, rfl⟩
  rw [hg2] at HN2 HC7
  rw [hg2]
  clear hb7 hW7 hg2 HQ1 HQ2 HS6 HV6 HB6
  refine (iapart W7 r1 HV7.out hr1).mono ?_
  rintro e w8 ⟨he, hB8⟩
  obtain ⟨F, L, ok3, rfl, hy3, hn3⟩ := apr_ok he
  have HYA : Hid (type_of% hy3) := hy3
  have HNA : Hid (type_of% hn3) := hn3
  have HB8 : Hid (Below w.heap.size w w8) := HB7.out.trans (hB8.mono HB7.out.size)
  obtain ⟨b1, ⟨q0, q1⟩, u0, u1⟩ := wb2 (HT1.out.below hB8)
  obtain ⟨b2, ⟨p0, p1, p2, p3, p4, p5, p6⟩, v0, v1, v2, v3, v4, v5, v6⟩ := wb7 (HT2.out.below hB8)
  obtain ⟨b3, ⟨s0, s1⟩, _⟩ := wb2 (HS7.out.below hB8)
  obtain ⟨b4, ⟨t0, t1, t2, t3, t4, t5, t6⟩, _⟩ := wb7 (HC7.out.below hB8)
  have hn1 := HN1.out
  have hn2 := HN2.out
  clear hB8 HT1 HT2 HS7 HC7 HV7 HB7 he hy3 hn3
  have HNOT : Hid (¬ (ok1 = true ∧ ok2 = true ∧ ok3 = true) → ∀ xs ys F L, ¬ Ji s.data.toList xs ys F L) := fun hk xs ys F L h => by
    obtain ⟨_, _, j1, j2, j3, j4, _, _⟩ := h
    rw [← HA0.out] at j1
    rw [← HA1.out] at j2
    rw [← HR1.out] at j3 j4
    cases ok1
    · exact HNS.out rfl xs j1
    cases ok2
    · exact HNC.out rfl ys j2
    cases ok3
    · exact HNA.out rfl ⟨j3, j4⟩
    exact hk ⟨rfl, rfl, rfl⟩
  cases ok1
  · have HNO : Hid (type_of% (HNOT.out (by simp))) := HNOT.out (by simp)
    clear s0 s1 t0 t1 t2 t3 t4 t5 t6 hn1 hn2
    go_wp2
    refine bodyPost_ret (v := .tuple #[.agg #[.int .i64 0, .int .i64 0], .agg #[.int .i64 0, .int .i64 0, .int .i64 0, .int .i64 0, .int .i64 0, .int .i64 0, .int .i64 0], .string ⟨#[]⟩, .string ⟨#[]⟩, .bool false]) (by rw [results_j _ _ _ _ _ _ _ _ rfl]; go_simp) rfl ⟨.inr ⟨HNO.out, rfl⟩, ?_⟩
    exact bel9 HB8.out hR1 hR2 _ _ _ _ _ _ _ _ _
  cases ok2
  · have HNO : Hid (type_of% (HNOT.out (by simp))) := HNOT.out (by simp)
    clear s0 s1 t0 t1 t2 t3 t4 t5 t6 hn1 hn2
    go_wp2
    refine bodyPost_ret (v := .tuple #[.agg #[.int .i64 0, .int .i64 0], .agg #[.int .i64 0, .int .i64 0, .int .i64 0, .int .i64 0, .int .i64 0, .int .i64 0, .int .i64 0], .string ⟨#[]⟩, .string ⟨#[]⟩, .bool false]) (by rw [results_j _ _ _ _ _ _ _ _ rfl]; go_simp) rfl ⟨.inr ⟨HNO.out, rfl⟩, ?_⟩
    exact bel9 HB8.out hR1 hR2 _ _ _ _ _ _ _ _ _
  cases ok3
  · have HNO : Hid (type_of% (HNOT.out (by simp))) := HNOT.out (by simp)
    clear s0 s1 t0 t1 t2 t3 t4 t5 t6 hn1 hn2
    go_wp2
    refine bodyPost_ret (v := .tuple #[.agg #[.int .i64 0, .int .i64 0], .agg #[.int .i64 0, .int .i64 0, .int .i64 0, .int .i64 0, .int .i64 0, .int .i64 0, .int .i64 0], .string ⟨#[]⟩, .string ⟨#[]⟩, .bool false]) (by rw [results_j _ _ _ _ _ _ _ _ rfl]; go_simp) rfl ⟨.inr ⟨HNO.out, rfl⟩, ?_⟩
    exact bel9 HB8.out hR1 hR2 _ _ _ _ _ _ _ _ _
  obtain ⟨y3, y4, hF, hL⟩ := HYA.out rfl
  have HF : Hid (type_of% hF) := hF
  have HL : Hid (type_of% hL) := hL
  have HJ : Hid (Ji s.data.toList [a, b] [x0, x1, x2, x3, x4, x5, x6] ((Lib.cut r1.data.toList sep).1 ++ [10]) (Lib.cut r1.data.toList sep).2.1) := by
    refine ⟨by rw [hsz]; exact hs9, HSU.out, by rw [← HA0.out]; exact HYS.out rfl, by rw [← HA1.out]; exact HYC.out rfl, ?_, ?_, ?_, ?_⟩ <;> rw [← HR1.out]
    · exact y3
    · exact y4
  have d1 : ¬ g1 = R := by omega
  have d2 : ¬ g1 = R + 1 := by omega
  have d3 : ¬ g2 = R := by omega
  have d4 : ¬ g2 = R + 1 := by omega
  have d5 : ¬ R = g1 := by omega
  have d6 : ¬ R + 1 = g1 := by omega
  have d7 : ¬ R = g2 := by omega
  have d8 : ¬ R + 1 = g2 := by omega
  have d9 : ¬ R + 1 = R := by omega
  have d10 : ¬ R = R + 1 := by omega
  clear hF hL y3 y4 HNOT HYA HNA HYS HNS HYC HNC hsz hn1 hn2
  go_wp2_with fail
  go_region_held3 (fun w' => w'.cell? ⟨g1, 0, none⟩ = some (.int .i64 a) ∧ w'.cell? ⟨g1, 1, none⟩ = some (.int .i64 b) ∧ w'.cell? ⟨g2, 0, none⟩ = some (.int .i64 x0) ∧ w'.cell? ⟨g2, 1, none⟩ = some (.int .i64 x1) ∧ w'.cell? ⟨g2, 2, none⟩ = some (.int .i64 x2) ∧ w'.cell? ⟨g2, 3, none⟩ = some (.int .i64 x3) ∧ w'.cell? ⟨g2, 4, none⟩ = some (.int .i64 x4) ∧ w'.cell? ⟨g2, 5, none⟩ = some (.int .i64 x5) ∧ w'.cell? ⟨g2, 6, none⟩ = some (.int .i64 x6)) (go_keep) (fail)
  go_wp2
  refine bodyPost_ret (v := .tuple #[.agg #[.int .i64 a, .int .i64 b], .agg #[.int .i64 x0, .int .i64 x1, .int .i64 x2, .int .i64 x3, .int .i64 x4, .int .i64 x5, .int .i64 x6], .string F, .string L, .bool true]) (by rw [results_j _ _ _ _ _ _ _ _ rfl]; go_simp) rfl ⟨.inl ⟨a, b, x0, x1, x2, x3, x4, x5, x6, _, _, HJ.out, ?_⟩, ?_⟩
  · rw [← HF.out, ← HL.out]
  · exact (bel9 HB8.out hR1 hR2 _ _ _ _ _ _ _ _ _).drew
end Go.Proofs.YtadjedoakenlkaaGreatDoor.Jp
