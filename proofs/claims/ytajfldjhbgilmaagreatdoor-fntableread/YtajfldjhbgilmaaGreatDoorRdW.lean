/-
  The program's reader: a line's row behind its door, which catches whatever gave up in the line.
-/
import Derived.Test.YtajfldjhbgilmaaGreatDoorRdS
import Derived.Defers
import Derived.Recover
import Derived.Laws.Pointers
namespace Go.Proofs.YtajfldjhbgilmaaGreatDoor.Rd
set_option maxRecDepth 100000
open Go.RowKit
open Go.Proofs.YtajfldjhbgilmaaGreatDoor.Tb
open Go.Proofs.YtajfldjhbgilmaaGreatDoor.Tk
open Go.Proofs.YtajfldjhbgilmaaGreatDoor.Li (ret_bool grown_refl grown_trans grown_set below_none)

/-- The row's variable emptied, the error's set. -/
def wiped (w : World) (x q : Nat) (e : Value) : World := (((w.setCell ⟨x, 0, none⟩ (.slice none 0 0)).setCell ⟨x, 1, none⟩ (.slice none 0 0)).setCell ⟨x, 2, none⟩ (.int .i64 0)).setCell ⟨q, 0, none⟩ e
/-- The deferred closure of a frame that returns: nothing. -/
theorem idle (p q : Addr) (w : World) :
    CallsD Tryz.prog 51 #[.pointer (some p), .pointer (some q)] .returning w fun e u' w' => e = .returned (.tuple #[]) ∧ u' = .returning ∧ w' = w := by
  refine callsD_of_wpS Tryz.func51 rfl fun c₀ cs hu => ?_
  apply wpS_seq
  apply wpS_region
  simp [wpOpsS, go_sem, recoverD, hu, Tryz.ntmps51, Exit.thenS]
  apply wpS_seq
  apply wpS_region
  simp [wpOpsS, go_sem, Exit.thenS]
  refine wpS_cond (t := false) (by simp [Act.eval, Array.replicate]) ?_
  simp only [Bool.false_eq_true, if_false]
  refine wpS_of_wp (wp_skip ?_)
  cases c₀
  simp_all [bodyPostS, results, Tryz.results51]
set_option maxHeartbeats 1000000 in
/-- The deferred closure of a frame that gave up: the panic is taken; the row is empty, the error is the fault. -/
theorem caught (x q : Nat) (v0 v1 v2 : Value) (line code : Int) (older : List PanicEntry) (w : World) (hx : Box3 w x v0 v1 v2) (hq : w.cell? ⟨q, 0, none⟩ = some .nilIface) (hf : w.frozen? ⟨q, 0, none⟩ = false) (hne : ¬ x = q) :
    CallsD Tryz.prog 51 #[.pointer (some ⟨x, 0, none⟩), .pointer (some ⟨q, 0, none⟩)] (.panicking ({ v := .iface 48 (.agg #[.int .i64 line, .int .i64 code]), recovered := false } :: older)) w fun e u' w' =>
      e = .returned (.tuple #[]) ∧ u' = .panicking ({ v := .iface 48 (.agg #[.int .i64 line, .int .i64 code]), recovered := true } :: older) ∧ w' = (wiped w x q (.iface 48 (.agg #[.int .i64 line, .int .i64 code]))).drew := by
  refine callsD_of_wpS Tryz.func51 rfl fun c₀ cs hu => ?_
  apply wpS_seq
  apply wpS_region
  simp [wpOpsS, go_sem, recoverD, hu, Tryz.ntmps51, Exit.thenS]
  apply wpS_seq
  apply wpS_region
  simp [wpOpsS, go_sem, Exit.thenS]
  refine wpS_cond (t := true) (by simp [Act.eval, Array.replicate]) ?_
  simp only [if_true]
  refine wpS_of_wp ?_
  obtain ⟨hxl, ⟨x0, x1, x2⟩, f0, f1, f2⟩ := id hx
  have hta : ∀ W : World, (Instr.typeAssert (.iface 48 (.agg #[.int .i64 line, .int .i64 code])) 20 48 false).run Tryz.prog W = .ok (.agg #[.int .i64 line, .int .i64 code]) W := fun _ => by kernel_rfl
  simp [Array.replicate]
  go_region
  simp [bodyPostS, results, Tryz.results51, wiped]
/-- The row's two result variables, the error's untouched so far; nothing else of old has turned but the reader's block. -/
def Door (w W : World) (b : Nat) : Prop :=
  (∃ v0 v1 v2, Box3 W w.heap.size v0 v1 v2) ∧ (w.heap.size + 1 < W.heap.size ∧ W.cell? ⟨w.heap.size + 1, 0, none⟩ = some .nilIface ∧ W.frozen? ⟨w.heap.size + 1, 0, none⟩ = false) ∧ w.grownBy W (some b)
theorem Door.grown {w W W2 : World} {b : Nat} (h : Door w W b) (hb : b < w.heap.size) (hg : W.grownBy W2 (some b)) : Door w W2 b := by
  obtain ⟨⟨v0, v1, v2, hx⟩, ⟨ql, qc, qf⟩, g⟩ := h
  have e := hg.block (w.heap.size + 1) ql (by simp; omega)
  refine ⟨⟨v0, v1, v2, hx.keptAt hg.size (hg.block _ hx.1 (by simp; omega))⟩, ⟨Nat.lt_of_lt_of_le ql hg.size, ?_, ?_⟩, grown_trans g hg⟩
  · rw [World.cell?_of_block (w := W) (a := ⟨w.heap.size + 1, 0, none⟩) e]; exact qc
  · rw [World.frozen?_of_block (w := W) (a := ⟨w.heap.size + 1, 0, none⟩) e]; exact qf
theorem door_new {w : World} {b : Nat} (T U : TypeId) : Door w ((w.alloc (.cells #[.slice none 0 0, .slice none 0 0, .int .i64 0] T)).alloc (.cells #[.nilIface] U)) b := by
  have hB : Below w.heap.size w ((w.alloc (.cells #[.slice none 0 0, .slice none 0 0, .int .i64 0] T)).alloc (.cells #[.nilIface] U)) := ((Below.refl _ _).alloc (Nat.le_refl _) _).alloc (by simp) _
  have e : (w.alloc (.cells #[.slice none 0 0, .slice none 0 0, .int .i64 0] T)).heap.size = w.heap.size + 1 := by simp
  refine ⟨⟨_, _, _, (box3_new _ _ _ _ _).alloc _⟩, ⟨by simp, ?_, ?_⟩, grown_of hB⟩
  · rw [← e]; simp
  · rw [← e]; simp
theorem door_set {w : World} {b : Nat} (o : Nat) (v : Value) (T U : TypeId) : Door w (((w.setCell ⟨b, o, none⟩ v).alloc (.cells #[.slice none 0 0, .slice none 0 0, .int .i64 0] T)).alloc (.cells #[.nilIface] U)) b := by
  have e : (w.setCell ⟨b, o, none⟩ v).heap.size = w.heap.size := by simp [World.setCell]
  obtain ⟨hx, hq, hg⟩ := door_new (w := w.setCell ⟨b, o, none⟩ v) (b := b) T U
  rw [e] at hx hq
  exact ⟨hx, hq, grown_trans (grown_set _ _ _ _) hg⟩
/-- What the row's reader answers. -/
def bad (line code : Int) : Ending := .returned (.tuple #[.agg #[.slice none 0 0, .slice none 0 0, .int .i64 0], .iface 48 (.agg #[.int .i64 line, .int .i64 code])])
theorem wiped_box {W : World} {x q : Nat} {v0 v1 v2 : Value} (e : Value) (h : Box3 W x v0 v1 v2) (hne : ¬ x = q) : Box3 (wiped W x q e) x (.slice none 0 0) (.slice none 0 0) (.int .i64 0) := by
  have h2 := (h.set0 (.slice none 0 0)).set1 (.slice none 0 0)
  refine Box3.setOther ?_ hne
  obtain ⟨hlt, ⟨c0, c1, c2⟩, f0, f1, f2⟩ := h2
  refine ⟨by simpa [World.setCell] using hlt, ⟨?_, ?_, World.cell?_setCell_same _ _ _ c2⟩, ?_, ?_, ?_⟩
  · rw [World.cell?_setCell_other _ _ _ _ (by simp)]; exact c0
  · rw [World.cell?_setCell_other _ _ _ _ (by simp)]; exact c1
  all_goals (rw [World.frozen?_setCell]; assumption)
theorem wiped_err {W : World} {x q : Nat} {v : Value} (e : Value) (h : W.cell? ⟨q, 0, none⟩ = some v) (hne : ¬ x = q) : (wiped W x q e).cell? ⟨q, 0, none⟩ = some e := by
  have k : ∀ (V : World) (o : Nat) (u : Value), (V.setCell ⟨x, o, none⟩ u).cell? ⟨q, 0, none⟩ = V.cell? ⟨q, 0, none⟩ := fun V o u => World.cell?_setCell_other _ _ _ _ (by intro e; have := congrArg Addr.block e; simp at this; omega)
  unfold wiped
  have hh : (((W.setCell ⟨x, 0, none⟩ (.slice none 0 0)).setCell ⟨x, 1, none⟩ (.slice none 0 0)).setCell ⟨x, 2, none⟩ (.int .i64 0)).cell? ⟨q, 0, none⟩ = some v := by rw [k, k, k]; exact h
  exact World.cell?_setCell_same _ _ _ hh
theorem set_off (w V : World) (b y o : Nat) (u : Value) (hy : w.heap.size ≤ y) (h : w.grownBy V (some b)) : w.grownBy (V.setCell ⟨y, o, none⟩ u) (some b) := by
  refine ⟨h.os, h.tape, h.output, ?_, fun j hj hr => ?_⟩
  · have : (V.setCell ⟨y, o, none⟩ u).heap.size = V.heap.size := by simp [World.setCell]
    rw [this]; exact h.size
  · rw [Below.heap_setCell _ _ _ _ (show j ≠ y by omega)]; exact h.block j hj hr
theorem wiped_grown {w W : World} {b x q : Nat} (e : Value) (hg : w.grownBy W (some b)) (hx : w.heap.size ≤ x) (hq : w.heap.size ≤ q) : w.grownBy (wiped W x q e) (some b) := by
  unfold wiped
  refine set_off w _ b q 0 _ hq ?_
  refine set_off w _ b x 2 _ hx ?_
  refine set_off w _ b x 1 _ hx ?_
  refine set_off w _ b x 0 _ hx ?_
  exact hg
set_option maxHeartbeats 1000000 in
/-- The frame gave up: its door. -/
theorem fails (w W : World) (b : Nat) (line code : Int) (t : Array Value) (h2 : t[2]?.getD undef = .pointer (some ⟨w.heap.size, 0, none⟩)) (h3 : t[3]?.getD undef = .pointer (some ⟨w.heap.size + 1, 0, none⟩)) (hd : Door w W b) (Q : Ending → World → Prop) (hQ : ∀ W', w.grownBy W' (some b) → Q (bad line code) W') :
    bodyPostD Tryz.prog Tryz.f33 Q (Exit.panic [{ v := .iface 48 (.agg #[.int .i64 line, .int .i64 code]), recovered := false }]) { tmps := t, defers := [{ target := Target.fn (Fn.func 51) #[.pointer (some ⟨w.heap.size, 0, none⟩), .pointer (some ⟨w.heap.size + 1, 0, none⟩)], args := #[] }] } W := by
  refine leaves_cons (f := 51) (args := #[.pointer (some ⟨w.heap.size, 0, none⟩), .pointer (some ⟨w.heap.size + 1, 0, none⟩)]) (by simp) (by simp [go_sem]) ?_
  obtain ⟨⟨v0, v1, v2, hx⟩, ⟨ql, qc, qf⟩, hg⟩ := hd
  refine (caught w.heap.size (w.heap.size + 1) _ _ _ line code [] W hx qc qf (by omega)).mono ?_
  rintro e u' w'' ⟨rfl, rfl, rfl⟩
  obtain ⟨_, ⟨y0, y1, y2⟩, _⟩ := wiped_box (.iface 48 (.agg #[.int .i64 line, .int .i64 code])) hx (show ¬ w.heap.size = w.heap.size + 1 by omega)
  have ye := wiped_err (x := w.heap.size) (.iface 48 (.agg #[.int .i64 line, .int .i64 code])) qc (by omega)
  have hW := hQ _ (grown_draw (wiped_grown (x := w.heap.size) (q := w.heap.size + 1) (.iface 48 (.agg #[.int .i64 line, .int .i64 code])) hg (by omega) (by omega)) 1)
  obtain ⟨V, hV⟩ : ∃ V, wiped W w.heap.size (w.heap.size + 1) (.iface 48 (.agg #[.int .i64 line, .int .i64 code])) = V := ⟨_, rfl⟩
  rw [hV] at y0 y1 y2 ye hW ⊢
  simp [Leaves, settle, results, Tryz.results33, go_sem, h2, h3, y0, y1, y2, ye]
  exact hW
/-- What a good row leaves, whatever is written into variables of the frame's own. -/
def Pass (w W : World) (b B N C : Nat) (r : ByteArray) (line : Int) (u0 u1 : Value) (l : List Int) (m : List ByteArray) : Prop :=
  Cells W b N C r line ∧ Li.Own W B u0 l ∧ Ls.Own W B u1 m ∧ w.grownBy W (some b)
theorem Pass.set {w W : World} {b B N C : Nat} {r : ByteArray} {line : Int} {u0 u1 : Value} {l : List Int} {m : List ByteArray} (h : Pass w W b B N C r line u0 u1 l m) (hb : b < w.heap.size) (y o : Nat) (v : Value) (h0 : w.heap.size ≤ y) (h1 : y < B) : Pass w (W.setCell ⟨y, o, none⟩ v) b B N C r line u0 u1 l m := by
  obtain ⟨hc, o0, o1, hg⟩ := h
  exact ⟨hc.keptAt (by simp [World.setCell]) (Below.heap_setCell _ _ _ _ (show b ≠ y by omega)), own_off o0 (grown_set _ _ _ _) h1, sown_off o1 (grown_set _ _ _ _) h1, set_off w W b y o v h0 hg⟩
theorem setAll {W : World} {x : Nat} {u0 u1 u2 : Value} (hx : Box3 W x u0 u1 u2) (v0 v1 v2 : Value) : Box3 (((W.setCell ⟨x, 0, none⟩ v0).setCell ⟨x, 1, none⟩ v1).setCell ⟨x, 2, none⟩ v2) x v0 v1 v2 := by
  obtain ⟨hlt, ⟨c0, c1, c2⟩, f0, f1, f2⟩ := (hx.set0 v0).set1 v1
  refine ⟨by simpa [World.setCell] using hlt, ⟨?_, ?_, World.cell?_setCell_same _ _ _ c2⟩, ?_, ?_, ?_⟩
  · rw [World.cell?_setCell_other _ _ _ _ (by simp)]; exact c0
  · rw [World.cell?_setCell_other _ _ _ _ (by simp)]; exact c1
  all_goals (rw [World.frozen?_setCell]; assumption)
theorem Door.set {w W : World} {b : Nat} (h : Door w W b) (v0 v1 v2 : Value) : Door w (((W.setCell ⟨w.heap.size, 0, none⟩ v0).setCell ⟨w.heap.size, 1, none⟩ v1).setCell ⟨w.heap.size, 2, none⟩ v2) b := by
  obtain ⟨⟨u0, u1, u2, hx⟩, ⟨ql, qc, qf⟩, g⟩ := h
  have k : ∀ (V : World) (o : Nat) (u : Value), (V.setCell ⟨w.heap.size, o, none⟩ u).cell? ⟨w.heap.size + 1, 0, none⟩ = V.cell? ⟨w.heap.size + 1, 0, none⟩ := fun V o u => World.cell?_setCell_other _ _ _ _ (by intro e; have := congrArg Addr.block e; simp at this)
  have z : ∀ (V : World) (o : Nat) (u : Value), (V.setCell ⟨w.heap.size, o, none⟩ u).heap.size = V.heap.size := fun V o u => by simp [World.setCell]
  refine ⟨⟨v0, v1, v2, ?_⟩, ⟨by rw [z, z, z]; exact ql, by rw [k, k, k]; exact qc, by rw [World.frozen?_setCell, World.frozen?_setCell, World.frozen?_setCell]; exact qf⟩, ?_⟩
  · exact setAll hx v0 v1 v2
  · exact set_off w _ b _ 2 _ (Nat.le_refl _) (set_off w _ b _ 1 _ (Nat.le_refl _) (set_off w _ b _ 0 _ (Nat.le_refl _) g))
set_option maxHeartbeats 1000000 in
/-- The frame returns: its door. -/
theorem passes (w W : World) (v0 v1 v2 : Value) (t : Array Value) (h2 : t[2]?.getD undef = .pointer (some ⟨w.heap.size, 0, none⟩)) (h3 : t[3]?.getD undef = .pointer (some ⟨w.heap.size + 1, 0, none⟩)) (hx : Box3 W w.heap.size v0 v1 v2) (hq : W.cell? ⟨w.heap.size + 1, 0, none⟩ = some .nilIface) (Q : Ending → World → Prop) (hQ : Q (.returned (.tuple #[.agg #[v0, v1, v2], .nilIface])) W) :
    bodyPostD Tryz.prog Tryz.f33 Q Exit.ret { tmps := t, defers := [{ target := Target.fn (Fn.func 51) #[.pointer (some ⟨w.heap.size, 0, none⟩), .pointer (some ⟨w.heap.size + 1, 0, none⟩)], args := #[] }] } W := by
  refine leaves_cons (f := 51) (args := #[.pointer (some ⟨w.heap.size, 0, none⟩), .pointer (some ⟨w.heap.size + 1, 0, none⟩)]) (by simp) (by simp [go_sem]) ?_
  refine (idle _ _ _).mono ?_
  rintro e u' w'' ⟨rfl, rfl, rfl⟩
  obtain ⟨_, ⟨y0, y1, y2⟩, _⟩ := hx
  simp [Leaves, settle, results, Tryz.results33, go_sem, h2, h3, y0, y1, y2, hq]
  exact hQ
theorem gbelow {w w1 : World} {b : Nat} (h : w.grownBy w1 (some b)) (hB : b ≤ w.heap.size) : Below b w w1 := ⟨h.os, h.tape, h.output, h.size, fun k hk => h.block k (by omega) (fun e => by cases e; omega)⟩
set_option maxHeartbeats 2000000 in
theorem row (w : World) (b : Nat) (N C : Nat) (rest : ByteArray) (line : Int) (h : Cells w b N C rest line) (hs : rest.size ≤ 1048576) (hV : Re.Vars w) (hp : Past b) (hn : N ≤ 3) (hc : C ≤ 2) (hl : 0 ≤ line ∧ line ≤ 100000) :
    Calls Tryz.prog 33 #[.pointer (some ⟨b, 0, none⟩)] w fun e w' =>
      ((10 ∉ rest.data.toList ∧ e = bad (line + 1) 2) ∨
       (∃ l r, rest.data.toList = l ++ 10 :: r ∧ 10 ∉ l ∧
         ((¬ (Pc.rread N C (Pc.pcs 44 l)).1 = 0 ∧ e = bad (line + 1) (Pc.rread N C (Pc.pcs 44 l)).1) ∨
          ((Pc.rread N C (Pc.pcs 44 l)).1 = 0 ∧ 40 < line + 1 ∧ e = bad (line + 1) 7) ∨
          ((Pc.rread N C (Pc.pcs 44 l)).1 = 0 ∧ line + 1 ≤ 40 ∧ Cells w' b N C (Pc.ba r) (line + 1) ∧
            ∃ u0 u1, e = .returned (.tuple #[.agg #[u0, u1, .int .i64 (Pc.rread N C (Pc.pcs 44 l)).2.label], .nilIface]) ∧ Li.Own w' w.heap.size u0 (Pc.rread N C (Pc.pcs 44 l)).2.nums ∧ Ls.Own w' w.heap.size u1 (Pc.rread N C (Pc.pcs 44 l)).2.cats ∧ apart u0 u1)))) ∧ w.grownBy w' (some b) := by
  have hmf : ∀ (fn : Fn) (first cap : Array Value) (w : World), (Instr.makeFunc fn first cap).run Tryz.prog w = .ok (.func fn first cap) w := fun _ _ _ _ => rfl
  obtain ⟨hlt, ⟨c0, c1, c2, c3⟩, f0, f1, f2, f3⟩ := id h
  have hlt1 : b < w.heap.size + 1 := by omega
  have hlt2 : b < w.heap.size + 1 + 1 := by omega
  go_enter_defers Tryz.func33, Tryz.ntmps33
  go_wp2_with fail
  obtain ⟨W1, hW1⟩ : ∃ W1, ((w.setCell ⟨b, 3, none⟩ (.int .i64 (line + 1))).alloc (.cells #[.slice none 0 0, .slice none 0 0, .int .i64 0] 54)).alloc (.cells #[.nilIface] 44) = W1 := ⟨_, rfl⟩
  have hd1 : Door w W1 b := by rw [← hW1]; exact door_set _ _ _ _
  have h1 : Cells W1 b N C rest (line + 1) := by
    rw [← hW1]
    exact (h.setLine _).below (((Below.refl _ _).alloc (Nat.le_refl _) _).alloc (by simp) _)
  have hV1 : Re.Vars W1 := by
    rw [← hW1]
    exact (vars_past hV hp ((Below.refl _ _).setCell (p := ⟨b, 3, none⟩) (Nat.le_refl _) _)).below (((Below.refl _ _).alloc (Nat.le_refl _) _).alloc (by simp) _)
  rw [hW1]
  clear hW1 c0 c1 c2 c3 f0 f1 f2 f3 hlt1 hlt2
  refine (parts W1 b N C rest (line + 1) h1 hs hV1 hp (by omega) (by omega)).mono ?_
  rintro e w2 ⟨he, hg2⟩
  have hd2 := hd1.grown hlt hg2
  rcases he with ⟨hno, rfl, h2⟩ | ⟨l, r, hlr, hno, h2, he⟩
  · unfold fault
    go_wp2
    refine fails w w2 b (line + 1) 2 _ (by simp) (by simp) hd2 _ fun W' hg => ⟨.inl ⟨hno, rfl⟩, hg⟩
  · have hlen : l.length + r.length < rest.size := by
      have : rest.data.toList.length = rest.size := by simp
      rw [hlr] at this; simp at this; omega
    have HL : Hid (rest.data.toList = l ++ 10 :: r ∧ 10 ∉ l) := ⟨hlr, hno⟩
    have hV2 : Re.Vars w2 := vars_past hV1 hp (gbelow hg2 (by have := hd1.2.2.size; omega))
    clear hlr hno
    rcases he with ⟨hc3, rfl⟩ | ⟨hc3, a, cap, rfl, is2⟩
    · have HE : Hid ((Pc.rread N C (Pc.pcs 44 l)).1 = 3) := by
        show _ = _
        unfold Pc.rread
        rw [if_neg (by omega)]
      unfold fault
      go_wp2
      exact fails w w2 b (line + 1) 3 _ (by simp) (by simp) hd2 _ fun W' hg => ⟨.inr ⟨l, r, HL.out.1, HL.out.2, .inl ⟨by rw [HE.out]; decide, by rw [HE.out]⟩⟩, hg⟩
    · have hc3' : (Pc.pcs 44 l).length = N + C + 1 := by omega
      have HC : Hid ((Pc.pcs 44 l).length = N + C + 1) := hc3'
      clear hc3 hc3'
      go_wp2_with fail
      refine (sample w2 b N C _ _ h2 hn hc a cap (Pc.pcs 44 l) is2 HC.out (fun p hp => by have := Pc.pcs_mem 44 l p hp; omega) hV2).mono ?_
      rintro e w3 ⟨he, hB3⟩
      have hd3 := hd2.grown hlt (grown_of hB3)
      have h3 := h2.below hB3
      rcases he with ⟨h0, u0, u1, rfl, o0, o1, hap⟩ | ⟨h0, rfl⟩
      · obtain ⟨a0, q0, rfl, _⟩ := o0.isl
        obtain ⟨a1, q1, rfl, _⟩ := o1.iss
        have h3l : line + 1 ≤ 40 ∨ 40 < line + 1 := by omega
        have HO : Hid (Pass w w3 b w2.heap.size N C (Pc.ba r) (line + 1) _ _ _ _) := ⟨h3, o0, o1, hd3.2.2⟩
        obtain ⟨⟨v0, v1, v2, hxl, ⟨x0, x1, x2⟩, f0, f1, f2⟩, ⟨ql, qc, qf⟩, _⟩ := id hd3
        obtain ⟨_, ⟨d0, d1, d2, d3⟩, _⟩ := id h3
        have hne1 : ¬ b = w.heap.size := by omega
        have hne2 : ¬ b = w.heap.size + 1 := by omega
        have HZ : Hid (w.heap.size + 1 < w2.heap.size) := hd2.2.1.1
        have H0 : Hid _ := h0
        clear o0 o1 h0
        rcases h3l with hl4 | hl4
        · have hl4' : ¬ 40 < line + 1 := by omega
          go_wp2
          have hz0 : w.heap.size < w2.heap.size := by have := HZ.out; omega
          have hP := HO.out
          have hb3 := hd3.1
          have hx4 := hd3.set (.slice a0 (Pc.rread N C (Pc.pcs 44 l)).2.nums.length q0) (.slice a1 (Pc.rread N C (Pc.pcs 44 l)).2.cats.length q1) (.int .i64 (Pc.rread N C (Pc.pcs 44 l)).2.label)
          have hx5 := hx4.set (.slice a0 (Pc.rread N C (Pc.pcs 44 l)).2.nums.length q0) (.slice a1 (Pc.rread N C (Pc.pcs 44 l)).2.cats.length q1) (.int .i64 (Pc.rread N C (Pc.pcs 44 l)).2.label)
          have hP4 := ((hP.set hlt w.heap.size 0 (.slice a0 (Pc.rread N C (Pc.pcs 44 l)).2.nums.length q0) (Nat.le_refl _) hz0).set hlt w.heap.size 1 (.slice a1 (Pc.rread N C (Pc.pcs 44 l)).2.cats.length q1) (Nat.le_refl _) hz0).set hlt w.heap.size 2 (.int .i64 (Pc.rread N C (Pc.pcs 44 l)).2.label) (Nat.le_refl _) hz0
          have hP5 := ((hP4.set hlt w.heap.size 0 (.slice a0 (Pc.rread N C (Pc.pcs 44 l)).2.nums.length q0) (Nat.le_refl _) hz0).set hlt w.heap.size 1 (.slice a1 (Pc.rread N C (Pc.pcs 44 l)).2.cats.length q1) (Nat.le_refl _) hz0).set hlt w.heap.size 2 (.int .i64 (Pc.rread N C (Pc.pcs 44 l)).2.label) (Nat.le_refl _) hz0
          obtain ⟨hc6, o6, s6, g6⟩ := hP5.set hlt (w.heap.size + 1) 0 .nilIface (by omega) HZ.out
          obtain ⟨⟨t0, t1, t2, hb4⟩, _, _⟩ := hx4
          exact passes w _ _ _ _ _ (by simp) (by simp) ((setAll hb4 _ _ _).setOther (by omega)) (World.cell?_setCell_same _ _ _ hx5.2.1.2.1) _ ⟨.inr ⟨l, r, HL.out.1, HL.out.2, .inr (.inr ⟨H0.out, hl4, hc6, _, _, rfl, o6.mono (by omega), s6.mono (by omega), hap⟩)⟩, g6⟩
        · have hd4 : ∀ u0 u1 u2, Hid _ := fun u0 u1 u2 => hd3.set u0 u1 u2
          go_wp2_with fail
          refine (giveUp _ _ N C (Pc.ba r) (line + 1) _ ?_).mono ?_
          · exact ((((HO.out.set hlt _ 0 _ (Nat.le_refl _) (by have := HZ.out; omega)).set hlt _ 1 _ (Nat.le_refl _) (by have := HZ.out; omega)).set hlt _ 2 _ (Nat.le_refl _) (by have := HZ.out; omega))).1
          rintro e w5 ⟨rfl, rfl⟩
          unfold fault
          go_wp2
          exact fails w _ b (line + 1) 7 _ (by simp) (by simp) (hd4 _ _ _).out _ fun W' hg => ⟨.inr ⟨l, r, HL.out.1, HL.out.2, .inr (.inl ⟨H0.out, hl4, rfl⟩)⟩, hg⟩
      · unfold fault
        go_wp2
        exact fails w w3 b (line + 1) _ _ (by simp) (by simp) hd3 _ fun W' hg => ⟨.inr ⟨l, r, HL.out.1, HL.out.2, .inl ⟨h0, rfl⟩⟩, hg⟩
end Go.Proofs.YtajfldjhbgilmaaGreatDoor.Rd
