/-
  The program's reader: a row out of a line's parts, or it gives up at the first wrong part.
-/
import Derived.Test.YtajfldjhbgilmaaGreatDoorRd
import Derived.Deep.Cut
import Derived.Deep.CutRange
namespace Go.Proofs.YtajfldjhbgilmaaGreatDoor.Rd
set_option maxRecDepth 100000
open Go.RowKit
open Go.Proofs.YtajfldjhbgilmaaGreatDoor.Tb
open Go.Proofs.YtajfldjhbgilmaaGreatDoor.Tk
open Go.Proofs.YtajfldjhbgilmaaGreatDoor.Li (ret_bool grown_refl grown_trans grown_set below_none)

theorem mkInts (n : Nat) (hn : n ≤ 3) (W : World) : (Instr.makeSlice 35 (.int .i64 (n : Int)) (.int .i64 (n : Int))).run Tryz.prog W = .ok (.slice (some ⟨W.heap.size, 0, none⟩) n n) (W.alloc (.cells (Array.replicate n (.int .i64 0)) 3)) := by
  rcases (show n = 0 ∨ n = 1 ∨ n = 2 ∨ n = 3 by omega) with rfl | rfl | rfl | rfl
  all_goals kernel_rfl
theorem mkStrs (n : Nat) (hn : n ≤ 2) (W : World) : (Instr.makeSlice 42 (.int .i64 (n : Int)) (.int .i64 (n : Int))).run Tryz.prog W = .ok (.slice (some ⟨W.heap.size, 0, none⟩) n n) (W.alloc (.cells (Array.replicate n (.string ⟨#[]⟩)) 9)) := by
  rcases (show n = 0 ∨ n = 1 ∨ n = 2 by omega) with rfl | rfl | rfl
  all_goals kernel_rfl
theorem ownI {W : World} {B g N : Nat} (hB : B ≤ g) (hN : N ≤ 3) (h : W.heap[g]? = some (.cells (Array.replicate N (.int .i64 0)) 3 (0, 0))) : Li.Own W B (.slice (some ⟨g, 0, none⟩) N N) (List.replicate N 0) := by
  unfold Li.Own
  rw [List.length_replicate]
  exact ⟨by simp [Li.iv], .inr ⟨g, N, _, rfl, hB, h, Nat.le_refl _, by unfold maxLen; omega, by simp, by simp [Li.iv]⟩⟩
theorem ownS {W : World} {B g N : Nat} (hB : B ≤ g) (hN : N ≤ 2) (h : W.heap[g]? = some (.cells (Array.replicate N (.string ⟨#[]⟩)) 9 (0, 0))) : Ls.Own W B (.slice (some ⟨g, 0, none⟩) N N) (List.replicate N ⟨#[]⟩) := by
  unfold Ls.Own
  rw [List.length_replicate]
  exact ⟨by simp [Ls.sv], .inr ⟨g, N, _, rfl, hB, h, Nat.le_refl _, by unfold maxLen; omega, by simp, by simp [Ls.sv]⟩⟩
theorem box_of {W : World} {b : Nat} {v0 v1 v2 : Value} {T : TypeId} (h : W.heap[b]? = some (.cells #[v0, v1, v2] T (0, 0))) : Box3 W b v0 v1 v2 :=
  ⟨(Array.getElem?_eq_some_iff.1 h).1, ⟨Lib.cell_of_heap h 0, Lib.cell_of_heap h 1, Lib.cell_of_heap h 2⟩, Lib.frozen_of_heap h 0, Lib.frozen_of_heap h 1, Lib.frozen_of_heap h 2⟩
/-- What stands behind the making of an empty row: its variable, its two lists, apart from one another. -/
def Made (w wx : World) (N C xb g0 g1 : Nat) (l : List Int) (m : List ByteArray) (lbl : Int) : Prop :=
  Box3 wx xb (.slice (some ⟨g0, 0, none⟩) N N) (.slice (some ⟨g1, 0, none⟩) C C) (.int .i64 lbl) ∧ Li.Own wx (w.heap.size + 1) (.slice (some ⟨g0, 0, none⟩) N N) l ∧ Ls.Own wx (w.heap.size + 1) (.slice (some ⟨g1, 0, none⟩) C C) m ∧
    (g0 ≠ g1 ∧ xb ≠ g0 ∧ xb ≠ g1 ∧ w.heap.size < xb) ∧ Box3 wx w.heap.size (.slice none 0 0) (.slice none 0 0) (.int .i64 0) ∧ Below w.heap.size w wx
theorem at0 (w : World) (R A B D : Obj) : ((((w.alloc R).alloc A).alloc B).alloc D).drew.heap[w.heap.size]? = some R := by
  show ((((w.alloc R).alloc A).alloc B).alloc D).heap[w.heap.size]? = some R
  rw [Below.heap_alloc _ _ _ (by simp; omega), Below.heap_alloc _ _ _ (by simp; omega), Below.heap_alloc _ _ _ (by simp), heap_alloc_new]
theorem at1 (w : World) (R A B D : Obj) : ((((w.alloc R).alloc A).alloc B).alloc D).drew.heap[w.heap.size + 1]? = some A := by
  show ((((w.alloc R).alloc A).alloc B).alloc D).heap[w.heap.size + 1]? = some A
  have h := heap_alloc_new (w.alloc R) A
  rw [size_alloc] at h
  rw [Below.heap_alloc _ _ _ (by simp), Below.heap_alloc _ _ _ (by simp), h]
theorem at2 (w : World) (R A B D : Obj) : ((((w.alloc R).alloc A).alloc B).alloc D).drew.heap[w.heap.size + 1 + 1]? = some B := by
  show ((((w.alloc R).alloc A).alloc B).alloc D).heap[w.heap.size + 1 + 1]? = some B
  have h := heap_alloc_new ((w.alloc R).alloc A) B
  rw [size_alloc, size_alloc] at h
  rw [Below.heap_alloc _ _ _ (by simp), h]
theorem at3 (w : World) (R A B D : Obj) : ((((w.alloc R).alloc A).alloc B).alloc D).drew.heap[w.heap.size + 1 + 1 + 1]? = some D := by
  show ((((w.alloc R).alloc A).alloc B).alloc D).heap[w.heap.size + 1 + 1 + 1]? = some D
  have h := heap_alloc_new (((w.alloc R).alloc A).alloc B) D
  rw [size_alloc, size_alloc, size_alloc] at h
  exact h
theorem below4 (w : World) (R A B D : Obj) : Below w.heap.size w ((((w.alloc R).alloc A).alloc B).alloc D).drew :=
  (((((Below.refl _ _).alloc (Nat.le_refl _) _).alloc (by simp) _).alloc (by simp; omega) _).alloc (by simp; omega) _).drew
theorem Made.below {w wx w2 : World} {N C xb g0 g1 : Nat} {l : List Int} {m : List ByteArray} {lbl : Int} (h : Made w wx N C xb g0 g1 l m lbl) (hB2 : Below wx.heap.size wx w2) : Made w w2 N C xb g0 g1 l m lbl := by
  obtain ⟨hx, o0, o1, hne, hres, hB⟩ := h
  exact ⟨hx.below hB2, o0.below hB2, o1.below hB2, hne, hres.below hB2, hB.trans (hB2.mono hB.size)⟩
theorem Made.drew {w wx : World} {N C xb g0 g1 : Nat} {l : List Int} {m : List ByteArray} {lbl : Int} (h : Made w wx N C xb g0 g1 l m lbl) : Made w wx.drew N C xb g0 g1 l m lbl := h.below (Below.refl _ _).drew
theorem Made.setN {w wx : World} {N C xb g0 g1 : Nat} {l : List Int} {m : List ByteArray} {lbl : Int} (h : Made w wx N C xb g0 g1 l m lbl) (hl : l.length = N) (k : Nat) (x : Int) : Made w (wx.setCell ⟨g0, k, none⟩ (.int .i64 x)) N C xb g0 g1 (l.set k x) m lbl := by
  obtain ⟨hx, o0, o1, ⟨n1, n2, n3, n4⟩, hres, hB⟩ := h
  have hg := (o0.ge g0 rfl).1
  refine ⟨hx.setOther n2, o0.set hl k x, o1.kept (grown_set _ _ _ _) (.inr (by show some g1 ≠ some g0; simp; exact fun e => n1 e.symm)), ⟨n1, n2, n3, n4⟩, hres.setOther (by omega), hB.setCell (p := ⟨g0, k, none⟩) (by show _ ≤ g0; omega) _⟩
theorem Made.setC {w wx : World} {N C xb g0 g1 : Nat} {l : List Int} {m : List ByteArray} {lbl : Int} (h : Made w wx N C xb g0 g1 l m lbl) (hl : m.length = C) (k : Nat) (x : ByteArray) : Made w (wx.setCell ⟨g1, k, none⟩ (.string x)) N C xb g0 g1 l (m.set k x) lbl := by
  obtain ⟨hx, o0, o1, ⟨n1, n2, n3, n4⟩, hres, hB⟩ := h
  have hg := (o1.ge g1 rfl).1
  refine ⟨hx.setOther n3, o0.kept (grown_set _ _ _ _) (.inr (by show some g0 ≠ some g1; simp; exact n1)), o1.set hl k x, ⟨n1, n2, n3, n4⟩, hres.setOther (by omega), hB.setCell (p := ⟨g1, k, none⟩) (by show _ ≤ g1; omega) _⟩
/-- Behind the label's store and the result's: the lists are as they were. -/
theorem Made.done {w wx : World} {N C xb g0 g1 : Nat} {l : List Int} {m : List ByteArray} {lbl : Int} (h : Made w wx N C xb g0 g1 l m lbl) (v v0 v1 v2 : Value) :
    Li.Own ((((wx.setCell ⟨xb, 2, none⟩ v).setCell ⟨w.heap.size, 0, none⟩ v0).setCell ⟨w.heap.size, 1, none⟩ v1).setCell ⟨w.heap.size, 2, none⟩ v2) w.heap.size (.slice (some ⟨g0, 0, none⟩) N N) l ∧
    Ls.Own ((((wx.setCell ⟨xb, 2, none⟩ v).setCell ⟨w.heap.size, 0, none⟩ v0).setCell ⟨w.heap.size, 1, none⟩ v1).setCell ⟨w.heap.size, 2, none⟩ v2) w.heap.size (.slice (some ⟨g1, 0, none⟩) C C) m ∧
    Below w.heap.size w ((((wx.setCell ⟨xb, 2, none⟩ v).setCell ⟨w.heap.size, 0, none⟩ v0).setCell ⟨w.heap.size, 1, none⟩ v1).setCell ⟨w.heap.size, 2, none⟩ v2) := by
  obtain ⟨hx, o0, o1, ⟨n1, n2, n3, n4⟩, hres, hB⟩ := h
  have k0 : ∀ W : World, ∀ o u, Li.Own W (w.heap.size + 1) (.slice (some ⟨g0, 0, none⟩) N N) l → Li.Own (W.setCell ⟨w.heap.size, o, none⟩ u) (w.heap.size + 1) (.slice (some ⟨g0, 0, none⟩) N N) l := fun W o u h => own_off h (grown_set W w.heap.size o u) (by omega)
  have k1 : ∀ W : World, ∀ o u, Ls.Own W (w.heap.size + 1) (.slice (some ⟨g1, 0, none⟩) C C) m → Ls.Own (W.setCell ⟨w.heap.size, o, none⟩ u) (w.heap.size + 1) (.slice (some ⟨g1, 0, none⟩) C C) m := fun W o u h => sown_off h (grown_set W w.heap.size o u) (by omega)
  have a0 : Li.Own (wx.setCell ⟨xb, 2, none⟩ v) (w.heap.size + 1) (.slice (some ⟨g0, 0, none⟩) N N) l := o0.kept (grown_set _ _ _ _) (.inr (by show some g0 ≠ some xb; simp; exact fun e => n2 e.symm))
  have a1 : Ls.Own (wx.setCell ⟨xb, 2, none⟩ v) (w.heap.size + 1) (.slice (some ⟨g1, 0, none⟩) C C) m := o1.kept (grown_set _ _ _ _) (.inr (by show some g1 ≠ some xb; simp; exact fun e => n3 e.symm))
  refine ⟨(k0 _ _ _ (k0 _ _ _ (k0 _ _ _ a0))).mono (by omega), (k1 _ _ _ (k1 _ _ _ (k1 _ _ _ a1))).mono (by omega), ?_⟩
  exact (((hB.setCell (p := ⟨xb, 2, none⟩) (by show _ ≤ xb; omega) _).setCell (p := ⟨w.heap.size, 0, none⟩) (Nat.le_refl _) _).setCell (p := ⟨w.heap.size, 1, none⟩) (Nat.le_refl _) _).setCell (p := ⟨w.heap.size, 2, none⟩) (Nat.le_refl _) _
/-- A way that ends in the callee's panic: what is left for the walk of the region is an empty one. -/
theorem ended {p : Prop} (w : World) (h : p) : wpAny Tryz.prog .any #[] (fun _ _ _ => True) 0 #[] { tmps := #[], defers := [] } w → p := fun _ => h
theorem drew_heap (w : World) : w.drew.heap = w.heap := rfl
set_option maxHeartbeats 4000000 in
theorem sample (w : World) (b : Nat) (N C : Nat) (rest : ByteArray) (line : Int) (h : Cells w b N C rest line) (hn : N ≤ 3) (hc : C ≤ 2) (a : Option Addr) (cap : Nat) (ps : List ByteArray) (is : Ls.IsS w a ps) (hl : ps.length = N + C + 1) (hsz : ∀ p ∈ ps, p.size ≤ 1048576) (hV : Re.Vars w) :
    Calls Tryz.prog 52 #[.pointer (some ⟨b, 0, none⟩), .slice a ps.length cap] w fun e w' =>
      (((Pc.rread N C ps).1 = 0 ∧ ∃ u0 u1, e = .returned (.agg #[u0, u1, .int .i64 (Pc.rread N C ps).2.label]) ∧ Li.Own w' w.heap.size u0 (Pc.rread N C ps).2.nums ∧ Ls.Own w' w.heap.size u1 (Pc.rread N C ps).2.cats ∧ apart u0 u1) ∨
       (¬ (Pc.rread N C ps).1 = 0 ∧ e = fault line (Pc.rread N C ps).1)) ∧ Below w.heap.size w w' := by
  have mk1 := mkInts N hn
  have mk2 := mkStrs C hc
  obtain ⟨hlt, ⟨c0, c1, c2, c3⟩, f0, f1, f2, f3⟩ := id h
  have HL : Hid (ps.length = N + C + 1) := hl
  clear hl
  have hlt1 : b < w.heap.size + 1 := by omega
  have hlt2 : b < w.heap.size + 1 + 1 := by omega
  have hlt3 : b < w.heap.size + 1 + 1 + 1 := by omega
  have hlt4 : b < w.heap.size + 1 + 1 + 1 + 1 := by omega
  go_enter Tryz.func52, Tryz.ntmps52
  go_wp2
  go_cut [5] from 8 (fun s5 wx => ∃ xb g0 g1, s5 = .pointer (some ⟨xb, 0, none⟩) ∧ Made w wx N C xb g0 g1 (List.replicate N 0) (List.replicate C ⟨#[]⟩) 0)
  case first =>
    go_region
    all_goals
      go_wp2_with fail
      go_meet
      case rel =>
        first
          | exact ⟨w.heap.size + 1, w.heap.size + 1 + 1, w.heap.size + 1 + 1 + 1, rfl, box_of (T := 54) (at1 ..), ownI (by omega) hn (at2 ..), ownS (by omega) hc (at3 ..), by omega, box_of (T := 54) (at0 ..), below4 ..⟩
          | exact ⟨w.heap.size + 1, w.heap.size + 1 + 1 + 1, w.heap.size + 1 + 1, rfl, box_of (T := 54) (at1 ..), ownI (by omega) hn (at3 ..), ownS (by omega) hc (at2 ..), by omega, box_of (T := 54) (at0 ..), below4 ..⟩
          | exact ⟨w.heap.size + 1 + 1, w.heap.size + 1, w.heap.size + 1 + 1 + 1, rfl, box_of (T := 54) (at2 ..), ownI (by omega) hn (at1 ..), ownS (by omega) hc (at3 ..), by omega, box_of (T := 54) (at0 ..), below4 ..⟩
          | exact ⟨w.heap.size + 1 + 1, w.heap.size + 1 + 1 + 1, w.heap.size + 1, rfl, box_of (T := 54) (at2 ..), ownI (by omega) hn (at3 ..), ownS (by omega) hc (at1 ..), by omega, box_of (T := 54) (at0 ..), below4 ..⟩
          | exact ⟨w.heap.size + 1 + 1 + 1, w.heap.size + 1, w.heap.size + 1 + 1, rfl, box_of (T := 54) (at3 ..), ownI (by omega) hn (at1 ..), ownS (by omega) hc (at2 ..), by omega, box_of (T := 54) (at0 ..), below4 ..⟩
          | exact ⟨w.heap.size + 1 + 1 + 1, w.heap.size + 1 + 1, w.heap.size + 1, rfl, box_of (T := 54) (at3 ..), ownI (by omega) hn (at2 ..), ownS (by omega) hc (at1 ..), by omega, box_of (T := 54) (at0 ..), below4 ..⟩
  case rest =>
    obtain ⟨xb, g0, g1, rfl, hm⟩ := hcut
    have hvl : ((ps.take N).map Pc.val).length = N := by rw [List.length_map, List.length_take]; have := HL.out; omega
    have HVL : Hid (((ps.take N).map Pc.val).length = N) := hvl
    clear hvl mk1 mk2 hlt1 hlt2 hlt3 hlt4 c0 c1 c2 c3 f0 f1 f2 f3
    obtain ⟨hx, o0, o1, hne, hres, hB⟩ := id hm
    obtain ⟨_, ⟨x0, x1, x2⟩, _⟩ := id hx
    go_wp2
    clear x0 x1 x2 hx o0 o1 hres hB
    go_loopw [24] (fun i wr => ∃ k : Nat, k ≤ N ∧ i = .int .i64 k ∧ (ps.take k).all Pc.tx = true ∧ ∃ l : List Int, l.length = N ∧ Li.Like l ((ps.take N).map Pc.val) k ∧ Made w wr N C xb g0 g1 l (List.replicate C ⟨#[]⟩) 0) (fun i _ => N - (intOf i).toNat)
    case atStart => exact ⟨0, Nat.zero_le _, rfl, by simp, _, by simp, fun j hj => by omega, hm⟩
    case round =>
      obtain ⟨k, hk, rfl, ha, l, hll, hlike, hm⟩ := hrel
      obtain ⟨hx, o0, o1, hne, hres, hB⟩ := id hm
      obtain ⟨hxl, ⟨x0, x1, x2⟩, _⟩ := id hx
      have HA : Hid ((ps.take k).all Pc.tx = true) := ha
      clear ha
      by_cases hkn : k < N
      · have hkp : k < ps.length := by have := HL.out; omega
        rcases is.below hB with h0 | ⟨pb, po, rfl, hpb, hpc⟩
        · rw [h0] at hkp; simp at hkp
        have hcp := hpc k hkp
        clear hpc
        have hck := hsz ps[k] (List.getElem_mem hkp)
        have hVr := hV.below hB
        have hr := h.below hB
        have hkl : k < l.length := by rw [hll]; exact hkn
        have HLk : Hid (Li.Like (l.set k (Pc.val ps[k])) ((ps.take N).map Pc.val) (k + 1)) := by
          have := Li.like_set hlike (by have := HVL.out; omega) (by rw [hll, HVL.out])
          have e : ((ps.take N).map Pc.val)[k]'(by have := HVL.out; omega) = Pc.val ps[k] := by simp
          rwa [e] at this
        cases hq : Pc.tx ps[k]
        · have HE : Hid ((Pc.rread N C ps).1 = 4) := by
            show _ = _
            unfold Pc.rread
            rw [if_pos HL.out, if_neg (by
              rw [pre_no Pc.tx (ps.take N) k (by rw [List.length_take]; omega) (by simpa using hq)]; simp)]
          have hnt : ¬ Re.Text ps[k].data.toList := fun ht => by rw [(Pc.tx_iff _).2 ht] at hq; cases hq
          go_wp2
          go_region_with (go_at_call 63; refine (number _ _ _ _ _ _ _ (by exact hr) ps[k] hck (by exact hVr)).mono ?_; rintro e w2 ⟨he, hB2⟩; obtain rfl : e = fault line 4 := (he.elim (fun h => absurd h.1 hnt) (fun h => h.2)); refine ended w2 ⟨rfl, .inr ⟨(by rw [HE.out]; decide), (by rw [HE.out]; rfl)⟩, (by first | exact hB.trans (hB2.mono hB.size) | exact hB.drew.trans (hB2.mono hB.size))⟩ ?_)
          all_goals exact True.intro
        · have hyt : Re.Text ps[k].data.toList := (Pc.tx_iff _).1 hq
          have HA2 : Hid ((ps.take (k + 1)).all Pc.tx = true) := by
            show _ = _
            rw [List.take_add_one, List.all_append, HA.out, List.getElem?_eq_getElem hkp]
            simp [hq]
          clear hq hlike hx o0 o1 hres x1 x2
          go_wp2
          go_region_with (go_at_call 63; refine (number _ _ _ _ _ _ _ (by exact hr) ps[k] hck (by exact hVr)).mono ?_; rintro e w2 ⟨he, hB2⟩; obtain rfl : e = .returned (.int .i64 (Pc.val ps[k])) := (he.elim (fun h => h.2) (fun h => absurd hyt h.1)); have hm2 : Made w w2 N C xb g0 g1 l (List.replicate C ⟨#[]⟩) 0 := (by first | exact hm.below hB2 | exact hm.drew.below hB2); obtain ⟨⟨hxl2, ⟨y0, y1, y2⟩, _⟩, q0, _⟩ := id hm2; have hcl := q0.cell hll k hkl; have hcf := q0.frozen hll k; have hg1 := (q0.ge g0 rfl).2; have HM : Hid _ := (hm2.setN hll k (Pc.val ps[k])); clear q0 hB2 he)
          all_goals
            go_wp2
            go_roundw
            case rel => exact ⟨k + 1, by omega, by go_num, HA2.out, l.set k _, by simpa using hll, HLk.out, HM.out⟩
            case measure => simp [intOf]; omega
      · obtain rfl : k = N := by omega
        obtain rfl : l = (ps.take k).map Pc.val := Li.like_all (by rw [HVL.out]; exact hlike) (by rw [HVL.out, hll])
        have HCL : Hid (((ps.drop k).take C).length = C) := by show _ = _; rw [List.length_take, List.length_drop]; have := HL.out; omega
        clear hlike hll hx o0 o1 hres hB hk hkn
        go_wp2
        clear x0 x1 x2
        go_loopw [41] (fun i wr => ∃ j : Nat, j ≤ C ∧ i = .int .i64 j ∧ ((ps.drop k).take j).all wok = true ∧ ∃ m : List ByteArray, m.length = C ∧ Ls.Like m ((ps.drop k).take C) j ∧ Made w wr k C xb g0 g1 ((ps.take k).map Pc.val) m 0) (fun i _ => C - (intOf i).toNat)
        case atStart => exact ⟨0, Nat.zero_le _, rfl, by simp, _, by simp, fun j hj => by omega, hm⟩
        case round =>
          obtain ⟨j, hj, rfl, ha, m, hml, hlike, hm⟩ := hrel
          obtain ⟨hx, o0, o1, hne, hres, hB⟩ := id hm
          obtain ⟨hxl, ⟨x0, x1, x2⟩, _⟩ := id hx
          have HW : Hid (((ps.drop k).take j).all wok = true) := ha
          clear ha
          by_cases hjn : j < C
          · have hkp : k + j < ps.length := by have := HL.out; omega
            rcases is.below hB with h0 | ⟨pb, po, rfl, hpb, hpc⟩
            · rw [h0] at hkp; simp at hkp
            have hcp := hpc (k + j) hkp
            clear hpc
            have hck := hsz ps[k + j] (List.getElem_mem hkp)
            have hr := h.below hB
            obtain ⟨hrl, ⟨d0, _⟩, _⟩ := id hr
            have hjl : j < m.length := by rw [hml]; exact hjn
            have HLk : Hid (Ls.Like (m.set j ps[k + j]) ((ps.drop k).take C) (j + 1)) := by
              have := Ls.like_set hlike (by have := HCL.out; omega) (by rw [hml, HCL.out])
              have e : ((ps.drop k).take C)[j]'(by have := HCL.out; omega) = ps[k + j] := by simp
              rwa [e] at this
            have HG : Hid ((ps.drop k)[j]? = some ps[k + j]) := by show _ = _; rw [List.getElem?_drop, List.getElem?_eq_getElem hkp]
            obtain ⟨p, hp⟩ : ∃ p, ps[k + j] = p := ⟨_, rfl⟩
            rw [hp] at hcp hck HLk HG
            obtain ⟨q, hq⟩ : ∃ q, k + j = q := ⟨_, rfl⟩
            rw [hq] at hcp
            have hqp : q < ps.length := by omega
            have hqi : IntKind.i64.wrap ((k : Int) + (j : Int)) = (q : Int) := by rw [IntKind.wrap_i64]; omega
            clear hp hq hkp hlike hx o0 o1 hres x0 x2
            cases hw : wok p
            · have HE : Hid ((Pc.rread k C ps).1 = 5) := by
                show _ = _
                unfold Pc.rread
                rw [if_pos HL.out, if_pos HA.out, if_neg (by
                  rw [pre_no wok ((ps.drop k).take C) j (by rw [HCL.out]; omega) (by
                    have e : ((ps.drop k).take C)[j]? = some p := by rw [List.getElem?_take_of_lt hjn]; exact HG.out
                    obtain ⟨_, e⟩ := List.getElem?_eq_some_iff.1 e
                    rw [e]; exact hw)]; simp)]
              go_wp2
              go_region_with (go_at_call 64; refine (word _ _ _ _ _ _ (by exact hr) p hck).mono ?_; rintro e w2 ⟨he, hB2⟩; obtain rfl : e = fault line 5 := (he.elim (fun h => absurd (h.1.symm.trans hw) (by simp)) (fun h => h.2)); refine ended w2 ⟨rfl, .inr ⟨(by rw [HE.out]; decide), (by rw [HE.out]; rfl)⟩, (by first | exact hB.trans (hB2.mono hB.size) | exact hB.drew.trans (hB2.mono hB.size))⟩ ?_)
              all_goals exact True.intro
            · have HW2 : Hid (((ps.drop k).take (j + 1)).all wok = true) := by
                show _ = _
                rw [List.take_add_one, List.all_append, HW.out, HG.out]
                simp [hw]
              go_wp2
              go_region_with (go_at_call 64; refine (word _ _ _ _ _ _ (by exact hr) p hck).mono ?_; rintro e w2 ⟨he, hB2⟩; obtain rfl : e = .returned (.string p) := (he.elim (fun h => h.2) (fun h => absurd (h.1.symm.trans hw) (by simp))); have hm2 : Made w w2 k C xb g0 g1 ((ps.take k).map Pc.val) m 0 := (by first | exact hm.below hB2 | exact hm.drew.below hB2); obtain ⟨⟨hxl2, ⟨y0, y1, y2⟩, _⟩, _, q0, _⟩ := id hm2; have hcl := q0.cell hml j hjl; have hcf := q0.frozen hml j; have hg1 := (q0.ge g1 rfl).2; have HM : Hid _ := (hm2.setC hml j p); clear q0 hB2 he)
              all_goals
                go_wp2
                go_roundw
                case rel => exact ⟨j + 1, by omega, by go_num, HW2.out, m.set j p, by simpa using hml, HLk.out, HM.out⟩
                case measure => simp [intOf]; omega
          · obtain rfl : j = C := by omega
            obtain rfl : m = (ps.drop k).take j := Ls.like_all (by rw [HCL.out]; exact hlike) (by rw [HCL.out, hml])
            have hkp : ps.length - 1 < ps.length := by have := HL.out; omega
            rcases is.below hB with h0 | ⟨pb, po, rfl, hpb, hpc⟩
            · rw [h0] at hkp; simp at hkp
            have hcp := hpc (ps.length - 1) hkp
            clear hpc
            have hck := hsz ps[ps.length - 1] (List.getElem_mem hkp)
            have hVr := hV.below hB
            have hr := h.below hB
            have HP : Hid (ps.getD (k + j) ⟨#[]⟩ = ps[ps.length - 1]) := by
              show _ = _
              rw [List.getD_eq_getElem?_getD, show k + j = ps.length - 1 by have := HL.out; omega, List.getElem?_eq_getElem hkp]; rfl
            obtain ⟨p, hp⟩ : ∃ p, ps[ps.length - 1] = p := ⟨_, rfl⟩
            rw [hp] at hcp hck HP
            obtain ⟨q, hq⟩ : ∃ q, ps.length - 1 = q := ⟨_, rfl⟩
            rw [hq] at hcp
            have hqp : q < ps.length := by omega
            have hqi : wrap64 ((ps.length : Int) - 1) = (q : Int) := by unfold wrap64; have := HL.out; omega
            clear hp hq hkp hlike hx o0 o1 hres hml hj hjn hB
            go_wp2_with fail
            refine (label _ _ _ _ _ _ hr p hck hVr).mono ?_
            rintro e w2 ⟨he, hB2⟩
            have hm2 := hm.below hB2
            clear hm hcp hr hVr hqi hB2 x0 x1 x2 hxl
            rcases he with ⟨hla, rfl⟩ | ⟨hla, rfl⟩
            · have HE : Hid (Pc.rread k j ps = (0, ⟨(ps.take k).map Pc.val, (ps.drop k).take j, Pc.val p⟩)) := by
                show _ = _
                have e : Pc.lb p = true := by unfold Pc.lb; rw [(Pc.tx_iff p).2 hla.1]; exact hla.2
                unfold Pc.rread
                rw [if_pos HL.out, if_pos HA.out, if_pos HW.out, HP.out, if_pos e]
              clear hla
              obtain ⟨⟨hxl, ⟨x0, x1, x2⟩, f0, f1, f2⟩, o0, o1, hne, hres, hB⟩ := id hm2
              obtain ⟨hrl, ⟨r0, r1, r2⟩, t0, t1, t2⟩ := id hres
              have HF : ∀ v v0 v1 v2, Hid _ := fun v v0 v1 v2 => hm2.done v v0 v1 v2
              clear o0 o1 hB hres hm2
              go_wp2
              obtain ⟨F0, F1, FB⟩ := (HF _ _ _ _).out
              refine bodyPost_ret (v := .agg #[.slice (some ⟨g0, 0, none⟩) k k, .slice (some ⟨g1, 0, none⟩) j j, .int .i64 (Re.guess p.data.toList)]) (by rw [results_cell rfl]; go_simp) rfl ⟨.inl ⟨by rw [HE.out], _, _, by rw [HE.out]; rfl, by rw [HE.out]; exact F0, by rw [HE.out]; exact F1, .inr ?_⟩, FB⟩
              show some g0 ≠ some g1
              have := hne.1
              simp [this]
            · have HE : Hid ((Pc.rread k j ps).1 = 6) := by
                show _ = _
                have e : ¬ Pc.lb p = true := by
                  intro e
                  unfold Pc.lb at e
                  rw [Bool.and_eq_true] at e
                  exact hla ⟨(Pc.tx_iff p).1 e.1, e.2⟩
                unfold Pc.rread
                rw [if_pos HL.out, if_pos HA.out, if_pos HW.out, HP.out, if_neg e]
              exact ⟨rfl, .inr ⟨by rw [HE.out]; decide, by rw [HE.out]; rfl⟩, hm2.2.2.2.2.2⟩
end Go.Proofs.YtajfldjhbgilmaaGreatDoor.Rd
