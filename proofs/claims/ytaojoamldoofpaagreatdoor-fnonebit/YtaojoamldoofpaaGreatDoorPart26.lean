/-
  Contracts that the proof leans on, put together in the order in which they build.
-/
import Derived.Test.YtaojoamldoofpaaGreatDoorPart25
import Derived.Test.YtaojoamldoofpaaGreatDoorPart2
import Derived.Lib.LaidTab
import Derived.Test.YtaojoamldoofpaaGreatDoorPart10
import Derived.Deep.RegionHeld3
/-
  The text of a model, read by the program's plain function, gives the model.
-/
namespace Go.Proofs.YtaojoamldoofpaaGreatDoor.Rm
set_option maxRecDepth 20000
open Go.Proofs.YtaojoamldoofpaaGreatDoor.Md (M mok mok_parts kok_parts)
open Go.Proofs.YtaojoamldoofpaaGreatDoor.Kt (Kv)
open Go.Proofs.YtaojoamldoofpaaGreatDoor.Mt (nums nums_cons nums_nil spt head ctxt ttxt ctxts ttxts body whole wline wlines hasLf anyLf)
set_option linter.unusedVariables false
def bd (x : Int) : Prop := -1000000000000 ≤ x ∧ x ≤ 1000000000000
theorem fok_bd {x : Int} (h : Bo.fok x = true) : bd x := by
  have : -1000000000 ≤ x ∧ x ≤ 1000000000 := by simpa [Bo.fok] using h
  unfold bd; omega
def flat : List (Int × Int) → List Int
  | [] => []
  | p :: ps => p.1 :: p.2 :: flat ps
theorem flat_pairs : ∀ ps : List (Int × Int), pairs (flat ps) = ps
  | [] => rfl
  | p :: ps => by simp only [flat, pairs, flat_pairs ps]
theorem flat_even : ∀ ps : List (Int × Int), (flat ps).length % 2 = 0
  | [] => rfl
  | p :: ps => by simp only [flat, List.length_cons]; have := flat_even ps; omega
theorem spt_flat : ∀ ps : List (Int × Int), spt ps = nums (flat ps)
  | [] => rfl
  | p :: ps => by
    have ih := spt_flat ps
    unfold spt at ih ⊢
    rw [List.map_cons, List.flatten_cons, ih]
    simp [flat, nums]
structure Gd (m : M) : Prop where
  h : ∀ x ∈ [m.n, m.c, m.prior, m.base], bd x
  k : ∀ t ∈ m.ks, t.vs.length = t.ws.length ∧ t.ws.length ≤ 40 ∧ (∀ v ∈ t.vs, bd v) ∧ ∀ s ∈ t.ws, (10 : UInt8) ∉ s.data.toList
  t : ∀ t ∈ m.ts, (∀ x ∈ flat t.sp, bd x) ∧ ∀ x ∈ t.lv, bd x
theorem flat_bd : ∀ {ps : List (Int × Int)}, (∀ p ∈ ps, bd p.1 ∧ bd p.2) → ∀ x ∈ flat ps, bd x
  | [], _, x, hx => by simp [flat] at hx
  | p :: ps, h, x, hx => by
    simp only [flat, List.mem_cons] at hx
    rcases hx with rfl | rfl | hx
    · exact (h p (by simp)).1
    · exact (h p (by simp)).2
    · exact flat_bd (fun q hq => h q (by simp [hq])) x hx
theorem gd_of {m : M} (h : mok m = true) (hn : anyLf m.ks = false) : Gd m := by
  obtain ⟨h1, h2, h3, h4, h5, h6, h7⟩ := mok_parts h
  obtain ⟨s0, s1, s2⟩ := Tk.sok_iff.1 h1
  refine ⟨?_, fun t ht => ?_, fun t ht => ?_⟩
  · have hp : -1000000 ≤ m.prior ∧ m.prior ≤ 1000000 := by simpa [Li.btw] using h2
    intro x hx
    simp at hx
    rcases hx with rfl | rfl | rfl | rfl
    · unfold bd; omega
    · unfold bd; omega
    · unfold bd; omega
    · exact fok_bd h3
  · obtain ⟨k1, k2, k3, k4, _⟩ := kok_parts (List.all_eq_true.1 h7 t ht)
    refine ⟨k2, k1, fun v hv => fok_bd (List.all_eq_true.1 k3 v hv), fun s hs e => ?_⟩
    have h8 : (t.ws.any hasLf) = false := by
      unfold anyLf at hn
      rw [List.any_eq_false] at hn
      have := hn t ht
      simpa using this
    rw [List.any_eq_false] at h8
    have := h8 s hs
    unfold hasLf at this
    exact this (List.contains_iff_mem.2 e)
  · obtain ⟨_, k3, k4⟩ := Tr.tok_iff.1 (List.all_eq_true.1 h6 t ht)
    refine ⟨flat_bd (fun p hp => ?_), fun x hx => fok_bd (List.all_eq_true.1 k4 x hx)⟩
    have := List.all_eq_true.1 k3 p hp
    unfold Tr.spok at this
    simp only [Bool.and_eq_true, decide_eq_true_eq] at this
    exact ⟨by unfold bd; omega, fok_bd this.2⟩
/-! ### Lines -/
theorem first_at {f : List UInt8} (r : List UInt8) (h : (32 : UInt8) ∉ f) : first (f ++ 32 :: r) = f ∧ rest (f ++ 32 :: r) = r := by
  unfold first rest
  rw [Pc.cut_at 32 f r h]
  exact ⟨rfl, rfl⟩
theorem rdt_line {a r : List UInt8} {st st' : St} (ha : (10 : UInt8) ∉ a) (hs : 0 < st.left ∨ ¬ first a = wSum) (hd : dLine st a = some st') : rdt (a ++ 10 :: r) st = rdt r st' := by
  unfold rdt
  rw [Pc.pieces_cut 10 r a ha, rd]
  by_cases hl : 0 < st.left
  · rw [if_pos hl, hd]
  · have : ¬ first a = wSum := hs.resolve_left hl
    rw [if_neg hl, if_neg this, hd]
theorem rdt_sum {a r : List UInt8} {st : St} (ha : (10 : UInt8) ∉ a) (hl : ¬ 0 < st.left) (hf : first a = wSum) : rdt (a ++ 10 :: r) st = some st := by
  unfold rdt
  rw [Pc.pieces_cut 10 r a ha, rd, if_neg hl, if_pos hf]
theorem rdt_head (m : M) (hg : Gd m) (R : List UInt8) : rdt (head m ++ R) ⟨zero, 0⟩ = rdt R ⟨⟨m.n, m.c, m.prior, m.base, [], []⟩, 0⟩ := by
  have e : head m ++ R = (wModel ++ 32 :: (Lib.itoa m.n ++ nums [m.c, m.prior, m.base])) ++ 10 :: R := by
    unfold head wModel
    rw [nums_cons]
    simp
  have hf := first_at (f := wModel) (Lib.itoa m.n ++ nums [m.c, m.prior, m.base]) (by decide)
  have hi := inums_tail (e := []) (.inl rfl) m.n [m.c, m.prior, m.base] hg.h
  rw [List.append_nil] at hi
  rw [e]
  refine rdt_line ?_ (.inr ?_) ?_
  · intro h
    rcases List.mem_append.1 h with h | h
    · revert h; decide
    · rcases List.mem_cons.1 h with h | h
      · revert h; decide
      · rcases List.mem_append.1 h with h | h
        · exact (itoa_no _).1 h
        · exact (nums_no _).1 h
  · rw [hf.1]; decide
  · unfold dLine
    rw [if_neg (by decide), if_pos hf.1, hf.2]
    unfold dHead
    rw [hi]
    rfl
theorem addW_snoc (ks : List Kv) (wa : List ByteArray) (va : List Int) (s : ByteArray) (v : Int) : addW (ks ++ [⟨wa, va⟩]) s v = ks ++ [⟨wa ++ [s], va ++ [v]⟩] := by
  unfold addW
  have e : (ks ++ [(⟨wa, va⟩ : Kv)]).length - 1 = ks.length := by simp
  rw [e]
  have e2 : (ks ++ [(⟨wa, va⟩ : Kv)]).getD ks.length ⟨[], []⟩ = ⟨wa, va⟩ := by simp
  rw [e2, List.set_append_right _ _ (Nat.le_refl _)]
  simp
theorem rdt_words (n c p b : Int) (ks : List Kv) (ts : List Tr.T) (R : List UInt8) : ∀ (vs : List Int) (ws : List ByteArray) (wa : List ByteArray) (va : List Int), vs.length = ws.length → (∀ v ∈ vs, bd v) → (∀ s ∈ ws, (10 : UInt8) ∉ s.data.toList) →
    rdt (wlines vs ws ++ R) ⟨⟨n, c, p, b, ks ++ [⟨wa, va⟩], ts⟩, (ws.length : Int)⟩ = rdt R ⟨⟨n, c, p, b, ks ++ [⟨wa ++ ws, va ++ vs⟩], ts⟩, 0⟩
  | [], [], wa, va, _, _, _ => by simp [wlines]
  | [], s :: ws, wa, va, h, _, _ => by simp at h
  | v :: vs, [], wa, va, h, _, _ => by simp at h
  | v :: vs, s :: ws, wa, va, h, hv, hs => by
    have ih := rdt_words n c p b ks ts R vs ws (wa ++ [s]) (va ++ [v]) (by simpa using h) (fun x hx => hv x (by simp [hx])) (fun x hx => hs x (by simp [hx]))
    have e : wlines (v :: vs) (s :: ws) ++ R = (Lib.itoa v ++ 32 :: s.data.toList) ++ 10 :: (wlines vs ws ++ R) := by
      simp [wlines, wline]
    have hf := first_at (f := Lib.itoa v) s.data.toList (itoa_no v).2.1
    have hpos : (0 : Int) < (((s :: ws).length : Nat) : Int) := by rw [List.length_cons]; omega
    rw [e, rdt_line (st' := ⟨⟨n, c, p, b, ks ++ [⟨wa ++ [s], va ++ [v]⟩], ts⟩, (ws.length : Int)⟩) ?_ (.inl hpos) ?_, ih]
    · simp
    · intro hm
      rcases List.mem_append.1 hm with h | h
      · exact (itoa_no _).1 h
      · rcases List.mem_cons.1 h with h | h
        · revert h; decide
        · exact hs s (by simp) h
    · unfold dLine
      rw [if_pos hpos, hf.1, hf.2]
      unfold dWord
      rw [num_itoa (hv v (by simp))]
      have e3 : (⟨s.data.toList.toArray⟩ : ByteArray) = s := by cases s; rfl
      simp only [e3, addW_snoc]
      congr 2
      simp
theorem rdt_ctrs (n c p b : Int) (ts : List Tr.T) (R : List UInt8) : ∀ (ks ka : List Kv), (∀ t ∈ ks, t.vs.length = t.ws.length ∧ t.ws.length ≤ 40 ∧ (∀ v ∈ t.vs, bd v) ∧ ∀ s ∈ t.ws, (10 : UInt8) ∉ s.data.toList) →
    rdt (ctxts ks ++ R) ⟨⟨n, c, p, b, ka, ts⟩, 0⟩ = rdt R ⟨⟨n, c, p, b, ka ++ ks, ts⟩, 0⟩
  | [], ka, _ => by simp [ctxts]
  | t :: ks, ka, h => by
    obtain ⟨h1, h2, h3, h4⟩ := h t (by simp)
    have ih := rdt_ctrs n c p b ts R ks (ka ++ [t]) (fun u hu => h u (by simp [hu]))
    have e : ctxts (t :: ks) ++ R = (wCtr ++ 32 :: Lib.itoa (t.ws.length : Int)) ++ 10 :: (wlines t.vs t.ws ++ (ctxts ks ++ R)) := by
      simp [ctxts, ctxt, wCtr, Mt.nums_one]
    have hf := first_at (f := wCtr) (Lib.itoa (t.ws.length : Int)) (by decide)
    have hi := inums_tail (e := []) (.inl rfl) (t.ws.length : Int) [] (by intro y hy; simp at hy; subst hy; omega)
    rw [nums_nil, List.append_nil, List.append_nil] at hi
    rw [e, rdt_line (st' := ⟨⟨n, c, p, b, ka ++ [⟨[], []⟩], ts⟩, (t.ws.length : Int)⟩) ?_ (.inr (by rw [hf.1]; decide)) ?_, rdt_words n c p b ka ts _ t.vs t.ws [] [] h1 h3 h4]
    · simp only [List.nil_append]
      rw [ih]
      simp
    · intro hm
      rcases List.mem_append.1 hm with h | h
      · revert h; decide
      · rcases List.mem_cons.1 h with h | h
        · revert h; decide
        · exact (itoa_no _).1 h
    · unfold dLine
      rw [if_neg (Int.lt_irrefl 0), hf.1, if_neg (by decide), if_pos rfl, hf.2]
      unfold dCtr
      rw [hi]
theorem cut_co {a r : List UInt8} (h : (58 : UInt8) ∉ a) : Lib.cut (a ++ 58 :: r) [58] = (a, r, true) := Pc.cut_at 58 a r h
theorem rdt_trees (n c p b : Int) (ks : List Kv) (R : List UInt8) : ∀ (ts ta : List Tr.T), (∀ t ∈ ts, (∀ x ∈ flat t.sp, bd x) ∧ ∀ x ∈ t.lv, bd x) →
    rdt (ttxts ts ++ R) ⟨⟨n, c, p, b, ks, ta⟩, 0⟩ = rdt R ⟨⟨n, c, p, b, ks, ta ++ ts⟩, 0⟩
  | [], ta, _ => by simp [ttxts]
  | t :: ts, ta, h => by
    obtain ⟨h1, h2⟩ := h t (by simp)
    have ih := rdt_trees n c p b ks R ts (ta ++ [t]) (fun u hu => h u (by simp [hu]))
    have hlv := inums_nums (e := []) (.inl rfl) t.lv h2
    rw [List.append_nil] at hlv
    have key : ∃ r, wTree ++ 32 :: r ++ 10 :: (ttxts ts ++ R) = ttxts (t :: ts) ++ R ∧ (10 : UInt8) ∉ r ∧ dTree ⟨⟨n, c, p, b, ks, ta⟩, 0⟩ r = some ⟨⟨n, c, p, b, ks, ta ++ [t]⟩, 0⟩ := by
      have et : (⟨pairs (flat t.sp), t.lv⟩ : Tr.T) = t := by rw [flat_pairs]
      cases hq : flat t.sp with
      | nil =>
        refine ⟨58 :: nums t.lv, ?_, ?_, ?_⟩
        · simp [ttxts, ttxt, wTree, spt_flat, hq, nums_nil]
        · intro hm
          rcases List.mem_cons.1 hm with h | h
          · revert h; decide
          · exact (nums_no _).1 h
        · have hc := cut_co (a := []) (r := nums t.lv) (by simp)
          rw [List.nil_append] at hc
          have h0 : inums [] = some [] := by
            have := inums_nums (e := []) (.inl rfl) [] (by intro x hx; simp at hx)
            rwa [nums_nil, List.append_nil] at this
          unfold dTree
          rw [hc]
          simp only [h0, hlv]
          rw [hq] at et
          rw [if_pos (by rfl), et]
      | cons x l =>
        refine ⟨Lib.itoa x ++ nums l ++ [32] ++ 58 :: nums t.lv, ?_, ?_, ?_⟩
        · simp [ttxts, ttxt, wTree, spt_flat, hq, nums_cons]
        · intro hm
          rcases List.mem_append.1 hm with h | h
          · rcases List.mem_append.1 h with h | h
            · rcases List.mem_append.1 h with h | h
              · exact (itoa_no _).1 h
              · exact (nums_no _).1 h
            · revert h; decide
          · rcases List.mem_cons.1 h with h | h
            · revert h; decide
            · exact (nums_no _).1 h
        · have hc := cut_co (a := Lib.itoa x ++ nums l ++ [32]) (r := nums t.lv) (by
            intro hm
            rcases List.mem_append.1 hm with h | h
            · rcases List.mem_append.1 h with h | h
              · exact (itoa_no _).2.2 h
              · exact (nums_no _).2 h
            · revert h; decide)
          have h0 := inums_tail (e := [32]) (.inr rfl) x l (by rw [← hq]; exact h1)
          unfold dTree
          rw [hc]
          simp only [h0, hlv]
          have := flat_even t.sp
          rw [hq] at this et
          rw [if_pos this, et]
    obtain ⟨r, e, hr, hd⟩ := key
    have hf := first_at (f := wTree) r (by decide)
    rw [← e, rdt_line (st' := ⟨⟨n, c, p, b, ks, ta ++ [t]⟩, 0⟩) ?_ (.inr (by rw [hf.1]; decide)) ?_, ih]
    · simp
    · intro hm
      rcases List.mem_append.1 hm with h | h
      · revert h; decide
      · rcases List.mem_cons.1 h with h | h
        · revert h; decide
        · exact hr h
    · unfold dLine
      rw [if_neg (Int.lt_irrefl 0), hf.1, if_neg (by decide), if_neg (by decide), if_pos rfl, hf.2]
      exact hd
theorem rdt_whole {m : M} (hg : Gd m) : rdt (whole m) ⟨zero, 0⟩ = some ⟨m, 0⟩ := by
  have e : whole m = head m ++ (ctxts m.ks ++ (ttxts m.ts ++ ((wSum ++ 32 :: Lib.itoa (Cr.crc (body m) : Int)) ++ 10 :: []))) := by
    unfold whole body wSum
    rw [Mt.nums_one]
    simp
  rw [e, rdt_head m hg, rdt_ctrs _ _ _ _ _ _ _ _ hg.k, rdt_trees _ _ _ _ _ _ _ _ hg.t, rdt_sum ?_ (Int.lt_irrefl 0) (first_at (f := wSum) _ (by decide)).1]
  · simp
  · intro hm
    rcases List.mem_append.1 hm with h | h
    · revert h; decide
    · rcases List.mem_cons.1 h with h | h
      · revert h; decide
      · exact (itoa_no _).1 h
end Go.Proofs.YtaojoamldoofpaaGreatDoor.Rm
/-
  What the program's reading of numbers answers: the numbers that stand between blanks, or that one of them is none.
-/
namespace Go.Proofs.YtaojoamldoofpaaGreatDoor.Rm
set_option maxRecDepth 100000
open Go.RowKit
set_option linter.unusedVariables false
def Vs (w : World) : Prop := Nu.Tab w ∧ (∃ m, w.cell? ⟨0, 0, none⟩ = some (.int .i64 m)) ∧ (∃ tp p, w.var? Tryz.prog "strconv.ErrSyntax" = some #[.iface tp p]) ∧ (∃ tp p, w.var? Tryz.prog "strconv.ErrRange" = some #[.iface tp p]) ∧ Lib.TabIs Tryz.prog w "strings.asciiSpace" .u8 Lib.asciiSpaceTab ∧ Lib.WhiteTab 4 w
theorem var_lt {n : String} {g : Nat} {v : Value} {w : World} (hg : Tryz.prog.globalNamed n = some g) (hv : w.var? Tryz.prog n = some #[v]) : g < w.heap.size :=
  World.block_lt_of_cell? w ⟨g, 0, none⟩ (u := v) (by have := World.var?_cell hg hv 0; simpa using this)
theorem gES : Tryz.prog.globalNamed "strconv.ErrSyntax" = some 2 := by kernel_rfl
theorem gER : Tryz.prog.globalNamed "strconv.ErrRange" = some 3 := by kernel_rfl
theorem gAS : Tryz.prog.globalNamed "strings.asciiSpace" = some 1 := by kernel_rfl
theorem Vs.below {w w' : World} (h : Vs w) (hb : Below w.heap.size w w') : Vs w' := by
  obtain ⟨h1, ⟨m, hm⟩, ⟨t2, p2, h2⟩, ⟨t3, p3, h3⟩, h4, h5⟩ := h
  refine ⟨h1.below hb, ⟨m, ?_⟩, ⟨t2, p2, var?_below hb gES (var_lt gES h2) h2⟩, ⟨t3, p3, var?_below hb gER (var_lt gER h3) h3⟩, var?_below hb gAS (World.block_lt_of_cell? w _ (Lib.TabIs.cell h4 gAS 0 (by decide))) h4, WhiteTab_below h5 hb⟩
  rw [hb.cell (p := ⟨0, 0, none⟩) (World.block_lt_of_cell? w _ hm)]
  exact hm
theorem atoi_any (t : ByteArray) (w : World) (ht : t.size ≤ 281474976710656) (hV : Vs w) :
    Calls Tryz.prog 83 #[.string t] w fun e w' => ((∃ v, num t.data.toList = some v ∧ -9223372036854775808 ≤ v ∧ v ≤ 9223372036854775807 ∧ e = .returned (.tuple #[.int .i64 v, .nilIface])) ∨ (num t.data.toList = none ∧ ∃ (v : Int) (N : Nat), e = .returned (.tuple #[.int .i64 v, .iface 186 (.pointer (some ⟨N, 0, none⟩))]))) ∧ Below w.heap.size w w' := by
  obtain ⟨_, _, ⟨t2, p2, h2⟩, ⟨t3, p3, h3⟩, _⟩ := hV
  have hs : ∀ h, Calls Tryz.prog 83 #[.string t] w fun e w' => ∃ N, e = .returned (.tuple #[.int .i64 0, .iface 186 (.pointer (some ⟨N, 0, none⟩))]) ∧ w.heap.size ≤ N ∧ w'.heap[N]? = some (.cells #[.string ⟨#[65, 116, 111, 105]⟩, .string t, .iface t2 p2] 207 (0, 0)) ∧ Below w.heap.size w w' :=
    fun h => Any.strconv_Atoi_syntax_var Tryz.laysC172 t ht h t2 p2 w h2
  cases h : Lib.atoiAll t.data.toList
  · rename_i v
    have hbd := Lib.atoiAll_bounds h
    refine (Tryz.strconv_Atoi_ok t (by omega) v h w).mono ?_
    rintro e w' ⟨rfl, hw⟩
    refine ⟨.inl ⟨v, by unfold num; rw [h], hbd.1, hbd.2, rfl⟩, ?_⟩
    rcases hw with rfl | ⟨u, rfl⟩
    · exact Below.refl _ _
    · exact Lib.bytesWorld_below _ _ _
  · refine (hs h).mono ?_
    rintro e w' ⟨N, rfl, _, _, hB⟩
    exact ⟨.inr ⟨by unfold num; rw [h], _, N, rfl⟩, hB⟩
  · refine (Tryz.strconv_Atoi_range_var t ht h t3 p3 w h3).mono ?_
    rintro e w' ⟨N, rfl, _, _, hB⟩
    exact ⟨.inr ⟨by unfold num; rw [h], _, N, rfl⟩, hB⟩
theorem fd_len : ∀ (f : Nat) (cur l : List UInt8), (Lib.fieldsGoD f cur l).length ≤ cur.length + l.length ∧ ∀ x ∈ Lib.fieldsGoD f cur l, x.length ≤ cur.length + l.length := by
  intro f
  have base : ∀ cur l : List UInt8, (if cur = [] then ([] : List (List UInt8)) else [cur]).length ≤ cur.length + l.length ∧ ∀ x ∈ (if cur = [] then ([] : List (List UInt8)) else [cur]), x.length ≤ cur.length + l.length := fun cur l => by
    by_cases h : cur = []
    · simp [h]
    · have := List.length_pos_iff.2 h
      simp [h]; omega
  induction f with
  | zero => intro cur l; exact base cur l
  | succ f ih =>
    intro cur l
    rw [Lib.fieldsGoD]
    by_cases h0 : l = []
    · rw [if_pos h0]; exact base cur l
    · rw [if_neg h0]
      have hd : (l.drop (Lib.decodeL l).2).length ≤ l.length := by rw [List.length_drop]; omega
      by_cases h1 : Lib.isSpaceR (Lib.decodeL l).1 = true
      · rw [if_pos h1]
        obtain ⟨i1, i2⟩ := ih [] (l.drop (Lib.decodeL l).2)
        obtain ⟨b1, b2⟩ := base cur []
        simp only [List.length_nil, Nat.zero_add, Nat.add_zero] at i1 i2 b1 b2
        refine ⟨by rw [List.length_append]; omega, fun x hx => ?_⟩
        rcases List.mem_append.1 hx with h | h
        · have := b2 x h; omega
        · have := i2 x h; omega
      · rw [if_neg h1]
        obtain ⟨i1, i2⟩ := ih (cur ++ l.take (Lib.decodeL l).2) (l.drop (Lib.decodeL l).2)
        have e : (cur ++ l.take (Lib.decodeL l).2).length + (l.drop (Lib.decodeL l).2).length = cur.length + l.length := by
          rw [List.length_append, List.length_take, List.length_drop]; omega
        rw [e] at i1 i2
        exact ⟨i1, i2⟩
theorem numL_len : ∀ {fs : List (List UInt8)} {xs : List Int}, numL fs = some xs → xs.length = fs.length
  | [], xs, h => by simp [numL] at h; subst h; rfl
  | f :: fs, xs, h => by
    unfold numL at h
    cases h1 : num f with
    | none => rw [h1] at h; cases h
    | some v =>
      cases h2 : numL fs with
      | none => rw [h1, h2] at h; cases h
      | some vs =>
        rw [h1, h2] at h
        cases h
        simp [numL_len h2]
theorem inums_len {l : List UInt8} {xs : List Int} (h : inums l = some xs) : xs.length ≤ l.length := by
  have h1 := numL_len h
  have h2 := (fd_len (l.length + 1) [] l).1
  unfold Lib.fieldsD at h1
  simp at h2
  omega
theorem numL_snoc : ∀ (fs : List (List UInt8)) (f : List UInt8), numL (fs ++ [f]) = (match numL fs, num f with
    | some xs, some v => some (xs ++ [v])
    | _, _ => none)
  | [], f => by
    simp only [List.nil_append, numL]
    cases num f <;> rfl
  | g :: fs, f => by
    have ih := numL_snoc fs f
    simp only [List.cons_append, numL, ih]
    cases num g with
    | none => rfl
    | some v =>
      cases numL fs with
      | none => rfl
      | some xs => cases num f <;> rfl
theorem numL_take {fs : List (List UInt8)} {k : Nat} (hk : k < fs.length) {xs : List Int} (h : numL (fs.take k) = some xs) {v : Int} (hv : num fs[k] = some v) : numL (fs.take (k + 1)) = some (xs ++ [v]) := by
  rw [List.take_succ_eq_append_getElem hk, numL_snoc, h, hv]
theorem numL_no : ∀ {fs : List (List UInt8)} {k : Nat} (hk : k < fs.length), num fs[k] = none → numL fs = none
  | f :: fs, 0, _, h => by
    unfold numL
    rw [show num f = none from h]
  | f :: fs, k + 1, hk, h => by
    have := numL_no (fs := fs) (k := k) (by simpa using hk) h
    unfold numL
    rw [this]
    cases num f <;> rfl
set_option maxHeartbeats 2000000 in
theorem inumbers (w : World) (hV : Vs w) (s : ByteArray) (hs : s.size ≤ 30000) :
    Calls Tryz.prog 85 #[.string s] w fun e w' => ((∃ xs a c, inums s.data.toList = some xs ∧ (∀ x ∈ xs, -9223372036854775808 ≤ x ∧ x ≤ 9223372036854775807) ∧ e = .returned (.tuple #[.slice a xs.length c, .bool true]) ∧ Li.Own w' w.heap.size (.slice a xs.length c) xs) ∨ (inums s.data.toList = none ∧ e = .returned (.tuple #[.slice none 0 0, .bool false]))) ∧ Below w.heap.size w w' := by
  obtain ⟨i0, hi, hz0, hz1, hz2⟩ := info_parts Li.info_int
  have hsz : s.data.toList.length = s.size := by simp
  have HI : Hid (inums s.data.toList = numL (Lib.fieldsD s.data.toList)) := rfl
  obtain ⟨F, hF⟩ : ∃ F, Lib.fieldsD s.data.toList = F := ⟨_, rfl⟩
  have hfl : F.length ≤ 30000 ∧ ∀ x ∈ F, x.length ≤ 30000 := by
    have h1 := fd_len (s.data.toList.length + 1) [] s.data.toList
    have e : Lib.fieldsGoD (s.data.toList.length + 1) [] s.data.toList = F := hF
    rw [e, List.length_nil, Nat.zero_add, hsz] at h1
    exact ⟨by omega, fun x hx => by have := h1.2 x hx; omega⟩
  obtain ⟨hfn, hfx⟩ := hfl
  rw [hF] at HI
  go_enter Tryz.func85, Tryz.ntmps85
  go_wp2_with fail
  refine (Tryz.strings_Fields_any s w (by omega) hV.2.2.2.2.1 hV.2.2.2.2.2).mono ?_
  rintro e w1 ⟨A, rfl, hA, ho, hB⟩
  rw [hF] at ho ⊢
  have hV1 := hV.below hB
  have HC : Hid (∀ k (hk : k < F.length), w1.cell? ⟨A, k, none⟩ = some (.string ⟨F[k].toArray⟩)) := fun k hk => by
    rw [World.ownsRow.cellAt ho k (by omega)]
    simp [hk]
  have hAl := (World.ownsRow.lt ho A rfl).2
  clear ho hF hsz
  go_wp2
  go_loopw [4, 12] (fun v i wr => ∃ (k : Nat) (xs : List Int), k ≤ F.length ∧ i = .int .i64 k ∧ xs.length = k ∧ numL (F.take k) = some xs ∧ (∀ x ∈ xs, -9223372036854775808 ≤ x ∧ x ≤ 9223372036854775807) ∧ Li.Own wr w1.heap.size v xs ∧ Below w1.heap.size w1 wr) (fun _ i _ => F.length - (intOf i).toNat)
  case atStart => exact ⟨0, [], Nat.zero_le _, rfl, rfl, rfl, fun x hx => by simp at hx, Li.Own.nil _ _, Below.refl _ _⟩
  case round =>
    obtain ⟨k, xs, hk, rfl, hxl, hnl, hbx, ho, hBr⟩ := hrel
    have HXL : Hid (xs.length = k) := hxl
    have HNL : Hid (numL (F.take k) = some xs) := hnl
    have HBX : Hid (∀ x ∈ xs, -9223372036854775808 ≤ x ∧ x ≤ 9223372036854775807) := hbx
    have hBe := hB.trans (hBr.mono hB.size)
    clear hxl hnl hbx
    by_cases hlt : k < F.length
    · have hcx := (hBr.cell (p := ⟨A, k, none⟩) hAl).trans (HC.out k hlt)
      have hfk := hfx F[k] (List.getElem_mem hlt)
      have HNO : Hid (num F[k] = none → inums s.data.toList = none) := fun e => by rw [HI.out]; exact numL_no hlt e
      have HYE : Hid (∀ v, num F[k] = some v → numL (F.take (k + 1)) = some (xs ++ [v])) := fun v e => numL_take hlt HNL.out e
      generalize F[k] = f at hcx hfk HNO HYE
      have hdl : (ByteArray.mk f.toArray).data.toList = f := by simp
      have hat := atoi_any ⟨f.toArray⟩ wr (by rw [Mt.ba_size]; omega) (hV1.below hBr)
      rw [hdl] at hat
      clear hdl
      go_wp2_with (go_at_call 83; refine hat.mono ?_)
      rintro e w2 ⟨he, hB2⟩
      have ho := ho.below hB2
      have hBr := hBr.trans (hB2.mono hBr.size)
      have hsz2 := hBr.size
      have hBe := hBe.trans (hB2.mono hBe.size)
      clear hB2 hat hcx
      rcases he with ⟨v, hv, v0, v1, rfl⟩ | ⟨hv, v, N, rfl⟩
      · have HXS : Hid (numL (F.take (k + 1)) = some (xs ++ [v])) := HYE.out v hv
        have HBS : Hid (∀ x ∈ xs ++ [v], -9223372036854775808 ≤ x ∧ x ≤ 9223372036854775807) := fun x hx => by
          rcases List.mem_append.1 hx with h | h
          · exact HBX.out x h
          · simp at h; subst h; exact ⟨v0, v1⟩
        clear hv
        have hxle : xs.length ≤ 30000 := by rw [HXL.out]; omega
        go_wp2_with (at_builtin; refine wpList_append_own _ rfl _ _ 45 rfl w1.heap.size 3 i0 (.int .i64 0) 1 8 Tryz.underlying45 hi hz0 hz1 hz2 rfl (by decide) _ _ _ rfl (World.ownsRow.alloc ho _) ⟨w2.heap.size, 0, none⟩ 1 1 [.int .i64 v] rfl rfl (Ai.one_cell _ _ _) (Ai.one_one _) (by unfold maxLen; omega) (by omega) (by simp; omega) ?_; intro v5 w5 hown5 hgrow _)
        have HO : Hid (Li.Own w5 w1.heap.size v5 (xs ++ [v])) := Ai.own_snoc rfl hown5
        have HB5 : Hid (Below w1.heap.size w1 w5) := (hBr.alloc hsz2 _).grown hgrow (by simp; omega) (fun g hg => (World.ownsRow.lt ho g hg).1)
        have HL5 : Hid ((xs ++ [v]).length = k + 1) := by show _ = _; rw [List.length_append, HXL.out]; rfl
        clear hown5 hgrow ho hBr
        go_wp2
        go_roundw
        case rel => exact ⟨k + 1, xs ++ [v], by omega, by go_num, HL5.out, HXS.out, HBS.out, HO.out, HB5.out⟩
        case measure => simp [intOf]; omega
      · have HR : Hid (inums s.data.toList = none) := HNO.out hv
        clear hv
        go_wp2
        go_ret2
        exact ⟨.inr ⟨HR.out, rfl⟩, hBe⟩
    · have HR : Hid (inums s.data.toList = some xs) := by
        show _ = _
        rw [HI.out]
        have := HNL.out
        rwa [List.take_of_length_le (by omega)] at this
      obtain ⟨a, c, rfl, _⟩ := ho.isl
      go_wp2
      go_ret2
      exact ⟨.inl ⟨xs, a, c, HR.out, HBX.out, rfl, ho.mono hB.size⟩, hBe⟩
end Go.Proofs.YtaojoamldoofpaaGreatDoor.Rm
/-
  The program's reading of numbers, beside the pure reader of a model.
-/
namespace Go.Proofs.YtaojoamldoofpaaGreatDoor.Rm
end Go.Proofs.YtaojoamldoofpaaGreatDoor.Rm
/-
  The guess of a model in the program's reader: where it lies, what its methods make of it: the head, a table of words begun.
-/
namespace Go.Proofs.YtaojoamldoofpaaGreatDoor.Rm
set_option maxRecDepth 100000
open Go.RowKit
open Go.Proofs.YtaojoamldoofpaaGreatDoor.Md (M OwM)
open Go.Proofs.YtaojoamldoofpaaGreatDoor.Kt (Kv OwK)
open Go.Proofs.YtaojoamldoofpaaGreatDoor.To (OwT)
open Go.Proofs.YtaojoamldoofpaaGreatDoor.Sv (Fr fr_below fr_grown Wr)
set_option linter.unusedVariables false
def Fx (b lo : Nat) : Nat → Prop := fun y => y = b ∨ lo ≤ y
theorem fx_set {b lo : Nat} (w : World) (o : Nat) (x : Value) : Fr (Fx b lo) w (w.setCell ⟨b, o, none⟩ x) := fr_grown (Li.grown_set w b o x) (.inl rfl)
theorem fx_below {b lo : Nat} {w w1 : World} (h : Below w.heap.size w w1) : Fr (Fx b lo) w w1 := fr_below h
def gcells (st : St) (ak : Option Addr) (ck : Nat) (ax : Option Addr) (ct : Nat) : List Value := [.int .i64 st.m.n, .int .i64 st.m.c, .int .i64 st.m.prior, .int .i64 st.m.base, .slice ak st.m.ks.length ck, .slice ax st.m.ts.length ct, .int .i64 st.left]
structure Gs (w : World) (b lo : Nat) (st : St) (ak : Option Addr) (ck : Nat) (ax : Option Addr) (ct : Nat) : Prop where
  bx : Wr w b 0 (gcells st ak ck ax ct)
  om : OwM w (fun y => lo ≤ y) (.slice ak st.m.ks.length ck) (.slice ax st.m.ts.length ct) st.m
  bl : b < lo
  sz : lo ≤ w.heap.size
  lf : -9223372036854775808 ≤ st.left ∧ st.left ≤ 9223372036854775807
theorem wr7 {w : World} {b : Nat} {v0 v1 v2 v3 v4 v5 v6 : Value} (h : Wr w b 0 [v0, v1, v2, v3, v4, v5, v6]) :
    b < w.heap.size ∧ (w.cell? ⟨b, 0, none⟩ = some v0 ∧ w.cell? ⟨b, 1, none⟩ = some v1 ∧ w.cell? ⟨b, 2, none⟩ = some v2 ∧ w.cell? ⟨b, 3, none⟩ = some v3 ∧ w.cell? ⟨b, 4, none⟩ = some v4 ∧ w.cell? ⟨b, 5, none⟩ = some v5 ∧ w.cell? ⟨b, 6, none⟩ = some v6) ∧
    w.frozen? ⟨b, 0, none⟩ = false ∧ w.frozen? ⟨b, 1, none⟩ = false ∧ w.frozen? ⟨b, 2, none⟩ = false ∧ w.frozen? ⟨b, 3, none⟩ = false ∧ w.frozen? ⟨b, 4, none⟩ = false ∧ w.frozen? ⟨b, 5, none⟩ = false ∧ w.frozen? ⟨b, 6, none⟩ = false :=
  ⟨h.1, ⟨(h.2 0 (by simp)).1, (h.2 1 (by simp)).1, (h.2 2 (by simp)).1, (h.2 3 (by simp)).1, (h.2 4 (by simp)).1, (h.2 5 (by simp)).1, (h.2 6 (by simp)).1⟩, (h.2 0 (by simp)).2, (h.2 1 (by simp)).2, (h.2 2 (by simp)).2, (h.2 3 (by simp)).2, (h.2 4 (by simp)).2, (h.2 5 (by simp)).2, (h.2 6 (by simp)).2⟩
theorem Gs.below {w w1 : World} {b lo : Nat} {st : St} {ak ax : Option Addr} {ck ct : Nat} (h : Gs w b lo st ak ck ax ct) (hb : Below w.heap.size w w1) : Gs w1 b lo st ak ck ax ct :=
  ⟨h.bx.below hb, h.om.below hb, h.bl, Nat.le_trans h.sz hb.size, h.lf⟩
theorem om_set {w : World} {b lo o : Nat} {vk vt x : Value} {m : M} (h : OwM w (fun y => lo ≤ y) vk vt m) (hb : b < lo) : OwM (w.setCell ⟨b, o, none⟩ x) (fun y => lo ≤ y) vk vt m := h.fr (fr_grown (B := fun y => y = b) (Li.grown_set w b o x) rfl) (fun y hy e => by omega)
theorem om_ks {w : World} {B : Nat → Prop} {vk vt : Value} {m m' : M} (h : OwM w B vk vt m) (e1 : m'.ks = m.ks) (e2 : m'.ts = m.ts) : OwM w B vk vt m' := by
  obtain ⟨P, h0, h1⟩ := h
  exact ⟨P, by rw [e1]; exact h0, by rw [e2]; exact h1⟩
theorem splitK {w wA : World} {lo : Nat} {vk vt : Value} {m : M} (h : OwM w (fun y => lo ≤ y) vk vt m) (hb : Below w.heap.size w wA) (hlo : lo ≤ w.heap.size) :
    ∃ B' : Nat → Prop, (∀ y, w.heap.size ≤ y → B' y) ∧ (∀ y, B' y → lo ≤ y) ∧ OwK wA (fun y => B' y ∧ y < w.heap.size) vk m.ks ∧ ∀ w5 v5 (m5 : M), m5.ts = m.ts → Fr B' wA w5 → OwK w5 B' v5 m5.ks → OwM w5 (fun y => lo ≤ y) v5 vt m5 := by
  obtain ⟨P, h0, h1⟩ := h
  refine ⟨fun y => (lo ≤ y ∧ P y ∧ y < w.heap.size) ∨ w.heap.size ≤ y, fun y hy => .inr hy, fun y hy => by rcases hy with h | h <;> omega, ?_, fun w5 v5 m5 ht hf hk => ?_⟩
  · exact (h0.bound.below hb).mono (fun y hy => ⟨.inl ⟨hy.1.1, hy.1.2, hy.2⟩, hy.2⟩)
  · refine ⟨fun y => (lo ≤ y ∧ P y ∧ y < w.heap.size) ∨ w.heap.size ≤ y, hk.mono (fun y hy => ⟨by rcases hy with h | h <;> omega, hy⟩), ?_⟩
    rw [ht]
    have h2 := h1.bound.below hb
    refine (h2.fr hf (fun y hy e => ?_)).mono (fun y hy => ⟨hy.1.1, fun e => ?_⟩)
    · rcases e with e | e
      · exact hy.1.2 e.2.1
      · have := hy.2; omega
    · rcases e with e | e
      · exact hy.1.2 e.2.1
      · have := hy.2; omega
theorem splitT {w wA : World} {lo : Nat} {vk vt : Value} {m : M} (h : OwM w (fun y => lo ≤ y) vk vt m) (hb : Below w.heap.size w wA) (hlo : lo ≤ w.heap.size) :
    ∃ B' : Nat → Prop, (∀ y, w.heap.size ≤ y → B' y) ∧ (∀ y, B' y → lo ≤ y) ∧ OwT wA (fun y => B' y ∧ y < w.heap.size) vt m.ts ∧ ∀ w5 v5 (m5 : M), m5.ks = m.ks → Fr B' wA w5 → OwT w5 B' v5 m5.ts → OwM w5 (fun y => lo ≤ y) vk v5 m5 := by
  obtain ⟨P, h0, h1⟩ := h
  refine ⟨fun y => (lo ≤ y ∧ ¬ P y ∧ y < w.heap.size) ∨ w.heap.size ≤ y, fun y hy => .inr hy, fun y hy => by rcases hy with h | h <;> omega, ?_, fun w5 v5 m5 ht hf hk => ?_⟩
  · exact (h1.bound.below hb).mono (fun y hy => ⟨.inl ⟨hy.1.1, hy.1.2, hy.2⟩, hy.2⟩)
  · refine ⟨fun y => P y ∧ y < w.heap.size, ?_, hk.mono (fun y hy => ⟨by rcases hy with h | h <;> omega, fun e => ?_⟩)⟩
    · rw [ht]
      have h2 := h0.bound.below hb
      refine (h2.fr hf (fun y hy e => ?_)).mono (fun y hy => ⟨hy.1.1, hy.1.2, hy.2⟩)
      rcases e with e | e
      · exact e.2.1 hy.1.2
      · have := hy.2; omega
    · rcases hy with h | h
      · exact h.2.1 e.1
      · omega
theorem four {xs : List Int} : (∃ a b c d, xs = [a, b, c, d]) ∨ ¬ xs.length = 4 := by
  match xs with
  | [] => exact .inr (by simp)
  | [a] => exact .inr (by simp)
  | [a, b] => exact .inr (by simp)
  | [a, b, c] => exact .inr (by simp)
  | [a, b, c, d] => exact .inl ⟨a, b, c, d, rfl⟩
  | a :: b :: c :: d :: e :: r => exact .inr (by simp)
theorem head_no {st : St} {l : List UInt8} {xs : List Int} (h : inums l = some xs) (hn : ¬ xs.length = 4) : dHead st l = none := by
  unfold dHead
  rw [h]
  split
  · rename_i e; cases e; simp at hn
  · rfl
theorem ctr_no {st : St} {l : List UInt8} {xs : List Int} (h : inums l = some xs) (hn : ¬ xs.length = 1) : dCtr st l = none := by
  unfold dCtr
  rw [h]
  split
  · rename_i e; cases e; simp at hn
  · rfl
set_option maxHeartbeats 2000000 in
theorem ihead (w : World) (b lo : Nat) (st : St) (ak ax : Option Addr) (ck ct : Nat) (hg : Gs w b lo st ak ck ax ct) (hV : Vs w) (s : ByteArray) (hs : s.size ≤ 30000) :
    Calls Tryz.prog 61 #[.pointer (some ⟨b, 0, none⟩), .string s] w fun e w' => ((∃ st', dHead st s.data.toList = some st' ∧ e = .returned (.bool true) ∧ Gs w' b lo st' ak ck ax ct) ∨ (dHead st s.data.toList = none ∧ e = .returned (.bool false))) ∧ Fr (Fx b lo) w w' := by
  go_enter Tryz.func61, Tryz.ntmps61
  go_wp2_with fail
  refine (inumbers w hV s hs).mono ?_
  rintro e w1 ⟨he, hB⟩
  have hg0 := hg.sz
  have hg := hg.below hB
  have HF : Hid (Fr (Fx b lo) w w1) := fx_below hB
  have HLW : Hid (lo ≤ w.heap.size) := hg0
  clear hB
  rcases he with ⟨xs, a, c, hx, hbd, rfl, ho⟩ | ⟨hx, rfl⟩
  · rcases four (xs := xs) with ⟨x0, x1, x2, x3, rfl⟩ | hn
    · have HD : Hid (dHead st s.data.toList = some ⟨⟨x0, x1, x2, x3, st.m.ks, st.m.ts⟩, st.left⟩) := by show _ = _; unfold dHead; rw [hx]
      rcases ho.2 with ⟨e, h0⟩ | ⟨A, cap, cur, e, hA, _⟩
      · simp at h0
      cases e
      have d0 := ho.cell rfl 0 (by simp)
      have d1 := ho.cell rfl 1 (by simp)
      have d2 := ho.cell rfl 2 (by simp)
      have d3 := ho.cell rfl 3 (by simp)
      simp only [List.getElem_cons_zero, List.getElem_cons_succ] at d0 d1 d2 d3
      have hAl := (ho.ge A rfl).2
      have hAb : ¬ A = b := by have := hg.bl; have := HLW.out; omega
      have hbA : ¬ b = A := fun e => hAb e.symm
      obtain ⟨hbl, ⟨c0, c1, c2, c3, c4, c5, c6⟩, f0, f1, f2, f3, f4, f5, f6⟩ := wr7 hg.bx
      have HG : Hid (type_of% hg) := hg
      clear ho hx hbd hg
      go_wp2_with fail
      go_region_held3 (fun w' => w'.cell? ⟨A, 0, none⟩ = some (.int .i64 x0) ∧ w'.cell? ⟨A, 1, none⟩ = some (.int .i64 x1) ∧ w'.cell? ⟨A, 2, none⟩ = some (.int .i64 x2) ∧ w'.cell? ⟨A, 3, none⟩ = some (.int .i64 x3)) (go_keep) (fail)
      go_wp2_with fail
      go_region_held3 (fun w' => w'.cell? ⟨A, 0, none⟩ = some (.int .i64 x0) ∧ w'.cell? ⟨A, 1, none⟩ = some (.int .i64 x1) ∧ w'.cell? ⟨A, 2, none⟩ = some (.int .i64 x2) ∧ w'.cell? ⟨A, 3, none⟩ = some (.int .i64 x3)) (go_keep) (fail)
      clear d0 d1 d2 d3 c0 c1 c2 c3 c4 c5 c6 f0 f1 f2 f3 f4 f5 f6
      go_wp2
      go_ret
      have hg := HG.out
      refine ⟨.inl ⟨_, HD.out, rfl, ?_⟩, ?_⟩
      · refine ⟨?_, ?_, hg.bl, ?_, hg.lf⟩
        · have h4 := (((hg.bx.set 0 (by simp [gcells]) (.int .i64 x0)).set 1 (by simp [gcells]) (.int .i64 x1)).set 2 (by simp [gcells]) (.int .i64 x2)).set 3 (by simp [gcells]) (.int .i64 x3)
          exact h4
        · exact om_ks (om_set (om_set (om_set (om_set hg.om hg.bl) hg.bl) hg.bl) hg.bl) rfl rfl
        · have := hg.sz
          simpa [World.setCell] using this
      · have h4 := HF.out.trans ((((fx_set (lo := lo) w1 0 (.int .i64 x0)).trans (fx_set _ 1 (.int .i64 x1))).trans (fx_set _ 2 (.int .i64 x2))).trans (fx_set _ 3 (.int .i64 x3)))
        exact ⟨h4.os, h4.tape, h4.output, h4.size, h4.block⟩
    · have HD : Hid (dHead st s.data.toList = none) := head_no hx hn
      have hn' : ((xs.length : Int) != 4) = true := by simp; omega
      clear hx hbd
      go_wp2
      go_ret
      exact ⟨.inr ⟨HD.out, rfl⟩, HF.out⟩
  · have HD : Hid (dHead st s.data.toList = none) := by show _ = _; unfold dHead; rw [hx]
    clear hx
    go_wp2
    go_ret
    exact ⟨.inr ⟨HD.out, rfl⟩, HF.out⟩
theorem one {xs : List Int} : (∃ a, xs = [a]) ∨ ¬ xs.length = 1 := by
  match xs with
  | [] => exact .inr (by simp)
  | [a] => exact .inl ⟨a, rfl⟩
  | a :: b :: r => exact .inr (by simp)
theorem two_cell (w : World) (T : TypeId) (x y : Value) : (w.alloc (.cells #[x, y] T)).cell? ⟨w.heap.size, 0, none⟩ = some x ∧ (w.alloc (.cells #[x, y] T)).cell? ⟨w.heap.size, 1, none⟩ = some y := by simp
set_option maxHeartbeats 2000000 in
theorem ictr (w : World) (b lo : Nat) (st : St) (ak ax : Option Addr) (ck ct : Nat) (hg : Gs w b lo st ak ck ax ct) (hV : Vs w) (s : ByteArray) (hs : s.size ≤ 30000) (hk : st.m.ks.length ≤ 1000000) :
    Calls Tryz.prog 62 #[.pointer (some ⟨b, 0, none⟩), .string s] w fun e w' => ((∃ st' ak' ck', dCtr st s.data.toList = some st' ∧ e = .returned (.bool true) ∧ Gs w' b lo st' ak' ck' ax ct) ∨ (dCtr st s.data.toList = none ∧ e = .returned (.bool false))) ∧ Fr (Fx b lo) w w' := by
  go_enter Tryz.func62, Tryz.ntmps62
  go_wp2_with fail
  refine (inumbers w hV s hs).mono ?_
  rintro e w1 ⟨he, hB⟩
  have hg0 := hg.sz
  have HKW : Hid (∀ k, (Value.slice ak st.m.ks.length ck).ownBlock = some k → k < w.heap.size) := by obtain ⟨_, h0, _⟩ := hg.om; exact h0.lt
  have hg := hg.below hB
  have HF : Hid (Fr (Fx b lo) w w1) := fx_below hB
  have HLW : Hid (lo ≤ w.heap.size) := hg0
  clear hB hg0
  rcases he with ⟨xs, a, c, hx, hbd, rfl, ho⟩ | ⟨hx, rfl⟩
  · rcases one (xs := xs) with ⟨x0, rfl⟩ | hn
    · have HD : Hid (dCtr st s.data.toList = some ⟨⟨st.m.n, st.m.c, st.m.prior, st.m.base, st.m.ks ++ [⟨[], []⟩], st.m.ts⟩, x0⟩) := by show _ = _; unfold dCtr; rw [hx]
      have hb0 := hbd x0 (by simp)
      rcases ho.2 with ⟨e, h0⟩ | ⟨A, cap, cur, e, hA, _⟩
      · simp at h0
      cases e
      have hAb : ¬ A = b := by have := hg.bl; have := HLW.out; omega
      obtain ⟨hbl, ⟨c0, c1, c2, c3, c4, c5, c6⟩, f0, f1, f2, f3, f4, f5, f6⟩ := wr7 hg.bx
      have HG : Hid (type_of% hg) := hg
      have hA1 : Below w1.heap.size w1 (w1.alloc (.cells #[.slice none 0 0, .slice none 0 0] 47)) := (Below.refl _ _).alloc (Nat.le_refl _) _
      obtain ⟨B', hB1, hB2, hB3, hB4⟩ := splitK hg.om hA1 hg.sz
      have hvb : ∀ k, (Value.slice ak st.m.ks.length ck).ownBlock = some k → B' k ∧ k < w1.heap.size := fun k e => by obtain ⟨_, _, _, _, hv, _⟩ := hB3; exact hv k e
      have HVB : Hid (type_of% hvb) := hvb
      have HB1 : Hid (type_of% hB1) := hB1
      have HB2 : Hid (type_of% hB2) := hB2
      have HB3 : Hid (type_of% hB3) := hB3
      have HB4 : Hid (type_of% hB4) := hB4
      have HO : Hid (type_of% ho) := ho
      have HA : Hid (type_of% hA1) := hA1
      clear ho hx hbd hg hvb hB1 hB2 hB3 hB4 hA1
      go_wp2_with (at_builtin; refine Ps.wpl_pushK rfl _ _ rfl B' w1.heap.size _ st.m.ks HB3.out w1.heap.size none none 0 0 0 0 ⟨[], []⟩ rfl rfl (two_cell _ _ _ _).1 (two_cell _ _ _ _).2 (Ls.Own.nil _ _) (Li.Own.nil _ _) (fun k e => by simp [Value.ownBlock] at e) HB1.out HA.out.size (by omega) ?_; intro a5 c5 w5 hok5 hg5; have HOK5 : Hid (type_of% hok5) := hok5; have HFR : Hid (Fr B' (w1.alloc (.cells #[.slice none 0 0, .slice none 0 0] 47)) w5) := ⟨hg5.os, hg5.tape, hg5.output, hg5.size, fun k hk hn => hg5.block k hk (fun e => hn (HVB.out k e.symm).1)⟩; have hb5 := (HG.out.bx.below HA.out).keptAt HFR.out.size (HFR.out.block b (Nat.lt_of_lt_of_le HG.out.bx.1 HA.out.size) (fun e => by have := HB2.out b e; have := HG.out.bl; omega)); have ho5 := (HO.out.below HA.out).kept hg5 (.inr (fun e => by have := HKW.out A e.symm; omega)); obtain ⟨hbl5, ⟨e0, e1, e2, e3, e4, e5, e6⟩, g0, g1, g2, g3, g4, g5, g6⟩ := wr7 hb5; have dA := ho5.cell rfl 0 (by simp); have hAl5 := (ho5.ge A rfl).2; clear hok5 hg5)
      have hnb : b < w1.heap.size := HG.out.bx.1
      clear HVB HB1 HB3 HO
      go_wp2
      go_ret
      have hg := HG.out
      refine ⟨.inl ⟨_, a5, c5, HD.out, rfl, ?_⟩, ?_⟩
      · refine ⟨?_, ?_, hg.bl, ?_, hb0⟩
        · have h4 := (hb5.set 4 (by simp [gcells]) (.slice a5 (st.m.ks.length + 1) c5)).set 6 (by simp [gcells]) (.int .i64 x0)
          simpa [gcells] using h4
        · have h4 := HB4.out w5 (.slice a5 (st.m.ks.length + 1) c5) ⟨st.m.n, st.m.c, st.m.prior, st.m.base, st.m.ks ++ [⟨[], []⟩], st.m.ts⟩ rfl HFR.out HOK5.out
          have h5 := om_set (o := 6) (x := .int .i64 x0) (om_set (o := 4) (x := .slice a5 (st.m.ks.length + 1) c5) h4 hg.bl) hg.bl
          simpa using h5
        · have h1 := HFR.out.size
          have h2 := HA.out.size
          have h3 := hg.sz
          simp [World.setCell] at h1 ⊢
          omega
      · have h1 : Fr (Fx b lo) w w5 := HF.out.trans ((fx_below HA.out).trans (HFR.out.mono (fun y hy => .inr (HB2.out y hy))))
        exact (h1.trans (fx_set _ 4 _)).trans (fx_set _ 6 _)
    · have HD : Hid (dCtr st s.data.toList = none) := ctr_no hx hn
      have hn' : ((xs.length : Int) != 1) = true := by simp; omega
      clear hx hbd
      go_wp2
      go_ret
      exact ⟨.inr ⟨HD.out, rfl⟩, HF.out⟩
  · have HD : Hid (dCtr st s.data.toList = none) := by show _ = _; unfold dCtr; rw [hx]
    clear hx
    go_wp2
    go_ret
    exact ⟨.inr ⟨HD.out, rfl⟩, HF.out⟩
end Go.Proofs.YtaojoamldoofpaaGreatDoor.Rm
