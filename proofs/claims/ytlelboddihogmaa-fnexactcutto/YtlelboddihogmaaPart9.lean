/-
  Contracts that the proof leans on, put together in the order in which they build.
-/
import Derived.Test.YtlelboddihogmaaPart6
import Derived.Test.YtlelboddihogmaaPart8
import Derived.Deep.AppendLies
import Derived.Deep.RegionHeldLaw
import Derived.Deep.RegionWith
import Derived.Laws.Cover3
import Derived.Test.YtlelboddihogmaaPart1
import Derived.Deep.RegionLaw
import Derived.Deep.Upon
import Derived.Test.YtlelboddihogmaaPart2
import Derived.Shelf.LaysM
import Derived.Shelf.Strconv.Clone
import Derived.Ground.Names2Prog
import Derived.Shelf.Slices.Clone
import Derived.Ground.SlgnProg
import Derived.Shelf.SlicesE.Clone
import Derived.Test.YtlelboddihogmaaProg
/-
  TreeOk, LeafOf, Eval of the program and of the model.
-/
namespace Go.Proofs.Ytlelboddihogmaa.Tw
open Go.RowKit
open Go.Proofs.Ytlelboddihogmaa.Li (ret_bool ret_int below_none)
open Go.Proofs.Ytlelboddihogmaa.Tr Go.Proofs.Ytlelboddihogmaa.Tm Go.Proofs.Ytlelboddihogmaa.Bo Go.Proofs.Ytlelboddihogmaa.Bw

theorem pow_d (d : Nat) (hd : d ≤ 5) : wrap64 (2 ^ d) = ((2 ^ d : Nat) : Int) := by
  match d, hd with
  | 0, _ => decide +kernel
  | 1, _ => decide +kernel
  | 2, _ => decide +kernel
  | 3, _ => decide +kernel
  | 4, _ => decide +kernel
  | 5, _ => decide +kernel
theorem below_box {w : World} {o : Obj} {n : Nat} : Below w.heap.size w ((w.alloc o).drewN n) := ((Below.refl _ _).alloc (Nat.le_refl _) _).trans ((below_drewN' _ _).mono (by simp))
theorem btw5 (x : Int) (y : Int) : spok (x, y) = (Li.btw x 0 5 && fok y) := by simp [spok, Li.btw]
set_option maxHeartbeats 1000000 in
theorem stok (w : World) (a a' : Option Addr) (c c' : Nat) (t : T) (hp : IsP w a t.sp) (hx : Li.IsL w a' t.lv) (hl : t.sp.length + t.lv.length ≤ 1048576) :
    Calls Try.prog 34 #[.agg #[.slice a t.sp.length c, .slice a' t.lv.length c']] w fun e w' => e = .returned (.bool (tok t)) ∧ Below w.heap.size w w' := by
  by_cases h4 : 4 < t.sp.length
  · have hd : decide (4 < (t.sp.length : Int)) = true := by simp; omega
    rw [tok_long h4]
    go_enter Try.func34, Try.ntmps34
    go_wp2
    go_quiet (fail)
    go_wp2
    go_ret
    exact ⟨rfl, below_box⟩
  have hd : decide (4 < (t.sp.length : Int)) = false := by simp; omega
  have hpw := pow_d t.sp.length (by omega)
  by_cases h2 : t.lv.length = 2 ^ t.sp.length
  · have hne : ((t.lv.length : Int) != wrap64 (2 ^ t.sp.length)) = false := by rw [hpw, h2]; simp
    have H2 : Hid (t.lv.length = 2 ^ t.sp.length) := h2
    clear hpw h2
    go_enter Try.func34, Try.ntmps34
    go_wp2
    go_quiet (fail)
    go_wp2
    have hB0 : Below w.heap.size w ((w.alloc (.cells #[.slice a t.sp.length c, .slice a' t.lv.length c'] 53)).drewN nq) := below_box
    have bx : Box2 ((w.alloc (.cells #[.slice a t.sp.length c, .slice a' t.lv.length c'] 53)).drewN nq) w.heap.size _ _ := (box2_new w (.slice a t.sp.length c) (.slice a' t.lv.length c') 53).drewN nq
    have hp := hp.below hB0
    have hx := hx.below hB0
    obtain ⟨W, hW⟩ : ∃ W, (w.alloc (.cells #[.slice a t.sp.length c, .slice a' t.lv.length c'] 53)).drewN nq = W := ⟨_, rfl⟩
    rw [hW] at hB0 bx hp hx ⊢
    obtain ⟨hbl, ⟨cx0, cx1⟩, _⟩ := bx
    clear hW
    go_loop [3] (fun i => ∃ k : Nat, k ≤ t.sp.length ∧ i = .int .i64 k ∧ ∀ j (hj : j < t.sp.length), j < k → spok t.sp[j] = true) (fun i => t.sp.length - (intOf i).toNat)
    case atStart => exact ⟨0, Nat.zero_le _, rfl, fun j hj h => by omega⟩
    case round =>
      obtain ⟨k, hk, rfl, hn⟩ := hrel
      have HN : Hid (∀ j (hj : j < t.sp.length), j < k → spok t.sp[j] = true) := hn
      clear hn
      by_cases hlt : k < t.sp.length
      · rcases hp with h0 | ⟨b, off, rfl, hb, hc⟩
        · rw [h0] at hlt; simp at hlt
        obtain ⟨cy0, cy1⟩ := hc k hlt
        clear hc
        have hbt := btw5 t.sp[k].1 t.sp[k].2
        cases hv1 : Li.btw t.sp[k].1 0 5 with
        | false =>
          have HR : Hid (tok t = false) := tok_bad hlt (by rw [hv1] at hbt; exact hbt)
          clear hbt
          go_wp2_with (go_at_call 31; refine (Li.between_any _ _ _ _).mono ?_; rintro e w' ⟨rfl, hw⟩; subst w'; rw [hv1])
          go_ret
          exact ⟨ret_bool HR.out.symm, hB0⟩
        | true =>
          cases hv2 : fok t.sp[k].2 with
          | false =>
            have HR : Hid (tok t = false) := tok_bad hlt (by rw [hv1, hv2] at hbt; exact hbt)
            clear hbt
            go_wp2_with (first | (go_at_call 31; refine (Li.between_any _ _ _ _).mono ?_; rintro e w' ⟨rfl, hw⟩; subst w'; rw [hv1]) | (go_at_call 32; refine (sok _ _).mono ?_; rintro e w' ⟨rfl, hw⟩; subst w'; rw [hv2]))
            go_ret
            exact ⟨ret_bool HR.out.symm, hB0⟩
          | true =>
            have HR : Hid (∀ j (hj : j < t.sp.length), j < k + 1 → spok t.sp[j] = true) := fun j hj h => by
              by_cases e : j = k
              · subst e; rw [hv1, hv2] at hbt; exact hbt
              · exact HN.out j hj (by omega)
            clear hbt
            go_wp2_with (first | (go_at_call 31; refine (Li.between_any _ _ _ _).mono ?_; rintro e w' ⟨rfl, hw⟩; subst w'; rw [hv1]) | (go_at_call 32; refine (sok _ _).mono ?_; rintro e w' ⟨rfl, hw⟩; subst w'; rw [hv2]))
            go_round
            case rel => exact ⟨k + 1, by omega, by go_num, HR.out⟩
            case measure => simp [intOf]; omega
      · have HS : Hid (∀ j (hj : j < t.sp.length), spok t.sp[j] = true) := fun j hj => HN.out j hj (by omega)
        clear HN
        go_wp2
        go_loop [4] (fun i => ∃ k : Nat, k ≤ t.lv.length ∧ i = .int .i64 k ∧ ∀ j (hj : j < t.lv.length), j < k → fok t.lv[j] = true) (fun i => t.lv.length - (intOf i).toNat)
        case atStart => exact ⟨0, Nat.zero_le _, rfl, fun j hj h => by omega⟩
        case round =>
          obtain ⟨k, hk, rfl, hn⟩ := hrel
          have HN : Hid (∀ j (hj : j < t.lv.length), j < k → fok t.lv[j] = true) := hn
          clear hn
          by_cases hlt : k < t.lv.length
          · rcases hx with h0 | ⟨b, off, rfl, hb, hc⟩
            · rw [h0] at hlt; simp at hlt
            have hcx := hc k hlt
            clear hc
            cases hv : fok t.lv[k] with
            | false =>
              have HR : Hid (tok t = false) := tok_leaf (aok_no hlt hv)
              go_wp2_with (go_at_call 32; refine (sok _ _).mono ?_; rintro e w' ⟨rfl, hw⟩; subst w'; rw [hv])
              go_ret
              exact ⟨ret_bool HR.out.symm, hB0⟩
            | true =>
              have HR : Hid (∀ j (hj : j < t.lv.length), j < k + 1 → fok t.lv[j] = true) := fun j hj h => by
                by_cases e : j = k
                · subst e; exact hv
                · exact HN.out j hj (by omega)
              go_wp2_with (go_at_call 32; refine (sok _ _).mono ?_; rintro e w' ⟨rfl, hw⟩; subst w'; rw [hv])
              go_round
              case rel => exact ⟨k + 1, by omega, by go_num, HR.out⟩
              case measure => simp [intOf]; omega
          · have HR : Hid (tok t = true) := tok_all (by omega) H2.out HS.out (aok_to (fun j hj => HN.out j hj (by omega)))
            go_wp2
            go_ret
            exact ⟨ret_bool HR.out.symm, hB0⟩
  · have hne : ((t.lv.length : Int) != wrap64 (2 ^ t.sp.length)) = true := by rw [hpw]; exact bne_iff_ne.2 (fun e => h2 (Int.ofNat_inj.1 e))
    rw [tok_leaves h2]
    clear hpw h2
    go_enter Try.func34, Try.ntmps34
    go_wp2
    go_quiet (fail)
    go_wp2
    go_ret
    exact ⟨rfl, below_box⟩
set_option maxHeartbeats 400000 in
theorem ifeat (x : Int) (w : World) : Calls Try.prog 79 #[.int .i64 x] w fun e w' => e = .returned (.bool (Li.btw x 0 5)) ∧ w' = w := by
  go_enter Try.func79, Try.ntmps79
  go_wp2
  all_goals go_ret
  all_goals refine ⟨ret_bool ?_, rfl⟩
  all_goals unfold Li.btw
  all_goals simp
  all_goals first | omega | (rw [Bool.eq_iff_iff]; simp; omega)
set_option maxHeartbeats 400000 in
theorem isplit (x y : Int) (w : World) : Calls Try.prog 72 #[.agg #[.int .i64 x, .int .i64 y]] w fun e w' => e = .returned (.bool (spok (x, y))) ∧ Below w.heap.size w w' := by
  rw [btw5]
  cases h1 : Li.btw x 0 5 with
  | false =>
    go_enter Try.func72, Try.ntmps72
    go_wp2_with (first | (go_at_call 79; refine (ifeat _ _).mono ?_; rintro e w' ⟨rfl, hw⟩; subst w'; rw [h1]) | (go_at_call 41; refine (iok _ _).mono ?_; rintro e w' ⟨rfl, hw⟩; subst w'))
    go_ret
    exact ⟨rfl, (Below.refl _ _).alloc (Nat.le_refl _) _⟩
  | true =>
    go_enter Try.func72, Try.ntmps72
    go_wp2_with (first | (go_at_call 79; refine (ifeat _ _).mono ?_; rintro e w' ⟨rfl, hw⟩; subst w'; rw [h1]) | (go_at_call 41; refine (iok _ _).mono ?_; rintro e w' ⟨rfl, hw⟩; subst w'))
    go_ret
    exact ⟨rfl, (Below.refl _ _).alloc (Nat.le_refl _) _⟩
set_option maxHeartbeats 1000000 in
theorem itok (w : World) (a a' : Option Addr) (c c' : Nat) (t : T) (hp : IsP w a t.sp) (hx : Li.IsL w a' t.lv) (hl : t.sp.length + t.lv.length ≤ 1048576) :
    Calls Try.prog 63 #[.agg #[.slice a t.sp.length c, .slice a' t.lv.length c']] w fun e w' => e = .returned (.bool (tok t)) ∧ Below w.heap.size w w' := by
  by_cases h4 : 4 < t.sp.length
  · have hd : decide (4 < (t.sp.length : Int)) = true := by simp; omega
    rw [tok_long h4]
    go_enter Try.func63, Try.ntmps63
    go_wp2
    go_quiet (fail)
    go_wp2
    go_ret
    exact ⟨rfl, below_box⟩
  have hd : decide (4 < (t.sp.length : Int)) = false := by simp; omega
  have hpw := pow_d t.sp.length (by omega)
  by_cases h2 : t.lv.length = 2 ^ t.sp.length
  · have hne : ((t.lv.length : Int) != wrap64 (2 ^ t.sp.length)) = false := by rw [hpw, h2]; simp
    have H2 : Hid (t.lv.length = 2 ^ t.sp.length) := h2
    clear hpw h2
    go_enter Try.func63, Try.ntmps63
    go_wp2
    go_quiet (fail)
    go_wp2
    have hB0 : Below w.heap.size w ((w.alloc (.cells #[.slice a t.sp.length c, .slice a' t.lv.length c'] 53)).drewN nq) := below_box
    have bx : Box2 ((w.alloc (.cells #[.slice a t.sp.length c, .slice a' t.lv.length c'] 53)).drewN nq) w.heap.size _ _ := (box2_new w (.slice a t.sp.length c) (.slice a' t.lv.length c') 53).drewN nq
    have hp := hp.below hB0
    have hx := hx.below hB0
    obtain ⟨W, hW⟩ : ∃ W, (w.alloc (.cells #[.slice a t.sp.length c, .slice a' t.lv.length c'] 53)).drewN nq = W := ⟨_, rfl⟩
    rw [hW] at hB0 bx hp hx ⊢
    clear hW
    go_loopw [22] (fun i wr => ∃ k : Nat, k ≤ t.sp.length ∧ i = .int .i64 k ∧ (∀ j (hj : j < t.sp.length), j < k → spok t.sp[j] = true) ∧ Below W.heap.size W wr) (fun i _ => t.sp.length - (intOf i).toNat)
    case atStart => exact ⟨0, Nat.zero_le _, rfl, fun j hj h => by omega, Below.refl _ _⟩
    case round =>
      obtain ⟨k, hk, rfl, hn, hB⟩ := hrel
      have HN : Hid (∀ j (hj : j < t.sp.length), j < k → spok t.sp[j] = true) := hn
      clear hn
      have hbw := hB0.trans (hB.mono hB0.size)
      by_cases hlt : k < t.sp.length
      · rcases hp.below hB with h0 | ⟨b, off, rfl, hb, hc⟩
        · rw [h0] at hlt; simp at hlt
        obtain ⟨cy0, cy1⟩ := hc k hlt
        clear hc
        have hs := hbw.size
        have hs' := hB.size
        go_wp2_with fail
        refine (isplit _ _ _).mono ?_
        rintro e w2 ⟨rfl, hB2⟩
        have hB2 : Below W.heap.size W w2 := (hB.alloc hB.size _).trans (hB2.mono (by simp; omega))
        have hbw := hB0.trans (hB2.mono hB0.size)
        cases hv : spok t.sp[k] with
        | false =>
          have HR : Hid (tok t = false) := tok_bad hlt hv
          go_wp2
          go_ret
          exact ⟨ret_bool HR.out.symm, hbw⟩
        | true =>
          have HR : Hid (∀ j (hj : j < t.sp.length), j < k + 1 → spok t.sp[j] = true) := fun j hj h => by
            by_cases e : j = k
            · subst e; exact hv
            · exact HN.out j hj (by omega)
          go_wp2
          go_roundw
          case rel => exact ⟨k + 1, by omega, by go_num, HR.out, hB2⟩
          case measure => simp [intOf]; omega
      · have HS : Hid (∀ j (hj : j < t.sp.length), spok t.sp[j] = true) := fun j hj => HN.out j hj (by omega)
        obtain ⟨hbl, ⟨cx0, cx1⟩, _⟩ := bx.below hB
        clear HN
        go_wp2_with fail
        refine (iall _ _ _ t.lv (hx.below hB) (by omega)).mono ?_
        rintro e w2 ⟨rfl, hw⟩
        subst w2
        have HR : Hid (tok t = aok t.lv) := by
          show _ = _
          cases e : aok t.lv with
          | false => exact tok_leaf e
          | true => exact tok_all (by omega) H2.out HS.out e
        go_wp2
        go_ret
        exact ⟨ret_bool HR.out.symm, hbw⟩
  · have hne : ((t.lv.length : Int) != wrap64 (2 ^ t.sp.length)) = true := by rw [hpw]; exact bne_iff_ne.2 (fun e => h2 (Int.ofNat_inj.1 e))
    rw [tok_leaves h2]
    clear hpw h2
    go_enter Try.func63, Try.ntmps63
    go_wp2
    go_quiet (fail)
    go_wp2
    go_ret
    exact ⟨rfl, below_box⟩
end Go.Proofs.Ytlelboddihogmaa.Tw
/-
  Copies of a tree: slices.Clone of questions, the model's l06Copy; where bits i and i + 1 go.
-/
namespace Go.Proofs.Ytlelboddihogmaa.Fw
open Go.RowKit
open Go.Proofs.Ytlelboddihogmaa.Li (ret_bool ret_int below_none)
open Go.Proofs.Ytlelboddihogmaa.Tr Go.Proofs.Ytlelboddihogmaa.Tm
set_option linter.unusedVariables false

theorem pv_one (ps : List (Int × Int)) : ∀ u ∈ pv ps, u.oneCell' = true := by
  induction ps with
  | nil => intro u hu; simp [pv] at hu
  | cons p ps ih =>
    intro u hu
    simp only [pv, List.mem_cons] at hu
    rcases hu with rfl | rfl | hu
    · rfl
    · rfl
    · exact ih u hu
/-- What questions read as, for an append of all of them. -/
theorem news_p {w : World} {b off : Nat} {ps : List (Int × Int)} (h : ∀ j (hj : j < ps.length), w.cell? ⟨b, off + j * 2, none⟩ = some (.int .i64 ps[j].1) ∧ w.cell? ⟨b, off + j * 2 + 1, none⟩ = some (.int .i64 ps[j].2)) : ∀ j u, (pv ps)[j]? = some u → w.cell? ((⟨b, off, none⟩ : Addr).add j) = some u := by
  intro j u hj
  have hlt : j < ps.length * 2 := by
    apply Classical.byContradiction
    intro hn
    rw [List.getElem?_eq_none (by rw [pv_length]; omega)] at hj
    cases hj
  rw [Go.WideShapes.add_plain]
  have hc := h (j / 2) (by omega)
  have hp := pv_get ps (j / 2) (by omega)
  rcases Nat.mod_two_eq_zero_or_one j with e | e
  · rw [show j / 2 * 2 = j by omega] at hp hc
    rw [hp.1] at hj
    rw [hc.1, ← hj]
  · have e2 : j / 2 * 2 + 1 = j := by omega
    have e3 : off + j / 2 * 2 + 1 = off + j := by omega
    rw [e2] at hp
    rw [e3] at hc
    rw [hp.2] at hj
    rw [hc.2, ← hj]
theorem ownP_cat {w : World} {base n : Nat} {v : Value} {ps : List (Int × Int)} (h : w.ownsRow base 80 2 v (0 + n) ([] ++ pv ps)) (hn : ps.length = n) : OwnP w base v ps := by
  subst hn
  rw [Nat.zero_add, List.nil_append] at h
  exact h
theorem own_cat0 {w : World} {base n : Nat} {v : Value} {ps : List Int} (h : w.ownsRow base 3 1 v (0 + n) ([] ++ Li.iv ps)) (hn : ps.length = n) : Li.Own w base v ps := by
  subst hn
  rw [Nat.zero_add, List.nil_append] at h
  exact h
theorem emptyP (w : World) (base : Nat) (hb : base ≤ w.heap.size) : (w.alloc (.cells #[] 80)).ownsRow base 80 2 (.slice (some ⟨w.heap.size, 0, none⟩) 0 0) 0 [] :=
  World.ownsRow_made w #[] 0 hb (by unfold maxLen; omega) (by simp)
theorem news_q {w : World} {b off : Nat} {ps : List (Int × Int)} (h : IsP w (some ⟨b, off, none⟩) ps) (h0 : 0 < ps.length) : ∀ j u, (pv ps)[j]? = some u → w.cell? ((⟨b, off, none⟩ : Addr).add j) = some u := by
  rcases h with h | ⟨b', off', e, _, hc⟩
  · rw [h] at h0; simp at h0
  · cases e; exact news_p hc
theorem bA1 (W : World) (o : Obj) : Below W.heap.size W (W.alloc o).drew := ((Below.refl _ W).alloc (Nat.le_refl _) o).drew
theorem bA2 (W : World) (o o' : Obj) : Below W.heap.size W ((W.alloc o).alloc o').drew := (((Below.refl _ W).alloc (Nat.le_refl _) o).alloc (by simp) o').drew
theorem bA3 (W : World) (o o' : Obj) : Below W.heap.size W ((W.alloc o).alloc o') := ((Below.refl _ W).alloc (Nat.le_refl _) o).alloc (by simp) o'
theorem emptyP' (w : World) (base H : Nat) (hb : base ≤ w.heap.size) (hH : w.heap.size = H) : (w.alloc (.cells #[] 80)).ownsRow base 80 2 (.slice (some ⟨H, 0, none⟩) 0 0) 0 [] := by subst hH; exact emptyP w base hb
theorem emptyI' (w : World) (base H : Nat) (hb : base ≤ w.heap.size) (hH : w.heap.size = H) : Li.Own (w.alloc (.cells #[] 3)) base (.slice (some ⟨H, 0, none⟩) 0 0) [] := by subst hH; exact Ai.own_empty w base hb
theorem eql_nil {P : Program} (w : World) (t e : TypeId) (a : Addr) (l c : Nat) (h : P.underlying t = some (.slice e)) : (binOp .eql t (.slice (some a) l c) (.slice none 0 0)).run P w = .ok (.bool false) w := by
  simp only [binOp]
  simp [run_equal_slice_nil w t e (some a) l c h]
set_option maxRecDepth 100000 in
set_option maxHeartbeats 1000000 in
theorem iclone (w : World) (a : Option Addr) (c : Nat) (ps : List (Int × Int)) (hp : IsP w a ps) (h0 : 0 < ps.length) (hl : ps.length ≤ 1048576) :
    Calls Try.prog 46 #[.slice a ps.length c] w fun e w' => ∃ g cap, e = .returned (.slice (some ⟨g, 0, none⟩) ps.length cap) ∧ OwnP w' w.heap.size (.slice (some ⟨g, 0, none⟩) ps.length cap) ps ∧ Below w.heap.size w w' := by
  obtain ⟨i0, hi, hz0, hz1, hz2⟩ := info_parts info_spl
  rcases hp with h1 | ⟨b, off, rfl, hb, hc⟩
  · rw [h1] at h0; simp at h0
  have hB0 : Below w.heap.size w (w.alloc (.cells #[] 80)) := (Below.refl _ _).alloc (Nat.le_refl _) _
  go_enter Try.func46, Try.ntmps46
  have hnil : ∀ w0 : World, Sem.run Try.prog (binOp .eql 51 (.slice (some ⟨b, off, none⟩) ps.length c) (.slice none 0 0)) w0 = .ok (.bool false) w0 := fun w0 => eql_nil w0 _ _ _ _ _ Try.underlying51
  go_wp2_with (at_builtin; refine wpList_append_lies _ rfl _ _ 51 rfl w.heap.size 80 i0 (.agg #[.int .i64 0, .int .i64 0]) 2 16 Try.underlying51 hi hz0 hz1 hz2 rfl (by decide) (.slice (some ⟨w.heap.size, 0, none⟩) 0 0) 0 [] rfl (emptyP w _ (Nat.le_refl _)) ⟨b, off, none⟩ ps.length c (pv ps) rfl (by rw [pv_length]) (news_p (fun j hj => ⟨(hB0.cell (by exact hb)).trans (hc j hj).1, (hB0.cell (by exact hb)).trans (hc j hj).2⟩)) (pv_one _) h0 (by unfold maxLen; omega) (by omega) (by simp) _ rfl ?_)
  intro g cap w1 hown hgrow _ _
  have ho : OwnP w1 w.heap.size (.slice (some ⟨g, 0, none⟩) ps.length cap) ps := by first | exact ownP_cat hown rfl | exact hown
  have hB1 : Below w.heap.size w w1 := Ai.below_app hB0 (by simp) hgrow (fun k hk => by simp [Value.ownBlock] at hk; omega)
  clear hown hgrow
  go_wp2
  go_ret
  refine ⟨g, cap, by simp, ho, hB1⟩
set_option maxHeartbeats 4000000 in
theorem scopy (w : World) (a a' : Option Addr) (c c' : Nat) (t : T) (hp : IsP w a t.sp) (hx : Li.IsL w a' t.lv) (h0 : 0 < t.sp.length) (h1 : 0 < t.lv.length) (hl : t.sp.length + t.lv.length ≤ 1048576) :
    Calls Try.prog 36 #[.agg #[.slice a t.sp.length c, .slice a' t.lv.length c']] w fun e w' => ∃ g0 c0 g1 c1, e = .returned (.agg #[.slice (some ⟨g0, 0, none⟩) t.sp.length c0, .slice (some ⟨g1, 0, none⟩) t.lv.length c1]) ∧ OwnP w' w.heap.size (.slice (some ⟨g0, 0, none⟩) t.sp.length c0) t.sp ∧ Li.Own w' w.heap.size (.slice (some ⟨g1, 0, none⟩) t.lv.length c1) t.lv ∧ Apt (.slice (some ⟨g0, 0, none⟩) t.sp.length c0) (.slice (some ⟨g1, 0, none⟩) t.lv.length c1) ∧ Below w.heap.size w w' := by
  obtain ⟨i0, hi, hz0, hz1, hz2⟩ := info_parts info_spl
  obtain ⟨j0, hj, hy0, hy1, hy2⟩ := info_parts Li.info_int
  go_enter Try.func36, Try.ntmps36
  go_wp2_with fail
  obtain ⟨W, hW, hsz, hB, bx, br⟩ := boxes2 w (.slice a t.sp.length c) (.slice a' t.lv.length c') (.slice none 0 0) (.slice none 0 0) 53 53
  rw [hW]
  clear hW
  rcases hp.below hB with h2 | ⟨pb, po, rfl, hpb, hpc⟩
  · rw [h2] at h0; simp at h0
  rcases hx.below hB with h2 | ⟨xb, xo, rfl, hxb, hxc⟩
  · rw [h2] at h1; simp at h1
  obtain ⟨_, ⟨cx0, cx1⟩, _⟩ := id bx
  have hgt : w.heap.size + 1 < W.heap.size := by omega
  clear hsz
  have ix : Li.IsL W (some ⟨xb, xo, none⟩) t.lv := .inr ⟨xb, xo, rfl, hxb, hxc⟩
  have HX : Hid (Li.IsL W (some ⟨xb, xo, none⟩) t.lv) := ix
  have HP0 : Hid (IsP W (some ⟨pb, po, none⟩) t.sp) := .inr ⟨pb, po, rfl, hpb, hpc⟩
  have HBX : Hid (Box2 W w.heap.size (.slice (some ⟨pb, po, none⟩) t.sp.length c) (.slice (some ⟨xb, xo, none⟩) t.lv.length c')) := bx
  have HBR : Hid (Box2 W (w.heap.size + 1) (.slice none 0 0) (.slice none 0 0)) := br
  have HB : Hid (Below w.heap.size w W) := hB
  clear hpc hxc ix bx br hB hp hx
  go_region_held_law (fun w' => w'.cell? ⟨w.heap.size, 0, none⟩ = some (.slice (some ⟨pb, po, none⟩) t.sp.length c) ∧ w'.cell? ⟨w.heap.size, 1, none⟩ = some (.slice (some ⟨xb, xo, none⟩) t.lv.length c')) (go_keep) (first
    | (refine step_append_lies _ rfl _ _ 51 rfl W.heap.size 80 i0 (.agg #[.int .i64 0, .int .i64 0]) 2 16 Try.underlying51 hi hz0 hz1 hz2 rfl (by decide) (.slice (some ⟨_, 0, none⟩) 0 0) 0 [] rfl (by first | exact emptyP' W W.heap.size _ (Nat.le_refl _) rfl | exact World.ownsRow.alloc (emptyP' W W.heap.size _ (Nat.le_refl _) rfl) (.cells #[] 3) | exact emptyP' (W.alloc (.cells #[] 3)) W.heap.size _ (by simp) (by simp)) ⟨pb, po, none⟩ t.sp.length c (pv t.sp) rfl (by rw [pv_length]) (by first | exact news_q (HP0.out.below (bA1 _ _)) h0 | exact news_q (HP0.out.below (bA2 _ _ _)) h0 | exact news_q (HP0.out.below (bA3 _ _ _)) h0) (pv_one _) h0 (by unfold maxLen; omega) (by omega) (by first | omega | (simp; done) | (simp; omega)) _ rfl ?_
       intro g cap w5 hown hgrow hpos hglt
       have hB5 : Below W.heap.size W w5 := Ai.below_app (by first | exact bA1 _ _ | exact bA2 _ _ _ | exact bA3 _ _ _) (by first | omega | (simp; done) | (simp; omega)) hgrow (by intro k hk; simp [Value.ownBlock] at hk; omega)
       have HP : Hid (OwnP w5 W.heap.size (.slice (some ⟨g, 0, none⟩) t.sp.length cap) t.sp) := (by first | exact ownP_cat hown rfl | (rw [Nat.zero_add] at hown; exact hown))
       have hs5 := hB5.size
       obtain ⟨_, ⟨cy0, cy1⟩, _⟩ := HBX.out.below hB5
       have HPOS : Hid (type_of% hpos) := hpos
       clear hown hpos)
    | (refine step_append_lies _ rfl _ _ 47 rfl W.heap.size 3 j0 (.int .i64 0) 1 8 Try.underlying47 hj hy0 hy1 hy2 rfl (by decide) (.slice (some ⟨_, 0, none⟩) 0 0) 0 [] rfl (by first | exact emptyI' w5 W.heap.size _ hs5 rfl | exact World.ownsRow.kept (emptyI' (W.alloc (.cells #[] 80)) W.heap.size (W.heap.size + 1) (by simp) (by simp)) (Ai.grown_undrew hgrow) (.inr (by simp [Value.ownBlock])) | exact World.ownsRow.kept (World.ownsRow.alloc (emptyI' W W.heap.size W.heap.size (Nat.le_refl _) rfl) (.cells #[] 80)) (Ai.grown_undrew hgrow) (.inr (by simp [Value.ownBlock]))) ⟨xb, xo, none⟩ t.lv.length c' (Li.iv t.lv) rfl (by rw [Li.iv_length]; omega) (by first | exact Ai.news_i (HX.out.below hB5) | exact Ai.news_i (HX.out.below (hB5.alloc hs5 _))) (Li.iv_one _) h1 (by unfold maxLen; omega) (by omega) (by first | omega | (simp; done) | (simp; omega)) _ rfl ?_
       intro g' cap' w6 hown' hgrow' hpos' hglt'
       have hB6 : Below W.heap.size W w6 := Ai.below_app (by first | exact hB5 | exact hB5.alloc hs5 _) (by first | omega | (simp; done) | (simp; omega)) hgrow' (by intro k hk; simp [Value.ownBlock] at hk; omega)
       have HI : Hid (Li.Own w6 W.heap.size (.slice (some ⟨g', 0, none⟩) t.lv.length cap') t.lv) := (by first | exact own_cat0 hown' rfl | (rw [Nat.zero_add] at hown'; exact hown'))
       have hgg : ¬ g = g' := (by have h1 := HPOS.out; have h2 := hpos'; simp [Value.ownBlock] at h1 h2; omega)
       have HQ : Hid (OwnP w6 W.heap.size (.slice (some ⟨g, 0, none⟩) t.sp.length cap) t.sp) := (by first | exact HP.out.kept hgrow' (.inr (by have h1 := HPOS.out; simp [Value.ownBlock] at h1 ⊢; omega)) | exact OwnP.kept (World.ownsRow.alloc HP.out _) hgrow' (.inr (by have h1 := HPOS.out; simp [Value.ownBlock] at h1 ⊢; omega)))
       obtain ⟨_, ⟨cr0, cr1⟩, fr0, fr1⟩ := HBR.out.below hB6
       obtain ⟨_, ⟨cz0, cz1⟩, _⟩ := HBX.out.below hB6
       have hs6 := hB6.size
       clear hown' hpos'))
  all_goals
    have o0 := HQ.out
    have o1 := HI.out
    have hBB := HB.out.trans (hB6.mono HB.out.size)
    clear HQ HI HP hgrow hgrow' HPOS hB5 hB6 cy0 cy1 cz0 cz1
    go_wp2
    refine bodyPost_ret (v := .agg #[.slice (some ⟨g, 0, none⟩) t.sp.length cap, .slice (some ⟨g', 0, none⟩) t.lv.length cap']) (by rw [results_cell rfl]; go_simp) rfl ⟨_, _, _, _, rfl, ?_, ?_, apt_of (fun k e e' => hgg (by simp [Value.ownBlock] at e e'; omega)), ?_⟩
    · exact (ownP_off (ownP_off o0 (Li.grown_set _ _ _ _) (by omega)) (Li.grown_set _ _ _ _) (by omega)).mono (by omega)
    · exact (own_off (own_off o1 (Li.grown_set _ _ _ _) (by omega)) (Li.grown_set _ _ _ _) (by omega)).mono (by omega)
    · exact (hBB.setCell (by simp) _).setCell (by simp) _
end Go.Proofs.Ytlelboddihogmaa.Fw
/-
  append: a number, a text put behind a list of the call's own; a list that has just been made empty.
-/
namespace Go.Proofs.Ytlelboddihogmaa.Ap
open Go.RowKit
theorem one_cell (w : World) (T : TypeId) (x : Value) (_hx : x.oneCell' = true) : ∀ j u, ([x] : List Value)[j]? = some u → (w.alloc (.cells #[x] T)).cell? ((⟨w.heap.size, 0, none⟩ : Addr).add j) = some u := by
  intro j u hj
  match j, hj with
  | 0, hj => simp at hj; subst hj; simp [Addr.add]
theorem one_at {w : World} {T : TypeId} {x : Value} {H : Nat} (hx : x.oneCell' = true) (h : w.heap.size = H) : ∀ j u, ([x] : List Value)[j]? = some u → (w.alloc (.cells #[x] T)).cell? ((⟨H, 0, none⟩ : Addr).add j) = some u := by
  subst h; exact one_cell _ _ _ hx
theorem one_one (x : Value) (hx : x.oneCell' = true) : ∀ u ∈ ([x] : List Value), u.oneCell' = true := by
  intro u hu; simp at hu; subst hu; exact hx
theorem own_snoc {w : World} {base n : Nat} {v : Value} {l : List Int} {x : Int} (hn : l.length = n) (h : w.ownsRow base 3 1 v (n + 1) (Li.iv l ++ [.int .i64 x])) : Li.Own w base v (l ++ [x]) := by
  subst hn
  unfold Li.Own
  rw [← Li.iv_append, List.length_append]
  exact h
theorem own_empty (w : World) (base : Nat) (hb : base ≤ w.heap.size) : Li.Own (w.alloc (.cells #[] 3)) base (.slice (some ⟨w.heap.size, 0, none⟩) 0 0) [] :=
  World.ownsRow_made w #[] 0 hb (by unfold maxLen; omega) (by simp)
theorem sown_snoc {w : World} {base n : Nat} {v : Value} {l : List ByteArray} {x : ByteArray} (hn : l.length = n) (h : w.ownsRow base 9 1 v (n + 1) (Ls.sv l ++ [.string x])) : Ls.Own w base v (l ++ [x]) := by
  subst hn
  unfold Ls.Own
  rw [← Ls.sv_append, List.length_append]
  exact h
theorem sown_empty (w : World) (base : Nat) (hb : base ≤ w.heap.size) : Ls.Own (w.alloc (.cells #[] 9)) base (.slice (some ⟨w.heap.size, 0, none⟩) 0 0) [] :=
  World.ownsRow_made w #[] 0 hb (by unfold maxLen; omega) (by simp)
/-- What grows in the call's own blocks turns nothing below. -/
theorem below_app {w wr w1 : World} {B : Nat} {r : Option Nat} (hB : Below B w wr) (hs : B ≤ wr.heap.size) (hg : wr.grownBy w1 r) (hr : ∀ k, r = some k → B ≤ k) : Below B w w1 :=
  hB.trans ⟨hg.os, hg.tape, hg.output, hg.size, fun k hk => hg.block k (by omega) (fun e => by have := hr k e.symm; omega)⟩
theorem grown_undrew {w w1 : World} {r : Option Nat} (h : w.drew.grownBy w1 r) : w.grownBy w1 r := ⟨h.os, h.tape, h.output, h.size, h.block⟩
/-- What a list reads as, for an append of all of it. -/
theorem news_i {w : World} {ad : Addr} {xs : List Int} (h : Li.IsL w (some ad) xs) : ∀ j u, (Li.iv xs)[j]? = some u → w.cell? (ad.add j) = some u := by
  intro j u hj
  rcases h with rfl | ⟨b, off, e, _, hc⟩
  · simp [Li.iv] at hj
  · cases e
    have hlt : j < xs.length := by
      apply Classical.byContradiction
      intro hn
      rw [List.getElem?_eq_none (by rw [Li.iv_length]; omega)] at hj
      cases hj
    rw [Li.iv_get xs j hlt] at hj
    rw [Go.WideShapes.add_plain, hc j hlt, hj]
theorem news_s {w : World} {ad : Addr} {xs : List ByteArray} (h : Ls.IsS w (some ad) xs) : ∀ j u, (Ls.sv xs)[j]? = some u → w.cell? (ad.add j) = some u := by
  intro j u hj
  rcases h with rfl | ⟨b, off, e, _, hc⟩
  · simp [Ls.sv] at hj
  · cases e
    have hlt : j < xs.length := by
      apply Classical.byContradiction
      intro hn
      rw [List.getElem?_eq_none (by rw [Ls.sv_length]; omega)] at hj
      cases hj
    rw [Ls.sv_get xs j hlt] at hj
    rw [Go.WideShapes.add_plain, hc j hlt, hj]
theorem own_all {w : World} {base : Nat} {v : Value} {xs : List Int} (h : w.ownsRow base 3 1 v (0 + xs.length) ([] ++ Li.iv xs)) : Li.Own w base v xs := by
  unfold Li.Own
  simpa using h
theorem sown_all {w : World} {base : Nat} {v : Value} {xs : List ByteArray} (h : w.ownsRow base 9 1 v (0 + xs.length) ([] ++ Ls.sv xs)) : Ls.Own w base v xs := by
  unfold Ls.Own
  simpa using h
end Go.Proofs.Ytlelboddihogmaa.Ap
/-
  Copies of lists: slices.Clone at every list; append onto a list that has just been made empty.
-/
namespace Go.Proofs.Ytlelboddihogmaa.Ct
set_option maxRecDepth 20000
open Go.RowKit
open Go.Proofs.Ytlelboddihogmaa.Tm (IsP OwnP pv pv_length)
open Go.Proofs.Ytlelboddihogmaa.Li (IsL iv)
set_option linter.unusedVariables false
def ri (xs : List Int) : Rw := ⟨3, 1, xs.length, iv xs⟩
def rs (xs : List ByteArray) : Rw := ⟨9, 1, xs.length, Ls.sv xs⟩
def rp (xs : List (Int × Int)) : Rw := ⟨80, 2, xs.length, pv xs⟩
theorem eql_nil0 {P : Program} (w : World) (t e : TypeId) (l c : Nat) (h : P.underlying t = some (.slice e)) : (binOp .eql t (.slice none l c) (.slice none 0 0)).run P w = .ok (.bool true) w := by
  simp only [binOp]
  simp [run_equal_slice_nil w t e none l c h]
set_option maxHeartbeats 1000000 in
theorem cloneI (w : World) (a : Option Addr) (c : Nat) (xs : List Int) (hx : IsL w a xs) (hl : xs.length ≤ 1048576) :
    Calls Try.prog 44 #[.slice a xs.length c] w fun e w' => ∃ b d, e = .returned (.slice b xs.length d) ∧ Ow w' w.heap.size (.slice b xs.length d) (ri xs) ∧ Below w.heap.size w w' := by
  obtain ⟨i0, hi, hz0, hz1, hz2⟩ := info_parts Li.info_int
  cases a with
  | none =>
    have h0 : xs = [] := by
      rcases hx with h | ⟨b, off, e, _⟩
      · exact h
      · cases e
    subst h0
    have hnil : ∀ w0 : World, Sem.run Try.prog (binOp .eql 47 (.slice none 0 c) (.slice none 0 0)) w0 = .ok (.bool true) w0 := fun w0 => eql_nil0 w0 _ _ _ _ Try.underlying47
    go_enter Try.func44, Try.ntmps44
    go_wp2
    go_ret
    exact ⟨none, 0, rfl, World.ownsRow_nil _ _ _ _, Below.refl _ _⟩
  | some x =>
    have hnil : ∀ w0 : World, Sem.run Try.prog (binOp .eql 47 (.slice (some x) xs.length c) (.slice none 0 0)) w0 = .ok (.bool false) w0 := fun w0 => Fw.eql_nil w0 _ _ _ _ _ Try.underlying47
    have hB0 : Below w.heap.size w (w.alloc (.cells #[] 3)) := (Below.refl _ _).alloc (Nat.le_refl _) _
    by_cases h0 : xs.length = 0
    · obtain rfl : xs = [] := List.length_eq_zero_iff.1 h0
      clear h0 hnil
      have hnil : ∀ w0 : World, Sem.run Try.prog (binOp .eql 47 (.slice (some x) 0 c) (.slice none 0 0)) w0 = .ok (.bool false) w0 := fun w0 => Fw.eql_nil w0 _ _ _ _ _ Try.underlying47
      have ho := ow_new w 3 1
      go_enter Try.func44, Try.ntmps44
      go_wp2
      go_ret
      exact ⟨_, _, rfl, ho, hB0⟩
    · have h0 : 0 < xs.length := by omega
      go_enter Try.func44, Try.ntmps44
      go_wp2_with (at_builtin; refine wpList_append_lies _ rfl _ _ 47 rfl w.heap.size 3 i0 (.int .i64 0) 1 8 Try.underlying47 hi hz0 hz1 hz2 rfl (by decide) (.slice (some ⟨w.heap.size, 0, none⟩) 0 0) 0 [] rfl (Ai.own_empty w _ (Nat.le_refl _)) x xs.length c (iv xs) rfl (by rw [Li.iv_length]; omega) (Ai.news_i (hx.below hB0)) (Li.iv_one _) h0 (by unfold maxLen; omega) (by omega) (by simp) _ rfl ?_)
      intro g cap w1 hown hgrow _ _
      have ho : Ow w1 w.heap.size (.slice (some ⟨g, 0, none⟩) xs.length cap) (ri xs) := by
        first | exact hown | (rw [Nat.zero_add, List.nil_append] at hown; exact hown)
      have hB1 : Below w.heap.size w w1 := Ai.below_app hB0 (by simp) hgrow (fun k hk => by simp [Value.ownBlock] at hk; omega)
      clear hown hgrow
      go_wp2
      go_ret
      exact ⟨some ⟨g, 0, none⟩, cap, by simp, ho, hB1⟩
set_option maxHeartbeats 1000000 in
theorem cloneP (w : World) (a : Option Addr) (c : Nat) (ps : List (Int × Int)) (hx : IsP w a ps) (hl : ps.length ≤ 1048576) :
    Calls Try.prog 46 #[.slice a ps.length c] w fun e w' => ∃ b d, e = .returned (.slice b ps.length d) ∧ Ow w' w.heap.size (.slice b ps.length d) (rp ps) ∧ Below w.heap.size w w' := by
  cases a with
  | none =>
    have h0 : ps = [] := by
      rcases hx with h | ⟨b, off, e, _⟩
      · exact h
      · cases e
    subst h0
    have hnil : ∀ w0 : World, Sem.run Try.prog (binOp .eql 51 (.slice none 0 c) (.slice none 0 0)) w0 = .ok (.bool true) w0 := fun w0 => eql_nil0 w0 _ _ _ _ Try.underlying51
    go_enter Try.func46, Try.ntmps46
    go_wp2
    go_ret
    exact ⟨none, 0, rfl, World.ownsRow_nil _ _ _ _, Below.refl _ _⟩
  | some x =>
    by_cases h0 : ps.length = 0
    · obtain rfl : ps = [] := List.length_eq_zero_iff.1 h0
      clear h0
      have hnil : ∀ w0 : World, Sem.run Try.prog (binOp .eql 51 (.slice (some x) 0 c) (.slice none 0 0)) w0 = .ok (.bool false) w0 := fun w0 => Fw.eql_nil w0 _ _ _ _ _ Try.underlying51
      have ho := ow_new w 80 2
      have hB0 : Below w.heap.size w (w.alloc (.cells #[] 80)) := (Below.refl _ _).alloc (Nat.le_refl _) _
      go_enter Try.func46, Try.ntmps46
      go_wp2
      go_ret
      exact ⟨_, _, rfl, ho, hB0⟩
    · refine (Fw.iclone w (some x) c ps hx (by omega) hl).mono ?_
      rintro e w' ⟨g, cap, rfl, ho, hB⟩
      exact ⟨some ⟨g, 0, none⟩, cap, rfl, ho, hB⟩
/-- A list of cells that is read from an address, or none at all. -/
def Src (w : World) (ad : Option Addr) (n sz : Nat) (xs : List Value) : Prop := xs.length = n * sz ∧ (∀ u ∈ xs, u.oneCell' = true) ∧ (ad = none → n = 0) ∧ ∀ x, ad = some x → ∀ j u, xs[j]? = some u → w.cell? (x.add j) = some u
theorem src_s {w : World} {ad : Option Addr} {xs : List ByteArray} (h : Ls.IsS w ad xs) : Src w ad xs.length 1 (Ls.sv xs) := by
  refine ⟨by rw [Ls.sv_length]; omega, Ls.sv_one _, fun e => ?_, fun x e => ?_⟩
  · subst e
    rcases h with h | ⟨b, off, e, _⟩
    · rw [h]; rfl
    · cases e
  · subst e; exact Ap.news_s h
theorem src_i {w : World} {ad : Option Addr} {xs : List Int} (h : IsL w ad xs) : Src w ad xs.length 1 (iv xs) := by
  refine ⟨by rw [Li.iv_length]; omega, Li.iv_one _, fun e => ?_, fun x e => ?_⟩
  · subst e
    rcases h with h | ⟨b, off, e, _⟩
    · rw [h]; rfl
    · cases e
  · subst e; exact Ai.news_i h
theorem src_p {w : World} {ad : Option Addr} {xs : List (Int × Int)} (h : IsP w ad xs) : Src w ad xs.length 2 (pv xs) := by
  refine ⟨pv_length _, Fw.pv_one _, fun e => ?_, fun x e => ?_⟩
  · subst e
    rcases h with h | ⟨b, off, e, _⟩
    · rw [h]; rfl
    · cases e
  · subst e
    rcases h with h | ⟨b, off, e, _, hc⟩
    · subst h; intro j u hj; simp [pv] at hj
    · cases e; exact Fw.news_p hc
theorem run_app0 (w : World) (t ty e : TypeId) (i : TypeInfo) (z : Value) (sz bytes : Nat) (ht : Try.prog.underlying t = some (.slice e)) (hi : Try.prog.info? e = some i) (hz : i.zero = some z) (hsize : i.size = sz) (hby : i.bytes = bytes) (hzs : z.cells.size = sz) (hsz : 0 < sz) (hb1 : bytes ≤ 1000)
    (base g : Nat) (ad : Option Addr) (n c : Nat) (xs : List Value) (hown : Ow w base (.slice (some ⟨g, 0, none⟩) 0 0) ⟨e, sz, 0, []⟩) (hx : Src w ad n sz xs) (hl : n ≤ 1048576) (hbase : base ≤ w.heap.size) :
    ∃ k cap w', (Builtin.append_ #[t, t] ty #[.slice (some ⟨g, 0, none⟩) 0 0, .slice ad n c]).run Try.prog w = .ok (.slice (some ⟨k, 0, none⟩) n cap) w' ∧ Ow w' base (.slice (some ⟨k, 0, none⟩) n cap) ⟨e, sz, n, xs⟩ ∧ w.grownBy w' (some g) ∧ (k = g ∨ k = w.heap.size) := by
  obtain ⟨x1, x2, x3, x4⟩ := hx
  cases ad with
  | none =>
    obtain rfl := x3 rfl
    have h0 : xs = [] := List.length_eq_zero_iff.1 (by omega)
    subst h0
    refine ⟨g, 0, w, ?_, hown, World.grownBy.refl _ _, .inl rfl⟩
    refine run_append_nothing w _ _ _ _ i ht hi _ 0 0 (Nat.le_refl _) _ ⟨.inl ⟨_, ht⟩, fun w' => ?_, ?_, ?_, by simp, fun u hu => by simp at hu⟩
    · simp [Builtin.lenOf]
    · simp [Builtin.firstCells]
    · simp [Builtin.firstCells]
  | some x =>
    have hbn : (0 + n) * bytes ≤ 140737488355328 := by
      have : (0 + n) * bytes ≤ 1048576 * 1000 := Nat.mul_le_mul (by omega) hb1
      omega
    obtain ⟨v', w', hr, h2, h3, hnil, h5⟩ := run_append_own_at (P := Try.prog) w base t ty e i z sz bytes ht hi hz hsize hby hzs hsz (.slice (some ⟨g, 0, none⟩) 0 0) 0 [] hown x n c xs x1 (x4 x rfl) x2 (by unfold maxLen; omega) hbn hbase
    rw [Nat.zero_add, List.nil_append] at h2
    have hne : ¬ v' = .slice none 0 0 := fun e => by have := (hnil.1 e).1; simp at this
    have hbk : v'.ownBlock = some g ∨ v'.ownBlock = some w.heap.size := h5
    rcases h2.2 with ⟨e, _⟩ | ⟨k, cap, cur, e, hb, hh, r⟩
    · exact absurd e hne
    · subst e
      refine ⟨k, cap, w', hr, h2, h3, ?_⟩
      simpa [Value.ownBlock] using hbk
theorem wp_app0 {o : Oper} {a : Act} {w : World} {K : Act → World → Prop} {Q : Exit → Act → World → Prop} (s x : Operand) (t : TypeId) (ho : o.op = .call { callee := .builtin .append, args := #[s, x], argTypes := #[t, t] }) (e : TypeId) (i : TypeInfo) (z : Value) (sz bytes : Nat) (ht : Try.prog.underlying t = some (.slice e)) (hi : Try.prog.info? e = some i) (hz : i.zero = some z) (hsize : i.size = sz) (hby : i.bytes = bytes) (hzs : z.cells.size = sz) (hsz : 0 < sz) (hb1 : bytes ≤ 1000)
    (dt : Option Tmp) (hd : o.dst = dt) (base g : Nat) (ad : Option Addr) (n c : Nat) (xs : List Value) (hs : a.eval s = .slice (some ⟨g, 0, none⟩) 0 0) (hx : a.eval x = .slice ad n c) (hown : Ow w base (.slice (some ⟨g, 0, none⟩) 0 0) ⟨e, sz, 0, []⟩) (hsr : Src w ad n sz xs) (hl : n ≤ 1048576) (hbase : base ≤ w.heap.size)
    (h : ∀ k cap w', Ow w' base (.slice (some ⟨k, 0, none⟩) n cap) ⟨e, sz, n, xs⟩ → w.grownBy w' (some g) → (k = g ∨ k = w.heap.size) → K (a.put dt (.slice (some ⟨k, 0, none⟩) n cap)) w') : o.wp Try.prog a w K Q := by
  subst hd
  obtain ⟨k, cap, w', hr, h2, h3, h4⟩ := run_app0 w t o.type e i z sz bytes ht hi hz hsize hby hzs hsz hb1 base g ad n c xs hown hsr hl hbase
  unfold Oper.wp execOp
  simp only [ho, resolve, invoke, builtin, Sem.run_bind, Sem.run_pure, Result.andThen_ok, List.map_toArray, List.map_cons, List.map_nil, hs, hx, hr]
  exact h k cap w' h2 h3 h4
theorem wp_appS0 {o : Oper} {a : Act} {w : World} {K : Act → World → Prop} {Q : Exit → Act → World → Prop} (s x : Operand) (ho : o.op = .call { callee := .builtin .append, args := #[s, x], argTypes := #[46, 46] }) (dt : Option Tmp) (hd : o.dst = dt) (base g : Nat) (ad : Option Addr) (n c : Nat) (xs : List ByteArray) (hn : xs.length = n) (hs : a.eval s = .slice (some ⟨g, 0, none⟩) 0 0) (hx : a.eval x = .slice ad n c)
    (hown : Ow w base (.slice (some ⟨g, 0, none⟩) 0 0) ⟨9, 1, 0, []⟩) (hi : Ls.IsS w ad xs) (hl : n ≤ 1048576) (hbase : base ≤ w.heap.size)
    (h : ∀ k cap w', Ow w' base (.slice (some ⟨k, 0, none⟩) n cap) (rs xs) → w.grownBy w' (some g) → (k = g ∨ k = w.heap.size) → K (a.put dt (.slice (some ⟨k, 0, none⟩) n cap)) w') : o.wp Try.prog a w K Q := by
  subst hn
  obtain ⟨i0, hii, hz0, hz1, hz2⟩ := info_parts Ls.info_str
  exact wp_app0 s x _ ho 9 i0 (.string ⟨#[]⟩) 1 16 Try.underlying46 hii hz0 hz1 hz2 rfl (by decide) (by decide) dt hd base g ad _ c _ hs hx hown (src_s hi) hl hbase h
theorem wp_appI0 {o : Oper} {a : Act} {w : World} {K : Act → World → Prop} {Q : Exit → Act → World → Prop} (s x : Operand) (ho : o.op = .call { callee := .builtin .append, args := #[s, x], argTypes := #[47, 47] }) (dt : Option Tmp) (hd : o.dst = dt) (base g : Nat) (ad : Option Addr) (n c : Nat) (xs : List Int) (hn : xs.length = n) (hs : a.eval s = .slice (some ⟨g, 0, none⟩) 0 0) (hx : a.eval x = .slice ad n c)
    (hown : Ow w base (.slice (some ⟨g, 0, none⟩) 0 0) ⟨3, 1, 0, []⟩) (hi : IsL w ad xs) (hl : n ≤ 1048576) (hbase : base ≤ w.heap.size)
    (h : ∀ k cap w', Ow w' base (.slice (some ⟨k, 0, none⟩) n cap) (ri xs) → w.grownBy w' (some g) → (k = g ∨ k = w.heap.size) → K (a.put dt (.slice (some ⟨k, 0, none⟩) n cap)) w') : o.wp Try.prog a w K Q := by
  subst hn
  obtain ⟨i0, hii, hz0, hz1, hz2⟩ := info_parts Li.info_int
  exact wp_app0 s x _ ho 3 i0 (.int .i64 0) 1 8 Try.underlying47 hii hz0 hz1 hz2 rfl (by decide) (by decide) dt hd base g ad _ c _ hs hx hown (src_i hi) hl hbase h
theorem wp_appP0 {o : Oper} {a : Act} {w : World} {K : Act → World → Prop} {Q : Exit → Act → World → Prop} (s x : Operand) (ho : o.op = .call { callee := .builtin .append, args := #[s, x], argTypes := #[51, 51] }) (dt : Option Tmp) (hd : o.dst = dt) (base g : Nat) (ad : Option Addr) (n c : Nat) (xs : List (Int × Int)) (hn : xs.length = n) (hs : a.eval s = .slice (some ⟨g, 0, none⟩) 0 0) (hx : a.eval x = .slice ad n c)
    (hown : Ow w base (.slice (some ⟨g, 0, none⟩) 0 0) ⟨80, 2, 0, []⟩) (hi : IsP w ad xs) (hl : n ≤ 1048576) (hbase : base ≤ w.heap.size)
    (h : ∀ k cap w', Ow w' base (.slice (some ⟨k, 0, none⟩) n cap) (rp xs) → w.grownBy w' (some g) → (k = g ∨ k = w.heap.size) → K (a.put dt (.slice (some ⟨k, 0, none⟩) n cap)) w') : o.wp Try.prog a w K Q := by
  subst hn
  obtain ⟨i0, hii, hz0, hz1, hz2⟩ := info_parts Tm.info_spl
  exact wp_app0 s x _ ho 80 i0 (.agg #[.int .i64 0, .int .i64 0]) 2 16 Try.underlying51 hii hz0 hz1 hz2 rfl (by decide) (by decide) dt hd base g ad _ c _ hs hx hown (src_p hi) hl hbase h
theorem wp_makeS {o : Oper} {a : Act} {w : World} {K : Act → World → Prop} {Q : Exit → Act → World → Prop} (l c : Operand) (hop : o.op = Op.makeSlice 46 l c) (dt : Option Tmp) (hd : o.dst = dt) (n : Nat) (hl : a.eval l = .int .i64 (n : Int)) (hc : a.eval c = .int .i64 (n : Int)) (hn : n ≤ 1048576)
    (h : ∀ g w', w.heap.size ≤ g → Ow w' w.heap.size (.slice (some ⟨g, 0, none⟩) n n) (rs (List.replicate n ⟨#[]⟩)) → Below w.heap.size w w' → K (a.put dt (.slice (some ⟨g, 0, none⟩) n n)) w') : o.wp Try.prog a w K Q := by
  subst hd
  obtain ⟨i0, hi, hz0, hz1, hz2⟩ := info_parts Ls.info_str
  obtain ⟨w', hrun, r1, r2⟩ := run_make_full (P := Try.prog) w w.heap.size 46 9 i0 (.string ⟨#[]⟩) 1 Try.underlying46 hi hz0 hz1 .i64 .i64 n (by rw [hz2]; omega) (by unfold maxLen; omega) (Nat.le_refl _)
  unfold Oper.wp
  simp [execOp, hop, hl, hc, hrun, Result.andThen]
  exact h _ _ (Nat.le_refl _) (Ls.own_made r1) (Li.below_none r2)
end Go.Proofs.Ytlelboddihogmaa.Ct
/-
  A region that draws its order: three operations that may come up next.
-/
namespace Go.Proofs.Ytlelboddihogmaa.Hd
variable {P : Program} {ops : Array Oper} {Q : Exit → Act → World → Prop} {md : Region.Mode} {S : World → Prop} {d : Nat}
theorem After.three {i j k : Nat} {oi oj ok : Oper} {n : Nat} {l : Array Bool} {a : Act} {w : World} (hr : Region.ready md ops l = [i, j, k]) (hi : ops[i]? = some oi) (hj : ops[j]? = some oj) (hk : ops[k]? = some ok) (hg : oi.guard = none) (hg' : oj.guard = none) (hg2 : ok.guard = none)
    (h : ∀ K : Act → World → Prop, (∀ a' w', ((l.setIfInBounds i true).getD d true = false → S w') → After P md ops Q S d n (l.setIfInBounds i true) a' w' → K a' w') → oi.wp P a w K Q)
    (h' : ∀ K : Act → World → Prop, (∀ a' w', ((l.setIfInBounds j true).getD d true = false → S w') → After P md ops Q S d n (l.setIfInBounds j true) a' w' → K a' w') → oj.wp P a w K Q)
    (h2 : ∀ K : Act → World → Prop, (∀ a' w', ((l.setIfInBounds k true).getD d true = false → S w') → After P md ops Q S d n (l.setIfInBounds k true) a' w' → K a' w') → ok.wp P a w K Q) : After P md ops Q S d (n + 1) l a w := by
  refine ⟨fun h0 => (by rw [hr] at h0; simp at h0), fun q hq => ?_⟩
  rw [hr] at hq
  have hwi : Region.wanted oi (yielded ops a.tmps) = true := by simp [Region.wanted, hg]
  have hwj : Region.wanted oj (yielded ops a.tmps) = true := by simp [Region.wanted, hg']
  have hwk : Region.wanted ok (yielded ops a.tmps) = true := by simp [Region.wanted, hg2]
  rcases List.mem_cons.1 hq with rfl | hq
  · unfold wpOp; rw [hi]; simp only [hwi, if_true]; exact .inl (h _ fun _ _ h1 h2 => ⟨h1, h2⟩)
  · rcases List.mem_cons.1 hq with rfl | hq
    · unfold wpOp; rw [hj]; simp only [hwj, if_true]; exact .inl (h' _ fun _ _ h1 h2 => ⟨h1, h2⟩)
    · obtain rfl := List.mem_singleton.1 hq
      unfold wpOp; rw [hk]; simp only [hwk, if_true]; exact .inl (h2 _ fun _ _ h1 h2 => ⟨h1, h2⟩)
end Go.Proofs.Ytlelboddihogmaa.Hd
/-
  The columns of a table: contracts of Labels, Column, Words, of the program and of its model, over plain functions of lists; a table marked.
-/
namespace Go.Proofs.Ytlelboddihogmaa.Co
set_option maxRecDepth 20000
open Go.RowKit
open Go.Proofs.Ytlelboddihogmaa.Tb
open Go.Proofs.Ytlelboddihogmaa.Tk
open Go.Proofs.Ytlelboddihogmaa.Li (ret_bool grown_refl grown_trans grown_set below_none info_int btw between_any)

theorem one_cell (w : World) (T : TypeId) (x : Int) : ∀ j u, ([Value.int .i64 x] : List Value)[j]? = some u → (w.alloc (.cells #[.int .i64 x] T)).cell? ((⟨w.heap.size, 0, none⟩ : Addr).add j) = some u := by
  intro j u hj
  match j, hj with
  | 0, hj => simp at hj; subst hj; simp [Addr.add]
theorem one_one (x : Int) : ∀ u ∈ ([Value.int .i64 x] : List Value), u.oneCell' = true := by
  intro u hu; simp at hu; subst hu; rfl
theorem own_snoc {w : World} {base n : Nat} {v : Value} {l : List Int} {x : Int} (hn : l.length = n) (h : w.ownsRow base 3 1 v (n + 1) (Li.iv l ++ [.int .i64 x])) : Li.Own w base v (l ++ [x]) := by
  subst hn
  unfold Li.Own
  rw [← Li.iv_append, List.length_append]
  exact h
theorem own_empty (w : World) (base : Nat) (hb : base ≤ w.heap.size) : Li.Own (w.alloc (.cells #[] 3)) base (.slice (some ⟨w.heap.size, 0, none⟩) 0 0) [] :=
  World.ownsRow_made w #[] 0 hb (by unfold maxLen; omega) (by simp)
def labs (rs : List Row) : List Int := rs.map Row.label
def labels (n c : Int) (rs : List Row) : List Int := if tok n c rs = true then labs rs else []
theorem labs_length (rs : List Row) : (labs rs).length = rs.length := by simp [labs]
theorem labels_le (n c : Int) (rs : List Row) : (labels n c rs).length ≤ rs.length := by
  unfold labels; split
  · rw [labs_length]; exact Nat.le_refl _
  · simp
theorem labs_get (rs : List Row) (j : Nat) (h : j < rs.length) : (labs rs)[j]'(by rw [labs_length]; exact h) = rs[j].label := by simp [labs]
theorem take_get {α : Type} (xs : List α) (k : Nat) (h : k < xs.length) : xs.take (k + 1) = xs.take k ++ [xs[k]] := List.take_succ_eq_append_getElem h
/-- The numbers at a place of the rows. -/
def nat (rs : List Row) (p : Nat) : List Int := rs.map fun r => r.nums.getD p 0
def column (n c : Int) (rs : List Row) (num : Int) : List Int := if tok n c rs = true ∧ 0 ≤ num ∧ num < n then nat rs num.toNat else []
theorem nat_length (rs : List Row) (p : Nat) : (nat rs p).length = rs.length := by simp [nat]
theorem column_le (n c : Int) (rs : List Row) (num : Int) : (column n c rs num).length ≤ rs.length := by
  unfold column; split
  · rw [nat_length]; exact Nat.le_refl _
  · simp
theorem nat_get (rs : List Row) (p j : Nat) (h : j < rs.length) (hp : p < rs[j].nums.length) : (nat rs p)[j]'(by rw [nat_length]; exact h) = rs[j].nums[p] := by simp [nat, hp]
theorem tok_nums {n c : Int} {rs : List Row} (h : tok n c rs = true) (j : Nat) (hj : j < rs.length) : (rs[j].nums.length : Int) = n ∧ (rs[j].cats.length : Int) = c := by
  have h2 := (tok_iff.1 h).2.2
  have := rok_iff.1 (List.all_eq_true.1 h2 _ (List.getElem_mem hj))
  exact ⟨this.2.1, this.2.2.1⟩
end Go.Proofs.Ytlelboddihogmaa.Co
/-
  DERIVED: THE SHELF's CONTRACTS AT THIS DUMP, IN PLAIN WORDS (tools/lay-plain.mjs out of 'TryShelf.lean', which tools/lay-shelf.mjs wrote): THE SAME DECLARATIONS UNDER THE SAME NAMES: 'import', 'namespace', 'open', 'def', 'theorem' AND NOTHING ELSE: no command of the shelf's: FOR A HAND-IN. Each laying: the table of numbers ('.._ren') and one theorem, a field a fact of the dump's own or the kernel's comparison; each contract: ONE APPLICATION.
-/
namespace Go.Proofs
open Go.Shelf
def Try.laysM316_ren : Go.Shelf.Ren := ⟨fun | 316 => 66 | n => n, fun | 9 => 9 | 3 => 3 | 4 => 4 | 37 => 108 | 0 => 0 | 127 => 109 | 5 => 5 | n => n, fun | n => n⟩
theorem Try.laysM316 : Go.Proofs.LaysM.n316 Try.prog Try.laysM316_ren := {
  mixed := by kernel_rfl
  f316 := Try.func66.trans (congrArg some (by kernel_rfl))
  t0 := Try.underlying0
  a0 := Try.isAgg0
  z0 := Try.sizeOf0
  v0 := Try.zeroValue0
  t3 := Try.underlying3
  a3 := Try.isAgg3
  z3 := Try.sizeOf3
  v3 := Try.zeroValue3
  t4 := Try.underlying4
  a4 := Try.isAgg4
  z4 := Try.sizeOf4
  v4 := Try.zeroValue4
  t9 := Try.underlying9
  a9 := Try.isAgg9
  z9 := Try.sizeOf9
  v9 := Try.zeroValue9
  t37 := Try.underlying108
  a37 := Try.isAgg108
  z37 := Try.sizeOf108
  v37 := Try.zeroValue108
  t127 := Try.underlying109
  a127 := Try.isAgg109
  z127 := Try.sizeOf109
  v127 := Try.zeroValue109
  t5 := Try.underlying5
  a5 := Try.isAgg5
  z5 := Try.sizeOf5
  v5 := Try.zeroValue5
  i0 := by kernel_rfl
  i3 := by kernel_rfl
  i4 := by kernel_rfl
  i5 := by kernel_rfl
  i9 := by kernel_rfl
  i37 := by kernel_rfl
  i127 := by kernel_rfl }
open Go.RowKit in
/-- internal/stringslite.Clone (what strings.Clone calls): "Clone returns a fresh copy of s.": THE SAME BYTES. Of what was there nothing has turned (a new row is laid, and frozen, where s is not empty). (LAID: no walk: one application.) -/
theorem Try.stringslite_Clone (s : ByteArray) (w : World) (hlim : s.size ≤ 281474976710656) :
    Calls Try.prog 66 #[.string s] w fun e w' => e = .returned (.string s) ∧ Below w.heap.size w w' := Any.stringslite_Clone Try.laysM316 s w hlim
def Try.laysNm215_ren : Go.Shelf.Ren := ⟨fun | 15 => 44 | n => n, fun | 22 => 47 | 3 => 3 | 4 => 4 | n => n, fun | n => n⟩
theorem Try.laysNm215 : Go.Proofs.Lays2.n15 Try.prog Try.laysNm215_ren := {
  mixed := by kernel_rfl
  f15 := Try.func44.trans (congrArg some (by kernel_rfl))
  t3 := Try.underlying3
  a3 := Try.isAgg3
  z3 := Try.sizeOf3
  v3 := Try.zeroValue3
  t4 := Try.underlying4
  a4 := Try.isAgg4
  z4 := Try.sizeOf4
  v4 := Try.zeroValue4
  t22 := Try.underlying47
  a22 := Try.isAgg47
  z22 := Try.sizeOf47
  v22 := Try.zeroValue47
  i3 := by kernel_rfl }
open Go.RowKit Go.Lib in
/-- slices.Clone at []int: "Clone returns a copy of the slice. The elements are copied using assignment, so this is a shallow clone. The result may have additional unused capacity. The result preserves the nilness of s.": OF A SLICE THAT IS NOT nil IT RETURNS A SLICE THAT IS NOT nil, OF THE SAME ELEMENTS, IN MEMORY OF THE CALL's OWN: in the how-to's words (6f): 'w'.ownsRow B e 1 v' n cells': v' begins at the head of a row among the blocks from B on (B: the heap's size at the call), not frozen, whose first cells are the elements · 'Below B w w'': below B all is as it was. The capacity is whatever the run-time gives. 'zs': what the cells behind the slice's address hold; 'zs.take n': its elements. (LAID: no walk: one application.) -/
theorem Try.slices_Clone_int (b off n c : Nat) (zs : List Int) (w : World) (hz : n ≤ zs.length) (hbig : n * 8 ≤ 140737488355328) (hc : ∀ j, j < zs.length → w.cell? ⟨b, off + j, none⟩ = some (.int .i64 (zs.getD j 0))) :
    Calls Try.prog 44 #[.slice (some ⟨b, off, none⟩) n c] w fun e w' => ∃ v', e = .returned v' ∧ w'.ownsRow w.heap.size 3 1 v' n ((zs.take n).map (Value.int .i64)) ∧ v' ≠ .slice none 0 0 ∧ Below w.heap.size w w' := Any.slices_Clone_int Try.laysNm215 b off n c zs w hz hbig hc
open Go.RowKit Go.Lib in
/-- The same at nil: nil comes back; the world is as it was. (LAID: no walk: one application.) -/
theorem Try.slices_Clone_int_nil (n c : Nat) (w : World) :
    Calls Try.prog 44 #[.slice none n c] w fun e w' => e = .returned (.slice none 0 0) ∧ w' = w := Any.slices_Clone_int_nil Try.laysNm215 n c w
open Go.RowKit Go.Lib in
/-- The same at a slice of length 0 that is not nil, WHATEVER ITS ADDRESS (no cell is asked for): a slice that is not nil and owns nothing comes back. (LAID: no walk: one application.) -/
theorem Try.slices_Clone_int_zero (a : Addr) (c : Nat) (w : World) :
    Calls Try.prog 44 #[.slice (some a) 0 c] w fun e w' => ∃ v', e = .returned v' ∧ w'.ownsRow w.heap.size 3 1 v' 0 [] ∧ v' ≠ .slice none 0 0 ∧ Below w.heap.size w w' := Any.slices_Clone_int_zero Try.laysNm215 a c w
def Try.laysSlE041_f44_ren : Go.Shelf.Ren := ⟨fun | 41 => 44 | n => n, fun | 22 => 47 | 23 => 3 | 4 => 4 | n => n, fun | n => n⟩
theorem Try.laysSlE041_f44 : Go.Proofs.SlLaysE0.n41 Try.prog Try.laysSlE041_f44_ren := {
  mixed := by kernel_rfl
  f41 := ⟨Try.f44.name, by decide, Try.func44.trans (congrArg some (by kernel_rfl))⟩
  t4 := Try.underlying4
  a4 := Try.isAgg4
  z4 := Try.sizeOf4
  v4 := Try.zeroValue4
  t22 := Try.underlying47
  a22 := Try.isAgg47
  z22 := Try.sizeOf47
  v22 := Try.zeroValue47 }
open Go.RowKit Go.Lib in
/-- slices.Clone: "Clone returns a copy of the slice. The elements are copied using assignment, so this is a shallow clone. The result may have additional unused capacity. The result preserves the nilness of s.": OF A SLICE THAT IS NOT nil IT RETURNS A SLICE THAT IS NOT nil, OF THE SAME CELLS, IN MEMORY OF THE CALL's OWN ('ownsRow': the how-to's 6f); below the heap's size at the call all is as it was. (LAID AT THE INSTANCE 'slices.Clone[[]int,int]': no walk: one application.) -/
theorem Try.slices_Clone (i0 : TypeInfo) (z : Value) (size bytes : Nat) (hi : Try.prog.info? 3 = some i0) (hz0 : i0.zero = some z) (hz1 : i0.size = size) (hz2 : i0.bytes = bytes) (hzs : z.cells.size = size) (hsz : 0 < size) (z23 : ∀ w, (Go.sizeOf 3).run Try.prog w = .ok size w) (b off n c : Nat) (news : List Value) (w : World) (hl : news.length = n * size) (hn : n ≤ maxLen) (hbig : n * bytes ≤ 140737488355328) (hc : ∀ j u, news[j]? = some u → w.cell? ⟨b, off + j, none⟩ = some u) (h1 : ∀ u ∈ news, u.oneCell' = true) :
    Calls Try.prog 44 #[.slice (some ⟨b, off, none⟩) n c] w fun e w' => ∃ v', e = .returned v' ∧ w'.ownsRow w.heap.size 3 size v' n news ∧ v' ≠ .slice none 0 0 ∧ Below w.heap.size w w' := AnyE.slices_Clone Try.laysSlE041_f44 i0 z size bytes hi hz0 hz1 hz2 hzs hsz z23 b off n c news w hl hn hbig hc h1
open Go.RowKit Go.Lib in
/-- The same at nil: nil comes back; the world is as it was; nothing is asked of the element's type. (LAID AT THE INSTANCE 'slices.Clone[[]int,int]': no walk: one application.) -/
theorem Try.slices_Clone_nil (n c : Nat) (w : World) :
    Calls Try.prog 44 #[.slice none n c] w fun e w' => e = .returned (.slice none 0 0) ∧ w' = w := AnyE.slices_Clone_nil Try.laysSlE041_f44 n c w
end Go.Proofs
