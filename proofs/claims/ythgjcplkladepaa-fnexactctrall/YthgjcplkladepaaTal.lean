/-
  The tallies of the program (a map from words to how many rows, their labels together): what the map's block reads as; contracts of its methods.
-/
import Derived.Test.YthgjcplkladepaaWords
import Derived.Test.YthgjcplkladepaaFlo
import Derived.Test.YthgjcplkladepaaStrs
import Derived.WalkKit
import Derived.Deep.QuietTactic
import Derived.Deep.RegionWith
import Derived.BigQuiet
import Derived.Below
import Derived.Maps.OwnSet
namespace Go.Proofs.Ythgjcplkladepaa.Ta
open Go.RowKit Go.Maps
open Go.WideMaps (keyOf_string_mk)
open Go.Proofs.Ythgjcplkladepaa.Wd
open Go.Proofs.Ythgjcplkladepaa.Li (below_none grown_refl grown_trans)

theorem law : Keyed Try.prog 9 := string_keyed Try.underlying9
def pD (a b : Int) : DataW Unit := .agg [.lit (.int .i64 a), .lit (.int .i64 b)]
def tEl : Value → Option (DataW Unit × List MemPlace)
  | .agg ⟨[.int .i64 a, .int .i64 b]⟩ => some (pD a b, [])
  | _ => none
theorem tEl_mk (a b : Int) : tEl (.agg #[.int .i64 a, .int .i64 b]) = some (pD a b, []) := rfl
theorem tEl_inv {v : Value} {z : DataW Unit × List MemPlace} (h : tEl v = some z) : ∃ a b, v = .agg #[.int .i64 a, .int .i64 b] ∧ z = (pD a b, []) := by
  unfold tEl at h
  split at h
  · cases h; exact ⟨_, _, rfl, rfl⟩
  · cases h
theorem pD_inj {a b c d : Int} (h : pD a b = pD c d) : a = c ∧ b = d := by
  unfold pD at h
  simpa using h
def kl (s : ByteArray) : Lit := .string s.data.toList
theorem kl_inj {s t : ByteArray} (h : kl s = kl t) : s = t := by
  unfold kl at h
  exact ba_ext (by simpa using h)
theorem kl_key (s : ByteArray) : WideAt.IsKeyLit (kl s) := by unfold kl; trivial
/-- Block b is a map of at most n entries that has the tally f s at the word s. -/
def TM (w : World) (b n : Nat) (f : ByteArray → Int × Int) : Prop :=
  ∃ D : DataW Unit, w.ownsMap Try.prog 9 tEl b n D ∧ ∀ s : ByteArray, D.atKey (kl s) (pD 0 0) = pD (f s).1 (f s).2
theorem TM.kept {w w' : World} {b n : Nat} {f : ByteArray → Int × Int} {row : Option Nat} (h : TM w b n f) (hg : w.grownBy w' row) (hne : some b ≠ row) : TM w' b n f := by
  obtain ⟨D, ho, hf⟩ := h
  exact ⟨D, ho.kept hg hne, hf⟩
theorem TM.below {w w' : World} {b n : Nat} {f : ByteArray → Int × Int} (h : TM w b n f) (hB : Below w.heap.size w w') : TM w' b n f :=
  h.kept (row := none) ⟨hB.os, hB.tape, hB.output, hB.size, fun k hk _ => hB.block k hk⟩ (by simp)
theorem TM.lt {w : World} {b n : Nat} {f : ByteArray → Int × Int} (h : TM w b n f) : b < w.heap.size := by obtain ⟨D, ho, _⟩ := h; exact ho.lt
theorem TM.same {w : World} {b n : Nat} {f g : ByteArray → Int × Int} (h : TM w b n f) (e : ∀ s, f s = g s) : TM w b n g := by
  obtain ⟨D, ho, hf⟩ := h
  exact ⟨D, ho, fun s => by rw [hf s, e s]⟩
theorem TM.mono {w : World} {b n n' : Nat} {f : ByteArray → Int × Int} (h : TM w b n f) (hn : n ≤ n') : TM w b n' f := by
  obtain ⟨D, ho, hf⟩ := h
  exact ⟨D, ho.mono hn, hf⟩
theorem tm_made (w : World) : TM (w.alloc (.map #[] 0)) w.heap.size 0 (fun _ => (0, 0)) :=
  ⟨.map [], World.ownsMap_made _ _ _ _, fun _ => rfl⟩
theorem tm_put {w : World} {b n : Nat} {f : ByteArray → Int × Int} {D : DataW Unit} {s : ByteArray} {x y : Int} (ho : w.ownsMap Try.prog 9 tEl b n D) (hD : IsMap D) {D' : DataW Unit} (e : D = D'.put (kl s) (pD x y)) (hI : IsMap D') (hf : ∀ s : ByteArray, D'.atKey (kl s) (pD 0 0) = pD (f s).1 (f s).2) : TM w b n (ups f s (x, y)) := by
  refine ⟨D, ho, fun t => ?_⟩
  subst e
  unfold ups
  by_cases ht : t = s
  · subst ht
    rw [if_pos rfl, atKey_put_same hI (kl_key _)]
  · rw [if_neg ht, atKey_put_other (fun h => ht (kl_inj h)), hf t]
theorem zeroT (w : World) : (zeroValue 57).run Try.prog w = .ok (.agg #[.int .i64 0, .int .i64 0]) w := by kernel_rfl
section
variable (w : World) {ops : Array Oper} {rest : List Oper} {o : Oper} {a : Act} {Q : Exit → Act → World → Prop}
/-- A look-up: what stands at the word. -/
theorem at_tm (hg : o.guard = none) (m x : Operand) (hop : o.op = Op.lookup 54 m x false) (b n : Nat) (f : ByteArray → Int × Int) (hm : a.eval m = .map (some b)) (h : TM w b n f) (s : ByteArray) (hx : a.eval x = .string s) (hs : s.size ≤ maxLen)
    (hK : wpList Try.prog ops Q rest (a.put o.dst (.agg #[.int .i64 (f s).1, .int .i64 (f s).2])) w) : wpList Try.prog ops Q (o :: rest) a w := by
  refine wpList_plain hg fun K' hK' => ?_
  obtain ⟨D, ho, hf⟩ := h
  obtain ⟨v, ps, hrun, hv⟩ := ho.lookup law Try.underlying54 (zeroT w) (tEl_mk 0 0) (keyOf_string_mk Try.underlying9 hs)
  obtain ⟨x', y', rfl, e⟩ := tEl_inv hv
  have e1 : D.atKey (kl s) (pD 0 0) = pD x' y' := congrArg Prod.fst e
  obtain ⟨rfl, rfl⟩ := pD_inj ((hf s).symm.trans e1)
  unfold Oper.wp
  simp [execOp, hop, hm, hx, hrun, Result.andThen]
  exact hK' _ _ hK
/-- A store. -/
theorem set_tm (hg : o.guard = none) (m x v : Operand) (hop : o.op = Op.mapUpdate 54 m x v) (b n : Nat) (f : ByteArray → Int × Int) (hm : a.eval m = .map (some b)) (h : TM w b n f) (hn : n ≤ 1000000) (s : ByteArray) (hx : a.eval x = .string s) (hs : s.size ≤ maxLen) (p q : Int) (hv : a.eval v = .agg #[.int .i64 p, .int .i64 q])
    (hK : ∀ w', TM w' b (n + 1) (ups f s (p, q)) → w.grownBy w' (some b) → wpList Try.prog ops Q rest (a.put o.dst undef) w') : wpList Try.prog ops Q (o :: rest) a w := by
  obtain ⟨D, ho, hf⟩ := h
  refine wpList_mapUpdate_own w hg m x v 54 hop 9 57 law Try.underlying54 tEl b n D hm ho (by unfold maxLen; omega) _ _ (kl s) hx hv (keyOf_string_mk Try.underlying9 hs) (pD p q) [] (tEl_mk p q) ?_
  intro w' ho' hg'
  exact hK w' (tm_put ho' ho'.isMap rfl ho.isMap hf) hg'
/-- A delete. -/
theorem del_tm (hg : o.guard = none) (m x : Operand) (hop : o.op = Op.call { callee := Callee.builtin Builtin.delete, args := #[m, x], argTypes := #[54, 9] }) (b n : Nat) (f : ByteArray → Int × Int) (hm : a.eval m = .map (some b)) (h : TM w b n f) (s : ByteArray) (hx : a.eval x = .string s) (hs : s.size ≤ maxLen)
    (hK : ∀ w', TM w' b n (ups f s (0, 0)) → w.grownBy w' (some b) → wpList Try.prog ops Q rest (a.put o.dst (.tuple #[])) w') : wpList Try.prog ops Q (o :: rest) a w := by
  obtain ⟨D, ho, hf⟩ := h
  refine wpList_delete_own w hg m x 54 9 hop 57 law Try.underlying54 tEl b n D hm ho _ (kl s) hx (keyOf_string_mk Try.underlying9 hs) ?_
  intro w' ho' ht'
  refine hK w' ⟨_, ho', fun t => ?_⟩ ht'.grown
  unfold ups
  by_cases ht : t = s
  · subst ht
    rw [if_pos rfl, atKey_del_same]
  · rw [if_neg ht, atKey_del_other (fun h => ht (kl_inj h)), hf t]
end
set_option maxHeartbeats 1000000 in
theorem number (w : World) (r l p : Int) (r0 : 0 ≤ r) (r1 : r ≤ 1000) (l0 : -1000000000 ≤ l) (l1 : l ≤ 1000000000) (p0 : -1000000 ≤ p) (p1 : p ≤ 1000000) :
    Calls Try.prog 35 #[.agg #[.int .i64 r, .int .i64 l], .int .i64 p] w fun e w' => e = .returned (.int .i64 (Ar.flo (l + p) (r + 1))) ∧ Below w.heap.size w w' := by
  go_enter Try.func35, Try.ntmps35
  go_wp2_with (go_at_call 48; refine (Ar.floorBy_any _ _ _ (by omega)).mono ?_; rintro e w' ⟨rfl, rfl⟩)
  go_ret
  exact ⟨rfl, (Below.refl _ _).alloc (Nat.le_refl _) _⟩
set_option maxHeartbeats 1000000 in
theorem add (w : World) (b n : Nat) (f : ByteArray → Int × Int) (h : TM w b n f) (hn : n ≤ 1000000) (s : ByteArray) (hs : s.size ≤ maxLen) (l : Int) (l0 : -1000000 ≤ l) (l1 : l ≤ 1000000)
    (f0 : 0 ≤ (f s).1) (f1 : (f s).1 ≤ 1000) (f2 : -1000000000 ≤ (f s).2) (f3 : (f s).2 ≤ 1000000000) :
    Calls Try.prog 41 #[.map (some b), .string s, .int .i64 l] w fun e w' => e = .returned (.tuple #[]) ∧ TM w' b (n + 1) (ups f s ((f s).1 + 1, (f s).2 + l)) ∧ w.grownBy w' (some b) := by
  obtain ⟨x, hx⟩ : ∃ x, (f s).1 = x := ⟨_, rfl⟩
  obtain ⟨y, hy⟩ : ∃ y, (f s).2 = y := ⟨_, rfl⟩
  have HX : Hid ((f s).1 = x) := hx
  have HY : Hid ((f s).2 = y) := hy
  rw [hx] at f0 f1
  rw [hy] at f2 f3
  rw [hx, hy]
  clear hx hy
  go_enter Try.func41, Try.ntmps41
  go_wp2_with (first
    | (at_lookup; refine at_tm _ rfl _ _ rfl b n f rfl h s rfl hs ?_; rw [HX.out, HY.out])
    | (at_mapUpdate; refine set_tm _ rfl _ _ _ rfl b n f rfl (h.below ((Below.refl _ _).alloc (Nat.le_refl _) _)) hn s rfl hs _ _ rfl ?_; intro w1 h1 g1))
  refine bodyPost_end (results_none rfl _ _ _) rfl ?_
  exact ⟨rfl, h1, grown_trans (World.grownBy_alloc _ _ _) g1⟩
set_option maxHeartbeats 1000000 in
theorem take (w : World) (b n : Nat) (f : ByteArray → Int × Int) (h : TM w b n f) (hn : n ≤ 1000000) (s : ByteArray) (hs : s.size ≤ maxLen) (l : Int) (l0 : -1000000 ≤ l) (l1 : l ≤ 1000000)
    (f0 : 1 ≤ (f s).1) (f1 : (f s).1 ≤ 1000) (f2 : -1000000000 ≤ (f s).2) (f3 : (f s).2 ≤ 1000000000) (f4 : (f s).1 = 1 → (f s).2 = l) :
    Calls Try.prog 42 #[.map (some b), .string s, .int .i64 l] w fun e w' => e = .returned (.tuple #[]) ∧ TM w' b (n + 1) (ups f s ((f s).1 - 1, (f s).2 - l)) ∧ w.grownBy w' (some b) := by
  obtain ⟨x, hx⟩ : ∃ x, (f s).1 = x := ⟨_, rfl⟩
  obtain ⟨y, hy⟩ : ∃ y, (f s).2 = y := ⟨_, rfl⟩
  have HX : Hid ((f s).1 = x) := hx
  have HY : Hid ((f s).2 = y) := hy
  rw [hx] at f0 f1 f4
  rw [hy] at f2 f3 f4
  rw [hx, hy]
  clear hx hy
  by_cases h1 : x ≤ 1
  · obtain rfl : x = 1 := by omega
    obtain rfl := f4 rfl
    clear f4 h1
    go_enter Try.func42, Try.ntmps42
    go_wp2_with (first
      | (at_lookup; refine at_tm _ rfl _ _ rfl b n f rfl h s rfl hs ?_; rw [HX.out, HY.out])
      | (at_delete; refine del_tm _ rfl _ _ rfl b n f rfl (h.below ((Below.refl _ _).alloc (Nat.le_refl _) _)) s rfl hs ?_; intro w1 h1 g1))
    refine bodyPost_ret (results_none rfl _ _ _) rfl ?_
    exact ⟨rfl, (h1.mono (Nat.le_succ _)).same (fun t => by simp), grown_trans (World.grownBy_alloc _ _ _) g1⟩
  · clear f4
    have h2 : ¬ x ≤ 1 := h1
    clear h1
    go_enter Try.func42, Try.ntmps42
    go_wp2_with (first
      | (at_lookup; refine at_tm _ rfl _ _ rfl b n f rfl h s rfl hs ?_; rw [HX.out, HY.out])
      | (at_mapUpdate; refine set_tm _ rfl _ _ _ rfl b n f rfl (h.below ((Below.refl _ _).alloc (Nat.le_refl _) _)) hn s rfl hs _ _ rfl ?_; intro w1 h1 g1))
    refine bodyPost_end (results_none rfl _ _ _) rfl ?_
    exact ⟨rfl, h1, grown_trans (World.grownBy_alloc _ _ _) g1⟩
/-- Every place is one of a list of n. -/
def Plc (js : List Int) (n : Nat) : Prop := ∀ j (hj : j < js.length), 0 ≤ js[j] ∧ js[j] < (n : Int)
theorem grown_below {w wr w1 : World} {b : Nat} (hB : Below b w wr) (hb : b ≤ wr.heap.size) (hg : wr.grownBy w1 (some b)) : Below b w w1 :=
  hB.trans ⟨hg.os, hg.tape, hg.output, hg.size, fun k hk => hg.block k (by omega) (fun e => by cases e; omega)⟩
set_option maxHeartbeats 2000000 in
theorem of_places (w : World) (aw al ap : Option Addr) (cw cl cp : Nat) (ws : List ByteArray) (ls js : List Int) (hw : Ls.IsS w aw ws) (hl : Li.IsL w al ls) (hp : Li.IsL w ap js)
    (hll : ls.length = ws.length) (hj : js.length ≤ 60) (hpl : Plc js ws.length) (hs : Sml ls) (hz : ∀ j (h : j < ws.length), ws[j].size ≤ maxLen) (hwl : ws.length ≤ 1048576) :
    Calls Try.prog 34 #[.slice aw ws.length cw, .slice al ls.length cl, .slice ap js.length cp] w fun e w' => e = .returned (.map (some w.heap.size)) ∧ TM w' w.heap.size js.length (tal ws ls js) ∧ Below w.heap.size w w' := by
  have hmm := @run_makeMap Try.prog
  have HLL : Hid (ls.length = ws.length) := hll
  clear hll
  go_enter Try.func34, Try.ntmps34
  go_wp2
  go_loopw [13] (fun i wr => ∃ k : Nat, k ≤ js.length ∧ i = .int .i64 k ∧ TM wr w.heap.size k (tal ws ls (js.take k)) ∧ Below w.heap.size w wr) (fun i _ => js.length - (intOf i).toNat)
  case atStart => exact ⟨0, Nat.zero_le _, rfl, (tm_made _).same (fun s => by simp [tal, tr, tl]), (Below.refl _ _).alloc (Nat.le_refl _) _⟩
  case round =>
    obtain ⟨k, hk, rfl, hm, hB⟩ := hrel
    by_cases hlt : k < js.length
    · rcases hp.below hB with rfl | ⟨pb, po, rfl, hpb, hpc⟩
      · simp at hlt
      have hcp := hpc k hlt
      have hjr := hpl k hlt
      have hne : ¬ ws = [] := fun e => by subst e; simp at hjr; omega
      have hne' : ¬ ls = [] := fun e => by have hll := HLL.out; subst e; simp at hll; omega
      rcases hw.below hB with rfl | ⟨wb, wo, rfl, hwb, hwc⟩
      · exact absurd rfl hne
      rcases hl.below hB with rfl | ⟨lb, lo, rfl, hlb, hlc⟩
      · exact absurd rfl hne'
      have HT : Hid (∀ t, ups (tal ws ls (js.take k)) (wat ws js[k]) ((tal ws ls (js.take k) (wat ws js[k])).1 + 1, (tal ws ls (js.take k) (wat ws js[k])).2 + lat ls js[k]) t = tal ws ls (js.take (k + 1)) t) := tal_step ws ls js k hlt
      obtain ⟨j, ej⟩ : ∃ j, js[k] = j := ⟨_, rfl⟩
      rw [ej] at hcp hjr HT
      have hjw : j.toNat < ws.length := by omega
      have hjl : j.toNat < ls.length := by have := HLL.out; omega
      have hcw := hwc j.toNat hjw
      have hcl := hlc j.toNat hjl
      rw [← wat_get hjw] at hcw
      rw [← lat_get hjl] at hcl
      have hsz : (wat ws j).size ≤ maxLen := by rw [wat_get hjw]; exact hz _ hjw
      have hlb' := hs j
      have hbd := tal_bd ws ls (js.take k) hs (wat ws j) (by simp; omega)
      clear hpc hwc hlc ej hp hw hl hne hne' hs hz hpl
      go_wp2
      go_region_with (go_at_call 41; refine (add _ _ _ _ (by exact hm) (by omega) _ hsz _ hlb'.1 hlb'.2 (by omega) (by omega) (by omega) (by omega)).mono ?_; rintro e w1 ⟨rfl, h1, g1⟩
                      have hg1 : Hid (wr.grownBy w1 (some w.heap.size)) := ⟨g1.os, g1.tape, g1.output, g1.size, g1.block⟩
                      clear g1)
      all_goals
        go_wp2
        go_roundw
        case rel => exact ⟨k + 1, by omega, by go_num, h1.same HT.out, grown_below hB hB.size hg1.out⟩
        case measure => simp [intOf]; omega
    · obtain rfl : k = js.length := by omega
      have ht : js.take js.length = js := List.take_length
      rw [ht] at hm
      go_wp2
      go_ret
      exact ⟨rfl, hm, hB⟩
end Go.Proofs.Ythgjcplkladepaa.Ta
