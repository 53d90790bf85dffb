/-
  Grown of the program: a tree of pointers, laid out.
-/
import Derived.Test.YtmkfmolihlnafaaTrE
import Derived.Test.YtmkfmolihlnafaaTrN
import Derived.Deep.RegionHeld
import Derived.Deep.RegionWith
namespace Go.Proofs.Ytmkfmolihlnafaa.Gi
open Go.RowKit
open Go.Proofs.Ytmkfmolihlnafaa.Li (ret_bool ret_int below_none)
open Go.Proofs.Ytmkfmolihlnafaa.Tr Go.Proofs.Ytmkfmolihlnafaa.Tm
set_option linter.unusedVariables false

/-- A node of pointers, in blocks from lo on: so many questions are still to be asked behind it. -/
def Nt (t : T) (w : World) (lo : Nat) : Nat → Value → Nat → Nat → Prop
  | 0, v, a, y => ∃ b, v = .iface 84 (.pointer (some ⟨b, 0, none⟩)) ∧ lo ≤ b ∧ b < w.heap.size ∧ w.cell? ⟨b, 0, none⟩ = some (.int .i64 ((2 ^ a - 1 + y : Nat) : Int)) ∧ w.cell? ⟨b, 1, none⟩ = some (.int .i64 (t.lv.getD y 0))
  | f + 1, v, a, y => ∃ b v1 v2, v = .iface 80 (.pointer (some ⟨b, 0, none⟩)) ∧ lo ≤ b ∧ b < w.heap.size ∧ (w.cell? ⟨b, 0, none⟩ = some (.int .i64 ((2 ^ a - 1 + y : Nat) : Int)) ∧ w.cell? ⟨b, 1, none⟩ = some (.int .i64 (t.sp.getD a (0, 0)).1) ∧ w.cell? ⟨b, 2, none⟩ = some (.int .i64 (t.sp.getD a (0, 0)).2) ∧ w.cell? ⟨b, 3, none⟩ = some v1 ∧ w.cell? ⟨b, 4, none⟩ = some v2) ∧ Nt t w lo f v1 (a + 1) y ∧ Nt t w lo f v2 (a + 1) (y + 2 ^ a)
theorem Nt.kept {t : T} {w w1 : World} {lo f : Nat} {v : Value} {a y : Nat} (h : Nt t w lo f v a y) (hs : w.heap.size ≤ w1.heap.size) (hk : ∀ b, lo ≤ b → b < w.heap.size → w1.heap[b]? = w.heap[b]?) : Nt t w1 lo f v a y := by
  induction f generalizing v a y with
  | zero =>
    obtain ⟨b, e, hlo, hb, c0, c1⟩ := h
    have hkb := hk b hlo hb
    refine ⟨b, e, hlo, by omega, ?_, ?_⟩
    · rw [World.cell?_of_block (w := w) (a := ⟨b, 0, none⟩) hkb]; exact c0
    · rw [World.cell?_of_block (w := w) (a := ⟨b, 1, none⟩) hkb]; exact c1
  | succ f ih =>
    obtain ⟨b, v1, v2, e, hlo, hb, ⟨c0, c1, c2, c3, c4⟩, h1, h2⟩ := h
    have hkb := hk b hlo hb
    have g : ∀ o u, w.cell? ⟨b, o, none⟩ = some u → w1.cell? ⟨b, o, none⟩ = some u := fun o u h => by rw [World.cell?_of_block (w := w) (a := ⟨b, o, none⟩) hkb]; exact h
    exact ⟨b, v1, v2, e, hlo, by omega, ⟨g _ _ c0, g _ _ c1, g _ _ c2, g _ _ c3, g _ _ c4⟩, ih h1, ih h2⟩
theorem Nt.below {t : T} {w w1 : World} {lo f : Nat} {v : Value} {a y : Nat} (h : Nt t w lo f v a y) (hB : Below w.heap.size w w1) : Nt t w1 lo f v a y := h.kept hB.size (fun b _ hb => hB.block b hb)
theorem Nt.mono {t : T} {w : World} {lo lo' f : Nat} {v : Value} {a y : Nat} (h : Nt t w lo f v a y) (hl : lo' ≤ lo) : Nt t w lo' f v a y := by
  induction f generalizing v a y with
  | zero => obtain ⟨b, e, hlo, r⟩ := h; exact ⟨b, e, by omega, r⟩
  | succ f ih => obtain ⟨b, v1, v2, e, hlo, hb, c, h1, h2⟩ := h; exact ⟨b, v1, v2, e, by omega, hb, c, ih h1, ih h2⟩
theorem Nt.form {t : T} {w : World} {lo f : Nat} {v : Value} {a y : Nat} (h : Nt t w lo f v a y) : ∃ T b, v = .iface T (.pointer (some ⟨b, 0, none⟩)) := by
  cases f with
  | zero => obtain ⟨b, e, _⟩ := h; exact ⟨_, b, e⟩
  | succ f => obtain ⟨b, v1, v2, e, _⟩ := h; exact ⟨_, b, e⟩
theorem box2_at (W : World) (v0 v1 : Value) (T : TypeId) (H : Nat) (hH : W.heap.size = H) : Box2 (W.alloc (.cells #[v0, v1] T)) H v0 v1 := by subst hH; exact box2_new W v0 v1 T
theorem cells5 (w : World) (a b c d e : Value) (T : TypeId) : (w.alloc (.cells #[a, b, c, d, e] T)).cell? ⟨w.heap.size, 0, none⟩ = some a ∧ (w.alloc (.cells #[a, b, c, d, e] T)).cell? ⟨w.heap.size, 1, none⟩ = some b ∧ (w.alloc (.cells #[a, b, c, d, e] T)).cell? ⟨w.heap.size, 2, none⟩ = some c ∧ (w.alloc (.cells #[a, b, c, d, e] T)).cell? ⟨w.heap.size, 3, none⟩ = some d ∧ (w.alloc (.cells #[a, b, c, d, e] T)).cell? ⟨w.heap.size, 4, none⟩ = some e := by
  refine ⟨?_, ?_, ?_, ?_, ?_⟩ <;> simp [World.cell?_alloc_new]
theorem wrapI (n : Int) (h : -9223372036854775808 ≤ n ∧ n ≤ 9223372036854775807) : IntKind.i64.wrap n = n := by
  simp [IntKind.wrap, IntKind.bits, IntKind.signed]; omega
theorem or_fin5 : ∀ k : Fin 4, ∀ l : Fin 8, l.val < 2 ^ k.val → bits .or .i64 ((l.val : Nat) : Int) ((2 ^ k.val : Nat) : Int) = ((l.val + 2 ^ k.val : Nat) : Int) := Tw.or_fin
set_option maxRecDepth 100000 in
set_option maxHeartbeats 8000000 in
theorem igrow (t : T) (ht : tok t = true) (f : Nat) : ∀ (w : World) (A A' : Option Addr) (c c' : Nat) (a y : Nat), a + f = t.sp.length → y < 2 ^ a → IsP w A t.sp → Li.IsL w A' t.lv → 
    Calls Try.prog 44 #[.agg #[.slice A t.sp.length c, .slice A' t.lv.length c'], .int .i64 a, .int .i64 y] w fun e w' => ∃ v, e = .returned v ∧ Nt t w' w.heap.size f v a y ∧ Below w.heap.size w w' := by
  have h4 := (tok_iff.1 ht).1.1
  have HLV : Hid (t.lv.length = 2 ^ t.sp.length) := (tok_iff.1 ht).1.2
  have HT : Hid (tok t = true) := ht
  clear ht
  induction f with
  | zero =>
    intro w A A' c c' a y ha hy hp hx
    have hal : ((a : Int) == (t.sp.length : Int)) = true := by simp; omega
    have hpk : 2 ^ a ≤ 16 := Nat.pow_le_pow_right (n := 2) (j := 4) (by decide) (by omega)
    have h1p : 0 < 2 ^ a := Nat.pow_pos (by decide)
    have hpw := Tw.pow_d a (by omega)
    have hyl : y < t.lv.length := by rw [HLV.out, ← ha]; exact hy
    obtain ⟨p, hp2⟩ : ∃ p, 2 ^ a = p := ⟨_, rfl⟩
    have HP2 : Hid (2 ^ a = p) := hp2
    rw [hp2] at hpk h1p hpw hy
    have hpv : Value.int .i64 (wrap64 (2 ^ a)) = .int .i64 (p : Int) := by rw [hpw]
    have hB0 : Below w.heap.size w (w.alloc (.cells #[.slice A t.sp.length c, .slice A' t.lv.length c'] 30)) := (Below.refl _ _).alloc (Nat.le_refl _) _
    obtain ⟨xb, xo, rfl, hxb, hxc⟩ := Tw.isl_pos (hx.below hB0) hyl
    have hcx := hxc y hyl
    have HV : Hid (t.lv.getD y 0 = t.lv[y]) := by show _ = _; rw [List.getD_eq_getElem?_getD, List.getElem?_eq_getElem hyl]; rfl
    obtain ⟨x, hxv⟩ : ∃ x, t.lv[y] = x := ⟨_, rfl⟩
    rw [hxv] at hcx HV
    have hxb' : xb < w.heap.size + 1 := by simpa using hxb
    clear hxc hxv hp2 hpw ha hxb hB0
    go_enter Try.func44, Try.ntmps44
    go_wp2
    go_ret
    refine ⟨_, rfl, ⟨w.heap.size + 1, rfl, by omega, by simp, ?_, ?_⟩, ((Below.refl _ _).alloc (Nat.le_refl _) _).alloc (by simp) _⟩
    · rw [HP2.out]
      have h := (box2_at (w.alloc (.cells #[.slice A t.sp.length c, .slice (some ⟨xb, xo, none⟩) t.lv.length c'] 30)) (.int .i64 ((p : Int) - 1 + y)) (.int .i64 x) 86 (w.heap.size + 1) (by simp)).2.1.1
      rw [h]
      congr 2
      omega
    · rw [HV.out]
      exact (box2_at (w.alloc (.cells #[.slice A t.sp.length c, .slice (some ⟨xb, xo, none⟩) t.lv.length c'] 30)) (.int .i64 ((p : Int) - 1 + y)) (.int .i64 x) 86 (w.heap.size + 1) (by simp)).2.1.2
  | succ f ih =>
    intro w A A' c c' a y ha hy hp hx
    have hal : ((a : Int) == (t.sp.length : Int)) = false := by simp; omega
    have hlt : a < t.sp.length := by omega
    have hpk : 2 ^ a ≤ 8 := Nat.pow_le_pow_right (n := 2) (j := 3) (by decide) (by omega)
    have h1p : 0 < 2 ^ a := Nat.pow_pos (by decide)
    have hpw := Tw.pow_d a (by omega)
    have hor := Tw.or_all a y (by omega) hy
    have HK : Hid (2 ^ (a + 1) = 2 * 2 ^ a) := by show _ = _; rw [Nat.pow_succ]; omega
    have HS : Hid (t.sp.getD a (0, 0) = t.sp[a]) := by show _ = _; rw [List.getD_eq_getElem?_getD, List.getElem?_eq_getElem hlt]; rfl
    obtain ⟨p, hp2⟩ : ∃ p, 2 ^ a = p := ⟨_, rfl⟩
    have HP2 : Hid (2 ^ a = p) := hp2
    rw [hp2] at hpk h1p hpw hy hor HK
    have hpv : Value.int .i64 (wrap64 (2 ^ a)) = .int .i64 (p : Int) := by rw [hpw]
    have hv1 : Value.int .i64 (IntKind.i64.wrap ((a : Int) + 1)) = .int .i64 ((a + 1 : Nat) : Int) := by rw [wrapI _ (by omega)]; rfl
    have hv2 : Value.int .i64 (IntKind.i64.wrap (2 ^ a)) = .int .i64 (p : Int) := by rw [show (2 : Int) ^ a = (p : Int) by rw [← HP2.out, Int.natCast_pow]; rfl, wrapI _ (by omega)]
    have hv3 : Value.int .i64 (bits .or .i64 (y : Int) (p : Int)) = .int .i64 ((y + p : Nat) : Int) := by rw [hor]
    have HA : Hid (a + 1 + f = t.sp.length) := by show _ = _; omega
    obtain ⟨W, hW, hsz, hB, bx⟩ := boxes1 w (.slice A t.sp.length c) (.slice A' t.lv.length c') 30
    obtain ⟨pb, po, rfl, hpb, hpc⟩ : ∃ b off, A = some ⟨b, off, none⟩ ∧ b < W.heap.size ∧ ∀ j (hj : j < t.sp.length), W.cell? ⟨b, off + j * 2, none⟩ = some (.int .i64 t.sp[j].1) ∧ W.cell? ⟨b, off + j * 2 + 1, none⟩ = some (.int .i64 t.sp[j].2) := by
      rcases hp.below hB with h | h
      · rw [h] at hlt; simp at hlt
      · exact h
    obtain ⟨py0, py1⟩ := hpc a hlt
    obtain ⟨F, hF⟩ : ∃ F, t.sp[a].1 = F := ⟨_, rfl⟩
    obtain ⟨G, hG⟩ : ∃ G, t.sp[a].2 = G := ⟨_, rfl⟩
    rw [hF] at py0
    rw [hG] at py1
    have HFG : Hid (t.sp[a].1 = F ∧ t.sp[a].2 = G) := ⟨hF, hG⟩
    obtain ⟨hbl, ⟨cx0, cx1⟩, _⟩ := id bx
    have HW : Hid (w.alloc (.cells #[.slice (some ⟨pb, po, none⟩) t.sp.length c, .slice A' t.lv.length c'] 30) = W) := hW
    have HBX : Hid (type_of% bx) := bx
    have HB : Hid (type_of% hB) := hB
    have HP : Hid (IsP W (some ⟨pb, po, none⟩) t.sp) := hp.below hB
    have HX : Hid (Li.IsL W A' t.lv) := hx.below hB
    have HIH : Hid (∀ (w : World) (A A' : Option Addr) (c c' : Nat) (a y : Nat), a + f = t.sp.length → y < 2 ^ a → IsP w A t.sp → Li.IsL w A' t.lv → Calls Try.prog 44 #[.agg #[.slice A t.sp.length c, .slice A' t.lv.length c'], .int .i64 a, .int .i64 y] w fun e w' => ∃ v, e = .returned v ∧ Nt t w' w.heap.size f v a y ∧ Below w.heap.size w w') := ih
    have hszl : w.heap.size < W.heap.size := by omega
    clear hpc hF hG hW bx hB hp hx ih ha hp2 hpw hor hsz
    go_enter Try.func44, Try.ntmps44
    go_wp2
    rw [HW.out]
    clear HW
    go_region_held (fun w' => (w'.cell? ⟨w.heap.size, 0, none⟩ = some (.slice (some ⟨pb, po, none⟩) t.sp.length c) ∧ w'.cell? ⟨w.heap.size, 1, none⟩ = some (.slice A' t.lv.length c')) ∧ w'.cell? ⟨pb, po + a * 2, none⟩ = some (.int .i64 F) ∧ w'.cell? ⟨pb, po + a * 2 + 1, none⟩ = some (.int .i64 G)) (go_keep) (first
      | (go_at_call_of 44 (Value.int .i64 (y : Int)); refine (HIH.out _ _ _ _ _ (a + 1) y HA.out (by rw [HK.out]; omega) (HP.out.below (below_drew _)) (HX.out.below (below_drew _))).mono ?_; rintro e w2 ⟨v1, rfl, hn1, hB2⟩; have hB2' : Below W.heap.size W w2 := (below_drew W).trans (hB2.mono (below_drew W).size); have HN1 : Hid (Nt t w2 W.heap.size f v1 (a + 1) y) := hn1; have HB2 : Hid (Below W.heap.size W w2) := hB2'; obtain ⟨hb2l, ⟨dx0, dx1⟩, _⟩ := HBX.out.below hB2'; have dp0 := (hB2'.cell (p := ⟨pb, po + a * 2, none⟩) hpb).trans py0; have dp1 := (hB2'.cell (p := ⟨pb, po + a * 2 + 1, none⟩) hpb).trans py1; have hs2 := hB2'.size; obtain ⟨T1, n1, hv1f⟩ := hn1.form; subst hv1f; clear hn1 hB2 hB2')
      | (go_at_call 44; refine (HIH.out _ _ _ _ _ (a + 1) (y + p) HA.out (by rw [HK.out]; omega) (HP.out.below HB2.out) (HX.out.below HB2.out)).mono ?_; rintro e w3 ⟨v2, rfl, hn2, hB3⟩; have HN2 : Hid (Nt t w3 w2.heap.size f v2 (a + 1) (y + p)) := hn2; have HN1' : Hid (Nt t w3 W.heap.size f (.iface T1 (.pointer (some ⟨n1, 0, none⟩))) (a + 1) y) := HN1.out.below hB3; have hB3' : Below W.heap.size W w3 := HB2.out.trans (hB3.mono HB2.out.size); have HB3 : Hid (Below W.heap.size W w3) := hB3'; obtain ⟨hb3l, ⟨ex0, ex1⟩, _⟩ := HBX.out.below hB3'; have ep0 := (hB3'.cell (p := ⟨pb, po + a * 2, none⟩) hpb).trans py0; have ep1 := (hB3'.cell (p := ⟨pb, po + a * 2 + 1, none⟩) hpb).trans py1; have hs3 := hB3.size; obtain ⟨T2, n2, hv2f⟩ := hn2.form; subst hv2f; clear hn2 hB3 hB3'))
    all_goals
      have hal2 := (Below.refl w3.heap.size w3).alloc (Nat.le_refl _) (.cells #[.int .i64 ((p : Int) - 1 + y), .int .i64 F, .int .i64 G, .iface T1 (.pointer (some ⟨n1, 0, none⟩)), .iface T2 (.pointer (some ⟨n2, 0, none⟩))] 82)
      have HN1f := HN1'.out.below hal2
      have HN2f := HN2.out.below hal2
      have hBf := (HB.out.trans (HB3.out.mono HB.out.size)).trans (hal2.mono (Nat.le_trans HB.out.size (Nat.le_trans HB3.out.size (Nat.le_refl _))))
      have c5 := cells5 w3 (.int .i64 ((p : Int) - 1 + y)) (.int .i64 F) (.int .i64 G) (.iface T1 (.pointer (some ⟨n1, 0, none⟩))) (.iface T2 (.pointer (some ⟨n2, 0, none⟩))) 82
      clear hal2
      go_wp2
      go_ret
      refine ⟨_, rfl, ⟨w3.heap.size, _, _, rfl, by omega, by simp, ⟨?_, ?_, ?_, c5.2.2.2.1, c5.2.2.2.2⟩, HN1f.mono (by omega), ?_⟩, hBf⟩
      · rw [c5.1, HP2.out]
        congr 2
        omega
      · rw [c5.2.1, HS.out, HFG.out.1]
      · rw [c5.2.2.1, HS.out, HFG.out.2]
      · rw [HP2.out]; exact HN2f.mono (by omega)
set_option maxHeartbeats 1000000 in
theorem atE (w : World) (b : Nat) (x : Int) (h : w.cell? ⟨b, 0, none⟩ = some (.int .i64 x)) : Calls Try.prog 76 #[.pointer (some ⟨b, 0, none⟩)] w fun e w' => e = .returned (.int .i64 x) ∧ w' = w := by
  go_enter Try.func76, Try.ntmps76
  go_wp2
  go_ret
  exact ⟨rfl, rfl⟩
set_option maxHeartbeats 1000000 in
theorem atA (w : World) (b : Nat) (x : Int) (h : w.cell? ⟨b, 0, none⟩ = some (.int .i64 x)) : Calls Try.prog 75 #[.pointer (some ⟨b, 0, none⟩)] w fun e w' => e = .returned (.int .i64 x) ∧ w' = w := by
  go_enter Try.func75, Try.ntmps75
  go_wp2
  go_ret
  exact ⟨rfl, rfl⟩
theorem taA (b : Option Addr) (w : World) : (Instr.typeAssert (.iface 80 (.pointer b)) 67 80 true).run Try.prog w = .ok (.tuple #[.pointer b, .bool true]) w := by kernel_rfl
theorem taN (b : Option Addr) (w : World) : (Instr.typeAssert (.iface 84 (.pointer b)) 67 80 true).run Try.prog w = .ok (.tuple #[.pointer none, .bool false]) w := by kernel_rfl
theorem taE (b : Option Addr) (w : World) : (Instr.typeAssert (.iface 84 (.pointer b)) 67 84 true).run Try.prog w = .ok (.tuple #[.pointer b, .bool true]) w := by kernel_rfl
theorem meA (b : Option Addr) (w : World) : (Go.method 205 80 (.pointer b) "loop.example/g00566/impl.at").run Try.prog w = .ok (75, .pointer b) w := by kernel_rfl
theorem meE (b : Option Addr) (w : World) : (Go.method 205 84 (.pointer b) "loop.example/g00566/impl.at").run Try.prog w = .ok (76, .pointer b) w := by kernel_rfl
theorem ownN_drew {w : World} {B : Nat} {v : Value} {ps : List Nd} (h : OwnN w B v ps) : OwnN w.drew B v ps := h
theorem gdrew {w w1 : World} {r : Option Nat} (h : w.grownBy w1 r) : w.grownBy w1.drew r := Li.grown_trans h ⟨rfl, rfl, rfl, Nat.le_refl _, fun _ _ _ => rfl⟩
theorem grownN (w : World) (g o : Nat) (a b c d e : Int) : w.grownBy (set5 w g o a b c d e).drew (some g) := gdrew (set5_grown w g o a b c d e)
/-- A node knows its place. -/
theorem place_of {t : T} {w : World} {lo f : Nat} {v : Value} {a y : Nat} (h : Nt t w lo f v a y) : ∀ T b, v = .iface T (.pointer (some ⟨b, 0, none⟩)) → b < w.heap.size ∧ lo ≤ b ∧ w.cell? ⟨b, 0, none⟩ = some (.int .i64 ((2 ^ a - 1 + y : Nat) : Int)) := by
  intro T b e
  cases f with
  | zero => obtain ⟨b', e', h1, h2, h3, _⟩ := h; rw [e'] at e; cases e; exact ⟨h2, h1, h3⟩
  | succ f => obtain ⟨b', v1, v2, e', h1, h2, ⟨h3, _⟩, _⟩ := h; rw [e'] at e; cases e; exact ⟨h2, h1, h3⟩
theorem kind_of {t : T} {w : World} {lo f : Nat} {v : Value} {a y : Nat} (h : Nt t w lo f v a y) : (f = 0 ∧ ∃ b, v = .iface 84 (.pointer (some ⟨b, 0, none⟩))) ∨ (0 < f ∧ ∃ b, v = .iface 80 (.pointer (some ⟨b, 0, none⟩))) := by
  cases f with
  | zero => obtain ⟨b, e, _⟩ := h; exact .inl ⟨rfl, b, e⟩
  | succ f => obtain ⟨b, v1, v2, e, _⟩ := h; exact .inr ⟨by omega, b, e⟩
theorem results_none' {fn : Func} (h : fn.results = #[]) (tmps : Array Value) (P : Program) (w : World) : (results fn tmps).run P w = .ok (.tuple #[]) w := results_none h tmps P w
set_option maxRecDepth 100000 in
set_option maxHeartbeats 8000000 in
theorem ilay (t : T) (ht : tok t = true) (f : Nat) : ∀ (w : World) (B g n cap : Nat) (l : List Nd) (v : Value) (a y lo : Nat), a + f = t.sp.length → y < 2 ^ a → l.length = n → n = 2 * 2 ^ t.sp.length - 1 → g < lo → OwnN w B (.slice (some ⟨g, 0, none⟩) n cap) l → Nt t w lo f v a y →
    Calls Try.prog 43 #[.slice (some ⟨g, 0, none⟩) n cap, v] w fun e w' => e = .returned (.tuple #[]) ∧ OwnN w' B (.slice (some ⟨g, 0, none⟩) n cap) (lay (nodeAt t) f a y l) ∧ w.grownBy w' (some g) := by
  have h4 := (tok_iff.1 ht).1.1
  induction f with
  | zero =>
    intro w B g n cap l v a y lo ha hy hl hn hg ho hnt
    obtain ⟨b, rfl, hlo, hb, c0, c1⟩ := hnt
    have hpl : 2 ^ a - 1 + y < n := by
      rw [hn, ← ha, Nat.add_zero]
      have := Nat.pow_pos (n := a) (show 0 < 2 by decide)
      omega
    have HND : Hid (nodeAt t a y = ⟨0, 0, -1, -1, t.lv.getD y 0⟩) := by show _ = _; unfold nodeAt; rw [if_pos (by omega)]
    obtain ⟨q, hq⟩ : ∃ q, 2 ^ a - 1 + y = q := ⟨_, rfl⟩
    have HLAY : Hid (lay (nodeAt t) 0 a y l = l.set q ⟨0, 0, -1, -1, t.lv.getD y 0⟩) := by show _ = _; rw [← hq, ← HND.out]; rfl
    obtain ⟨x, hxv⟩ : ∃ x, t.lv.getD y 0 = x := ⟨_, rfl⟩
    rw [hq] at c0 hpl
    rw [hxv] at c1 HLAY
    obtain ⟨d0, d1, d2, d3, d4⟩ := ho.cells hl q (by omega)
    have f0 := ho.frozen hl (q * 5)
    have f1 := ho.frozen hl (q * 5 + 1)
    have f2 := ho.frozen hl (q * 5 + 2)
    have f3 := ho.frozen hl (q * 5 + 3)
    have f4 := ho.frozen hl (q * 5 + 4)
    have hgl := (ho.ge g rfl).2
    have hn31 : n ≤ 31 := by rw [hn]; have := Nat.pow_le_pow_right (n := 2) (j := 4) (by decide) h4; omega
    have hgb : ¬ g = b := by omega
    obtain ⟨z0, z1, z2, z3, z4, k0, k1, k2, k3, k4⟩ : ∃ z0 z1 z2 z3 z4 : Int, w.cell? ⟨g, q * 5, none⟩ = some (.int .i64 z0) ∧ w.cell? ⟨g, q * 5 + 1, none⟩ = some (.int .i64 z1) ∧ w.cell? ⟨g, q * 5 + 2, none⟩ = some (.int .i64 z2) ∧ w.cell? ⟨g, q * 5 + 3, none⟩ = some (.int .i64 z3) ∧ w.cell? ⟨g, q * 5 + 4, none⟩ = some (.int .i64 z4) := ⟨_, _, _, _, _, d0, d1, d2, d3, d4⟩
    have HO : Hid (OwnN w B (.slice (some ⟨g, 0, none⟩) n cap) l ∧ l.length = n) := ⟨ho, hl⟩
    have tN := taN (some ⟨b, 0, none⟩)
    have tE := taE (some ⟨b, 0, none⟩)
    clear d0 d1 d2 d3 d4 ho hl hq hxv hn ha hy ht
    go_enter Try.func43, Try.ntmps43
    go_wp2
    go_region
    all_goals go_wp2
    all_goals refine bodyPost_end (results_none rfl _ _ _) rfl ⟨rfl, ?_, ?_⟩
    · rw [HLAY.out]; exact ownN_drew (HO.out.1.set HO.out.2 q 0 0 (-1) (-1) x)
    · exact grownN w g (q * 5) 0 0 (-1) (-1) x
  | succ f ih =>
    intro w B g n cap l v a y lo ha hy hl hn hg ho hnt
    obtain ⟨b, v1, v2, rfl, hlo, hb, ⟨c0, c1, c2, c3, c4⟩, hn1, hn2⟩ := hnt
    have h1p := Nat.pow_pos (n := a) (show 0 < 2 by decide)
    have hpp : 2 * 2 ^ a ≤ 2 ^ t.sp.length := by
      have := Nat.pow_le_pow_right (n := 2) (i := a + 1) (j := t.sp.length) (by decide) (by omega)
      rw [Nat.pow_succ] at this; omega
    have hpl : 2 ^ a - 1 + y < n := by rw [hn]; omega
    have hlt : a < t.sp.length := by omega
    have HK : Hid (2 ^ (a + 1) = 2 * 2 ^ a) := by show _ = _; rw [Nat.pow_succ]; omega
    have HND : Hid (nodeAt t a y = ⟨(t.sp.getD a (0, 0)).1, (t.sp.getD a (0, 0)).2, ((2 ^ (a + 1) - 1 + y : Nat) : Int), ((2 ^ (a + 1) - 1 + (y + 2 ^ a) : Nat) : Int), 0⟩) := by
      show _ = _; unfold nodeAt; rw [if_neg (by omega), Nat.add_assoc]
    obtain ⟨q, hq⟩ : ∃ q, 2 ^ a - 1 + y = q := ⟨_, rfl⟩
    obtain ⟨F, hF⟩ : ∃ F, (t.sp.getD a (0, 0)).1 = F := ⟨_, rfl⟩
    obtain ⟨G, hG⟩ : ∃ G, (t.sp.getD a (0, 0)).2 = G := ⟨_, rfl⟩
    have m1 := place_of hn1
    have m2 := place_of hn2
    obtain ⟨L, hL⟩ : ∃ L, ((2 ^ (a + 1) - 1 + y : Nat) : Int) = L := ⟨_, rfl⟩
    obtain ⟨M, hM⟩ : ∃ M, ((2 ^ (a + 1) - 1 + (y + 2 ^ a) : Nat) : Int) = M := ⟨_, rfl⟩
    rw [hL] at m1
    rw [hM] at m2
    have HLAY : Hid (lay (nodeAt t) (f + 1) a y l = lay (nodeAt t) f (a + 1) (y + 2 ^ a) (lay (nodeAt t) f (a + 1) y (l.set q ⟨F, G, L, M, 0⟩))) := by
      show _ = _
      have e : nodeAt t a y = ⟨F, G, L, M, 0⟩ := by rw [HND.out, hF, hG, hL, hM]
      rw [← e, ← hq]; rfl
    have HA : Hid (a + 1 + f = t.sp.length ∧ y < 2 ^ (a + 1) ∧ y + 2 ^ a < 2 ^ (a + 1)) := ⟨by omega, by rw [HK.out]; omega, by rw [HK.out]; omega⟩
    rw [hq] at c0 hpl
    rw [hF] at c1
    rw [hG] at c2
    have d5 := ho.cells hl q (by omega)
    obtain ⟨z0, z1, z2, z3, z4, k0, k1, k2, k3, k4⟩ : ∃ z0 z1 z2 z3 z4 : Int, w.cell? ⟨g, q * 5, none⟩ = some (.int .i64 z0) ∧ w.cell? ⟨g, q * 5 + 1, none⟩ = some (.int .i64 z1) ∧ w.cell? ⟨g, q * 5 + 2, none⟩ = some (.int .i64 z2) ∧ w.cell? ⟨g, q * 5 + 3, none⟩ = some (.int .i64 z3) ∧ w.cell? ⟨g, q * 5 + 4, none⟩ = some (.int .i64 z4) := ⟨_, _, _, _, _, d5⟩
    have f0 := ho.frozen hl (q * 5)
    have f1 := ho.frozen hl (q * 5 + 1)
    have f2 := ho.frozen hl (q * 5 + 2)
    have f3 := ho.frozen hl (q * 5 + 3)
    have f4 := ho.frozen hl (q * 5 + 4)
    have hgl := (ho.ge g rfl).2
    have hn31 : n ≤ 31 := by rw [hn]; have := Nat.pow_le_pow_right (n := 2) (j := 4) (by decide) h4; omega
    have hgb : ¬ g = b := by omega
    have HO : Hid (OwnN w B (.slice (some ⟨g, 0, none⟩) n cap) l ∧ l.length = n) := ⟨ho, hl⟩
    have HN1 : Hid (Nt t w lo f v1 (a + 1) y) := hn1
    have HN2 : Hid (Nt t w lo f v2 (a + 1) (y + 2 ^ a)) := hn2
    have HN : Hid (n = 2 * 2 ^ t.sp.length - 1) := hn
    have HI : Hid (type_of% ih) := ih
    have tA := taA (some ⟨b, 0, none⟩)
    have htf := kind_of hn1
    have htf2 := kind_of hn2
    clear d5 ho hl hq hF hG hL hM hn ha hy hn1 hn2 ih h1p hpp
    rcases htf with ⟨hf0, n1, rfl⟩ | ⟨hf0, n1, rfl⟩
    · rcases htf2 with ⟨_, n2, rfl⟩ | ⟨h', _⟩
      rotate_left
      · omega
      obtain ⟨hn1l, hn1o, p1⟩ := m1 _ _ rfl
      obtain ⟨hn2l, hn2o, p2⟩ := m2 _ _ rfl
      have e1 := meE (some ⟨n1, 0, none⟩)
      have e2 := meE (some ⟨n2, 0, none⟩)
      have hg1 : ¬ g = n1 := by omega
      have hg2 : ¬ g = n2 := by omega
      clear m1 m2
      go_enter Try.func43, Try.ntmps43
      go_wp2
      go_region_held (fun w' => (w'.cell? ⟨b, 0, none⟩ = some (.int .i64 (q : Int)) ∧ w'.cell? ⟨b, 1, none⟩ = some (.int .i64 F) ∧ w'.cell? ⟨b, 2, none⟩ = some (.int .i64 G) ∧ w'.cell? ⟨b, 3, none⟩ = some (.iface 84 (.pointer (some ⟨n1, 0, none⟩))) ∧ w'.cell? ⟨b, 4, none⟩ = some (.iface 84 (.pointer (some ⟨n2, 0, none⟩)))) ∧ w'.cell? ⟨n1, 0, none⟩ = some (.int .i64 L) ∧ w'.cell? ⟨n2, 0, none⟩ = some (.int .i64 M)) (go_keep) (first
        | (go_at_call_of 76 (Value.pointer (some ⟨n1, 0, none⟩)); refine (atE _ n1 L (by first | exact p1 | assumption)).mono ?_; rintro e w6 ⟨rfl, hw6⟩; subst w6)
        | (go_at_call_of 76 (Value.pointer (some ⟨n2, 0, none⟩)); refine (atE _ n2 M (by first | exact p2 | assumption)).mono ?_; rintro e w6 ⟨rfl, hw6⟩; subst w6))
      all_goals
        obtain ⟨W1, hW1, o1, hgw⟩ : ∃ W1, (((((w.setCell ⟨g, q * 5, none⟩ (.int .i64 F)).setCell ⟨g, q * 5 + 1, none⟩ (.int .i64 G)).setCell ⟨g, q * 5 + 2, none⟩ (.int .i64 L)).setCell ⟨g, q * 5 + 3, none⟩ (.int .i64 M)).setCell ⟨g, q * 5 + 4, none⟩ (.int .i64 0)).drew = W1 ∧ OwnN W1 B (.slice (some ⟨g, 0, none⟩) n cap) (l.set q ⟨F, G, L, M, 0⟩) ∧ w.grownBy W1 (some g) := ⟨_, rfl, ownN_drew (HO.out.1.set HO.out.2 q F G L M 0), grownN w g (q * 5) F G L M 0⟩
        rw [hW1]
        have hk1 : ∀ b, lo ≤ b → b < w.heap.size → W1.heap[b]? = w.heap[b]? := fun b h1 h2 => hgw.block b h2 (by simp; omega)
        have q1 := HN1.out.kept hgw.size hk1
        have q2 := HN2.out.kept hgw.size hk1
        have r3 : W1.cell? ⟨b, 3, none⟩ = some (.iface 84 (.pointer (some ⟨n1, 0, none⟩))) := (hgw.cell_far ⟨b, 3, none⟩ hb (by simp; omega)).trans c3
        have r4 : W1.cell? ⟨b, 4, none⟩ = some (.iface 84 (.pointer (some ⟨n2, 0, none⟩))) := (hgw.cell_far ⟨b, 4, none⟩ hb (by simp; omega)).trans c4
        have hb1 : b < W1.heap.size := Nat.lt_of_lt_of_le hb hgw.size
        clear hW1 hk1 k0 k1 k2 k3 k4 f0 f1 f2 f3 f4 c0 c1 c2 c3 c4 p1 p2
        go_wp2_with fail
        refine (HI.out W1 B g n cap _ _ (a + 1) y lo HA.out.1 HA.out.2.1 (by simp; exact HO.out.2) HN.out hg o1 q1).mono ?_
        rintro e w2 ⟨rfl, o2, hg2⟩
        have hk2 : ∀ b, lo ≤ b → b < W1.heap.size → w2.heap[b]? = W1.heap[b]? := fun b h1 h2 => hg2.block b h2 (by simp; omega)
        have q2 := q2.kept hg2.size hk2
        have r4 : w2.cell? ⟨b, 4, none⟩ = some (.iface 84 (.pointer (some ⟨n2, 0, none⟩))) := (hg2.cell_far ⟨b, 4, none⟩ hb1 (by simp; omega)).trans r4
        have hb2 : b < w2.heap.size := Nat.lt_of_lt_of_le hb1 hg2.size
        clear hk2 r3
        go_wp2_with fail
        refine (HI.out w2 B g n cap _ _ (a + 1) (y + 2 ^ a) lo HA.out.1 HA.out.2.2 (by rw [lay_length]; simp; exact HO.out.2) HN.out hg o2 q2).mono ?_
        rintro e w3 ⟨rfl, o3, hg3⟩
        clear r4
        go_wp2
        refine bodyPost_end (results_none rfl _ _ _) rfl ⟨rfl, ?_, Li.grown_trans hgw (Li.grown_trans hg2 hg3)⟩
        rw [HLAY.out]; exact o3
    · rcases htf2 with ⟨h', _⟩ | ⟨_, n2, rfl⟩
      · omega
      obtain ⟨hn1l, hn1o, p1⟩ := m1 _ _ rfl
      obtain ⟨hn2l, hn2o, p2⟩ := m2 _ _ rfl
      have e1 := meA (some ⟨n1, 0, none⟩)
      have e2 := meA (some ⟨n2, 0, none⟩)
      have hg1 : ¬ g = n1 := by omega
      have hg2 : ¬ g = n2 := by omega
      clear m1 m2
      go_enter Try.func43, Try.ntmps43
      go_wp2
      go_region_held (fun w' => (w'.cell? ⟨b, 0, none⟩ = some (.int .i64 (q : Int)) ∧ w'.cell? ⟨b, 1, none⟩ = some (.int .i64 F) ∧ w'.cell? ⟨b, 2, none⟩ = some (.int .i64 G) ∧ w'.cell? ⟨b, 3, none⟩ = some (.iface 80 (.pointer (some ⟨n1, 0, none⟩))) ∧ w'.cell? ⟨b, 4, none⟩ = some (.iface 80 (.pointer (some ⟨n2, 0, none⟩)))) ∧ w'.cell? ⟨n1, 0, none⟩ = some (.int .i64 L) ∧ w'.cell? ⟨n2, 0, none⟩ = some (.int .i64 M)) (go_keep) (first
        | (go_at_call_of 75 (Value.pointer (some ⟨n1, 0, none⟩)); refine (atA _ n1 L (by first | exact p1 | assumption)).mono ?_; rintro e w6 ⟨rfl, hw6⟩; subst w6)
        | (go_at_call_of 75 (Value.pointer (some ⟨n2, 0, none⟩)); refine (atA _ n2 M (by first | exact p2 | assumption)).mono ?_; rintro e w6 ⟨rfl, hw6⟩; subst w6))
      all_goals
        obtain ⟨W1, hW1, o1, hgw⟩ : ∃ W1, (((((w.setCell ⟨g, q * 5, none⟩ (.int .i64 F)).setCell ⟨g, q * 5 + 1, none⟩ (.int .i64 G)).setCell ⟨g, q * 5 + 2, none⟩ (.int .i64 L)).setCell ⟨g, q * 5 + 3, none⟩ (.int .i64 M)).setCell ⟨g, q * 5 + 4, none⟩ (.int .i64 0)).drew = W1 ∧ OwnN W1 B (.slice (some ⟨g, 0, none⟩) n cap) (l.set q ⟨F, G, L, M, 0⟩) ∧ w.grownBy W1 (some g) := ⟨_, rfl, ownN_drew (HO.out.1.set HO.out.2 q F G L M 0), grownN w g (q * 5) F G L M 0⟩
        rw [hW1]
        have hk1 : ∀ b, lo ≤ b → b < w.heap.size → W1.heap[b]? = w.heap[b]? := fun b h1 h2 => hgw.block b h2 (by simp; omega)
        have q1 := HN1.out.kept hgw.size hk1
        have q2 := HN2.out.kept hgw.size hk1
        have r3 : W1.cell? ⟨b, 3, none⟩ = some (.iface 80 (.pointer (some ⟨n1, 0, none⟩))) := (hgw.cell_far ⟨b, 3, none⟩ hb (by simp; omega)).trans c3
        have r4 : W1.cell? ⟨b, 4, none⟩ = some (.iface 80 (.pointer (some ⟨n2, 0, none⟩))) := (hgw.cell_far ⟨b, 4, none⟩ hb (by simp; omega)).trans c4
        have hb1 : b < W1.heap.size := Nat.lt_of_lt_of_le hb hgw.size
        clear hW1 hk1 k0 k1 k2 k3 k4 f0 f1 f2 f3 f4 c0 c1 c2 c3 c4 p1 p2
        go_wp2_with fail
        refine (HI.out W1 B g n cap _ _ (a + 1) y lo HA.out.1 HA.out.2.1 (by simp; exact HO.out.2) HN.out hg o1 q1).mono ?_
        rintro e w2 ⟨rfl, o2, hg2⟩
        have hk2 : ∀ b, lo ≤ b → b < W1.heap.size → w2.heap[b]? = W1.heap[b]? := fun b h1 h2 => hg2.block b h2 (by simp; omega)
        have q2 := q2.kept hg2.size hk2
        have r4 : w2.cell? ⟨b, 4, none⟩ = some (.iface 80 (.pointer (some ⟨n2, 0, none⟩))) := (hg2.cell_far ⟨b, 4, none⟩ hb1 (by simp; omega)).trans r4
        have hb2 : b < w2.heap.size := Nat.lt_of_lt_of_le hb1 hg2.size
        clear hk2 r3
        go_wp2_with fail
        refine (HI.out w2 B g n cap _ _ (a + 1) (y + 2 ^ a) lo HA.out.1 HA.out.2.2 (by rw [lay_length]; simp; exact HO.out.2) HN.out hg o2 q2).mono ?_
        rintro e w3 ⟨rfl, o3, hg3⟩
        clear r4
        go_wp2
        refine bodyPost_end (results_none rfl _ _ _) rfl ⟨rfl, ?_, Li.grown_trans hgw (Li.grown_trans hg2 hg3)⟩
        rw [HLAY.out]; exact o3
end Go.Proofs.Ytmkfmolihlnafaa.Gi
