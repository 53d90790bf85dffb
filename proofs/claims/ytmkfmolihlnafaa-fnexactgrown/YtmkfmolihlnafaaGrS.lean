/-
  Grown of the model: the nodes, level by level.
-/
import Derived.Test.YtmkfmolihlnafaaTrE
import Derived.Test.YtmkfmolihlnafaaTrN
import Derived.Test.YtmkfmolihlnafaaApI
import Derived.Deep.AppendLies
import Derived.Deep.RegionHeldLaw
namespace Go.Proofs.Ytmkfmolihlnafaa.Gw
open Go.RowKit
open Go.Proofs.Ytmkfmolihlnafaa.Li (ret_bool ret_int below_none)
open Go.Proofs.Ytmkfmolihlnafaa.Tr Go.Proofs.Ytmkfmolihlnafaa.Tm
set_option linter.unusedVariables false

def five (n : Nd) : List Value := [.int .i64 n.f, .int .i64 n.b, .int .i64 n.l, .int .i64 n.r, .int .i64 n.v]
theorem five_cell (w : World) (T : TypeId) (n : Nd) (H : Nat) (hH : w.heap.size = H) : ∀ j u, (five n)[j]? = some u → (w.alloc (.cells #[.int .i64 n.f, .int .i64 n.b, .int .i64 n.l, .int .i64 n.r, .int .i64 n.v] T)).cell? ((⟨H, 0, none⟩ : Addr).add j) = some u := by
  subst hH
  intro j u hj
  match j, hj with
  | 0, hj => simp [five] at hj; subst hj; simp [Addr.add]
  | 1, hj => simp [five] at hj; subst hj; simp [Addr.add]
  | 2, hj => simp [five] at hj; subst hj; simp [Addr.add]
  | 3, hj => simp [five] at hj; subst hj; simp [Addr.add]
  | 4, hj => simp [five] at hj; subst hj; simp [Addr.add]
  | j + 5, hj => simp [five] at hj
theorem five_one (n : Nd) : ∀ u ∈ five n, u.oneCell' = true := by
  intro u hu; simp [five] at hu; rcases hu with rfl | rfl | rfl | rfl | rfl <;> rfl
theorem ownN_snoc {w : World} {base m : Nat} {v : Value} {l : List Nd} {n : Nd} (hn : l.length = m) (h : w.ownsRow base 64 5 v (m + 1) (nv l ++ five n)) : OwnN w base v (l ++ [n]) := by
  subst hn
  unfold OwnN
  rw [← nv_append, List.length_append]
  exact h
theorem wrapI (n : Int) (h : -9223372036854775808 ≤ n ∧ n ≤ 9223372036854775807) : IntKind.i64.wrap n = n := by
  simp [IntKind.wrap, IntKind.bits, IntKind.signed]; omega
theorem same_cell {B : Nat} {w w1 w2 : World} {v : Value} (h1 : Below B w w1) (h2 : Below B w w2) (p : Addr) (hp : p.block < B) (hc : w2.cell? p = some v) : w1.cell? p = some v := (h1.cell hp).trans ((h2.cell hp).symm.trans hc)
theorem emptyN (w : World) (base : Nat) (hb : base ≤ w.heap.size) : OwnN (w.alloc (.cells #[] 64)) base (.slice (some ⟨w.heap.size, 0, none⟩) 0 0) [] :=
  World.ownsRow_made w #[] 0 hb (by unfold maxLen; omega) (by simp)
theorem ownN_alloc {w : World} {B : Nat} {v : Value} {ps : List Nd} (h : OwnN w B v ps) (o : Obj) : OwnN (w.alloc o) B v ps := World.ownsRow.alloc h o
theorem node_leaf {t : T} {n : Nat} (hn : n < t.lv.length) : nodeAt t t.sp.length n = ⟨0, 0, -1, -1, t.lv[n]⟩ := by
  unfold nodeAt; rw [if_pos rfl]; simp [List.getD_eq_getElem?_getD, List.getElem?_eq_getElem hn]
theorem node_ask {t : T} {k n : Nat} (hk : k < t.sp.length) : nodeAt t k n = ⟨t.sp[k].1, t.sp[k].2, ((2 ^ (k + 1) - 1 + n : Nat) : Int), ((2 ^ (k + 1) - 1 + n + 2 ^ k : Nat) : Int), 0⟩ := by
  unfold nodeAt; rw [if_neg (by omega)]; simp [List.getD_eq_getElem?_getD, List.getElem?_eq_getElem hk]
set_option maxRecDepth 100000 in
set_option maxHeartbeats 8000000 in
theorem sgrown (w : World) (a a' : Option Addr) (c c' : Nat) (t : T) (hp : IsP w a t.sp) (hx : Li.IsL w a' t.lv) (hl : t.sp.length + t.lv.length ≤ 1048576) :
    Calls Try.prog 20 #[.agg #[.slice a t.sp.length c, .slice a' t.lv.length c']] w fun e w' => ∃ v, e = .returned v ∧ OwnN w' w.heap.size v (grown t) ∧ Below w.heap.size w w' := by
  obtain ⟨i0, hi, hz0, hz1, hz2⟩ := info_parts info_nd
  obtain ⟨R, hR⟩ : ∃ R, grown t = R := ⟨_, rfl⟩
  rw [hR]
  have HR : Hid (grown t = R) := hR
  clear hR
  have HP0 : Hid (IsP w a t.sp) := hp
  have HX0 : Hid (Li.IsL w a' t.lv) := hx
  go_enter Try.func20, Try.ntmps20
  go_wp2_with fail
  obtain ⟨W, hW, hsz, hB, bx⟩ := boxes1 w (.slice a t.sp.length c) (.slice a' t.lv.length c') 30
  rw [hW]
  clear hW
  have hbl := bx.1
  have bx := bx.alloc (.cells #[] 64)
  have ho := emptyN W (w.heap.size + 1) (by omega)
  rw [hsz] at ho
  have hB := hB.alloc hB.size (.cells #[] 64)
  have hp := hp.below hB
  have hx := hx.below hB
  obtain ⟨W1, hW1⟩ : ∃ W1, W.alloc (.cells #[] 64) = W1 := ⟨_, rfl⟩
  rw [hW1] at bx ho hB hp hx ⊢
  clear hW1 hsz hbl
  refine (Tw.stok _ _ _ _ _ t hp hx hl).mono ?_
  rintro e w1 ⟨rfl, hB1⟩
  have bx := bx.below hB1
  have hp := hp.below hB1
  have hx := hx.below hB1
  have ho := ho.below hB1
  have hB := hB.trans (hB1.mono hB.size)
  clear hB1
  cases ht : tok t with
  | false =>
    obtain rfl : R = [] := by rw [← HR.out]; exact grown_no ht
    go_wp2
    go_ret
    exact ⟨_, rfl, ho.mono (by omega), hB⟩
  | true =>
    have HRY : Hid (rows (nodeAt t) (t.sp.length + 1) = R) := (grown_yes ht).symm.trans HR.out
    have h4 := (tok_iff.1 ht).1.1
    have HLV : Hid (t.lv.length = 2 ^ t.sp.length) := (tok_iff.1 ht).1.2
    have HBX : Hid (type_of% bx) := bx
    have HB : Hid (type_of% hB) := hB
    clear ht HR bx hp hx hB
    go_wp2
    go_loopw [3, 4, 5] (fun u q i wr => ∃ k : Nat, k ≤ t.sp.length + 1 ∧ i = .int .i64 k ∧ q = .int .i64 ((2 ^ k - 1 : Nat) : Int) ∧ OwnN wr (w.heap.size + 1) u (rows (nodeAt t) k) ∧ Below (w.heap.size + 1) w1 wr) (fun _ _ i _ => t.sp.length + 1 - (intOf i).toNat)
    case atStart => exact ⟨0, Nat.zero_le _, rfl, rfl, ho, Below.refl _ _⟩
    case round =>
      clear ho
      obtain ⟨k, hk, rfl, rfl, ho, hBr⟩ := hrel
      have hs1 := hBr.size
      have bxr := HBX.out.keptAt hBr.size (hBr.block _ (Nat.lt_succ_self _))
      obtain ⟨hblr, ⟨cx0, cx1⟩, _⟩ := id bxr
      by_cases hlt : k ≤ t.sp.length
      · have hpk : 2 ^ k ≤ 16 := Nat.pow_le_pow_right (n := 2) (j := 4) (by decide) (by omega)
        have h1p : 0 < 2 ^ k := Nat.pow_pos (by decide)
        have hpw := Tw.pow_d k (by omega)
        have HRow : Hid (rows (nodeAt t) (k + 1) = rows (nodeAt t) k ++ level (nodeAt t) k) := rfl
        have HK : Hid (2 ^ (k + 1) = 2 * 2 ^ k) := by show _ = _; rw [Nat.pow_succ]; omega
        have HLen := level_length (nodeAt t) k
        have hrl := rows_length (nodeAt t) k
        obtain ⟨p, hp2⟩ : ∃ p, 2 ^ k = p := ⟨_, rfl⟩
        have HP2 : Hid (2 ^ k = p) := hp2
        rw [hp2] at hpk h1p hpw HK HLen hrl ⊢
        have HLL : Hid ((level (nodeAt t) k).length = p ∧ (rows (nodeAt t) k).length = p - 1) := ⟨HLen, hrl⟩
        have hpv : Value.int .i64 (wrap64 (2 ^ k)) = .int .i64 (p : Int) := by rw [hpw]
        have HO : Hid (type_of% ho) := ho
        have HBr : Hid (type_of% hBr) := hBr
        clear hpw hp2 HLen hrl ho hBr
        go_wp2
        go_loopw [3, 7] (fun u i wq => ∃ n : Nat, n ≤ p ∧ i = .int .i64 n ∧ OwnN wq (w.heap.size + 1) u (rows (nodeAt t) k ++ (level (nodeAt t) k).take n) ∧ Below (w.heap.size + 1) w1 wq) (fun _ i _ => p - (intOf i).toNat)
        case atStart => exact ⟨0, Nat.zero_le _, rfl, by simpa using HO.out, HBr.out⟩
        case round =>
          obtain ⟨n, hn, rfl, ho, hBq⟩ := hrel
          have hBw : Below w.heap.size w wr := HB.out.trans (hBq.mono (Nat.le_succ _))
          have hsq := hBq.size
          have bxq := HBX.out.keptAt hBq.size (hBq.block _ (Nat.lt_succ_self _))
          obtain ⟨hblq, ⟨cx0, cx1⟩, _⟩ := id bxq
          by_cases hnp : n < p
          · have hml : (rows (nodeAt t) k ++ (level (nodeAt t) k).take n).length ≤ 40 := by
              have h1 := HLL.out
              rw [List.length_append, List.length_take, h1.1, h1.2]; omega
            have HTK : Hid (rows (nodeAt t) k ++ (level (nodeAt t) k).take (n + 1) = rows (nodeAt t) k ++ (level (nodeAt t) k).take n ++ [nodeAt t k n]) := by
              show _ = _
              rw [level_take _ _ _ (by rw [HP2.out]; exact hnp), List.append_assoc]
            obtain ⟨m, hm⟩ : ∃ m, rows (nodeAt t) k ++ (level (nodeAt t) k).take n = m := ⟨_, rfl⟩
            rw [hm] at ho hml HTK
            obtain ⟨au, cu, hu, _, _⟩ := ho.isn
            subst hu
            by_cases hkd : k = t.sp.length
            · have hkb : ((k : Int) == (t.sp.length : Int)) = true := by simp; omega
              have hnl : n < t.lv.length := by rw [HLV.out, ← hkd, HP2.out]; exact hnp
              have HND : Hid (nodeAt t k n = ⟨0, 0, -1, -1, t.lv[n]⟩) := by show _ = _; rw [hkd]; exact node_leaf hnl
              obtain ⟨xb, xo, rfl, hxb, hxc⟩ := Tw.isl_pos (HX0.out.below hBw) hnl
              have hcx := hxc n hnl
              obtain ⟨x, hxv⟩ : ∃ x, t.lv[n] = x := ⟨_, rfl⟩
              rw [hxv] at hcx HND
              clear hxc hkd hxv hm
              go_wp2_with (at_builtin; refine wpList_append_lies _ rfl _ _ 38 rfl (w.heap.size + 1) 64 i0 (.agg #[.int .i64 0, .int .i64 0, .int .i64 0, .int .i64 0, .int .i64 0]) 5 40 Try.underlying38 hi hz0 hz1 hz2 rfl (by decide) _ m.length (nv m) rfl (ownN_alloc ho _) ⟨wr.heap.size, 0, none⟩ 1 1 (five ⟨0, 0, -1, -1, x⟩) rfl rfl (five_cell _ _ _ _ rfl) (five_one _) (by decide) (by unfold maxLen; omega) (by omega) (by simp; omega) _ rfl ?_)
              intro g cap w6 hown hgrow _ _
              have ho6 := ownN_snoc rfl hown
              have hB6 : Below (w.heap.size + 1) w1 w6 := Ai.below_app (hBq.alloc (by omega) _) (by simp; omega) hgrow (fun k hk => (ho.ge k hk).1)
              have HO6 : Hid (OwnN w6 (w.heap.size + 1) (.slice (some ⟨g, 0, none⟩) (m.length + 1) cap) (rows (nodeAt t) k ++ (level (nodeAt t) k).take (n + 1))) := by
                show OwnN _ _ _ _
                rw [HTK.out, HND.out]; exact ho6
              clear hown hgrow ho6
              go_wp2
              go_roundw
              case rel =>
                rw [hpv]
                (repeat apply Exists.intro)
                refine And.intro ?_ ?_
                rotate_left
                · rfl
                · exact ⟨n + 1, by omega, by go_num, HO6.out, hB6⟩
              case measure => simp [intOf]; omega
            · have hkb : ((k : Int) == (t.sp.length : Int)) = false := by simp; omega
              have hkl : k < t.sp.length := by omega
              have HND : Hid (nodeAt t k n = ⟨t.sp[k].1, t.sp[k].2, ((p - 1 : Nat) : Int) + p + n, ((p - 1 : Nat) : Int) + p + n + p, 0⟩) := by
                show _ = _
                rw [node_ask hkl]
                have h1 := HK.out
                have h2 := HP2.out
                rw [h1, h2]
                refine Nd.ext' rfl rfl ?_ ?_ rfl
                · simp only; omega
                · simp only; omega
              obtain ⟨pb, po, rfl, hpb, hpc⟩ : ∃ b off, a = some ⟨b, off, none⟩ ∧ b < wr.heap.size ∧ ∀ j (hj : j < t.sp.length), wr.cell? ⟨b, off + j * 2, none⟩ = some (.int .i64 t.sp[j].1) ∧ wr.cell? ⟨b, off + j * 2 + 1, none⟩ = some (.int .i64 t.sp[j].2) := by
                rcases HP0.out.below hBw with h | h
                · rw [h] at hkl; simp at hkl
                · exact h
              have hpb0 : pb < w.heap.size := by
                rcases HP0.out with h | ⟨b, off, e, hb, _⟩
                · rw [h] at hkl; simp at hkl
                · cases e; exact hb
              obtain ⟨py0, py1⟩ := hpc k hkl
              obtain ⟨f, hf⟩ : ∃ f, t.sp[k].1 = f := ⟨_, rfl⟩
              obtain ⟨b, hb⟩ : ∃ b, t.sp[k].2 = b := ⟨_, rfl⟩
              rw [hf] at py0 HND
              rw [hb] at py1 HND
              obtain ⟨q1, hq1⟩ : ∃ q1 : Int, ((p - 1 : Nat) : Int) + p + n = q1 := ⟨_, rfl⟩
              obtain ⟨q3, hq3⟩ : ∃ q3 : Int, q1 + p = q3 := ⟨_, rfl⟩
              have hv1 : Value.int .i64 (IntKind.i64.wrap (((p - 1 : Nat) : Int) + p + n)) = .int .i64 q1 := by rw [hq1, wrapI _ (by omega)]
              have hv2 : Value.int .i64 (IntKind.i64.wrap (2 ^ k)) = .int .i64 (p : Int) := by rw [show (2 : Int) ^ k = (p : Int) by rw [← HP2.out, Int.natCast_pow]; rfl, wrapI _ (by omega)]
              have hv3 : Value.int .i64 (IntKind.i64.wrap (q1 + p)) = .int .i64 q3 := by rw [hq3, wrapI _ (by omega)]
              rw [hq1, hq3] at HND
              clear hq1 hq3
              have HOo : Hid (type_of% ho) := ho
              have HBq : Hid (type_of% hBq) := hBq
              clear hpc hkd hf hb hm ho hBq hBw bxq
              go_wp2
              go_region_held_law (fun w' => (w'.cell? ⟨w.heap.size, 0, none⟩ = some (.slice (some ⟨pb, po, none⟩) t.sp.length c)) ∧ w'.cell? ⟨pb, po + k * 2, none⟩ = some (.int .i64 f) ∧ w'.cell? ⟨pb, po + k * 2 + 1, none⟩ = some (.int .i64 b)) (go_keep) (first | (refine step_append_lies _ rfl _ _ 38 rfl (w.heap.size + 1) 64 i0 (.agg #[.int .i64 0, .int .i64 0, .int .i64 0, .int .i64 0, .int .i64 0]) 5 40 Try.underlying38 hi hz0 hz1 hz2 rfl (by decide) _ m.length (nv m) rfl (ownN_alloc HOo.out _) ⟨_, 0, none⟩ 1 1 (five ⟨f, b, q1, q3, 0⟩) rfl rfl (five_cell wr 64 ⟨f, b, q1, q3, 0⟩ _ rfl) (five_one _) (by decide) (by unfold maxLen; omega) (by omega) (by simp; omega) _ rfl ?_; intro g cap w6 hown hgrow hpos hglt; have hB6 : Below (w.heap.size + 1) w1 w6 := Ai.below_app ((HBq.out.alloc (by omega) _).drew) (by simp; omega) hgrow (fun k hk => (HOo.out.ge k hk).1); have HB6 : Hid (type_of% hB6) := hB6; have ho6 := ownN_snoc rfl hown; have HO6 : Hid (type_of% ho6) := ho6; have cw0 := same_cell hB6 HBq.out ⟨w.heap.size, 0, none⟩ (Nat.lt_succ_self _) cx0; have cw1 := same_cell hB6 HBq.out ⟨pb, po + k * 2, none⟩ (by show pb < _; omega) py0; have cw2 := same_cell hB6 HBq.out ⟨pb, po + k * 2 + 1, none⟩ (by show pb < _; omega) py1; clear hown hgrow hpos ho6 hB6))
              all_goals
                have HO7 : Hid (OwnN w6 (w.heap.size + 1) (.slice (some ⟨g, 0, none⟩) (m.length + 1) cap) (rows (nodeAt t) k ++ (level (nodeAt t) k).take (n + 1))) := by
                  show OwnN _ _ _ _
                  rw [HTK.out, HND.out]; exact HO6.out
                clear HO6
                go_wp2
                go_roundw
                case rel =>
                  rw [hpv]
                  (repeat apply Exists.intro)
                  refine And.intro ?_ ?_
                  rotate_left
                  · rfl
                  · exact ⟨n + 1, by omega, by go_num, HO7.out, HB6.out⟩
                case measure => simp [intOf]; omega
          · obtain rfl : n = p := by omega
            have HO7 : Hid (OwnN wr (w.heap.size + 1) u3 (rows (nodeAt t) (k + 1))) := by
              have h := ho
              rw [List.take_of_length_le (by rw [HLL.out.1]; omega), ← HRow.out] at h
              exact h
            clear ho
            go_wp2
            go_roundw
            case rel => exact ⟨k + 1, by omega, by go_num, by rw [HK.out]; go_num, HO7.out, hBq⟩
            case measure => simp [intOf]; omega
      · obtain rfl : k = t.sp.length + 1 := by omega
        have HO7 : Hid (OwnN wr (w.heap.size + 1) u3 R) := by have h := ho; rw [HRY.out] at h; exact h
        have HBw : Hid (Below w.heap.size w wr) := HB.out.trans (hBr.mono (Nat.le_succ _))
        clear ho
        go_wp2
        go_ret
        exact ⟨_, rfl, HO7.out.mono (by omega), HBw.out⟩
end Go.Proofs.Ytmkfmolihlnafaa.Gw
