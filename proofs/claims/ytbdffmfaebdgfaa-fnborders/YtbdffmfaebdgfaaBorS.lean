/-
  What the model sorts: the different numbers of a list, rising.
-/
import Derived.Test.YtbdffmfaebdgfaaBinB
import Derived.Test.YtbdffmfaebdgfaaApI
import Derived.Maps.AppendAt
namespace Go.Proofs.Ytbdffmfaebdgfaa.Bs
open Go.RowKit
open Go.Proofs.Ytbdffmfaebdgfaa.Li Go.Proofs.Ytbdffmfaebdgfaa.Bo Go.Proofs.Ytbdffmfaebdgfaa.Ai Go.Proofs.Ytbdffmfaebdgfaa.Bw

theorem Own.alloc' {w : World} {base : Nat} {v : Value} {xs : List Int} (h : Own w base v xs) (o : Obj) : Own (w.alloc o) base v xs := World.ownsRow.alloc h _
theorem isl_take {w : World} {base g n cap : Nat} {m : List Int} (h : Own w base (.slice (some ⟨g, 0, none⟩) n cap) m) (p : Nat) : IsL w (some ⟨g, 0, none⟩) (m.take p) := by
  obtain ⟨a, c, e, hi⟩ := h.isl
  cases e
  rcases hi with rfl | ⟨b, off, e, hb, hc⟩
  · exact .inl (by simp)
  · cases e
    refine .inr ⟨g, 0, rfl, hb, fun j hj => ?_⟩
    have hj' : j < m.length := by simp at hj; omega
    rw [hc j hj']; simp
theorem isl_drop {w : World} {base g n cap : Nat} {m : List Int} (h : Own w base (.slice (some ⟨g, 0, none⟩) n cap) m) (p : Nat) : IsL w (some ⟨g, p, none⟩) (m.drop p) := by
  obtain ⟨a, c, e, hi⟩ := h.isl
  cases e
  rcases hi with rfl | ⟨b, off, e, hb, hc⟩
  · exact .inl (by simp)
  · cases e
    refine .inr ⟨g, p, rfl, hb, fun j hj => ?_⟩
    have hj' : p + j < m.length := by simp at hj; omega
    have := hc (p + j) hj'
    rw [Nat.zero_add] at this
    rw [this]; simp
theorem own_eq {w : World} {base n : Nat} {v : Value} {l : List Int} {c : List Value} (hn : n = l.length) (hc : c = iv l) (h : w.ownsRow base 3 1 v n c) : Own w base v l := by
  subst hn; subst hc; exact h
theorem news_none {m : List Int} {p : Nat} (h : ¬ p < m.length) {w : World} {ad : Addr} : ∀ j u, (iv (m.drop p))[j]? = some u → w.cell? (ad.add j) = some u := by
  intro j u hj
  rw [List.drop_eq_nil_of_le (by omega)] at hj
  simp [iv] at hj
theorem own_at {w : World} {base : Nat} {v : Value} {m : List Int} (h : Own w base v m) (hv : v ≠ .slice none 0 0) : ∃ g cap, v = .slice (some ⟨g, 0, none⟩) m.length cap ∧ g < w.heap.size ∧ m.length ≤ cap := by
  rcases h.2 with ⟨e, _⟩ | ⟨g, cap, cur, e, hb, hh, hc, _⟩
  · exact absurd e hv
  · exact ⟨g, cap, e, (Array.getElem?_eq_some_iff.1 hh).1, hc⟩
set_option maxRecDepth 100000 in
set_option maxHeartbeats 4000000 in
theorem ssort (w : World) (a : Option Addr) (cp : Nat) (xs : List Int) (hx : IsL w a xs) (hl : xs.length ≤ 1048576) :
    Calls Try.prog 25 #[.slice a xs.length cp] w fun e w' => ∃ v, e = .returned v ∧ Own w' w.heap.size v (srt xs) ∧ Below w.heap.size w w' := by
  obtain ⟨i0, hi, hz0, hz1, hz2⟩ := info_parts info_int
  go_enter Try.func25, Try.ntmps25
  go_wp2
  go_loopw [3, 4] (fun v i wr => ∃ k : Nat, k ≤ xs.length ∧ i = .int .i64 k ∧ ∃ m : List Int, m = srt (xs.take k) ∧ ∃ g cap, v = .slice (some ⟨g, 0, none⟩) m.length cap ∧ Own wr w.heap.size (.slice (some ⟨g, 0, none⟩) m.length cap) m ∧ m.length ≤ cap ∧ Below w.heap.size w wr) (fun _ i _ => xs.length - (intOf i).toNat)
  case atStart => exact ⟨0, Nat.zero_le _, rfl, [], rfl, w.heap.size, 0, rfl, own_empty _ _ (Nat.le_refl _), Nat.le_refl _, (Below.refl _ _).alloc (Nat.le_refl _) _⟩
  case round =>
    obtain ⟨k, hk, rfl, m, hm, g, cap, rfl, hown, hcap, hB⟩ := hrel
    have HM : Hid (m = srt (xs.take k)) := hm
    have hml : m.length ≤ k := by rw [hm]; have := srt_len (xs.take k); simp at this; omega
    clear hm
    by_cases hlt : k < xs.length
    · rcases hx with rfl | ⟨b, off, rfl, hbw, hc⟩
      · simp at hlt
      have hcw := hc k hlt
      have HT : Hid (srt (xs.take (k + 1)) = ins (srt (xs.take k)) xs[k]) := srt_take hlt
      obtain ⟨x, ex⟩ : ∃ x, xs[k] = x := ⟨_, rfl⟩
      rw [ex] at hcw HT
      have HT : Hid (srt (xs.take (k + 1)) = ins m x) := by rw [HM.out]; exact HT
      clear ex hc HM
      go_wp2
      go_loopw [5] (fun q wq => ∃ p : Nat, p ≤ m.length ∧ q = .int .i64 p ∧ (∀ j (h : j < m.length), j < p → m[j] < x) ∧ Own wq w.heap.size (.slice (some ⟨g, 0, none⟩) m.length cap) m ∧ Below w.heap.size w wq) (fun q _ => m.length - (intOf q).toNat)
      case atStart => exact ⟨0, Nat.zero_le _, rfl, fun j h hj => by omega, hown, hB⟩
      case round =>
        clear hown hB
        obtain ⟨p, hp, rfl, hless, hown, hB⟩ := hrel
        have HL : Hid (∀ j (h : j < m.length), j < p → m[j] < x) := hless
        clear hless
        have hs := hB.size
        have hcx : wr.cell? ⟨b, off + k, none⟩ = some (.int .i64 x) := (hB.cell (by exact hbw)).trans hcw
        by_cases hpl : p < m.length
        · have hcm := hown.cell rfl p hpl
          by_cases hv : m[p] < x
          · have HN : Hid (∀ j (h : j < m.length), j < p + 1 → m[j] < x) := fun j h hj => by
              by_cases e : j = p
              · subst e; exact hv
              · exact HL.out j h (by omega)
            have HO : Hid (∀ n, Own (wr.drewN n) w.heap.size (.slice (some ⟨g, 0, none⟩) m.length cap) m) := fun n => hown.drewN n
            have HB : Hid (∀ n, Below w.heap.size w (wr.drewN n)) := fun n => below_drewN hB n
            obtain ⟨y, ey⟩ : ∃ y, m[p] = y := ⟨_, rfl⟩
            rw [ey] at hcm hv
            clear ey hown hB
            go_wp2
            go_quiet (fail)
            go_wp2
            go_roundw
            case rel => exact ⟨p + 1, by omega, by go_num, HN.out, HO.out _, HB.out _⟩
            case measure => simp [intOf]; omega
          · have hins := ins_at (l := m) (x := x) p hp HL.out (fun _ => hv)
            have HO : Hid (Own wr w.heap.size (.slice (some ⟨g, 0, none⟩) m.length cap) m) := hown
            have hgl : g < wr.heap.size := (hown.ge g rfl).2
            by_cases he : m[p] = x
            · have HR : Hid (m = srt (xs.take (k + 1))) := by show _ = _; rw [HT.out, hins, if_pos ⟨hpl, he⟩]
              have HB : Hid (∀ n, Below w.heap.size w (wr.drewN n)) := fun n => below_drewN hB n
              obtain ⟨y, ey⟩ : ∃ y, m[p] = y := ⟨_, rfl⟩
              rw [ey] at hcm hv he
              have hee : (y == x) = true := by simpa using he
              clear ey hown hB hins he
              go_wp2
              go_quiet (fail)
              go_wp2
              go_quiet (fail)
              go_wp2
              go_roundw
              case rel =>
                exact ⟨k + 1, by omega, by go_num, m, HR.out, g, cap, rfl, HO.out.drewN _, hcap, HB.out _⟩
              case measure => simp [intOf]; omega
            · have HR : Hid (m.take p ++ [x] ++ m.drop p = srt (xs.take (k + 1))) := by show _ = _; rw [HT.out, hins, if_neg (fun h => he h.2)]
              obtain ⟨y, ey⟩ : ∃ y, m[p] = y := ⟨_, rfl⟩
              rw [ey] at hcm hv he
              have hee : (y == x) = false := by simpa using he
              clear ey hins he
              go_wp2
              go_quiet (fail)
              go_wp2
              go_quiet (fail)
              -- the number put in at its place
              go_wp2_with (at_builtin; refine wpList_append_own_at _ rfl _ _ 24 rfl w.heap.size 3 i0 (.int .i64 0) 1 8 Try.underlying24 hi hz0 hz1 hz2 rfl (by decide) (.slice (some ⟨wr.heap.size, 0, none⟩) 0 0) 0 [] rfl (own_empty _ _ hs) ⟨g, 0, none⟩ p cap (iv (m.take p)) rfl (by rw [iv_length]; simp; omega) (news_i (isl_take (Own.alloc' (hown.drewN _) _) p)) (iv_one _) (by unfold maxLen; omega) (by omega) (by simp; omega) ?_)
              intro v1 w3 ho3 hg3 hn3 hl3
              have ho3 : Own w3 w.heap.size v1 (m.take p) := own_eq (by simp; omega) (by simp [iv]) ho3
              have hv1 : v1 ≠ .slice none 0 0 := by first | exact hn3 | exact fun e => by have := (hn3.1 e).1; cases this
              have ho3' : Own w3 w.heap.size (.slice (some ⟨g, 0, none⟩) m.length cap) m := Own.kept (Own.alloc' (hown.drewN _) _) hg3 (.inr (by simp [Value.ownBlock]; omega))
              have hb3 : ∀ k, v1.ownBlock = some k → g < k := fun k hk => by
                rcases hl3 with h | h <;> rw [hk] at h <;> simp [Value.ownBlock] at h <;> omega
              have hB3 : Below w.heap.size w w3 := below_app ((below_drewN hB _).alloc hs _) (by simp; omega) hg3 (fun k hk => by simp [Value.ownBlock] at hk; omega)
              have hs3 := hB3.size
              clear hn3 hl3 hg3
              have hcx3 : w3.cell? ⟨b, off + k, none⟩ = some (.int .i64 x) := (hB3.cell (by exact hbw)).trans hcw
              go_wp2_with (at_builtin; refine wpList_append_own _ rfl _ _ 24 rfl w.heap.size 3 i0 (.int .i64 0) 1 8 Try.underlying24 hi hz0 hz1 hz2 rfl (by decide) v1 (m.take p).length _ rfl (World.ownsRow.alloc ho3 _) ⟨w3.heap.size, 0, none⟩ 1 1 [.int .i64 x] rfl rfl (one_cell _ _ _) (one_one _) (by simp; unfold maxLen; omega) (by simp; omega) (by simp; omega) ?_)
              intro v2 w4 ho4 hg4 hn4
              have ho4 : Own w4 w.heap.size v2 (m.take p ++ [x]) := own_eq (by simp; omega) (by simp [iv]) ho4
              have hv2 : v2 ≠ .slice none 0 0 := by first | exact hn4 | exact fun e => hv1 (hn4.1 e).1
              have ho4' : Own w4 w.heap.size (.slice (some ⟨g, 0, none⟩) m.length cap) m := Own.kept (World.ownsRow.alloc ho3' _) hg4 (.inr (fun e => by have := hb3 g e.symm; omega))
              have hB4 : Below w.heap.size w w4 := below_app (hB3.alloc hs3 _) (by simp; omega) hg4 (fun k hk => (ho3.ge k hk).1)
              have hs4 := hB4.size
              clear hn4 hg4 ho3 ho3' hB3 hcx3 hb3 hv1
              go_wp2_with (at_builtin; refine wpList_append_own _ rfl _ _ 24 rfl w.heap.size 3 i0 (.int .i64 0) 1 8 Try.underlying24 hi hz0 hz1 hz2 rfl (by decide) v2 (m.take p ++ [x]).length _ rfl ho4 ⟨g, p, none⟩ (m.length - p) _ (iv (m.drop p)) rfl (by rw [iv_length]; simp) (news_i (isl_drop ho4' p)) (iv_one _) (by simp; unfold maxLen; omega) (by simp; omega) (by omega) ?_)
              all_goals
                intro v3 w5 ho5 hg5 hn5
                have ho5 : Own w5 w.heap.size v3 (m.take p ++ [x] ++ m.drop p) := own_eq (by simp; omega) (by simp [iv]) ho5
                have hv3 : v3 ≠ .slice none 0 0 := by first | exact hn5 | exact fun e => hv2 (hn5.1 e).1
                have hB5 : Below w.heap.size w w5 := below_app hB4 hs4 hg5 (fun k hk => (ho4.ge k hk).1)
                clear hn5 hg5 ho4 ho4' hB4 hv2
                obtain ⟨g', cap', hv, hgl, hgc⟩ := own_at ho5 hv3
                have HV : Hid (v3 = .slice (some ⟨g', 0, none⟩) (m.take p ++ [x] ++ m.drop p).length cap') := hv
                clear hv
                go_wp2
                go_roundw
                all_goals first
                  | exact ⟨k + 1, by omega, by go_num, m.take p ++ [x] ++ m.drop p, HR.out, g', cap', HV.out, by rw [← HV.out]; exact ho5, hgc, hB5⟩
                  | (simp [intOf]; omega)
        · have hins := ins_at (l := m) (x := x) p hp HL.out (fun h => absurd h hpl)
          have hgl : g < wr.heap.size := (hown.ge g rfl).2
          have HR : Hid (m.take p ++ [x] ++ m.drop p = srt (xs.take (k + 1))) := by show _ = _; rw [HT.out, hins, if_neg (fun h => hpl h.1)]
          have hpd : decide (p < m.length) = false := by simp; omega
          have hpd' : decide ((p : Int) < (m.length : Int)) = false := by simp; omega
          clear hins
          go_wp2
          go_quiet (fail)
          go_wp2
          go_quiet (fail)
          -- the number put in at its place
          go_wp2_with (at_builtin; refine wpList_append_own_at _ rfl _ _ 24 rfl w.heap.size 3 i0 (.int .i64 0) 1 8 Try.underlying24 hi hz0 hz1 hz2 rfl (by decide) (.slice (some ⟨wr.heap.size, 0, none⟩) 0 0) 0 [] rfl (own_empty _ _ hs) ⟨g, 0, none⟩ p cap (iv (m.take p)) rfl (by rw [iv_length]; simp; omega) (news_i (isl_take (Own.alloc' (hown.drewN _) _) p)) (iv_one _) (by unfold maxLen; omega) (by omega) (by simp; omega) ?_)
          intro v1 w3 ho3 hg3 hn3 hl3
          have ho3 : Own w3 w.heap.size v1 (m.take p) := own_eq (by simp; omega) (by simp [iv]) ho3
          have hv1 : v1 ≠ .slice none 0 0 := by first | exact hn3 | exact fun e => by have := (hn3.1 e).1; cases this
          have ho3' : Own w3 w.heap.size (.slice (some ⟨g, 0, none⟩) m.length cap) m := Own.kept (Own.alloc' (hown.drewN _) _) hg3 (.inr (by simp [Value.ownBlock]; omega))
          have hb3 : ∀ k, v1.ownBlock = some k → g < k := fun k hk => by
            rcases hl3 with h | h <;> rw [hk] at h <;> simp [Value.ownBlock] at h <;> omega
          have hB3 : Below w.heap.size w w3 := below_app ((below_drewN hB _).alloc hs _) (by simp; omega) hg3 (fun k hk => by simp [Value.ownBlock] at hk; omega)
          have hs3 := hB3.size
          clear hn3 hl3 hg3
          have hcx3 : w3.cell? ⟨b, off + k, none⟩ = some (.int .i64 x) := (hB3.cell (by exact hbw)).trans hcw
          go_wp2_with (at_builtin; refine wpList_append_own _ rfl _ _ 24 rfl w.heap.size 3 i0 (.int .i64 0) 1 8 Try.underlying24 hi hz0 hz1 hz2 rfl (by decide) v1 (m.take p).length _ rfl (World.ownsRow.alloc ho3 _) ⟨w3.heap.size, 0, none⟩ 1 1 [.int .i64 x] rfl rfl (one_cell _ _ _) (one_one _) (by simp; unfold maxLen; omega) (by simp; omega) (by simp; omega) ?_)
          intro v2 w4 ho4 hg4 hn4
          have ho4 : Own w4 w.heap.size v2 (m.take p ++ [x]) := own_eq (by simp; omega) (by simp [iv]) ho4
          have hv2 : v2 ≠ .slice none 0 0 := by first | exact hn4 | exact fun e => hv1 (hn4.1 e).1
          have ho4' : Own w4 w.heap.size (.slice (some ⟨g, 0, none⟩) m.length cap) m := Own.kept (World.ownsRow.alloc ho3' _) hg4 (.inr (fun e => by have := hb3 g e.symm; omega))
          have hB4 : Below w.heap.size w w4 := below_app (hB3.alloc hs3 _) (by simp; omega) hg4 (fun k hk => (ho3.ge k hk).1)
          have hs4 := hB4.size
          clear hn4 hg4 ho3 ho3' hB3 hcx3 hb3 hv1
          by_cases hcp : cap = p
          · have hcp := hcp.symm
            subst hcp
            go_wp2_with (at_builtin; refine wpList_append_own _ rfl _ _ 24 rfl w.heap.size 3 i0 (.int .i64 0) 1 8 Try.underlying24 hi hz0 hz1 hz2 rfl (by decide) v2 (m.take p ++ [x]).length _ rfl ho4 ⟨g, 0, none⟩ 0 _ [] rfl rfl (fun j u hj => by simp at hj) (fun u hu => by simp at hu) (by simp; unfold maxLen; omega) (by simp; omega) (by omega) ?_)
            all_goals
              intro v3 w5 ho5 hg5 hn5
              have ho5 : Own w5 w.heap.size v3 (m.take p ++ [x] ++ m.drop p) := own_eq (by simp; omega) (by simp [iv, List.drop_eq_nil_of_le (show m.length ≤ p by omega)]) ho5
              have hv3 : v3 ≠ .slice none 0 0 := by first | exact hn5 | exact fun e => hv2 (hn5.1 e).1
              have hB5 : Below w.heap.size w w5 := below_app hB4 hs4 hg5 (fun k hk => (ho4.ge k hk).1)
              clear hn5 hg5 ho4 ho4' hB4 hv2
              obtain ⟨g', cap', hv, hgl, hgc⟩ := own_at ho5 hv3
              have HV : Hid (v3 = .slice (some ⟨g', 0, none⟩) (m.take p ++ [x] ++ m.drop p).length cap') := hv
              clear hv
              go_wp2
              go_roundw
              all_goals first
                | exact ⟨k + 1, by omega, by go_num, m.take p ++ [x] ++ m.drop p, HR.out, g', cap', HV.out, by rw [← HV.out]; exact ho5, hgc, hB5⟩
                | (simp [intOf]; omega)
          · have hpc : p < cap := by omega
            clear hcp
            go_wp2_with (at_builtin; refine wpList_append_own _ rfl _ _ 24 rfl w.heap.size 3 i0 (.int .i64 0) 1 8 Try.underlying24 hi hz0 hz1 hz2 rfl (by decide) v2 (m.take p ++ [x]).length _ rfl ho4 ⟨g, p, none⟩ (m.length - p) _ (iv (m.drop p)) rfl (by rw [iv_length]; simp) (news_none hpl) (iv_one _) (by simp; unfold maxLen; omega) (by simp; omega) (by omega) ?_)
            all_goals
              intro v3 w5 ho5 hg5 hn5
              have ho5 : Own w5 w.heap.size v3 (m.take p ++ [x] ++ m.drop p) := own_eq (by simp; omega) (by simp [iv]) ho5
              have hv3 : v3 ≠ .slice none 0 0 := by first | exact hn5 | exact fun e => hv2 (hn5.1 e).1
              have hB5 : Below w.heap.size w w5 := below_app hB4 hs4 hg5 (fun k hk => (ho4.ge k hk).1)
              clear hn5 hg5 ho4 ho4' hB4 hv2
              obtain ⟨g', cap', hv, hgl, hgc⟩ := own_at ho5 hv3
              have HV : Hid (v3 = .slice (some ⟨g', 0, none⟩) (m.take p ++ [x] ++ m.drop p).length cap') := hv
              clear hv
              go_wp2
              go_roundw
              all_goals first
                | exact ⟨k + 1, by omega, by go_num, m.take p ++ [x] ++ m.drop p, HR.out, g', cap', HV.out, by rw [← HV.out]; exact ho5, hgc, hB5⟩
                | (simp [intOf]; omega)
    · obtain rfl : k = xs.length := by omega
      have HR : Hid (srt xs = m) := by show _ = _; rw [HM.out, List.take_length]
      go_wp2
      go_ret
      exact ⟨_, rfl, by rw [HR.out]; exact hown, hB⟩
end Go.Proofs.Ytbdffmfaebdgfaa.Bs
