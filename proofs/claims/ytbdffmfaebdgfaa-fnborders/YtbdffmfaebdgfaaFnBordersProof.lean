/-
  Proved here: the Go function laws.FnBorders, called with any arguments that can be read, returns true, and each argument reads afterwards as it read before ('Rows.FnBordersSaid', no condition beyond the row's own). The frame was written by the guide's program; the walk and its contracts are by hand.
-/
import Derived.Test.YtbdffmfaebdgfaaRows
import Derived.WalkKit
import Derived.ProofKit
import Derived.OpenShut
import Derived.ShutString
import Derived.ChangeOld
import Derived.Below
import Derived.Test.YtbdffmfaebdgfaaDrawO
import Derived.Test.YtbdffmfaebdgfaaBorI
namespace Go.Proofs.Ytbdffmfaebdgfaa.fnBorders
open Go.ChangeShapes Go.WideShapes Go.ChangeAt Go.RowKit
open Go.Proofs.Ytbdffmfaebdgfaa.Li Go.Proofs.Ytbdffmfaebdgfaa.Bo
open Go.ChangeMaps (open_string shut_string)
set_option linter.unusedVariables false

theorem own : ownKnob Try.prog.godebug = none := by kernel_rfl
theorem laidOut : laidOutB Try.prog = true := by kernel_rfl

/-- WHAT THE WALK IS TOLD OF A SLICE OF INTEGERS THAT CAME IN: it is nil; or it leads to a row of 'cap' cells, the numbers 'zs' (the first 'len' are its elements, the rest its spare room), each fitting its kind. -/
def IsRow (k : IntKind) (w : World) (a : Option Addr) (len cap : Nat) (zs : List Int) : Prop :=
  (a = none ∧ len = 0 ∧ cap = 0 ∧ zs = []) ∨
  ∃ x, a = some x ∧ len ≤ cap ∧ cap ≤ maxLen ∧ zs.length = cap ∧ (∀ i, i < zs.length → w.cell? (x.add i) = some (.int k (zs.getD i 0))) ∧ ∀ n ∈ zs, (Lit.int k n).wf = true

/-- What is read of three lists, and that nothing old has turned. -/
def Trio (w wr : World) (a b c : Option Addr) (xs bs ms : List Int) : Prop := IsL wr a xs ∧ IsL wr b bs ∧ IsL wr c ms ∧ Below w.heap.size w wr
theorem Trio.drewN {w wr : World} {a b c : Option Addr} {xs bs ms : List Int} (h : Trio w wr a b c xs bs ms) (n : Nat) : Trio w (wr.drewN n) a b c xs bs ms :=
  ⟨h.1.drewN n, h.2.1.drewN n, h.2.2.1.drewN n, below_drewN h.2.2.2 n⟩
def mvd (xs : List Int) : List Int := xs.map (· + 777)
theorem mvd_take {xs : List Int} {k : Nat} (h : k < xs.length) : mvd (xs.take (k + 1)) = mvd (xs.take k) ++ [xs[k] + 777] := by
  unfold mvd
  rw [List.take_succ_eq_append_getElem h, List.map_append]; rfl
theorem aok_snoc (l : List Int) (x : Int) : aok (l ++ [x]) = (aok l && fok x) := by simp [aok]
/-! ### STEP 1: THE WALK: the Go text returns true, AND WRITES NOTHING THAT WAS THERE: 'Below w.heap.size w w'' (Derived/Below.lean: '.refl', '.alloc', '.drew', '.setCell' at a new block, '.trans'). Open each 'IsRow' by 'rcases' AHEAD of 'go_enter'; part every test ahead of the walk. -/
set_option maxHeartbeats 4000000 in
theorem walk (a0 : Option Addr) (len0 cap0 : Nat) (z0 : List Int) (w : World) (w0 : IsRow .u8 w a0 len0 cap0 z0) :
    Calls Try.prog 3 #[.slice a0 len0 cap0] w fun e w' => e = .returned (.bool true) ∧ Below w.heap.size w w' := by
  have key : ∀ (a : Option Addr) (len cap : Nat) (z : List Int), IsRow .u8 w a len cap z → Cu.Bytes w w.heap.size a len := by
    intro a len cap z h
    rcases h with ⟨rfl, rfl, rfl, rfl⟩ | ⟨x, rfl, hl, _, hz, hc, hw⟩
    · exact .inl rfl
    · exact Cu.bytes_of _ (Nat.le_refl _) hl hz hc hw
  have B0 := key _ _ _ _ w0
  clear key w0
  obtain ⟨i0, hi, hz0, hz1, hz2⟩ := info_parts info_int
  by_cases hb0 : 1048576 < len0
  · have e0 : decide (1048576 < len0) = true := by simpa using hb0
    go_enter Try.func3, Try.ntmps3
    go_wp2_with (go_at_call 5; refine (Cu.big_any _ _ _ _).mono ?_; rintro e w' ⟨rfl, hw⟩; subst w')
    go_ret
    exact ⟨rfl, Below.refl _ _⟩
  have e0 : decide (1048576 < len0) = false := by simpa using hb0
  go_enter Try.func3, Try.ntmps3
  go_wp2_with (go_at_call 5; refine (Cu.big_any _ _ _ _).mono ?_; rintro e w' ⟨rfl, hw⟩; subst w')
  refine (Dn.drawBorders_any _ _ _ _ B0 (by omega)).mono ?_
  rintro e w1 ⟨vl, xs, y, rfl, hxl, hol, hB⟩
  clear B0 hb0 e0
  obtain ⟨al, cl, rfl, il⟩ := hol.isl
  clear hol
  have hbl := bor_len12 xs y
  have HBK : Hid (bok (bor xs y) = true) := bor_bok xs y
  have HMEM : Hid (∀ k (h : k < (bor xs y).length), (bor xs y)[k] ∈ xs) := fun k h => bor_mem h
  have HTOP : Hid (∀ k (h : k < (bor xs y).length) (t : Int), (∀ x ∈ xs, x ≤ t) → (bor xs y)[k] < t) := fun k h t ht => bor_top h ht
  have HMOST : Hid (¬ (bor xs y).length = 0 → ((bor xs y).length : Int) ≤ y) := fun h => bor_most h
  have HYES : Hid (¬ (bor xs y).length = 0 → aok xs = true) := fun h => (bor_yes_of h).2.2.2
  have HMAP : Hid (¬ (bor xs y).length = 0 → aok (mvd xs) = true → bor (mvd xs) y = (bor xs y).map (· + 777)) := fun h h' => bor_map 777 (bor_yes_of h) h'
  obtain ⟨bs, hbs⟩ : ∃ bs, bor xs y = bs := ⟨_, rfl⟩
  have HBS : Hid (bor xs y = bs) := hbs
  rw [hbs] at hbl HBK HMEM HTOP HMOST HYES HMAP
  clear hbs
  go_wp2_with fail
  refine (Bi.ibor _ _ _ xs y il (by omega)).mono ?_
  rintro e w2 ⟨vb, rfl, hob, hB2⟩
  rw [HBS.out] at hob
  have il := il.below hB2
  have hB := hB.trans (hB2.mono hB.size)
  clear hB2
  obtain ⟨ab, cb, rfl, ib⟩ := hob.isl
  clear hob
  go_wp2_with fail
  refine (Bs.sbor _ _ _ xs y il (by omega)).mono ?_
  rintro e w3 ⟨vs, rfl, hos, hB3⟩
  rw [HBS.out] at hos
  have il := il.below hB3
  have ib := ib.below hB3
  have hB := hB.trans (hB3.mono hB.size)
  clear hB3
  obtain ⟨as', cs', rfl, is'⟩ := hos.isl
  clear hos
  go_wp2_with fail
  refine (same_bel _ _ _ _ _ bs bs ib is' (by omega) (by omega)).mono ?_
  rintro e w4 ⟨rfl, hB4⟩
  rw [eqs_self]
  have il := il.below hB4
  have ib := ib.below hB4
  have hB := hB.trans (hB4.mono hB.size)
  clear hB4 is'
  go_wp2_with fail
  refine (Bw.ibokB _ _ _ bs ib (by omega)).mono ?_
  rintro e w5 ⟨rfl, hB5⟩
  rw [HBK.out]
  have il := il.below hB5
  have ib := ib.below hB5
  have hB := hB.trans (hB5.mono hB.size)
  clear hB5
  by_cases hb0 : bs.length = 0
  · have hb0' : ((bs.length : Int) == 0) = true := by simpa using hb0
    clear hb0
    go_wp2
    go_ret
    exact ⟨rfl, hB⟩
  have hb0' : ((bs.length : Int) == 0) = false := by simpa using hb0
  have HOK := HYES.out hb0
  have HOK : Hid (aok xs = true) := HOK
  have HLE : Hid ((bs.length : Int) ≤ y) := HMOST.out hb0
  have HMAP : Hid (aok (mvd xs) = true → bor (mvd xs) y = bs.map (· + 777)) := fun h => HMAP.out hb0 h
  have hx0 : 0 < xs.length := by
    have := HMEM.out 0 (by omega)
    exact List.length_pos_of_mem this
  have hbpos : 0 < bs.length := by omega
  have hdle : decide ((bs.length : Int) ≤ y) = true := decide_eq_true HLE.out
  have HS : Hid (w.heap.size ≤ w5.heap.size) := hB.size
  clear HYES HMOST hb0
  rcases id il with h0 | ⟨bx, ox, rfl, hbx, hcx⟩
  · rw [h0] at hx0; simp at hx0
  have HCX : Hid (∀ j (hj : j < xs.length), w5.cell? ⟨bx, ox + j, none⟩ = some (.int .i64 xs[j])) := hcx
  have hc0 : w5.cell? ⟨bx, ox, none⟩ = some (.int .i64 xs[0]) := by have := hcx 0 hx0; rwa [Nat.add_zero] at this
  have HT0 : Hid (∀ j (hj : j < xs.length), j < 0 → xs[j] ≤ xs[0]) := fun j hj h => by omega
  obtain ⟨T0, hT0⟩ : ∃ T, xs[0] = T := ⟨_, rfl⟩
  rw [hT0] at hc0 HT0
  clear hcx hT0
  go_wp2
  go_loopw [6, 7, 8, 9] (fun t v q i wr => ∃ k : Nat, k ≤ xs.length ∧ i = .int .i64 k ∧ ∃ T : Int, t = .int .i64 T ∧ (∀ j (hj : j < xs.length), j < k → xs[j] ≤ T) ∧ ∃ m : List Int, m = mvd (xs.take k) ∧ q = .bool (aok m) ∧ Own wr w5.heap.size v m ∧ Below w5.heap.size w5 wr) (fun _ _ _ i _ => xs.length - (intOf i).toNat)
  case atStart => exact ⟨0, Nat.zero_le _, rfl, T0, rfl, HT0.out, [], rfl, rfl, Ai.own_empty _ _ (Nat.le_refl _), (Below.refl _ _).alloc (Nat.le_refl _) _⟩
  case round =>
    obtain ⟨k, hk, rfl, T, rfl, hT, m, hm, rfl, hom, hBm⟩ := hrel
    have HT : Hid (∀ j (hj : j < xs.length), j < k → xs[j] ≤ T) := hT
    have HM : Hid (m = mvd (xs.take k)) := hm
    have hml : m.length = k := by rw [hm]; simp [mvd]; omega
    have HML : Hid (m.length = k) := hml
    have hsm := hBm.size
    clear hT hm hml
    by_cases hlt : k < xs.length
    · have hck : wr.cell? ⟨bx, ox + k, none⟩ = some (.int .i64 xs[k]) := (hBm.cell (by exact hbx)).trans (HCX.out k hlt)
      have hfk := fok_iff.1 (aok_at HOK.out k hlt)
      have HN : Hid (mvd (xs.take (k + 1)) = mvd (xs.take k) ++ [xs[k] + 777]) := mvd_take hlt
      have HT1 : Hid (¬ T < xs[k] → ∀ j (hj : j < xs.length), j < k + 1 → xs[j] ≤ T) := fun h j hj h' => by
        by_cases e : j = k
        · subst e; omega
        · exact HT.out j hj (by omega)
      have HT2 : Hid (T < xs[k] → ∀ j (hj : j < xs.length), j < k + 1 → xs[j] ≤ xs[k]) := fun h j hj h' => by
        by_cases e : j = k
        · subst e; exact Int.le_refl _
        · have := HT.out j hj (by omega); omega
      obtain ⟨x, ex⟩ : ∃ x, xs[k] = x := ⟨_, rfl⟩
      rw [ex] at hck hfk HN HT1 HT2
      have HN : Hid (m ++ [x + 777] = mvd (xs.take (k + 1))) := by show _ = _; rw [HN.out, HM.out]
      have HA : Hid (aok (m ++ [x + 777]) = (aok m && fok (x + 777))) := aok_snoc _ _
      obtain ⟨hf1, hf2⟩ := hfk
      clear ex
      obtain ⟨qa, hqa⟩ : ∃ q, aok m = q := ⟨_, rfl⟩
      rw [hqa] at HA ⊢
      clear hqa
      by_cases hTx : T < x
      case' pos => have HTT : Hid (∀ j (hj : j < xs.length), j < k + 1 → xs[j] ≤ x) := HT2.out hTx
      case' neg => have HTT : Hid (∀ j (hj : j < xs.length), j < k + 1 → xs[j] ≤ T) := HT1.out hTx
      all_goals
        clear HT1 HT2
        go_wp2_with (at_builtin; refine wpList_append_own _ rfl _ _ 24 rfl w5.heap.size 3 i0 (.int .i64 0) 1 8 Try.underlying24 hi hz0 hz1 hz2 rfl (by decide) u7 m.length _ rfl (World.ownsRow.alloc hom _) ⟨wr.heap.size, 0, none⟩ 1 1 [.int .i64 (x + 777)] rfl rfl (Ai.one_cell _ _ _) (Ai.one_one _) (by have := HML.out; unfold maxLen; omega) (by have := HML.out; omega) (by simp; omega) ?_)
        intro v' w6 hown' hgrow hnn
        clear hnn
        have ho6 : Own w6 w5.heap.size v' (m ++ [x + 777]) := Ai.own_snoc rfl hown'
        have hB6 : Below w5.heap.size w5 w6 := Ai.below_app (hBm.alloc hsm _) (by simp; omega) hgrow (fun k hk => (hom.ge k hk).1)
        have hck6 : w6.cell? ⟨bx, ox + k, none⟩ = some (.int .i64 x) := (hB6.cell (by exact hbx)).trans ((hBm.cell (by exact hbx)).symm.trans hck)
        clear hown' hgrow hom hBm hck
        cases qa
        · have HAE : Hid (aok (m ++ [x + 777]) = false) := by rw [HA.out]; rfl
          go_wp2
          go_roundw
          all_goals first
            | exact ⟨k + 1, by omega, by go_num, _, rfl, HTT.out, m ++ [x + 777], HN.out, by rw [HAE.out], ho6, hB6⟩
            | (simp [intOf]; omega)
        · have HAE : Hid (aok (m ++ [x + 777]) = fok (x + 777)) := by rw [HA.out]; rfl
          go_wp2_with (go_at_call 11; refine (Bw.sok _ _).mono ?_; rintro e w' ⟨rfl, hw⟩; subst w')
          go_roundw
          all_goals first
            | exact ⟨k + 1, by omega, by go_num, _, rfl, HTT.out, m ++ [x + 777], HN.out, by rw [HAE.out], ho6, hB6⟩
            | (simp [intOf]; omega)
    · obtain rfl : k = xs.length := by omega
      have HM : Hid (m = mvd xs) := by show _ = _; rw [HM.out, List.take_length]
      have HTX : Hid (∀ x ∈ xs, x ≤ T) := fun x hx => by
        obtain ⟨j, hj, rfl⟩ := List.getElem_of_mem hx
        exact HT.out j hj hj
      clear HT HT0 HCX hc0
      obtain ⟨am, cm, hvm, im⟩ := hom.isl
      subst hvm
      have HTRIO : Hid (Trio w wr (some ⟨bx, ox, none⟩) ab am xs bs m) := ⟨il.below hBm, ib.below hBm, im, hB.trans (hBm.mono HS.out)⟩
      obtain ⟨qa, hqa⟩ : ∃ q, aok m = q := ⟨_, rfl⟩
      have HQA : Hid (aok m = qa) := hqa
      rw [hqa]
      clear hqa hom hBm im il ib hB hlt hk hsm
      go_wp2
      go_loopw [10] (fun i wr => ∃ k : Nat, k ≤ bs.length ∧ i = .int .i64 k ∧ Trio w wr (some ⟨bx, ox, none⟩) ab am xs bs m) (fun i _ => bs.length - (intOf i).toNat)
      case atStart => exact ⟨0, Nat.zero_le _, rfl, HTRIO.out⟩
      case round =>
        clear HTRIO
        obtain ⟨k, hk, rfl, tri⟩ := hrel
        have HTRI : Hid (Trio w wr (some ⟨bx, ox, none⟩) ab am xs bs m) := tri
        clear tri
        by_cases hlt : k < bs.length
        · have HIN : Hid (bs[k] ∈ xs) := HMEM.out k hlt
          have hbt : bs[k] < T := HTOP.out k hlt T HTX.out
          obtain ⟨t, et⟩ : ∃ t, bs[k] = t := ⟨_, rfl⟩
          have HET : Hid (bs[k] = t) := et
          rw [et] at HIN hbt
          clear et
          go_wp2
          go_loopw [11, 12] (fun q i wr => ∃ n : Nat, n ≤ xs.length ∧ i = .int .i64 n ∧ ∃ r : Bool, q = .bool r ∧ (r = true ∨ ∀ j (hj : j < xs.length), j < n → ¬ xs[j] = t) ∧ Trio w wr (some ⟨bx, ox, none⟩) ab am xs bs m) (fun _ i _ => xs.length - (intOf i).toNat)
          case atStart => exact ⟨0, Nat.zero_le _, rfl, false, rfl, .inr (fun j hj h => by omega), HTRI.out⟩
          case round =>
            clear HTRI
            obtain ⟨n, hn, rfl, r, rfl, hr, tri⟩ := hrel
            have HTRI : Hid (Trio w wr (some ⟨bx, ox, none⟩) ab am xs bs m) := tri
            have HRR : Hid (r = true ∨ ∀ j (hj : j < xs.length), j < n → ¬ xs[j] = t) := hr
            clear hr
            obtain ⟨ix, ib, im, hBr⟩ := tri
            rcases ib with h0 | ⟨bb, ob, rfl, hbb, hcb⟩
            · rw [h0] at hlt; simp at hlt
            have hcbk := hcb k hlt
            rw [HET.out] at hcbk
            clear hcb im
            by_cases hlt2 : n < xs.length
            · rcases ix with h0 | ⟨bx', ox', e, hbx', hcx'⟩
              · rw [h0] at hlt2; simp at hlt2
              cases e
              have hcxn := hcx' n hlt2
              clear hcx'
              cases r
              · by_cases he : xs[n] = t
                · have hee : (xs[n] == t) = true := by simpa using he
                  clear he
                  obtain ⟨z, ez⟩ : ∃ z, xs[n] = z := ⟨_, rfl⟩
                  rw [ez] at hcxn hee
                  clear ez
                  go_wp2
                  go_quiet (fail)
                  go_wp2
                  go_roundw
                  all_goals first
                    | exact ⟨n + 1, by omega, by go_num, true, rfl, .inl rfl, HTRI.out.drewN _⟩
                    | (simp [intOf]; omega)
                · have HNN : Hid (∀ j (hj : j < xs.length), j < n + 1 → ¬ xs[j] = t) := fun j hj h => by
                    by_cases e : j = n
                    · subst e; exact he
                    · rcases HRR.out with h1 | h1
                      · cases h1
                      · exact h1 j hj (by omega)
                  have hee : (xs[n] == t) = false := by simpa using he
                  clear he
                  obtain ⟨z, ez⟩ : ∃ z, xs[n] = z := ⟨_, rfl⟩
                  rw [ez] at hcxn hee
                  clear ez
                  go_wp2
                  go_quiet (fail)
                  go_wp2
                  go_roundw
                  all_goals first
                    | exact ⟨n + 1, by omega, by go_num, false, rfl, .inr HNN.out, HTRI.out.drewN _⟩
                    | (simp [intOf]; omega)
              · go_wp2
                go_quiet (fail)
                go_wp2
                go_roundw
                all_goals first
                  | exact ⟨n + 1, by omega, by go_num, true, rfl, .inl rfl, HTRI.out.drewN _⟩
                  | (simp [intOf]; omega)
            · have hrt : r = true := by
                rcases HRR.out with h1 | h1
                · exact h1
                · obtain ⟨j, hj, e⟩ := List.getElem_of_mem HIN.out
                  exact absurd e (h1 j hj (by omega))
              subst hrt
              have hge : decide (T ≤ t) = false := decide_eq_false (by omega)
              have hge' : ¬ T ≤ t := by omega
              clear HRR
              go_wp2
              go_roundw
              all_goals first
                | exact ⟨k + 1, by omega, by go_num, HTRI.out⟩
                | (simp [intOf]; omega)
        · obtain ⟨ix, ib, im, hBr⟩ := HTRI.out
          obtain rfl : k = bs.length := by omega
          cases qa
          · go_wp2
            go_ret
            exact ⟨rfl, hBr⟩
          have HBM : Hid (bor m y = bs.map (· + 777)) := by rw [HM.out]; exact HMAP.out (by rw [← HM.out]; exact HQA.out)
          have HFB : Hid (aok bs = true) := (bok_iff.1 HBK.out).2.1
          go_wp2_with fail
          refine (Bi.ibor _ _ _ m y im (by have := HML.out; omega)).mono ?_
          rintro e w7 ⟨vc, rfl, hoc, hB7⟩
          rw [HBM.out] at hoc
          have ib := ib.below hB7
          have hBr := hBr.trans (hB7.mono hBr.size)
          have hmb : (bs.map (· + 777)).length = bs.length := by simp
          obtain ⟨ac, cc, hvc, ic⟩ := hoc.isl
          rw [hmb] at hvc
          subst hvc
          have HMB : Hid ((bs.map (· + 777)).length = bs.length) := hmb
          clear hB7 hoc hmb im ix
          have hne : ((bs.length : Int) != (bs.length : Int)) = false := by simp
          have HIC : Hid (IsL w7 ac (bs.map (· + 777)) ∧ IsL w7 ab bs ∧ Below w.heap.size w w7) := ⟨ic, ib, hBr⟩
          clear ic ib hBr HTRI
          go_wp2
          go_loopw [14] (fun i wr => ∃ k : Nat, k ≤ bs.length ∧ i = .int .i64 k ∧ IsL wr ac (bs.map (· + 777)) ∧ IsL wr ab bs ∧ Below w.heap.size w wr) (fun i _ => bs.length - (intOf i).toNat)
          case atStart => exact ⟨0, Nat.zero_le _, rfl, HIC.out⟩
          case round =>
            clear HIC
            obtain ⟨k, hk, rfl, ic, ib, hBr⟩ := hrel
            have HIC : Hid (IsL wr ac (bs.map (· + 777)) ∧ IsL wr ab bs ∧ Below w.heap.size w wr) := ⟨ic, ib, hBr⟩
            by_cases hlt : k < bs.length
            · rcases ib with h0 | ⟨bb, ob, rfl, hbb, hcb⟩
              · rw [h0] at hlt; simp at hlt
              rcases ic with h0 | ⟨bc, oc, rfl, hbc, hcc⟩
              · have := HMB.out; rw [h0] at this; simp at this; omega
              have h1 := hcb k hlt
              have h2 := hcc k (by rw [HMB.out]; exact hlt)
              rw [List.getElem_map] at h2
              obtain ⟨hf1, hf2⟩ := fok_iff.1 (aok_at HFB.out k hlt)
              obtain ⟨t, et⟩ : ∃ t, bs[k] = t := ⟨_, rfl⟩
              rw [et] at h1 h2 hf1 hf2
              clear et hcb hcc hBr
              have hnt : ((t + 777) != (t + 777)) = false := by simp
              go_wp2
              go_quiet (fail)
              go_wp2
              go_roundw
              all_goals first
                | exact ⟨k + 1, by omega, by go_num, HIC.out.1.drewN _, HIC.out.2.1.drewN _, below_drewN HIC.out.2.2 _⟩
                | (simp [intOf]; omega)
            · go_wp2
              go_ret
              exact ⟨rfl, hBr⟩

/-! ### THE ROW's STEP: WRITTEN OUT: LEAVE IT -/
set_option maxRecDepth 100000 in
theorem lifted (os : Os) (started : os.Started) (H : Type) (enc : TypeId × Value → H) :
    ReturnsInHanded {} Try.checked os 3 .any (Rows.fnBordersSpec.pre6 enc Try.prog Try.f3 Rows.fnBordersRow.domain false) (Rows.fnBordersSpec.post enc Try.prog Try.f3 false true false false) := by
  refine returnsInHanded_of_change (C := Try.checked) own started (by kernel_rfl) Try.func3
    (ChangeSpec.witness6 (enc := enc) (C := Try.checked) false ⟨#[], #[.slice none 0 0], []⟩ 8 (by kernel_rfl) (by kernel_rfl) (by kernel_rfl) (by kernel_rfl)) ?_
  intro W base args ds gs before hval0 hW hcnd _
  have hval : ∀ (j : Nat) t v, Try.f3.params[j]? = some t → args[j]? = some v → Value.okWide Try.prog W .any base t v := hval0
  have hW' := hW
  obtain ⟨p, q, hA0, hV, rfl, hfz, hnd⟩ := hW
  have hA : DataW.TrodAll enc Try.prog W 0 (fun _ => true) true Try.f3.params.toList args.toList ds p := hA0
  rw [Try.params3] at hA hval
  obtain ⟨v0, vs0, d0, ds0, p0, q0, hargs, rfl, rfl, h0, r0⟩ := trodAll_cons hA
  obtain ⟨rfl, rfl, rfl⟩ := trodAll_nil r0
  obtain rfl : args = #[v0] := by cases args; simp_all
  obtain ⟨rfl, rfl⟩ := trodVars_none hV
  obtain ⟨a0, len0, cap0, rfl⟩ := okWide_slice Try.underlying22 (hval 0 22 v0 rfl rfl)
  have k0 := h0
  have lt0 : ∀ x ∈ p0, x.block < W.heap.size := by obtain ⟨m, hm⟩ := k0; exact DataW.trod_lt m _ _ _ hm
  obtain ⟨z0, w0⟩ : ∃ zs, IsRow .u8 W a0 len0 cap0 zs := by
    obtain ⟨fuel, hf⟩ := h0
    rcases open_ints Try.underlying22 Try.underlying5 (by kernel_rfl) hf with ⟨hcs, _⟩ | ⟨x, l, c, zs, hcs, _, hl, hm, hz, _, hcell, hwz⟩
    · simp [Value.cells] at hcs
      obtain ⟨rfl, rfl, rfl⟩ := hcs
      exact ⟨[], .inl ⟨rfl, rfl, rfl, rfl⟩⟩
    · simp [Value.cells] at hcs
      obtain ⟨rfl, rfl, rfl⟩ := hcs
      exact ⟨zs, .inr ⟨_, rfl, hl, hm, by simpa using hz, hcell, hwz⟩⟩
  clear hA0 hval0
  refine (walk a0 len0 cap0 z0 W w0).mono fun e W' ⟨he, bel⟩ => ?_
  subst he
  exact ⟨_, rfl, _, _, _, [], _, [], hW', trodAll_mk1 (shut_bool Try.underlying4 _), (trodAll_cons_mk (Below.trod laidOut (by kernel_rfl) (of_decide_eq_true (by kernel_rfl)) k0 bel lt0) trodAll_mk0), rfl, bel.frame _, fun h => by cases h⟩

theorem over : Rows.fnBordersRow.holds Try.pinned (OpenSpec.ofChange Rows.fnBordersSpec) :=
  OpenClaim.holds_of_wide 3 Try.f3 rfl rfl rfl rfl rfl rfl rfl ⟨rfl, rfl, rfl, rfl, rfl⟩ rfl rfl rfl rfl rfl (by kernel_rfl) Try.func3 (by kernel_rfl)
    (of_decide_eq_true (by kernel_rfl)) (by unfold Func.isWrapper; first | (rw [if_pos (by decide +kernel)]; kernel_rfl) | (rw [if_neg (by decide +kernel)]; exact ⟨rfl, rfl⟩))
    (fun os started H enc _ => lifted os started H enc)

/-- THE STATEMENT -/
theorem proved : Rows.FnBordersSaid := over
#print axioms proved
end Go.Proofs.Ytbdffmfaebdgfaa.fnBorders
