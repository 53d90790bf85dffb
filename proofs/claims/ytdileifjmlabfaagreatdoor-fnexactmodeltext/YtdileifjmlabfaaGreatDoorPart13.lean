/-
  Contracts that the proof leans on, put together in the order in which they build.
-/
import Derived.Test.YtdileifjmlabfaaGreatDoorPart11
import Derived.Test.YtdileifjmlabfaaGreatDoorPart12
import Derived.Deep.Cut
import Derived.Deep.RegionHeld3
import Derived.Test.YtdileifjmlabfaaGreatDoorPart6
import Derived.Test.YtdileifjmlabfaaGreatDoorPart2
import Derived.Test.YtdileifjmlabfaaGreatDoorPart8
import Derived.ProofKit
import Derived.ChangeSame
import Derived.Deep.Strs
import Derived.Deep.Slices
import Derived.Test.YtdileifjmlabfaaGreatDoorPart5
/-
  The text of a model, as the specification writes it.
-/
namespace Go.Proofs.YtdileifjmlabfaaGreatDoor.Mt
set_option maxRecDepth 100000
open Go.RowKit
open Go.Proofs.YtdileifjmlabfaaGreatDoor.Md (M mok mok_parts kok kok_parts Rm wr6 smok)
open Go.Proofs.YtdileifjmlabfaaGreatDoor.Kt (Kv IsK)
open Go.Proofs.YtdileifjmlabfaaGreatDoor.Tm (IsT IsP)
open Go.Proofs.YtdileifjmlabfaaGreatDoor.Sv (new1 Wr wr2 wr_new)
open Go.Proofs.YtdileifjmlabfaaGreatDoor.Ob (Ox)
set_option linter.unusedVariables false

set_option maxHeartbeats 2000000 in
theorem snums (w : World) (a : Option Addr) (c : Nat) (l : List Int) (h : Li.IsL w a l) (hb : ∀ x ∈ l, i64 x) (hl : l.length ≤ 1000) :
    Calls Tryz.prog 12 #[.slice a l.length c] w fun e w' => e = .returned (.string ⟨(nums l).toArray⟩) ∧ Below w.heap.size w w' := by
  go_enter Tryz.func12, Tryz.ntmps12
  go_wp2
  go_loopw [3, 4] (fun s i wr => ∃ k : Nat, k ≤ l.length ∧ i = .int .i64 k ∧ s = .string ⟨(nums (l.take k)).toArray⟩ ∧ Below w.heap.size w wr) (fun _ i _ => l.length - (intOf i).toNat)
  case atStart => exact ⟨0, Nat.zero_le _, rfl, rfl, Below.refl _ _⟩
  case round =>
    obtain ⟨k, hk, rfl, rfl, hBr⟩ := hrel
    by_cases hlt : k < l.length
    · rcases h.below hBr with h0 | ⟨xb, xo, rfl, hxb, hxc⟩
      · rw [h0] at hlt; simp at hlt
      have hcx := hxc k hlt
      have hx := hb l[k] (List.getElem_mem hlt)
      have HN : Hid (nums (l.take (k + 1)) = nums (l.take k) ++ 32 :: Lib.itoa l[k]) := nums_take l k hlt
      have hnl : (nums (l.take k)).length ≤ 22000 := by
        have h1 := nums_len (l.take k) (take_mem hb k)
        have h2 := List.length_take_le k l
        omega
      obtain ⟨x, hx0⟩ : ∃ x, l[k] = x := ⟨_, rfl⟩
      rw [hx0] at HN hx hcx
      clear hxc hx0
      have hil := Nu.itoa_len x hx.1 hx.2
      generalize nums (l.take k) = X at HN hnl ⊢
      go_wp2_with fail
      refine (Nu.snum _ _ hx.1 hx.2).mono ?_
      rintro e w1 ⟨rfl, hB1⟩
      have hBr := hBr.trans (hB1.mono hBr.size)
      clear hB1 hcx hxb
      go_wp2
      go_roundw
      case rel => exact ⟨k + 1, by omega, by go_num, congrArg Value.string (ba_ext (by rw [HN.out]; simp)), hBr⟩
      case measure => simp [intOf]; omega
    · have e1 : l.take k = l := List.take_of_length_le (by omega)
      rw [e1]
      clear e1
      go_wp2
      go_ret
      exact ⟨rfl, hBr⟩
theorem pcs_one (s : ByteArray) (h : hasLf s = false) : (Pc.pcs 10 s.data.toList).length = 1 := by
  have : (10 : UInt8) ∉ s.data.toList := by
    intro e
    unfold hasLf at h
    rw [List.contains_iff_mem.2 e] at h
    cases h
  unfold Pc.pcs
  rw [Pc.pieces_no 10 _ this]
  rfl
theorem pcs_more (s : ByteArray) (h : hasLf s = true) : 1 < (Pc.pcs 10 s.data.toList).length := by
  unfold hasLf at h
  rw [List.contains_iff_mem] at h
  rcases Pc.first_cut 10 s.data.toList with h' | ⟨a, r, e, h'⟩
  · exact absurd h h'
  · unfold Pc.pcs
    rw [e, Pc.pieces_cut 10 r a h']
    have := List.length_pos_iff.2 (Pc.pieces_ne 10 r)
    simp
    exact this
theorem own_len {w : World} {base : Nat} {v : Value} {l : List ByteArray} (h : Ls.Own w base v l) : ∃ a c, v = .slice a l.length c := by
  obtain ⟨a, c, e, _⟩ := h.iss
  exact ⟨a, c, e⟩
theorem ctxt_eq (t : Kv) : ctxt t = [99, 116, 114, 32] ++ Lib.itoa (t.ws.length : Int) ++ [10] ++ wlines t.vs t.ws := by
  unfold ctxt; rw [nums_one]; simp
theorem whole_eq (m : M) : whole m = body m ++ ([115, 117, 109, 32] ++ Lib.itoa (Cr.crc (body m) : Int) ++ [10]) := by
  unfold whole; rw [nums_one]; simp
theorem ttxt_pre (t : Tr.T) : ttxt t = [116, 114, 101, 101] ++ spt t.sp ++ ([32, 58] ++ nums t.lv ++ [10]) := rfl
set_option maxHeartbeats 8000000 in
theorem smtext (w : World) (ak ax : Option Addr) (ck ct : Nat) (m : M) (h : Rm w ak ax m) (hl : m.sz ≤ 1048576) :
    Calls Tryz.prog 5 #[.agg #[.int .i64 m.n, .int .i64 m.c, .int .i64 m.prior, .int .i64 m.base, .slice ak m.ks.length ck, .slice ax m.ts.length ct]] w fun e w' => e = .returned (.string ⟨(mtext m).toArray⟩) ∧ Below w.heap.size w w' := by
  go_enter Tryz.func5, Tryz.ntmps5
  go_wp2_with fail
  obtain ⟨W, hW, hsz, hB, bm⟩ := new1 w [.int .i64 m.n, .int .i64 m.c, .int .i64 m.prior, .int .i64 m.base, .slice ak m.ks.length ck, .slice ax m.ts.length ct] 34
  rw [hW]
  clear hW hsz
  refine (smok _ _ _ _ _ m (h.below hB) hl).mono ?_
  rintro e w1 ⟨rfl, hb⟩
  have bm := bm.below hb
  have hB := hB.trans (hb.mono hB.size)
  clear hb
  cases h1 : mok m with
  | false =>
    have HR : Hid (mtext m = []) := mtext_no h1
    go_wp2
    go_ret
    exact ⟨by rw [HR.out]; rfl, hB⟩
  | true =>
  have hm := mok_mn h1
  have HOK : Hid (mok m = true) := h1
  have h := h.below hB
  have hkl := hm.k
  have htl := hm.t
  have hhl := head_len hm
  clear h1
  obtain ⟨_, ⟨x0, x1, x2, x3, x4, x5⟩, _⟩ := wr6 bm
  have HHD : Hid (head m = [109, 111, 100, 101, 108] ++ nums [m.n, m.c, m.prior, m.base] ++ [10]) := rfl
  have hnl : (nums [m.n, m.c, m.prior, m.base]).length ≤ 88 := nums_len _ hm.h
  go_wp2_with fail
  have hB1 : Below w1.heap.size w1 (w1.alloc (.cells #[.int .i64 m.n, .int .i64 m.c, .int .i64 m.prior, .int .i64 m.base] 3)) := (Below.refl _ _).alloc (Nat.le_refl _) _
  refine (snums _ _ _ [m.n, m.c, m.prior, m.base] (isl_lit w1 [m.n, m.c, m.prior, m.base] 3 _ _ rfl rfl) hm.h (by simp)).mono ?_
  rintro e w2 ⟨rfl, hB2⟩
  have hBr := hB1.trans (hB2.mono hB1.size)
  clear hB1 hB2 x0 x1 x2 x3 x4 x5
  generalize nums [m.n, m.c, m.prior, m.base] = Y at HHD hnl ⊢
  have hcv := Lib.run_convert_string_bytes (P := Tryz.prog) w2 9 41 5 ((⟨#[109, 111, 100, 101, 108]⟩ : ByteArray) ++ ⟨Y.toArray⟩ ++ ⟨#[10]⟩) Tryz.underlying9 Tryz.underlying41 Tryz.underlying5
  have hSe : ((⟨#[109, 111, 100, 101, 108]⟩ : ByteArray) ++ ⟨Y.toArray⟩ ++ ⟨#[10]⟩).data.toList = head m := by rw [HHD.out]; simp
  have hSz : ((⟨#[109, 111, 100, 101, 108]⟩ : ByteArray) ++ ⟨Y.toArray⟩ ++ ⟨#[10]⟩).size = (head m).length := by rw [← hSe, Array.length_toList]; rfl
  obtain ⟨hox, hbx⟩ := Ob.ox_conv w2 ((⟨#[109, 111, 100, 101, 108]⟩ : ByteArray) ++ ⟨Y.toArray⟩ ++ ⟨#[10]⟩) (by rw [hSz]; unfold maxLen; omega)
  rw [hSe, hSz] at hox
  rw [hSz] at hcv
  generalize Lib.bytesWorld w2 5 ((⟨#[109, 111, 100, 101, 108]⟩ : ByteArray) ++ ⟨Y.toArray⟩ ++ ⟨#[10]⟩) = W3 at hcv hox hbx
  generalize grownCap w2 (head m).length 0 5 = C3 at hcv hox
  have HOX : Hid (Ox W3 w2.heap.size C3 (head m ++ ctxts (m.ks.take 0))) := by show Ox _ _ _ _; simpa [ctxts] using hox
  have HG0 : Hid (w1.heap.size ≤ w2.heap.size) := hBr.size
  have HB3 : Hid (Below w1.heap.size w1 W3) := hBr.trans (hbx.mono hBr.size)
  clear hSe hSz hox hbx hBr
  go_wp2
  go_loopw [3, 4] (fun v i wr => ∃ k g cap : Nat, k ≤ m.ks.length ∧ i = .int .i64 k ∧ v = .slice (some ⟨g, 0, none⟩) (head m ++ ctxts (m.ks.take k)).length cap ∧ Ox wr g cap (head m ++ ctxts (m.ks.take k)) ∧ w1.heap.size ≤ g ∧ (∀ j (hj : j < m.ks.length), j < k → (m.ks[j].ws.any hasLf) = false) ∧ Below w1.heap.size w1 wr) (fun _ i _ => m.ks.length - (intOf i).toNat)
  case atStart => exact ⟨0, w2.heap.size, C3, Nat.zero_le _, rfl, by simp [ctxts], HOX.out, HG0.out, fun j _ hj => by omega, HB3.out⟩
  case round =>
    clear hcv HOX HG0 HB3 HHD hnl
    obtain ⟨k, g, cap, hk, rfl, rfl, hox, hg, hno, hBr⟩ := hrel
    have HNO : Hid (∀ j (hj : j < m.ks.length), j < k → (m.ks[j].ws.any hasLf) = false) := hno
    clear hno
    obtain ⟨_, ⟨x0, x1, x2, x3, x4, x5⟩, _⟩ := wr6 (bm.below hBr)
    have hnl2 : (ctxts (m.ks.take k)).length ≤ 5838 := ctxts_len (by have := List.length_take_le k m.ks; omega) (take_mem hm.ks k)
    have hXl : (head m ++ ctxts (m.ks.take k)).length ≤ 6000 := by rw [List.length_append]; omega
    by_cases hlt : k < m.ks.length
    · rcases h.k with e0 | ⟨xb, xo, rfl, hxb, hxc⟩
      · rw [e0] at hlt; simp at hlt
      obtain ⟨a0, c0, a1, c1, ⟨d0, d1⟩, hs, hv⟩ := hxc k hlt
      have d0 := (hBr.cell (p := ⟨xb, xo + k * 2, none⟩) hxb).trans d0
      have d1 := (hBr.cell (p := ⟨xb, xo + k * 2 + 1, none⟩) hxb).trans d1
      have hxb := Nat.lt_of_lt_of_le hxb hBr.size
      have HN : Hid (head m ++ ctxts (m.ks.take (k + 1)) = head m ++ ctxts (m.ks.take k) ++ ctxt m.ks[k]) := by show _ = _; rw [ctxts_take m.ks k hlt]; simp
      have HYES : Hid ((m.ks[k].ws.any hasLf) = true → anyLf m.ks = true) := fun e => any_yes (p := fun t : Kv => t.ws.any hasLf) hlt e
      have HNX : Hid ((m.ks[k].ws.any hasLf) = false → ∀ j (hj : j < m.ks.length), j < k + 1 → (m.ks[j].ws.any hasLf) = false) := fun e => at_snoc (p := fun t : Kv => t.ws.any hasLf) HNO.out hlt e
      obtain ⟨kn1, kn2, kn3, kn4⟩ := hm.ks m.ks[k] (List.getElem_mem hlt)
      clear hxc HNO hnl2
      generalize m.ks[k] = t at d0 d1 hs hv HN HYES HNX kn1 kn2 kn3 kn4
      rw [ctxt_eq] at HN
      generalize head m ++ ctxts (m.ks.take k) = X at hox hXl HN ⊢
      obtain ⟨n, hn⟩ : ∃ n, t.ws.length = n := ⟨_, rfl⟩
      rw [hn] at kn1 kn2 HN d0
      rw [kn2] at d1
      have HK2 : Hid (t.vs.length = n) := kn2
      have HKN : Hid (t.ws.length = n) := hn
      clear kn2 hn
      have hil := Nu.itoa_len (n : Int) (by omega) (by omega)
      obtain ⟨X1, hX1⟩ : ∃ X1, X ++ ([99, 116, 114, 32] ++ Lib.itoa (n : Int) ++ [10]) = X1 := ⟨_, rfl⟩
      have hX1l : X1.length ≤ 6026 := by rw [← hX1]; simp; omega
      have HL1 : Hid (X ++ ((⟨#[99, 116, 114, 32]⟩ : ByteArray) ++ ⟨(Lib.itoa (n : Int)).toArray⟩ ++ ⟨#[10]⟩).data.toList = X1) := by show _ = _; rw [← hX1]; simp
      have HN : Hid (head m ++ ctxts (m.ks.take (k + 1)) = X1 ++ wlines t.vs t.ws) := by show _ = _; rw [HN.out, ← hX1]; simp
      clear hX1
      go_wp2_with fail
      obtain ⟨W2, hW2, hsz2, hB1, bt⟩ := new1 wr [.slice a0 n c0, .slice a1 n c1] 46
      rw [hW2]
      obtain ⟨rb, hrb⟩ : ∃ rb, wr.heap.size = rb := ⟨_, rfl⟩
      have hgrb : g < rb := by rw [← hrb]; exact hox.lt
      have hwrb : w1.heap.size ≤ rb := by rw [← hrb]; exact hBr.size
      rw [hrb] at bt ⊢
      have hox := hox.below hB1
      have hBr := hBr.trans (hB1.mono hBr.size)
      clear hW2 hsz2 d0 d1 hrb hB1 hxb
      refine (Nu.snum _ _ (by omega) (by omega)).mono ?_
      rintro e w4 ⟨rfl, hb⟩
      have hox := hox.below hb
      have bt := bt.below hb
      have hBr := hBr.trans (hb.mono hBr.size)
      have hrl := bt.1
      clear hb x0 x1 x2 x3 x4 x5
      go_wp2_with (at_builtin; refine Ob.wpl_appS rfl _ _ rfl g cap X.length X rfl rfl hox ((⟨#[99, 116, 114, 32]⟩ : ByteArray) ++ ⟨(Lib.itoa (n : Int)).toArray⟩ ++ ⟨#[10]⟩) rfl X1 HL1.out (by omega) ?_; intro g5 cap5 w5 hox5 hgr5 hloc5; have bt5 := bt.keptAt hgr5.size (hgr5.block rb hrl (by intro e; cases e; omega)))
      have HB5 : Hid (Below w1.heap.size w1 w5) := hBr.grown hgr5 hBr.size (fun k e => by cases e; exact hg)
      have HG5 : Hid (w1.heap.size ≤ g5 ∧ ¬ rb = g5) := ⟨by have := hBr.size; omega, by omega⟩
      clear hox hBr hgr5 hloc5 bt hrl hil hgrb hg
      go_loopw [3, 6] (fun v i wq => ∃ q g cap : Nat, q ≤ n ∧ i = .int .i64 q ∧ v = .slice (some ⟨g, 0, none⟩) (X1 ++ wlines (t.vs.take q) (t.ws.take q)).length cap ∧ Ox wq g cap (X1 ++ wlines (t.vs.take q) (t.ws.take q)) ∧ w1.heap.size ≤ g ∧ ¬ rb = g ∧ Wr wq rb 0 [.slice a0 n c0, .slice a1 n c1] ∧ (∀ j (hj : j < t.ws.length), j < q → hasLf t.ws[j] = false) ∧ Below w1.heap.size w1 wq) (fun _ i _ => n - (intOf i).toNat)
      case atStart => exact ⟨0, g5, cap5, Nat.zero_le _, rfl, by simp [wlines], by simpa [wlines] using hox5, HG5.out.1, HG5.out.2, bt5, fun j _ hj => by omega, HB5.out⟩
      case round =>
        clear hox5 bt5 HB5 HG5 HL1
        obtain ⟨q, g, cap, hq, rfl, rfl, hox, hg, hne, bt, hno, hBr⟩ := hrel
        have HNO : Hid (∀ j (hj : j < t.ws.length), j < q → hasLf t.ws[j] = false) := hno
        obtain ⟨hrl, ⟨y0, y1⟩, _⟩ := wr2 bt
        have hnl2 : (wlines (t.vs.take q) (t.ws.take q)).length ≤ 1920 := by
          have q1 := wlines_len (t.vs.take q) (t.ws.take q) (take_mem kn3 q) (take_mem kn4 q)
          have q2 := List.length_take_le q t.ws
          have := HKN.out
          omega
        have hYl : (X1 ++ wlines (t.vs.take q) (t.ws.take q)).length ≤ 8000 := by rw [List.length_append]; omega
        clear hno hnl2
        by_cases hlt2 : q < n
        · have hlw : q < t.ws.length := by rw [HKN.out]; exact hlt2
          have hlv : q < t.vs.length := by rw [HK2.out]; exact hlt2
          rcases id hs with e0 | ⟨wb, wo, rfl, hwb, hwc⟩
          · rw [e0] at hlw; simp at hlw
          rcases id hv with e0 | ⟨vb, vo, rfl, hvb, hvc⟩
          · rw [e0] at hlv; simp at hlv
          have e0 := (hBr.cell (p := ⟨wb, wo + q, none⟩) hwb).trans (hwc q hlw)
          have e1 := (hBr.cell (p := ⟨vb, vo + q, none⟩) hvb).trans (hvc q hlv)
          have hx := kn3 t.vs[q] (List.getElem_mem hlv)
          have hsz := kn4 t.ws[q] (List.getElem_mem hlw)
          have HW : Hid (wlines (t.vs.take (q + 1)) (t.ws.take (q + 1)) = wlines (t.vs.take q) (t.ws.take q) ++ wline t.vs[q] t.ws[q]) := wlines_take t.vs t.ws q hlw hlv
          have HY2 : Hid (hasLf t.ws[q] = true → anyLf m.ks = true) := fun e => HYES.out (any_yes (p := hasLf) hlw e)
          have HN2 : Hid (hasLf t.ws[q] = false → ∀ j (hj : j < t.ws.length), j < q + 1 → hasLf t.ws[j] = false) := fun e => at_snoc (p := hasLf) HNO.out hlw e
          generalize t.vs[q] = x at e1 hx HW
          generalize t.ws[q] = s at e0 hsz HW HY2 HN2
          have HX : Hid (X1 ++ wlines (t.vs.take (q + 1)) (t.ws.take (q + 1)) = X1 ++ wlines (t.vs.take q) (t.ws.take q) ++ wline x s) := by show _ = _; rw [HW.out]; simp
          have hwl := wline_len x s hx hsz
          generalize X1 ++ wlines (t.vs.take q) (t.ws.take q) = Y at hox hYl HX ⊢
          have hwb' := Nat.lt_of_lt_of_le hwb hBr.size
          have hvb' := Nat.lt_of_lt_of_le hvb hBr.size
          have hil := Nu.itoa_len x hx.1 hx.2
          clear hwc hvc HW hlw hlv HNO
          go_wp2_with fail
          refine (Sp.parts _ s 10 (by omega)).mono ?_
          rintro e w6 ⟨pv, rfl, hpo, hb⟩
          obtain ⟨pa, pc, rfl⟩ := own_len hpo
          clear hpo
          cases hh : hasLf s with
          | true =>
            have hpl := pcs_more s hh
            have HR : Hid (mtext m = []) := mtext_lf (HY2.out hh)
            have hBe := hB.trans ((hBr.trans (hb.mono hBr.size)).mono hB.size)
            generalize (Pc.pcs 10 s.data.toList).length = pn at hpl ⊢
            go_wp2
            go_ret
            exact ⟨by rw [HR.out]; rfl, hBe⟩
          | false =>
            have hpl := pcs_one s hh
            have HN3 : Hid (∀ j (hj : j < t.ws.length), j < q + 1 → hasLf t.ws[j] = false) := HN2.out hh
            rw [hpl]
            have hox := hox.below hb
            have bt := bt.below hb
            have hBr := hBr.trans (hb.mono hBr.size)
            have e0 := (hb.cell (p := ⟨wb, wo + q, none⟩) hwb').trans e0
            have e1 := (hb.cell (p := ⟨vb, vo + q, none⟩) hvb').trans e1
            have hwb' := Nat.lt_of_lt_of_le hwb' hb.size
            have hvb' := Nat.lt_of_lt_of_le hvb' hb.size
            clear hb hpl hh HN2 HY2 y0 y1 hrl
            obtain ⟨hrl, ⟨y0, y1⟩, _⟩ := wr2 bt
            obtain ⟨Z, hZ⟩ : ∃ Z, X1 ++ wlines (t.vs.take (q + 1)) (t.ws.take (q + 1)) = Z := ⟨_, rfl⟩
            rw [hZ] at HX
            have HZE : Hid (X1 ++ wlines (t.vs.take (q + 1)) (t.ws.take (q + 1)) = Z) := hZ
            have HL2 : Hid (Y ++ ((⟨(Lib.itoa x).toArray⟩ : ByteArray) ++ ⟨#[32]⟩ ++ s ++ ⟨#[10]⟩).data.toList = Z) := by show _ = _; rw [HX.out]; simp [wline]
            have hZl : Z.length ≤ 8048 := by rw [HX.out, List.length_append]; omega
            have HOXH : Hid (type_of% hox) := hox
            have HBT : Hid (type_of% bt) := bt
            have HBR : Hid (type_of% hBr) := hBr
            have HXI : Hid (i64 x) := hx
            clear hZ hox bt hBr hx
            have k1 : ¬ 9223372036854775807 < (Lib.itoa x).length + 1 := by omega
            have k2 : ¬ 9223372036854775807 < (Lib.itoa x).length + 1 + s.size := by omega
            have k3 : ¬ 9223372036854775807 < (Lib.itoa x).length + 1 + s.size + 1 := by omega
            go_wp2_with fail
            go_region_held3 (fun w' => w'.cell? ⟨rb, 0, none⟩ = some (.slice (some ⟨wb, wo, none⟩) n c0) ∧ w'.cell? ⟨rb, 1, none⟩ = some (.slice (some ⟨vb, vo, none⟩) n c1) ∧ w'.cell? ⟨wb, wo + q, none⟩ = some (.string s) ∧ w'.cell? ⟨vb, vo + q, none⟩ = some (.int .i64 x)) (go_keep) (first
              | (go_at_call 13
                 refine (Nu.snum _ w6.drew HXI.out.1 HXI.out.2).mono ?_
                 rintro e w7 ⟨rfl, hb⟩
                 have HY : Hid (Below w6.heap.size w6 w7) := ((Below.refl w6.heap.size w6).drew).trans hb
                 obtain ⟨_, ⟨z0, z1⟩, _⟩ := wr2 (HBT.out.below HY.out)
                 have z2 := (HY.out.cell (p := ⟨wb, wo + q, none⟩) hwb').trans e0
                 have z3 := (HY.out.cell (p := ⟨vb, vo + q, none⟩) hvb').trans e1
                 clear hb)
              | (refine Ob.step_appS rfl _ _ rfl g cap Y.length Y rfl rfl (HOXH.out.below HY.out) ((⟨(Lib.itoa x).toArray⟩ : ByteArray) ++ ⟨#[32]⟩ ++ s ++ ⟨#[10]⟩) rfl Z HL2.out (by omega) ?_
                 intro g8 cap8 w8 hox8 hgr8 hloc8
                 have w0 := (World.cell?_of_block (a := ⟨rb, 0, none⟩) (hgr8.block rb (Nat.lt_of_lt_of_le hrl HY.out.size) (by intro e; cases e; omega))).trans z0
                 have w1' := (World.cell?_of_block (a := ⟨rb, 1, none⟩) (hgr8.block rb (Nat.lt_of_lt_of_le hrl HY.out.size) (by intro e; cases e; omega))).trans z1
                 have w2' := (World.cell?_of_block (a := ⟨wb, wo + q, none⟩) (hgr8.block wb (Nat.lt_of_lt_of_le hwb' HY.out.size) (by intro e; cases e; omega))).trans z2
                 have w3' := (World.cell?_of_block (a := ⟨vb, vo + q, none⟩) (hgr8.block vb (Nat.lt_of_lt_of_le hvb' HY.out.size) (by intro e; cases e; omega))).trans z3
                 have HO8 : Hid (type_of% hox8) := hox8
                 have HG8 : Hid (type_of% hgr8) := hgr8
                 have HL8 : Hid (type_of% hloc8) := hloc8
                 clear hox8 hgr8 hloc8))
            have HB8 : Hid (Below w1.heap.size w1 w8) := (HBR.out.trans (HY.out.mono HBR.out.size)).grown HG8.out (by have := HBR.out.size; have := HY.out.size; omega) (fun k e => by cases e; exact hg)
            have HT8 : Hid (Wr w8 rb 0 [.slice (some ⟨wb, wo, none⟩) n c0, .slice (some ⟨vb, vo, none⟩) n c1]) := (HBT.out.below HY.out).keptAt HG8.out.size (HG8.out.block rb (Nat.lt_of_lt_of_le hrl HY.out.size) (by intro e; cases e; omega))
            have HP8 : Hid (w1.heap.size ≤ g8 ∧ ¬ rb = g8) := by
              have h1 := HBR.out.size
              have h2 := HY.out.size
              rcases HL8.out with e | e
              · rw [e]; exact ⟨hg, hne⟩
              · rw [e]; exact ⟨by omega, by omega⟩
            clear w0 w1' w2' w3' z0 z1 z2 z3 y0 y1 e0 e1
            go_wp2
            go_roundw
            case rel => exact ⟨q + 1, g8, cap8, by omega, by go_num, by rw [HZE.out], by rw [HZE.out]; exact HO8.out, HP8.out.1, HP8.out.2, HT8.out, HN3.out, HB8.out⟩
            case measure => simp [intOf]; omega
        · have e1 : t.vs.take q = t.vs := List.take_of_length_le (by rw [HK2.out]; omega)
          have e2 : t.ws.take q = t.ws := List.take_of_length_le (by rw [HKN.out]; omega)
          rw [e1, e2, ← HN.out] at hox hYl
          rw [e1, e2, ← HN.out]
          have HNO2 : Hid (∀ j (hj : j < m.ks.length), j < k + 1 → (m.ks[j].ws.any hasLf) = false) := HNX.out (any_no fun j hj => HNO.out j hj (by have := HKN.out; omega))
          clear e1 e2 hYl
          go_wp2
          go_roundw
          case rel => exact ⟨k + 1, g, cap, by omega, by go_num, rfl, hox, hg, HNO2.out, hBr⟩
          case measure => simp [intOf]; omega
    · have e1 : m.ks.take k = m.ks := List.take_of_length_le (by omega)
      have HLF : Hid (anyLf m.ks = false) := any_no (p := fun t : Kv => t.ws.any hasLf) fun j hj => HNO.out j hj (by omega)
      have HR : Hid (mtext m = whole m) := mtext_yes HOK.out HLF.out
      rw [whole_eq] at HR
      have HBD : Hid (body m = head m ++ ctxts m.ks ++ ttxts m.ts) := rfl
      rw [e1] at hox hXl hnl2
      rw [e1]
      generalize head m ++ ctxts m.ks = X at hox hXl HBD ⊢
      clear e1 HNO hnl2 HLF
      have HOX : Hid (Ox wr g cap (X ++ ttxts (m.ts.take 0))) := by show Ox _ _ _ _; simpa [ttxts] using hox
      have HG0 : Hid (w1.heap.size ≤ g) := hg
      have HB3 : Hid (Below w1.heap.size w1 wr) := hBr
      clear hox hg hBr
      go_wp2
      go_loopw [3, 7] (fun v i wq => ∃ k g cap : Nat, k ≤ m.ts.length ∧ i = .int .i64 k ∧ v = .slice (some ⟨g, 0, none⟩) (X ++ ttxts (m.ts.take k)).length cap ∧ Ox wq g cap (X ++ ttxts (m.ts.take k)) ∧ w1.heap.size ≤ g ∧ Below w1.heap.size w1 wq) (fun _ i _ => m.ts.length - (intOf i).toNat)
      case atStart => exact ⟨0, g, cap, Nat.zero_le _, rfl, by simp [ttxts], HOX.out, HG0.out, HB3.out⟩
      case round =>
        clear HOX HG0 HB3 x0 x1 x2 x3 x4 x5
        obtain ⟨k, g, cap, hk, rfl, rfl, hox, hg, hBr⟩ := hrel
        obtain ⟨_, ⟨x0, x1, x2, x3, x4, x5⟩, _⟩ := wr6 (bm.below hBr)
        have hnl2 : (ttxts (m.ts.take k)).length ≤ 6420 := ttxts_len (by have := List.length_take_le k m.ts; omega) (take_mem hm.ts k)
        have hYl : (X ++ ttxts (m.ts.take k)).length ≤ 12420 := by rw [List.length_append]; omega
        by_cases hlt : k < m.ts.length
        · rcases h.t with e0 | ⟨xb, xo, rfl, hxb, hxc⟩
          · rw [e0] at hlt; simp at hlt
          obtain ⟨v0, v1, ⟨d0, d1⟩, htr⟩ := hxc k hlt
          have d0 := (hBr.cell (p := ⟨xb, xo + k * 2, none⟩) hxb).trans d0
          have d1 := (hBr.cell (p := ⟨xb, xo + k * 2 + 1, none⟩) hxb).trans d1
          have hxb := Nat.lt_of_lt_of_le hxb hBr.size
          have HN : Hid (X ++ ttxts (m.ts.take (k + 1)) = X ++ ttxts (m.ts.take k) ++ ttxt m.ts[k]) := by show _ = _; rw [ttxts_take m.ts k hlt]; simp
          obtain ⟨kn1, kn2, kn3, kn4⟩ := hm.ts m.ts[k] (List.getElem_mem hlt)
          clear hxc hnl2
          generalize m.ts[k] = t at d0 d1 htr HN kn1 kn2 kn3 kn4
          obtain ⟨a0, c0, a1, c1, rfl, rfl, hp, hv⟩ := htr
          rw [ttxt_pre] at HN
          generalize X ++ ttxts (m.ts.take k) = Y at hox hYl HN ⊢
          obtain ⟨X1, hX1⟩ : ∃ X1, Y ++ [116, 114, 101, 101] = X1 := ⟨_, rfl⟩
          have hX1l : X1.length ≤ 12424 := by rw [← hX1]; simp; omega
          have HL1 : Hid (Y ++ (⟨#[116, 114, 101, 101]⟩ : ByteArray).data.toList = X1) := by show _ = _; rw [← hX1]
          have HN : Hid (X ++ ttxts (m.ts.take (k + 1)) = X1 ++ spt t.sp ++ ([32, 58] ++ nums t.lv ++ [10])) := by show _ = _; rw [HN.out, ← hX1]; simp
          clear hX1
          obtain ⟨rb, hrb⟩ : ∃ rb, wr.heap.size = rb := ⟨_, rfl⟩
          obtain ⟨W2, hW2, hsz2, hB1, bt⟩ := new1 wr [.slice a0 t.sp.length c0, .slice a1 t.lv.length c1] 51
          have hgrb : g < rb := by rw [← hrb]; exact hox.lt
          have hwrb : w1.heap.size ≤ rb := by rw [← hrb]; exact hBr.size
          rw [hrb] at bt
          have HRB : Hid (wr.heap.size = rb) := hrb
          have HW2 : Hid (wr.alloc (.cells #[.slice a0 t.sp.length c0, .slice a1 t.lv.length c1] 51) = W2) := hW2
          have hox := hox.below hB1
          have HBR : Hid (Below w1.heap.size w1 W2) := hBr.trans (hB1.mono hBr.size)
          have hrl := bt.1
          clear hW2 hsz2 hrb hB1 hBr
          go_wp2_with (at_builtin; rw [HW2.out, HRB.out]; refine Ob.wpl_appS rfl _ _ rfl g cap Y.length Y rfl rfl hox (⟨#[116, 114, 101, 101]⟩ : ByteArray) rfl X1 HL1.out (by omega) ?_; intro g5 cap5 w5 hox5 hgr5 hloc5; have bt5 := bt.keptAt hgr5.size (hgr5.block rb hrl (by intro e; cases e; omega)))
          have HB5 : Hid (Below w1.heap.size w1 w5) := HBR.out.grown hgr5 HBR.out.size (fun k e => by cases e; exact hg)
          have HG5 : Hid (w1.heap.size ≤ g5 ∧ ¬ rb = g5) := ⟨by have := HBR.out.size; omega, by omega⟩
          clear hox HBR hgr5 hloc5 bt hrl hgrb hg HW2 HRB HL1 x0 x1 x2 x3 x4 x5 d0 d1 hxb
          go_loopw [3, 9] (fun v i wq => ∃ q g cap : Nat, q ≤ t.sp.length ∧ i = .int .i64 q ∧ v = .slice (some ⟨g, 0, none⟩) (X1 ++ spt (t.sp.take q)).length cap ∧ Ox wq g cap (X1 ++ spt (t.sp.take q)) ∧ w1.heap.size ≤ g ∧ ¬ rb = g ∧ Wr wq rb 0 [.slice a0 t.sp.length c0, .slice a1 t.lv.length c1] ∧ Below w1.heap.size w1 wq) (fun _ i _ => t.sp.length - (intOf i).toNat)
          case atStart => exact ⟨0, g5, cap5, Nat.zero_le _, rfl, by simp [spt], by simpa [spt] using hox5, HG5.out.1, HG5.out.2, bt5, HB5.out⟩
          case round =>
            clear hox5 bt5 HB5 HG5
            obtain ⟨q, g, cap, hq, rfl, rfl, hox, hg, hne, bt, hBr⟩ := hrel
            obtain ⟨hrl, ⟨y0, y1⟩, _⟩ := wr2 bt
            have hnl2 : (spt (t.sp.take q)).length ≤ 176 := by
              have q1 := spt_len (t.sp.take q) (take_mem kn3 q)
              have q2 := List.length_take_le q t.sp
              omega
            have hSl : (X1 ++ spt (t.sp.take q)).length ≤ 12600 := by rw [List.length_append]; omega
            clear hnl2
            by_cases hlt2 : q < t.sp.length
            · rcases id hp with e0 | ⟨wb, wo, rfl, hwb, hwc⟩
              · rw [e0] at hlt2; simp at hlt2
              obtain ⟨f0, f1⟩ := hwc q hlt2
              have e0 := (hBr.cell (p := ⟨wb, wo + q * 2, none⟩) hwb).trans f0
              have e1 := (hBr.cell (p := ⟨wb, wo + q * 2 + 1, none⟩) hwb).trans f1
              have hx := kn3 t.sp[q] (List.getElem_mem hlt2)
              have HW : Hid (X1 ++ spt (t.sp.take (q + 1)) = X1 ++ spt (t.sp.take q) ++ nums [t.sp[q].1, t.sp[q].2]) := by show _ = _; rw [spt_take t.sp q hlt2]; simp
              generalize t.sp[q].1 = x at e0 hx HW
              generalize t.sp[q].2 = y at e1 hx HW
              have hwb' := Nat.lt_of_lt_of_le hwb hBr.size
              have hi : ∀ z ∈ [x, y], i64 z := by intro z hz; simp at hz; rcases hz with rfl | rfl; exact hx.1; exact hx.2
              have hil := nums_len _ hi
              simp only [List.length_cons, List.length_nil] at hil
              generalize X1 ++ spt (t.sp.take q) = Y1 at hox hSl HW ⊢
              obtain ⟨Z, hZ⟩ : ∃ Z, X1 ++ spt (t.sp.take (q + 1)) = Z := ⟨_, rfl⟩
              rw [hZ] at HW
              have HZE : Hid (X1 ++ spt (t.sp.take (q + 1)) = Z) := hZ
              have HL2 : Hid (Y1 ++ (⟨(nums [x, y]).toArray⟩ : ByteArray).data.toList = Z) := by show _ = _; rw [HW.out]
              have hZl : Z.length ≤ 12700 := by rw [HW.out, List.length_append]; omega
              have HOXH : Hid (type_of% hox) := hox
              have HBT : Hid (type_of% bt) := bt
              have HBR : Hid (type_of% hBr) := hBr
              have HI : Hid (type_of% hi) := hi
              have q1 := World.new_ne wr ⟨rb, 0, none⟩ y0
              have q2 := World.new_ne wr ⟨wb, wo + q * 2, none⟩ e0
              have q3 := World.new_ne wr ⟨wb, wo + q * 2 + 1, none⟩ e1
              clear hZ hox bt hBr hx hi f0 f1 hwc
              go_wp2_with fail
              go_region_held3 (fun w' => w'.cell? ⟨rb, 0, none⟩ = some (.slice (some ⟨wb, wo, none⟩) t.sp.length c0) ∧ w'.cell? ⟨wb, wo + q * 2, none⟩ = some (.int .i64 x) ∧ w'.cell? ⟨wb, wo + q * 2 + 1, none⟩ = some (.int .i64 y)) (go_keep) (first
                | (go_at_call 12
                   refine (snums (wr.alloc (.cells #[.int .i64 x, .int .i64 y] 3)).drew _ _ [x, y] (isl_lit wr [x, y] 3 _ _ rfl rfl) HI.out (by simp)).mono ?_
                   rintro e w7 ⟨rfl, hb⟩
                   have HY : Hid (Below wr.heap.size wr w7) := (((Below.refl wr.heap.size wr).alloc (Nat.le_refl _) _).drew).trans (hb.mono (by simp))
                   obtain ⟨_, ⟨z0, z1⟩, _⟩ := wr2 (HBT.out.below HY.out)
                   have z2 := (HY.out.cell (p := ⟨wb, wo + q * 2, none⟩) hwb').trans e0
                   have z3 := (HY.out.cell (p := ⟨wb, wo + q * 2 + 1, none⟩) hwb').trans e1
                   clear hb)
                | (refine Ob.step_appS rfl _ _ rfl g cap Y1.length Y1 rfl rfl (HOXH.out.below HY.out) (⟨(nums [x, y]).toArray⟩ : ByteArray) rfl Z HL2.out (by omega) ?_
                   intro g8 cap8 w8 hox8 hgr8 hloc8
                   have p0 := (World.cell?_of_block (a := ⟨rb, 0, none⟩) (hgr8.block rb (Nat.lt_of_lt_of_le hrl HY.out.size) (by intro e; cases e; omega))).trans z0
                   have p2 := (World.cell?_of_block (a := ⟨wb, wo + q * 2, none⟩) (hgr8.block wb (Nat.lt_of_lt_of_le hwb' HY.out.size) (by intro e; cases e; omega))).trans z2
                   have p3 := (World.cell?_of_block (a := ⟨wb, wo + q * 2 + 1, none⟩) (hgr8.block wb (Nat.lt_of_lt_of_le hwb' HY.out.size) (by intro e; cases e; omega))).trans z3
                   have HO8 : Hid (type_of% hox8) := hox8
                   have HG8 : Hid (type_of% hgr8) := hgr8
                   have HL8 : Hid (type_of% hloc8) := hloc8
                   clear hox8 hgr8 hloc8))
              have HB8 : Hid (Below w1.heap.size w1 w8) := (HBR.out.trans (HY.out.mono HBR.out.size)).grown HG8.out (by have := HBR.out.size; have := HY.out.size; omega) (fun k e => by cases e; exact hg)
              have HT8 : Hid (Wr w8 rb 0 [.slice (some ⟨wb, wo, none⟩) t.sp.length c0, .slice a1 t.lv.length c1]) := (HBT.out.below HY.out).keptAt HG8.out.size (HG8.out.block rb (Nat.lt_of_lt_of_le hrl HY.out.size) (by intro e; cases e; omega))
              have HP8 : Hid (w1.heap.size ≤ g8 ∧ ¬ rb = g8) := by
                have h1 := HBR.out.size
                have h2 := HY.out.size
                rcases HL8.out with e | e
                · rw [e]; exact ⟨hg, hne⟩
                · rw [e]; exact ⟨by omega, by omega⟩
              clear p0 p2 p3 z0 z1 z2 z3 y0 y1 e0 e1 q1 q2 q3
              go_wp2
              go_roundw
              case rel => exact ⟨q + 1, g8, cap8, by omega, by go_num, by rw [HZE.out], by rw [HZE.out]; exact HO8.out, HP8.out.1, HP8.out.2, HT8.out, HB8.out⟩
              case measure => simp [intOf]; omega
            · have e1 : t.sp.take q = t.sp := List.take_of_length_le (by omega)
              rw [e1] at hox hSl
              rw [e1]
              clear e1
              have hnl3 := nums_len _ kn4
              generalize X1 ++ spt t.sp = Y1 at hox hSl HN ⊢
              obtain ⟨Z, hZ⟩ : ∃ Z, X ++ ttxts (m.ts.take (k + 1)) = Z := ⟨_, rfl⟩
              rw [hZ] at HN
              have HZE : Hid (X ++ ttxts (m.ts.take (k + 1)) = Z) := hZ
              have HL2 : Hid (Y1 ++ ((⟨#[32, 58]⟩ : ByteArray) ++ ⟨(nums t.lv).toArray⟩ ++ ⟨#[10]⟩).data.toList = Z) := by show _ = _; rw [HN.out]; simp
              have hZl : Z.length ≤ 13000 := by rw [HN.out]; simp; omega
              clear hZ
              go_wp2_with fail
              refine (snums _ _ _ t.lv (hv.below hBr) kn4 (by omega)).mono ?_
              rintro e w7 ⟨rfl, hb⟩
              have hox := hox.below hb
              have hBr := hBr.trans (hb.mono hBr.size)
              clear hb y0 y1 bt hrl
              go_wp2_with (at_builtin; refine Ob.wpl_appS rfl _ _ rfl g cap Y1.length Y1 rfl rfl hox ((⟨#[32, 58]⟩ : ByteArray) ++ ⟨(nums t.lv).toArray⟩ ++ ⟨#[10]⟩) rfl Z HL2.out (by omega) ?_; intro g8 cap8 w8 hox8 hgr8 hloc8)
              have HB8 : Hid (Below w1.heap.size w1 w8) := hBr.grown hgr8 hBr.size (fun k e => by cases e; exact hg)
              have HP8 : Hid (w1.heap.size ≤ g8) := by have := hBr.size; show _ ≤ _; omega
              clear hgr8 hloc8 hox hBr
              go_roundw
              case rel => exact ⟨k + 1, g8, cap8, by omega, by go_num, by rw [HZE.out], by rw [HZE.out]; exact hox8, HP8.out, HB8.out⟩
              case measure => simp [intOf]; omega
        · have e1 : m.ts.take k = m.ts := List.take_of_length_le (by omega)
          rw [e1, ← HBD.out] at hox hYl
          rw [e1, ← HBD.out]
          clear e1 hnl2
          have hbl := body_len hm
          have hwl := whole_len hm
          rw [whole_eq] at hwl
          generalize body m = Y at hox hYl HR hbl hwl ⊢
          have hcr := Cr.crc_lt Y
          have hic := Cr.scrc ⟨Y.toArray⟩ wr (by rw [ba_size]; omega)
          have hdl : (ByteArray.mk Y.toArray).data.toList = Y := by simp
          rw [hdl] at hic
          have hcv := run_convert_bytes_back (P := Tryz.prog) wr 41 9 5 ⟨g, 0, none⟩ cap Y Tryz.underlying41 Tryz.underlying5 Tryz.underlying9 (fun j hj => by rw [Go.WideShapes.add_plain, Nat.zero_add]; exact hox.cell j hj)
          have hil := Nu.itoa_len (Cr.crc Y : Int) (by omega) (by omega)
          obtain ⟨Z, hZ⟩ : ∃ Z, Y ++ ([115, 117, 109, 32] ++ Lib.itoa (Cr.crc Y : Int) ++ [10]) = Z := ⟨_, rfl⟩
          have HL2 : Hid (Y ++ ((⟨#[115, 117, 109, 32]⟩ : ByteArray) ++ ⟨(Lib.itoa (Cr.crc Y : Int)).toArray⟩ ++ ⟨#[10]⟩).data.toList = Z) := by show _ = _; rw [← hZ]; simp
          rw [hZ] at HR hwl
          clear hdl hZ
          go_wp2_with (go_at_call 15; refine hic.mono ?_; rintro e w' ⟨rfl, hw'⟩; subst w')
          refine (Nu.snum _ _ (by omega) (by omega)).mono ?_
          rintro e w7 ⟨rfl, hb⟩
          have hox := hox.below hb
          have hBr := hBr.trans (hb.mono hBr.size)
          generalize Lib.itoa (Cr.crc Y : Int) = I at HL2 hil ⊢
          clear hb hic hcv hcr x0 x1 x2 x3 x4 x5
          go_wp2_with (at_builtin; refine Ob.wpl_appS rfl _ _ rfl g cap Y.length Y rfl rfl hox ((⟨#[115, 117, 109, 32]⟩ : ByteArray) ++ ⟨I.toArray⟩ ++ ⟨#[10]⟩) rfl Z HL2.out (by omega) ?_; intro g8 cap8 w8 hox8 hgr8 hloc8; have hcv := run_convert_bytes_back (P := Tryz.prog) w8 41 9 5 ⟨g8, 0, none⟩ cap8 Z Tryz.underlying41 Tryz.underlying5 Tryz.underlying9 (fun j hj => by rw [Go.WideShapes.add_plain, Nat.zero_add]; exact hox8.cell j hj))
          have hBe := hB.trans ((hBr.grown hgr8 hBr.size (fun k e => by cases e; exact hg)).mono hB.size)
          go_ret
          exact ⟨by rw [HR.out]; rfl, hBe⟩
end Go.Proofs.YtdileifjmlabfaaGreatDoor.Mt
/-
  Models, further: the marks that the laws write, and whether they are held.
-/
namespace Go.Proofs.YtdileifjmlabfaaGreatDoor.Md
set_option maxRecDepth 20000
open Go.RowKit
open Go.Proofs.YtdileifjmlabfaaGreatDoor.Tm (IsT szT)
open Go.Proofs.YtdileifjmlabfaaGreatDoor.Kt (Kv IsK OwK ksz)
open Go.Proofs.YtdileifjmlabfaaGreatDoor.To (OwT)
open Go.Proofs.YtdileifjmlabfaaGreatDoor.Sv (Fr fr_below fr_grown new1 Wr)
set_option linter.unusedVariables false
def mm (q : Int) (m : M) : M := ⟨m.n, m.c, m.prior, m.base, Kt.kmarks q m.ks, To.kmarks (q + Kt.ktot m.ks) m.ts⟩
def wt (m : M) : Nat := Kt.ktot m.ks + To.ktot m.ts
theorem wt_le (m : M) : wt m ≤ 2 * m.sz := by
  unfold wt M.sz
  have := Kt.ktot_ksz m.ks
  have := To.ktot_sz m.ts
  omega
end Go.Proofs.YtdileifjmlabfaaGreatDoor.Md
/-
  Small readings for the laws over models: a list of the call's own under a frame; a variable of three cells; marks of a row.
-/
namespace Go.Proofs.YtdileifjmlabfaaGreatDoor.Md
set_option maxRecDepth 20000
open Go.RowKit
open Go.Proofs.YtdileifjmlabfaaGreatDoor.Tb (ownsRow_at Row RowIs)
open Go.Proofs.YtdileifjmlabfaaGreatDoor.Sv (Fr fr_below fr_grown new1 Wr)
set_option linter.unusedVariables false
theorem own_fr {w w1 : World} {B : Nat → Prop} {base : Nat} {v : Value} {xs : List Int} (h : Li.Own w base v xs) (hf : Fr B w w1) (hd : ∀ k, v.ownBlock = some k → ¬ B k) : Li.Own w1 base v xs := ownsRow_at h (fun k e => hf.block k (h.ge k e).2 (hd k e))
theorem fr_own {w w1 : World} {B : Nat → Prop} {v : Value} (h : w.grownBy w1 v.ownBlock) (hB : ∀ k, v.ownBlock = some k → B k) : Fr B w w1 := ⟨h.os, h.tape, h.output, h.size, fun k hk hn => h.block k hk (fun e => hn (hB k e.symm))⟩
theorem wr3 {w : World} {b : Nat} {v0 v1 v2 : Value} (h : Wr w b 0 [v0, v1, v2]) : b < w.heap.size ∧ (w.cell? ⟨b, 0, none⟩ = some v0 ∧ w.cell? ⟨b, 1, none⟩ = some v1 ∧ w.cell? ⟨b, 2, none⟩ = some v2) ∧ w.frozen? ⟨b, 0, none⟩ = false ∧ w.frozen? ⟨b, 1, none⟩ = false ∧ w.frozen? ⟨b, 2, none⟩ = false :=
  ⟨h.1, ⟨(h.2 0 (by simp)).1, (h.2 1 (by simp)).1, (h.2 2 (by simp)).1⟩, (h.2 0 (by simp)).2, (h.2 1 (by simp)).2, (h.2 2 (by simp)).2⟩
/-- A row of the call's own. -/
def OwR (w : World) (B : Nat → Prop) (u0 u1 : Value) (r : Row) : Prop := (∃ b, Li.Own w b u0 r.nums) ∧ (∃ b, Ls.Own w b u1 r.cats) ∧ (∀ k, u0.ownBlock = some k → B k ∧ u1.ownBlock ≠ some k) ∧ ∀ k, u1.ownBlock = some k → B k
theorem OwR.fr {w w1 : World} {B B' : Nat → Prop} {u0 u1 : Value} {r : Row} (h : OwR w B u0 u1 r) (hf : Fr B' w w1) (hd : ∀ k, B k → ¬ B' k) : OwR w1 B u0 u1 r := by
  obtain ⟨⟨b0, h0⟩, ⟨b1, h1⟩, hs, ht⟩ := h
  exact ⟨⟨b0, own_fr h0 hf (fun k e => hd k (hs k e).1)⟩, ⟨b1, ownsRow_at h1 (fun k e => hf.block k (h1.ge k e).2 (hd k (ht k e)))⟩, hs, ht⟩
theorem OwR.below {w w1 : World} {B : Nat → Prop} {u0 u1 : Value} {r : Row} (h : OwR w B u0 u1 r) (hb : Below w.heap.size w w1) : OwR w1 B u0 u1 r := h.fr (fr_below (B := fun _ => False) hb) (fun _ _ e => e)
theorem OwR.row {w : World} {B : Nat → Prop} {u0 u1 : Value} {r : Row} (h : OwR w B u0 u1 r) : RowIs w u0 u1 (.int .i64 r.label) r := by
  obtain ⟨⟨b0, h0⟩, ⟨b1, h1⟩, _⟩ := h
  obtain ⟨a0, c0, e0, i0⟩ := h0.isl
  obtain ⟨a1, c1, e1, i1⟩ := h1.iss
  exact ⟨a0, c0, a1, c1, e0, e1, rfl, i0, i1⟩
end Go.Proofs.YtdileifjmlabfaaGreatDoor.Md
/-
  The arguments of the laws over tables, opened: a schema, a row, a table that came in, out of what the row's reader read of them.
-/
namespace Go.Proofs.YtdileifjmlabfaaGreatDoor.Op
open Go.ChangeShapes Go.WideShapes Go.Deep Go.RowKit
open Go.Proofs.YtdileifjmlabfaaGreatDoor.Tb
set_option maxRecDepth 10000

section
variable {H : Type} {enc : TypeId × Value → H} {W : World}
theorem schema_cells {n : Nat} {cs : List Value} {x : DataW H × List MemPlace} (h : DataW.trod enc Tryz.prog W 0 (fun _ => true) true n 23 cs = some x) :
    ∃ i j : Int, cs = [.int .i64 i, .int .i64 j] ∧ (-9223372036854775808 ≤ i ∧ i ≤ 9223372036854775807) ∧ (-9223372036854775808 ≤ j ∧ j ≤ 9223372036854775807) := by
  obtain ⟨y0, y1, m, _, hl, h0, h1⟩ := trod_struct2 Tryz.underlying23 h
  rw [show Tryz.prog.cellsOf 23 = 2 by kernel_rfl] at hl
  rw [show Tryz.prog.cellsOf 3 = 1 by kernel_rfl] at h0 h1
  match cs, hl with
  | [a, b], _ =>
    obtain ⟨i, rfl, hi⟩ := int_cell (by simpa using h0)
    obtain ⟨j, rfl, hj⟩ := int_cell (by simpa using h1)
    exact ⟨i, j, rfl, hi, hj⟩
theorem schema_open {base : Nat} {v : Value} {d : DataW H} {p : List MemPlace} (hv : Value.okWide Tryz.prog W .any base 23 v) (h : DataW.Trod enc Tryz.prog W 0 (fun _ => true) true 23 v d p) :
    ∃ i j : Int, v = .agg #[.int .i64 i, .int .i64 j] ∧ (-9223372036854775808 ≤ i ∧ i ≤ 9223372036854775807) ∧ (-9223372036854775808 ≤ j ∧ j ≤ 9223372036854775807) := by
  obtain ⟨cs, rfl, hc⟩ := okWide_struct Tryz.underlying23 hv
  rw [show Tryz.prog.cellsOf 23 = 2 by kernel_rfl] at hc
  obtain ⟨a, b, rfl⟩ := agg2 hc
  obtain ⟨n, hn⟩ := h
  obtain ⟨i, j, e, hi, hj⟩ := schema_cells hn
  simp [Value.cells] at e
  obtain ⟨rfl, rfl⟩ := e
  exact ⟨i, j, rfl, hi, hj⟩
end
end Go.Proofs.YtdileifjmlabfaaGreatDoor.Op
/-
  The arguments of the laws over trees, opened: a tree, a list of nodes, a list of trees that came in, out of what the row's reader read of them.
-/
namespace Go.Proofs.YtdileifjmlabfaaGreatDoor.Op
open Go.ChangeShapes Go.WideShapes Go.Deep Go.RowKit
open Go.Proofs.YtdileifjmlabfaaGreatDoor.Tm
set_option maxRecDepth 10000

section
variable {H : Type} {enc : TypeId × Value → H} {W : World}
theorem pick_any {α : Type} (d : α) {m : Nat} {p : Nat → α → Prop} (h : ∀ i, i < m → ∃ r, p i r) : ∃ R : Nat → α, ∀ i, i < m → p i (R i) := by
  have : ∀ i, ∃ r, i < m → p i r := fun i => by
    by_cases hi : i < m
    · obtain ⟨r, hr⟩ := h i hi; exact ⟨r, fun _ => hr⟩
    · exact ⟨d, fun h => absurd h hi⟩
  exact ⟨fun i => (this i).choose, fun i hi => (this i).choose_spec hi⟩
theorem split_cells {n : Nat} {cs : List Value} {x : DataW H × List MemPlace} (h : DataW.trod enc Tryz.prog W 0 (fun _ => true) true n 115 cs = some x) :
    ∃ s : Int × Int, cs = [.int .i64 s.1, .int .i64 s.2] := by
  obtain ⟨y0, y1, m, _, hl, h0, h1⟩ := trod_struct2 Tryz.underlying115 h
  rw [show Tryz.prog.cellsOf 115 = 2 by kernel_rfl] at hl
  rw [show Tryz.prog.cellsOf 3 = 1 by kernel_rfl] at h0 h1
  match cs, hl with
  | [a, b], _ =>
    obtain ⟨i, rfl, hi⟩ := int_cell (by simpa using h0)
    obtain ⟨j, rfl, hj⟩ := int_cell (by simpa using h1)
    exact ⟨(i, j), rfl⟩
theorem splits_cell {n : Nat} {v : Value} {x : DataW H × List MemPlace} (h : DataW.trod enc Tryz.prog W 0 (fun _ => true) true n 66 [v] = some x) :
    ∃ a ps cap, v = .slice a (ps : List (Int × Int)).length cap ∧ IsP W a ps ∧ ps.length ≤ maxLen := by
  rcases open_slice Tryz.underlying66 h with ⟨hcs, _⟩ | ⟨x, l, c, m, n', D, Pl, hcs, _, hl, hm, hmm, _, hx⟩
  · obtain rfl : v = _ := List.singleton_inj.1 hcs
    exact ⟨none, [], 0, rfl, .inl rfl, by simp⟩
  · obtain rfl : v = _ := List.singleton_inj.1 hcs
    have hmc : m = c := by simpa using hmm
    subst hmc
    rw [show Tryz.prog.cellsOf 115 = 2 by kernel_rfl] at hx
    obtain ⟨R, hR⟩ := pick_any (α := Int × Int) (0, 0) (m := m) (p := fun i r => W.cell? (x.add (i * 2)) = some (.int .i64 r.1) ∧ W.cell? ((x.add (i * 2)).add 1) = some (.int .i64 r.2)) (fun i hi => by
      obtain ⟨cs', h1, h2⟩ := hx i hi
      obtain ⟨s, rfl⟩ := split_cells h2
      obtain ⟨_, _, hc⟩ := World.cells?_some h1
      have e0 := hc 0 (by omega)
      have e1 := hc 1 (by omega)
      refine ⟨s, ?_, ?_⟩
      · simpa [Addr.add] using e0
      · simpa using e1)
    refine ⟨some x, (List.range l).map R, m, by simp, ?_, by simp; omega⟩
    by_cases h0 : l = 0
    · subst h0; exact .inl rfl
    · obtain ⟨cb, off, spot⟩ := x
      obtain ⟨c0, _⟩ := hR 0 (by omega)
      have hs : spot = none := by simpa [Addr.add] using World.cell?_spot c0
      subst hs
      have hlt : cb < W.heap.size := World.block_lt_of_cell? W _ c0
      refine .inr ⟨cb, off, rfl, hlt, fun j hj => ?_⟩
      have hj' : j < l := by simpa using hj
      obtain ⟨e0, e1⟩ := hR j (by omega)
      refine ⟨?_, ?_⟩
      · rw [Go.WideShapes.add_plain] at e0; simpa using e0
      · rw [Go.WideShapes.add_plain, Go.WideShapes.add_plain] at e1; simpa using e1
theorem tree_cells {n : Nat} {cs : List Value} {x : DataW H × List MemPlace} (h : DataW.trod enc Tryz.prog W 0 (fun _ => true) true n 68 cs = some x) :
    ∃ (t : Tr.T) (a a' : Option Addr) (c c' : Nat), cs = [.slice a t.sp.length c, .slice a' t.lv.length c'] ∧ IsP W a t.sp ∧ Li.IsL W a' t.lv ∧ t.sp.length ≤ maxLen ∧ t.lv.length ≤ maxLen := by
  obtain ⟨y0, y1, m, _, hl, h0, h1⟩ := trod_struct2 Tryz.underlying68 h
  rw [show Tryz.prog.cellsOf 68 = 2 by kernel_rfl] at hl
  rw [show Tryz.prog.cellsOf 66 = 1 by kernel_rfl] at h0
  rw [show Tryz.prog.cellsOf 43 = 1 by kernel_rfl] at h1
  match cs, hl with
  | [u, v], _ =>
    obtain ⟨a, ps, c, rfl, hp, hl0⟩ := splits_cell (by simpa using h0)
    obtain ⟨a', xs, c', rfl, hx, hl1⟩ := ints_cell (by simpa using h1)
    exact ⟨⟨ps, xs⟩, a, a', c, c', rfl, hp, hx, hl0, hl1⟩
theorem tree_open {base : Nat} {v : Value} {d : DataW H} {p : List MemPlace} (hv : Value.okWide Tryz.prog W .any base 68 v) (h : DataW.Trod enc Tryz.prog W 0 (fun _ => true) true 68 v d p) :
    ∃ (t : Tr.T) (a a' : Option Addr) (c c' : Nat), v = .agg #[.slice a t.sp.length c, .slice a' t.lv.length c'] ∧ IsP W a t.sp ∧ Li.IsL W a' t.lv ∧ t.sp.length ≤ maxLen ∧ t.lv.length ≤ maxLen := by
  obtain ⟨cs, rfl, hc⟩ := okWide_struct Tryz.underlying68 hv
  rw [show Tryz.prog.cellsOf 68 = 2 by kernel_rfl] at hc
  obtain ⟨u, v, rfl⟩ := agg2 hc
  obtain ⟨n, hn⟩ := h
  obtain ⟨t, a, a', c, c', e, r⟩ := tree_cells hn
  simp [Value.cells] at e
  obtain ⟨rfl, rfl⟩ := e
  exact ⟨t, a, a', c, c', rfl, r⟩
theorem trees_cell {n : Nat} {v : Value} {x : DataW H × List MemPlace} (h : DataW.trod enc Tryz.prog W 0 (fun _ => true) true n 25 [v] = some x) :
    ∃ a ts cap, v = .slice a (ts : List Tr.T).length cap ∧ IsT W a ts ∧ FitsT ts := by
  rcases open_slice Tryz.underlying25 h with ⟨hcs, _⟩ | ⟨x, l, c, m, n', D, Pl, hcs, _, hl, hm, hmm, _, hx⟩
  · obtain rfl : v = _ := List.singleton_inj.1 hcs
    exact ⟨none, [], 0, rfl, .inl rfl, ⟨by simp, fun j hj => by simp at hj⟩⟩
  · obtain rfl : v = _ := List.singleton_inj.1 hcs
    have hmc : m = c := by simpa using hmm
    subst hmc
    rw [show Tryz.prog.cellsOf 68 = 2 by kernel_rfl] at hx
    obtain ⟨R, hR⟩ := pick_any (α := Tr.T) ⟨[], []⟩ (m := m) (p := fun i t => ∃ v0 v1, W.cell? (x.add (i * 2)) = some v0 ∧ W.cell? ((x.add (i * 2)).add 1) = some v1 ∧ TrIs W v0 v1 t ∧ t.sp.length ≤ maxLen ∧ t.lv.length ≤ maxLen) (fun i hi => by
      obtain ⟨cs', h1, h2⟩ := hx i hi
      obtain ⟨t, a, a', c, c', rfl, hp, hx, hl0, hl1⟩ := tree_cells h2
      obtain ⟨_, _, hc⟩ := World.cells?_some h1
      have e0 := hc 0 (by omega)
      have e1 := hc 1 (by omega)
      refine ⟨t, _, _, ?_, ?_, ⟨a, c, a', c', rfl, rfl, hp, hx⟩, hl0, hl1⟩
      · simpa [Addr.add] using e0
      · simpa using e1)
    unfold maxLen at hm
    refine ⟨some x, (List.range l).map R, m, by simp, ?_, ⟨by simp; omega, fun j hj => ?_⟩⟩
    · by_cases h0 : l = 0
      · subst h0; exact .inl rfl
      · obtain ⟨cb, off, spot⟩ := x
        obtain ⟨_, _, c0, _⟩ := hR 0 (by omega)
        have hs : spot = none := by simpa [Addr.add] using World.cell?_spot c0
        subst hs
        have hlt : cb < W.heap.size := World.block_lt_of_cell? W _ c0
        refine .inr ⟨cb, off, rfl, hlt, fun j hj => ?_⟩
        have hj' : j < l := by simpa using hj
        obtain ⟨v0, v1, e0, e1, hr, _⟩ := hR j (by omega)
        refine ⟨v0, v1, ⟨?_, ?_⟩, by simpa using hr⟩
        · rwa [Go.WideShapes.add_plain] at e0
        · rwa [Go.WideShapes.add_plain, Go.WideShapes.add_plain] at e1
    · have hj' : j < l := by simpa using hj
      obtain ⟨_, _, _, _, _, hf0, hf1⟩ := hR j (by omega)
      unfold maxLen at hf0 hf1
      simp only [List.getElem_map, List.getElem_range]
      omega
theorem trees_open {base : Nat} {v : Value} {d : DataW H} {p : List MemPlace} (hv : Value.okWide Tryz.prog W .any base 25 v) (h : DataW.Trod enc Tryz.prog W 0 (fun _ => true) true 25 v d p) :
    ∃ a ts cap, v = .slice a (ts : List Tr.T).length cap ∧ IsT W a ts ∧ FitsT ts := by
  obtain ⟨a0, l0, c0, rfl⟩ := okWide_slice Tryz.underlying25 hv
  obtain ⟨n, hn⟩ := h
  exact trees_cell (by simpa [Value.cells] using hn)
end
end Go.Proofs.YtdileifjmlabfaaGreatDoor.Op
/-
  A model that was read of a law's arguments, opened.
-/
namespace Go.Proofs.YtdileifjmlabfaaGreatDoor.Op
open Go.ChangeShapes Go.WideShapes Go.Deep Go.RowKit
open Go.Proofs.YtdileifjmlabfaaGreatDoor.Kt (Kv IsK)
open Go.Proofs.YtdileifjmlabfaaGreatDoor.Tm (IsT)
set_option maxRecDepth 10000
section
variable {H : Type} {enc : TypeId × Value → H} {W : World}
theorem tab_cells {n : Nat} {cs : List Value} {x : DataW H × List MemPlace} (h : DataW.trod enc Tryz.prog W 0 (fun _ => true) true n 64 cs = some x) :
    ∃ t : Kv, ∃ a c d e, cs = [.slice a t.ws.length c, .slice d t.vs.length e] ∧ Ls.IsS W a t.ws ∧ Li.IsL W d t.vs ∧ t.ws.length ≤ maxLen ∧ Tb.Fits t.ws ∧ t.vs.length ≤ maxLen := by
  obtain ⟨y0, y1, m, _, hl, h0, h1⟩ := trod_struct2 Tryz.underlying64 h
  rw [show Tryz.prog.cellsOf 64 = 2 by kernel_rfl] at hl
  rw [show Tryz.prog.cellsOf 44 = 1 by kernel_rfl] at h0
  rw [show Tryz.prog.cellsOf 43 = 1 by kernel_rfl] at h1
  match cs, hl with
  | [v0, v1], _ =>
    obtain ⟨a0, ps, c0, rfl, i0, l0, f0⟩ := strs_cell (by simpa using h0)
    obtain ⟨a1, xs, c1, rfl, i1, l1⟩ := ints_cell (by simpa using h1)
    exact ⟨⟨ps, xs⟩, _, _, _, _, rfl, i0, i1, l0, f0, l1⟩
theorem tabs_cell {n : Nat} {v : Value} {x : DataW H × List MemPlace} (h : DataW.trod enc Tryz.prog W 0 (fun _ => true) true n 24 [v] = some x) :
    ∃ a ts cap, v = .slice a (ts : List Kv).length cap ∧ IsK W a ts ∧ Kt.FitsK ts := by
  rcases open_slice Tryz.underlying24 h with ⟨hcs, _⟩ | ⟨x, l, c, m, n', D, Pl, hcs, _, hl, hm, hmm, _, hx⟩
  · obtain rfl : v = _ := List.singleton_inj.1 hcs
    exact ⟨none, [], 0, rfl, .inl rfl, ⟨by simp, fun j hj => by simp at hj⟩⟩
  · obtain rfl : v = _ := List.singleton_inj.1 hcs
    have hmc : m = c := by simpa using hmm
    subst hmc
    rw [show Tryz.prog.cellsOf 64 = 2 by kernel_rfl] at hx
    obtain ⟨R, hR⟩ := pick_any (α := Kv) ⟨[], []⟩ (m := m) (p := fun i t => ∃ a0 c0 a1 c1, W.cell? (x.add (i * 2)) = some (.slice a0 t.ws.length c0) ∧ W.cell? ((x.add (i * 2)).add 1) = some (.slice a1 t.vs.length c1) ∧ Ls.IsS W a0 t.ws ∧ Li.IsL W a1 t.vs ∧ t.ws.length ≤ maxLen ∧ Tb.Fits t.ws ∧ t.vs.length ≤ maxLen) (fun i hi => by
      obtain ⟨cs', h1, h2⟩ := hx i hi
      obtain ⟨t, a, c, a', c', rfl, hp, hx, hl0, hf0, hl1⟩ := tab_cells h2
      obtain ⟨_, _, hc⟩ := World.cells?_some h1
      have e0 := hc 0 (by omega)
      have e1 := hc 1 (by omega)
      refine ⟨t, a, c, a', c', ?_, ?_, hp, hx, hl0, hf0, hl1⟩
      · simpa [Addr.add] using e0
      · simpa using e1)
    unfold maxLen at hm
    refine ⟨some x, (List.range l).map R, m, by simp, ?_, ⟨by simp; omega, fun j hj => ?_⟩⟩
    · by_cases h0 : l = 0
      · subst h0; exact .inl rfl
      · obtain ⟨cb, off, spot⟩ := x
        obtain ⟨_, _, _, _, c0, _⟩ := hR 0 (by omega)
        have hs : spot = none := by simpa [Addr.add] using World.cell?_spot c0
        subst hs
        have hlt : cb < W.heap.size := World.block_lt_of_cell? W _ c0
        refine .inr ⟨cb, off, rfl, hlt, fun j hj => ?_⟩
        have hj' : j < l := by simpa using hj
        obtain ⟨a0, c0, a1, c1, e0, e1, i0, i1, _⟩ := hR j (by omega)
        simp only [List.getElem_map, List.getElem_range]
        refine ⟨a0, c0, a1, c1, ⟨?_, ?_⟩, i0, i1⟩
        · rwa [Go.WideShapes.add_plain] at e0
        · rwa [Go.WideShapes.add_plain, Go.WideShapes.add_plain] at e1
    · have hj' : j < l := by simpa using hj
      obtain ⟨_, _, _, _, _, _, _, _, hf0, hf1, hf2⟩ := hR j (by omega)
      unfold maxLen at hf0 hf2
      simp only [List.getElem_map, List.getElem_range]
      exact ⟨by omega, hf1, by omega⟩
theorem trod_five {P : Program} {w : World} {base : Nat} {spare : Nat → Bool} {held : Bool} {t : TypeId} {f0 f1 f2 f3 f4 : Field} {fuel : Nat} {cs : List Value} {x : DataW H × List MemPlace} (ht : P.underlying t = some (.struct #[f0, f1, f2, f3, f4])) (h : DataW.trod enc P w base spare held fuel t cs = some x) :
    ∃ y0 y1 y2 y3 y4 n, cs.length = P.cellsOf t ∧ DataW.trod enc P w base spare held n f0.type ((cs.drop f0.offset).take (P.cellsOf f0.type)) = some y0 ∧ DataW.trod enc P w base spare held n f1.type ((cs.drop f1.offset).take (P.cellsOf f1.type)) = some y1 ∧ DataW.trod enc P w base spare held n f2.type ((cs.drop f2.offset).take (P.cellsOf f2.type)) = some y2 ∧ DataW.trod enc P w base spare held n f3.type ((cs.drop f3.offset).take (P.cellsOf f3.type)) = some y3 ∧ DataW.trod enc P w base spare held n f4.type ((cs.drop f4.offset).take (P.cellsOf f4.type)) = some y4 := by
  obtain ⟨xs, n, _, rfl, hl, hlen, hf⟩ := DataW.trod_struct ht h
  match xs, hlen with
  | [y0, y1, y2, y3, y4], _ => exact ⟨y0, y1, y2, y3, y4, n, hl, by simpa using hf 0 f0 rfl, by simpa using hf 1 f1 rfl, by simpa using hf 2 f2 rfl, by simpa using hf 3 f3 rfl, by simpa using hf 4 f4 rfl⟩
theorem agg6 {cs : Array Value} (h : cs.size = 6) : ∃ a b c d e f, cs = #[a, b, c, d, e, f] := by
  obtain ⟨l⟩ := cs
  match l, h with
  | [a, b, c, d, e, f], _ => exact ⟨a, b, c, d, e, f, rfl⟩
theorem model_cells {n : Nat} {cs : List Value} {x : DataW H × List MemPlace} (h : DataW.trod enc Tryz.prog W 0 (fun _ => true) true n 27 cs = some x) :
    ∃ m : Md.M, ∃ ak ck ax ct, cs = [.int .i64 m.n, .int .i64 m.c, .int .i64 m.prior, .int .i64 m.base, .slice ak m.ks.length ck, .slice ax m.ts.length ct] ∧ Md.Rm W ak ax m ∧ Md.FitsM m := by
  obtain ⟨y0, y1, y2, y3, y4, m, hl, h0, h1, h2, h3, h4⟩ := trod_five Tryz.underlying27 h
  rw [show Tryz.prog.cellsOf 27 = 6 by kernel_rfl] at hl
  rw [show Tryz.prog.cellsOf 23 = 2 by kernel_rfl] at h0
  rw [show Tryz.prog.cellsOf 3 = 1 by kernel_rfl] at h1 h2
  rw [show Tryz.prog.cellsOf 24 = 1 by kernel_rfl] at h3
  rw [show Tryz.prog.cellsOf 25 = 1 by kernel_rfl] at h4
  match cs, hl with
  | [a0, a1, a2, a3, a4, a5], _ =>
    obtain ⟨i0, i1, e, _⟩ := schema_cells (by simpa using h0)
    simp at e
    obtain ⟨rfl, rfl⟩ := e
    obtain ⟨i2, rfl, _⟩ := int_cell (by simpa using h1)
    obtain ⟨i3, rfl, _⟩ := int_cell (by simpa using h2)
    obtain ⟨ak, ks, ck, rfl, hk, fk⟩ := tabs_cell (by simpa using h3)
    obtain ⟨ax, ts, ct, rfl, ht, ft⟩ := trees_cell (by simpa using h4)
    exact ⟨⟨i0, i1, i2, i3, ks, ts⟩, ak, ck, ax, ct, rfl, ⟨hk, ht⟩, fk, ft⟩
theorem model_open {base : Nat} {v : Value} {d : DataW H} {p : List MemPlace} (hv : Value.okWide Tryz.prog W .any base 27 v) (h : DataW.Trod enc Tryz.prog W 0 (fun _ => true) true 27 v d p) :
    ∃ m : Md.M, ∃ ak ck ax ct, v = .agg #[.int .i64 m.n, .int .i64 m.c, .int .i64 m.prior, .int .i64 m.base, .slice ak m.ks.length ck, .slice ax m.ts.length ct] ∧ Md.Rm W ak ax m ∧ Md.FitsM m := by
  obtain ⟨cs, rfl, hc⟩ := okWide_struct Tryz.underlying27 hv
  rw [show Tryz.prog.cellsOf 27 = 6 by kernel_rfl] at hc
  obtain ⟨u0, u1, u2, u3, u4, u5, rfl⟩ := agg6 hc
  obtain ⟨n, hn⟩ := h
  obtain ⟨m, ak, ck, ax, ct, e, hm, hf⟩ := model_cells hn
  simp [Value.cells] at e
  obtain ⟨rfl, rfl, rfl, rfl, rfl, rfl⟩ := e
  exact ⟨m, ak, ck, ax, ct, rfl, hm, hf⟩
end
end Go.Proofs.YtdileifjmlabfaaGreatDoor.Op
