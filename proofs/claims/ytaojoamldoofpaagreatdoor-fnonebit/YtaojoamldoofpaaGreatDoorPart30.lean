/-
  Contracts that the proof leans on, put together in the order in which they build.
-/
import Derived.Test.YtaojoamldoofpaaGreatDoorPart25
import Derived.Test.YtaojoamldoofpaaGreatDoorPart29
import Derived.Deep.Cut
import Derived.Deep.RegionHeld3
/-
  The text of a model, as the specification writes it.
-/
namespace Go.Proofs.YtaojoamldoofpaaGreatDoor.Mt
set_option maxRecDepth 100000
open Go.RowKit
open Go.Proofs.YtaojoamldoofpaaGreatDoor.Md (M mok mok_parts kok kok_parts Rm wr6 smok)
open Go.Proofs.YtaojoamldoofpaaGreatDoor.Kt (Kv IsK)
open Go.Proofs.YtaojoamldoofpaaGreatDoor.Tm (IsT IsP)
open Go.Proofs.YtaojoamldoofpaaGreatDoor.Sv (new1 Wr wr2 wr_new)
open Go.Proofs.YtaojoamldoofpaaGreatDoor.Ob (Ox)
set_option linter.unusedVariables false

set_option maxHeartbeats 2000000 in
theorem snums (w : World) (a : Option Addr) (c : Nat) (l : List Int) (h : Li.IsL w a l) (hb : ∀ x ∈ l, i64 x) (hl : l.length ≤ 1000) :
    Calls Tryz.prog 25 #[.slice a l.length c] w fun e w' => e = .returned (.string ⟨(nums l).toArray⟩) ∧ Below w.heap.size w w' := by
  go_enter Tryz.func25, Tryz.ntmps25
  go_wp2
  go_loopw [3, 4] (fun s i wr => ∃ k : Nat, k ≤ l.length ∧ i = .int .i64 k ∧ s = .string ⟨(nums (l.take k)).toArray⟩ ∧ Below w.heap.size w wr) (fun _ i _ => l.length - (intOf i).toNat)
  case atStart => exact ⟨0, Nat.zero_le _, rfl, rfl, Below.refl _ _⟩
  case round =>
    obtain ⟨k, hk, rfl, rfl, hBr⟩ := hrel
    by_cases hlt : k < l.length
    · rcases h.below hBr with h0 | ⟨xb, xo, rfl, hxb, hxc⟩
      · rw [h0] at hlt; simp at hlt
      have hcx := hxc k hlt
      have hx := hb l[k] (List.getElem_mem hlt)
      have HN : Hid (nums (l.take (k + 1)) = nums (l.take k) ++ 32 :: Lib.itoa l[k]) := nums_take l k hlt
      have hnl : (nums (l.take k)).length ≤ 22000 := by
        have h1 := nums_len (l.take k) (take_mem hb k)
        have h2 := List.length_take_le k l
        omega
      obtain ⟨x, hx0⟩ : ∃ x, l[k] = x := ⟨_, rfl⟩
      rw [hx0] at HN hx hcx
      clear hxc hx0
      have hil := Nu.itoa_len x hx.1 hx.2
      generalize nums (l.take k) = X at HN hnl ⊢
      go_wp2_with fail
      refine (Nu.snum _ _ hx.1 hx.2).mono ?_
      rintro e w1 ⟨rfl, hB1⟩
      have hBr := hBr.trans (hB1.mono hBr.size)
      clear hB1 hcx hxb
      go_wp2
      go_roundw
      case rel => exact ⟨k + 1, by omega, by go_num, congrArg Value.string (ba_ext (by rw [HN.out]; simp)), hBr⟩
      case measure => simp [intOf]; omega
    · have e1 : l.take k = l := List.take_of_length_le (by omega)
      rw [e1]
      clear e1
      go_wp2
      go_ret
      exact ⟨rfl, hBr⟩
theorem pcs_one (s : ByteArray) (h : hasLf s = false) : (Pc.pcs 10 s.data.toList).length = 1 := by
  have : (10 : UInt8) ∉ s.data.toList := by
    intro e
    unfold hasLf at h
    rw [List.contains_iff_mem.2 e] at h
    cases h
  unfold Pc.pcs
  rw [Pc.pieces_no 10 _ this]
  rfl
theorem pcs_more (s : ByteArray) (h : hasLf s = true) : 1 < (Pc.pcs 10 s.data.toList).length := by
  unfold hasLf at h
  rw [List.contains_iff_mem] at h
  rcases Pc.first_cut 10 s.data.toList with h' | ⟨a, r, e, h'⟩
  · exact absurd h h'
  · unfold Pc.pcs
    rw [e, Pc.pieces_cut 10 r a h']
    have := List.length_pos_iff.2 (Pc.pieces_ne 10 r)
    simp
    exact this
theorem own_len {w : World} {base : Nat} {v : Value} {l : List ByteArray} (h : Ls.Own w base v l) : ∃ a c, v = .slice a l.length c := by
  obtain ⟨a, c, e, _⟩ := h.iss
  exact ⟨a, c, e⟩
theorem ctxt_eq (t : Kv) : ctxt t = [99, 116, 114, 32] ++ Lib.itoa (t.ws.length : Int) ++ [10] ++ wlines t.vs t.ws := by
  unfold ctxt; rw [nums_one]; simp
theorem whole_eq (m : M) : whole m = body m ++ ([115, 117, 109, 32] ++ Lib.itoa (Cr.crc (body m) : Int) ++ [10]) := by
  unfold whole; rw [nums_one]; simp
theorem ttxt_pre (t : Tr.T) : ttxt t = [116, 114, 101, 101] ++ spt t.sp ++ ([32, 58] ++ nums t.lv ++ [10]) := rfl
set_option maxHeartbeats 8000000 in
theorem smtext (w : World) (ak ax : Option Addr) (ck ct : Nat) (m : M) (h : Rm w ak ax m) (hl : m.sz ≤ 1048576) :
    Calls Tryz.prog 8 #[.agg #[.int .i64 m.n, .int .i64 m.c, .int .i64 m.prior, .int .i64 m.base, .slice ak m.ks.length ck, .slice ax m.ts.length ct]] w fun e w' => e = .returned (.string ⟨(mtext m).toArray⟩) ∧ Below w.heap.size w w' := by
  go_enter Tryz.func8, Tryz.ntmps8
  go_wp2_with fail
  obtain ⟨W, hW, hsz, hB, bm⟩ := new1 w [.int .i64 m.n, .int .i64 m.c, .int .i64 m.prior, .int .i64 m.base, .slice ak m.ks.length ck, .slice ax m.ts.length ct] 29
  rw [hW]
  clear hW hsz
  refine (smok _ _ _ _ _ m (h.below hB) hl).mono ?_
  rintro e w1 ⟨rfl, hb⟩
  have bm := bm.below hb
  have hB := hB.trans (hb.mono hB.size)
  clear hb
  cases h1 : mok m with
  | false =>
    have HR : Hid (mtext m = []) := mtext_no h1
    go_wp2
    go_ret
    exact ⟨by rw [HR.out]; rfl, hB⟩
  | true =>
  have hm := mok_mn h1
  have HOK : Hid (mok m = true) := h1
  have h := h.below hB
  have hkl := hm.k
  have htl := hm.t
  have hhl := head_len hm
  clear h1
  obtain ⟨_, ⟨x0, x1, x2, x3, x4, x5⟩, _⟩ := wr6 bm
  have HHD : Hid (head m = [109, 111, 100, 101, 108] ++ nums [m.n, m.c, m.prior, m.base] ++ [10]) := rfl
  have hnl : (nums [m.n, m.c, m.prior, m.base]).length ≤ 88 := nums_len _ hm.h
  go_wp2_with fail
  have hB1 : Below w1.heap.size w1 (w1.alloc (.cells #[.int .i64 m.n, .int .i64 m.c, .int .i64 m.prior, .int .i64 m.base] 3)) := (Below.refl _ _).alloc (Nat.le_refl _) _
  refine (snums _ _ _ [m.n, m.c, m.prior, m.base] (isl_lit w1 [m.n, m.c, m.prior, m.base] 3 _ _ rfl rfl) hm.h (by simp)).mono ?_
  rintro e w2 ⟨rfl, hB2⟩
  have hBr := hB1.trans (hB2.mono hB1.size)
  clear hB1 hB2 x0 x1 x2 x3 x4 x5
  generalize nums [m.n, m.c, m.prior, m.base] = Y at HHD hnl ⊢
  have hcv := Lib.run_convert_string_bytes (P := Tryz.prog) w2 9 22 5 ((⟨#[109, 111, 100, 101, 108]⟩ : ByteArray) ++ ⟨Y.toArray⟩ ++ ⟨#[10]⟩) Tryz.underlying9 Tryz.underlying22 Tryz.underlying5
  have hSe : ((⟨#[109, 111, 100, 101, 108]⟩ : ByteArray) ++ ⟨Y.toArray⟩ ++ ⟨#[10]⟩).data.toList = head m := by rw [HHD.out]; simp
  have hSz : ((⟨#[109, 111, 100, 101, 108]⟩ : ByteArray) ++ ⟨Y.toArray⟩ ++ ⟨#[10]⟩).size = (head m).length := by rw [← hSe, Array.length_toList]; rfl
  obtain ⟨hox, hbx⟩ := Ob.ox_conv w2 ((⟨#[109, 111, 100, 101, 108]⟩ : ByteArray) ++ ⟨Y.toArray⟩ ++ ⟨#[10]⟩) (by rw [hSz]; unfold maxLen; omega)
  rw [hSe, hSz] at hox
  rw [hSz] at hcv
  generalize Lib.bytesWorld w2 5 ((⟨#[109, 111, 100, 101, 108]⟩ : ByteArray) ++ ⟨Y.toArray⟩ ++ ⟨#[10]⟩) = W3 at hcv hox hbx
  generalize grownCap w2 (head m).length 0 5 = C3 at hcv hox
  have HOX : Hid (Ox W3 w2.heap.size C3 (head m ++ ctxts (m.ks.take 0))) := by show Ox _ _ _ _; simpa [ctxts] using hox
  have HG0 : Hid (w1.heap.size ≤ w2.heap.size) := hBr.size
  have HB3 : Hid (Below w1.heap.size w1 W3) := hBr.trans (hbx.mono hBr.size)
  clear hSe hSz hox hbx hBr
  go_wp2
  go_loopw [3, 4] (fun v i wr => ∃ k g cap : Nat, k ≤ m.ks.length ∧ i = .int .i64 k ∧ v = .slice (some ⟨g, 0, none⟩) (head m ++ ctxts (m.ks.take k)).length cap ∧ Ox wr g cap (head m ++ ctxts (m.ks.take k)) ∧ w1.heap.size ≤ g ∧ (∀ j (hj : j < m.ks.length), j < k → (m.ks[j].ws.any hasLf) = false) ∧ Below w1.heap.size w1 wr) (fun _ i _ => m.ks.length - (intOf i).toNat)
  case atStart => exact ⟨0, w2.heap.size, C3, Nat.zero_le _, rfl, by simp [ctxts], HOX.out, HG0.out, fun j _ hj => by omega, HB3.out⟩
  case round =>
    clear hcv HOX HG0 HB3 HHD hnl
    obtain ⟨k, g, cap, hk, rfl, rfl, hox, hg, hno, hBr⟩ := hrel
    have HNO : Hid (∀ j (hj : j < m.ks.length), j < k → (m.ks[j].ws.any hasLf) = false) := hno
    clear hno
    obtain ⟨_, ⟨x0, x1, x2, x3, x4, x5⟩, _⟩ := wr6 (bm.below hBr)
    have hnl2 : (ctxts (m.ks.take k)).length ≤ 5838 := ctxts_len (by have := List.length_take_le k m.ks; omega) (take_mem hm.ks k)
    have hXl : (head m ++ ctxts (m.ks.take k)).length ≤ 6000 := by rw [List.length_append]; omega
    by_cases hlt : k < m.ks.length
    · rcases h.k with e0 | ⟨xb, xo, rfl, hxb, hxc⟩
      · rw [e0] at hlt; simp at hlt
      obtain ⟨a0, c0, a1, c1, ⟨d0, d1⟩, hs, hv⟩ := hxc k hlt
      have d0 := (hBr.cell (p := ⟨xb, xo + k * 2, none⟩) hxb).trans d0
      have d1 := (hBr.cell (p := ⟨xb, xo + k * 2 + 1, none⟩) hxb).trans d1
      have hxb := Nat.lt_of_lt_of_le hxb hBr.size
      have HN : Hid (head m ++ ctxts (m.ks.take (k + 1)) = head m ++ ctxts (m.ks.take k) ++ ctxt m.ks[k]) := by show _ = _; rw [ctxts_take m.ks k hlt]; simp
      have HYES : Hid ((m.ks[k].ws.any hasLf) = true → anyLf m.ks = true) := fun e => any_yes (p := fun t : Kv => t.ws.any hasLf) hlt e
      have HNX : Hid ((m.ks[k].ws.any hasLf) = false → ∀ j (hj : j < m.ks.length), j < k + 1 → (m.ks[j].ws.any hasLf) = false) := fun e => at_snoc (p := fun t : Kv => t.ws.any hasLf) HNO.out hlt e
      obtain ⟨kn1, kn2, kn3, kn4⟩ := hm.ks m.ks[k] (List.getElem_mem hlt)
      clear hxc HNO hnl2
      generalize m.ks[k] = t at d0 d1 hs hv HN HYES HNX kn1 kn2 kn3 kn4
      rw [ctxt_eq] at HN
      generalize head m ++ ctxts (m.ks.take k) = X at hox hXl HN ⊢
      obtain ⟨n, hn⟩ : ∃ n, t.ws.length = n := ⟨_, rfl⟩
      rw [hn] at kn1 kn2 HN d0
      rw [kn2] at d1
      have HK2 : Hid (t.vs.length = n) := kn2
      have HKN : Hid (t.ws.length = n) := hn
      clear kn2 hn
      have hil := Nu.itoa_len (n : Int) (by omega) (by omega)
      obtain ⟨X1, hX1⟩ : ∃ X1, X ++ ([99, 116, 114, 32] ++ Lib.itoa (n : Int) ++ [10]) = X1 := ⟨_, rfl⟩
      have hX1l : X1.length ≤ 6026 := by rw [← hX1]; simp; omega
      have HL1 : Hid (X ++ ((⟨#[99, 116, 114, 32]⟩ : ByteArray) ++ ⟨(Lib.itoa (n : Int)).toArray⟩ ++ ⟨#[10]⟩).data.toList = X1) := by show _ = _; rw [← hX1]; simp
      have HN : Hid (head m ++ ctxts (m.ks.take (k + 1)) = X1 ++ wlines t.vs t.ws) := by show _ = _; rw [HN.out, ← hX1]; simp
      clear hX1
      go_wp2_with fail
      obtain ⟨W2, hW2, hsz2, hB1, bt⟩ := new1 wr [.slice a0 n c0, .slice a1 n c1] 47
      rw [hW2]
      obtain ⟨rb, hrb⟩ : ∃ rb, wr.heap.size = rb := ⟨_, rfl⟩
      have hgrb : g < rb := by rw [← hrb]; exact hox.lt
      have hwrb : w1.heap.size ≤ rb := by rw [← hrb]; exact hBr.size
      rw [hrb] at bt ⊢
      have hox := hox.below hB1
      have hBr := hBr.trans (hB1.mono hBr.size)
      clear hW2 hsz2 d0 d1 hrb hB1 hxb
      refine (Nu.snum _ _ (by omega) (by omega)).mono ?_
      rintro e w4 ⟨rfl, hb⟩
      have hox := hox.below hb
      have bt := bt.below hb
      have hBr := hBr.trans (hb.mono hBr.size)
      have hrl := bt.1
      clear hb x0 x1 x2 x3 x4 x5
      go_wp2_with (at_builtin; refine Ob.wpl_appS rfl _ _ rfl g cap X.length X rfl rfl hox ((⟨#[99, 116, 114, 32]⟩ : ByteArray) ++ ⟨(Lib.itoa (n : Int)).toArray⟩ ++ ⟨#[10]⟩) rfl X1 HL1.out (by omega) ?_; intro g5 cap5 w5 hox5 hgr5 hloc5; have bt5 := bt.keptAt hgr5.size (hgr5.block rb hrl (by intro e; cases e; omega)))
      have HB5 : Hid (Below w1.heap.size w1 w5) := hBr.grown hgr5 hBr.size (fun k e => by cases e; exact hg)
      have HG5 : Hid (w1.heap.size ≤ g5 ∧ ¬ rb = g5) := ⟨by have := hBr.size; omega, by omega⟩
      clear hox hBr hgr5 hloc5 bt hrl hil hgrb hg
      go_loopw [3, 6] (fun v i wq => ∃ q g cap : Nat, q ≤ n ∧ i = .int .i64 q ∧ v = .slice (some ⟨g, 0, none⟩) (X1 ++ wlines (t.vs.take q) (t.ws.take q)).length cap ∧ Ox wq g cap (X1 ++ wlines (t.vs.take q) (t.ws.take q)) ∧ w1.heap.size ≤ g ∧ ¬ rb = g ∧ Wr wq rb 0 [.slice a0 n c0, .slice a1 n c1] ∧ (∀ j (hj : j < t.ws.length), j < q → hasLf t.ws[j] = false) ∧ Below w1.heap.size w1 wq) (fun _ i _ => n - (intOf i).toNat)
      case atStart => exact ⟨0, g5, cap5, Nat.zero_le _, rfl, by simp [wlines], by simpa [wlines] using hox5, HG5.out.1, HG5.out.2, bt5, fun j _ hj => by omega, HB5.out⟩
      case round =>
        clear hox5 bt5 HB5 HG5 HL1
        obtain ⟨q, g, cap, hq, rfl, rfl, hox, hg, hne, bt, hno, hBr⟩ := hrel
        have HNO : Hid (∀ j (hj : j < t.ws.length), j < q → hasLf t.ws[j] = false) := hno
        obtain ⟨hrl, ⟨y0, y1⟩, _⟩ := wr2 bt
        have hnl2 : (wlines (t.vs.take q) (t.ws.take q)).length ≤ 1920 := by
          have q1 := wlines_len (t.vs.take q) (t.ws.take q) (take_mem kn3 q) (take_mem kn4 q)
          have q2 := List.length_take_le q t.ws
          have := HKN.out
          omega
        have hYl : (X1 ++ wlines (t.vs.take q) (t.ws.take q)).length ≤ 8000 := by rw [List.length_append]; omega
        clear hno hnl2
        by_cases hlt2 : q < n
        · have hlw : q < t.ws.length := by rw [HKN.out]; exact hlt2
          have hlv : q < t.vs.length := by rw [HK2.out]; exact hlt2
          rcases id hs with e0 | ⟨wb, wo, rfl, hwb, hwc⟩
          · rw [e0] at hlw; simp at hlw
          rcases id hv with e0 | ⟨vb, vo, rfl, hvb, hvc⟩
          · rw [e0] at hlv; simp at hlv
          have e0 := (hBr.cell (p := ⟨wb, wo + q, none⟩) hwb).trans (hwc q hlw)
          have e1 := (hBr.cell (p := ⟨vb, vo + q, none⟩) hvb).trans (hvc q hlv)
          have hx := kn3 t.vs[q] (List.getElem_mem hlv)
          have hsz := kn4 t.ws[q] (List.getElem_mem hlw)
          have HW : Hid (wlines (t.vs.take (q + 1)) (t.ws.take (q + 1)) = wlines (t.vs.take q) (t.ws.take q) ++ wline t.vs[q] t.ws[q]) := wlines_take t.vs t.ws q hlw hlv
          have HY2 : Hid (hasLf t.ws[q] = true → anyLf m.ks = true) := fun e => HYES.out (any_yes (p := hasLf) hlw e)
          have HN2 : Hid (hasLf t.ws[q] = false → ∀ j (hj : j < t.ws.length), j < q + 1 → hasLf t.ws[j] = false) := fun e => at_snoc (p := hasLf) HNO.out hlw e
          generalize t.vs[q] = x at e1 hx HW
          generalize t.ws[q] = s at e0 hsz HW HY2 HN2
          have HX : Hid (X1 ++ wlines (t.vs.take (q + 1)) (t.ws.take (q + 1)) = X1 ++ wlines (t.vs.take q) (t.ws.take q) ++ wline x s) := by show _ = _; rw [HW.out]; simp
          have hwl := wline_len x s hx hsz
          generalize X1 ++ wlines (t.vs.take q) (t.ws.take q) = Y at hox hYl HX ⊢
          have hwb' := Nat.lt_of_lt_of_le hwb hBr.size
          have hvb' := Nat.lt_of_lt_of_le hvb hBr.size
          have hil := Nu.itoa_len x hx.1 hx.2
          clear hwc hvc HW hlw hlv HNO
          go_wp2_with fail
          refine (Sp.parts _ s 10 (by omega)).mono ?_
          rintro e w6 ⟨pv, rfl, hpo, hb⟩
          obtain ⟨pa, pc, rfl⟩ := own_len hpo
          clear hpo
          cases hh : hasLf s with
          | true =>
            have hpl := pcs_more s hh
            have HR : Hid (mtext m = []) := mtext_lf (HY2.out hh)
            have hBe := hB.trans ((hBr.trans (hb.mono hBr.size)).mono hB.size)
            generalize (Pc.pcs 10 s.data.toList).length = pn at hpl ⊢
            go_wp2
            go_ret
            exact ⟨by rw [HR.out]; rfl, hBe⟩
          | false =>
            have hpl := pcs_one s hh
            have HN3 : Hid (∀ j (hj : j < t.ws.length), j < q + 1 → hasLf t.ws[j] = false) := HN2.out hh
            rw [hpl]
            have hox := hox.below hb
            have bt := bt.below hb
            have hBr := hBr.trans (hb.mono hBr.size)
            have e0 := (hb.cell (p := ⟨wb, wo + q, none⟩) hwb').trans e0
            have e1 := (hb.cell (p := ⟨vb, vo + q, none⟩) hvb').trans e1
            have hwb' := Nat.lt_of_lt_of_le hwb' hb.size
            have hvb' := Nat.lt_of_lt_of_le hvb' hb.size
            clear hb hpl hh HN2 HY2 y0 y1 hrl
            obtain ⟨hrl, ⟨y0, y1⟩, _⟩ := wr2 bt
            obtain ⟨Z, hZ⟩ : ∃ Z, X1 ++ wlines (t.vs.take (q + 1)) (t.ws.take (q + 1)) = Z := ⟨_, rfl⟩
            rw [hZ] at HX
            have HZE : Hid (X1 ++ wlines (t.vs.take (q + 1)) (t.ws.take (q + 1)) = Z) := hZ
            have HL2 : Hid (Y ++ ((⟨(Lib.itoa x).toArray⟩ : ByteArray) ++ ⟨#[32]⟩ ++ s ++ ⟨#[10]⟩).data.toList = Z) := by show _ = _; rw [HX.out]; simp [wline]
            have hZl : Z.length ≤ 8048 := by rw [HX.out, List.length_append]; omega
            have HOXH : Hid (type_of% hox) := hox
            have HBT : Hid (type_of% bt) := bt
            have HBR : Hid (type_of% hBr) := hBr
            have HXI : Hid (i64 x) := hx
            clear hZ hox bt hBr hx
            have k1 : ¬ 9223372036854775807 < (Lib.itoa x).length + 1 := by omega
            have k2 : ¬ 9223372036854775807 < (Lib.itoa x).length + 1 + s.size := by omega
            have k3 : ¬ 9223372036854775807 < (Lib.itoa x).length + 1 + s.size + 1 := by omega
            go_wp2_with fail
            go_region_held3 (fun w' => w'.cell? ⟨rb, 0, none⟩ = some (.slice (some ⟨wb, wo, none⟩) n c0) ∧ w'.cell? ⟨rb, 1, none⟩ = some (.slice (some ⟨vb, vo, none⟩) n c1) ∧ w'.cell? ⟨wb, wo + q, none⟩ = some (.string s) ∧ w'.cell? ⟨vb, vo + q, none⟩ = some (.int .i64 x)) (go_keep) (first
              | (go_at_call 26
                 refine (Nu.snum _ w6.drew HXI.out.1 HXI.out.2).mono ?_
                 rintro e w7 ⟨rfl, hb⟩
                 have HY : Hid (Below w6.heap.size w6 w7) := ((Below.refl w6.heap.size w6).drew).trans hb
                 obtain ⟨_, ⟨z0, z1⟩, _⟩ := wr2 (HBT.out.below HY.out)
                 have z2 := (HY.out.cell (p := ⟨wb, wo + q, none⟩) hwb').trans e0
                 have z3 := (HY.out.cell (p := ⟨vb, vo + q, none⟩) hvb').trans e1
                 clear hb)
              | (refine Ob.step_appS rfl _ _ rfl g cap Y.length Y rfl rfl (HOXH.out.below HY.out) ((⟨(Lib.itoa x).toArray⟩ : ByteArray) ++ ⟨#[32]⟩ ++ s ++ ⟨#[10]⟩) rfl Z HL2.out (by omega) ?_
                 intro g8 cap8 w8 hox8 hgr8 hloc8
                 have w0 := (World.cell?_of_block (a := ⟨rb, 0, none⟩) (hgr8.block rb (Nat.lt_of_lt_of_le hrl HY.out.size) (by intro e; cases e; omega))).trans z0
                 have w1' := (World.cell?_of_block (a := ⟨rb, 1, none⟩) (hgr8.block rb (Nat.lt_of_lt_of_le hrl HY.out.size) (by intro e; cases e; omega))).trans z1
                 have w2' := (World.cell?_of_block (a := ⟨wb, wo + q, none⟩) (hgr8.block wb (Nat.lt_of_lt_of_le hwb' HY.out.size) (by intro e; cases e; omega))).trans z2
                 have w3' := (World.cell?_of_block (a := ⟨vb, vo + q, none⟩) (hgr8.block vb (Nat.lt_of_lt_of_le hvb' HY.out.size) (by intro e; cases e; omega))).trans z3
                 have HO8 : Hid (type_of% hox8) := hox8
                 have HG8 : Hid (type_of% hgr8) := hgr8
                 have HL8 : Hid (type_of% hloc8) := hloc8
                 clear hox8 hgr8 hloc8))
            have HB8 : Hid (Below w1.heap.size w1 w8) := (HBR.out.trans (HY.out.mono HBR.out.size)).grown HG8.out (by have := HBR.out.size; have := HY.out.size; omega) (fun k e => by cases e; exact hg)
            have HT8 : Hid (Wr w8 rb 0 [.slice (some ⟨wb, wo, none⟩) n c0, .slice (some ⟨vb, vo, none⟩) n c1]) := (HBT.out.below HY.out).keptAt HG8.out.size (HG8.out.block rb (Nat.lt_of_lt_of_le hrl HY.out.size) (by intro e; cases e; omega))
            have HP8 : Hid (w1.heap.size ≤ g8 ∧ ¬ rb = g8) := by
              have h1 := HBR.out.size
              have h2 := HY.out.size
              rcases HL8.out with e | e
              · rw [e]; exact ⟨hg, hne⟩
              · rw [e]; exact ⟨by omega, by omega⟩
            clear w0 w1' w2' w3' z0 z1 z2 z3 y0 y1 e0 e1
            go_wp2
            go_roundw
            case rel => exact ⟨q + 1, g8, cap8, by omega, by go_num, by rw [HZE.out], by rw [HZE.out]; exact HO8.out, HP8.out.1, HP8.out.2, HT8.out, HN3.out, HB8.out⟩
            case measure => simp [intOf]; omega
        · have e1 : t.vs.take q = t.vs := List.take_of_length_le (by rw [HK2.out]; omega)
          have e2 : t.ws.take q = t.ws := List.take_of_length_le (by rw [HKN.out]; omega)
          rw [e1, e2, ← HN.out] at hox hYl
          rw [e1, e2, ← HN.out]
          have HNO2 : Hid (∀ j (hj : j < m.ks.length), j < k + 1 → (m.ks[j].ws.any hasLf) = false) := HNX.out (any_no fun j hj => HNO.out j hj (by have := HKN.out; omega))
          clear e1 e2 hYl
          go_wp2
          go_roundw
          case rel => exact ⟨k + 1, g, cap, by omega, by go_num, rfl, hox, hg, HNO2.out, hBr⟩
          case measure => simp [intOf]; omega
    · have e1 : m.ks.take k = m.ks := List.take_of_length_le (by omega)
      have HLF : Hid (anyLf m.ks = false) := any_no (p := fun t : Kv => t.ws.any hasLf) fun j hj => HNO.out j hj (by omega)
      have HR : Hid (mtext m = whole m) := mtext_yes HOK.out HLF.out
      rw [whole_eq] at HR
      have HBD : Hid (body m = head m ++ ctxts m.ks ++ ttxts m.ts) := rfl
      rw [e1] at hox hXl hnl2
      rw [e1]
      generalize head m ++ ctxts m.ks = X at hox hXl HBD ⊢
      clear e1 HNO hnl2 HLF
      have HOX : Hid (Ox wr g cap (X ++ ttxts (m.ts.take 0))) := by show Ox _ _ _ _; simpa [ttxts] using hox
      have HG0 : Hid (w1.heap.size ≤ g) := hg
      have HB3 : Hid (Below w1.heap.size w1 wr) := hBr
      clear hox hg hBr
      go_wp2
      go_loopw [3, 7] (fun v i wq => ∃ k g cap : Nat, k ≤ m.ts.length ∧ i = .int .i64 k ∧ v = .slice (some ⟨g, 0, none⟩) (X ++ ttxts (m.ts.take k)).length cap ∧ Ox wq g cap (X ++ ttxts (m.ts.take k)) ∧ w1.heap.size ≤ g ∧ Below w1.heap.size w1 wq) (fun _ i _ => m.ts.length - (intOf i).toNat)
      case atStart => exact ⟨0, g, cap, Nat.zero_le _, rfl, by simp [ttxts], HOX.out, HG0.out, HB3.out⟩
      case round =>
        clear HOX HG0 HB3 x0 x1 x2 x3 x4 x5
        obtain ⟨k, g, cap, hk, rfl, rfl, hox, hg, hBr⟩ := hrel
        obtain ⟨_, ⟨x0, x1, x2, x3, x4, x5⟩, _⟩ := wr6 (bm.below hBr)
        have hnl2 : (ttxts (m.ts.take k)).length ≤ 6420 := ttxts_len (by have := List.length_take_le k m.ts; omega) (take_mem hm.ts k)
        have hYl : (X ++ ttxts (m.ts.take k)).length ≤ 12420 := by rw [List.length_append]; omega
        by_cases hlt : k < m.ts.length
        · rcases h.t with e0 | ⟨xb, xo, rfl, hxb, hxc⟩
          · rw [e0] at hlt; simp at hlt
          obtain ⟨v0, v1, ⟨d0, d1⟩, htr⟩ := hxc k hlt
          have d0 := (hBr.cell (p := ⟨xb, xo + k * 2, none⟩) hxb).trans d0
          have d1 := (hBr.cell (p := ⟨xb, xo + k * 2 + 1, none⟩) hxb).trans d1
          have hxb := Nat.lt_of_lt_of_le hxb hBr.size
          have HN : Hid (X ++ ttxts (m.ts.take (k + 1)) = X ++ ttxts (m.ts.take k) ++ ttxt m.ts[k]) := by show _ = _; rw [ttxts_take m.ts k hlt]; simp
          obtain ⟨kn1, kn2, kn3, kn4⟩ := hm.ts m.ts[k] (List.getElem_mem hlt)
          clear hxc hnl2
          generalize m.ts[k] = t at d0 d1 htr HN kn1 kn2 kn3 kn4
          obtain ⟨a0, c0, a1, c1, rfl, rfl, hp, hv⟩ := htr
          rw [ttxt_pre] at HN
          generalize X ++ ttxts (m.ts.take k) = Y at hox hYl HN ⊢
          obtain ⟨X1, hX1⟩ : ∃ X1, Y ++ [116, 114, 101, 101] = X1 := ⟨_, rfl⟩
          have hX1l : X1.length ≤ 12424 := by rw [← hX1]; simp; omega
          have HL1 : Hid (Y ++ (⟨#[116, 114, 101, 101]⟩ : ByteArray).data.toList = X1) := by show _ = _; rw [← hX1]
          have HN : Hid (X ++ ttxts (m.ts.take (k + 1)) = X1 ++ spt t.sp ++ ([32, 58] ++ nums t.lv ++ [10])) := by show _ = _; rw [HN.out, ← hX1]; simp
          clear hX1
          obtain ⟨rb, hrb⟩ : ∃ rb, wr.heap.size = rb := ⟨_, rfl⟩
          obtain ⟨W2, hW2, hsz2, hB1, bt⟩ := new1 wr [.slice a0 t.sp.length c0, .slice a1 t.lv.length c1] 56
          have hgrb : g < rb := by rw [← hrb]; exact hox.lt
          have hwrb : w1.heap.size ≤ rb := by rw [← hrb]; exact hBr.size
          rw [hrb] at bt
          have HRB : Hid (wr.heap.size = rb) := hrb
          have HW2 : Hid (wr.alloc (.cells #[.slice a0 t.sp.length c0, .slice a1 t.lv.length c1] 56) = W2) := hW2
          have hox := hox.below hB1
          have HBR : Hid (Below w1.heap.size w1 W2) := hBr.trans (hB1.mono hBr.size)
          have hrl := bt.1
          clear hW2 hsz2 hrb hB1 hBr
          go_wp2_with (at_builtin; rw [HW2.out, HRB.out]; refine Ob.wpl_appS rfl _ _ rfl g cap Y.length Y rfl rfl hox (⟨#[116, 114, 101, 101]⟩ : ByteArray) rfl X1 HL1.out (by omega) ?_; intro g5 cap5 w5 hox5 hgr5 hloc5; have bt5 := bt.keptAt hgr5.size (hgr5.block rb hrl (by intro e; cases e; omega)))
          have HB5 : Hid (Below w1.heap.size w1 w5) := HBR.out.grown hgr5 HBR.out.size (fun k e => by cases e; exact hg)
          have HG5 : Hid (w1.heap.size ≤ g5 ∧ ¬ rb = g5) := ⟨by have := HBR.out.size; omega, by omega⟩
          clear hox HBR hgr5 hloc5 bt hrl hgrb hg HW2 HRB HL1 x0 x1 x2 x3 x4 x5 d0 d1 hxb
          go_loopw [3, 9] (fun v i wq => ∃ q g cap : Nat, q ≤ t.sp.length ∧ i = .int .i64 q ∧ v = .slice (some ⟨g, 0, none⟩) (X1 ++ spt (t.sp.take q)).length cap ∧ Ox wq g cap (X1 ++ spt (t.sp.take q)) ∧ w1.heap.size ≤ g ∧ ¬ rb = g ∧ Wr wq rb 0 [.slice a0 t.sp.length c0, .slice a1 t.lv.length c1] ∧ Below w1.heap.size w1 wq) (fun _ i _ => t.sp.length - (intOf i).toNat)
          case atStart => exact ⟨0, g5, cap5, Nat.zero_le _, rfl, by simp [spt], by simpa [spt] using hox5, HG5.out.1, HG5.out.2, bt5, HB5.out⟩
          case round =>
            clear hox5 bt5 HB5 HG5
            obtain ⟨q, g, cap, hq, rfl, rfl, hox, hg, hne, bt, hBr⟩ := hrel
            obtain ⟨hrl, ⟨y0, y1⟩, _⟩ := wr2 bt
            have hnl2 : (spt (t.sp.take q)).length ≤ 176 := by
              have q1 := spt_len (t.sp.take q) (take_mem kn3 q)
              have q2 := List.length_take_le q t.sp
              omega
            have hSl : (X1 ++ spt (t.sp.take q)).length ≤ 12600 := by rw [List.length_append]; omega
            clear hnl2
            by_cases hlt2 : q < t.sp.length
            · rcases id hp with e0 | ⟨wb, wo, rfl, hwb, hwc⟩
              · rw [e0] at hlt2; simp at hlt2
              obtain ⟨f0, f1⟩ := hwc q hlt2
              have e0 := (hBr.cell (p := ⟨wb, wo + q * 2, none⟩) hwb).trans f0
              have e1 := (hBr.cell (p := ⟨wb, wo + q * 2 + 1, none⟩) hwb).trans f1
              have hx := kn3 t.sp[q] (List.getElem_mem hlt2)
              have HW : Hid (X1 ++ spt (t.sp.take (q + 1)) = X1 ++ spt (t.sp.take q) ++ nums [t.sp[q].1, t.sp[q].2]) := by show _ = _; rw [spt_take t.sp q hlt2]; simp
              generalize t.sp[q].1 = x at e0 hx HW
              generalize t.sp[q].2 = y at e1 hx HW
              have hwb' := Nat.lt_of_lt_of_le hwb hBr.size
              have hi : ∀ z ∈ [x, y], i64 z := by intro z hz; simp at hz; rcases hz with rfl | rfl; exact hx.1; exact hx.2
              have hil := nums_len _ hi
              simp only [List.length_cons, List.length_nil] at hil
              generalize X1 ++ spt (t.sp.take q) = Y1 at hox hSl HW ⊢
              obtain ⟨Z, hZ⟩ : ∃ Z, X1 ++ spt (t.sp.take (q + 1)) = Z := ⟨_, rfl⟩
              rw [hZ] at HW
              have HZE : Hid (X1 ++ spt (t.sp.take (q + 1)) = Z) := hZ
              have HL2 : Hid (Y1 ++ (⟨(nums [x, y]).toArray⟩ : ByteArray).data.toList = Z) := by show _ = _; rw [HW.out]
              have hZl : Z.length ≤ 12700 := by rw [HW.out, List.length_append]; omega
              have HOXH : Hid (type_of% hox) := hox
              have HBT : Hid (type_of% bt) := bt
              have HBR : Hid (type_of% hBr) := hBr
              have HI : Hid (type_of% hi) := hi
              have q1 := World.new_ne wr ⟨rb, 0, none⟩ y0
              have q2 := World.new_ne wr ⟨wb, wo + q * 2, none⟩ e0
              have q3 := World.new_ne wr ⟨wb, wo + q * 2 + 1, none⟩ e1
              clear hZ hox bt hBr hx hi f0 f1 hwc
              go_wp2_with fail
              go_region_held3 (fun w' => w'.cell? ⟨rb, 0, none⟩ = some (.slice (some ⟨wb, wo, none⟩) t.sp.length c0) ∧ w'.cell? ⟨wb, wo + q * 2, none⟩ = some (.int .i64 x) ∧ w'.cell? ⟨wb, wo + q * 2 + 1, none⟩ = some (.int .i64 y)) (go_keep) (first
                | (go_at_call 25
                   refine (snums (wr.alloc (.cells #[.int .i64 x, .int .i64 y] 3)).drew _ _ [x, y] (isl_lit wr [x, y] 3 _ _ rfl rfl) HI.out (by simp)).mono ?_
                   rintro e w7 ⟨rfl, hb⟩
                   have HY : Hid (Below wr.heap.size wr w7) := (((Below.refl wr.heap.size wr).alloc (Nat.le_refl _) _).drew).trans (hb.mono (by simp))
                   obtain ⟨_, ⟨z0, z1⟩, _⟩ := wr2 (HBT.out.below HY.out)
                   have z2 := (HY.out.cell (p := ⟨wb, wo + q * 2, none⟩) hwb').trans e0
                   have z3 := (HY.out.cell (p := ⟨wb, wo + q * 2 + 1, none⟩) hwb').trans e1
                   clear hb)
                | (refine Ob.step_appS rfl _ _ rfl g cap Y1.length Y1 rfl rfl (HOXH.out.below HY.out) (⟨(nums [x, y]).toArray⟩ : ByteArray) rfl Z HL2.out (by omega) ?_
                   intro g8 cap8 w8 hox8 hgr8 hloc8
                   have p0 := (World.cell?_of_block (a := ⟨rb, 0, none⟩) (hgr8.block rb (Nat.lt_of_lt_of_le hrl HY.out.size) (by intro e; cases e; omega))).trans z0
                   have p2 := (World.cell?_of_block (a := ⟨wb, wo + q * 2, none⟩) (hgr8.block wb (Nat.lt_of_lt_of_le hwb' HY.out.size) (by intro e; cases e; omega))).trans z2
                   have p3 := (World.cell?_of_block (a := ⟨wb, wo + q * 2 + 1, none⟩) (hgr8.block wb (Nat.lt_of_lt_of_le hwb' HY.out.size) (by intro e; cases e; omega))).trans z3
                   have HO8 : Hid (type_of% hox8) := hox8
                   have HG8 : Hid (type_of% hgr8) := hgr8
                   have HL8 : Hid (type_of% hloc8) := hloc8
                   clear hox8 hgr8 hloc8))
              have HB8 : Hid (Below w1.heap.size w1 w8) := (HBR.out.trans (HY.out.mono HBR.out.size)).grown HG8.out (by have := HBR.out.size; have := HY.out.size; omega) (fun k e => by cases e; exact hg)
              have HT8 : Hid (Wr w8 rb 0 [.slice (some ⟨wb, wo, none⟩) t.sp.length c0, .slice a1 t.lv.length c1]) := (HBT.out.below HY.out).keptAt HG8.out.size (HG8.out.block rb (Nat.lt_of_lt_of_le hrl HY.out.size) (by intro e; cases e; omega))
              have HP8 : Hid (w1.heap.size ≤ g8 ∧ ¬ rb = g8) := by
                have h1 := HBR.out.size
                have h2 := HY.out.size
                rcases HL8.out with e | e
                · rw [e]; exact ⟨hg, hne⟩
                · rw [e]; exact ⟨by omega, by omega⟩
              clear p0 p2 p3 z0 z1 z2 z3 y0 y1 e0 e1 q1 q2 q3
              go_wp2
              go_roundw
              case rel => exact ⟨q + 1, g8, cap8, by omega, by go_num, by rw [HZE.out], by rw [HZE.out]; exact HO8.out, HP8.out.1, HP8.out.2, HT8.out, HB8.out⟩
              case measure => simp [intOf]; omega
            · have e1 : t.sp.take q = t.sp := List.take_of_length_le (by omega)
              rw [e1] at hox hSl
              rw [e1]
              clear e1
              have hnl3 := nums_len _ kn4
              generalize X1 ++ spt t.sp = Y1 at hox hSl HN ⊢
              obtain ⟨Z, hZ⟩ : ∃ Z, X ++ ttxts (m.ts.take (k + 1)) = Z := ⟨_, rfl⟩
              rw [hZ] at HN
              have HZE : Hid (X ++ ttxts (m.ts.take (k + 1)) = Z) := hZ
              have HL2 : Hid (Y1 ++ ((⟨#[32, 58]⟩ : ByteArray) ++ ⟨(nums t.lv).toArray⟩ ++ ⟨#[10]⟩).data.toList = Z) := by show _ = _; rw [HN.out]; simp
              have hZl : Z.length ≤ 13000 := by rw [HN.out]; simp; omega
              clear hZ
              go_wp2_with fail
              refine (snums _ _ _ t.lv (hv.below hBr) kn4 (by omega)).mono ?_
              rintro e w7 ⟨rfl, hb⟩
              have hox := hox.below hb
              have hBr := hBr.trans (hb.mono hBr.size)
              clear hb y0 y1 bt hrl
              go_wp2_with (at_builtin; refine Ob.wpl_appS rfl _ _ rfl g cap Y1.length Y1 rfl rfl hox ((⟨#[32, 58]⟩ : ByteArray) ++ ⟨(nums t.lv).toArray⟩ ++ ⟨#[10]⟩) rfl Z HL2.out (by omega) ?_; intro g8 cap8 w8 hox8 hgr8 hloc8)
              have HB8 : Hid (Below w1.heap.size w1 w8) := hBr.grown hgr8 hBr.size (fun k e => by cases e; exact hg)
              have HP8 : Hid (w1.heap.size ≤ g8) := by have := hBr.size; show _ ≤ _; omega
              clear hgr8 hloc8 hox hBr
              go_roundw
              case rel => exact ⟨k + 1, g8, cap8, by omega, by go_num, by rw [HZE.out], by rw [HZE.out]; exact hox8, HP8.out, HB8.out⟩
              case measure => simp [intOf]; omega
        · have e1 : m.ts.take k = m.ts := List.take_of_length_le (by omega)
          rw [e1, ← HBD.out] at hox hYl
          rw [e1, ← HBD.out]
          clear e1 hnl2
          have hbl := body_len hm
          have hwl := whole_len hm
          rw [whole_eq] at hwl
          generalize body m = Y at hox hYl HR hbl hwl ⊢
          have hcr := Cr.crc_lt Y
          have hic := Cr.scrc ⟨Y.toArray⟩ wr (by rw [ba_size]; omega)
          have hdl : (ByteArray.mk Y.toArray).data.toList = Y := by simp
          rw [hdl] at hic
          have hcv := run_convert_bytes_back (P := Tryz.prog) wr 22 9 5 ⟨g, 0, none⟩ cap Y Tryz.underlying22 Tryz.underlying5 Tryz.underlying9 (fun j hj => by rw [Go.WideShapes.add_plain, Nat.zero_add]; exact hox.cell j hj)
          have hil := Nu.itoa_len (Cr.crc Y : Int) (by omega) (by omega)
          obtain ⟨Z, hZ⟩ : ∃ Z, Y ++ ([115, 117, 109, 32] ++ Lib.itoa (Cr.crc Y : Int) ++ [10]) = Z := ⟨_, rfl⟩
          have HL2 : Hid (Y ++ ((⟨#[115, 117, 109, 32]⟩ : ByteArray) ++ ⟨(Lib.itoa (Cr.crc Y : Int)).toArray⟩ ++ ⟨#[10]⟩).data.toList = Z) := by show _ = _; rw [← hZ]; simp
          rw [hZ] at HR hwl
          clear hdl hZ
          go_wp2_with (go_at_call 16; refine hic.mono ?_; rintro e w' ⟨rfl, hw'⟩; subst w')
          refine (Nu.snum _ _ (by omega) (by omega)).mono ?_
          rintro e w7 ⟨rfl, hb⟩
          have hox := hox.below hb
          have hBr := hBr.trans (hb.mono hBr.size)
          generalize Lib.itoa (Cr.crc Y : Int) = I at HL2 hil ⊢
          clear hb hic hcv hcr x0 x1 x2 x3 x4 x5
          go_wp2_with (at_builtin; refine Ob.wpl_appS rfl _ _ rfl g cap Y.length Y rfl rfl hox ((⟨#[115, 117, 109, 32]⟩ : ByteArray) ++ ⟨I.toArray⟩ ++ ⟨#[10]⟩) rfl Z HL2.out (by omega) ?_; intro g8 cap8 w8 hox8 hgr8 hloc8; have hcv := run_convert_bytes_back (P := Tryz.prog) w8 22 9 5 ⟨g8, 0, none⟩ cap8 Z Tryz.underlying22 Tryz.underlying5 Tryz.underlying9 (fun j hj => by rw [Go.WideShapes.add_plain, Nat.zero_add]; exact hox8.cell j hj))
          have hBe := hB.trans ((hBr.grown hgr8 hBr.size (fun k e => by cases e; exact hg)).mono hB.size)
          go_ret
          exact ⟨by rw [HR.out]; rfl, hBe⟩
end Go.Proofs.YtaojoamldoofpaaGreatDoor.Mt
