/-
  Asked of the program.
-/
import Derived.Test.YtmfippeclkmhnaaSeI
namespace Go.Proofs.Ytmfippeclkmhnaa.Sw7
open Go.RowKit
open Go.Proofs.Ytmfippeclkmhnaa.Li (ret_bool ret_int below_none IsL btw iv)
open Go.Proofs.Ytmfippeclkmhnaa.Tm (IsP pv pv_length)
open Go.Proofs.Ytmfippeclkmhnaa.Se Go.Proofs.Ytmfippeclkmhnaa.Sv
set_option linter.unusedVariables false

/-- What the asked rows' variable and lists are in the loop. -/
structure AK (w wr : World) (bo : Nat) (B0 B1 B2 : Nat → Prop) (v0 v1 v2 : Value) (lv2 l2 f b : Int) (x : List (List Int)) (gs ids : List Int) (RA : List Value) : Prop where
  bv : Wr wr bo 0 [v0, v1, v2, .int .i64 lv2, .int .i64 l2]
  o0 : OwV wr B0 v0 x
  o1 : OwI wr B1 v1 gs
  o2 : OwI wr B2 v2 ids
  ba : Wr wr w.heap.size 0 RA
  bs : Wr wr (w.heap.size + 1) 0 [.int .i64 f, .int .i64 b]
  br : Wr wr (w.heap.size + 1 + 1) 0 zr5
  ge : w.heap.size + 3 ≤ bo
  gb : ∀ k, B0 k ∨ B1 k ∨ B2 k → w.heap.size + 3 ≤ k ∧ k < bo
  dj : ∀ k, B2 k → ¬ B0 k ∧ ¬ B1 k
  dk : ∀ k, B0 k → ¬ B1 k
  bel : Below w.heap.size w wr
section
variable {w wr wy : World} {bo : Nat} {B0 B1 B2 : Nat → Prop} {v0 v1 v2 : Value} {lv2 l2 f b : Int} {x : List (List Int)} {gs ids : List Int} {RA : List Value}
theorem AK.below (h : AK w wr bo B0 B1 B2 v0 v1 v2 lv2 l2 f b x gs ids RA) (hb : Below wr.heap.size wr wy) : AK w wy bo B0 B1 B2 v0 v1 v2 lv2 l2 f b x gs ids RA :=
  ⟨h.bv.below hb, h.o0.below hb, h.o1.below hb, h.o2.below hb, h.ba.below hb, h.bs.below hb, h.br.below hb, h.ge, h.gb, h.dj, h.dk, h.bel.trans (hb.mono h.bel.size)⟩
theorem AK.set {g off n c k : Nat} (h : AK w wr bo B0 B1 B2 v0 v1 (.slice (some ⟨g, off, none⟩) n c) lv2 l2 f b x gs ids RA) (hn : ids.length = n) (hk : k < ids.length) (hg : B2 g) (hw : Wr wr g off (iv ids)) (y : Int) :
    AK w (wr.setCell ⟨g, off + k, none⟩ (.int .i64 y)) bo B0 B1 B2 v0 v1 (.slice (some ⟨g, off, none⟩) n c) lv2 l2 f b x gs (ids.set k y) RA := by
  have hF : Fr (fun q => q = g) wr (wr.setCell ⟨g, off + k, none⟩ (.int .i64 y)) := fr_grown (Li.grown_set _ _ _ _) rfl
  obtain ⟨g1, g2⟩ := h.gb g (.inr (.inr hg))
  obtain ⟨j0, j1⟩ := h.dj g hg
  have hge := h.ge
  refine ⟨h.bv.fr hF (by omega), h.o0.fr hF (fun q hq e => by subst e; exact j0 hq), h.o1.fr hF (fun q hq e => by subst e; exact j1 hq), ?_, h.ba.fr hF (by omega), h.bs.fr hF (by omega), h.br.fr hF (by omega), h.ge, h.gb, h.dj, h.dk, h.bel.trans (hF.bel (fun q e => by omega) h.bel.size)⟩
  refine ⟨_, c, by rw [List.length_set, hn], .inr ⟨g, off, rfl, hg, ?_⟩⟩
  have := hw.set k (by rw [Li.iv_length]; exact hk) (.int .i64 y)
  rwa [Li.iv_set] at this
end
theorem AK.start {w w1 w2 : World} {B0 B1 B2 : Nat → Prop} {v0 v1 v2 : Value} {lv2 l2 f b : Int} {x : List (List Int)} {gs ids : List Int} {RA : List Value}
    (o0 : OwV w2 B0 v0 x) (o1 : OwI w2 B1 v1 gs) (o2 : OwI w2 B2 v2 ids) (d0 : ∀ k, B0 k → (w1.heap.size ≤ k ∧ k < w2.heap.size) ∧ ¬ B1 k ∧ ¬ B2 k) (d1 : ∀ k, B1 k → (w1.heap.size ≤ k ∧ k < w2.heap.size) ∧ ¬ B2 k) (d2 : ∀ k, B2 k → w1.heap.size ≤ k ∧ k < w2.heap.size)
    (ba : Wr w2 w.heap.size 0 RA) (bs : Wr w2 (w.heap.size + 1) 0 [.int .i64 f, .int .i64 b]) (br : Wr w2 (w.heap.size + 1 + 1) 0 zr5) (hs : w.heap.size + 3 ≤ w1.heap.size) (hs2 : w1.heap.size ≤ w2.heap.size) (hB : Below w.heap.size w w2) :
    AK w (w2.alloc (.cells #[v0, v1, v2, .int .i64 lv2, .int .i64 l2] 27)) w2.heap.size B0 B1 B2 v0 v1 v2 lv2 l2 f b x gs ids RA := by
  have hb : Below w2.heap.size w2 (w2.alloc (.cells #[v0, v1, v2, .int .i64 lv2, .int .i64 l2] 27)) := (Below.refl _ _).alloc (Nat.le_refl _) _
  refine ⟨wr_new w2 [v0, v1, v2, .int .i64 lv2, .int .i64 l2] 27, o0.below hb, o1.below hb, o2.below hb, ba.below hb, bs.below hb, br.below hb, by omega, fun k hk => ?_, fun k hk => ⟨fun e => (d0 k e).2.2 hk, fun e => (d1 k e).2 hk⟩, fun k hk => (d0 k hk).2.1, hB.trans (hb.mono hB.size)⟩
  rcases hk with e | e | e
  · have := (d0 k e).1; omega
  · have := (d1 k e).1; omega
  · have := d2 k e; omega
set_option maxRecDepth 100000 in
set_option maxHeartbeats 4000000 in
theorem iasked (w : World) (a0 a1 a2 : Option Addr) (c0 c1 c2 : Nat) (r : R) (f b : Int) (h : Rd w a0 a1 a2 r) :
    Calls Try.prog 9 #[.agg #[.slice a0 r.x.length c0, .slice a1 r.g.length c1, .slice a2 r.ids.length c2, .int .i64 r.lv, .int .i64 r.l2], .agg #[.int .i64 f, .int .i64 b]] w fun e w' => ∃ v0 v1 v2, e = .returned (.agg #[v0, v1, v2, .int .i64 (asked r f b).lv, .int .i64 (asked r f b).l2]) ∧ OwR w' (fun k => w.heap.size ≤ k ∧ k < w'.heap.size) v0 v1 v2 (asked r f b) ∧ Below w.heap.size w w' := by
  go_enter Try.func9, Try.ntmps9
  go_wp2_with fail
  obtain ⟨W, hW, hsz, hB, bx, bs, br⟩ := new3 w [.slice a0 r.x.length c0, .slice a1 r.g.length c1, .slice a2 r.ids.length c2, .int .i64 r.lv, .int .i64 r.l2] [.int .i64 f, .int .i64 b] [.slice none 0 0, .slice none 0 0, .slice none 0 0, .int .i64 0, .int .i64 0] 27 29 27
  rw [hW]
  clear hW
  refine (ican _ _ _ _ _ _ _ r f b (h.below hB)).mono ?_
  rintro e w1 ⟨rfl, hb⟩
  have bx := bx.below hb
  have bs := bs.below hb
  have br := br.below hb
  have hB := hB.trans (hb.mono hB.size)
  have hS : w.heap.size + 3 ≤ w1.heap.size := by have := hb.size; omega
  clear hb hsz
  cases hc : can r f with
  | false =>
    have HR : Hid (asked r f b = ⟨[], [], [], 0, 0⟩) := asked_no b hc
    obtain ⟨_, ⟨y0, y1, y2, y3, y4⟩, g0, g1, g2, g3, g4⟩ := wr5 br
    go_wp2
    refine bodyPost_ret (v := .agg #[.slice none 0 0, .slice none 0 0, .slice none 0 0, .int .i64 0, .int .i64 0]) (by rw [Tm.results_cell rfl]; go_simp) rfl ⟨.slice none 0 0, .slice none 0 0, .slice none 0 0, by rw [HR.out], ?_, ?_⟩
    · rw [HR.out]
      exact ⟨fun _ => False, fun _ => False, fun _ => False, ⟨none, 0, rfl, .inl rfl⟩, ⟨none, 0, rfl, .inl rfl⟩, ⟨none, 0, rfl, .inl rfl⟩, fun k e => e.elim, fun k e => e.elim, fun k e => e.elim⟩
    · iterate 5 refine Below.setCell ?_ (by simp; try omega) _
      exact hB
  | true =>
    have HC : Hid (can r f = true) := hc
    have HK : Hid (ROk r) := (can_iff.1 hc).1
    have HS2 : Hid (r.g.length = r.x.length) := HK.out.1.2.1
    have HS3 : Hid (r.ids.length = r.x.length) := HK.out.1.2.2.1
    obtain ⟨_, ⟨t0, t1, t2, t3, t4⟩, _⟩ := wr5 bx
    go_wp2_with fail
    clear t0 t1 t2 t3 t4
    refine (icopy _ _ _ _ _ _ _ r (h.below hB) HK.out).mono ?_
    rintro e w2 ⟨v0, v1, v2, rfl, ho, hb⟩
    have bx := bx.below hb
    have bs := bs.below hb
    have br := br.below hb
    have hB := hB.trans (hb.mono hB.size)
    have hS2 := hb.size
    obtain ⟨B0, B1, B2, o0, o1, o2, d0, d1, d2⟩ := ho
    obtain ⟨ax, cx, rfl, _⟩ := o0.isv
    obtain ⟨ag, cg, rfl, _⟩ := o1.isl
    obtain ⟨ai, ci, rfl, _⟩ := o2.isl
    obtain ⟨lv, hlv⟩ : ∃ x, r.lv = x := ⟨_, rfl⟩
    have HLV : Hid (r.lv = lv) := hlv
    have hl8 : 1 ≤ lv ∧ lv ≤ 8 := by have h1 := (can_iff.1 HC.out).2.1; have h2 := HK.out.1.2.2.2.1; omega
    rw [hlv] at bx ⊢
    have am := AK.start (lv2 := 2 * lv) (l2 := r.l2) o0 o1 o2 d0 d1 d2 bx bs br hS hS2 hB
    have HAM : Hid (type_of% am) := am
    obtain ⟨_, ⟨t0, t1, t2, t3, t4⟩, _⟩ := wr5 bx
    have hw0 : w.heap.size < w2.heap.size := by omega
    have hw1 : ¬ w.heap.size = w2.heap.size := by omega
    have hw2 : ¬ w2.heap.size = w.heap.size := by omega
    clear hc hlv bx bs br hB o0 o1 o2 d0 d1 d2 am hb
    go_wp2
    clear t0 t1 t2 t3 t4
    go_loopw [21] (fun i wr => ∃ k : Nat, k ≤ r.ids.length ∧ i = .int .i64 k ∧ ∃ ids, AK w wr w2.heap.size B0 B1 B2 (.slice ax r.x.length cx) (.slice ag r.g.length cg) (.slice ai r.ids.length ci) (2 * lv) r.l2 f b r.x r.g ids [.slice a0 r.x.length c0, .slice a1 r.g.length c1, .slice a2 r.ids.length c2, .int .i64 lv, .int .i64 r.l2] ∧ ids.length = r.ids.length ∧ Li.Like ids (idsA r f b) k) (fun i _ => r.ids.length - (intOf i).toNat)
    case atStart => exact ⟨0, Nat.zero_le _, rfl, r.ids, HAM.out, rfl, fun j hj => by omega⟩
    case round =>
      obtain ⟨k, hk, rfl, ids, am, hil, hlike⟩ := hrel
      have HIL : Hid (ids.length = r.ids.length) := hil
      have HLK : Hid (Li.Like ids (idsA r f b) k) := hlike
      clear hil hlike
      by_cases hlt : k < r.ids.length
      · have hltx : k < r.x.length := by rw [← HS3.out]; exact hlt
        have HLT : Hid (k < r.ids.length) := hlt
        have HLTX : Hid (k < r.x.length) := hltx
        have hlti : (k : Int) < (r.ids.length : Int) := by omega
        have HRD : Hid (Rd wr a0 a1 a2 r) := h.below am.bel
        have HID : Hid (∀ W : World, Rd W a0 a1 a2 r → Calls Try.prog 27 #[.agg #[.slice a0 r.x.length c0, .slice a1 r.g.length c1, .slice a2 r.ids.length c2, .int .i64 lv, .int .i64 r.l2], .agg #[.int .i64 f, .int .i64 b], .int .i64 k] W fun e w' => e = .returned (.int .i64 (idA r f b k)) ∧ Below W.heap.size W w') := fun W hR => by
          have := iid W _ _ _ c0 c1 c2 r f b k hR HC.out HLTX.out
          rw [HLV.out] at this
          exact this
        obtain ⟨ai', ci', ee, hw⟩ := am.o2
        injection ee with j1 j2 j3
        subst j1
        clear j2 j3
        rcases hw with h0 | ⟨g, off, e4, hg, hw⟩
        · have := HIL.out; rw [h0] at this; simp at this; omega
        subst e4
        have HM4 : Hid (type_of% am) := am
        have HWR : Hid (Wr wr g off (iv ids)) := hw
        have HG : Hid (B2 g) := hg
        have HGK : Hid (k < ids.length) := by show _ < _; rw [HIL.out]; exact hlt
        obtain ⟨_, ⟨d0, d1, d2, d3, d4⟩, _⟩ := wr5 am.bv
        obtain ⟨e0, e1, e2, e3, e4⟩ := c5 am.ba
        obtain ⟨_, ⟨i0, i1⟩, _⟩ := wr2 am.bs
        obtain ⟨hg1, hg2⟩ := am.gb g (.inr (.inr hg))
        have nr1 : ¬ g = w.heap.size := by omega
        have nr2 : ¬ w.heap.size = g := by omega
        have nr3 : ¬ g = w.heap.size + 1 := by omega
        have nr4 : ¬ w.heap.size + 1 = g := by omega
        have nr5 : ¬ g = w2.heap.size := by omega
        have nr6 : ¬ w2.heap.size = g := by omega
        clear am hw hg hltx d0 d1 d3 d4
        go_wp2
        go_region_held3 (fun w' => w'.cell? ⟨w2.heap.size, 2, none⟩ = some (.slice (some ⟨g, off, none⟩) r.ids.length ci) ∧ (w'.cell? ⟨w.heap.size, 0, none⟩ = some (.slice a0 r.x.length c0) ∧ w'.cell? ⟨w.heap.size, 1, none⟩ = some (.slice a1 r.g.length c1) ∧ w'.cell? ⟨w.heap.size, 2, none⟩ = some (.slice a2 r.ids.length c2) ∧ w'.cell? ⟨w.heap.size, 3, none⟩ = some (.int .i64 lv) ∧ w'.cell? ⟨w.heap.size, 4, none⟩ = some (.int .i64 r.l2)) ∧ w'.cell? ⟨w.heap.size + 1, 0, none⟩ = some (.int .i64 f) ∧ w'.cell? ⟨w.heap.size + 1, 1, none⟩ = some (.int .i64 b)) (first | (with_reducible exact ⟨x2, x3, x4⟩) | go_keep) (first
          | (go_at_call 27; refine (HID.out wr.drew HRD.out.drew).mono ?_; rintro e w5 ⟨rfl, hb⟩; have HB5 : Hid (Below wr.heap.size wr w5) := (Tm.below_drew wr).trans hb; have hm5 := HM4.out.below HB5.out; have x2 := (wr5 hm5.bv).2.1.2.2.1; have x3 := c5 hm5.ba; have x4 := (wr2 hm5.bs).2.1; obtain ⟨z0, z1⟩ := (HWR.out.below HB5.out).2 k (by rw [Li.iv_length]; exact HGK.out); have hgi := (HWR.out.below HB5.out).1; clear hm5 hb))
        all_goals
          have am6 := (HM4.out.below HB5.out).set HIL.out HGK.out HG.out (HWR.out.below HB5.out) (idA r f b k)
          have HK2 : Hid (Li.Like (ids.set k (idA r f b k)) (idsA r f b) (k + 1)) := by
            have := Li.like_set HLK.out (by rw [idsA_length]; exact HLTX.out) (by rw [idsA_length, HIL.out, HS3.out])
            rwa [idsA_at] at this
          have HM6 : Hid (type_of% am6) := am6
          have hx40 : r.x.length ≤ 40 := HK.out.1.1
          have hi40 : r.ids.length ≤ 40 := by rw [HS3.out]; exact hx40
          clear am6 x2 x3 x4 z0 z1
          go_wp2
          go_roundw
          case rel => exact ⟨k + 1, HLT.out, by go_num, _, HM6.out, by simpa using HIL.out, HK2.out⟩
          case measure => have := HLT.out; simp [intOf]; omega
      · obtain rfl : k = r.ids.length := by omega
        have HR : Hid (asked r f b = ⟨r.x, r.g, idsA r f b, 2 * r.lv, r.l2⟩) := asked_ok b HC.out
        have HID : Hid (ids = idsA r f b) := Li.like_all (by rw [idsA_length, ← HS3.out]; exact HLK.out) (by rw [idsA_length, HIL.out, HS3.out])
        obtain ⟨_, ⟨d0, d1, d2, d3, d4⟩, _⟩ := wr5 am.bv
        obtain ⟨_, ⟨e0, e1, e2, e3, e4⟩, f0, f1, f2, f3, f4⟩ := wr5 am.br
        have HM : Hid (type_of% am) := am
        clear am
        go_wp2
        refine bodyPost_ret (v := .agg #[.slice ax r.x.length cx, .slice ag r.g.length cg, .slice ai r.ids.length ci, .int .i64 (2 * lv), .int .i64 r.l2]) (by rw [Tm.results_cell rfl]; go_simp) rfl ⟨_, _, _, by rw [HR.out, ← HLV.out], ?_, ?_⟩
        · have am := HM.out
          have hge := am.ge
          have hl1 := am.bv.1
          have hfr : ∀ (A : World) (o : Nat) (v : Value), Fr (fun q => q = w.heap.size + 1 + 1) A (A.setCell ⟨w.heap.size + 1 + 1, o, none⟩ v) := fun A o v => fr_grown (Li.grown_set A _ o v) rfl
          rw [HR.out]
          have o2 := am.o2
          rw [HID.out] at o2
          have hown : OwR wr (fun q => w.heap.size + 3 ≤ q ∧ q < wr.heap.size) (.slice ax r.x.length cx) (.slice ag r.g.length cg) (.slice ai r.ids.length ci) ⟨r.x, r.g, idsA r f b, 2 * r.lv, r.l2⟩ := by
            refine ⟨B0, B1, B2, am.o0, am.o1, o2, fun q hq => ?_, fun q hq => ?_, fun q hq => ?_⟩
            · have := am.gb q (.inl hq)
              exact ⟨by omega, am.dk q hq, fun e => (am.dj q e).1 hq⟩
            · have := am.gb q (.inr (.inl hq))
              exact ⟨by omega, fun e => (am.dj q e).2 hq⟩
            · have := am.gb q (.inr (.inr hq)); omega
          refine (hown.fr (B' := fun q => q = w.heap.size + 1 + 1) ?_ (fun q hq e => by omega)).mono (fun q hq => ⟨by omega, by simpa [World.setCell] using hq.2⟩)
          iterate 5 refine Fr.trans ?_ (hfr _ _ _)
          exact Fr.refl _ _
        · have hB := HM.out.bel
          iterate 5 refine Below.setCell ?_ (by simp; try omega) _
          exact hB
end Go.Proofs.Ytmfippeclkmhnaa.Sw7
