/-
  Models, further: the marks that the laws write, and whether they are held.
-/
import Derived.Test.YtkiddmbenepfjaaMdl
namespace Go.Proofs.Ytkiddmbenepfjaa.Md
set_option maxRecDepth 20000
open Go.RowKit
open Go.Proofs.Ytkiddmbenepfjaa.Tm (IsT szT)
open Go.Proofs.Ytkiddmbenepfjaa.Kt (Kv IsK OwK ksz)
open Go.Proofs.Ytkiddmbenepfjaa.To (OwT)
open Go.Proofs.Ytkiddmbenepfjaa.Sv (Fr fr_below fr_grown new1 Wr)
set_option linter.unusedVariables false
def mm (q : Int) (m : M) : M := ⟨m.n, m.c, m.prior, m.base, Kt.kmarks q m.ks, To.kmarks (q + Kt.ktot m.ks) m.ts⟩
def wt (m : M) : Nat := Kt.ktot m.ks + To.ktot m.ts
theorem wt_le (m : M) : wt m ≤ 2 * m.sz := by
  unfold wt M.sz
  have := Kt.ktot_ksz m.ks
  have := To.ktot_sz m.ts
  omega
set_option maxHeartbeats 2000000 in
theorem markModel (w : World) (B : Nat → Prop) (vk vt : Value) (q : Int) (m : M) (h : OwM w B vk vt m) (hl : m.sz ≤ 1048576) (k0 : 0 ≤ q) (k1 : q ≤ 10000000000) :
    Calls Try.prog 19 #[.agg #[.int .i64 m.n, .int .i64 m.c, .int .i64 m.prior, .int .i64 m.base, vk, vt], .int .i64 q] w fun e w' => e = .returned (.int .i64 (q + wt m)) ∧ OwM w' B vk vt (mm q m) ∧ Fr B w w' := by
  have hwt : (wt m : Int) = (Kt.ktot m.ks : Int) + (To.ktot m.ts : Int) := by unfold wt; omega
  have HWT : Hid (type_of% hwt) := hwt
  unfold M.sz at hl
  have hks := Kt.ktot_ksz m.ks
  have hts := To.ktot_sz m.ts
  clear hwt
  obtain ⟨ak, ck, ax, ct, rfl, rfl, _⟩ := h.rm
  obtain ⟨P, h0, h1⟩ := h.bound
  go_enter Try.func19, Try.ntmps19
  go_wp2_with fail
  obtain ⟨W, hW, hsz, hB, bx⟩ := new1 w [.int .i64 m.n, .int .i64 m.c, .int .i64 m.prior, .int .i64 m.base, .slice ak m.ks.length ck, .slice ax m.ts.length ct] 34
  rw [hW]
  clear hW
  refine (Kt.markTabs _ _ _ _ m.ks (h0.below hB) (by omega) k0 (by omega)).mono ?_
  rintro e w1 ⟨rfl, o0, hf⟩
  have bx := bx.keptAt hf.size (hf.block _ bx.1 (fun e => by omega))
  have h1 := (h1.below hB).fr hf (fun k e e' => e.2 e'.2)
  have hF : Fr B w w1 := (fr_below hB).trans (hf.mono (fun k e => e.1.1))
  clear hf hsz hB h0
  obtain ⟨_, ⟨x0, x1, x2, x3, x4, x5⟩, _⟩ := wr6 bx
  obtain ⟨Q, hQ⟩ : ∃ Q : Int, q + (Kt.ktot m.ks : Int) = Q := ⟨_, rfl⟩
  have HQ : Hid (q + (Kt.ktot m.ks : Int) = Q) := hQ
  rw [hQ]
  have hQ0 : 0 ≤ Q := by omega
  have hQ1 : Q ≤ 20000000000 := by omega
  clear hQ
  go_wp2_with fail
  refine (To.markTreesO _ _ _ _ m.ts h1 (by omega) hQ0 (by omega)).mono ?_
  rintro e w2 ⟨rfl, o1, hf⟩
  have o0 := o0.fr hf (fun k e e' => e'.2 e.2)
  have hF : Fr B w w2 := hF.trans (hf.mono (fun k e => e.1.1))
  have HO : Hid (OwM w2 B (.slice ak m.ks.length ck) (.slice ax m.ts.length ct) (mm q m)) := by
    refine ⟨P, o0.mono (fun k e => ⟨e.1.1, e.2⟩), ?_⟩
    unfold mm
    rw [HQ.out]
    exact o1.mono (fun k e => ⟨e.1.1, e.2⟩)
  have HN : Hid (Q + (To.ktot m.ts : Int) = q + (wt m : Int)) := by show _ = _; rw [HWT.out]; have := HQ.out; omega
  clear hf o0 o1 h1 bx x0 x1 x2 x3 x4 x5
  rw [HN.out]
  go_wp2
  go_ret
  exact ⟨rfl, HO.out, hF⟩
end Go.Proofs.Ytkiddmbenepfjaa.Md
