/-
  A row put behind rows of the call's own.
-/
import Derived.Test.YtbjnhdhnlofibaaTabX
namespace Go.Proofs.Ytbjnhdhnlofibaa.Db
set_option maxRecDepth 100000
open Go.RowKit
open Go.Proofs.Ytbjnhdhnlofibaa.Tb Go.Proofs.Ytbjnhdhnlofibaa.Tk
open Go.Proofs.Ytbjnhdhnlofibaa.Li (Own info_int)

/-- A row put behind the rows. -/
theorem pushC {W w5 : World} {lo H g0 g n cap : Nat} {V0 V1 : Nat → Value} {xs : List Value} {v u0 u1 : Value} {rs : List Row} {r : Row} (hn : rs.length = n)
    (hg : ∀ k, v.ownBlock = some k → k = g0 ∧ k < H) (hown : W.ownsRow lo 42 3 v rs.length xs) (hN : Nest W lo g0 V0 V1 xs rs rs.length)
    (o0 : Li.Own W H u0 r.nums) (o1 : Ls.Own W H u1 r.cats) (ha : apart u0 u1) (hlo : lo ≤ H)
    (hv : ∀ i, i < rs.length → (∀ b, (V0 i).ownBlock = some b → b < H) ∧ (∀ b, (V1 i).ownBlock = some b → b < H))
    (hgrow : W.grownBy w5 v.ownBlock) (hpos : v.ownBlock = some g ∨ g = W.heap.size) (hglt : g < w5.heap.size)
    (hown5 : w5.ownsRow lo 42 3 (.slice (some ⟨g, 0, none⟩) (n + 1) cap) (n + 1) (xs ++ [u0, u1, .int .i64 r.label])) :
    (∀ k, (Value.slice (some ⟨g, 0, none⟩) (n + 1) cap).ownBlock = some k → k = g ∧ k < w5.heap.size) ∧ w5.ownsRow lo 42 3 (.slice (some ⟨g, 0, none⟩) (n + 1) cap) (rs ++ [r]).length (xs ++ [u0, u1, .int .i64 r.label]) ∧ Nest w5 lo g (upd V0 n u0) (upd V1 n u1) (xs ++ [u0, u1, .int .i64 r.label]) (rs ++ [r]) (rs ++ [r]).length ∧
      ∀ i, i < (rs ++ [r]).length → (∀ b, (upd V0 n u0 i).ownBlock = some b → b < w5.heap.size) ∧ (∀ b, (upd V1 n u1 i).ownBlock = some b → b < w5.heap.size) := by
  obtain ⟨hN1, hS1, hS2⟩ := hN
  have hxl : xs.length = n * 3 := by rw [hown.1, hn]
  have old0 : ∀ i (hi : i < rs.length), Li.Own W lo (V0 i) rs[i].nums := fun i hi => (hN1 i hi hi).2.1
  have old1 : ∀ i (hi : i < rs.length), Ls.Own W lo (V1 i) rs[i].cats := fun i hi => (hN1 i hi hi).2.2
  have n0 : ∀ b, u0.ownBlock = some b → H ≤ b := fun b e => (o0.ge b e).1
  have n1 : ∀ b, u1.ownBlock = some b → H ≤ b := fun b e => (o1.ge b e).1
  have far0 : u0.ownBlock ≠ some g := fun e => by
    rcases hpos with hp | hp
    · have := (hg g hp).2; have := n0 g e; omega
    · have := (o0.ge g e).2; omega
  have far1 : u1.ownBlock ≠ some g := fun e => by
    rcases hpos with hp | hp
    · have := (hg g hp).2; have := n1 g e; omega
    · have := (o1.ge g e).2; omega
  have farV0 : ∀ i, i < rs.length → (V0 i).ownBlock ≠ some g := fun i hi e => by
    rcases hpos with hp | hp
    · obtain ⟨h1, _⟩ := hg g hp; rw [h1] at e; exact (hS1 i hi).1 e
    · have := ((old0 i hi).ge g e).2; omega
  have farV1 : ∀ i, i < rs.length → (V1 i).ownBlock ≠ some g := fun i hi e => by
    rcases hpos with hp | hp
    · obtain ⟨h1, _⟩ := hg g hp; rw [h1] at e; exact (hS1 i hi).2 e
    · have := ((old1 i hi).ge g e).2; omega
  have hlen : (rs ++ [r]).length = n + 1 := by simp [hn]
  refine ⟨fun k e => ?_, by rw [hlen]; exact hown5, ⟨fun i hi _ => ?_, fun i hi => ?_, fun i j hi hj => ?_⟩, fun i hi => ?_⟩
  · obtain rfl : g = k := by simpa [Value.ownBlock] using e
    exact ⟨rfl, hglt⟩
  · rw [hlen] at hi
    by_cases e : i = n
    · have er : (rs ++ [r])[i]'(by omega) = r := by subst e; subst hn; simp
      rw [er]
      subst e
      rw [upd_at, upd_at]
      refine ⟨⟨?_, ?_, ?_⟩, (o0.mono hlo).kept hgrow (apart_of fun k e e' => by have := n0 k e; have := (hg k e').2; omega), (o1.mono hlo).kept hgrow (apart_of fun k e e' => by have := n1 k e; have := (hg k e').2; omega)⟩
      · rw [List.getElem?_append_right (by omega), hxl, Nat.sub_self]; rfl
      · rw [List.getElem?_append_right (by omega), hxl, show i * 3 + 1 - i * 3 = 1 by omega]; rfl
      · rw [List.getElem?_append_right (by omega), hxl, show i * 3 + 2 - i * 3 = 2 by omega]; rfl
    · have hi' : i < rs.length := by omega
      have er : (rs ++ [r])[i]'(by omega) = rs[i] := by rw [List.getElem_append_left hi']
      rw [er, upd_off _ e, upd_off _ e]
      obtain ⟨⟨c0, c1, c2⟩, p0, p1⟩ := hN1 i hi' hi'
      refine ⟨⟨?_, ?_, ?_⟩, p0.kept hgrow (apart_of fun k e e' => ?_), p1.kept hgrow (apart_of fun k e e' => ?_)⟩
      · rw [List.getElem?_append_left (by omega)]; exact c0
      · rw [List.getElem?_append_left (by omega)]; exact c1
      · rw [List.getElem?_append_left (by omega)]; exact c2
      · rw [(hg k e').1] at e; exact (hS1 i hi').1 e
      · rw [(hg k e').1] at e; exact (hS1 i hi').2 e
  · rw [hlen] at hi
    by_cases e : i = n
    · subst e; rw [upd_at, upd_at]; exact ⟨far0, far1⟩
    · rw [upd_off _ e, upd_off _ e]; exact ⟨farV0 i (by omega), farV1 i (by omega)⟩
  · rw [hlen] at hi hj
    by_cases ei : i = n
    · by_cases ej : j = n
      · subst ei; subst ej
        rw [upd_at, upd_at]
        exact ⟨fun h => absurd rfl h, ha⟩
      · subst ei
        rw [upd_at, upd_at, upd_off _ ej, upd_off _ ej]
        have a0 := (hv j (by omega)).1
        have a1 := (hv j (by omega)).2
        exact ⟨fun _ => ⟨apart_of fun b e e' => by have := n0 b e; have := a0 b e'; omega, apart_of fun b e e' => by have := n1 b e; have := a1 b e'; omega⟩, apart_of fun b e e' => by have := n0 b e; have := a1 b e'; omega⟩
    · by_cases ej : j = n
      · subst ej
        rw [upd_at, upd_at, upd_off _ ei, upd_off _ ei]
        have a0 := (hv i (by omega)).1
        have a1 := (hv i (by omega)).2
        exact ⟨fun _ => ⟨apart_of fun b e e' => by have := n0 b e'; have := a0 b e; omega, apart_of fun b e e' => by have := n1 b e'; have := a1 b e; omega⟩, apart_of fun b e e' => by have := n1 b e'; have := a0 b e; omega⟩
      · rw [upd_off _ ei, upd_off _ ej, upd_off _ ei, upd_off _ ej]
        exact hS2 i j (by omega) (by omega)
  · rw [hlen] at hi
    have hs := hgrow.size
    by_cases e : i = n
    · subst e; rw [upd_at, upd_at]
      exact ⟨fun b e => by have := (o0.ge b e).2; omega, fun b e => by have := (o1.ge b e).2; omega⟩
    · rw [upd_off _ e, upd_off _ e]
      exact ⟨fun b e => by have := ((old0 i (by omega)).ge b e).2; omega, fun b e => by have := ((old1 i (by omega)).ge b e).2; omega⟩
/-- A row put behind the rows. -/
theorem push {W w5 : World} {lo H g0 g n cap : Nat} {V0 V1 : Nat → Value} {xs : List Value} {v u0 u1 : Value} {rs : List Row} {r : Row} (hn : rs.length = n)
    (hg : ∀ k, v.ownBlock = some k → k = g0 ∧ k < H) (hown : W.ownsRow lo 42 3 v rs.length xs) (hN : Nest W lo g0 V0 V1 xs rs rs.length)
    (o0 : Li.Own W H u0 r.nums) (o1 : Ls.Own W H u1 r.cats) (ha : apart u0 u1) (hlo : lo ≤ H)
    (hv : ∀ i, i < rs.length → (∀ b, (V0 i).ownBlock = some b → b < H) ∧ (∀ b, (V1 i).ownBlock = some b → b < H))
    (hgrow : W.grownBy w5 v.ownBlock) (hpos : v.ownBlock = some g ∨ g = W.heap.size) (hglt : g < w5.heap.size)
    (hown5 : w5.ownsRow lo 42 3 (.slice (some ⟨g, 0, none⟩) (n + 1) cap) (n + 1) (xs ++ [u0, u1, .int .i64 r.label])) :
    OwnT w5 lo w5.heap.size (.slice (some ⟨g, 0, none⟩) (n + 1) cap) (rs ++ [r]) :=
  ⟨g, _, _, _, pushC hn hg hown hN o0 o1 ha hlo hv hgrow hpos hglt hown5⟩
theorem three_at {w : World} {T : TypeId} {v0 v1 v2 : Value} {H : Nat} (h : w.heap.size = H) : ∀ j u, ([v0, v1, v2] : List Value)[j]? = some u → (w.alloc (.cells #[v0, v1, v2] T)).cell? ((⟨H, 0, none⟩ : Addr).add j) = some u := by
  subst h
  intro j u hj
  match j, hj with
  | 0, hj => simp at hj; subst hj; simp [Addr.add]
  | 1, hj => simp at hj; subst hj; simp [Addr.add]
  | 2, hj => simp at hj; subst hj; simp [Addr.add]
theorem three_one {a0 a1 : Option Addr} {n0 c0 n1 c1 : Nat} {l : Int} : ∀ u ∈ ([.slice a0 n0 c0, .slice a1 n1 c1, .int .i64 l] : List Value), u.oneCell' = true := by
  intro u hu
  simp at hu
  rcases hu with rfl | rfl | rfl <;> rfl
theorem nest_alloc {w : World} {B g k : Nat} {V0 V1 : Nat → Value} {xs : List Value} {rs : List Row} (h : Nest w B g V0 V1 xs rs k) (o : Obj) : Nest (w.alloc o) B g V0 V1 xs rs k :=
  ⟨fun i hi hk => ⟨(h.1 i hi hk).1, World.ownsRow.alloc (h.1 i hi hk).2.1 _, World.ownsRow.alloc (h.1 i hi hk).2.2 _⟩, h.2⟩
end Go.Proofs.Ytbjnhdhnlofibaa.Db
