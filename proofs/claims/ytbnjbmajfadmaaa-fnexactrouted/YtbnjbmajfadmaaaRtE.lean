/-
  Small readings that FnExactRouted's walk wants.
-/
import Derived.Test.YtbnjbmajfadmaaaRtJ
import Derived.Test.YtbnjbmajfadmaaaSeL
namespace Go.Proofs.Ytbnjbmajfadmaaa.Rt
open Go.RowKit
open Go.Proofs.Ytbnjbmajfadmaaa.Tm (IsP OwnP Fr2 eqp)
open Go.Proofs.Ytbnjbmajfadmaaa.Sv
theorem isp_of {w : World} {base g n c : Nat} {ps : List (Int × Int)} (h : OwnP w base (.slice (some ⟨g, 0, none⟩) n c) ps) : IsP w (some ⟨g, 0, none⟩) ps := by
  obtain ⟨_, _, e, _, hp⟩ := h.isp
  cases e
  exact hp
theorem isl_of {w : World} {base g n c : Nat} {xs : List Int} (h : Li.Own w base (.slice (some ⟨g, 0, none⟩) n c) xs) : Li.IsL w (some ⟨g, 0, none⟩) xs := by
  obtain ⟨_, _, e, hp⟩ := h.isl
  cases e
  exact hp
theorem ownP_fr {w w1 : World} {base : Nat} {v : Value} {ps : List (Int × Int)} {B : Nat → Prop} (h : OwnP w base v ps) (hf : Fr B w w1) (hd : ∀ q, v.ownBlock = some q → ¬ B q) : OwnP w1 base v ps := Sw7.row_fr h hf hd
theorem ownI_fr {w w1 : World} {base : Nat} {v : Value} {xs : List Int} {B : Nat → Prop} (h : Li.Own w base v xs) (hf : Fr B w w1) (hd : ∀ q, v.ownBlock = some q → ¬ B q) : Li.Own w1 base v xs := Sw7.row_fr h hf hd
theorem fr_two {w w1 : World} {g0 g1 n m c c' : Nat} (h : Fr2 w w1 (Value.slice (some ⟨g0, 0, none⟩) n c).ownBlock (Value.slice (some ⟨g1, 0, none⟩) m c').ownBlock) : Fr (fun k => k = g0 ∨ k = g1) w w1 :=
  ⟨h.os, h.tape, h.output, h.size, fun k hk hn => h.block k hk (fun e => hn (.inl (by simpa [Value.ownBlock] using e))) (fun e => hn (.inr (by simpa [Value.ownBlock] using e)))⟩
theorem eq_self (t : Tr.T) : (eqp t.sp t.sp && Li.eqs t.lv t.lv) = true := by
  rw [Li.eqs_self]
  simp [Tm.eqp_self]
end Go.Proofs.Ytbnjbmajfadmaaa.Rt
