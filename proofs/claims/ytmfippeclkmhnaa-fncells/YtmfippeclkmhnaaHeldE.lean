/-
  A region that draws its order, of whose operations one (d) writes what others read: a condition that may grow stronger on the way; the slots written out.
-/
import Derived.Test.YtmfippeclkmhnaaHeldD
namespace Go.Proofs.Ytmfippeclkmhnaa.Hd
variable {P : Program} {ops : Array Oper} {Q : Exit → Act → World → Prop} {md : Region.Mode} {S : World → Prop} {d : Nat}

/-- From here on a stronger condition may be asked. -/
theorem After.more {S' : World → Prop} (hs : ∀ w, S' w → S w) : ∀ {n : Nat} {l : Array Bool} {a : Act} {w : World}, After P md ops Q S' d n l a w → After P md ops Q S d n l a w
  | 0, _, _, _, h => h
  | _ + 1, _, _, _, h => ⟨h.1, fun j hj => wpOp_mono (fun _ _ h' => ⟨fun e => hs _ (h'.1 e), After.more hs h'.2⟩) (h.2 j hj)⟩
theorem After.takeD {i : Nat} {oi : Oper} (t : Option Tmp) (v : Value) {n : Nat} {l : Array Bool} {a : Act} {w : World} (hi : ops[i]? = some oi) (ht : oi.dst = t) (hs : Region.noSelect ops = true) (hw : Waits md ops d i = true) (hf : Region.free md ops l i = true) (hr : (Region.ready md ops l).contains i = true) (hdu : l.getD d true = false)
    (hQ : ∀ c a w, Q (.panic c) (a.put oi.dst v) w → Q (.panic c) a w) (hS : S w) (hy : YieldsIf P ops S oi v a) (h : After P md ops Q S d n (l.setIfInBounds i true) (a.put t v) w) : After P md ops Q S d (n + 1) l a w := by
  subst ht
  exact After.take v hi hs hw hf hr hdu hQ hS hy h
theorem After.pureD {i : Nat} {oi : Oper} (t : Option Tmp) (v : Value) {n : Nat} {l : Array Bool} {a : Act} {w : World} (hi : ops[i]? = some oi) (ht : oi.dst = t) (hs : Region.noSelect ops = true) (hid : i ≠ d) (hf : Region.free md ops l i = true) (hr : (Region.ready md ops l).contains i = true)
    (hQ : ∀ c a w, Q (.panic c) (a.put oi.dst v) w → Q (.panic c) a w) (hS : S w) (hy : Yields P ops oi v a) (h : After P md ops Q S d n (l.setIfInBounds i true) (a.put t v) w) : After P md ops Q S d (n + 1) l a w := by
  subst ht
  exact After.pure v hi hs hid hf hr hQ hS hy h
end Go.Proofs.Ytmfippeclkmhnaa.Hd
