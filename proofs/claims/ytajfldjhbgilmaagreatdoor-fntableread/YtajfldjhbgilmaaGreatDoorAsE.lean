/-
  errors.As at the target of the program's reader: nil; a fault of the text.
-/
import Derived.Test.YtajfldjhbgilmaaGreatDoorRdR
import Derived.WalkKit
import Derived.LaidEql
import Derived.Stop.Asserts
import Derived.RowKitTokens
namespace Go.Proofs.YtajfldjhbgilmaaGreatDoor.Ae
set_option maxRecDepth 100000
open Go.RowKit Go.Extern.Stop Go.Stop Go.Extern
open Go.Proofs.YtajfldjhbgilmaaGreatDoor.Tb

theorem none_ (t : Value) (w : World) : Calls Tryz.prog 17 #[.nilIface, t] w fun e w' => e = .returned (.bool false) ∧ w' = w := by
  go_enter Tryz.func17, Tryz.ntmps17
  go_wp2
  go_ret
  exact ⟨rfl, rfl⟩
theorem ofT (t : Addr) (w : World) : (ReflectliteValue.unpack (.iface 50 (.pointer (some t)))).run Tryz.prog w = .ok (.agg #[.pointer (some ⟨9, 50, none⟩), .pointer (some ⟨w.heap.size, 0, none⟩), .int .u64 150]) (w.alloc (.cells #[.pointer (some t)] 50)) := by kernel_rfl
theorem ofF (l c : Int) (w : World) : (ReflectliteValue.unpack (.iface 48 (.agg #[.int .i64 l, .int .i64 c]))).run Tryz.prog w = .ok (.agg #[.pointer (some ⟨9, 48, none⟩), .pointer (some ⟨w.heap.size, 0, none⟩), .int .u64 153]) (w.alloc (.cells #[.int .i64 l, .int .i64 c] 48)) := by kernel_rfl
theorem tyT (a : Addr) (w : World) : (ReflectliteValue.methodAny (ReflectliteValue.valueError "reflectlite.Value.Type" 0) (fun t _ _ _ => ReflectliteType.toType t) #[.agg #[.pointer (some ⟨9, 50, none⟩), .pointer (some a), .int .u64 150]]).run Tryz.prog w = .ok (.iface 97 (.agg #[.pointer (some ⟨9, 50, none⟩)])) w := by kernel_rfl
theorem kT (w : World) : ((ReflectliteType.abiMethod fun t => Functor.map (fun a : Nat => Value.int IntKind.u8 (a : Int)) (Rtype.kind t)) #[.pointer (some ⟨9, 50, none⟩)]).run Tryz.prog w = .ok (.int .u8 22) w := by kernel_rfl
theorem kF (w : World) : ((ReflectliteType.abiMethod fun t => Functor.map (fun a : Nat => Value.int IntKind.u8 (a : Int)) (Rtype.kind t)) #[.pointer (some ⟨9, 48, none⟩)]).run Tryz.prog w = .ok (.int .u8 25) w := by kernel_rfl
theorem eT (w : World) : (ReflectliteType.method ReflectliteType.elem #[.agg #[.pointer (some ⟨9, 50, none⟩)]]).run Tryz.prog w = .ok (.iface 97 (.agg #[.pointer (some ⟨9, 48, none⟩)])) w := by kernel_rfl
theorem iF (w : World) : (ReflectliteType.relation "Implements" ReflectliteType.implements_ #[.agg #[.pointer (some ⟨9, 48, none⟩)], .iface 97 (.agg #[.pointer (some ⟨9, 44, none⟩)])]).run Tryz.prog w = .ok (.bool true) w := by kernel_rfl
theorem tF (v : Value) (w : World) : (ReflectliteType.typeOf #[.iface 48 v]).run Tryz.prog w = .ok (.iface 97 (.agg #[.pointer (some ⟨9, 48, none⟩)])) w := by kernel_rfl
theorem aF (w : World) : (ReflectliteType.relation "AssignableTo" ReflectliteType.assignableTo #[.agg #[.pointer (some ⟨9, 48, none⟩)], .iface 97 (.agg #[.pointer (some ⟨9, 48, none⟩)])]).run Tryz.prog w = .ok (.bool true) w := by kernel_rfl
theorem pT (a : Addr) (w : World) : (ReflectliteValue.parts (.agg #[.pointer (some ⟨9, 50, none⟩), .pointer (some a), .int .u64 150])).run Tryz.prog w = .ok (some (50, a, 150)) w := by kernel_rfl
theorem pF (a : Addr) (w : World) : (ReflectliteValue.parts (.agg #[.pointer (some ⟨9, 48, none⟩), .pointer (some a), .int .u64 153])).run Tryz.prog w = .ok (some (48, a, 153)) w := by kernel_rfl
theorem pFa (a : Addr) (w : World) : (ReflectliteValue.parts (.agg #[.pointer (some ⟨9, 48, none⟩), .pointer (some a), .int .u64 409])).run Tryz.prog w = .ok (some (48, a, 409)) w := by kernel_rfl
theorem elT (w : World) : (Rtype.elem? 50).run Tryz.prog w = .ok (some 48) w := by kernel_rfl
theorem mkF (p : Addr) (w : World) : (ReflectliteValue.mk 48 p ReflectliteValue.flagAddr).run Tryz.prog w = .ok (.agg #[.pointer (some ⟨9, 48, none⟩), .pointer (some p), .int .u64 409]) w := by kernel_rfl
theorem dF (w : World) : (Rtype.directlyAssignable 48 48).run Tryz.prog w = .ok true w := by kernel_rfl
theorem mK (h : Value) (w : World) : (Go.method 291 97 (.agg #[h]) "Kind").run Tryz.prog w = .ok (131, h) w := by kernel_rfl
theorem mE (h : Value) (w : World) : (Go.method 291 97 (.agg #[h]) "Elem").run Tryz.prog w = .ok (143, .agg #[h]) w := by kernel_rfl
theorem mI (h : Value) (w : World) : (Go.method 291 97 (.agg #[h]) "Implements").run Tryz.prog w = .ok (144, .agg #[h]) w := by kernel_rfl
theorem mA (h : Value) (w : World) : (Go.method 291 97 (.agg #[h]) "AssignableTo").run Tryz.prog w = .ok (141, .agg #[h]) w := by kernel_rfl
theorem met (z : Sem Value) (f : TypeId → Addr → Nat → Nat → Sem Value) (v : Value) : ReflectliteValue.method z f #[v] = (do match ← ReflectliteValue.parts v with | none => z | some (t, a, fl) => f t a fl (fl % 32)) := rfl
theorem nilT (a p : Addr) (W : World) (ha : W.cell? a = some (.pointer (some p))) :
    (ReflectliteValue.method (ReflectliteValue.valueError "reflectlite.Value.IsNil" 0) ReflectliteValue.isNil #[.agg #[.pointer (some ⟨9, 50, none⟩), .pointer (some a), .int .u64 150]]).run Tryz.prog W = .ok (.bool false) W := by
  rw [met]
  simp only [Sem.run_bind, pT, Result.andThen]
  simp [ReflectliteValue.isNil, loadVar, isAgg, underlying, Tryz.underlying50, ha, Result.andThen]
theorem elV (a p : Addr) (W : World) (ha : W.cell? a = some (.pointer (some p))) :
    (ReflectliteValue.method (ReflectliteValue.valueError "reflectlite.Value.Elem" 0) ReflectliteValue.elem #[.agg #[.pointer (some ⟨9, 50, none⟩), .pointer (some a), .int .u64 150]]).run Tryz.prog W = .ok (.agg #[.pointer (some ⟨9, 48, none⟩), .pointer (some p), .int .u64 409]) W := by
  rw [met]
  simp only [Sem.run_bind, pT, Result.andThen]
  simp [ReflectliteValue.elem, loadVar, isAgg, underlying, Tryz.underlying50, ha, Result.andThen, elT, mkF]
theorem pair_of {m : Array Value → Type} (v x : Value) (h1 : (v x : Value) → m #[v, x]) (h2 : (a : Array Value) → m a) : ReflectliteValue.set.match_3 m #[v, x] h1 h2 = h1 v x := rfl
theorem setF (ta tb : Nat) (l c : Int) (x0 x1 : Value) (W : World) (b0 : W.cell? ⟨tb, 0, none⟩ = some (.int .i64 l)) (b1 : W.cell? ⟨tb, 1, none⟩ = some (.int .i64 c)) (t0 : W.cell? ⟨ta, 0, none⟩ = some x0) (t1 : W.cell? ⟨ta, 1, none⟩ = some x1) (f0 : W.frozen? ⟨ta, 0, none⟩ = false) (f1 : W.frozen? ⟨ta, 1, none⟩ = false) :
    (ReflectliteValue.set #[.agg #[.pointer (some ⟨9, 48, none⟩), .pointer (some ⟨ta, 0, none⟩), .int .u64 409], .agg #[.pointer (some ⟨9, 48, none⟩), .pointer (some ⟨tb, 0, none⟩), .int .u64 153]]).run Tryz.prog W = .ok (.tuple #[]) ((W.setCell ⟨ta, 0, none⟩ (.int .i64 l)).setCell ⟨ta, 1, none⟩ (.int .i64 c)) := by
  have u1 : (W.setCell ⟨ta, 0, none⟩ (.int .i64 l)).cell? ⟨ta, 1, none⟩ = some x1 := by rw [World.cell?_setCell_other _ _ _ _ (by simp)]; exact t1
  have u2 : (W.setCell ⟨ta, 0, none⟩ (.int .i64 l)).frozen? ⟨ta, 1, none⟩ = false := by rw [World.frozen?_setCell]; exact f1
  have hl : Sem.run Tryz.prog (loadCells ⟨tb, 0, none⟩ 2) W = .ok #[.int .i64 l, .int .i64 c] W := by simp [go_sem, b0, b1]
  have hs : Sem.run Tryz.prog (storeCells ⟨ta, 0, none⟩ [.int .i64 l, .int .i64 c]) W = .ok () ((W.setCell ⟨ta, 0, none⟩ (.int .i64 l)).setCell ⟨ta, 1, none⟩ (.int .i64 c)) := by simp [go_sem, t0, f0, u1, u2]
  delta ReflectliteValue.set
  rw [pair_of]
  simp only [Sem.run_bind, pFa, pF, Result.andThen]
  simp [ReflectliteValue.flagAddr, loadVar, isAgg, underlying, Tryz.underlying48, Result.andThen, dF, storeVar, Value.cells, hl, hs]
set_option maxHeartbeats 1000000 in
theorem hit (l c : Int) (t : Nat) (x0 x1 : Value) (w : World) (hg : w.cell? ⟨0, 0, none⟩ = some (.iface 97 (.agg #[.pointer (some ⟨9, 44, none⟩)]))) (t0 : w.cell? ⟨t, 0, none⟩ = some x0) (t1 : w.cell? ⟨t, 1, none⟩ = some x1) (f0 : w.frozen? ⟨t, 0, none⟩ = false) (f1 : w.frozen? ⟨t, 1, none⟩ = false) :
    Calls Tryz.prog 17 #[.iface 48 (.agg #[.int .i64 l, .int .i64 c]), .iface 50 (.pointer (some ⟨t, 0, none⟩))] w fun e w' => e = .returned (.bool true) ∧ w' = ((((((w.alloc (.cells #[.pointer (some ⟨t, 0, none⟩)] 50)).alloc (.cells #[.pointer (some ⟨9, 50, none⟩), .pointer (some ⟨w.heap.size, 0, none⟩), .int .u64 150] 78)).alloc (.cells #[.pointer (some ⟨9, 50, none⟩), .pointer (some ⟨w.heap.size, 0, none⟩), .int .u64 150] 78)).alloc (.cells #[.int .i64 l, .int .i64 c] 48)).setCell ⟨t, 0, none⟩ (.int .i64 l)).setCell ⟨t, 1, none⟩ (.int .i64 c)) := by
  have hVal := @run_callFunc_extern Tryz.prog 34 _ (fun args => ReflectliteValue.unpack (args.getD 0 (.tuple #[]))) Tryz.func34 (by kernel_rfl) (by kernel_rfl) (by kernel_rfl) (by kernel_rfl)
  have hTyp := @run_callFunc_extern Tryz.prog 35 _ (ReflectliteValue.methodAny (ReflectliteValue.valueError "reflectlite.Value.Type" 0) (fun t _ _ _ => ReflectliteType.toType t)) Tryz.func35 (by kernel_rfl) (by kernel_rfl) (by kernel_rfl) (by kernel_rfl)
  have hNil := @run_callFunc_extern Tryz.prog 36 _ (ReflectliteValue.method (ReflectliteValue.valueError "reflectlite.Value.IsNil" 0) ReflectliteValue.isNil) Tryz.func36 (by kernel_rfl) (by kernel_rfl) (by kernel_rfl) (by kernel_rfl)
  have hKnd := @run_callFunc_extern Tryz.prog 131 _ (ReflectliteType.abiMethod fun t => do pure (.int .u8 (← Rtype.kind t))) Tryz.func131 (by kernel_rfl) (by kernel_rfl) (by kernel_rfl) (by kernel_rfl)
  have hElm := @run_callFunc_extern Tryz.prog 143 _ (ReflectliteType.method ReflectliteType.elem) Tryz.func143 (by kernel_rfl) (by kernel_rfl) (by kernel_rfl) (by kernel_rfl)
  have hImp := @run_callFunc_extern Tryz.prog 144 _ (ReflectliteType.relation "Implements" ReflectliteType.implements_) Tryz.func144 (by kernel_rfl) (by kernel_rfl) (by kernel_rfl) (by kernel_rfl)
  have hTof := @run_callFunc_extern Tryz.prog 55 _ ReflectliteType.typeOf Tryz.func55 (by kernel_rfl) (by kernel_rfl) (by kernel_rfl) (by kernel_rfl)
  have hAsg := @run_callFunc_extern Tryz.prog 141 _ (ReflectliteType.relation "AssignableTo" ReflectliteType.assignableTo) Tryz.func141 (by kernel_rfl) (by kernel_rfl) (by kernel_rfl) (by kernel_rfl)
  have hElV := @run_callFunc_extern Tryz.prog 56 _ (ReflectliteValue.method (ReflectliteValue.valueError "reflectlite.Value.Elem" 0) ReflectliteValue.elem) Tryz.func56 (by kernel_rfl) (by kernel_rfl) (by kernel_rfl) (by kernel_rfl)
  have hSet := @run_callFunc_extern Tryz.prog 57 _ ReflectliteValue.set Tryz.func57 (by kernel_rfl) (by kernel_rfl) (by kernel_rfl) (by kernel_rfl)
  have r1 := ofT
  have r2 := ofF
  have r3 := tyT
  have r4 := kT
  have r5 := kF
  have r6 := eT
  have r7 := iF
  have r8 := tF
  have r9 := aF
  have s1 := mK
  have s2 := mE
  have s3 := mI
  have s4 := mA
  have hlt : 0 < w.heap.size := World.block_lt_of_cell? w _ hg
  have htl : t < w.heap.size := World.block_lt_of_cell? w _ t0
  have n1 := nilT ⟨w.heap.size, 0, none⟩ ⟨t, 0, none⟩ ((w.alloc (.cells #[.pointer (some ⟨t, 0, none⟩)] 50)).alloc (.cells #[.pointer (some ⟨9, 50, none⟩), .pointer (some ⟨w.heap.size, 0, none⟩), .int .u64 150] 78)) (by simp)
  have n2 := elV ⟨w.heap.size, 0, none⟩ ⟨t, 0, none⟩ (((w.alloc (.cells #[.pointer (some ⟨t, 0, none⟩)] 50)).alloc (.cells #[.pointer (some ⟨9, 50, none⟩), .pointer (some ⟨w.heap.size, 0, none⟩), .int .u64 150] 78)).alloc (.cells #[.pointer (some ⟨9, 50, none⟩), .pointer (some ⟨w.heap.size, 0, none⟩), .int .u64 150] 78)) (by rw [World.cell?_alloc_lt _ _ ⟨w.heap.size, 0, none⟩ (by simp; omega)]; simp)
  have g2 : ((w.alloc (.cells #[.pointer (some ⟨t, 0, none⟩)] 50)).alloc (.cells #[.pointer (some ⟨9, 50, none⟩), .pointer (some ⟨w.heap.size, 0, none⟩), .int .u64 150] 78)).cell? ⟨0, 0, none⟩ = some (.iface 97 (.agg #[.pointer (some ⟨9, 44, none⟩)])) := by
    rw [World.cell?_alloc_lt _ _ ⟨0, 0, none⟩ (by simp), World.cell?_alloc_lt _ _ ⟨0, 0, none⟩ hlt]; exact hg
  have old : ∀ (x : Addr) (R A B D : Obj), x.block < w.heap.size → ((((w.alloc R).alloc A).alloc B).alloc D).cell? x = w.cell? x := fun x R A B D hx => by
    rw [World.cell?_alloc_lt _ _ x (by simp; omega), World.cell?_alloc_lt _ _ x (by simp; omega), World.cell?_alloc_lt _ _ x (by simp; omega), World.cell?_alloc_lt _ _ x hx]
  have oldf : ∀ (x : Addr) (R A B D : Obj), x.block < w.heap.size → ((((w.alloc R).alloc A).alloc B).alloc D).frozen? x = w.frozen? x := fun x R A B D hx => by
    rw [World.frozen?_alloc_old _ _ x (by simp; omega), World.frozen?_alloc_old _ _ x (by simp; omega), World.frozen?_alloc_old _ _ x (by simp; omega), World.frozen?_alloc_old _ _ x (Nat.ne_of_lt hx)]
  have n3 := setF t (w.heap.size + 1 + 1 + 1) l c x0 x1 ((((w.alloc (.cells #[.pointer (some ⟨t, 0, none⟩)] 50)).alloc (.cells #[.pointer (some ⟨9, 50, none⟩), .pointer (some ⟨w.heap.size, 0, none⟩), .int .u64 150] 78)).alloc (.cells #[.pointer (some ⟨9, 50, none⟩), .pointer (some ⟨w.heap.size, 0, none⟩), .int .u64 150] 78)).alloc (.cells #[.int .i64 l, .int .i64 c] 48))
    (by rw [World.cell?_alloc_at _ _ _ _ (by simp)]; rfl) (by rw [World.cell?_alloc_at _ _ _ _ (by simp)]; rfl)
    (by rw [old ⟨t, 0, none⟩ _ _ _ _ htl]; exact t0) (by rw [old ⟨t, 1, none⟩ _ _ _ _ htl]; exact t1) (by rw [oldf ⟨t, 0, none⟩ _ _ _ _ htl]; exact f0) (by rw [oldf ⟨t, 1, none⟩ _ _ _ _ htl]; exact f1)
  clear old oldf
  go_enter Tryz.func17, Tryz.ntmps17
  go_wp2
  refine wp_loop_rounds 1 ?_
  rw [rounds_succ]
  go_wp2
  go_ret
  exact ⟨rfl, rfl⟩
end Go.Proofs.YtajfldjhbgilmaaGreatDoor.Ae
