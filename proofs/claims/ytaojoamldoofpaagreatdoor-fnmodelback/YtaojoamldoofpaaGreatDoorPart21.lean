/-
  Contracts that the proof leans on, put together in the order in which they build.
-/
import Derived.Test.YtaojoamldoofpaaGreatDoorPart20
import Derived.Test.YtaojoamldoofpaaGreatDoorPart4
import Derived.Test.YtaojoamldoofpaaGreatDoorRows
import Derived.Test.YtaojoamldoofpaaGreatDoorPart11
import Derived.WalkKit
import Derived.Below
import Derived.Lib.ItoaNum
import Derived.OpenShut
import Derived.Laws.IdiomStrings
import Derived.WalkSmall
set_option linter.unusedVariables false
namespace Go.Proofs.YtaojoamldoofpaaGreatDoor.Md
set_option maxRecDepth 20000
open Go.RowKit
open Li (ret_bool btw below_none)
open Tk (sok)
open Bo (fok aok)
open Wd (dictOf dictOf_len)
open Tb (lets)
open Tm (IsT szT)
open Kt (Kv IsK ksz)
open Sw (allok)
open Sv (new1 Wr wr2)
set_option maxHeartbeats 8000000 in
theorem smok (w:World) (ak ax:Option Addr) (ck ct:Nat) (m:M) (h:Rm w ak ax m) (hl:m.sz≤1048576) :
    Calls Tryz.prog 24 #[.agg #[.int .i64 m.n,.int .i64 m.c,.int .i64 m.prior,.int .i64 m.base,.slice ak m.ks.length ck,.slice ax m.ts.length ct]] w fun e w'=>e=.returned (.bool (mok m))∧Below w.heap.size w w':=by
  have HL:Hid (m.sz≤1048576):=hl
  have hlk:m.ks.length≤1048576:=by unfold M.sz at hl;omega
  have hlt':m.ts.length≤1048576:=by unfold M.sz at hl;omega
  clear hl
  go_enter Tryz.func24,Tryz.ntmps24
  go_wp2_with fail
  obtain ⟨W,hW,hsz,hB,bx⟩:=new1 w [.int .i64 m.n,.int .i64 m.c,.int .i64 m.prior,.int .i64 m.base,.slice ak m.ks.length ck,.slice ax m.ts.length ct] 29
  rw [hW]
  clear hW hsz
  have HB:Hid (Below w.heap.size w W):=hB
  have HBX:Hid (Wr W w.heap.size 0 [.int .i64 m.n,.int .i64 m.c,.int .i64 m.prior,.int .i64 m.base,.slice ak m.ks.length ck,.slice ax m.ts.length ct]):=bx
  have HBD:Hid (Below W.heap.size W W.drew):=(Below.refl W.heap.size W).drew
  have hS0:=(wr6 (HBX.out.below HBD.out)).2.1
  clear hB bx
  refine Hs.start (fun U=>U.cell? ⟨w.heap.size,0,none⟩=some (.int .i64 m.n)∧U.cell? ⟨w.heap.size,1,none⟩=some (.int .i64 m.c)∧U.cell? ⟨w.heap.size,2,none⟩=some (.int .i64 m.prior)∧U.cell? ⟨w.heap.size,3,none⟩=some (.int .i64 m.base)∧U.cell? ⟨w.heap.size,4,none⟩=some (.slice ak m.ks.length ck)∧U.cell? ⟨w.heap.size,5,none⟩=some (.slice ax m.ts.length ct)) (by kernel_rfl) ?_
  refine Hs.takeD (i:=0) (some 7) (.pointer (some ⟨w.heap.size,0,none⟩)) rfl rfl (by kernel_rfl) (by kernel_rfl) (by kernel_rfl) (fun _ _ _ h=>h) hS0 (Or.inl ⟨by rfl,?_⟩) ?_
  · rintro U ⟨u0,u1,u2,u3,u4,u5⟩;go_simp;try with_reducible rfl
  try simp only [Act.put,List.setIfInBounds_toArray,List.set_cons_zero,List.set_cons_succ]
  refine Hs.takeD (i:=1) (some 8) (.agg #[.int .i64 m.n,.int .i64 m.c]) rfl rfl (by kernel_rfl) (by kernel_rfl) (by kernel_rfl) (fun _ _ _ h=>h) hS0 (Or.inl ⟨by rfl,?_⟩) ?_
  · rintro U ⟨u0,u1,u2,u3,u4,u5⟩;go_simp;try with_reducible rfl
  try simp only [Act.put,List.setIfInBounds_toArray,List.set_cons_zero,List.set_cons_succ]
  refine Hs.oneG (i:=2) (by kernel_rfl) rfl (by rfl) ?_
  intro K hK
  go_simp
  go_wp2_with (go_at_call 53;refine (Tk.ssch _ m.n m.c).mono ?_;rintro e w1 ⟨rfl,hb⟩)
  have HY:Hid (Below W.heap.size W w1):=HBD.out.trans hb
  have hS1:=(wr6 (HBX.out.below HY.out)).2.1
  clear hb
  refine hK _ _ hS1 ?_
  clear hK K
  try simp only [Act.put,List.setIfInBounds_toArray,List.set_cons_zero,List.set_cons_succ]
  cases h1:sok m.n m.c with
  | false =>
    have HR:Hid (mok m=false):=by show _=_;simp [mok,h1]
    refine Hs.takeD (i:=3) (some 10) (.bool true) rfl rfl (by kernel_rfl) (by kernel_rfl) (by kernel_rfl) (fun _ _ _ h=>h) hS1 (Or.inl ⟨by rfl,?_⟩) ?_
    · rintro U ⟨u0,u1,u2,u3,u4,u5⟩;go_simp;try with_reducible rfl
    try simp only [Act.put,List.setIfInBounds_toArray,List.set_cons_zero,List.set_cons_succ]
    refine Hs.takeD (i:=4) (some 11) (.bool true) rfl rfl (by kernel_rfl) (by kernel_rfl) (by kernel_rfl) (fun _ _ _ h=>h) hS1 (Or.inl ⟨by rfl,?_⟩) ?_
    · rintro U ⟨u0,u1,u2,u3,u4,u5⟩;go_simp;try with_reducible rfl
    try simp only [Act.put,List.setIfInBounds_toArray,List.set_cons_zero,List.set_cons_succ]
    refine Hs.passD (i:=5) (some 12) rfl rfl (by kernel_rfl) (by kernel_rfl) (by kernel_rfl) (fun _ _ _ h=>h) hS1 (by rfl) ?_
    try simp only [Act.put,List.setIfInBounds_toArray,List.set_cons_zero,List.set_cons_succ]
    refine Hs.passD (i:=6) (some 13) rfl rfl (by kernel_rfl) (by kernel_rfl) (by kernel_rfl) (fun _ _ _ h=>h) hS1 (by rfl) ?_
    try simp only [Act.put,List.setIfInBounds_toArray,List.set_cons_zero,List.set_cons_succ]
    refine Hs.passD (i:=7) (some 14) rfl rfl (by kernel_rfl) (by kernel_rfl) (by kernel_rfl) (fun _ _ _ h=>h) hS1 (by rfl) ?_
    try simp only [Act.put,List.setIfInBounds_toArray,List.set_cons_zero,List.set_cons_succ]
    refine Hs.passD (i:=8) (some 15) rfl rfl (by kernel_rfl) (by kernel_rfl) (by kernel_rfl) (fun _ _ _ h=>h) hS1 (by rfl) ?_
    try simp only [Act.put,List.setIfInBounds_toArray,List.set_cons_zero,List.set_cons_succ]
    refine Hs.takeD (i:=9) (some 16) (.bool true) rfl rfl (by kernel_rfl) (by kernel_rfl) (by kernel_rfl) (fun _ _ _ h=>h) hS1 (Or.inl ⟨by rfl,?_⟩) ?_
    · rintro U ⟨u0,u1,u2,u3,u4,u5⟩;go_simp;try with_reducible rfl
    try simp only [Act.put,List.setIfInBounds_toArray,List.set_cons_zero,List.set_cons_succ]
    refine Hs.takeD (i:=10) (some 17) (.bool true) rfl rfl (by kernel_rfl) (by kernel_rfl) (by kernel_rfl) (fun _ _ _ h=>h) hS1 (Or.inl ⟨by rfl,?_⟩) ?_
    · rintro U ⟨u0,u1,u2,u3,u4,u5⟩;go_simp;try with_reducible rfl
    try simp only [Act.put,List.setIfInBounds_toArray,List.set_cons_zero,List.set_cons_succ]
    refine Hs.passD (i:=11) (some 18) rfl rfl (by kernel_rfl) (by kernel_rfl) (by kernel_rfl) (fun _ _ _ h=>h) hS1 (by rfl) ?_
    try simp only [Act.put,List.setIfInBounds_toArray,List.set_cons_zero,List.set_cons_succ]
    refine Hs.passD (i:=12) (some 19) rfl rfl (by kernel_rfl) (by kernel_rfl) (by kernel_rfl) (fun _ _ _ h=>h) hS1 (by rfl) ?_
    try simp only [Act.put,List.setIfInBounds_toArray,List.set_cons_zero,List.set_cons_succ]
    refine Hs.passD (i:=13) (some 20) rfl rfl (by kernel_rfl) (by kernel_rfl) (by kernel_rfl) (fun _ _ _ h=>h) hS1 (by rfl) ?_
    try simp only [Act.put,List.setIfInBounds_toArray,List.set_cons_zero,List.set_cons_succ]
    refine Hs.passD (i:=14) (some 21) rfl rfl (by kernel_rfl) (by kernel_rfl) (by kernel_rfl) (fun _ _ _ h=>h) hS1 (by rfl) ?_
    try simp only [Act.put,List.setIfInBounds_toArray,List.set_cons_zero,List.set_cons_succ]
    refine Hs.takeD (i:=15) (some 22) (.bool true) rfl rfl (by kernel_rfl) (by kernel_rfl) (by kernel_rfl) (fun _ _ _ h=>h) hS1 (Or.inl ⟨by rfl,?_⟩) ?_
    · rintro U ⟨u0,u1,u2,u3,u4,u5⟩;go_simp;try with_reducible rfl
    try simp only [Act.put,List.setIfInBounds_toArray,List.set_cons_zero,List.set_cons_succ]
    refine Hs.takeD (i:=16) (some 23) (.bool true) rfl rfl (by kernel_rfl) (by kernel_rfl) (by kernel_rfl) (fun _ _ _ h=>h) hS1 (Or.inl ⟨by rfl,?_⟩) ?_
    · rintro U ⟨u0,u1,u2,u3,u4,u5⟩;go_simp;try with_reducible rfl
    try simp only [Act.put,List.setIfInBounds_toArray,List.set_cons_zero,List.set_cons_succ]
    refine Hs.passD (i:=17) (some 24) rfl rfl (by kernel_rfl) (by kernel_rfl) (by kernel_rfl) (fun _ _ _ h=>h) hS1 (by rfl) ?_
    try simp only [Act.put,List.setIfInBounds_toArray,List.set_cons_zero,List.set_cons_succ]
    refine Hs.passD (i:=18) (some 25) rfl rfl (by kernel_rfl) (by kernel_rfl) (by kernel_rfl) (fun _ _ _ h=>h) hS1 (by rfl) ?_
    try simp only [Act.put,List.setIfInBounds_toArray,List.set_cons_zero,List.set_cons_succ]
    refine Hs.passD (i:=19) (some 26) rfl rfl (by kernel_rfl) (by kernel_rfl) (by kernel_rfl) (fun _ _ _ h=>h) hS1 (by rfl) ?_
    try simp only [Act.put,List.setIfInBounds_toArray,List.set_cons_zero,List.set_cons_succ]
    refine Hs.passD (i:=20) (some 27) rfl rfl (by kernel_rfl) (by kernel_rfl) (by kernel_rfl) (fun _ _ _ h=>h) hS1 (by rfl) ?_
    try simp only [Act.put,List.setIfInBounds_toArray,List.set_cons_zero,List.set_cons_succ]
    refine Hs.takeD (i:=21) (some 28) (.bool true) rfl rfl (by kernel_rfl) (by kernel_rfl) (by kernel_rfl) (fun _ _ _ h=>h) hS1 (Or.inl ⟨by rfl,?_⟩) ?_
    · rintro U ⟨u0,u1,u2,u3,u4,u5⟩;go_simp;try with_reducible rfl
    try simp only [Act.put,List.setIfInBounds_toArray,List.set_cons_zero,List.set_cons_succ]
    refine Hs.takeD (i:=22) (some 29) (.bool true) rfl rfl (by kernel_rfl) (by kernel_rfl) (by kernel_rfl) (fun _ _ _ h=>h) hS1 (Or.inl ⟨by rfl,?_⟩) ?_
    · rintro U ⟨u0,u1,u2,u3,u4,u5⟩;go_simp;try with_reducible rfl
    try simp only [Act.put,List.setIfInBounds_toArray,List.set_cons_zero,List.set_cons_succ]
    refine Hs.passD (i:=23) (some 30) rfl rfl (by kernel_rfl) (by kernel_rfl) (by kernel_rfl) (fun _ _ _ h=>h) hS1 (by rfl) ?_
    try simp only [Act.put,List.setIfInBounds_toArray,List.set_cons_zero,List.set_cons_succ]
    refine Hs.passD (i:=24) (some 31) rfl rfl (by kernel_rfl) (by kernel_rfl) (by kernel_rfl) (fun _ _ _ h=>h) hS1 (by rfl) ?_
    try simp only [Act.put,List.setIfInBounds_toArray,List.set_cons_zero,List.set_cons_succ]
    refine Hs.passD (i:=25) (some 32) rfl rfl (by kernel_rfl) (by kernel_rfl) (by kernel_rfl) (fun _ _ _ h=>h) hS1 (by rfl) ?_
    try simp only [Act.put,List.setIfInBounds_toArray,List.set_cons_zero,List.set_cons_succ]
    refine Hs.passD (i:=26) (some 33) rfl rfl (by kernel_rfl) (by kernel_rfl) (by kernel_rfl) (fun _ _ _ h=>h) hS1 (by rfl) ?_
    try simp only [Act.put,List.setIfInBounds_toArray,List.set_cons_zero,List.set_cons_succ]
    refine Hs.passD (i:=27) (some 34) rfl rfl (by kernel_rfl) (by kernel_rfl) (by kernel_rfl) (fun _ _ _ h=>h) hS1 (by rfl) ?_
    try simp only [Act.put,List.setIfInBounds_toArray,List.set_cons_zero,List.set_cons_succ]
    refine Hs.passD (i:=28) (some 35) rfl rfl (by kernel_rfl) (by kernel_rfl) (by kernel_rfl) (fun _ _ _ h=>h) hS1 (by rfl) ?_
    try simp only [Act.put,List.setIfInBounds_toArray,List.set_cons_zero,List.set_cons_succ]
    refine Hs.passD (i:=29) (some 36) rfl rfl (by kernel_rfl) (by kernel_rfl) (by kernel_rfl) (fun _ _ _ h=>h) hS1 (by rfl) ?_
    try simp only [Act.put,List.setIfInBounds_toArray,List.set_cons_zero,List.set_cons_succ]
    refine Hs.takeD (i:=30) (some 37) (.bool true) rfl rfl (by kernel_rfl) (by kernel_rfl) (by kernel_rfl) (fun _ _ _ h=>h) hS1 (Or.inl ⟨by rfl,?_⟩) ?_
    · rintro U ⟨u0,u1,u2,u3,u4,u5⟩;go_simp;try with_reducible rfl
    try simp only [Act.put,List.setIfInBounds_toArray,List.set_cons_zero,List.set_cons_succ]
    refine wpAnyH_done (by kernel_rfl) ?_ _
    have hB:=HB.out.trans (HY.out.mono HB.out.size)
    go_wp2
    go_ret
    exact ⟨ret_bool HR.out.symm,hB⟩
  | true =>
  refine Hs.takeD (i:=3) (some 10) (.bool false) rfl rfl (by kernel_rfl) (by kernel_rfl) (by kernel_rfl) (fun _ _ _ h=>h) hS1 (Or.inl ⟨by rfl,?_⟩) ?_
  · rintro U ⟨u0,u1,u2,u3,u4,u5⟩;go_simp;try with_reducible rfl
  try simp only [Act.put,List.setIfInBounds_toArray,List.set_cons_zero,List.set_cons_succ]
  refine Hs.takeD (i:=4) (some 11) (.bool false) rfl rfl (by kernel_rfl) (by kernel_rfl) (by kernel_rfl) (fun _ _ _ h=>h) hS1 (Or.inl ⟨by rfl,?_⟩) ?_
  · rintro U ⟨u0,u1,u2,u3,u4,u5⟩;go_simp;try with_reducible rfl
  try simp only [Act.put,List.setIfInBounds_toArray,List.set_cons_zero,List.set_cons_succ]
  refine Hs.takeD (i:=5) (some 12) (.pointer (some ⟨w.heap.size,2,none⟩)) rfl rfl (by kernel_rfl) (by kernel_rfl) (by kernel_rfl) (fun _ _ _ h=>h) hS1 (Or.inl ⟨by rfl,?_⟩) ?_
  · rintro U ⟨u0,u1,u2,u3,u4,u5⟩;go_simp;try with_reducible rfl
  try simp only [Act.put,List.setIfInBounds_toArray,List.set_cons_zero,List.set_cons_succ]
  refine Hs.takeD (i:=6) (some 13) (.int .i64 m.prior) rfl rfl (by kernel_rfl) (by kernel_rfl) (by kernel_rfl) (fun _ _ _ h=>h) hS1 (Or.inl ⟨by rfl,?_⟩) ?_
  · rintro U ⟨u0,u1,u2,u3,u4,u5⟩;go_simp;try with_reducible rfl
  try simp only [Act.put,List.setIfInBounds_toArray,List.set_cons_zero,List.set_cons_succ]
  refine Hs.oneG (i:=7) (by kernel_rfl) rfl (by rfl) ?_
  intro K hK
  go_simp
  go_wp2_with (go_at_call 33;refine (Li.between_any _ _ _ _).mono ?_;rintro e w' ⟨rfl,hw⟩;subst w')
  refine hK _ _ hS1 ?_
  clear hK K
  try simp only [Act.put,List.setIfInBounds_toArray,List.set_cons_zero,List.set_cons_succ]
  cases h2:btw m.prior (-1000000) 1000000 with
  | false =>
    have HR:Hid (mok m=false):=by show _=_;simp [mok,h2]
    refine Hs.takeD (i:=8) (some 15) (.bool true) rfl rfl (by kernel_rfl) (by kernel_rfl) (by kernel_rfl) (fun _ _ _ h=>h) hS1 (Or.inl ⟨by rfl,?_⟩) ?_
    · rintro U ⟨u0,u1,u2,u3,u4,u5⟩;go_simp;try with_reducible rfl
    try simp only [Act.put,List.setIfInBounds_toArray,List.set_cons_zero,List.set_cons_succ]
    refine Hs.takeD (i:=9) (some 16) (.bool true) rfl rfl (by kernel_rfl) (by kernel_rfl) (by kernel_rfl) (fun _ _ _ h=>h) hS1 (Or.inl ⟨by rfl,?_⟩) ?_
    · rintro U ⟨u0,u1,u2,u3,u4,u5⟩;go_simp;try with_reducible rfl
    try simp only [Act.put,List.setIfInBounds_toArray,List.set_cons_zero,List.set_cons_succ]
    refine Hs.takeD (i:=10) (some 17) (.bool true) rfl rfl (by kernel_rfl) (by kernel_rfl) (by kernel_rfl) (fun _ _ _ h=>h) hS1 (Or.inl ⟨by rfl,?_⟩) ?_
    · rintro U ⟨u0,u1,u2,u3,u4,u5⟩;go_simp;try with_reducible rfl
    try simp only [Act.put,List.setIfInBounds_toArray,List.set_cons_zero,List.set_cons_succ]
    refine Hs.passD (i:=11) (some 18) rfl rfl (by kernel_rfl) (by kernel_rfl) (by kernel_rfl) (fun _ _ _ h=>h) hS1 (by rfl) ?_
    try simp only [Act.put,List.setIfInBounds_toArray,List.set_cons_zero,List.set_cons_succ]
    refine Hs.passD (i:=12) (some 19) rfl rfl (by kernel_rfl) (by kernel_rfl) (by kernel_rfl) (fun _ _ _ h=>h) hS1 (by rfl) ?_
    try simp only [Act.put,List.setIfInBounds_toArray,List.set_cons_zero,List.set_cons_succ]
    refine Hs.passD (i:=13) (some 20) rfl rfl (by kernel_rfl) (by kernel_rfl) (by kernel_rfl) (fun _ _ _ h=>h) hS1 (by rfl) ?_
    try simp only [Act.put,List.setIfInBounds_toArray,List.set_cons_zero,List.set_cons_succ]
    refine Hs.passD (i:=14) (some 21) rfl rfl (by kernel_rfl) (by kernel_rfl) (by kernel_rfl) (fun _ _ _ h=>h) hS1 (by rfl) ?_
    try simp only [Act.put,List.setIfInBounds_toArray,List.set_cons_zero,List.set_cons_succ]
    refine Hs.takeD (i:=15) (some 22) (.bool true) rfl rfl (by kernel_rfl) (by kernel_rfl) (by kernel_rfl) (fun _ _ _ h=>h) hS1 (Or.inl ⟨by rfl,?_⟩) ?_
    · rintro U ⟨u0,u1,u2,u3,u4,u5⟩;go_simp;try with_reducible rfl
    try simp only [Act.put,List.setIfInBounds_toArray,List.set_cons_zero,List.set_cons_succ]
    refine Hs.takeD (i:=16) (some 23) (.bool true) rfl rfl (by kernel_rfl) (by kernel_rfl) (by kernel_rfl) (fun _ _ _ h=>h) hS1 (Or.inl ⟨by rfl,?_⟩) ?_
    · rintro U ⟨u0,u1,u2,u3,u4,u5⟩;go_simp;try with_reducible rfl
    try simp only [Act.put,List.setIfInBounds_toArray,List.set_cons_zero,List.set_cons_succ]
    refine Hs.passD (i:=17) (some 24) rfl rfl (by kernel_rfl) (by kernel_rfl) (by kernel_rfl) (fun _ _ _ h=>h) hS1 (by rfl) ?_
    try simp only [Act.put,List.setIfInBounds_toArray,List.set_cons_zero,List.set_cons_succ]
    refine Hs.passD (i:=18) (some 25) rfl rfl (by kernel_rfl) (by kernel_rfl) (by kernel_rfl) (fun _ _ _ h=>h) hS1 (by rfl) ?_
    try simp only [Act.put,List.setIfInBounds_toArray,List.set_cons_zero,List.set_cons_succ]
    refine Hs.passD (i:=19) (some 26) rfl rfl (by kernel_rfl) (by kernel_rfl) (by kernel_rfl) (fun _ _ _ h=>h) hS1 (by rfl) ?_
    try simp only [Act.put,List.setIfInBounds_toArray,List.set_cons_zero,List.set_cons_succ]
    refine Hs.passD (i:=20) (some 27) rfl rfl (by kernel_rfl) (by kernel_rfl) (by kernel_rfl) (fun _ _ _ h=>h) hS1 (by rfl) ?_
    try simp only [Act.put,List.setIfInBounds_toArray,List.set_cons_zero,List.set_cons_succ]
    refine Hs.takeD (i:=21) (some 28) (.bool true) rfl rfl (by kernel_rfl) (by kernel_rfl) (by kernel_rfl) (fun _ _ _ h=>h) hS1 (Or.inl ⟨by rfl,?_⟩) ?_
    · rintro U ⟨u0,u1,u2,u3,u4,u5⟩;go_simp;try with_reducible rfl
    try simp only [Act.put,List.setIfInBounds_toArray,List.set_cons_zero,List.set_cons_succ]
    refine Hs.takeD (i:=22) (some 29) (.bool true) rfl rfl (by kernel_rfl) (by kernel_rfl) (by kernel_rfl) (fun _ _ _ h=>h) hS1 (Or.inl ⟨by rfl,?_⟩) ?_
    · rintro U ⟨u0,u1,u2,u3,u4,u5⟩;go_simp;try with_reducible rfl
    try simp only [Act.put,List.setIfInBounds_toArray,List.set_cons_zero,List.set_cons_succ]
    refine Hs.passD (i:=23) (some 30) rfl rfl (by kernel_rfl) (by kernel_rfl) (by kernel_rfl) (fun _ _ _ h=>h) hS1 (by rfl) ?_
    try simp only [Act.put,List.setIfInBounds_toArray,List.set_cons_zero,List.set_cons_succ]
    refine Hs.passD (i:=24) (some 31) rfl rfl (by kernel_rfl) (by kernel_rfl) (by kernel_rfl) (fun _ _ _ h=>h) hS1 (by rfl) ?_
    try simp only [Act.put,List.setIfInBounds_toArray,List.set_cons_zero,List.set_cons_succ]
    refine Hs.passD (i:=25) (some 32) rfl rfl (by kernel_rfl) (by kernel_rfl) (by kernel_rfl) (fun _ _ _ h=>h) hS1 (by rfl) ?_
    try simp only [Act.put,List.setIfInBounds_toArray,List.set_cons_zero,List.set_cons_succ]
    refine Hs.passD (i:=26) (some 33) rfl rfl (by kernel_rfl) (by kernel_rfl) (by kernel_rfl) (fun _ _ _ h=>h) hS1 (by rfl) ?_
    try simp only [Act.put,List.setIfInBounds_toArray,List.set_cons_zero,List.set_cons_succ]
    refine Hs.passD (i:=27) (some 34) rfl rfl (by kernel_rfl) (by kernel_rfl) (by kernel_rfl) (fun _ _ _ h=>h) hS1 (by rfl) ?_
    try simp only [Act.put,List.setIfInBounds_toArray,List.set_cons_zero,List.set_cons_succ]
    refine Hs.passD (i:=28) (some 35) rfl rfl (by kernel_rfl) (by kernel_rfl) (by kernel_rfl) (fun _ _ _ h=>h) hS1 (by rfl) ?_
    try simp only [Act.put,List.setIfInBounds_toArray,List.set_cons_zero,List.set_cons_succ]
    refine Hs.passD (i:=29) (some 36) rfl rfl (by kernel_rfl) (by kernel_rfl) (by kernel_rfl) (fun _ _ _ h=>h) hS1 (by rfl) ?_
    try simp only [Act.put,List.setIfInBounds_toArray,List.set_cons_zero,List.set_cons_succ]
    refine Hs.takeD (i:=30) (some 37) (.bool true) rfl rfl (by kernel_rfl) (by kernel_rfl) (by kernel_rfl) (fun _ _ _ h=>h) hS1 (Or.inl ⟨by rfl,?_⟩) ?_
    · rintro U ⟨u0,u1,u2,u3,u4,u5⟩;go_simp;try with_reducible rfl
    try simp only [Act.put,List.setIfInBounds_toArray,List.set_cons_zero,List.set_cons_succ]
    refine wpAnyH_done (by kernel_rfl) ?_ _
    have hB:=HB.out.trans (HY.out.mono HB.out.size)
    go_wp2
    go_ret
    exact ⟨ret_bool HR.out.symm,hB⟩
  | true =>
  refine Hs.takeD (i:=8) (some 15) (.bool false) rfl rfl (by kernel_rfl) (by kernel_rfl) (by kernel_rfl) (fun _ _ _ h=>h) hS1 (Or.inl ⟨by rfl,?_⟩) ?_
  · rintro U ⟨u0,u1,u2,u3,u4,u5⟩;go_simp;try with_reducible rfl
  try simp only [Act.put,List.setIfInBounds_toArray,List.set_cons_zero,List.set_cons_succ]
  refine Hs.takeD (i:=9) (some 16) (.bool false) rfl rfl (by kernel_rfl) (by kernel_rfl) (by kernel_rfl) (fun _ _ _ h=>h) hS1 (Or.inl ⟨by rfl,?_⟩) ?_
  · rintro U ⟨u0,u1,u2,u3,u4,u5⟩;go_simp;try with_reducible rfl
  try simp only [Act.put,List.setIfInBounds_toArray,List.set_cons_zero,List.set_cons_succ]
  refine Hs.takeD (i:=10) (some 17) (.bool false) rfl rfl (by kernel_rfl) (by kernel_rfl) (by kernel_rfl) (fun _ _ _ h=>h) hS1 (Or.inl ⟨by rfl,?_⟩) ?_
  · rintro U ⟨u0,u1,u2,u3,u4,u5⟩;go_simp;try with_reducible rfl
  try simp only [Act.put,List.setIfInBounds_toArray,List.set_cons_zero,List.set_cons_succ]
  refine Hs.takeD (i:=11) (some 18) (.pointer (some ⟨w.heap.size,3,none⟩)) rfl rfl (by kernel_rfl) (by kernel_rfl) (by kernel_rfl) (fun _ _ _ h=>h) hS1 (Or.inl ⟨by rfl,?_⟩) ?_
  · rintro U ⟨u0,u1,u2,u3,u4,u5⟩;go_simp;try with_reducible rfl
  try simp only [Act.put,List.setIfInBounds_toArray,List.set_cons_zero,List.set_cons_succ]
  refine Hs.takeD (i:=12) (some 19) (.int .i64 m.base) rfl rfl (by kernel_rfl) (by kernel_rfl) (by kernel_rfl) (fun _ _ _ h=>h) hS1 (Or.inl ⟨by rfl,?_⟩) ?_
  · rintro U ⟨u0,u1,u2,u3,u4,u5⟩;go_simp;try with_reducible rfl
  try simp only [Act.put,List.setIfInBounds_toArray,List.set_cons_zero,List.set_cons_succ]
  refine Hs.oneG (i:=13) (by kernel_rfl) rfl (by rfl) ?_
  intro K hK
  go_simp
  go_wp2_with (go_at_call 54;refine (Bw.sok _ _).mono ?_;rintro e w' ⟨rfl,hw⟩;subst w')
  refine hK _ _ hS1 ?_
  clear hK K
  try simp only [Act.put,List.setIfInBounds_toArray,List.set_cons_zero,List.set_cons_succ]
  cases h3:fok m.base with
  | false =>
    have HR:Hid (mok m=false):=by show _=_;simp [mok,h3]
    refine Hs.takeD (i:=14) (some 21) (.bool true) rfl rfl (by kernel_rfl) (by kernel_rfl) (by kernel_rfl) (fun _ _ _ h=>h) hS1 (Or.inl ⟨by rfl,?_⟩) ?_
    · rintro U ⟨u0,u1,u2,u3,u4,u5⟩;go_simp;try with_reducible rfl
    try simp only [Act.put,List.setIfInBounds_toArray,List.set_cons_zero,List.set_cons_succ]
    refine Hs.takeD (i:=15) (some 22) (.bool true) rfl rfl (by kernel_rfl) (by kernel_rfl) (by kernel_rfl) (fun _ _ _ h=>h) hS1 (Or.inl ⟨by rfl,?_⟩) ?_
    · rintro U ⟨u0,u1,u2,u3,u4,u5⟩;go_simp;try with_reducible rfl
    try simp only [Act.put,List.setIfInBounds_toArray,List.set_cons_zero,List.set_cons_succ]
    refine Hs.takeD (i:=16) (some 23) (.bool true) rfl rfl (by kernel_rfl) (by kernel_rfl) (by kernel_rfl) (fun _ _ _ h=>h) hS1 (Or.inl ⟨by rfl,?_⟩) ?_
    · rintro U ⟨u0,u1,u2,u3,u4,u5⟩;go_simp;try with_reducible rfl
    try simp only [Act.put,List.setIfInBounds_toArray,List.set_cons_zero,List.set_cons_succ]
    refine Hs.passD (i:=17) (some 24) rfl rfl (by kernel_rfl) (by kernel_rfl) (by kernel_rfl) (fun _ _ _ h=>h) hS1 (by rfl) ?_
    try simp only [Act.put,List.setIfInBounds_toArray,List.set_cons_zero,List.set_cons_succ]
    refine Hs.passD (i:=18) (some 25) rfl rfl (by kernel_rfl) (by kernel_rfl) (by kernel_rfl) (fun _ _ _ h=>h) hS1 (by rfl) ?_
    try simp only [Act.put,List.setIfInBounds_toArray,List.set_cons_zero,List.set_cons_succ]
    refine Hs.passD (i:=19) (some 26) rfl rfl (by kernel_rfl) (by kernel_rfl) (by kernel_rfl) (fun _ _ _ h=>h) hS1 (by rfl) ?_
    try simp only [Act.put,List.setIfInBounds_toArray,List.set_cons_zero,List.set_cons_succ]
    refine Hs.passD (i:=20) (some 27) rfl rfl (by kernel_rfl) (by kernel_rfl) (by kernel_rfl) (fun _ _ _ h=>h) hS1 (by rfl) ?_
    try simp only [Act.put,List.setIfInBounds_toArray,List.set_cons_zero,List.set_cons_succ]
    refine Hs.takeD (i:=21) (some 28) (.bool true) rfl rfl (by kernel_rfl) (by kernel_rfl) (by kernel_rfl) (fun _ _ _ h=>h) hS1 (Or.inl ⟨by rfl,?_⟩) ?_
    · rintro U ⟨u0,u1,u2,u3,u4,u5⟩;go_simp;try with_reducible rfl
    try simp only [Act.put,List.setIfInBounds_toArray,List.set_cons_zero,List.set_cons_succ]
    refine Hs.takeD (i:=22) (some 29) (.bool true) rfl rfl (by kernel_rfl) (by kernel_rfl) (by kernel_rfl) (fun _ _ _ h=>h) hS1 (Or.inl ⟨by rfl,?_⟩) ?_
    · rintro U ⟨u0,u1,u2,u3,u4,u5⟩;go_simp;try with_reducible rfl
    try simp only [Act.put,List.setIfInBounds_toArray,List.set_cons_zero,List.set_cons_succ]
    refine Hs.passD (i:=23) (some 30) rfl rfl (by kernel_rfl) (by kernel_rfl) (by kernel_rfl) (fun _ _ _ h=>h) hS1 (by rfl) ?_
    try simp only [Act.put,List.setIfInBounds_toArray,List.set_cons_zero,List.set_cons_succ]
    refine Hs.passD (i:=24) (some 31) rfl rfl (by kernel_rfl) (by kernel_rfl) (by kernel_rfl) (fun _ _ _ h=>h) hS1 (by rfl) ?_
    try simp only [Act.put,List.setIfInBounds_toArray,List.set_cons_zero,List.set_cons_succ]
    refine Hs.passD (i:=25) (some 32) rfl rfl (by kernel_rfl) (by kernel_rfl) (by kernel_rfl) (fun _ _ _ h=>h) hS1 (by rfl) ?_
    try simp only [Act.put,List.setIfInBounds_toArray,List.set_cons_zero,List.set_cons_succ]
    refine Hs.passD (i:=26) (some 33) rfl rfl (by kernel_rfl) (by kernel_rfl) (by kernel_rfl) (fun _ _ _ h=>h) hS1 (by rfl) ?_
    try simp only [Act.put,List.setIfInBounds_toArray,List.set_cons_zero,List.set_cons_succ]
    refine Hs.passD (i:=27) (some 34) rfl rfl (by kernel_rfl) (by kernel_rfl) (by kernel_rfl) (fun _ _ _ h=>h) hS1 (by rfl) ?_
    try simp only [Act.put,List.setIfInBounds_toArray,List.set_cons_zero,List.set_cons_succ]
    refine Hs.passD (i:=28) (some 35) rfl rfl (by kernel_rfl) (by kernel_rfl) (by kernel_rfl) (fun _ _ _ h=>h) hS1 (by rfl) ?_
    try simp only [Act.put,List.setIfInBounds_toArray,List.set_cons_zero,List.set_cons_succ]
    refine Hs.passD (i:=29) (some 36) rfl rfl (by kernel_rfl) (by kernel_rfl) (by kernel_rfl) (fun _ _ _ h=>h) hS1 (by rfl) ?_
    try simp only [Act.put,List.setIfInBounds_toArray,List.set_cons_zero,List.set_cons_succ]
    refine Hs.takeD (i:=30) (some 37) (.bool true) rfl rfl (by kernel_rfl) (by kernel_rfl) (by kernel_rfl) (fun _ _ _ h=>h) hS1 (Or.inl ⟨by rfl,?_⟩) ?_
    · rintro U ⟨u0,u1,u2,u3,u4,u5⟩;go_simp;try with_reducible rfl
    try simp only [Act.put,List.setIfInBounds_toArray,List.set_cons_zero,List.set_cons_succ]
    refine wpAnyH_done (by kernel_rfl) ?_ _
    have hB:=HB.out.trans (HY.out.mono HB.out.size)
    go_wp2
    go_ret
    exact ⟨ret_bool HR.out.symm,hB⟩
  | true =>
  refine Hs.takeD (i:=14) (some 21) (.bool false) rfl rfl (by kernel_rfl) (by kernel_rfl) (by kernel_rfl) (fun _ _ _ h=>h) hS1 (Or.inl ⟨by rfl,?_⟩) ?_
  · rintro U ⟨u0,u1,u2,u3,u4,u5⟩;go_simp;try with_reducible rfl
  try simp only [Act.put,List.setIfInBounds_toArray,List.set_cons_zero,List.set_cons_succ]
  refine Hs.takeD (i:=15) (some 22) (.bool false) rfl rfl (by kernel_rfl) (by kernel_rfl) (by kernel_rfl) (fun _ _ _ h=>h) hS1 (Or.inl ⟨by rfl,?_⟩) ?_
  · rintro U ⟨u0,u1,u2,u3,u4,u5⟩;go_simp;try with_reducible rfl
  try simp only [Act.put,List.setIfInBounds_toArray,List.set_cons_zero,List.set_cons_succ]
  refine Hs.takeD (i:=16) (some 23) (.bool false) rfl rfl (by kernel_rfl) (by kernel_rfl) (by kernel_rfl) (fun _ _ _ h=>h) hS1 (Or.inl ⟨by rfl,?_⟩) ?_
  · rintro U ⟨u0,u1,u2,u3,u4,u5⟩;go_simp;try with_reducible rfl
  try simp only [Act.put,List.setIfInBounds_toArray,List.set_cons_zero,List.set_cons_succ]
  refine Hs.takeD (i:=17) (some 24) (.pointer (some ⟨w.heap.size,5,none⟩)) rfl rfl (by kernel_rfl) (by kernel_rfl) (by kernel_rfl) (fun _ _ _ h=>h) hS1 (Or.inl ⟨by rfl,?_⟩) ?_
  · rintro U ⟨u0,u1,u2,u3,u4,u5⟩;go_simp;try with_reducible rfl
  try simp only [Act.put,List.setIfInBounds_toArray,List.set_cons_zero,List.set_cons_succ]
  refine Hs.takeD (i:=18) (some 25) (.slice ax m.ts.length ct) rfl rfl (by kernel_rfl) (by kernel_rfl) (by kernel_rfl) (fun _ _ _ h=>h) hS1 (Or.inl ⟨by rfl,?_⟩) ?_
  · rintro U ⟨u0,u1,u2,u3,u4,u5⟩;go_simp;try with_reducible rfl
  try simp only [Act.put,List.setIfInBounds_toArray,List.set_cons_zero,List.set_cons_succ]
  refine Hs.takeD (i:=19) (some 26) (.int .i64 (m.ts.length:Int)) rfl rfl (by kernel_rfl) (by kernel_rfl) (by kernel_rfl) (fun _ _ _ h=>h) hS1 (Or.inl ⟨by rfl,?_⟩) ?_
  · rintro U ⟨u0,u1,u2,u3,u4,u5⟩;go_simp;try with_reducible rfl
  try simp only [Act.put,List.setIfInBounds_toArray,List.set_cons_zero,List.set_cons_succ]
  by_cases h4:m.ts.length≤12
  rotate_left
  · have HR : Hid (mok m = false) := by show _ = _; simp [mok, h4]
    have h4':(12:Int)<m.ts.length:=by omega
    refine Hs.takeD (i:=20) (some 27) (.bool true) rfl rfl (by kernel_rfl) (by kernel_rfl) (by kernel_rfl) (fun _ _ _ h=>h) hS1 (Or.inl ⟨by rfl,?_⟩) ?_
    · rintro U ⟨u0,u1,u2,u3,u4,u5⟩;go_simp;try with_reducible rfl
    try simp only [Act.put,List.setIfInBounds_toArray,List.set_cons_zero,List.set_cons_succ]
    refine Hs.takeD (i:=21) (some 28) (.bool true) rfl rfl (by kernel_rfl) (by kernel_rfl) (by kernel_rfl) (fun _ _ _ h=>h) hS1 (Or.inl ⟨by rfl,?_⟩) ?_
    · rintro U ⟨u0,u1,u2,u3,u4,u5⟩;go_simp;try with_reducible rfl
    try simp only [Act.put,List.setIfInBounds_toArray,List.set_cons_zero,List.set_cons_succ]
    refine Hs.takeD (i:=22) (some 29) (.bool true) rfl rfl (by kernel_rfl) (by kernel_rfl) (by kernel_rfl) (fun _ _ _ h=>h) hS1 (Or.inl ⟨by rfl,?_⟩) ?_
    · rintro U ⟨u0,u1,u2,u3,u4,u5⟩;go_simp;try with_reducible rfl
    try simp only [Act.put,List.setIfInBounds_toArray,List.set_cons_zero,List.set_cons_succ]
    refine Hs.passD (i:=23) (some 30) rfl rfl (by kernel_rfl) (by kernel_rfl) (by kernel_rfl) (fun _ _ _ h=>h) hS1 (by rfl) ?_
    try simp only [Act.put,List.setIfInBounds_toArray,List.set_cons_zero,List.set_cons_succ]
    refine Hs.passD (i:=24) (some 31) rfl rfl (by kernel_rfl) (by kernel_rfl) (by kernel_rfl) (fun _ _ _ h=>h) hS1 (by rfl) ?_
    try simp only [Act.put,List.setIfInBounds_toArray,List.set_cons_zero,List.set_cons_succ]
    refine Hs.passD (i:=25) (some 32) rfl rfl (by kernel_rfl) (by kernel_rfl) (by kernel_rfl) (fun _ _ _ h=>h) hS1 (by rfl) ?_
    try simp only [Act.put,List.setIfInBounds_toArray,List.set_cons_zero,List.set_cons_succ]
    refine Hs.passD (i:=26) (some 33) rfl rfl (by kernel_rfl) (by kernel_rfl) (by kernel_rfl) (fun _ _ _ h=>h) hS1 (by rfl) ?_
    try simp only [Act.put,List.setIfInBounds_toArray,List.set_cons_zero,List.set_cons_succ]
    refine Hs.passD (i:=27) (some 34) rfl rfl (by kernel_rfl) (by kernel_rfl) (by kernel_rfl) (fun _ _ _ h=>h) hS1 (by rfl) ?_
    try simp only [Act.put,List.setIfInBounds_toArray,List.set_cons_zero,List.set_cons_succ]
    refine Hs.passD (i:=28) (some 35) rfl rfl (by kernel_rfl) (by kernel_rfl) (by kernel_rfl) (fun _ _ _ h=>h) hS1 (by rfl) ?_
    try simp only [Act.put,List.setIfInBounds_toArray,List.set_cons_zero,List.set_cons_succ]
    refine Hs.passD (i:=29) (some 36) rfl rfl (by kernel_rfl) (by kernel_rfl) (by kernel_rfl) (fun _ _ _ h=>h) hS1 (by rfl) ?_
    try simp only [Act.put,List.setIfInBounds_toArray,List.set_cons_zero,List.set_cons_succ]
    refine Hs.takeD (i:=30) (some 37) (.bool true) rfl rfl (by kernel_rfl) (by kernel_rfl) (by kernel_rfl) (fun _ _ _ h=>h) hS1 (Or.inl ⟨by rfl,?_⟩) ?_
    · rintro U ⟨u0,u1,u2,u3,u4,u5⟩;go_simp;try with_reducible rfl
    try simp only [Act.put,List.setIfInBounds_toArray,List.set_cons_zero,List.set_cons_succ]
    refine wpAnyH_done (by kernel_rfl) ?_ _
    have hB:=HB.out.trans (HY.out.mono HB.out.size)
    go_wp2
    go_ret
    exact ⟨ret_bool HR.out.symm,hB⟩
  have h4':¬ (12:Int)<m.ts.length:=by omega
  refine Hs.takeD (i:=20) (some 27) (.bool false) rfl rfl (by kernel_rfl) (by kernel_rfl) (by kernel_rfl) (fun _ _ _ h=>h) hS1 (Or.inl ⟨by rfl,?_⟩) ?_
  · rintro U ⟨u0,u1,u2,u3,u4,u5⟩;go_simp;try with_reducible rfl
  try simp only [Act.put,List.setIfInBounds_toArray,List.set_cons_zero,List.set_cons_succ]
  refine Hs.takeD (i:=21) (some 28) (.bool false) rfl rfl (by kernel_rfl) (by kernel_rfl) (by kernel_rfl) (fun _ _ _ h=>h) hS1 (Or.inl ⟨by rfl,?_⟩) ?_
  · rintro U ⟨u0,u1,u2,u3,u4,u5⟩;go_simp;try with_reducible rfl
  try simp only [Act.put,List.setIfInBounds_toArray,List.set_cons_zero,List.set_cons_succ]
  refine Hs.takeD (i:=22) (some 29) (.bool false) rfl rfl (by kernel_rfl) (by kernel_rfl) (by kernel_rfl) (fun _ _ _ h=>h) hS1 (Or.inl ⟨by rfl,?_⟩) ?_
  · rintro U ⟨u0,u1,u2,u3,u4,u5⟩;go_simp;try with_reducible rfl
  try simp only [Act.put,List.setIfInBounds_toArray,List.set_cons_zero,List.set_cons_succ]
  refine Hs.takeD (i:=23) (some 30) (.pointer (some ⟨w.heap.size,4,none⟩)) rfl rfl (by kernel_rfl) (by kernel_rfl) (by kernel_rfl) (fun _ _ _ h=>h) hS1 (Or.inl ⟨by rfl,?_⟩) ?_
  · rintro U ⟨u0,u1,u2,u3,u4,u5⟩;go_simp;try with_reducible rfl
  try simp only [Act.put,List.setIfInBounds_toArray,List.set_cons_zero,List.set_cons_succ]
  refine Hs.takeD (i:=24) (some 31) (.slice ak m.ks.length ck) rfl rfl (by kernel_rfl) (by kernel_rfl) (by kernel_rfl) (fun _ _ _ h=>h) hS1 (Or.inl ⟨by rfl,?_⟩) ?_
  · rintro U ⟨u0,u1,u2,u3,u4,u5⟩;go_simp;try with_reducible rfl
  try simp only [Act.put,List.setIfInBounds_toArray,List.set_cons_zero,List.set_cons_succ]
  refine Hs.takeD (i:=25) (some 32) (.int .i64 (m.ks.length:Int)) rfl rfl (by kernel_rfl) (by kernel_rfl) (by kernel_rfl) (fun _ _ _ h=>h) hS1 (Or.inl ⟨by rfl,?_⟩) ?_
  · rintro U ⟨u0,u1,u2,u3,u4,u5⟩;go_simp;try with_reducible rfl
  try simp only [Act.put,List.setIfInBounds_toArray,List.set_cons_zero,List.set_cons_succ]
  refine Hs.takeD (i:=26) (some 33) (.pointer (some ⟨w.heap.size,0,none⟩)) rfl rfl (by kernel_rfl) (by kernel_rfl) (by kernel_rfl) (fun _ _ _ h=>h) hS1 (Or.inl ⟨by rfl,?_⟩) ?_
  · rintro U ⟨u0,u1,u2,u3,u4,u5⟩;go_simp;try with_reducible rfl
  try simp only [Act.put,List.setIfInBounds_toArray,List.set_cons_zero,List.set_cons_succ]
  refine Hs.takeD (i:=27) (some 34) (.agg #[.int .i64 m.n,.int .i64 m.c]) rfl rfl (by kernel_rfl) (by kernel_rfl) (by kernel_rfl) (fun _ _ _ h=>h) hS1 (Or.inl ⟨by rfl,?_⟩) ?_
  · rintro U ⟨u0,u1,u2,u3,u4,u5⟩;go_simp;try with_reducible rfl
  try simp only [Act.put,List.setIfInBounds_toArray,List.set_cons_zero,List.set_cons_succ]
  refine Hs.oneG (i:=28) (by kernel_rfl) rfl (by rfl) ?_
  intro K hK
  go_simp
  go_wp2_with (go_at_call 55;refine (scol _ m.n m.c).mono ?_;rintro e w2 ⟨rfl,hb⟩)
  have HY2:Hid (Below W.heap.size W w2):=HY.out.trans (hb.mono HY.out.size)
  have hS2:=(wr6 (HBX.out.below HY2.out)).2.1
  clear hb
  refine hK _ _ hS2 ?_
  clear hK K
  try simp only [Act.put,List.setIfInBounds_toArray,List.set_cons_zero,List.set_cons_succ]
  by_cases h5:(m.ks.length:Int)=ncol m.c
  rotate_left
  · have HR : Hid (mok m = false) := by show _ = _; simp [mok, h5]
    have h5':((m.ks.length:Int) != ncol m.c)=true:=by simp [h5]
    refine Hs.takeD (i:=29) (some 36) (.bool true) rfl rfl (by kernel_rfl) (by kernel_rfl) (by kernel_rfl) (fun _ _ _ h=>h) hS2 (Or.inl ⟨by rfl,?_⟩) ?_
    · rintro U ⟨u0,u1,u2,u3,u4,u5⟩;go_simp;try with_reducible rfl
    try simp only [Act.put,List.setIfInBounds_toArray,List.set_cons_zero,List.set_cons_succ]
    refine Hs.takeD (i:=30) (some 37) (.bool true) rfl rfl (by kernel_rfl) (by kernel_rfl) (by kernel_rfl) (fun _ _ _ h=>h) hS2 (Or.inl ⟨by rfl,?_⟩) ?_
    · rintro U ⟨u0,u1,u2,u3,u4,u5⟩;go_simp;try with_reducible rfl
    try simp only [Act.put,List.setIfInBounds_toArray,List.set_cons_zero,List.set_cons_succ]
    refine wpAnyH_done (by kernel_rfl) ?_ _
    have hB:=HB.out.trans (HY2.out.mono HB.out.size)
    go_wp2
    go_ret
    exact ⟨ret_bool HR.out.symm,hB⟩
  have HR:Hid (mok m=(allok m.ts && m.ks.all kok)):=by
    show _=_
    unfold mok
    rw [h1,h2,h3,decide_eq_true h4,decide_eq_true h5]
    rfl
  have h5':((m.ks.length:Int) != ncol m.c)=false:=by simp [h5]
  clear h5
  refine Hs.takeD (i:=29) (some 36) (.bool false) rfl rfl (by kernel_rfl) (by kernel_rfl) (by kernel_rfl) (fun _ _ _ h=>h) hS2 (Or.inl ⟨by rfl,?_⟩) ?_
  · rintro U ⟨u0,u1,u2,u3,u4,u5⟩;go_simp;try with_reducible rfl
  try simp only [Act.put,List.setIfInBounds_toArray,List.set_cons_zero,List.set_cons_succ]
  refine Hs.takeD (i:=30) (some 37) (.bool false) rfl rfl (by kernel_rfl) (by kernel_rfl) (by kernel_rfl) (fun _ _ _ h=>h) hS2 (Or.inl ⟨by rfl,?_⟩) ?_
  · rintro U ⟨u0,u1,u2,u3,u4,u5⟩;go_simp;try with_reducible rfl
  try simp only [Act.put,List.setIfInBounds_toArray,List.set_cons_zero,List.set_cons_succ]
  refine wpAnyH_done (by kernel_rfl) ?_ _
  have hB:=HB.out.trans (HY2.out.mono HB.out.size)
  have bx:=HBX.out.below HY2.out
  clear HY HY2 HBX HBD HB hS0 hS1 hS2 h1 h2 h3 h5'
  go_wp2
  go_loopw [3] (fun i wr=>∃ k:Nat,k≤m.ts.length∧i=.int .i64 k∧(∀ j (hj:j<m.ts.length),j<k→Tr.tok m.ts[j]=true)∧Wr wr w.heap.size 0 [.int .i64 m.n,.int .i64 m.c,.int .i64 m.prior,.int .i64 m.base,.slice ak m.ks.length ck,.slice ax m.ts.length ct]∧Below w.heap.size w wr) (fun i _=>m.ts.length-(intOf i).toNat)
  case atStart=>exact ⟨0,Nat.zero_le _,rfl,fun j hj h=>by omega,bx,hB⟩
  case round =>
    obtain ⟨k,hk,rfl,hall,bx,hB⟩:=hrel
    obtain ⟨_,⟨x0,x1,x2,x3,x4,x5⟩,_⟩:=wr6 bx
    by_cases hlt:k<m.ts.length
    · rcases h.t.below hB with e0 | ⟨b, off, rfl, hb, hc⟩
      · rw [e0] at hlt;simp at hlt
      obtain ⟨_,_,⟨y0,y1⟩,a0,c0,a1,c1,rfl,rfl,i0,i1⟩:=hc k hlt
      have hz:=ts_at HL.out k hlt
      have HNO:Hid (Tr.tok m.ts[k]=false→mok m=false):=fun e=>by rw [HR.out,Sw.allok_no hlt e];rfl
      have HYE:Hid (Tr.tok m.ts[k]=true→∀ j (hj:j<m.ts.length),j<k+1→Tr.tok m.ts[j]=true):=fun e j hj h=>by
        by_cases e':j=k
        · subst e';exact e
        · exact hall j hj (by omega)
      obtain ⟨t,ht⟩:∃ t,m.ts[k]=t:=⟨_,rfl⟩
      rw [ht] at y0 y1 i0 i1 hz HNO HYE
      clear hc ht hall
      go_wp2_with fail
      refine (Tw.stok _ _ _ _ _ t i0 i1 hz).mono ?_
      rintro e w3 ⟨rfl,hb1⟩
      have bx:=bx.below hb1
      have hB:=hB.trans (hb1.mono hB.size)
      clear hb1 x0 x1 x2 x3 x4 x5 y0 y1 i0 i1
      cases htok:Tr.tok t with
      | false =>
        have HR:Hid (mok m=false):=HNO.out htok
        go_wp2
        go_ret
        exact ⟨ret_bool HR.out.symm,hB⟩
      | true =>
        have HR:=HYE.out htok
        have HR':Hid (∀ j (hj:j<m.ts.length),j<k+1→Tr.tok m.ts[j]=true):=HR
        clear HR
        go_wp2
        go_roundw
        case rel=>exact ⟨k+1,by omega,by go_num,HR'.out,bx,hB⟩
        case measure=>simp [intOf];omega
    · have HA : Hid (mok m = m.ks.all kok) := by show _ = _; rw [HR.out, Sw.allok_all (fun j hj => hall j hj (by omega))]; rfl
      clear hall HR
      go_wp2
      go_loopw [4] (fun i wr=>∃ k:Nat,k≤m.ks.length∧i=.int .i64 k∧(∀ j (hj:j<m.ks.length),j<k→kok m.ks[j]=true)∧Wr wr w.heap.size 0 [.int .i64 m.n,.int .i64 m.c,.int .i64 m.prior,.int .i64 m.base,.slice ak m.ks.length ck,.slice ax m.ts.length ct]∧Below w.heap.size w wr) (fun i _=>m.ks.length-(intOf i).toNat)
      case atStart=>exact ⟨0,Nat.zero_le _,rfl,fun j hj h=>by omega,bx,hB⟩
      case round =>
        clear bx hB x0 x1 x2 x3 x4 x5
        obtain ⟨k,hk,rfl,hall,bx,hB⟩:=hrel
        obtain ⟨hbl,⟨x0,x1,x2,x3,x4,x5⟩,_⟩:=wr6 bx
        by_cases hlt:k<m.ks.length
        · rcases h.k.below hB with e0 | ⟨b, off, rfl, hb, hc⟩
          · rw [e0] at hlt;simp at hlt
          obtain ⟨a0,c0,a1,c1,⟨y0,y1⟩,i0,i1⟩:=hc k hlt
          have hz:=ks_at HL.out k hlt
          have HNO:Hid (kok m.ks[k]=false→mok m=false):=fun e=>by rw [HA.out,all_no hlt e]
          have HYE:Hid (kok m.ks[k]=true→∀ j (hj:j<m.ks.length),j<k+1→kok m.ks[j]=true):=fun e j hj h=>by
            by_cases e':j=k
            · subst e';exact e
            · exact hall j hj (by omega)
          obtain ⟨t,ht⟩:∃ t,m.ks[k]=t:=⟨_,rfl⟩
          rw [ht] at y0 y1 i0 i1 hz HNO HYE
          clear hc ht hall
          have hzs:∀ j (hj:j<t.ws.length),t.ws[j].size≤1048576:=fun j hj=>by have:=Tb.lets_at t.ws j hj;omega
          have HZS:Hid (∀ j (hj:j<t.ws.length),t.ws[j].size≤1048576):=hzs
          obtain ⟨n,hn⟩:∃ n,t.ws.length=n:=⟨_,rfl⟩
          obtain ⟨q,hq⟩:∃ n,t.vs.length=n:=⟨_,rfl⟩
          have HN:Hid (t.ws.length=n):=hn
          have HQ:Hid (t.vs.length=q):=hq
          have hnl:n≤1048576:=by omega
          have hql:q≤1048576:=by omega
          rw [hn] at y0
          rw [hq] at y1
          clear hz hzs hn hq
          obtain ⟨W2,hW2⟩:∃ W2,wr.alloc (.cells #[.slice a0 n c0,.slice a1 q c1] 47)=W2:=⟨_,rfl⟩
          have HW2:Hid (wr.alloc (.cells #[.slice a0 n c0,.slice a1 q c1] 47)=W2):=hW2
          have hbW:Below wr.heap.size wr W2:=by
            rw [← hW2];exact (Below.refl _ _).alloc (Nat.le_refl _) _
          have bY:Wr W2 wr.heap.size 0 [.slice a0 n c0,.slice a1 q c1]:=by
            rw [← hW2];exact Sv.wr_new wr [.slice a0 n c0,.slice a1 q c1] 47
          have bx2:=bx.below hbW
          have hB2:=hB.trans (hbW.mono hB.size)
          have j0:=i0.below hbW
          have j1:=i1.below hbW
          have hblg:w.heap.size<wr.heap.size:=hbl
          obtain ⟨G,hG⟩:∃ G,wr.heap.size=G:=⟨_,rfl⟩
          have HBX2:Hid (type_of% bx2):=bx2
          have HB2:Hid (Below w.heap.size w W2):=hB2
          have HBY:Hid (Wr W2 G 0 [.slice a0 n c0,.slice a1 q c1]):=by rw [← hG];exact bY
          have HJ0:Hid (Ls.IsS W2 a0 t.ws):=j0
          have HJ1:Hid (Li.IsL W2 a1 t.vs):=j1
          have HBD:Hid (Below W2.heap.size W2 W2.drew):=(Below.refl W2.heap.size W2).drew
          have HG:Hid (wr.heap.size=G):=hG
          clear hW2 hbW bx2 hB2 j0 j1 i0 i1 bx hB bY hG
          go_wp2_with fail
          rw [HW2.out,HG.out]
          clear HW2 x0 x1 x2 x3 x4 x5 y0 y1
          obtain ⟨hgl,⟨g0,g1⟩,_⟩:=wr2 HBY.out
          by_cases q1:n≤40
          rotate_left
          · have q1' : (40 : Int) < n := by omega
            have HR:Hid (mok m=false):=HNO.out (by have:=HN.out;simp [kok,this,q1])
            go_quiet (fail)
            go_wp2
            go_ret
            exact ⟨ret_bool HR.out.symm,HB2.out.trans ((Tm.below_drewN' _ _).mono HB2.out.size)⟩
          have q1':¬ (40:Int)<n:=by omega
          by_cases q2:q=n
          rotate_left
          · have q2' : ((q : Int) != (n : Int)) = true := by simp; omega
            have HR:Hid (mok m=false):=HNO.out (by have e1:=HN.out;have e2:=HQ.out;simp [kok,e1,e2,q2])
            go_quiet (fail)
            go_wp2
            go_ret
            exact ⟨ret_bool HR.out.symm,HB2.out.trans ((Tm.below_drewN' _ _).mono HB2.out.size)⟩
          subst q2
          have q2':((q:Int) != (q:Int))=false:=by simp
          have hdl:(dictOf t.ws).length≤40:=by have:=dictOf_len t.ws;have:=HN.out;omega
          have HKK:Hid (kok t=(aok t.vs && (t.ws.all cwok && decide ((dictOf t.ws).length=q)))):=by
            show _=_
            have e1:=HN.out
            have e2:=HQ.out
            simp [kok,e1,e2,q1]
          obtain ⟨D,hD⟩:∃ D,(dictOf t.ws).length=D:=⟨_,rfl⟩
          have HDD:Hid ((dictOf t.ws).length=D):=hD
          rw [hD] at hdl HKK
          clear hD
          obtain ⟨qd,hqd⟩:∃ b,((D:Int) != (q:Int))=b:=⟨_,rfl⟩
          have HQD:Hid (((D:Int) != (q:Int))=qd):=hqd
          go_region_held3 (fun w'=>w'.cell? ⟨G,0,none⟩=some (.slice a0 q c0)∧w'.cell? ⟨G,1,none⟩=some (.slice a1 q c1)) (go_keep) (first
            | (go_at_call 57
               have hc:=Di.sdict W2.drew a0 c0 t.ws (HJ0.out.below HBD.out) (by have:=HN.out;omega)
               rw [HN.out] at hc
               refine hc.mono ?_
               rintro e V1 ⟨vd,rfl,od,hb⟩
               obtain ⟨ad,cd,rfl,_⟩:=od.iss
               rw [HDD.out]
               have HY:Hid (Below W2.heap.size W2 V1):=HBD.out.trans hb
               obtain ⟨_,⟨y0,y1⟩,_⟩:=wr2 (HBY.out.below HY.out)
               clear hb hc od))
          have hB3:=HB2.out.trans (HY.out.mono HB2.out.size)
          have bx3:=HBX2.out.below HY.out
          have HBX3:Hid (type_of% bx3):=bx3
          have HB3:Hid (Below w.heap.size w V1):=hB3
          have HL0:Hid (Ls.IsS V1 a0 t.ws):=HJ0.out.below HY.out
          have HL1:Hid (Li.IsL V1 a1 t.vs):=HJ1.out.below HY.out
          clear bx3 hB3 HY HBX2 HB2 HJ0 HJ1 HBD HBY hqd
          by_cases q3:D=q
          rotate_left
          · obtain rfl : qd = true := by rw [← HQD.out]; simp; omega
            have HR:Hid (mok m=false):=HNO.out (by rw [HKK.out,decide_eq_false q3];simp)
            go_wp2
            go_ret
            exact ⟨ret_bool HR.out.symm,HB3.out⟩
          obtain rfl:qd=false:=by rw [← HQD.out];simp;omega
          have HK2:Hid (kok t=(aok t.vs && t.ws.all cwok)):=by show _=_;rw [HKK.out,decide_eq_true q3];simp
          clear HQD HKK HDD q3 hdl
          go_wp2
          go_loopw [6] (fun i wr=>∃ p:Nat,p≤q∧i=.int .i64 p∧(∀ j (hj:j<t.ws.length) (hj':j<t.vs.length),j<p→cwok t.ws[j]=true∧fok t.vs[j]=true)∧wr=V1) (fun i _=>q-(intOf i).toNat)
          case atStart=>exact ⟨0,Nat.zero_le _,rfl,fun j hj hj' h=>by omega,rfl⟩
          case round =>
            obtain ⟨p,hp,rfl,hall,hwr⟩:=hrel
            subst hwr
            by_cases hlp:p<q
            · have hpw : p < t.ws.length := by rw [HN.out]; exact hlp
              have hpv:p<t.vs.length:=by rw [HQ.out];exact hlp
              rcases HL0.out with e0 | ⟨sb,so,rfl,hsb,hsc⟩
              · rw [e0] at hpw;simp at hpw
              rcases HL1.out with e0 | ⟨vb,vo,rfl,hvb,hvc⟩
              · rw [e0] at hpv;simp at hpv
              have d0:=hsc p hpw
              have d1:=hvc p hpv
              have hzp:=HZS.out p hpw
              have HNO1:Hid (cwok t.ws[p]=false→mok m=false):=fun e=>HNO.out (by rw [HK2.out,all_no hpw e];simp)
              have HNO2:Hid (fok t.vs[p]=false→mok m=false):=fun e=>HNO.out (by rw [HK2.out,show aok t.vs=false from all_no hpv e];rfl)
              have HYE2:Hid (cwok t.ws[p]=true→fok t.vs[p]=true→∀ j (hj:j<t.ws.length) (hj':j<t.vs.length),j<p+1→cwok t.ws[j]=true∧fok t.vs[j]=true):=fun e e2 j hj hj' h=>by
                by_cases e':j=p
                · subst e';exact ⟨e,e2⟩
                · exact hall j hj hj' (by omega)
              obtain ⟨s,hs⟩:∃ s,t.ws[p]=s:=⟨_,rfl⟩
              obtain ⟨x,hx⟩:∃ x,t.vs[p]=x:=⟨_,rfl⟩
              rw [hs] at d0 hzp HNO1 HYE2
              rw [hx] at d1 HNO2 HYE2
              clear hsc hvc hall hs hx
              go_wp2_with fail
              refine (Li.between_any _ _ _ _).mono ?_
              rintro e w' ⟨rfl,hw⟩
              subst w'
              rw [cwok_btw]
              cases hcw:cwok s with
              | false =>
                have HR:Hid (mok m=false):=HNO1.out hcw
                go_wp2
                go_ret
                exact ⟨ret_bool HR.out.symm,HB3.out⟩
              | true =>
                have HCW:Hid (cwok s=true):=hcw
                clear hcw
                go_wp2_with fail
                refine (Bw.sok _ _).mono ?_
                rintro e w' ⟨rfl,hw⟩
                subst w'
                cases hfx:fok x with
                | false =>
                  have HR:Hid (mok m=false):=HNO2.out hfx
                  go_wp2
                  go_ret
                  exact ⟨ret_bool HR.out.symm,HB3.out⟩
                | true =>
                  have HR:Hid (∀ j (hj:j<t.ws.length) (hj':j<t.vs.length),j<p+1→cwok t.ws[j]=true∧fok t.vs[j]=true):=HYE2.out HCW.out hfx
                  go_wp2
                  go_roundw
                  case rel=>exact ⟨p+1,by omega,by go_num,HR.out,by simp⟩
                  case measure=>simp [intOf];omega
            · have hkt:kok t=true:=by
                rw [HK2.out,all_yes (p:=cwok) (fun j hj=>(hall j hj (by have:=HN.out;have:=HQ.out;omega) (by have:=HN.out;omega)).1),show aok t.vs=true from all_yes (fun j hj=>(hall j (by have:=HN.out;have:=HQ.out;omega) hj (by have:=HQ.out;omega)).2)]
                rfl
              have HR:Hid (∀ j (hj:j<m.ks.length),j<k+1→kok m.ks[j]=true):=HYE.out hkt
              clear hall hkt
              go_wp2
              go_roundw
              case rel=>exact ⟨k+1,by omega,by go_num,HR.out,HBX3.out,HB3.out⟩
              case measure=>simp [intOf];omega
        · have HR : Hid (mok m = true) := by show _ = _; rw [HA.out]; exact all_yes (fun j hj => hall j hj (by omega))
          clear hall
          go_wp2
          go_ret
          exact ⟨ret_bool HR.out.symm,hB⟩
end Go.Proofs.YtaojoamldoofpaaGreatDoor.Md
namespace Go.Proofs.YtaojoamldoofpaaGreatDoor.Nu
set_option maxRecDepth 100000
open Go.RowKit
theorem hide {p:Prop} (h:p):Hid p:=h
theorem unhide {p:Prop} (h:Hid p):p:=h
def pre (u:Nat):List UInt8:=if u=0 then [] else Lib.decDigits u
theorem pre_step (u:Nat) (h:u≠0):pre u=pre (u / 10) ++ [UInt8.ofNat (48+u % 10)]:=by
 unfold pre
 rw [if_neg h,Lib.decDigits]
 by_cases h':u<10
 ·
  rw [dif_pos h',if_pos (by omega),Nat.mod_eq_of_lt h'];rfl
 ·
  rw [dif_neg h',if_neg (by omega)]
theorem Tryz.info8:(Tryz.prog.info? 5).map (fun i=>(i.zero,i.size,i.bytes))=some (some (.int .u8 0),1,1):=by kernel_rfl
set_option maxHeartbeats 400000 in
theorem snum_zero (w:World):Calls Tryz.prog 26 #[.int .i64 0] w fun e w'=>e=.returned (.string ⟨(Lib.itoa 0).toArray⟩)∧w'=w:=by
 go_enter Tryz.func26,Tryz.ntmps26
 go_wp2
 go_ret
 exact ⟨by rw [show Lib.itoa 0=[48] by decide +kernel];rfl,rfl⟩
theorem pre_len:∀ (k u:Nat),u<10 ^ k→(pre u).length≤k
  | 0, u, h => by have : u = 0 := by simpa using h
                  subst this;simp [pre]
  | k + 1, u, h => by
    by_cases h0:u=0
    · subst h0;simp [pre]
    · rw [pre_step u h0, List.length_append]
      have:=pre_len k (u / 10) (by rw [Nat.pow_succ] at h;omega)
      simp;omega
theorem len_of {n:Int} {a:Nat} {xs:List UInt8} (h:pre a ++ xs=pre n.natAbs) (h0 : -9223372036854775808≤n) (h1:n≤9223372036854775807):xs.length≤20:=by
 have:=pre_len 20 n.natAbs (by omega)
 rw [← h,List.length_append] at this
 omega
theorem dig_toNat (u:Nat):((UInt8.ofNat (48+u % 10)).toNat:Int)=48+((u % 10:Nat):Int):=by
 rw [UInt8.toNat_ofNat'];omega
theorem dec_len (u:Nat) (h:u<10 ^ 20):(Lib.decDigits u).length≤20:=by
 by_cases h0:u=0
 ·
  subst h0;decide +kernel
 ·
  have:=pre_len 20 u h
  unfold pre at this
  rwa [if_neg h0] at this
theorem itoa_len (n:Int) (h0 : -9223372036854775808≤n) (h1:n≤9223372036854775807):(Lib.itoa n).length≤21:=by
 unfold Lib.itoa
 split
 ·
  have:=dec_len n.natAbs (by omega)
  simp;omega
 ·
  have:=dec_len n.toNat (by omega)
  omega
theorem own_lit (w:World) (base:Nat) (hb:base≤w.heap.size) (v:Value) (T:TypeId):(w.alloc (.cells #[v] T)).ownsRow base T 1 (.slice (some ⟨w.heap.size,0,none⟩) 1 1) 1 [v] :=
 ⟨by simp,.inr ⟨w.heap.size,1,#[v],rfl,hb,heap_alloc_new w _,Nat.le_refl _,by decide,by simp,by simp⟩⟩
def bv (l:List UInt8):List Value:=l.map fun c=>.int .u8 (c.toNat:Int)
theorem bv_length (l:List UInt8):(bv l).length=l.length:=by simp [bv]
theorem bv_cell {w:World} {g:Nat} {xs:List UInt8} (hc:∀ j (hj:j<xs.length),w.cell? ⟨g,j,none⟩=some (.int .u8 (xs[j].toNat:Int))) :
  ∀ j u,(bv xs)[j]? = some u→w.cell? ((⟨g,0,none⟩:Addr).add j)=some u:=by
 intro j u hj
 rw [Go.WideShapes.add_plain,Nat.zero_add]
 have hl:j<xs.length:=by have:=(List.getElem?_eq_some_iff.1 hj).1;simpa [bv] using this
 rw [hc j hl]
 simp [bv,List.getElem?_eq_getElem hl] at hj
 rw [← hj]
theorem bv_one {xs:List UInt8} : ∀ u ∈ bv xs,u.oneCell'=true:=by
 intro u hu
 simp only [bv,List.mem_map] at hu
 obtain ⟨c,_,rfl⟩:=hu
 rfl
theorem own_bytes {w:World} {base:Nat} {T:TypeId} {v:Value} {n:Nat} {xs:List UInt8} (h:w.ownsRow base T 1 v n (bv xs)) (hn:0<n) :
  ∃ g cap,v=.slice (some ⟨g,0,none⟩) xs.length cap∧base≤g∧g<w.heap.size∧∀ j (hj:j<xs.length),w.cell? ⟨g,j,none⟩=some (.int .u8 (xs[j].toNat:Int)):=by
 obtain ⟨hl,h⟩:=h
 rw [bv_length] at hl
 rcases h with ⟨_,h0⟩ | ⟨g,cap,cur,rfl,hb,hh,hc,hm,hs,ht⟩
 ·
  omega
 ·
  obtain rfl:n=xs.length:=by omega
  refine ⟨g,cap,rfl,hb,?_,fun j hj=>?_⟩
  ·
   rcases Nat.lt_or_ge g w.heap.size with h | h
   ·
    exact h
   ·
    rw [Array.getElem?_eq_none h] at hh;cases hh
  ·
   have hj':(bv xs)[j]? = some (.int .u8 (xs[j].toNat:Int)):=by simp [bv,List.getElem?_eq_getElem hj]
   rw [← ht] at hj'
   rw [List.getElem?_take,if_pos (by omega)] at hj'
   simp only [World.cell?,hh]
   simpa using hj'
set_option maxHeartbeats 1000000 in
theorem snum_any (n:Int) (w:World) (h0 : -9223372036854775808≤n) (h1:n≤9223372036854775807) (hn:¬ n=0) :
  Calls Tryz.prog 26 #[.int .i64 n] w fun e w'=>e=.returned (.string ⟨(Lib.itoa n).toArray⟩)∧Below w.heap.size w w':=by
 obtain ⟨i0,hi,hz0,hz1,hz2⟩:=info_parts Tryz.info8
 have hn':(n == 0)=false:=by simpa using hn
 go_enter Tryz.func26,Tryz.ntmps26
 go_wp2
 go_loopw [3,4] (fun v m wr=>∃ (q:Int) (xs:List UInt8) (g cap:Nat),m=.int .i64 q∧-9223372036854775808≤q∧q≤9223372036854775807∧v=.slice (some ⟨g,0,none⟩) xs.length cap∧(∀ j (hj:j<xs.length),wr.cell? ⟨g,j,none⟩=some (.int .u8 (xs[j].toNat:Int)))∧Below w.heap.size w wr∧g<wr.heap.size∧pre q.natAbs ++ xs=pre n.natAbs)
  (fun _ m _=>(intOf m).natAbs)
 case atStart=>exact ⟨n,[],w.heap.size,0,rfl,h0,h1,rfl,fun j hj=>by simp at hj,(Below.refl _ _).alloc (Nat.le_refl _) _,by simp,by simp⟩
 case round =>
  obtain ⟨q,xs,g,cap,rfl,q0,q1,rfl,hc,hB,hg,hp⟩:=hrel
  have hl:=len_of hp h0 h1
  have HP:Hid (pre q.natAbs ++ xs=pre n.natAbs):=hp
  have HC:Hid (∀ j (hj:j<xs.length),wr.cell? ⟨g,j,none⟩=some (.int .u8 (xs[j].toNat:Int))):=hc
  clear hp hc
  have hsz:=hB.size
  by_cases hq:q=0
  ·
   subst hq
   have HX:Hid (xs=Lib.decDigits n.natAbs):=by have:=HP.out;simp [pre,hn] at this;exact this
   clear HP
   by_cases hneg:n<0
   ·
    go_wp2_with (at_builtin;refine wpList_append_own _ rfl _ _ 22 rfl w.heap.size 5 i0 (.int .u8 0) 1 1 Tryz.underlying22 hi hz0 hz1 hz2 rfl (by decide) _ _ _ rfl (own_lit wr w.heap.size hsz _ _) ⟨g,0,none⟩ xs.length cap (bv xs) rfl (by rw [bv_length];omega) (bv_cell (fun j hj=>by rw [World.cell?_alloc_lt _ _ _ hg];exact HC.out j hj)) bv_one (by unfold maxLen;omega) (by omega) (by simp;omega) ?_)
    ·
     intro v' w1 hown hgrow hnn
     clear hnn
     obtain ⟨g',cap',hv,hb',hlt',hc'⟩:=own_bytes (xs:=45 :: xs) hown (by omega)
     have hB1:Below w.heap.size w w1:=(hB.alloc hsz _).grown hgrow (by simp;omega) (fun k hk=>by cases hk;exact hsz)
     clear hown hgrow HC
     rw [hv]
     have hcv:=run_convert_bytes_back (P:=Tryz.prog) w1 22 9 5 ⟨g',0,none⟩ cap' (45 :: xs) Tryz.underlying22 Tryz.underlying5 Tryz.underlying9 (fun j hj=>by rw [Go.WideShapes.add_plain,Nat.zero_add];exact hc' j hj)
     simp only [List.length_cons] at hcv ⊢
     clear hc' hv
     go_wp2
     go_ret
     refine ⟨?_,hB1⟩
     rw [HX.out]
     unfold Lib.itoa
     rw [if_pos hneg]
     rfl
   ·
    have hcv:=run_convert_bytes_back (P:=Tryz.prog) wr 22 9 5 ⟨g,0,none⟩ cap xs Tryz.underlying22 Tryz.underlying5 Tryz.underlying9 (fun j hj=>by rw [Go.WideShapes.add_plain,Nat.zero_add];exact HC.out j hj)
    go_wp2
    go_ret
    refine ⟨?_,hB⟩
    rw [HX.out]
    unfold Lib.itoa
    rw [if_neg (by omega),show n.toNat=n.natAbs by omega]
    rfl
  ·
   obtain ⟨r,hr⟩:∃ r,q.tmod 10=r:=⟨_,rfl⟩
   obtain ⟨t,ht⟩:∃ t,q.tdiv 10=t:=⟨_,rfl⟩
   have HR:Hid (r.natAbs=q.natAbs % 10):=by show _=_;rw [← hr,Int.natAbs_tmod];rfl
   have HT:Hid (t.natAbs=q.natAbs / 10):=by show _=_;rw [← ht,Int.natAbs_tdiv];rfl
   have r0 : -9≤r:=by have:=HR.out;omega
   have r1:r≤9:=by have:=HR.out;omega
   have t0 : -922337203685477580≤t:=by have:=HT.out;omega
   have t1:t≤922337203685477580:=by have:=HT.out;omega
   by_cases hneg:r<0
   ·
    go_wp2_with (at_builtin;refine wpList_append_own _ rfl _ _ 22 rfl w.heap.size 5 i0 (.int .u8 0) 1 1 Tryz.underlying22 hi hz0 hz1 hz2 rfl (by decide) _ _ _ rfl (own_lit wr w.heap.size hsz _ _) ⟨g,0,none⟩ xs.length cap (bv xs) rfl (by rw [bv_length];omega) (bv_cell (fun j hj=>by rw [World.cell?_alloc_lt _ _ _ hg];exact HC.out j hj)) bv_one (by unfold maxLen;omega) (by omega) (by simp;omega) ?_)
    intro v' w1 hown hgrow hnn
    clear hnn
    have he:48+-r=((UInt8.ofNat (48+q.natAbs % 10)).toNat:Int):=by rw [dig_toNat];have:=HR.out;omega
    rw [he] at hown
    obtain ⟨g',cap',hv,hb',hlt',hc'⟩:=own_bytes (xs:=UInt8.ofNat (48+q.natAbs % 10) :: xs) hown (by omega)
    have hB1:Below w.heap.size w w1:=(hB.alloc hsz _).grown hgrow (by simp;omega) (fun k hk=>by cases hk;exact hsz)
    have HC':=hide hc'
    clear hown hgrow HC hc' he
    have HP':Hid (pre t.natAbs ++ (UInt8.ofNat (48+q.natAbs % 10) :: xs)=pre n.natAbs):=by
     show _=_
     rw [← HP.out,pre_step q.natAbs (by omega),HT.out]
     simp
    rw [hv]
    have Hv:=hide hv
    clear hv HP
    go_wp2
    go_roundw
    case rel=>exact ⟨t,_,g',cap',rfl,by omega,by omega,rfl,unhide HC',hB1,hlt',HP'.out⟩
    case measure=>simp [intOf];have:=HT.out;omega
   ·
    go_wp2_with (at_builtin;refine wpList_append_own _ rfl _ _ 22 rfl w.heap.size 5 i0 (.int .u8 0) 1 1 Tryz.underlying22 hi hz0 hz1 hz2 rfl (by decide) _ _ _ rfl (own_lit wr w.heap.size hsz _ _) ⟨g,0,none⟩ xs.length cap (bv xs) rfl (by rw [bv_length];omega) (bv_cell (fun j hj=>by rw [World.cell?_alloc_lt _ _ _ hg];exact HC.out j hj)) bv_one (by unfold maxLen;omega) (by omega) (by simp;omega) ?_)
    intro v' w1 hown hgrow hnn
    clear hnn
    have he:48+r=((UInt8.ofNat (48+q.natAbs % 10)).toNat:Int):=by rw [dig_toNat];have:=HR.out;omega
    rw [he] at hown
    obtain ⟨g',cap',hv,hb',hlt',hc'⟩:=own_bytes (xs:=UInt8.ofNat (48+q.natAbs % 10) :: xs) hown (by omega)
    have hB1:Below w.heap.size w w1:=(hB.alloc hsz _).grown hgrow (by simp;omega) (fun k hk=>by cases hk;exact hsz)
    have HC':=hide hc'
    clear hown hgrow HC hc' he
    have HP':Hid (pre t.natAbs ++ (UInt8.ofNat (48+q.natAbs % 10) :: xs)=pre n.natAbs):=by
     show _=_
     rw [← HP.out,pre_step q.natAbs (by omega),HT.out]
     simp
    rw [hv]
    have Hv:=hide hv
    clear hv HP
    go_wp2
    go_roundw
    case rel=>exact ⟨t,_,g',cap',rfl,by omega,by omega,rfl,unhide HC',hB1,hlt',HP'.out⟩
    case measure=>simp [intOf];have:=HT.out;omega
theorem snum (n:Int) (w:World) (h0 : -9223372036854775808≤n) (h1:n≤9223372036854775807) :
  Calls Tryz.prog 26 #[.int .i64 n] w fun e w'=>e=.returned (.string ⟨(Lib.itoa n).toArray⟩)∧Below w.heap.size w w':=by
 by_cases h:n=0
 ·
  subst h
  refine (snum_zero w).mono ?_
  rintro e w' ⟨rfl,rfl⟩
  exact ⟨rfl,Below.refl _ _⟩
 ·
  exact snum_any n w h0 h1 h
theorem below_grow (w:World) (k:Nat) (os:Array Obj):Below w.heap.size w (Sort.grow (w.drewN k) os) :=
 ⟨rfl,rfl,rfl,by simp [Sort.grow],fun i hi=>by simp only [Sort.grow];rw [Array.getElem?_append_left (by exact hi)];rfl⟩
def Tab (w : World) : Prop := Lib.TabIs Tryz.prog w "internal/strconv.uint64pow10" .u64 Lib.pow10Tab
theorem gTab : Tryz.prog.globalNamed "internal/strconv.uint64pow10" = some 5 := by kernel_rfl
theorem tTab:(Tryz.prog.globals[(5:Nat)]?).map (·.type)=some 215:=by kernel_rfl
theorem Tab.lt {w:World} (h:Tab w):5<w.heap.size:=World.block_lt_of_cell? w _ (Lib.TabIs.cell h gTab 0 (by decide))
theorem Tab.below {w w':World} (h:Tab w) (hb:Below w.heap.size w w'):Tab w':=var?_below hb gTab h.lt h
set_option maxHeartbeats 400000 in
theorem inum (n:Int) (w:World) (h0 : -9223372036854775808≤n) (h1:n≤9223372036854775807) (hT:Tab w) :
  Calls Tryz.prog 52 #[.int .i64 n] w fun e w'=>e=.returned (.string ⟨(Lib.itoa n).toArray⟩)∧Below w.heap.size w w':=by
 go_enter Tryz.func52,Tryz.ntmps52
 go_wp2_with fail
 refine (Tryz.strconv_Itoa n h0 h1 w hT).mono ?_
 rintro e w' ⟨rfl,k,os,rfl⟩
 go_wp2
 go_ret
 exact ⟨rfl,below_grow _ _ _⟩
end Go.Proofs.YtaojoamldoofpaaGreatDoor.Nu
