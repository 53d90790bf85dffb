/-
  Contracts that the proof leans on, put together in the order in which they build.
-/
import Derived.Test.YtaojoamldoofpaaGreatDoorPart15
import Derived.Test.YtaojoamldoofpaaGreatDoorPart8
import Derived.Deep.RegionWith
import Derived.Deep.Cut
import Derived.Deep.CutRange
import Derived.Deep.AppendLies
import Derived.Deep.RegionLaw
import Derived.Test.YtaojoamldoofpaaGreatDoorPart2
import Derived.Test.YtaojoamldoofpaaGreatDoorPart6
import Derived.Deep.RegionHeldLaw
import Derived.Laws.Cover3
set_option linter.unusedVariables false
namespace Go.Proofs.YtaojoamldoofpaaGreatDoor.Db
set_option maxRecDepth 100000
open Go.RowKit
open Tb Tk
open Li (Own info_int)
set_option maxHeartbeats 1000000 in
theorem size_any (w:World) (b:Nat) (K:Int) (hc:Cu.Cur w b K) (hK:K≤10000000000000000) (n:Int) (hn:1≤n) (hn':n≤1000000) :
  Calls Tryz.prog 70 #[.pointer (some ⟨b,0,none⟩),.int .i64 n] w fun e w'=>∃ x:Int,e=.returned (.int .i64 x)∧0≤x∧x≤n∧w.grownBy w' (some b)∧w'.heap.size=w.heap.size∧Cu.Cur w' b (K+1):=by
 have hc':=hc
 obtain ⟨a,len,cap,k,s,hlt,c0,c1,c2,f0,f1,f2,g1,_⟩:=hc'
 by_cases hk:n<1+(len:Int) / 8
 ·
  go_enter Tryz.func70,Tryz.ntmps70
  go_wp2_with fail
  refine (Cu.pick_any _ _ _ hc (by omega) _ (by omega)).mono ?_
  rintro e w1 ⟨x,rfl,x0,x1,hg1,hz1,hc1⟩
  go_wp2
  go_ret
  exact ⟨x,rfl,x0,by omega,hg1,hz1,hc1⟩
 ·
  go_enter Tryz.func70,Tryz.ntmps70
  go_wp2_with fail
  refine (Cu.pick_any _ _ _ hc (by omega) _ (by omega)).mono ?_
  rintro e w1 ⟨x,rfl,x0,x1,hg1,hz1,hc1⟩
  go_wp2
  go_ret
  exact ⟨x,rfl,x0,by omega,hg1,hz1,hc1⟩
theorem pick_pos (w:World) (b:Nat) (K:Int) (hc:Cu.Cur w b K) (hK:K≤1000000000000000000) (n:Int) (h1:1≤n) (hn':n≤1000000000000000000) :
  Calls Tryz.prog 20 #[.pointer (some ⟨b,0,none⟩),.int .i64 n] w fun e w'=>∃ x:Int,e=.returned (.int .i64 x)∧0≤x∧x<n∧w.grownBy w' (some b)∧w'.heap.size=w.heap.size∧Cu.Cur w' b (K+1):=by
 by_cases hn:n<2
 ·
  refine (Cu.pick_lt w b n hn).mono ?_
  rintro e w' ⟨rfl,rfl⟩
  exact ⟨0,rfl,by omega,by omega,Cu.grown_refl _ _,rfl,hc.mono (by omega)⟩
 ·
  refine (Cu.pick_any w b K hc hK n hn').mono ?_
  rintro e w' ⟨x,rfl,x0,x1,r⟩
  exact ⟨x,rfl,x0,x1 (by omega),r⟩
theorem grown_of_below {w w1 w2:World} {b:Nat} (h:w.grownBy w1 (some b)) (hB:Below w1.heap.size w1 w2):w.grownBy w2 (some b) :=
 ⟨hB.os.trans h.os,hB.tape.trans h.tape,hB.output.trans h.output,Nat.le_trans h.size hB.size,fun k hk hr=>(hB.block k (Nat.lt_of_lt_of_le hk h.size)).trans (h.block k hk hr)⟩
theorem own_cur {w w1:World} {b B:Nat} {v:Value} {xs:List Int} (h:Own w B v xs) (hg:w.grownBy w1 (some b)) (hb:b<B):Own w1 B v xs:=by
 refine h.kept hg ?_
 cases e:v.ownBlock with
 | none=>exact .inl rfl
 | some k=>exact .inr (by have:=(h.ge k e).1;simp;omega)
theorem grown_new {w w1 w2:World} {b:Nat} {r:Option Nat} (h:w.grownBy w1 (some b)) (h':w1.grownBy w2 r) (hr:∀ k,r=some k→w.heap.size≤k):w.grownBy w2 (some b) :=
 ⟨h'.os.trans h.os,h'.tape.trans h.tape,h'.output.trans h.output,Nat.le_trans h.size h'.size,fun k hk hne=>(h'.block k (Nat.lt_of_lt_of_le hk h.size) (fun e=>by have:=hr k e.symm;omega)).trans (h.block k hk hne)⟩
theorem cur_new {w w1:World} {b:Nat} {K:Int} {r:Option Nat} (h:Cu.Cur w b K) (h':w.grownBy w1 r) (hr:∀ k,r=some k→b<k):Cu.Cur w1 b K :=
 h.keptB h'.size (fun k hk=>h'.block k (by have:=h.lt;omega) (fun e=>by have:=hr k e.symm;omega))
theorem one_cell (w:World) (T:TypeId) (x:Int):∀ j u,([Value.int .i64 x]:List Value)[j]? = some u→(w.alloc (.cells #[.int .i64 x] T)).cell? ((⟨w.heap.size,0,none⟩:Addr).add j)=some u:=by
 intro j u hj
 match j,hj with
 | 0,hj=>simp at hj;subst hj;simp [Addr.add]
theorem one_one (x:Int):∀ u ∈ ([Value.int .i64 x]:List Value),u.oneCell'=true:=by
 intro u hu;simp at hu;subst hu;rfl
theorem own_snoc {w:World} {base n:Nat} {v:Value} {l:List Int} {x:Int} (hn:l.length=n) (h:w.ownsRow base 3 1 v (n+1) (Li.iv l ++ [.int .i64 x])):Li.Own w base v (l ++ [x]):=by
 subst hn
 unfold Li.Own
 rw [← Li.iv_append,List.length_append]
 exact h
theorem sone_cell (w:World) (T:TypeId) (x:ByteArray):∀ j u,([Value.string x]:List Value)[j]? = some u→(w.alloc (.cells #[.string x] T)).cell? ((⟨w.heap.size,0,none⟩:Addr).add j)=some u:=by
 intro j u hj
 match j,hj with
 | 0,hj=>simp at hj;subst hj;simp [Addr.add]
theorem sone_one (x:ByteArray):∀ u ∈ ([Value.string x]:List Value),u.oneCell'=true:=by
 intro u hu;simp at hu;subst hu;rfl
theorem sown_snoc {w:World} {base n:Nat} {v:Value} {l:List ByteArray} {x:ByteArray} (hn:l.length=n) (h:w.ownsRow base 9 1 v (n+1) (Ls.sv l ++ [.string x])):Ls.Own w base v (l ++ [x]):=by
 subst hn
 unfold Ls.Own
 rw [← Ls.sv_append,List.length_append]
 exact h
theorem box3_cur {w w1:World} {x b:Nat} {v0 v1 v2:Value} (h:Box3 w x v0 v1 v2) (hg:w.grownBy w1 (some b)) (hne:¬ x=b):Box3 w1 x v0 v1 v2 :=
 h.keptAt hg.size (hg.block x h.1 (by simpa using hne))
def Box2F (w:World) (b:Nat) (v0 v1:Value):Prop:=Box2 w b v0 v1∧w.frozen? ⟨b,0,none⟩=false∧w.frozen? ⟨b,1,none⟩=false
theorem box2_new (w:World) (v0 v1:Value) (T:TypeId):Box2F (w.alloc (.cells #[v0,v1] T)) w.heap.size v0 v1 :=
 ⟨⟨by simp,by simp,by simp⟩,by simp,by simp⟩
theorem box2_cur {w w1:World} {x b:Nat} {v0 v1:Value} (h:Box2F w x v0 v1) (hg:w.grownBy w1 (some b)) (hne:¬ x=b):Box2F w1 x v0 v1:=by
 obtain ⟨⟨hlt,c0,c1⟩,f0,f1⟩:=h
 have e:=hg.block x hlt (by simpa using hne)
 exact ⟨⟨Nat.lt_of_lt_of_le hlt hg.size,by rw [World.cell?_of_block (w:=w) (a:=⟨x,0,none⟩) e];exact c0,by rw [World.cell?_of_block (w:=w) (a:=⟨x,1,none⟩) e];exact c1⟩,by rw [World.frozen?_of_block (w:=w) (a:=⟨x,0,none⟩) e];exact f0,by rw [World.frozen?_of_block (w:=w) (a:=⟨x,1,none⟩) e];exact f1⟩
theorem _root_.Go.Proofs.YtaojoamldoofpaaGreatDoor.Tk.Box2.keptC {w w1:World} {x b:Nat} {v0 v1:Value} (h:Box2 w x v0 v1) (hg:w.grownBy w1 (some b)) (hne:¬ x=b):Box2 w1 x v0 v1:=by
 obtain ⟨hlt,c0,c1⟩:=h
 have e:=hg.block x hlt (by simpa using hne)
 exact ⟨Nat.lt_of_lt_of_le hlt hg.size,by rw [World.cell?_of_block (w:=w) (a:=⟨x,0,none⟩) e];exact c0,by rw [World.cell?_of_block (w:=w) (a:=⟨x,1,none⟩) e];exact c1⟩
theorem cur_set {w:World} {b g o:Nat} {K:Int} {v:Value} (h:Cu.Cur w b K) (hb:b<g):Cu.Cur (w.setCell ⟨g,o,none⟩ v) b K :=
 cur_new h (Li.grown_set _ _ _ _) (fun k hk=>by cases hk;exact hb)
theorem grown_setN {w w1:World} {b g o:Nat} {v:Value} (h:w.grownBy w1 (some b)) (hg:w.heap.size≤g):w.grownBy (w1.setCell ⟨g,o,none⟩ v) (some b) :=
 grown_new h (Li.grown_set _ _ _ _) (fun k hk=>by cases hk;exact hg)
set_option maxHeartbeats 1000000 in
theorem schema_any (w:World) (b:Nat) (K:Int) (hc:Cu.Cur w b K) (hK:K≤10000000000000000) :
  Calls Tryz.prog 69 #[.pointer (some ⟨b,0,none⟩)] w fun e w'=>∃ x y:Int,e=.returned (.agg #[.int .i64 x,.int .i64 y])∧(0≤x∧x<4∧0≤y∧y<3)∧w.grownBy w' (some b)∧Cu.Cur w' b (K+2):=by
 have hbw:=hc.lt
 have bx:=box2_new w (.int .i64 0) (.int .i64 0) 25
 go_enter Tryz.func69,Tryz.ntmps69
 go_wp2_with fail
 refine (Cu.pick_any _ _ _ (hc.alloc _) (by omega) _ (by omega)).mono ?_
 rintro e w1 ⟨x,rfl,x0,x1,hg1,hz1,hc1⟩
 have bx:=box2_cur bx hg1 (by omega)
 have hg:=Cu.grown_trans (World.grownBy_alloc w _ (some b)) hg1
 have x2:x<4:=x1 (by omega)
 clear hz1 x1 hg1 hc
 go_wp2_with fail
 refine (Cu.pick_any _ _ _ hc1 (by omega) _ (by omega)).mono ?_
 rintro e w2 ⟨y,rfl,y0,y1,hg2,hz2,hc2⟩
 have bx:=box2_cur bx hg2 (by omega)
 have hg:=Cu.grown_trans hg hg2
 have y2:y<3:=y1 (by omega)
 clear hz2 y1 hg2 hc1
 obtain ⟨⟨_,c0,c1⟩,f0,f1⟩:=bx
 go_wp2
 refine bodyPost_ret (v:=.agg #[.int .i64 x,.int .i64 y]) (by rw [results_cell rfl];go_simp) rfl ⟨x,y,rfl,by omega,?_,?_⟩
 ·
  exact grown_setN (grown_setN hg (Nat.le_refl _)) (Nat.le_refl _)
 ·
  exact (cur_set (cur_set hc2 hbw) hbw).mono (by omega)
theorem lets_le3 (ws:List ByteArray) (h:∀ s ∈ ws,s.size≤3):lets ws≤3 * ws.length:=by
 induction ws with
 | nil=>simp [lets]
 | cons s ws ih =>
  have h1:=h s (by simp)
  have h2:=ih (fun t ht=>h t (by simp [ht]))
  simp only [lets,List.length_cons]
  omega
theorem one_at {w:World} {T:TypeId} {x:Int} {H:Nat} (h:w.heap.size=H):∀ j u,([Value.int .i64 x]:List Value)[j]? = some u→(w.alloc (.cells #[.int .i64 x] T)).cell? ((⟨H,0,none⟩:Addr).add j)=some u:=by
 subst h;exact one_cell _ _ _
theorem sone_at {w:World} {T:TypeId} {x:ByteArray} {H:Nat} (h:w.heap.size=H):∀ j u,([Value.string x]:List Value)[j]? = some u→(w.alloc (.cells #[.string x] T)).cell? ((⟨H,0,none⟩:Addr).add j)=some u:=by
 subst h;exact sone_cell _ _ _
structure St (w:World) (b x:Nat) (K:Int) (n c:Int) (u0 u1:Value) (lab:Int) (W:World):Prop where
 bx:Box3 W x u0 u1 (.int .i64 lab)
 bs:Box2 W w.heap.size (.int .i64 n) (.int .i64 c)
 br:Box3 W (w.heap.size+1) (.slice none 0 0) (.slice none 0 0) (.int .i64 0)
 gr:w.grownBy W (some b)
 cu:Cu.Cur W b K
theorem box2_alloc {w:World} {b:Nat} {v0 v1:Value} (h:Box2 w b v0 v1) (o:Obj):Box2 (w.alloc o) b v0 v1:=h.below ((Below.refl _ _).alloc (Nat.le_refl _) _)
theorem St.alloc {w W:World} {b x:Nat} {K n c lab:Int} {u0 u1:Value} (h:St w b x K n c u0 u1 lab W) (o:Obj):St w b x K n c u0 u1 lab (W.alloc o) :=
 ⟨h.bx.alloc _,box2_alloc h.bs _,h.br.alloc _,Cu.grown_alloc h.gr _,h.cu.alloc _⟩
theorem St.drew {w W:World} {b x:Nat} {K n c lab:Int} {u0 u1:Value} (h:St w b x K n c u0 u1 lab W):St w b x K n c u0 u1 lab W.drew :=
 ⟨h.bx,h.bs,h.br,Cu.grown_drew h.gr,h.cu.drew⟩
theorem St.pick {w W W':World} {b x:Nat} {K K' n c lab:Int} {u0 u1:Value} (h:St w b x K n c u0 u1 lab W) (hb:b<w.heap.size) (hx:b<x) (hg:W.grownBy W' (some b)) (hc:Cu.Cur W' b K'):St w b x K' n c u0 u1 lab W' :=
 ⟨box3_cur h.bx hg (by omega),h.bs.keptC hg (by omega),box3_cur h.br hg (by omega),Cu.grown_trans h.gr hg,hc⟩
theorem St.grow {w W W':World} {b x:Nat} {K n c lab:Int} {u0 u1:Value} {r:Option Nat} (h:St w b x K n c u0 u1 lab W) (hb:b<w.heap.size) (hx:w.heap.size+3≤x) (hg:W.grownBy W' r) (hr:∀ k,r=some k→x+1≤k):St w b x K n c u0 u1 lab W':=by
 have ne:∀ k,k≤x→some k≠r:=fun k hk e=>by have:=hr k e.symm;omega
 refine ⟨h.bx.keptAt hg.size (hg.block x h.bx.1 (ne _ (Nat.le_refl _))),?_,h.br.keptAt hg.size (hg.block _ h.br.1 (ne _ (by omega))),grown_new h.gr hg (fun k hk=>by have:=hr k hk;omega),cur_new h.cu hg (fun k hk=>by have:=hr k hk;omega)⟩
 obtain ⟨hlt,c0,c1⟩:=h.bs
 have e:=hg.block _ hlt (ne _ (by omega))
 exact ⟨Nat.lt_of_lt_of_le hlt hg.size,by rw [World.cell?_of_block (w:=W) (a:=⟨w.heap.size,0,none⟩) e];exact c0,by rw [World.cell?_of_block (w:=W) (a:=⟨w.heap.size,1,none⟩) e];exact c1⟩
theorem St.set0 {w W:World} {b x:Nat} {K n c lab:Int} {u0 u1:Value} (h:St w b x K n c u0 u1 lab W) (hb:b<w.heap.size) (hx:w.heap.size+3≤x) (v:Value):St w b x K n c v u1 lab (W.setCell ⟨x,0,none⟩ v):=by
 refine ⟨h.bx.set0 v,?_,h.br.setOther (by omega),grown_setN h.gr (by omega),cur_set h.cu (by omega)⟩
 obtain ⟨hlt,c0,c1⟩:=h.bs
 exact ⟨by simpa [World.setCell] using hlt,by rw [World.cell?_setCell_other _ _ _ _ (by first | (simp;done) | (simp;omega))];exact c0,by rw [World.cell?_setCell_other _ _ _ _ (by first | (simp;done) | (simp;omega))];exact c1⟩
theorem St.set1 {w W:World} {b x:Nat} {K n c lab:Int} {u0 u1:Value} (h:St w b x K n c u0 u1 lab W) (hb:b<w.heap.size) (hx:w.heap.size+3≤x) (v:Value):St w b x K n c u0 v lab (W.setCell ⟨x,1,none⟩ v):=by
 refine ⟨h.bx.set1 v,?_,h.br.setOther (by omega),grown_setN h.gr (by omega),cur_set h.cu (by omega)⟩
 obtain ⟨hlt,c0,c1⟩:=h.bs
 exact ⟨by simpa [World.setCell] using hlt,by rw [World.cell?_setCell_other _ _ _ _ (by first | (simp;done) | (simp;omega))];exact c0,by rw [World.cell?_setCell_other _ _ _ _ (by first | (simp;done) | (simp;omega))];exact c1⟩
theorem tabI (l:List Value) (lo hi:Int) (hall:l.all (Cu.okv lo hi)=true) (y:Int) (h0:0≤y) (h1:y<(l.length:Int)):∃ v:Int,(∀ h,l[y.toNat]'h=.int .i64 v)∧lo≤v∧v≤hi:=by
 have hlt:y.toNat<l.length:=by omega
 obtain ⟨v,hv,hb⟩:=Cu.okv_int ((List.all_eq_true.1 hall) l[y.toNat] (by simp))
 exact ⟨v,fun _=>hv,hb⟩
theorem kept {w w':World} {b:Nat} (h:w.grownBy w' (some b)):∀ blk o,b<blk→blk<w.heap.size→w'.cell? ⟨blk,o,none⟩=w.cell? ⟨blk,o,none⟩ :=
 fun blk o h1 h2=>World.cell?_of_block (a:=⟨blk,o,none⟩) (h.block blk h2 (fun e=>by cases e;omega))
def okS:Value→Bool
 | .string s=>decide (s.size≤3)
 | _=>false
theorem okS_str {v:Value} (h:okS v=true):∃ s:ByteArray,v=.string s∧s.size≤3:=by
 cases v <;> simp [okS] at h
 exact ⟨_,rfl,h⟩
theorem tabS (l:List Value) (hall:l.all okS=true) (y:Int) (h0:0≤y) (h1:y<(l.length:Int)):∃ v:ByteArray,(∀ h,l[y.toNat]'h=.string v)∧v.size≤3:=by
 have hlt:y.toNat<l.length:=by omega
 obtain ⟨v,hv,hb⟩:=okS_str ((List.all_eq_true.1 hall) l[y.toNat] (by simp))
 exact ⟨v,fun _=>hv,hb⟩
theorem sown_cur {w w1:World} {b B:Nat} {v:Value} {xs:List ByteArray} (h:Ls.Own w B v xs) (hg:w.grownBy w1 (some b)) (hb:b<B):Ls.Own w1 B v xs:=sown_off h hg hb
theorem apart_app {u0 u1:Value} {g H n cap:Nat} (h:apart u0 u1) (hp:u1.ownBlock=some g ∨ g=H) (hl:∀ k,u0.ownBlock=some k→k<H):apart u0 (.slice (some ⟨g,0,none⟩) n cap):=by
 rcases h with h | h
 ·
  exact .inl h
 ·
  refine .inr fun e=>?_
  have e':u0.ownBlock=some g:=e
  rcases hp with hp | hp
  ·
   exact h (by rw [e',hp])
  ·
   have:=hl g e';omega
set_option maxHeartbeats 4000000 in
theorem sample_any (w:World) (b:Nat) (K:Int) (hc:Cu.Cur w b K) (hK:K≤1000000000000000) (n c:Int) :
    Calls Tryz.prog 71 #[.pointer (some ⟨b,0,none⟩),.agg #[.int .i64 n,.int .i64 c]] w fun e w'=>∃ u0 u1,∃ r:Row,e=.returned (.agg #[u0,u1,.int .i64 r.label])∧(Row.sz r≤30∧Row.fits r)∧Li.Own w' w.heap.size u0 r.nums∧Ls.Own w' w.heap.size u1 r.cats∧apart u0 u1∧w.grownBy w' (some b)∧Cu.Cur w' b (K+20):=by
  obtain ⟨i0,hi,hz0,hz1,hz2⟩:=info_parts info_int
  obtain ⟨j0,hj,jz0,jz1,jz2⟩:=info_parts Ls.info_str
  have hbw:=hc.lt
  go_enter Tryz.func71,Tryz.ntmps71
  go_wp2_with fail
  obtain ⟨W,hW,hsz,hBW,bs,br⟩:=boxes23 w (.int .i64 n) (.int .i64 c) (.slice none 0 0) (.slice none 0 0) (.int .i64 0) 25 114
  rw [hW]
  clear hW
  have hcW:Cu.Cur W b K:=hc.kept hBW.size (fun k hk=>hBW.block k hk)
  have hbW:b<W.heap.size:=by omega
  refine (Cu.pick_any _ _ _ (hcW.alloc _) (by omega) _ (by omega)).mono ?_
  rintro e w1 ⟨z,rfl,z0,z1,hg1,hq1,hc1⟩
  have z2:z<8:=z1 (by omega)
  obtain ⟨v,hv,v0,v1⟩:=Cu.tab _ _ (-1000000) 1000000 hg1 hbW (by simp [Cu.okv]) z z0 z2
  rw [hsz] at hv
  have bs:Box2 w1 w.heap.size _ _:=(bs.below ((Below.refl _ _).alloc (Nat.le_refl _) _)).keptC hg1 (by omega)
  have br:Box3 w1 (w.heap.size+1) _ _ _:=box3_cur (br.alloc _) hg1 (by omega)
  have hg:w.grownBy w1 (some b):=Cu.grown_trans (Cu.grown_trans (grown_of_below (Cu.grown_refl _ _) hBW) (World.grownBy_alloc _ _ _)) hg1
  have hs1:w.heap.size+3≤w1.heap.size:=by rw [hq1];simp;omega
  clear hg1 z1 hq1 hcW hBW hc
  have st:St w b w1.heap.size (K+1) n c (.slice none 0 0) (.slice none 0 0) v (w1.alloc (.cells #[.slice none 0 0,.slice none 0 0,.int .i64 v] 114)) :=
    ⟨box3_new _ _ _ _ _,box2_alloc bs _,br.alloc _,Cu.grown_alloc hg _,hc1.alloc _⟩
  obtain ⟨x,hx⟩:∃ x,w1.heap.size=x:=⟨_,rfl⟩
  go_wp2
  rw [hx] at st
  obtain ⟨w2,hw2⟩:∃ w2,w1.alloc (.cells #[.slice none 0 0,.slice none 0 0,.int .i64 v] 114)=w2:=⟨_,rfl⟩
  rw [hw2] at st ⊢
  have hxs:w.heap.size+3≤x:=by omega
  clear hw2 hc1 hg bs br hs1 hx hv v0 v1 z0 z2 hsz hbW
  go_loopw [6] (fun i wr=>∃ k:Nat,k≤4∧i=.int .i64 k∧∃ u0,∃ l:List Int,l.length=k∧St w b x (K+1+2 * k) n c u0 (.slice none 0 0) v wr∧Li.Own wr (x+1) u0 l) (fun i _=>4-(intOf i).toNat)
  case atStart=>exact ⟨0,Nat.zero_le _,rfl,_,[],rfl,by simpa using st,Li.Own.nil _ _⟩
  case round =>
    obtain ⟨k,hk,rfl,u0,l,hll,st,ho⟩:=hrel
    have HL:Hid (l.length=k):=hll
    clear hll
    obtain ⟨⟨hxl,⟨x0,x1,x2⟩,xf0,xf1,xf2⟩,⟨_,s0,s1⟩,_,_,cu⟩:=id st
    by_cases h12:(k:Int)<n∧k<4
    · obtain ⟨h1, h2⟩ := h12
      go_wp2_with fail
      go_region_law (first
        | (refine step_append_lies _ rfl _ _ 45 rfl (x + 1) 3 i0 (.int .i64 0) 1 8 Tryz.underlying45 hi hz0 hz1 hz2 rfl (by decide) u0 l.length (Li.iv l) rfl (by first | exact World.ownsRow.alloc ho4 _ | exact World.ownsRow.alloc (World.ownsRow.alloc ho4 _) _) _ 1 1 [.int .i64 q] rfl rfl (one_at (by simp)) (one_one _) (by decide) (by have := HL.out; unfold maxLen; omega) (by have := HL.out; omega) (by have := st4.bx.1; simp; omega) _ rfl ?_
           intro g cap w5 hown hgrow hpos hglt
           have st5:=St.grow (by first | exact st4.alloc _ | exact (st4.alloc _).alloc _) hbw hxs hgrow (fun k hk=>(ho4.ge k hk).1)
           obtain ⟨⟨hxl5,⟨y0,y1,y2⟩,yf0,yf1,yf2⟩,_,_,_,_⟩:=id st5)
        | (go_simp
           go_wp2_with (first
            | (go_at_call 76
               refine (Cu.fix_any _ _ _ cu.drew (by omega)).mono ?_
               rintro e w3 ⟨f,rfl,fb0,fb1,hg3,hc3⟩
               have hb3:b<w3.heap.size:=hc3.lt
               have st3:=St.pick st.drew hbw (by omega) hg3 hc3
               have ho3:Li.Own w3 (x+1) u0 l:=own_cur (w:=World.drew _) ho hg3 (by omega)
               obtain ⟨⟨hxl3,⟨q0,q1,q2⟩,_,_,_⟩,_,_,_,_⟩:=id st3
               clear hg3)
            | (go_at_call 20
               refine (Cu.pick_any _ _ _ (by first | exact hc3 | exact hc3.alloc _) (by omega) _ (by omega)).mono ?_
               rintro e w4 ⟨y,rfl,yb0,yb1,hg4,hq4,hc4⟩
               have hb4:b<w4.heap.size:=hc4.lt
               have yb2:y<7:=yb1 (by omega)
               obtain ⟨q,hv,v0,v1⟩:=tabI [.int .i64 0,.int .i64 1000,.int .i64 2000,.int .i64 3000,.int .i64 (-1500),.int .i64 7,.int .i64 f] (-9223372036854775808) 9223372036854775807 (by simp [Cu.okv];omega) y yb0 (by simp;omega)
               have st4:=St.pick (by first | exact st3 | exact st3.alloc _) hbw (by omega) hg4 hc4
               have ho4:Li.Own w4 (x+1) u0 l:=(by first | exact own_cur ho3 hg4 (by omega) | exact own_cur (World.ownsRow.alloc ho3 _) hg4 (by omega))
               have hk4:=kept hg4
               have hz4':=Nat.le_of_eq hq4.symm
               have hz4'':=Nat.le_of_eq hq4
               try simp at hz4'
               try simp at hz4''
               try simp at hk4
               obtain ⟨⟨hxl4,⟨p0,p1,p2⟩,_,_,_⟩,_,_,_,_⟩:=id st4
               clear hq4 yb1 hg4))))
      all_goals
        have HS:Hid (St w b x (K+1+2 * k+1+1) n c (.slice (some ⟨g,0,none⟩) (l.length+1) cap) (.slice none 0 0) v (w5.setCell ⟨x,0,none⟩ (.slice (some ⟨g,0,none⟩) (l.length+1) cap))):=St.set0 st5 hbw hxs _
        have HO:Hid (Li.Own (w5.setCell ⟨x,0,none⟩ (.slice (some ⟨g,0,none⟩) (l.length+1) cap)) (x+1) (.slice (some ⟨g,0,none⟩) (l.length+1) cap) (l ++ [q])):=own_off (own_snoc rfl hown) (grown_set' _ _ _ _) (Nat.lt_succ_self _)
        clear hown hgrow hpos hk4 hv st5 st4 st3 st ho ho3 ho4
        go_wp2
        go_roundw
        case rel=>exact ⟨k+1,by omega,by go_num,_,l ++ [q],by have:=HL.out;simp;omega,(by have h:=HS.out;exact ⟨h.bx,h.bs,h.br,h.gr,h.cu.mono (by omega)⟩),HO.out⟩
        case measure=>simp [intOf];omega
    · have hor : ¬ (k : Int) < n ∨ ((k : Int) < n ∧ ¬ (k : Int) < 4) := by omega
      clear h12
      rcases hor with h1 | ⟨h1,h2⟩
      all_goals
        have hll:=HL.out
        have st:St w b x (K+9) n c u0 (.slice none 0 0) v wr:=⟨st.bx,st.bs,st.br,st.gr,st.cu.mono (by omega)⟩
        have hl4:l.length≤4:=by omega
        clear hll HL
        go_wp2
        clear cu x0 x1 x2 xf0 xf1 xf2 s0 s1
        go_loopw [7] (fun i wr=>∃ k:Nat,k≤4∧i=.int .i64 k∧∃ u1,∃ m:List ByteArray,m.length=k∧(∀ s ∈ m,s.size≤3)∧St w b x (K+9+k) n c u0 u1 v wr∧Li.Own wr (x+1) u0 l∧Ls.Own wr (x+1) u1 m∧apart u0 u1) (fun i _=>4-(intOf i).toNat)
        case atStart=>exact ⟨0,Nat.zero_le _,rfl,_,[],rfl,by simp,by simpa using st,ho,Ls.Own.nil _ _,apart_of fun _ _ e=>by cases e⟩
        case round =>
          obtain ⟨k,hk,rfl,u1,m,hml,hm3,st,ho,hp,hap⟩:=hrel
          have HL:Hid (m.length=k):=hml
          have HM:Hid (∀ s ∈ m,s.size≤3):=hm3
          clear hml hm3
          obtain ⟨⟨hxl,⟨x0,x1,x2⟩,xf0,xf1,xf2⟩,⟨_,s0,s1⟩,⟨hrl,⟨r0,r1,r2⟩,rf0,rf1,rf2⟩,_,cu⟩:=id st
          have hbr:b<wr.heap.size:=cu.lt
          by_cases h12:(k:Int)<c∧k<4
          · obtain ⟨h1, h2⟩ := h12
            go_wp2_with fail
            go_region_law (first
              | (refine step_append_lies _ rfl _ _ 44 rfl (x + 1) 9 j0 (.string ⟨#[]⟩) 1 16 Tryz.underlying44 hj jz0 jz1 jz2 rfl (by decide) u1 m.length (Ls.sv m) rfl (by first | exact World.ownsRow.alloc hp4 _ | exact World.ownsRow.alloc (World.ownsRow.alloc hp4 _) _) _ 1 1 [.string q] rfl rfl (sone_at (by simp)) (sone_one _) (by decide) (by have := HL.out; unfold maxLen; omega) (by have := HL.out; omega) (by have := st4.bx.1; simp; omega) _ rfl ?_
                 intro g cap w5 hown hgrow hpos hglt
                 have st5:=St.grow (by first | exact st4.alloc _ | exact (st4.alloc _).alloc _) hbw hxs hgrow (fun k hk=>(hp4.ge k hk).1)
                 have ho5:Li.Own w5 (x+1) u0 l:=Li.Own.kept (by first | exact World.ownsRow.alloc ho4 _ | exact World.ownsRow.alloc (World.ownsRow.alloc ho4 _) _) hgrow hap
                 have hap5:apart u0 (.slice (some ⟨g,0,none⟩) (m.length+1) cap):=apart_app hap hpos (fun k hk=>by have:=(ho4.ge k hk).2;simp;omega)
                 obtain ⟨⟨hxl5,⟨y0,y1,y2⟩,yf0,yf1,yf2⟩,_,_,_,_⟩:=id st5)
              | (go_simp
                 go_wp2_with (
                     go_at_call 20
                     refine (Cu.pick_any _ _ _ (by first | exact cu.drew | exact cu.drew.alloc _) (by omega) _ (by omega)).mono ?_
                     rintro e w4 ⟨y,rfl,yb0,yb1,hg4,hq4,hc4⟩
                     have hb4:b<w4.heap.size:=hc4.lt
                     have yb2:y<4:=yb1 (by omega)
                     obtain ⟨q,hv,hq3⟩:=tabS [.string ⟨#[97]⟩,.string ⟨#[98]⟩,.string ⟨#[114,101,100]⟩,.string ⟨#[120,95,49]⟩] (by decide) y yb0 (by simp;omega)
                     have st4:=St.pick (by first | exact st.drew | exact st.drew.alloc _) hbw (by omega) hg4 hc4
                     have ho4:Li.Own w4 (x+1) u0 l:=(by first | exact own_cur (w:=World.drew _) ho hg4 (by omega) | exact own_cur (World.ownsRow.alloc (w:=World.drew _) ho _) hg4 (by omega))
                     have hp4:Ls.Own w4 (x+1) u1 m:=(by first | exact sown_cur (w:=World.drew _) hp hg4 (by omega) | exact sown_cur (World.ownsRow.alloc (w:=World.drew _) hp _) hg4 (by omega))
                     have hk4:=kept hg4
                     have hz4':=Nat.le_of_eq hq4.symm
                     have hz4'':=Nat.le_of_eq hq4
                     try simp at hz4'
                     try simp at hz4''
                     try simp at hk4
                     obtain ⟨⟨hxl4,⟨p0,p1,p2⟩,_,_,_⟩,_,_,_,_⟩:=id st4
                     clear hq4 yb1 hg4)))
            all_goals
              have HS:Hid (St w b x (K+9+k+1) n c u0 (.slice (some ⟨g,0,none⟩) (m.length+1) cap) v (w5.setCell ⟨x,1,none⟩ (.slice (some ⟨g,0,none⟩) (m.length+1) cap))):=St.set1 st5 hbw hxs _
              have HO:Hid (Li.Own (w5.setCell ⟨x,1,none⟩ (.slice (some ⟨g,0,none⟩) (m.length+1) cap)) (x+1) u0 l):=own_off ho5 (grown_set' _ _ _ _) (Nat.lt_succ_self _)
              have HP:Hid (Ls.Own (w5.setCell ⟨x,1,none⟩ (.slice (some ⟨g,0,none⟩) (m.length+1) cap)) (x+1) (.slice (some ⟨g,0,none⟩) (m.length+1) cap) (m ++ [q])):=sown_off (sown_snoc rfl hown) (grown_set' _ _ _ _) (Nat.lt_succ_self _)
              clear hown hgrow hpos hk4 hv st5 st4 st ho ho4 ho5 hp hp4 hap
              go_wp2
              go_roundw
              case rel =>
                refine ⟨k+1,by omega,by go_num,_,m ++ [q],by have:=HL.out;simp;omega,?_,(by have h:=HS.out;exact ⟨h.bx,h.bs,h.br,h.gr,h.cu.mono (by omega)⟩),HO.out,HP.out,hap5⟩
                intro s hs
                rcases List.mem_append.1 hs with hs | hs
                · exact HM.out s hs
                · obtain rfl := List.mem_singleton.1 hs
                  exact hq3
              case measure=>simp [intOf];omega
          · have hor : ¬ (k : Int) < c ∨ ((k : Int) < c ∧ ¬ (k : Int) < 4) := by omega
            have hm3:=lets_le3 m HM.out
            have hml:=HL.out
            have HB:Hid (Row.sz (⟨l,m,v⟩:Row)≤30∧Row.fits (⟨l,m,v⟩:Row)):=by
              refine ⟨?_,?_,?_,?_⟩
              · show l.length+(m.length+lets m)≤30;omega
              · show l.length≤_;omega
              · show m.length≤_;omega
              · intro j hj
                exact Nat.le_trans (HM.out m[j] (List.getElem_mem hj)) (by decide)
            clear h12 hm3 hml HL HM
            rcases hor with h1 | ⟨h1,h2⟩
            all_goals
              obtain ⟨a0,q0,rfl,_⟩:=ho.isl
              obtain ⟨a1,q1,rfl,_⟩:=hp.iss
              go_wp2
              refine bodyPost_ret (v:=.agg #[.slice a0 l.length q0,.slice a1 m.length q1,.int .i64 v]) (by rw [results_cell rfl];go_simp) rfl ⟨_,_,(⟨l,m,v⟩:Row),rfl,HB.out,?_,?_,hap,?_,?_⟩
              · exact (own_off (own_off (own_off ho (grown_set' _ _ _ _) (by omega)) (grown_set' _ _ _ _) (by omega)) (grown_set' _ _ _ _) (by omega)).mono (by omega)
              · exact (sown_off (sown_off (sown_off hp (grown_set' _ _ _ _) (by omega)) (grown_set' _ _ _ _) (by omega)) (grown_set' _ _ _ _) (by omega)).mono (by omega)
              · exact grown_setN (grown_setN (grown_setN st.gr (by omega)) (by omega)) (by omega)
              · exact (cur_set (cur_set (cur_set st.cu (by omega)) (by omega)) (by omega)).mono (by omega)
end Go.Proofs.YtaojoamldoofpaaGreatDoor.Db
namespace Go.Proofs.YtaojoamldoofpaaGreatDoor.Db
set_option maxRecDepth 100000
open Go.RowKit
open Tb Tk
open Li (Own info_int)
theorem pushC {W w5:World} {lo H g0 g n cap:Nat} {V0 V1:Nat→Value} {xs:List Value} {v u0 u1:Value} {rs:List Row} {r:Row} (hn:rs.length=n)
  (hg:∀ k,v.ownBlock=some k→k=g0∧k<H) (hown:W.ownsRow lo 114 3 v rs.length xs) (hN:Nest W lo g0 V0 V1 xs rs rs.length)
  (o0:Li.Own W H u0 r.nums) (o1:Ls.Own W H u1 r.cats) (ha:apart u0 u1) (hlo:lo≤H)
  (hv:∀ i,i<rs.length→(∀ b,(V0 i).ownBlock=some b→b<H)∧(∀ b,(V1 i).ownBlock=some b→b<H))
  (hgrow:W.grownBy w5 v.ownBlock) (hpos:v.ownBlock=some g ∨ g=W.heap.size) (hglt:g<w5.heap.size)
  (hown5:w5.ownsRow lo 114 3 (.slice (some ⟨g,0,none⟩) (n+1) cap) (n+1) (xs ++ [u0,u1,.int .i64 r.label])) :
  (∀ k, (Value.slice (some ⟨g, 0, none⟩) (n + 1) cap).ownBlock = some k → k = g ∧ k < w5.heap.size) ∧ w5.ownsRow lo 114 3 (.slice (some ⟨g, 0, none⟩) (n + 1) cap) (rs ++ [r]).length (xs ++ [u0, u1, .int .i64 r.label]) ∧ Nest w5 lo g (upd V0 n u0) (upd V1 n u1) (xs ++ [u0, u1, .int .i64 r.label]) (rs ++ [r]) (rs ++ [r]).length ∧
   ∀ i,i<(rs ++ [r]).length→(∀ b,(upd V0 n u0 i).ownBlock=some b→b<w5.heap.size)∧(∀ b,(upd V1 n u1 i).ownBlock=some b→b<w5.heap.size):=by
 obtain ⟨hN1,hS1,hS2⟩:=hN
 have hxl:xs.length=n * 3:=by rw [hown.1,hn]
 have old0:∀ i (hi:i<rs.length),Li.Own W lo (V0 i) rs[i].nums:=fun i hi=>(hN1 i hi hi).2.1
 have old1:∀ i (hi:i<rs.length),Ls.Own W lo (V1 i) rs[i].cats:=fun i hi=>(hN1 i hi hi).2.2
 have n0:∀ b,u0.ownBlock=some b→H≤b:=fun b e=>(o0.ge b e).1
 have n1:∀ b,u1.ownBlock=some b→H≤b:=fun b e=>(o1.ge b e).1
 have far0:u0.ownBlock≠some g:=fun e=>by
  rcases hpos with hp | hp
  ·
   have:=(hg g hp).2;have:=n0 g e;omega
  ·
   have:=(o0.ge g e).2;omega
 have far1:u1.ownBlock≠some g:=fun e=>by
  rcases hpos with hp | hp
  ·
   have:=(hg g hp).2;have:=n1 g e;omega
  ·
   have:=(o1.ge g e).2;omega
 have farV0:∀ i,i<rs.length→(V0 i).ownBlock≠some g:=fun i hi e=>by
  rcases hpos with hp | hp
  ·
   obtain ⟨h1,_⟩:=hg g hp;rw [h1] at e;exact (hS1 i hi).1 e
  ·
   have:=((old0 i hi).ge g e).2;omega
 have farV1:∀ i,i<rs.length→(V1 i).ownBlock≠some g:=fun i hi e=>by
  rcases hpos with hp | hp
  ·
   obtain ⟨h1,_⟩:=hg g hp;rw [h1] at e;exact (hS1 i hi).2 e
  ·
   have:=((old1 i hi).ge g e).2;omega
 have hlen:(rs ++ [r]).length=n+1:=by simp [hn]
 refine ⟨fun k e=>?_,by rw [hlen];exact hown5,⟨fun i hi _=>?_,fun i hi=>?_,fun i j hi hj=>?_⟩,fun i hi=>?_⟩
 ·
  obtain rfl:g=k:=by simpa [Value.ownBlock] using e
  exact ⟨rfl,hglt⟩
 ·
  rw [hlen] at hi
  by_cases e:i=n
  ·
   have er:(rs ++ [r])[i]'(by omega)=r:=by subst e;subst hn;simp
   rw [er]
   subst e
   rw [upd_at,upd_at]
   refine ⟨⟨?_,?_,?_⟩,(o0.mono hlo).kept hgrow (apart_of fun k e e'=>by have:=n0 k e;have:=(hg k e').2;omega),(o1.mono hlo).kept hgrow (apart_of fun k e e'=>by have:=n1 k e;have:=(hg k e').2;omega)⟩
   ·
    rw [List.getElem?_append_right (by omega),hxl,Nat.sub_self];rfl
   ·
    rw [List.getElem?_append_right (by omega),hxl,show i * 3+1-i * 3=1 by omega];rfl
   ·
    rw [List.getElem?_append_right (by omega),hxl,show i * 3+2-i * 3=2 by omega];rfl
  ·
   have hi':i<rs.length:=by omega
   have er:(rs ++ [r])[i]'(by omega)=rs[i]:=by rw [List.getElem_append_left hi']
   rw [er,upd_off _ e,upd_off _ e]
   obtain ⟨⟨c0,c1,c2⟩,p0,p1⟩:=hN1 i hi' hi'
   refine ⟨⟨?_,?_,?_⟩,p0.kept hgrow (apart_of fun k e e'=>?_),p1.kept hgrow (apart_of fun k e e'=>?_)⟩
   ·
    rw [List.getElem?_append_left (by omega)];exact c0
   ·
    rw [List.getElem?_append_left (by omega)];exact c1
   ·
    rw [List.getElem?_append_left (by omega)];exact c2
   ·
    rw [(hg k e').1] at e;exact (hS1 i hi').1 e
   ·
    rw [(hg k e').1] at e;exact (hS1 i hi').2 e
 ·
  rw [hlen] at hi
  by_cases e:i=n
  ·
   subst e;rw [upd_at,upd_at];exact ⟨far0,far1⟩
  ·
   rw [upd_off _ e,upd_off _ e];exact ⟨farV0 i (by omega),farV1 i (by omega)⟩
 ·
  rw [hlen] at hi hj
  by_cases ei:i=n
  ·
   by_cases ej:j=n
   ·
    subst ei;subst ej
    rw [upd_at,upd_at]
    exact ⟨fun h=>absurd rfl h,ha⟩
   ·
    subst ei
    rw [upd_at,upd_at,upd_off _ ej,upd_off _ ej]
    have a0:=(hv j (by omega)).1
    have a1:=(hv j (by omega)).2
    exact ⟨fun _=>⟨apart_of fun b e e'=>by have:=n0 b e;have:=a0 b e';omega,apart_of fun b e e'=>by have:=n1 b e;have:=a1 b e';omega⟩,apart_of fun b e e'=>by have:=n0 b e;have:=a1 b e';omega⟩
  ·
   by_cases ej:j=n
   ·
    subst ej
    rw [upd_at,upd_at,upd_off _ ei,upd_off _ ei]
    have a0:=(hv i (by omega)).1
    have a1:=(hv i (by omega)).2
    exact ⟨fun _=>⟨apart_of fun b e e'=>by have:=n0 b e';have:=a0 b e;omega,apart_of fun b e e'=>by have:=n1 b e';have:=a1 b e;omega⟩,apart_of fun b e e'=>by have:=n1 b e';have:=a0 b e;omega⟩
   ·
    rw [upd_off _ ei,upd_off _ ej,upd_off _ ei,upd_off _ ej]
    exact hS2 i j (by omega) (by omega)
 ·
  rw [hlen] at hi
  have hs:=hgrow.size
  by_cases e:i=n
  ·
   subst e;rw [upd_at,upd_at]
   exact ⟨fun b e=>by have:=(o0.ge b e).2;omega,fun b e=>by have:=(o1.ge b e).2;omega⟩
  ·
   rw [upd_off _ e,upd_off _ e]
   exact ⟨fun b e=>by have:=((old0 i (by omega)).ge b e).2;omega,fun b e=>by have:=((old1 i (by omega)).ge b e).2;omega⟩
theorem push {W w5:World} {lo H g0 g n cap:Nat} {V0 V1:Nat→Value} {xs:List Value} {v u0 u1:Value} {rs:List Row} {r:Row} (hn:rs.length=n)
  (hg:∀ k,v.ownBlock=some k→k=g0∧k<H) (hown:W.ownsRow lo 114 3 v rs.length xs) (hN:Nest W lo g0 V0 V1 xs rs rs.length)
  (o0:Li.Own W H u0 r.nums) (o1:Ls.Own W H u1 r.cats) (ha:apart u0 u1) (hlo:lo≤H)
  (hv:∀ i,i<rs.length→(∀ b,(V0 i).ownBlock=some b→b<H)∧(∀ b,(V1 i).ownBlock=some b→b<H))
  (hgrow:W.grownBy w5 v.ownBlock) (hpos:v.ownBlock=some g ∨ g=W.heap.size) (hglt:g<w5.heap.size)
  (hown5:w5.ownsRow lo 114 3 (.slice (some ⟨g,0,none⟩) (n+1) cap) (n+1) (xs ++ [u0,u1,.int .i64 r.label])) :
  OwnT w5 lo w5.heap.size (.slice (some ⟨g,0,none⟩) (n+1) cap) (rs ++ [r]) :=
 ⟨g,_,_,_,pushC hn hg hown hN o0 o1 ha hlo hv hgrow hpos hglt hown5⟩
theorem three_at {w:World} {T:TypeId} {v0 v1 v2:Value} {H:Nat} (h:w.heap.size=H):∀ j u,([v0,v1,v2]:List Value)[j]? = some u→(w.alloc (.cells #[v0,v1,v2] T)).cell? ((⟨H,0,none⟩:Addr).add j)=some u:=by
 subst h
 intro j u hj
 match j,hj with
 | 0,hj=>simp at hj;subst hj;simp [Addr.add]
 | 1,hj=>simp at hj;subst hj;simp [Addr.add]
 | 2,hj=>simp at hj;subst hj;simp [Addr.add]
theorem three_one {a0 a1:Option Addr} {n0 c0 n1 c1:Nat} {l:Int} : ∀ u ∈ ([.slice a0 n0 c0,.slice a1 n1 c1,.int .i64 l]:List Value),u.oneCell'=true:=by
 intro u hu
 simp at hu
 rcases hu with rfl | rfl | rfl <;> rfl
theorem nest_alloc {w:World} {B g k:Nat} {V0 V1:Nat→Value} {xs:List Value} {rs:List Row} (h:Nest w B g V0 V1 xs rs k) (o:Obj):Nest (w.alloc o) B g V0 V1 xs rs k :=
 ⟨fun i hi hk=>⟨(h.1 i hi hk).1,World.ownsRow.alloc (h.1 i hi hk).2.1 _,World.ownsRow.alloc (h.1 i hi hk).2.2 _⟩,h.2⟩
end Go.Proofs.YtaojoamldoofpaaGreatDoor.Db
namespace Go.Proofs.YtaojoamldoofpaaGreatDoor.Db
set_option maxRecDepth 100000
open Go.RowKit
open Tb Tk
open Li (Own info_int)
structure Tt (w:World) (b x:Nat) (K:Int) (n c:Int) (u:Value) (W:World):Prop where
 bx:Box3 W x (.int .i64 n) (.int .i64 c) u
 br:Box3 W w.heap.size (.int .i64 0) (.int .i64 0) (.slice none 0 0)
 gr:w.grownBy W (some b)
 cu:Cu.Cur W b K
theorem Tt.alloc {w W:World} {b x:Nat} {K n c:Int} {u:Value} (h:Tt w b x K n c u W) (o:Obj):Tt w b x K n c u (W.alloc o) :=
 ⟨h.bx.alloc _,h.br.alloc _,Cu.grown_alloc h.gr _,h.cu.alloc _⟩
theorem Tt.drew {w W:World} {b x:Nat} {K n c:Int} {u:Value} (h:Tt w b x K n c u W):Tt w b x K n c u W.drew :=
 ⟨h.bx,h.br,Cu.grown_drew h.gr,h.cu.drew⟩
theorem Tt.pick {w W W':World} {b x:Nat} {K K' n c:Int} {u:Value} (h:Tt w b x K n c u W) (hb:b<w.heap.size) (hx:b<x) (hg:W.grownBy W' (some b)) (hc:Cu.Cur W' b K'):Tt w b x K' n c u W' :=
 ⟨box3_cur h.bx hg (by omega),box3_cur h.br hg (by omega),Cu.grown_trans h.gr hg,hc⟩
theorem Tt.grow {w W W':World} {b x:Nat} {K n c:Int} {u:Value} {r:Option Nat} (h:Tt w b x K n c u W) (hb:b<w.heap.size) (hx:w.heap.size<x) (hg:W.grownBy W' r) (hr:∀ k,r=some k→x+1≤k):Tt w b x K n c u W':=by
 have ne:∀ k,k≤x→some k≠r:=fun k hk e=>by have:=hr k e.symm;omega
 exact ⟨h.bx.keptAt hg.size (hg.block x h.bx.1 (ne _ (Nat.le_refl _))),h.br.keptAt hg.size (hg.block _ h.br.1 (ne _ (by omega))),grown_new h.gr hg (fun k hk=>by have:=hr k hk;omega),cur_new h.cu hg (fun k hk=>by have:=hr k hk;omega)⟩
theorem box3_set2 {w:World} {b:Nat} {v0 v1 v2:Value} (h:Box3 w b v0 v1 v2) (v:Value):Box3 (w.setCell ⟨b,2,none⟩ v) b v0 v1 v:=by
 obtain ⟨hlt,⟨c0,c1,c2⟩,f0,f1,f2⟩:=h
 refine ⟨by simpa [World.setCell] using hlt,⟨?_,?_,World.cell?_setCell_same _ _ _ c2⟩,?_,?_,?_⟩
 ·
  rw [World.cell?_setCell_other _ _ _ _ (by simp)];exact c0
 ·
  rw [World.cell?_setCell_other _ _ _ _ (by simp)];exact c1
 all_goals (rw [World.frozen?_setCell];assumption)
theorem Tt.set2 {w W:World} {b x:Nat} {K n c:Int} {u:Value} (h:Tt w b x K n c u W) (hb:b<w.heap.size) (hx:w.heap.size<x) (v:Value):Tt w b x K n c v (W.setCell ⟨x,2,none⟩ v) :=
 ⟨box3_set2 h.bx v,h.br.setOther (by omega),grown_setN h.gr (by omega),cur_set h.cu (by omega)⟩
set_option maxHeartbeats 4000000 in
theorem table_any (w:World) (b:Nat) (K:Int) (hc:Cu.Cur w b K) (hK:K≤100000000000000) :
    Calls Tryz.prog 41 #[.pointer (some ⟨b,0,none⟩)] w fun e w'=>∃ (n c:Int) (v:Value) (rs:List Row),e=.returned (.agg #[.int .i64 n,.int .i64 c,v])∧(0≤n∧n<4∧0≤c∧c<3∧rs.length≤11∧∀ r ∈ rs,Row.sz r≤30∧Row.fits r)∧OwnT w' w.heap.size w'.heap.size v rs∧w.grownBy w' (some b)∧Cu.Cur w' b (K+300):=by
  obtain ⟨i0,hi,hz0,hz1,hz2⟩:=info_parts info_smp
  have hbw:=hc.lt
  have br:=box3_new w (.int .i64 0) (.int .i64 0) (.slice none 0 0) 79
  go_enter Tryz.func41,Tryz.ntmps41
  go_wp2_with fail
  refine (schema_any _ _ _ (hc.alloc _) (by omega)).mono ?_
  rintro e w1 ⟨n,c,rfl,hnc,hg1,hc1⟩
  have br:=box3_cur br hg1 (by omega)
  have hg:=Cu.grown_trans (World.grownBy_alloc w _ (some b)) hg1
  have hs1:w.heap.size<w1.heap.size:=by have:=hg1.size;simp at this;omega
  clear hg1 hc
  have tt:Tt w b w1.heap.size (K+2) n c (.slice none 0 0) (w1.alloc (.cells #[.int .i64 n,.int .i64 c,.slice none 0 0] 79)) :=
    ⟨box3_new _ _ _ _ _,br.alloc _,Cu.grown_alloc hg _,hc1.alloc _⟩
  obtain ⟨x,hx⟩:∃ x,w1.heap.size=x:=⟨_,rfl⟩
  go_wp2_with fail
  rw [hx] at tt
  have hxs:w.heap.size<x:=by omega
  refine (size_any _ _ _ tt.cu (by omega) _ (by omega) (by omega)).mono ?_
  rintro e w2 ⟨N',rfl,N0,N1,hg2,hq2,hc2⟩
  have tt:=tt.pick hbw (by omega) hg2 hc2
  obtain ⟨N,rfl⟩:∃ N:Nat,N'=(N:Int):=⟨N'.toNat,by omega⟩
  clear hg2 hq2 hc2 hc1 hg br hs1 hx
  go_wp2
  go_loopw [4] (fun i wr=>∃ k j:Nat,j+k=N∧i=.int .i64 k∧∃ u,∃ rs:List Row,rs.length=j∧(∀ r ∈ rs,Row.sz r≤30∧Row.fits r)∧Tt w b x (K+3+20 * j) n c u wr∧OwnT wr (x+1) wr.heap.size u rs) (fun i _=>(intOf i).toNat)
  case atStart=>exact ⟨N,0,by omega,rfl,_,[],rfl,by simp,(by have h:=tt;exact ⟨h.bx,h.br,h.gr,h.cu.mono (by omega)⟩),OwnT.nil _ _ _⟩
  case round =>
    obtain ⟨k,j,hjk,rfl,u,rs,hrl,hrs,tt,ho⟩:=hrel
    have HL:Hid (rs.length=j):=hrl
    have HR:Hid (∀ r ∈ rs,Row.sz r≤30∧Row.fits r):=hrs
    have HJ:Hid (j+k=N):=hjk
    have hj11:j≤11:=by omega
    have hk11:k≤11:=by omega
    clear hrl hrs hjk
    obtain ⟨⟨hxl,⟨x0,x1,x2⟩,xf0,xf1,xf2⟩,⟨hrl,⟨r0,r1,r2⟩,rf0,rf1,rf2⟩,_,cu⟩:=id tt
    by_cases hk:0<k
    · go_wp2_with fail
      go_region_law (first
        | (refine step_append_lies _ rfl _ _ 77 rfl (x + 1) 114 i0 (.agg #[.slice none 0 0, .slice none 0 0, .int .i64 0]) 3 56 Tryz.underlying77 hi hz0 hz1 hz2 rfl (by decide) u rs.length xs3 rfl (World.ownsRow.alloc hown3 _) _ 1 1 [.slice a0 r.nums.length q0, .slice a1 r.cats.length q1, .int .i64 r.label] rfl rfl (three_at (by simp)) three_one (by decide) (by have := HL.out; unfold maxLen; omega) (by have := HL.out; omega) (by have := tt3.bx.1; simp; omega) _ rfl ?_
           intro g cap w5 hown5 hgrow hpos hglt
           have tt5:=Tt.grow (tt3.alloc _) hbw hxs hgrow (fun k hk=>(World.ownsRow.lt hown3 k hk).1)
           obtain ⟨⟨hxl5,⟨y0,y1,y2⟩,yf0,yf1,yf2⟩,_,_,_⟩:=id tt5)
        | (go_simp
           go_wp2_with (
               go_at_call 71
               refine (sample_any _ _ _ cu.drew (by omega) _ _).mono ?_
               rintro e w3 ⟨u0,u1,r,rfl,hr,o0,o1,ha,hg3,hc3⟩
               have HRr:Hid (Row.sz r≤30∧Row.fits r):=hr
               have tt3:=Tt.pick tt.drew hbw (by omega) hg3 hc3
               have ho3:OwnT w3 (x+1) _ u rs:=OwnT.off (w:=World.drew _) ho hg3 (by omega)
               obtain ⟨a0,q0,rfl,_⟩:=o0.isl
               obtain ⟨a1,q1,rfl,_⟩:=o1.iss
               obtain ⟨g3,xs3,V03,V13,hgo3,hown3,hN3,hv3⟩:=id ho3
               obtain ⟨⟨hxl3,⟨p0,p1,p2⟩,_,_,_⟩,_,_,_⟩:=id tt3
               clear hr)))
      all_goals
        have HT:Hid (Tt w b x (K+3+20 * j+20) n c (.slice (some ⟨g,0,none⟩) (rs.length+1) cap) (w5.setCell ⟨x,2,none⟩ (.slice (some ⟨g,0,none⟩) (rs.length+1) cap))):=Tt.set2 tt5 hbw hxs _
        have HO:Hid (OwnT (w5.setCell ⟨x,2,none⟩ (.slice (some ⟨g,0,none⟩) (rs.length+1) cap)) (x+1) (w5.setCell ⟨x,2,none⟩ (.slice (some ⟨g,0,none⟩) (rs.length+1) cap)).heap.size (.slice (some ⟨g,0,none⟩) (rs.length+1) cap) (rs ++ [r])):=by
          refine OwnT.mono (lo:=x+1) (hi:=w5.heap.size) ?_ (Nat.le_refl _) (by simp [World.setCell])
          refine OwnT.off ?_ (grown_set' _ _ _ _) (.inl (Nat.lt_succ_self _))
          exact push (W:=w3.alloc _) rfl hgo3 (World.ownsRow.alloc hown3 _) (nest_alloc hN3 _) (World.ownsRow.alloc o0 _) (World.ownsRow.alloc o1 _) ha (by exact hxl) hv3 hgrow hpos hglt hown5
        clear hown5 hgrow hpos tt5 tt3 tt ho ho3 hgo3 hown3 hN3 hv3 o0 o1 ha
        go_wp2
        go_roundw
        case rel =>
          refine ⟨k-1,j+1,by have:=HJ.out;omega,by go_num,_,rs ++ [r],by have:=HL.out;simp;omega,?_,(by have h:=HT.out;exact ⟨h.bx,h.br,h.gr,h.cu.mono (by omega)⟩),HO.out⟩
          intro s hs
          rcases List.mem_append.1 hs with hs | hs
          · exact HR.out s hs
          · obtain rfl := List.mem_singleton.1 hs
            exact HRr.out
        case measure=>simp [intOf];omega
    · obtain ⟨a, cap, rfl, _⟩ := ho.isr
      go_wp2
      refine bodyPost_ret (v:=.agg #[.int .i64 n,.int .i64 c,.slice a rs.length cap]) (by rw [results_cell rfl];go_simp) rfl ⟨n,c,_,rs,rfl,⟨hnc.1,hnc.2.1,hnc.2.2.1,hnc.2.2.2,by have:=HL.out;omega,HR.out⟩,?_,?_,?_⟩
      · refine OwnT.mono (lo := x + 1) (hi := wr.heap.size) ?_ (by omega) (by simp [World.setCell])
        exact ((ho.off (grown_set' _ _ _ _) (by omega)).off (grown_set' _ _ _ _) (by omega)).off (grown_set' _ _ _ _) (by omega)
      · exact grown_setN (grown_setN (grown_setN tt.gr (by omega)) (by omega)) (by omega)
      · exact (cur_set (cur_set (cur_set tt.cu (by omega)) (by omega)) (by omega)).mono (by omega)
end Go.Proofs.YtaojoamldoofpaaGreatDoor.Db
namespace Go.Proofs.YtaojoamldoofpaaGreatDoor.Df
open Go.RowKit
open Li Ai
theorem cur_new {w w1:World} {b:Nat} {K:Int} {r:Option Nat} (h:Cu.Cur w b K) (h':w.grownBy w1 r) (hr:∀ k,r=some k→b<k):Cu.Cur w1 b K :=
 h.keptB h'.size (fun k hk=>h'.block k (by have:=h.lt;omega) (fun e=>by have:=hr k e.symm;omega))
end Go.Proofs.YtaojoamldoofpaaGreatDoor.Df
namespace Go.Proofs.YtaojoamldoofpaaGreatDoor.Fw
open Go.RowKit
open Li (ret_bool ret_int below_none)
open Tr Tm
end Go.Proofs.YtaojoamldoofpaaGreatDoor.Fw
