/-
  Contracts that the proof leans on, put together in the order in which they build.
-/
import Derived.Test.YtaojoamldoofpaaGreatDoorPart15
import Derived.Test.YtaojoamldoofpaaGreatDoorPart9
import Derived.Test.YtaojoamldoofpaaGreatDoorPart7
import Derived.Test.YtaojoamldoofpaaGreatDoorRows
import Derived.OrdersHeld
import Derived.WalkKit
set_option linter.unusedVariables false
namespace Go.Proofs.YtaojoamldoofpaaGreatDoor.Dm
set_option maxRecDepth 100000
open Go.RowKit
open Tb Tk
open Md (M OwM wr6 wr3)
open Kt (OwK Kv ksz)
open Tm (szT OwnP)
open To (OwT)
open Tt (mtrain strain mtrain_sz set6 kszA szTA)
open Sv (Wr Fr fr_grown fr_below new1 new2 new3 wr_new wr2)
def z6:List Value:=[.int .i64 0,.int .i64 0,.int .i64 0,.int .i64 0,.slice none 0 0,.slice none 0 0]
def mc (m:M) (vk vt:Value):List Value:=[.int .i64 m.n,.int .i64 m.c,.int .i64 m.prior,.int .i64 m.base,vk,vt]
structure Ms (w wr:World) (b X2 X5:Nat) (K:Int) (Z:Nat) (m:M) (vk vt:Value):Prop where
 cu:Cu.Cur wr b K
 gr:Fr (fun q=>q=b) w wr
 bl:b<X2
 x2:w.heap.size=X2
 x5:X2<X5
 b2:Wr wr X2 0 z6
 b5:Wr wr X5 0 (mc m vk vt)
 om:OwM wr (fun q=>X2<q∧¬ q=X5) vk vt m
 sz:m.sz≤Z
theorem szR_all {rs:List Row} (h:∀ r ∈ rs,Row.sz r≤30):szR rs≤30 * rs.length:=by
 induction rs with
 | nil=>simp [szR]
 | cons r rs ih =>
  have h1:=h r (by simp)
  have h2:=ih (fun t ht=>h t (by simp [ht]))
  simp only [szR,List.length_cons];omega
theorem wrB {w w1:World} {B:Nat→Prop} {g:Nat} {vs:List Value} (h:Wr w g 0 vs) (hf:Fr B w w1) (hg:¬ B g):Wr w1 g 0 vs:=h.keptAt hf.size (hf.block g h.1 hg)
theorem curF {w w1:World} {B:Nat→Prop} {b:Nat} {K:Int} (h:Cu.Cur w b K) (hf:Fr B w w1) (hB:∀ q,B q→b<q):Cu.Cur w1 b K:=h.keptB hf.size (fun k hk=>hf.block k (by have:=h.lt;omega) (fun e=>by have:=hB k e;omega))
theorem fr_out {w wr wx:World} {b X2:Nat} {B:Nat→Prop} (h:Fr (fun q=>q=b) w wr) (hf:Fr B wr wx) (hB:∀ q,B q→X2≤q) (hx:w.heap.size=X2):Fr (fun q=>q=b) w wx :=
 ⟨hf.os.trans h.os,hf.tape.trans h.tape,hf.output.trans h.output,Nat.le_trans h.size hf.size,fun k hk hn=>by rw [hf.block k (by have:=h.size;omega) (fun e=>by have:=hB k e;omega)];exact h.block k hk hn⟩
section
variable {w wr wx wy wz:World} {b X2 X5:Nat} {K K':Int} {Z:Nat} {m:M} {vk vt:Value}
theorem Ms.lower (h:Ms w wr b X2 X5 K Z m vk vt) {Z':Nat} (hK:K≤K') (hZ:Z≤Z'):Ms w wr b X2 X5 K' Z' m vk vt :=
 ⟨h.cu.mono hK,h.gr,h.bl,h.x2,h.x5,h.b2,h.b5,h.om,Nat.le_trans h.sz hZ⟩
theorem Ms.frb (h:Ms w wr b X2 X5 K Z m vk vt) (hf:Fr (fun q=>q=b) wr wx) (hc:Cu.Cur wx b K'):Ms w wx b X2 X5 K' Z m vk vt :=
 ⟨hc,h.gr.trans hf,h.bl,h.x2,h.x5,wrB h.b2 hf (by have:=h.bl;omega),wrB h.b5 hf (by have:=h.bl;have:=h.x5;omega),h.om.fr hf (fun q hq e=>by have:=h.bl;omega),h.sz⟩
theorem Ms.step (h:Ms w wr b X2 X5 K Z m vk vt) (hg:wr.grownBy wx (some b)) (hc:Cu.Cur wx b K'):Ms w wx b X2 X5 K' Z m vk vt:=h.frb (fr_grown hg rfl) hc
theorem Ms.below (h:Ms w wr b X2 X5 K Z m vk vt) (hb:Below wr.heap.size wr wx):Ms w wx b X2 X5 K Z m vk vt :=
 ⟨curF (B:=fun _=>False) h.cu (fr_below hb) (fun _ e=>e.elim),h.gr.trans (fr_below hb),h.bl,h.x2,h.x5,h.b2.below hb,h.b5.below hb,h.om.below hb,h.sz⟩
theorem Ms.put6 {m':M} {vk' vt':Value} (h:Ms w wr b X2 X5 K Z m vk vt) (hb:Below wr.heap.size wr wx) (om:OwM wx (fun q=>wr.heap.size≤q∧q<wx.heap.size) vk' vt' m') (hz:m'.sz≤Z) :
  Ms w ((((((wx.setCell ⟨X5,0,none⟩ (.int .i64 m'.n)).setCell ⟨X5,1,none⟩ (.int .i64 m'.c)).setCell ⟨X5,2,none⟩ (.int .i64 m'.prior)).setCell ⟨X5,3,none⟩ (.int .i64 m'.base)).setCell ⟨X5,4,none⟩ vk').setCell ⟨X5,5,none⟩ vt') b X2 X5 K Z m' vk' vt':=by
 have hx:=h.below hb
 have hf:=set6 wx X5 (.int .i64 m'.n) (.int .i64 m'.c) (.int .i64 m'.prior) (.int .i64 m'.base) vk' vt'
 have hX:=h.b5.1
 have h1:=h.bl
 have h2:=h.x5
 refine ⟨curF hx.cu hf (fun q e=>by omega),fr_out hx.gr hf (fun q e=>by omega) h.x2,h.bl,h.x2,h.x5,wrB hx.b2 hf (by omega),?_,?_,hz⟩
 ·
  exact (((((hx.b5.set 0 (by simp [mc]) _).set 1 (by simp [mc]) _).set 2 (by simp [mc]) _).set 3 (by simp [mc]) _).set 4 (by simp [mc]) _).set 5 (by simp [mc]) _
 ·
  exact (om.mono (fun q hq=>⟨by omega,by omega⟩)).fr hf (fun q hq e=>hq.2 e)
theorem Ms.num {m':M} {v:Value} {o:Nat} (h:Ms w wr b X2 X5 K Z m vk vt) (ho:o<6) (hm:(mc m vk vt).set o v=mc m' vk vt) (h1:m'.ks=m.ks) (h2:m'.ts=m.ts):Ms w (wr.setCell ⟨X5,o,none⟩ v) b X2 X5 K Z m' vk vt:=by
 have hf:Fr (fun q=>q=X5) wr (wr.setCell ⟨X5,o,none⟩ v):=Gt.fr_set v
 have l1:=h.bl
 have l2:=h.x5
 refine ⟨curF h.cu hf (fun q e=>by omega),fr_out h.gr hf (fun q e=>by omega) h.x2,h.bl,h.x2,h.x5,wrB h.b2 hf (by omega),?_,?_,?_⟩
 ·
  rw [← hm];have h9:=h.b5.set o (by simp [mc];omega) v;rwa [Nat.zero_add] at h9
 ·
  obtain ⟨P,hk,ht⟩:=h.om.fr hf (fun q hq e=>hq.2 e)
  exact ⟨P,by rw [h1];exact hk,by rw [h2];exact ht⟩
 ·
  have:=h.sz;unfold M.sz at this ⊢;rw [h1,h2];exact this
theorem Ms.forT (h:Ms w wr b X2 X5 K Z m vk vt):∃ B:Nat→Prop,(∀ y,wr.heap.size≤y→B y)∧(∀ wy,Fr (fun q=>q=b) wr wy→OwT wy (fun y=>B y∧y<wr.heap.size) vt m.ts) ∧
  (∀ wy K' wz v' t,Fr (fun q=>q=b) wr wy→Cu.Cur wy b K'→OwT wz B v' (m.ts ++ [t])→wy.grownBy wz vt.ownBlock→(t:Tr.T).sp.length+t.lv.length≤100→Ms w (wz.setCell ⟨X5,5,none⟩ v') b X2 X5 K' (Z+101) ⟨m.n,m.c,m.prior,m.base,m.ks,m.ts ++ [t]⟩ vk v'):=by
 have l1:=h.bl
 have l2:=h.x5
 have l3:=h.b5.1
 obtain ⟨P,hk,ht⟩:=h.om
 refine ⟨fun y=>(X2<y∧¬ y=X5)∧¬ (P y∧y<wr.heap.size),fun y hy=>⟨⟨by omega,by omega⟩,fun e=>by omega⟩,fun wy hf=>?_,fun wy K' wz v' t hf hc ho hg hz=>?_⟩
 ·
  exact (ht.bound.mono (fun y hy=>⟨⟨hy.1.1,fun e=>hy.1.2 e.1⟩,hy.2⟩)).fr hf (fun y hy e=>by have:=hy.1.1.1;omega)
 ·
  have hy:=h.frb hf hc
  have hv:∀ q,vt.ownBlock=some q→(X2<q∧¬ q=X5)∧¬ P q:=fun q e=>by
   obtain ⟨_,_,_,_,hv,_⟩:=ht
   exact hv q e
  have hF:Fr (fun q=>vt.ownBlock=some q) wy wz:=⟨hg.os,hg.tape,hg.output,hg.size,fun q hq hn=>hg.block q hq (fun e=>hn e.symm)⟩
  have hS:Fr (fun q=>q=X5) wz (wz.setCell ⟨X5,5,none⟩ v'):=Gt.fr_set v'
  have c1:=curF hy.cu hF (fun q e=>by have:=(hv q e).1.1;omega)
  have g1:=fr_out hy.gr hF (fun q e=>by have:=(hv q e).1.1;omega) h.x2
  refine ⟨curF c1 hS (fun q e=>by omega),fr_out g1 hS (fun q e=>by omega) h.x2,h.bl,h.x2,h.x5,wrB (wrB hy.b2 hF (fun e=>by have:=(hv _ e).1.1;omega)) hS (by omega),?_,?_,?_⟩
  ·
   exact (wrB hy.b5 hF (fun e=>(hv _ e).1.2 rfl)).set 5 (by simp [mc]) _
  ·
   refine ⟨fun y=>P y∧y<wr.heap.size,?_,?_⟩
   ·
    refine (((hk.bound.mono (fun y hy=>⟨hy.1.1,hy.1.2,hy.2⟩)).fr hf (fun y hy e=>by have:=hy.1.1;omega)).fr hF (fun y hy e=>(hv y e).2 hy.2.1)).fr hS (fun y hy e=>hy.1.2 e)
   ·
    exact ho.fr hS (fun y hy e=>hy.1.2 e)
  ·
   have:=h.sz
   unfold M.sz at this ⊢
   simp only
   rw [szTA,List.length_append,List.length_singleton]
   omega
theorem Ms.forK (h:Ms w wr b X2 X5 K Z m vk vt):∃ B:Nat→Prop,(∀ y,wr.heap.size≤y→B y)∧(∀ wy,Fr (fun q=>q=b) wr wy→OwK wy (fun y=>B y∧y<wr.heap.size) vk m.ks) ∧
  (∀ wy K' wz v' t,Fr (fun q=>q=b) wr wy→Cu.Cur wy b K'→OwK wz B v' (m.ks ++ [t])→wy.grownBy wz vk.ownBlock→(t:Kv).ws.length+lets t.ws+t.vs.length≤100→Ms w (wz.setCell ⟨X5,4,none⟩ v') b X2 X5 K' (Z+101) ⟨m.n,m.c,m.prior,m.base,m.ks ++ [t],m.ts⟩ v' vt):=by
 have l1:=h.bl
 have l2:=h.x5
 have l3:=h.b5.1
 obtain ⟨P,hk,ht⟩:=h.om
 refine ⟨fun y=>(X2<y∧¬ y=X5)∧(P y ∨ wr.heap.size≤y),fun y hy=>⟨⟨by omega,by omega⟩,.inr hy⟩,fun wy hf=>?_,fun wy K' wz v' t hf hc ho hg hz=>?_⟩
 ·
  exact (hk.bound.mono (fun y hy=>⟨⟨hy.1.1,.inl hy.1.2⟩,hy.2⟩)).fr hf (fun y hy e=>by have:=hy.1.1.1;omega)
 ·
  have hy:=h.frb hf hc
  have hv:∀ q,vk.ownBlock=some q→((X2<q∧¬ q=X5)∧P q):=fun q e=>by
   obtain ⟨_,_,_,_,hv,_⟩:=hk
   exact hv q e
  have hF:Fr (fun q=>vk.ownBlock=some q) wy wz:=⟨hg.os,hg.tape,hg.output,hg.size,fun q hq hn=>hg.block q hq (fun e=>hn e.symm)⟩
  have hS:Fr (fun q=>q=X5) wz (wz.setCell ⟨X5,4,none⟩ v'):=Gt.fr_set v'
  have c1:=curF hy.cu hF (fun q e=>by have:=(hv q e).1.1;omega)
  have g1:=fr_out hy.gr hF (fun q e=>by have:=(hv q e).1.1;omega) h.x2
  refine ⟨curF c1 hS (fun q e=>by omega),fr_out g1 hS (fun q e=>by omega) h.x2,h.bl,h.x2,h.x5,wrB (wrB hy.b2 hF (fun e=>by have:=(hv _ e).1.1;omega)) hS (by omega),?_,?_,?_⟩
  ·
   exact (wrB hy.b5 hF (fun e=>(hv _ e).1.2 rfl)).set 4 (by simp [mc]) _
  ·
   refine ⟨fun y=>P y ∨ wr.heap.size≤y,?_,?_⟩
   ·
    exact ho.fr hS (fun y hy e=>hy.1.2 e)
   ·
    refine (((ht.bound.mono (fun y hy=>⟨hy.1.1,fun e=>e.elim hy.1.2 (fun e=>by have:=hy.2;omega)⟩)).fr hf (fun y hy e=>by have:=hy.1.1;omega)).fr hF (fun y hy e=>hy.2 (.inl (hv y e).2))).fr hS (fun y hy e=>hy.1.2 e)
  ·
   have:=h.sz
   unfold M.sz at this ⊢
   simp only
   rw [kszA,List.length_append,List.length_singleton]
   omega
theorem Ms.keptT (h:Ms w wr b X2 X5 K Z m vk vt) (hb:Below wr.heap.size wr wy) (hg:wy.grownBy wz vt.ownBlock):Wr wz X5 0 (mc m vk vt):=by
 have h5:=h.b5.below hb
 obtain ⟨P,-,ht⟩:=h.om
 obtain ⟨_,_,_,_,hv,_⟩:=ht
 exact h5.keptAt hg.size (hg.block X5 h5.1 (fun e=>(hv X5 e.symm).1.2 rfl))
theorem Ms.keptK (h:Ms w wr b X2 X5 K Z m vk vt) (hb:Below wr.heap.size wr wy) (hg:wy.grownBy wz vk.ownBlock):Wr wz X5 0 (mc m vk vt):=by
 have h5:=h.b5.below hb
 obtain ⟨P,hk,-⟩:=h.om
 obtain ⟨_,_,_,_,hv,_⟩:=hk
 exact h5.keptAt hg.size (hg.block X5 h5.1 (fun e=>(hv X5 e.symm).1.2 rfl))
theorem ksz_set0 (ks:List Kv) (t t':Kv) (h:t'.ws=t.ws) (hv:t'.vs.length≤t.vs.length+1) (hk:0<ks.length) (he:ks[0]=t):ksz (ks.set 0 t')≤ksz ks+1:=by
 cases ks with
 | nil=>simp at hk
 | cons x ks =>
  simp only [List.getElem_cons_zero] at he
  subst he
  simp only [List.set_cons_zero,ksz,h]
  omega
theorem Ms.forV (h:Ms w wr b X2 X5 K Z m vk vt) (h0:0<m.ks.length):∃ g c a0 c0 n0,vk=.slice (some ⟨g,0,none⟩) m.ks.length c∧m.ks[0].vs.length=n0∧wr.cell? ⟨g,1,none⟩=some (.slice a0 n0 c0)∧wr.frozen? ⟨g,1,none⟩=false∧g<wr.heap.size∧b<g∧¬ g=X5∧(∀ k,(Value.slice a0 n0 c0).ownBlock=some k→b<k∧¬ k=X5∧¬ k=g)∧n0≤Z∧(∀ wy,Fr (fun q=>q=b) wr wy→Li.Own wy 0 (.slice a0 n0 c0) m.ks[0].vs) ∧
  (∀ wy K' wz u0 z,Fr (fun q=>q=b) wr wy→Cu.Cur wy b K'→Li.Own wz 0 u0 (m.ks[0].vs ++ [z])→wy.grownBy wz (Value.slice a0 n0 c0).ownBlock→(u0.ownBlock=(Value.slice a0 n0 c0).ownBlock ∨ ∃ F,u0.ownBlock=some F∧wy.heap.size≤F)→Ms w (wz.setCell ⟨g,1,none⟩ u0) b X2 X5 K' (Z+101) ⟨m.n,m.c,m.prior,m.base,m.ks.set 0 ⟨m.ks[0].ws,m.ks[0].vs ++ [z]⟩,m.ts⟩ vk vt):=by
 have l1:=h.bl
 have l2:=h.x5
 have l3:=h.b5.1
 obtain ⟨P,hk,ht⟩:=h.om
 obtain ⟨a,c,g,a0,c0,e1,e2,h1,h2,h3,h4,h5,h6,-⟩:=Ps.repl1 hk 0 h0
 subst e2
 have hz0:m.ks[0].vs.length≤Z:=by
  have:=h.sz
  have h9:=Kt.ksz_at m.ks 0 h0
  unfold M.sz at this
  omega
 refine ⟨g,c,a0,c0,_,e1,rfl,h1,h2,h4,by have:=h5.1.1;omega,h5.1.2,fun k e=>⟨by have:=(h6 k e).1.1.1;omega,(h6 k e).1.1.2,(h6 k e).2⟩,hz0,fun wy hf=>?_,fun wy K' wz u0 z hf hc ho hg hu=>?_⟩
 ·
  exact Tb.ownsRow_at h3 (fun k e=>hf.block k (h3.ge k e).2 (by have:=(h6 k e).1.1.1;omega))
 ·
  have hy:=h.frb hf hc
  have hk2:OwK wy (fun y=>(X2<y∧¬ y=X5)∧(P y ∨ wr.heap.size≤y)) vk m.ks:=(hk.mono (fun y hy=>⟨hy.1,.inl hy.2⟩)).fr hf (fun y hy e=>by have:=hy.1.1;omega)
  obtain ⟨a',c',g',a0',c0',e1',e2',h1',-,-,-,-,-,hrep⟩:=Ps.repl1 hk2 0 h0
  subst e2'
  rw [e1] at e1'
  injection e1' with e3 _ e4
  injection e3 with e3
  injection e3 with e3 _ _
  subst e3
  have e5:wy.cell? ⟨g,1,none⟩=some (.slice a0 m.ks[0].vs.length c0):=(World.cell?_of_block (hf.block g h4 (by have:=h5.1.1;omega))).trans h1
  have e6:wy.cell? ⟨g,1,none⟩=some (.slice a0' m.ks[0].vs.length c0'):=h1'
  rw [e5] at e6
  injection e6 with e6
  injection e6 with e6 _ e7
  subst e6
  subst e7
  have hnew:=hrep wz u0 (m.ks[0].vs ++ [z]) ho hg (hu.imp id (fun ⟨F,f1,f2⟩=>⟨F,f1,f2,⟨by have:=hf.size;omega,by have:=hf.size;omega⟩,.inr (by have:=hf.size;omega)⟩))
  have hF:Fr (fun q=>(Value.slice a0 m.ks[0].vs.length c0).ownBlock=some q) wy wz:=⟨hg.os,hg.tape,hg.output,hg.size,fun q hq hn=>hg.block q hq (fun e=>hn e.symm)⟩
  have hS:Fr (fun q=>q=g) wz (wz.setCell ⟨g,1,none⟩ u0):=Gt.fr_set u0
  have hg1:=h5.1.1
  have c1:=curF hy.cu hF (fun q e=>by have:=(h6 q e).1.1.1;omega)
  have g1:=fr_out hy.gr hF (fun q e=>by have:=(h6 q e).1.1.1;omega) h.x2
  refine ⟨curF c1 hS (fun q e=>by omega),fr_out g1 hS (fun q e=>by omega) h.x2,h.bl,h.x2,h.x5,wrB (wrB hy.b2 hF (fun e=>by have:=(h6 _ e).1.1.1;omega)) hS (by omega),?_,?_,?_⟩
  ·
   exact wrB (wrB hy.b5 hF (fun e=>(h6 _ e).1.1.2 rfl)) hS (fun e=>h5.1.2 e.symm)
  ·
   refine ⟨fun y=>P y ∨ wr.heap.size≤y,hnew,?_⟩
   ·
    refine (((ht.bound.mono (fun y hy=>⟨hy.1.1,fun e=>e.elim hy.1.2 (fun e=>by have:=hy.2;omega)⟩)).fr hf (fun y hy e=>by have:=hy.1.1;omega)).fr hF (fun y hy e=>hy.2 (.inl (h6 y e).1.2))).fr hS (fun y hy e=>hy.2 (.inl (by rw [e];exact h5.2)))
  ·
   have:=h.sz
   have h9:=ksz_set0 m.ks m.ks[0] ⟨m.ks[0].ws,m.ks[0].vs ++ [z]⟩ rfl (by simp) h0 rfl
   unfold M.sz at this ⊢
   simp only
   rw [List.length_set]
   omega
end
end Go.Proofs.YtaojoamldoofpaaGreatDoor.Dm
namespace Go.Proofs.YtaojoamldoofpaaGreatDoor.Dm
set_option maxRecDepth 100000
open Go.RowKit
open Tb Tk
open Md (M OwM wr6 wr3)
open Kt (OwK Kv ksz)
open Tt (set6)
open Sv (Wr Fr fr_grown fr_below new1 new2 new3 wr_new wr2)
structure Mq (w wr:World) (b X5:Nat) (K:Int) (Z:Nat) (m:M) (vk vt:Value):Prop where
 cu:Cu.Cur wr b K
 bw:Below w.heap.size w wr
 lo:w.heap.size≤b
 b5:b<X5
 w5:Wr wr X5 0 (mc m vk vt)
 om:OwM wr (fun q=>b<q∧¬ q=X5) vk vt m
 sz:m.sz≤Z
section
variable {w wr wx:World} {b X5:Nat} {K K':Int} {Z:Nat} {m:M} {vk vt:Value}
theorem Mq.lower (h:Mq w wr b X5 K Z m vk vt) (hK:K≤K'):Mq w wr b X5 K' Z m vk vt:=⟨h.cu.mono hK,h.bw,h.lo,h.b5,h.w5,h.om,h.sz⟩
theorem Mq.frb (h:Mq w wr b X5 K Z m vk vt) (hf:Fr (fun q=>q=b) wr wx) (hc:Cu.Cur wx b K'):Mq w wx b X5 K' Z m vk vt :=
 ⟨hc,h.bw.trans (hf.bel (fun q e=>by have:=h.lo;omega) h.bw.size),h.lo,h.b5,wrB h.w5 hf (by have:=h.b5;omega),h.om.fr hf (fun q hq e=>by omega),h.sz⟩
theorem Mq.step (h:Mq w wr b X5 K Z m vk vt) (hg:wr.grownBy wx (some b)) (hc:Cu.Cur wx b K'):Mq w wx b X5 K' Z m vk vt:=h.frb (fr_grown hg rfl) hc
theorem Mq.below (h:Mq w wr b X5 K Z m vk vt) (hb:Below wr.heap.size wr wx):Mq w wx b X5 K Z m vk vt :=
 ⟨curF (B:=fun _=>False) h.cu (fr_below hb) (fun _ e=>e.elim),h.bw.trans (hb.mono h.bw.size),h.lo,h.b5,h.w5.below hb,h.om.below hb,h.sz⟩
theorem Mq.cells (h:Mq w wr b X5 K Z m vk vt):wr.cell? ⟨X5,0,none⟩=some (.int .i64 m.n)∧wr.cell? ⟨X5,1,none⟩=some (.int .i64 m.c)∧wr.cell? ⟨X5,2,none⟩=some (.int .i64 m.prior)∧wr.cell? ⟨X5,3,none⟩=some (.int .i64 m.base)∧wr.cell? ⟨X5,4,none⟩=some vk∧wr.cell? ⟨X5,5,none⟩=some vt:=(wr6 h.w5).2.1
theorem Mq.fin (h:Mq w wr b X5 K Z m vk vt) (hf:Fr (fun q=>w.heap.size≤q∧q<b) wr wx):OwM wx (fun q=>w.heap.size≤q∧q<wx.heap.size) vk vt m∧Below w.heap.size w wx :=
 ⟨((h.om.bound.mono (fun q hq=>hq)).fr hf (fun q hq e=>by omega)).mono (fun q hq=>⟨by have:=h.lo;omega,by have:=hf.size;omega⟩),h.bw.trans (hf.bel (fun q e=>by omega) h.bw.size)⟩
end
end Go.Proofs.YtaojoamldoofpaaGreatDoor.Dm
namespace Go.Proofs.YtaojoamldoofpaaGreatDoor.Oi
variable {P:Program} {ops:Array Oper} {Q:Exit→Act→World→Prop} {md:Region.Mode}
def cnt (l:Array Bool):Nat:=l.toList.countP (· == true)
theorem cnt_le (l:Array Bool):cnt l≤l.size:=by
 unfold cnt
 have:=List.countP_le_length (p:=(· == true)) (l:=l.toList)
 simpa using this
theorem getD_false {l:Array Bool} {j:Nat} (h:l.getD j true=false):j<l.size∧l[j]? = some false:=by
 rw [Array.getD_eq_getD_getElem?] at h
 cases hl:l[j]? with
 | none=>rw [hl] at h;simp at h
 | some x=>rw [hl] at h;simp at h;subst h;exact ⟨(Array.getElem?_eq_some_iff.1 hl).1,rfl⟩
theorem count_set:∀ (l:List Bool) (j:Nat),l[j]? = some false→(l.set j true).countP (· == true)=l.countP (· == true)+1
 | [],j,h=>by simp at h
 | x :: l,0,h=>by simp at h;subst h;simp
 | x :: l,j+1,h=>by
  simp only [List.set_cons_succ,List.countP_cons]
  rw [count_set l j (by simpa using h)]
  omega
theorem cnt_set {l:Array Bool} {j:Nat} (h:l.getD j true=false):cnt (l.setIfInBounds j true)=cnt l+1:=by
 obtain ⟨_,h2⟩:=getD_false h
 unfold cnt
 rw [Array.toList_setIfInBounds]
 exact count_set _ _ (by simpa using h2)
theorem inv_any (Inv:Array Bool→Act→World→Prop)
  (step:∀ l a w j,l.size=ops.size→Inv l a w→j ∈ Region.ready md ops l→wpOp P ops Q j (fun a' w'=>Inv (l.setIfInBounds j true) a' w') a w)
  (fin:∀ l a w,l.size=ops.size→Inv l a w→Region.ready md ops l=[]→Q .normal a w) :
  ∀ (n:Nat) (l:Array Bool) (a:Act) (w:World),l.size=ops.size→l.size≤n+cnt l→Inv l a w→wpAny P md ops Q n l a w
 | 0,l,a,w,hs,hn,h=>by
  have hr:Region.ready md ops l=[]:=by
   rw [List.eq_nil_iff_forall_not_mem]
   intro j hj
   have h1:=(mem_ready.1 hj).1
   have h2:=cnt_set h1
   have h3:=cnt_le (l.setIfInBounds j true)
   simp at h3
   omega
  exact ⟨hr,fin l a w hs h hr⟩
 | n+1,l,a,w,hs,hn,h=>⟨fun hr=>fin l a w hs h hr,fun j hj=>wpOp_mono (fun a' w' h'=>inv_any Inv step fin n _ a' w' (by simpa using hs) (by rw [cnt_set (mem_ready.1 hj).1];simp;omega) h') (step l a w j hs h hj)⟩
theorem start {id:Nat} {a:Act} {w:World} (Inv:Array Bool→Act→World→Prop) (hm:P.follows .mixedOrders=true) (h0:Inv (Array.replicate ops.size false) a w.drew)
  (step:∀ l a w j,l.size=ops.size→Inv l a w→j ∈ Region.ready .any ops l→wpOp P ops Q j (fun a' w'=>Inv (l.setIfInBounds j true) a' w') a w)
  (fin:∀ l a w,l.size=ops.size→Inv l a w→Region.ready .any ops l=[]→Q .normal a w):(Code.region id ops true).wp P Q a w :=
 wp_region_any hm (inv_any Inv step fin ops.size _ a _ (by simp) (by simp) h0)
def fwd (ops:Array Oper):Bool:=(List.range ops.size).all fun i=>match ops[i]? with | some o=>o.after.toList.all fun e=>decide (e.on<i) | none=>true
theorem all_done {l:Array Bool} (hf:fwd ops=true) (hs:l.size=ops.size) (hr:Region.ready md ops l=[]):∀ i,i<ops.size→l.getD i false=true:=by
 intro i
 induction i using Nat.strongRecOn with
 | ind i ih =>
  intro hi
  have hl:l[i]? = some (l[i]'(by omega)):=Array.getElem?_eq_getElem (by omega)
  cases hx:l[i]'(by omega) with
  | true=>rw [Array.getD_eq_getD_getElem?,hl,hx];rfl
  | false =>
   exfalso
   have hm:i ∈ Region.ready md ops l:=by
    refine mem_ready.2 ⟨by rw [Array.getD_eq_getD_getElem?,hl,hx];rfl,ops[i],Array.getElem?_eq_getElem hi,fun e he _=>?_⟩
    have h1:=List.all_eq_true.1 hf i (by simpa using hi)
    rw [Array.getElem?_eq_getElem hi] at h1
    have h2:=List.all_eq_true.1 h1 e (by simpa using he)
    have h3:e.on<i:=by simpa using h2
    exact ih e.on h3 (by omega)
   rw [hr] at hm
   cases hm
def Waits (md:Region.Mode) (ops:Array Oper) (j i:Nat):Bool:=match ops[j]? with | some o=>o.after.any fun e=>Region.binds md e && e.on == i | none=>false
theorem dep {j i:Nat} {l:Array Bool} (hj:j ∈ Region.ready md ops l) (hw:Waits md ops j i=true):l.getD i false=true:=by
 obtain ⟨_,o,ho,hall⟩:=mem_ready.1 hj
 unfold Waits at hw
 rw [ho] at hw
 rw [Array.any_eq_true'] at hw
 obtain ⟨e,he,hx⟩:=hw
 simp at hx
 rw [← hx.2]
 exact hall e he hx.1
theorem op_step {j:Nat} {o:Oper} {K:Act→World→Prop} {a:Act} {w:World} (hi:ops[j]? = some o) (hg:o.guard=none) (h:∀ K':Act→World→Prop,(∀ a' w',K a' w'→K' a' w')→o.wp P a w K' Q):wpOp P ops Q j K a w:=by
 unfold wpOp
 rw [hi]
 have hw:Region.wanted o (yielded ops a.tmps)=true:=by simp [Region.wanted,hg]
 simp only [hw,if_true]
 exact .inl (h K fun _ _ h=>h)
theorem ready_lt {j:Nat} {l:Array Bool} (hj:j ∈ Region.ready md ops l):j<ops.size:=by
 obtain ⟨_,o,ho,_⟩:=mem_ready.1 hj
 exact (Array.getElem?_eq_some_iff.1 ho).1
def upd (v:Nat→Value) (s:Nat) (x:Value):Nat→Value:=fun t=>if t=s then x else v t
theorem upd_same (v:Nat→Value) (s:Nat) (x:Value):upd v s x s=x:=by simp [upd]
theorem upd_ne {v:Nat→Value} {s t:Nat} {x:Value} (h:t≠s):upd v s x t=v t:=by simp [upd,h]
theorem done_set {l:Array Bool} {i j:Nat} (h:(l.setIfInBounds j true).getD i false=true) (hij:i≠j):l.getD i false=true:=by
 rwa [getD_set_ne false (Ne.symm hij)] at h
theorem set_done {l:Array Bool} {i j:Nat} (h:l.getD i false=true):(l.setIfInBounds j true).getD i false=true:=getD_set_true h
end Go.Proofs.YtaojoamldoofpaaGreatDoor.Oi
