/-
  Contracts that the proof leans on, put together in the order in which they build.
-/
import Derived.Test.YtaojoamldoofpaaGreatDoorPart8
import Derived.Deep.AppendLies
import Derived.Test.YtaojoamldoofpaaGreatDoorPart4
set_option linter.unusedVariables false
namespace Go.Proofs.YtaojoamldoofpaaGreatDoor.Ps
set_option maxRecDepth 20000
open Go.RowKit
open Tb (ownsRow_at)
open Kt (Kv OwK owk_snoc)
open To (OwT owt_snoc)
open Tm (OwnP)
theorem info_ctr:(Tryz.prog.info? 47).map (fun i=>(i.zero,i.size,i.bytes))=some (some (.agg #[.slice none 0 0,.slice none 0 0]),2,48):=by kernel_rfl
theorem info_tree:(Tryz.prog.info? 56).map (fun i=>(i.zero,i.size,i.bytes))=some (some (.agg #[.slice none 0 0,.slice none 0 0]),2,48):=by kernel_rfl
theorem pair_cell {w:World} {E:Nat} {u0 u1:Value} (e0:w.cell? ⟨E,0,none⟩=some u0) (e1:w.cell? ⟨E,1,none⟩=some u1):∀ j u,([u0,u1]:List Value)[j]? = some u→w.cell? ((⟨E,0,none⟩:Addr).add j)=some u:=by
 intro j u hj
 rw [Go.WideShapes.add_plain,Nat.zero_add]
 match j,hj with
 | 0,hj=>simp at hj;subst hj;exact e0
 | 1,hj=>simp at hj;subst hj;exact e1
theorem pair_one {a b:Option Addr} {n c m d:Nat} : ∀ u ∈ ([.slice a n c,.slice b m d]:List Value),u.oneCell'=true:=by
 intro u hu
 simp at hu
 rcases hu with rfl | rfl <;> rfl
theorem run_pushK (w:World) (ty:TypeId) (B:Nat→Prop) (m:Nat) (v:Value) (ks:List Kv) (h:OwK w (fun y=>B y∧y<m) v ks) (E:Nat) (b0 b1:Option Addr) (d0 d1 n0 n1:Nat) (t:Kv)
  (e0:w.cell? ⟨E,0,none⟩=some (.slice b0 n0 d0)) (e1:w.cell? ⟨E,1,none⟩=some (.slice b1 n1 d1)) (o0:Ls.Own w m (.slice b0 n0 d0) t.ws) (o1:Li.Own w m (.slice b1 n1 d1) t.vs) (h01:∀ k,(Value.slice b0 n0 d0).ownBlock=some k→(Value.slice b1 n1 d1).ownBlock≠some k)
  (hB:∀ y,m≤y→B y) (hm:m≤w.heap.size) (hl:ks.length≤1048576) :
  ∃ a5 c5 w5,(Builtin.append_ #[26,26] ty #[v,.slice (some ⟨E,0,none⟩) 1 1]).run Tryz.prog w=.ok (.slice a5 (ks.length+1) c5) w5∧OwK w5 B (.slice a5 (ks.length+1) c5) (ks ++ [t])∧w.grownBy w5 v.ownBlock:=by
 obtain ⟨i0,hi,hz0,hz1,hz2⟩:=info_parts info_ctr
 obtain ⟨vs,hown,hvl,he,hv,hbb,hss⟩:=h
 obtain ⟨v',w',hr,h2,h3,hnil,h5⟩:=run_append_own_at (P:=Tryz.prog) w 0 26 ty 47 i0 (.agg #[.slice none 0 0,.slice none 0 0]) 2 48 Tryz.underlying26 hi hz0 hz1 hz2 rfl (by decide) v ks.length vs hown ⟨E,0,none⟩ 1 1 [.slice b0 n0 d0,.slice b1 n1 d1] rfl (pair_cell e0 e1) pair_one (by unfold maxLen;omega) (by omega) (by omega)
 have hok:=owk_snoc (B:=B) (m:=m) hvl he hv hbb hss o0 o1 h01 hB hm h2 h3 h5
 obtain ⟨a5,c5,e5,_⟩:=hok.isk
 rw [List.length_append] at e5
 subst e5
 exact ⟨a5,c5,w',hr,hok,h3⟩
theorem run_pushT (w:World) (ty:TypeId) (B:Nat→Prop) (m:Nat) (v:Value) (ks:List Tr.T) (h:OwT w (fun y=>B y∧y<m) v ks) (E:Nat) (b0 b1:Option Addr) (d0 d1 n0 n1:Nat) (t:Tr.T)
  (e0:w.cell? ⟨E,0,none⟩=some (.slice b0 n0 d0)) (e1:w.cell? ⟨E,1,none⟩=some (.slice b1 n1 d1)) (o0:OwnP w m (.slice b0 n0 d0) t.sp) (o1:Li.Own w m (.slice b1 n1 d1) t.lv) (h01:∀ k,(Value.slice b0 n0 d0).ownBlock=some k→(Value.slice b1 n1 d1).ownBlock≠some k)
  (hB:∀ y,m≤y→B y) (hm:m≤w.heap.size) (hl:ks.length≤1048576) :
  ∃ a5 c5 w5,(Builtin.append_ #[27,27] ty #[v,.slice (some ⟨E,0,none⟩) 1 1]).run Tryz.prog w=.ok (.slice a5 (ks.length+1) c5) w5∧OwT w5 B (.slice a5 (ks.length+1) c5) (ks ++ [t])∧w.grownBy w5 v.ownBlock:=by
 obtain ⟨i0,hi,hz0,hz1,hz2⟩:=info_parts info_tree
 obtain ⟨vs,hown,hvl,he,hv,hbb,hss⟩:=h
 obtain ⟨v',w',hr,h2,h3,hnil,h5⟩:=run_append_own_at (P:=Tryz.prog) w 0 27 ty 56 i0 (.agg #[.slice none 0 0,.slice none 0 0]) 2 48 Tryz.underlying27 hi hz0 hz1 hz2 rfl (by decide) v ks.length vs hown ⟨E,0,none⟩ 1 1 [.slice b0 n0 d0,.slice b1 n1 d1] rfl (pair_cell e0 e1) pair_one (by unfold maxLen;omega) (by omega) (by omega)
 have hok:=owt_snoc (B:=B) (m:=m) hvl he hv hbb hss o0 o1 h01 hB hm h2 h3 h5
 obtain ⟨a5,c5,e5,_⟩:=hok.ist
 rw [List.length_append] at e5
 subst e5
 exact ⟨a5,c5,w',hr,hok,h3⟩
theorem wpl_pushK {ops:Array Oper} {rest:List Oper} {o:Oper} {a:Act} {w:World} {Q:Exit→Act→World→Prop} (hgd:o.guard=none) (s x:Operand) (ho:o.op=.call { callee:=.builtin .append,args:=#[s,x],argTypes:=#[26,26] })
  (B:Nat→Prop) (m:Nat) (v:Value) (ks:List Kv) (h:OwK w (fun y=>B y∧y<m) v ks) (E:Nat) (b0 b1:Option Addr) (d0 d1 n0 n1:Nat) (t:Kv) (hs:a.eval s=v) (hx:a.eval x=.slice (some ⟨E,0,none⟩) 1 1)
  (e0:w.cell? ⟨E,0,none⟩=some (.slice b0 n0 d0)) (e1:w.cell? ⟨E,1,none⟩=some (.slice b1 n1 d1)) (o0:Ls.Own w m (.slice b0 n0 d0) t.ws) (o1:Li.Own w m (.slice b1 n1 d1) t.vs) (h01:∀ k,(Value.slice b0 n0 d0).ownBlock=some k→(Value.slice b1 n1 d1).ownBlock≠some k)
  (hB:∀ y,m≤y→B y) (hm:m≤w.heap.size) (hl:ks.length≤1048576)
  (hq:∀ a5 c5 w5,OwK w5 B (.slice a5 (ks.length+1) c5) (ks ++ [t])→w.grownBy w5 v.ownBlock→wpList Tryz.prog ops Q rest (a.put o.dst (.slice a5 (ks.length+1) c5)) w5):wpList Tryz.prog ops Q (o :: rest) a w:=by
 obtain ⟨a5,c5,w5,hr,h2,h3⟩:=run_pushK w o.type B m v ks h E b0 b1 d0 d1 n0 n1 t e0 e1 o0 o1 h01 hB hm hl
 refine wpList_plain hgd fun K hK=>?_
 unfold Oper.wp execOp
 simp only [ho,resolve,invoke,builtin,Sem.run_bind,Sem.run_pure,Result.andThen_ok,List.map_toArray,List.map_cons,List.map_nil,hs,hx,hr]
 exact hK _ _ (hq a5 c5 w5 h2 h3)
theorem wp_pushT {o:Oper} {a:Act} {w:World} {K:Act→World→Prop} {Q:Exit→Act→World→Prop} (s x:Operand) (ho:o.op=.call { callee:=.builtin .append,args:=#[s,x],argTypes:=#[27,27] }) (dt:Option Tmp) (hd:o.dst=dt)
  (B:Nat→Prop) (m:Nat) (v:Value) (ks:List Tr.T) (h:OwT w (fun y=>B y∧y<m) v ks) (E:Nat) (b0 b1:Option Addr) (d0 d1 n0 n1:Nat) (t:Tr.T) (hs:a.eval s=v) (hx:a.eval x=.slice (some ⟨E,0,none⟩) 1 1)
  (e0:w.cell? ⟨E,0,none⟩=some (.slice b0 n0 d0)) (e1:w.cell? ⟨E,1,none⟩=some (.slice b1 n1 d1)) (o0:OwnP w m (.slice b0 n0 d0) t.sp) (o1:Li.Own w m (.slice b1 n1 d1) t.lv) (h01:∀ k,(Value.slice b0 n0 d0).ownBlock=some k→(Value.slice b1 n1 d1).ownBlock≠some k)
  (hB:∀ y,m≤y→B y) (hm:m≤w.heap.size) (hl:ks.length≤1048576)
  (hq:∀ a5 c5 w5,OwT w5 B (.slice a5 (ks.length+1) c5) (ks ++ [t])→w.grownBy w5 v.ownBlock→K (a.put dt (.slice a5 (ks.length+1) c5)) w5):o.wp Tryz.prog a w K Q:=by
 subst hd
 obtain ⟨a5,c5,w5,hr,h2,h3⟩:=run_pushT w o.type B m v ks h E b0 b1 d0 d1 n0 n1 t e0 e1 o0 o1 h01 hB hm hl
 unfold Oper.wp execOp
 simp only [ho,resolve,invoke,builtin,Sem.run_bind,Sem.run_pure,Result.andThen_ok,List.map_toArray,List.map_cons,List.map_nil,hs,hx,hr]
 exact hq a5 c5 w5 h2 h3
theorem getD_set1 {vs:List Value} {q p:Nat} {u:Value} (hq:q<vs.length):(vs.set q u).getD p undef=if p=q then u else vs.getD p undef:=by
 by_cases h:p=q
 ·
  subst h;simp [hq]
 ·
  simp [h,Ne.symm h]
theorem repl {w w1:World} {B:Nat→Prop} {v:Value} {ts:List Kv} {vs:List Value} {p:Nat} {u0:Value} (ho:w.ownsRow 0 47 2 v ts.length vs) (hl:vs.length=ts.length * 2) (hp:p<vs.length)
  (hv:∀ k,v.ownBlock=some k→B k) (hb:∀ p,p<vs.length→∀ k,(vs.getD p undef).ownBlock=some k→B k∧v.ownBlock≠some k) (hs:∀ p q,p<vs.length→q<vs.length→¬ p=q→∀ k,(vs.getD p undef).ownBlock=some k→(vs.getD q undef).ownBlock≠some k)
  (hlt:∀ p,p<vs.length→∀ k,(vs.getD p undef).ownBlock=some k→k<w.heap.size) (g:Nat) (hvg:v.ownBlock=some g) (hg:w.grownBy w1 (vs.getD p undef).ownBlock) (hu:u0.ownBlock=(vs.getD p undef).ownBlock ∨ ∃ F,u0.ownBlock=some F∧w.heap.size≤F∧B F) :
  (w1.setCell ⟨g,p,none⟩ u0).ownsRow 0 47 2 v ts.length (vs.set p u0)∧(∀ q,q<(vs.set p u0).length→∀ k,((vs.set p u0).getD q undef).ownBlock=some k→B k∧v.ownBlock≠some k)∧(∀ q r,q<(vs.set p u0).length→r<(vs.set p u0).length→¬ q=r→∀ k,((vs.set p u0).getD q undef).ownBlock=some k→((vs.set p u0).getD r undef).ownBlock≠some k):=by
 have hgl:=(World.ownsRow.lt ho g hvg).2
 have ho1:w1.ownsRow 0 47 2 v ts.length vs:=ownsRow_at ho (fun k e=>hg.block k (World.ownsRow.lt ho k e).2 (fun e'=>(hb p hp k e'.symm).2 e))
 have hu1:∀ k,u0.ownBlock=some k→B k∧v.ownBlock≠some k:=fun k e=>by
  rcases hu with h | ⟨F,h1,h2,h3⟩
  ·
   exact hb p hp k (h ▸ e)
  ·
   rw [h1] at e;injection e with e;subst e
   exact ⟨h3,fun e'=>by have:=(World.ownsRow.lt ho _ e').2;omega⟩
 have hu2:∀ q,q<vs.length→¬ q=p→∀ k,(vs.getD q undef).ownBlock=some k→u0.ownBlock≠some k:=fun q hq hqp k e e'=>by
  rcases hu with h | ⟨F,h1,h2,h3⟩
  ·
   exact hs q p hq hp hqp k e (h ▸ e')
  ·
   rw [h1] at e';injection e' with e';have:=hlt q hq k e;omega
 refine ⟨?_,fun q hq k e=>?_,fun q r hq hr hqr k e=>?_⟩
 ·
  rcases ho1.2 with ⟨rfl,h0⟩ | ⟨g',cap,cur,rfl,_⟩
  ·
   simp [Value.ownBlock] at hvg
  ·
   have:g'=g:=by simpa [Value.ownBlock] using hvg
   subst this
   exact (World.ownsRow.stored ho1 p u0).1
 ·
  have hq':q<vs.length:=by simpa using hq
  rw [getD_set1 hp] at e
  by_cases h:q=p
  ·
   rw [if_pos h] at e;exact hu1 k e
  ·
   rw [if_neg h] at e;exact hb q hq' k e
 ·
  have hq':q<vs.length:=by simpa using hq
  have hr':r<vs.length:=by simpa using hr
  rw [getD_set1 hp] at e ⊢
  by_cases h:q=p
  ·
   rw [if_pos h] at e
   rw [if_neg (by omega)]
   exact fun e'=>hu2 r hr' (by omega) k e' e
  ·
   rw [if_neg h] at e
   by_cases h2:r=p
   ·
    rw [if_pos h2];exact hu2 q hq' h k e
   ·
    rw [if_neg h2];exact hs q r hq' hr' hqr k e
theorem repl0 {w:World} {B:Nat→Prop} {v:Value} {ts:List Kv} (h:OwK w B v ts) (j:Nat) (hj:j<ts.length):∃ a c g a0 c0,v=.slice a ts.length c∧a=some ⟨g,0,none⟩∧w.cell? ⟨g,j * 2,none⟩=some (.slice a0 ts[j].ws.length c0)∧w.frozen? ⟨g,j * 2,none⟩=false∧Ls.Own w 0 (.slice a0 ts[j].ws.length c0) ts[j].ws∧g<w.heap.size∧B g∧(∀ k,(Value.slice a0 ts[j].ws.length c0).ownBlock=some k→B k∧¬ k=g) ∧
  ∀ w1 u0 ws',Ls.Own w1 0 u0 ws'→w.grownBy w1 (Value.slice a0 ts[j].ws.length c0).ownBlock→(u0.ownBlock=(Value.slice a0 ts[j].ws.length c0).ownBlock ∨ ∃ F,u0.ownBlock=some F∧w.heap.size≤F∧B F)→OwK (w1.setCell ⟨g,j * 2,none⟩ u0) B v (ts.set j ⟨ws',ts[j].vs⟩):=by
 obtain ⟨vs,ho,hl,he,hv,hb,hs⟩:=h
 have h':=ho
 rcases ho.2 with ⟨rfl,h0⟩ | ⟨g,cap,cur,rfl,hbg,hh,_⟩
 ·
  omega
 obtain ⟨o0,o1⟩:=he j hj
 obtain ⟨a0,c0,e0,i0⟩:=o0.iss
 have hlt:∀ p,p<vs.length→∀ k,(vs.getD p undef).ownBlock=some k→k<w.heap.size:=fun p hp k e=>by
  obtain ⟨i,hi,rfl | rfl⟩:=Kt.half2 (n:=ts.length) (p:=p) (by omega)
  ·
   exact ((he i hi).1.ge k e).2
  ·
   exact ((he i hi).2.ge k e).2
 refine ⟨_,cap,g,a0,c0,rfl,rfl,?_,World.ownsRow.frozenAt h' _,e0 ▸ o0,(Array.getElem?_eq_some_iff.1 hh).1,hv g rfl,fun k e=>?_,fun w1 u0 ws' hw hg hu=>?_⟩
 ·
  rw [World.ownsRow.cellAt h' _ (by omega),← e0]
  simp [List.getElem?_eq_getElem (show j * 2<vs.length by omega)]
 ·
  rw [← e0] at e
  exact ⟨(hb _ (by omega) k e).1,fun e'=>(hb _ (by omega) k e).2 (by rw [e'];rfl)⟩
 ·
  rw [← e0] at hg hu
  obtain ⟨r1,r2,r3⟩:=repl (p:=j * 2) ho hl (by omega) hv hb hs hlt g rfl hg hu
  have hun:∀ k,u0.ownBlock=some k→¬ k=g:=fun k e e'=>by
   have:=(r2 (j * 2) (by simp;omega) k (by rw [getD_set1 (by omega),if_pos rfl];exact e)).2
   exact this (by rw [e'];rfl)
  refine ⟨vs.set (j * 2) u0,by rw [List.length_set];exact r1,by simpa using hl,fun i hi=>?_,hv,r2,r3⟩
  have hi':i<ts.length:=by simpa using hi
  obtain ⟨q0,q1⟩:=he i hi'
  have kept1:∀ p,p<vs.length→¬ p=j * 2→∀ k,(vs.getD p undef).ownBlock=some k→(w1.setCell ⟨g,j * 2,none⟩ u0).heap[k]? = w.heap[k]?:=fun p hp hpj k e=>by
   rw [(Li.grown_set w1 g (j * 2) u0).block k (Nat.lt_of_lt_of_le (hlt p hp k e) hg.size) (fun e2=>by cases e2;exact (hb p hp g e).2 rfl)]
   exact hg.block k (hlt p hp k e) (fun e2=>hs p (j * 2) hp (by omega) hpj k e e2.symm)
  have k1:Li.Own (w1.setCell ⟨g,j * 2,none⟩ u0) 0 (vs.getD (i * 2+1) undef) ts[i].vs:=ownsRow_at q1 (fun k e=>kept1 _ (by omega) (by omega) k e)
  rw [getD_set1 (by omega),getD_set1 (by omega),if_neg (show ¬ i * 2+1=j * 2 by omega)]
  by_cases hij:i=j
  ·
   subst hij
   rw [if_pos rfl,List.getElem_set_self]
   exact ⟨ownsRow_at hw (fun k e=>(Li.grown_set w1 g (i * 2) u0).block k (hw.ge k e).2 (fun e2=>by cases e2;exact hun g e rfl)),k1⟩
  ·
   rw [if_neg (by omega),List.getElem_set_ne (fun e=>hij e.symm)]
   exact ⟨ownsRow_at q0 (fun k e=>kept1 _ (by omega) (by omega) k e),k1⟩
theorem repl1 {w:World} {B:Nat→Prop} {v:Value} {ts:List Kv} (h:OwK w B v ts) (j:Nat) (hj:j<ts.length):∃ a c g a0 c0,v=.slice a ts.length c∧a=some ⟨g,0,none⟩∧w.cell? ⟨g,j * 2+1,none⟩=some (.slice a0 ts[j].vs.length c0)∧w.frozen? ⟨g,j * 2+1,none⟩=false∧Li.Own w 0 (.slice a0 ts[j].vs.length c0) ts[j].vs∧g<w.heap.size∧B g∧(∀ k,(Value.slice a0 ts[j].vs.length c0).ownBlock=some k→B k∧¬ k=g) ∧
  ∀ w1 u0 vs',Li.Own w1 0 u0 vs'→w.grownBy w1 (Value.slice a0 ts[j].vs.length c0).ownBlock→(u0.ownBlock=(Value.slice a0 ts[j].vs.length c0).ownBlock ∨ ∃ F,u0.ownBlock=some F∧w.heap.size≤F∧B F)→OwK (w1.setCell ⟨g,j * 2+1,none⟩ u0) B v (ts.set j ⟨ts[j].ws,vs'⟩):=by
 obtain ⟨vs,ho,hl,he,hv,hb,hs⟩:=h
 have h':=ho
 rcases ho.2 with ⟨rfl,h0⟩ | ⟨g,cap,cur,rfl,hbg,hh,_⟩
 ·
  omega
 obtain ⟨o0,o1⟩:=he j hj
 obtain ⟨a0,c0,e0,i0⟩:=o1.isl
 have hlt:∀ p,p<vs.length→∀ k,(vs.getD p undef).ownBlock=some k→k<w.heap.size:=fun p hp k e=>by
  obtain ⟨i,hi,rfl | rfl⟩:=Kt.half2 (n:=ts.length) (p:=p) (by omega)
  ·
   exact ((he i hi).1.ge k e).2
  ·
   exact ((he i hi).2.ge k e).2
 refine ⟨_,cap,g,a0,c0,rfl,rfl,?_,World.ownsRow.frozenAt h' _,e0 ▸ o1,(Array.getElem?_eq_some_iff.1 hh).1,hv g rfl,fun k e=>?_,fun w1 u0 vs' hw hg hu=>?_⟩
 ·
  rw [World.ownsRow.cellAt h' _ (by omega),← e0]
  simp [List.getElem?_eq_getElem (show j * 2+1<vs.length by omega)]
 ·
  rw [← e0] at e
  exact ⟨(hb _ (by omega) k e).1,fun e'=>(hb _ (by omega) k e).2 (by rw [e'];rfl)⟩
 ·
  rw [← e0] at hg hu
  obtain ⟨r1,r2,r3⟩:=repl (p:=j * 2+1) ho hl (by omega) hv hb hs hlt g rfl hg hu
  have hun:∀ k,u0.ownBlock=some k→¬ k=g:=fun k e e'=>by
   have:=(r2 (j * 2+1) (by simp;omega) k (by rw [getD_set1 (by omega),if_pos rfl];exact e)).2
   exact this (by rw [e'];rfl)
  refine ⟨vs.set (j * 2+1) u0,by rw [List.length_set];exact r1,by simpa using hl,fun i hi=>?_,hv,r2,r3⟩
  have hi':i<ts.length:=by simpa using hi
  obtain ⟨q0,q1⟩:=he i hi'
  have kept1:∀ p,p<vs.length→¬ p=j * 2+1→∀ k,(vs.getD p undef).ownBlock=some k→(w1.setCell ⟨g,j * 2+1,none⟩ u0).heap[k]? = w.heap[k]?:=fun p hp hpj k e=>by
   rw [(Li.grown_set w1 g (j * 2+1) u0).block k (Nat.lt_of_lt_of_le (hlt p hp k e) hg.size) (fun e2=>by cases e2;exact (hb p hp g e).2 rfl)]
   exact hg.block k (hlt p hp k e) (fun e2=>hs p (j * 2+1) hp (by omega) hpj k e e2.symm)
  have k0:Ls.Own (w1.setCell ⟨g,j * 2+1,none⟩ u0) 0 (vs.getD (i * 2) undef) ts[i].ws:=ownsRow_at q0 (fun k e=>kept1 _ (by omega) (by omega) k e)
  rw [getD_set1 (by omega),getD_set1 (by omega),if_neg (show ¬ i * 2=j * 2+1 by omega)]
  by_cases hij:i=j
  ·
   subst hij
   rw [if_pos rfl,List.getElem_set_self]
   exact ⟨k0,ownsRow_at hw (fun k e=>(Li.grown_set w1 g (i * 2+1) u0).block k (hw.ge k e).2 (fun e2=>by cases e2;exact hun g e rfl))⟩
  ·
   rw [if_neg (by omega),List.getElem_set_ne (fun e=>hij e.symm)]
   exact ⟨k0,ownsRow_at q1 (fun k e=>kept1 _ (by omega) (by omega) k e)⟩
end Go.Proofs.YtaojoamldoofpaaGreatDoor.Ps
namespace Go.Proofs.YtaojoamldoofpaaGreatDoor.Hd
variable {P:Program} {ops:Array Oper} {Q:Exit→Act→World→Prop} {md:Region.Mode} {S:World→Prop} {d:Nat}
theorem After.three {i j k:Nat} {oi oj ok:Oper} {n:Nat} {l:Array Bool} {a:Act} {w:World} (hr:Region.ready md ops l=[i,j,k]) (hi:ops[i]? = some oi) (hj:ops[j]? = some oj) (hk:ops[k]? = some ok) (hg:oi.guard=none) (hg':oj.guard=none) (hg2:ok.guard=none)
  (h:∀ K:Act→World→Prop,(∀ a' w',((l.setIfInBounds i true).getD d true=false→S w')→After P md ops Q S d n (l.setIfInBounds i true) a' w'→K a' w')→oi.wp P a w K Q)
  (h':∀ K:Act→World→Prop,(∀ a' w',((l.setIfInBounds j true).getD d true=false→S w')→After P md ops Q S d n (l.setIfInBounds j true) a' w'→K a' w')→oj.wp P a w K Q)
  (h2:∀ K:Act→World→Prop,(∀ a' w',((l.setIfInBounds k true).getD d true=false→S w')→After P md ops Q S d n (l.setIfInBounds k true) a' w'→K a' w')→ok.wp P a w K Q):After P md ops Q S d (n+1) l a w:=by
 refine ⟨fun h0=>(by rw [hr] at h0;simp at h0),fun q hq=>?_⟩
 rw [hr] at hq
 have hwi:Region.wanted oi (yielded ops a.tmps)=true:=by simp [Region.wanted,hg]
 have hwj:Region.wanted oj (yielded ops a.tmps)=true:=by simp [Region.wanted,hg']
 have hwk:Region.wanted ok (yielded ops a.tmps)=true:=by simp [Region.wanted,hg2]
 rcases List.mem_cons.1 hq with rfl | hq
 ·
  unfold wpOp;rw [hi];simp only [hwi,if_true];exact .inl (h _ fun _ _ h1 h2=>⟨h1,h2⟩)
 ·
  rcases List.mem_cons.1 hq with rfl | hq
  ·
   unfold wpOp;rw [hj];simp only [hwj,if_true];exact .inl (h' _ fun _ _ h1 h2=>⟨h1,h2⟩)
  ·
   obtain rfl:=List.mem_singleton.1 hq
   unfold wpOp;rw [hk];simp only [hwk,if_true];exact .inl (h2 _ fun _ _ h1 h2=>⟨h1,h2⟩)
end Go.Proofs.YtaojoamldoofpaaGreatDoor.Hd
