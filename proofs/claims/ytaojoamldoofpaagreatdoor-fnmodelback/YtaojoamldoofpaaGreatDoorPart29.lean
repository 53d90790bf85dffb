/-
  Contracts that the proof leans on, put together in the order in which they build.
-/
import Derived.Test.YtaojoamldoofpaaGreatDoorPart28
set_option linter.unusedVariables false
namespace Go.Proofs.YtaojoamldoofpaaGreatDoor.Rs
set_option maxRecDepth 100000
open Go.RowKit
open Tm (OwnP)
open Rm (pairs pairs_len pairs_get wpl_snocI wp_snocP results_ct)
open Sv (Fr Wr wr2 new2)
def TAns (w:World) (ps:List (List UInt8)) (e:Ending) (w':World):Prop :=
  ((∃ xs ls u0 u1, stree ps false [] [] = some (xs, ls) ∧ e = .returned (.tuple #[.agg #[u0, u1], .bool true]) ∧ OwnP w' w.heap.size u0 (pairs xs) ∧ Li.Own w' w.heap.size u1 ls ∧ ∀ k, u0.ownBlock = some k → u1.ownBlock ≠ some k) ∨
   (stree ps false [] []=none∧e=.returned (.tuple #[.agg #[.slice none 0 0,.slice none 0 0],.bool false])))∧Below w.heap.size w w'
theorem stree_colon {ps:List (List UInt8)} {xs ls:List Int} : stree ([58] :: ps) false xs ls=stree ps true xs ls:=by rw [stree,if_pos ⟨rfl,rfl⟩]
theorem stree_num {p:List UInt8} {ps:List (List UInt8)} {leaf:Bool} {xs ls:List Int} {v:Int} (h:¬ (p=[58]∧leaf=false)) (hv:snum p=some v):stree (p :: ps) leaf xs ls=if leaf=true then stree ps leaf xs (ls ++ [v]) else stree ps leaf (xs ++ [v]) ls:=by rw [stree,if_neg h,hv]
theorem stree_no {p:List UInt8} {ps:List (List UInt8)} {leaf:Bool} {xs ls:List Int} (h:¬ (p=[58]∧leaf=false)) (hv:snum p=none):stree (p :: ps) leaf xs ls=none:=by rw [stree,if_neg h,hv]
theorem own_base {w:World} {base:Nat} {v:Value} {xs:List Int} (h:Li.Own w 0 v xs) (hb:∀ y,v.ownBlock=some y→base≤y):Li.Own w base v xs:=by
 obtain ⟨h1,h2⟩:=h
 refine ⟨h1,?_⟩
 rcases h2 with h2 | ⟨g,cap,cur,rfl,h3,h4⟩
 ·
  exact .inl h2
 ·
  exact .inr ⟨g,cap,cur,rfl,hb g rfl,h4⟩
structure Tw (w wr:World) (R T:Nat) (v l:Value) (xs ls:List Int):Prop where
 br:Wr wr R 0 [.slice none 0 0,.slice none 0 0]
 bt:Wr wr T 0 [.slice none 0 0,l]
 ox:Li.Own wr (T+1) v xs
 ol:Li.Own wr (T+1) l ls
 ap:∀ q,v.ownBlock=some q→l.ownBlock≠some q
 bel:Below w.heap.size w wr
 rt:w.heap.size=R∧R+1=T
theorem Tw.below {w wr w1:World} {R T:Nat} {v l:Value} {xs ls:List Int} (h:Tw w wr R T v l xs ls) (hb:Below wr.heap.size wr w1):Tw w w1 R T v l xs ls :=
 ⟨h.br.below hb,h.bt.below hb,h.ox.below hb,h.ol.below hb,h.ap,h.bel.trans (hb.mono h.bel.size),h.rt⟩
theorem Tw.split {w wr w1:World} {R T:Nat} {v v' l:Value} {xs xs' ls:List Int} (h:Tw w wr R T v l xs ls) (hg:wr.grownBy w1 v.ownBlock) (ho:Li.Own w1 0 v' xs') (hat:v'.ownBlock=v.ownBlock ∨ v'.ownBlock=some wr.heap.size):Tw w w1 R T v' l xs' ls:=by
 have hne:∀ q,q<wr.heap.size→(∀ y,v.ownBlock=some y→¬ y=q)→w1.heap[q]? = wr.heap[q]?:=fun q hq hn=>hg.block q hq (fun e=>hn q e.symm rfl)
 have hge:∀ y,v.ownBlock=some y→T+1≤y:=fun y e=>(h.ox.ge y e).1
 have hT:=h.bt.1
 have hrt:=h.rt
 have hge':∀ y,v'.ownBlock=some y→T+1≤y:=fun y e=>by
  rcases hat with h1 | h1
  ·
   exact hge y (h1 ▸ e)
  ·
   rw [h1] at e;injection e with e;omega
 refine ⟨h.br.keptAt hg.size (hne R h.br.1 (fun y e e2=>by have:=hge y e;omega)),h.bt.keptAt hg.size (hne T hT (fun y e e2=>by have:=hge y e;omega)),own_base ho hge',Tb.ownsRow_at h.ol (fun q e=>hne q (h.ol.ge q e).2 (fun y e1 e2=>by subst e2;exact h.ap y e1 e)),fun q e e2=>?_,h.bel.trans ⟨hg.os,hg.tape,hg.output,hg.size,fun q hq=>hne q (by have:=h.bel.size;omega) (fun y e e2=>by have:=hge y e;omega)⟩,hrt⟩
 rcases hat with h1 | h1
 ·
  exact h.ap q (h1 ▸ e) e2
 ·
  rw [h1] at e;injection e with e;have:=(h.ol.ge q e2).2;omega
theorem Tw.leaf {w wr w1:World} {R T:Nat} {v l l':Value} {xs ls ls':List Int} (h:Tw w wr R T v l xs ls) (hg:wr.grownBy w1 l.ownBlock) (ho:Li.Own w1 0 l' ls') (hat:l'.ownBlock=l.ownBlock ∨ l'.ownBlock=some wr.heap.size):Wr w1 T 0 [.slice none 0 0,l]∧Tw w (w1.setCell ⟨T,1,none⟩ l') R T v l' xs ls':=by
 have hne:∀ q,q<wr.heap.size→(∀ y,l.ownBlock=some y→¬ y=q)→w1.heap[q]? = wr.heap[q]?:=fun q hq hn=>hg.block q hq (fun e=>hn q e.symm rfl)
 have hge:∀ y,l.ownBlock=some y→T+1≤y:=fun y e=>(h.ol.ge y e).1
 have hT:=h.bt.1
 have hrt:=h.rt
 have hge':∀ y,l'.ownBlock=some y→T+1≤y:=fun y e=>by
  rcases hat with h1 | h1
  ·
   exact hge y (h1 ▸ e)
  ·
   rw [h1] at e;injection e with e;omega
 have bt1:Wr w1 T 0 [.slice none 0 0,l]:=h.bt.keptAt hg.size (hne T hT (fun y e e2=>by have:=hge y e;omega))
 have br1:Wr w1 R 0 [.slice none 0 0,.slice none 0 0]:=h.br.keptAt hg.size (hne R h.br.1 (fun y e e2=>by have:=hge y e;omega))
 have ox1:Li.Own w1 (T+1) v xs:=Tb.ownsRow_at h.ox (fun q e=>hne q (h.ox.ge q e).2 (fun y e1 e2=>by subst e2;exact h.ap y e e1))
 have ol1:Li.Own w1 (T+1) l' ls':=own_base ho hge'
 have bel1:Below w.heap.size w w1:=h.bel.trans ⟨hg.os,hg.tape,hg.output,hg.size,fun q hq=>hne q (by have:=h.bel.size;omega) (fun y e e2=>by have:=hge y e;omega)⟩
 refine ⟨bt1,br1.setOther (by omega),bt1.set 1 (by simp) l',Tb.ownsRow_at ox1 (fun q e=>(Li.grown_set w1 T 1 l').block q (ox1.ge q e).2 (fun e2=>by injection e2 with e2;have:=(ox1.ge q e).1;omega)),Tb.ownsRow_at ol1 (fun q e=>(Li.grown_set w1 T 1 l').block q (ol1.ge q e).2 (fun e2=>by injection e2 with e2;have:=(ol1.ge q e).1;omega)),fun q e e2=>?_,bel1.setCell (by show w.heap.size≤T;omega) _,hrt⟩
 rcases hat with h1 | h1
 ·
  exact h.ap q e (h1 ▸ e2)
 ·
  rw [h1] at e2;injection e2 with e2;have:=(h.ox.ge q e).2;omega
set_option maxHeartbeats 4000000 in
theorem strees (w:World) (a:Option Addr) (cap:Nat) (P:List ByteArray) (hi:Ls.IsS w a P) (hl:P.length≤30001) (hz:∀ s ∈ P,s.size≤30000) :
  Calls Tryz.prog 34 #[.slice a P.length cap] w fun e w'=>TAns w (P.map (fun s=>s.data.toList)) e w':=by
 obtain ⟨n,hn⟩:∃ n,P.length=n:=⟨_,rfl⟩
 rw [hn]
 have HN:Hid (P.length=n):=hn
 have hn3:n≤30001:=by omega
 have HI:Hid (type_of% hi):=hi
 have HZ:Hid (type_of% hz):=hz
 have HL:Hid ((P.map (fun s=>s.data.toList)).length=n):=by show _=_;rw [List.length_map];exact hn
 have HE:Hid (∀ k (hk:k<P.length) (hk':k<(P.map (fun s=>s.data.toList)).length),(P.map (fun s=>s.data.toList))[k]'hk'=(P[k]'hk).data.toList):=fun k hk hk'=>by simp
 generalize P.map (fun s=>s.data.toList)=ps at HL HE ⊢
 clear hn hl hi hz
 go_enter Tryz.func34,Tryz.ntmps34
 go_wp2_with fail
 obtain ⟨W,hW,hsW,hB,br,bt⟩:=new2 w [.slice none 0 0,.slice none 0 0] [.slice none 0 0,.slice none 0 0] 56 56
 rw [hW]
 have hA:Below W.heap.size W (W.alloc (.cells #[] 3)):=(Below.refl _ _).alloc (Nat.le_refl _) _
 have ox:=Ap.own_empty W W.heap.size (Nat.le_refl _)
 obtain ⟨R,hR⟩:∃ R,w.heap.size=R:=⟨_,rfl⟩
 obtain ⟨T,hT⟩:∃ T,w.heap.size+1=T:=⟨_,rfl⟩
 have tw0:Tw w (W.alloc (.cells #[] 3)) R T (.slice (some ⟨W.heap.size,0,none⟩) 0 0) (.slice none 0 0) [] [] :=
  ⟨by rw [← hR];exact br.below hA,by rw [← hT];exact bt.below hA,ox.mono (by omega),Li.Own.nil _ _,fun q e e2=>by simp [Value.ownBlock] at e2,hB.trans (hA.mono hB.size),by omega⟩
 have hW1:W.heap.size=T+1:=by omega
 rw [hW1] at tw0
 rw [hT,hR]
 have TW0:Hid (type_of% tw0):=tw0
 have HRT:Hid (w.heap.size=R∧R+1=T):=by show _∧_;omega
 clear hW hsW hB br bt hA ox hR hT tw0 hW1
 go_loopw [5,6,7] (fun v lf i wr=>∃ (k:Nat) (leaf:Bool) (xs ls:List Int) (l:Value),k≤n∧i=.int .i64 k∧lf=.bool leaf∧xs.length+ls.length≤k∧stree ps false [] []=stree (ps.drop k) leaf xs ls∧Tw w wr R T v l xs ls) (fun _ _ i _=>n-(intOf i).toNat)
 case atStart=>exact ⟨0,false,[],[],_,Nat.zero_le _,rfl,rfl,by simp,rfl,TW0.out⟩
 case round =>
  clear TW0
  obtain ⟨k,leaf,xs,ls,l,hk,rfl,rfl,hxl,hst,tw⟩:=hrel
  have HST:Hid (type_of% hst):=hst
  have HTW:Hid (type_of% tw):=tw
  have HXL:Hid (type_of% hxl):=hxl
  clear hst
  by_cases hlt:k<n
  ·
   have HKP:Hid (k<P.length):=by rw [HN.out];exact hlt
   have HKS:Hid (k<ps.length):=by rw [HL.out];exact hlt
   rcases HI.out.below tw.bel with e0 | ⟨xb,xo,rfl,hxb,hxc⟩
   ·
    have:=HKP.out;rw [e0] at this;simp at this
   have d:=hxc k HKP.out
   have hps:=HZ.out _ (List.getElem_mem HKP.out)
   have HDR:Hid (ps.drop k=(P[k]'HKP.out).data.toList :: ps.drop (k+1)):=by show _=_;rw [List.drop_eq_getElem_cons HKS.out,HE.out k HKP.out HKS.out]
   generalize P[k]'HKP.out=p at d hps HDR
   clear hxc tw hxl
   by_cases hc:p=⟨#[58]⟩∧leaf=false
   ·
    obtain ⟨rfl,rfl⟩:=hc
    have HLF:Hid (stree (ps.drop k) false xs ls=stree (ps.drop (k+1)) true xs ls):=by show _=_;rw [HDR.out];exact stree_colon
    go_wp2
    go_roundw
    case rel=>exact ⟨k+1,true,xs,ls,l,by omega,by go_num,rfl,by have:=HXL.out;omega,HST.out.trans HLF.out,HTW.out⟩
    case measure=>simp [intOf];omega
   ·
    have HNC:Hid (¬ (p.data.toList=[58]∧leaf=false)):=fun e=>hc ⟨by obtain ⟨⟨x⟩⟩:=p;exact congrArg (fun x=>ByteArray.mk ⟨x⟩) e.1,e.2⟩
    have hcc:(p.toList == [58])=false ∨ leaf=true:=by
     by_cases h1:p=⟨#[58]⟩
     ·
      right;cases leaf;exact absurd ⟨h1,rfl⟩ hc;rfl
     ·
      left;have:=Ls.tl_ne h1;rw [show (ByteArray.mk #[58]).toList=[58] by kernel_rfl] at this;exact this
    clear hc
    cases leaf with
    | false =>
     have hcf:(p.toList == [58])=false:=hcc.resolve_right (by simp)
     clear hcc
     obtain ⟨av,cv,ev,_⟩:=HTW.out.ox.isl
     obtain ⟨al,cl,el,_⟩:=HTW.out.ol.isl
     subst ev;subst el
     obtain ⟨nx,hnx⟩:∃ nx,xs.length=nx:=⟨_,rfl⟩
     obtain ⟨nl,hnl⟩:∃ nl,ls.length=nl:=⟨_,rfl⟩
     have HNX:Hid (xs.length=nx):=hnx
     have HNL:Hid (ls.length=nl):=hnl
     have HNB:Hid (nx+nl≤k):=by have:=HXL.out;show _≤_;omega
     rw [hnx,hnl] at HTW
     rw [hnx]
     clear hnx hnl
     go_wp2_with fail
     refine (snumc wr p (by omega)).mono ?_
     rintro e w5 ⟨he,hB5⟩
     have HT5:Hid (type_of% (HTW.out.below hB5)):=HTW.out.below hB5
     clear hB5 d hxb
     rcases he with ⟨v,hv,hv0,hv1,rfl⟩ | ⟨hv,v,rfl⟩
     ·
      have HLF:Hid (stree (ps.drop k) false xs ls=stree (ps.drop (k+1)) false (xs ++ [v]) ls):=by show _=_;rw [HDR.out,stree_num (fun e=>HNC.out ⟨e.1,by trivial⟩) hv];rfl
      clear hv
      have HA:Hid (Below w5.heap.size w5 (w5.alloc (.cells #[.int .i64 v] 3))):=(Below.refl _ _).alloc (Nat.le_refl _) _
      have HT6:Hid (type_of% (HT5.out.below HA.out)):=HT5.out.below HA.out
      obtain ⟨htl,⟨t0,t1⟩,g0,g1⟩:=wr2 HT5.out.bt
      go_wp2_with (at_builtin;refine wpl_snocI rfl _ _ rfl av nx cv w5.heap.size _ HNX.out rfl rfl (HT6.out.ox.mono (Nat.zero_le _)) v (by simp) (by have:=HNB.out;omega) ?_;intro a7 c7 w7 hok7 hg7 hat7;have HT7:Hid (type_of% (HT6.out.split hg7 hok7 hat7)):=HT6.out.split hg7 hok7 hat7;clear hok7 hg7 hat7)
      clear t0 t1 g0 g1
      go_wp2
      go_roundw
      case rel=>exact ⟨k+1,false,xs ++ [v],ls,_,by omega,by go_num,rfl,by have h1:=HNX.out;have h2:=HNL.out;have h3:=HNB.out;simp;omega,HST.out.trans HLF.out,HT7.out⟩
      case measure=>simp [intOf];omega
     ·
      have HLF:Hid (stree (ps.drop k) false xs ls=none):=by show _=_;rw [HDR.out];exact stree_no (fun e=>HNC.out ⟨e.1,by trivial⟩) hv
      clear hv
      obtain ⟨hrl,⟨t0,t1⟩,g0,g1⟩:=wr2 HT5.out.br
      go_wp2
      refine bodyPost_ret (v:=.tuple #[.agg #[.slice none 0 0,.slice none 0 0],.bool false]) (by rw [results_ct rfl];go_simp) rfl ⟨.inr ⟨HST.out.trans HLF.out,rfl⟩,?_⟩
      have hr:w.heap.size≤R:=by have:=HRT.out;omega
      exact (HT5.out.bel.setCell hr _).setCell hr _
    | true =>
     clear hcc
     cases hcf:(p.toList == [58]) with
     | false =>
      obtain ⟨av,cv,ev,_⟩:=HTW.out.ox.isl
      obtain ⟨al,cl,el,_⟩:=HTW.out.ol.isl
      subst ev;subst el
      obtain ⟨nx,hnx⟩:∃ nx,xs.length=nx:=⟨_,rfl⟩
      obtain ⟨nl,hnl⟩:∃ nl,ls.length=nl:=⟨_,rfl⟩
      have HNX:Hid (xs.length=nx):=hnx
      have HNL:Hid (ls.length=nl):=hnl
      have HNB:Hid (nx+nl≤k):=by have:=HXL.out;show _≤_;omega
      rw [hnx,hnl] at HTW
      rw [hnx]
      clear hnx hnl
      go_wp2_with fail
      refine (snumc wr p (by omega)).mono ?_
      rintro e w5 ⟨he,hB5⟩
      have HT5:Hid (type_of% (HTW.out.below hB5)):=HTW.out.below hB5
      clear hB5 d hxb
      rcases he with ⟨v,hv,hv0,hv1,rfl⟩ | ⟨hv,v,rfl⟩
      ·
       have HLF:Hid (stree (ps.drop k) true xs ls=stree (ps.drop (k+1)) true xs (ls ++ [v])):=by show _=_;rw [HDR.out,stree_num HNC.out hv];rfl
       clear hv
       have HA:Hid (Below w5.heap.size w5 (w5.alloc (.cells #[.int .i64 v] 3))):=(Below.refl _ _).alloc (Nat.le_refl _) _
       have HT6:Hid (type_of% (HT5.out.below HA.out)):=HT5.out.below HA.out
       obtain ⟨htl,⟨t0,t1⟩,g0,g1⟩:=wr2 HT5.out.bt
       go_wp2_with (at_builtin;refine wpl_snocI rfl _ _ rfl al nl cl w5.heap.size _ HNL.out rfl rfl (HT6.out.ol.mono (Nat.zero_le _)) v (by simp) (by have:=HNB.out;omega) ?_;intro a7 c7 w7 hok7 hg7 hat7;have h7:=HT6.out.leaf hg7 hok7 hat7;have HT7:Hid (type_of% h7.2):=h7.2;obtain ⟨htl7,⟨z0,z1⟩,y0,y1⟩:=wr2 h7.1;clear h7 hok7 hg7 hat7)
       clear t0 t1 g0 g1 z0 z1 y0 y1
       go_wp2
       go_roundw
       case rel=>exact ⟨k+1,true,xs,ls ++ [v],_,by omega,by go_num,rfl,by have h1:=HNX.out;have h2:=HNL.out;have h3:=HNB.out;simp;omega,HST.out.trans HLF.out,HT7.out⟩
       case measure=>simp [intOf];omega
      ·
       have HLF:Hid (stree (ps.drop k) true xs ls=none):=by show _=_;rw [HDR.out];exact stree_no HNC.out hv
       clear hv
       obtain ⟨hrl,⟨t0,t1⟩,g0,g1⟩:=wr2 HT5.out.br
       go_wp2
       refine bodyPost_ret (v:=.tuple #[.agg #[.slice none 0 0,.slice none 0 0],.bool false]) (by rw [results_ct rfl];go_simp) rfl ⟨.inr ⟨HST.out.trans HLF.out,rfl⟩,?_⟩
       have hr:w.heap.size≤R:=by have:=HRT.out;omega
       exact (HT5.out.bel.setCell hr _).setCell hr _
     | true =>
      obtain ⟨av,cv,ev,_⟩:=HTW.out.ox.isl
      obtain ⟨al,cl,el,_⟩:=HTW.out.ol.isl
      subst ev;subst el
      obtain ⟨nx,hnx⟩:∃ nx,xs.length=nx:=⟨_,rfl⟩
      obtain ⟨nl,hnl⟩:∃ nl,ls.length=nl:=⟨_,rfl⟩
      have HNX:Hid (xs.length=nx):=hnx
      have HNL:Hid (ls.length=nl):=hnl
      have HNB:Hid (nx+nl≤k):=by have:=HXL.out;show _≤_;omega
      rw [hnx,hnl] at HTW
      rw [hnx]
      clear hnx hnl
      go_wp2_with fail
      refine (snumc wr p (by omega)).mono ?_
      rintro e w5 ⟨he,hB5⟩
      have HT5:Hid (type_of% (HTW.out.below hB5)):=HTW.out.below hB5
      clear hB5 d hxb
      rcases he with ⟨v,hv,hv0,hv1,rfl⟩ | ⟨hv,v,rfl⟩
      ·
       have HLF:Hid (stree (ps.drop k) true xs ls=stree (ps.drop (k+1)) true xs (ls ++ [v])):=by show _=_;rw [HDR.out,stree_num HNC.out hv];rfl
       clear hv
       have HA:Hid (Below w5.heap.size w5 (w5.alloc (.cells #[.int .i64 v] 3))):=(Below.refl _ _).alloc (Nat.le_refl _) _
       have HT6:Hid (type_of% (HT5.out.below HA.out)):=HT5.out.below HA.out
       obtain ⟨htl,⟨t0,t1⟩,g0,g1⟩:=wr2 HT5.out.bt
       go_wp2_with (at_builtin;refine wpl_snocI rfl _ _ rfl al nl cl w5.heap.size _ HNL.out rfl rfl (HT6.out.ol.mono (Nat.zero_le _)) v (by simp) (by have:=HNB.out;omega) ?_;intro a7 c7 w7 hok7 hg7 hat7;have h7:=HT6.out.leaf hg7 hok7 hat7;have HT7:Hid (type_of% h7.2):=h7.2;obtain ⟨htl7,⟨z0,z1⟩,y0,y1⟩:=wr2 h7.1;clear h7 hok7 hg7 hat7)
       clear t0 t1 g0 g1 z0 z1 y0 y1
       go_wp2
       go_roundw
       case rel=>exact ⟨k+1,true,xs,ls ++ [v],_,by omega,by go_num,rfl,by have h1:=HNX.out;have h2:=HNL.out;have h3:=HNB.out;simp;omega,HST.out.trans HLF.out,HT7.out⟩
       case measure=>simp [intOf];omega
      ·
       have HLF:Hid (stree (ps.drop k) true xs ls=none):=by show _=_;rw [HDR.out];exact stree_no HNC.out hv
       clear hv
       obtain ⟨hrl,⟨t0,t1⟩,g0,g1⟩:=wr2 HT5.out.br
       go_wp2
       refine bodyPost_ret (v:=.tuple #[.agg #[.slice none 0 0,.slice none 0 0],.bool false]) (by rw [results_ct rfl];go_simp) rfl ⟨.inr ⟨HST.out.trans HLF.out,rfl⟩,?_⟩
       have hr:w.heap.size≤R:=by have:=HRT.out;omega
       exact (HT5.out.bel.setCell hr _).setCell hr _
  ·
   obtain rfl:k=n:=by omega
   obtain ⟨av,cv,ev,hix⟩:=HTW.out.ox.isl
   obtain ⟨al,cl,el,_⟩:=HTW.out.ol.isl
   subst ev;subst el
   have HDN:Hid (stree ps false [] []=some (xs,ls)):=by
    show _=_
    rw [HST.out,List.drop_of_length_le (by have:=HL.out;omega)]
    rfl
   obtain ⟨nx,hnx⟩:∃ nx,xs.length=nx:=⟨_,rfl⟩
   obtain ⟨nl,hnl⟩:∃ nl,ls.length=nl:=⟨_,rfl⟩
   have HNX:Hid (xs.length=nx):=hnx
   have hnx3:nx≤30001:=by omega
   rw [hnx,hnl] at HTW
   rw [hnx]
   have HIX:Hid (type_of% hix):=hix
   clear tw hxl hnx hnl hix
   go_wp2_with fail
   obtain ⟨w9,hw9⟩:∃ w9,w9=wr:=⟨_,rfl⟩
   subst hw9
   obtain ⟨M0,hM0⟩:∃ M0,w9.heap.size=M0:=⟨_,rfl⟩
   have HM0:Hid (w9.heap.size=M0):=hM0
   have HTM:Hid (T<M0):=by have:=HTW.out.bt.1;show _<_;omega
   clear hM0
   go_loopw [10] (fun i wr=>∃ (m j:Nat) (ap:Option Addr) (cp:Nat),j=m * 2∧m * 2≤nx∧i=.int .i64 j∧Wr wr T 0 [.slice ap m cp,.slice al nl cl]∧OwnP wr M0 (.slice ap m cp) ((pairs xs).take m)∧Fr (Rm.Fx T M0) w9 wr) (fun i _=>nx+1-(intOf i).toNat)
   case atStart=>exact ⟨0,0,none,0,rfl,Nat.zero_le _,rfl,HTW.out.bt,World.ownsRow_nil _ _ _ _,Fr.refl _ _⟩
   case round =>
    obtain ⟨m,j,ap,cp,hjm,hm,rfl,bt,op,hfr⟩:=hrel
    have HJ:Hid (j=m * 2):=hjm
    have HFR:Hid (type_of% hfr):=hfr
    have HOP:Hid (type_of% op):=op
    have HBT:Hid (type_of% bt):=bt
    obtain ⟨htl,⟨t0,t1⟩,_⟩:=wr2 bt
    by_cases hlt:j+1<nx
    ·
     have hj1:j+1<xs.length:=by rw [HNX.out];exact hlt
     rcases HIX.out with e0 | ⟨xb,xo,rfl,hxb,hxc⟩
     ·
      rw [e0] at hj1;simp at hj1
     have d0:=hxc j (by omega)
     have d1:=hxc (j+1) hj1
     have hxT:T+1≤xb:=(HTW.out.ox.ge xb rfl).1
     have HPL:Hid (m<(pairs xs).length):=by show _<_;rw [pairs_len,HNX.out];omega
     have HTK:Hid ((pairs xs).take (m+1)=(pairs xs).take m ++ [(xs[j],xs[j+1])]):=by
      show _=_
      rw [List.take_succ_eq_append_getElem HPL.out,pairs_get xs m HPL.out (by omega) (by omega)]
      subst hjm
      rfl
     have HTL:Hid (((pairs xs).take m).length=m):=by have:=HPL.out;show _=_;rw [List.length_take];omega
     generalize xs[j]=x at d0 HTK
     generalize xs[j+1]=y at d1 HTK
     have HXC:Hid (∀ X:World,Fr (Rm.Fx T M0) w9 X→X.cell? ⟨xb,xo+j,none⟩=some (.int .i64 x)∧X.cell? ⟨xb,xo+(j+1),none⟩=some (.int .i64 y)):=fun X hX=>by
      have hk:=hX.block xb hxb (by unfold Rm.Fx;have:=HM0.out;omega)
      exact ⟨(World.cell?_of_block (a:=⟨xb,xo+j,none⟩) hk).trans d0,(World.cell?_of_block (a:=⟨xb,xo+(j+1),none⟩) hk).trans d1⟩
     have HSX:Hid (∀ X:World,Below wr.heap.size wr X→X.cell? ⟨T,0,none⟩=some (.slice ap m cp)∧X.cell? ⟨xb,xo+j,none⟩=some (.int .i64 x)∧X.cell? ⟨xb,xo+(j+1),none⟩=some (.int .i64 y)):=fun X hX=>⟨(hX.cell (p:=⟨T,0,none⟩) htl).trans t0,HXC.out X (HFR.out.trans (Rm.fx_below hX))⟩
     have st0:Below wr.heap.size wr wr.drew:=(Below.refl _ _).drew
     have hS:=HSX.out _ st0
     have hw1:IntKind.i64.wrap ((j:Int)+1)=(j:Int)+1:=by rw [IntKind.wrap_i64];omega
     have hw2:IntKind.i64.wrap ((j:Int)+2)=(j:Int)+2:=by rw [IntKind.wrap_i64];omega
     have hjn:(j:Int)<nx:=by omega
     have hjn1:(j:Int)+1<nx:=by omega
     have hj0:(0:Int)≤(j:Int)+1:=by omega
     have hjt:((j:Int)+1).toNat=j+1:=by omega
     have hm3:m≤30001:=by omega
     clear hxc d0 d1 t0 t1 bt op hfr hj1 hjm
     go_wp2_with fail
     refine Hd.start (fun X=>X.cell? ⟨T,0,none⟩=some (.slice ap m cp)∧X.cell? ⟨xb,xo+j,none⟩=some (.int .i64 x)∧X.cell? ⟨xb,xo+(j+1),none⟩=some (.int .i64 y)) 15 (by kernel_rfl) ?_
     generalize wr.drew=w0 at st0 hS ⊢
     refine Hd.After.pureD (i:=0) (some 57) (.pointer (some ⟨T,0,none⟩)) rfl rfl (by kernel_rfl) (by decide) (by kernel_rfl) (by kernel_rfl) (fun _ _ _ h=>h) (hS) (Or.inl ⟨by rfl,?_⟩) ?_
     ·
      intro X;go_simp;try with_reducible rfl
     (first | simp only [Act.put,List.setIfInBounds_toArray,List.set_cons_zero,List.set_cons_succ] | skip)
     refine Hd.After.takeD (i:=1) (some 58) (.slice ap m cp) rfl rfl (by kernel_rfl) (by kernel_rfl) (by kernel_rfl) (by kernel_rfl) (by kernel_rfl) (fun _ _ _ h=>h) (hS) (Or.inl ⟨by rfl,?_⟩) ?_
     ·
      rintro X ⟨s0,s1,s2⟩;go_simp;try with_reducible rfl
     (first | simp only [Act.put,List.setIfInBounds_toArray,List.set_cons_zero,List.set_cons_succ] | skip)
     refine Hd.After.pureD (i:=2) (some 59) (.slice (some ⟨xb,xo,none⟩) nx cv) rfl rfl (by kernel_rfl) (by decide) (by kernel_rfl) (by kernel_rfl) (fun _ _ _ h=>h) (hS) (Or.inl ⟨by rfl,?_⟩) ?_
     ·
      intro X;go_simp;try with_reducible rfl
     (first | simp only [Act.put,List.setIfInBounds_toArray,List.set_cons_zero,List.set_cons_succ] | skip)
     refine Hd.After.pureD (i:=3) (some 60) (.int .i64 j) rfl rfl (by kernel_rfl) (by decide) (by kernel_rfl) (by kernel_rfl) (fun _ _ _ h=>h) (hS) (Or.inl ⟨by rfl,?_⟩) ?_
     ·
      intro X;go_simp;try with_reducible rfl
     (first | simp only [Act.put,List.setIfInBounds_toArray,List.set_cons_zero,List.set_cons_succ] | skip)
     refine Hd.After.pureD (i:=4) (some 61) (.pointer (some ⟨xb,xo+j,none⟩)) rfl rfl (by kernel_rfl) (by decide) (by kernel_rfl) (by kernel_rfl) (fun _ _ _ h=>h) (hS) (Or.inl ⟨by rfl,?_⟩) ?_
     ·
      intro X;go_simp;try with_reducible rfl
     (first | simp only [Act.put,List.setIfInBounds_toArray,List.set_cons_zero,List.set_cons_succ] | skip)
     refine Hd.After.takeD (i:=5) (some 62) (.int .i64 x) rfl rfl (by kernel_rfl) (by kernel_rfl) (by kernel_rfl) (by kernel_rfl) (by kernel_rfl) (fun _ _ _ h=>h) (hS) (Or.inl ⟨by rfl,?_⟩) ?_
     ·
      rintro X ⟨s0,s1,s2⟩;go_simp;try with_reducible rfl
     (first | simp only [Act.put,List.setIfInBounds_toArray,List.set_cons_zero,List.set_cons_succ] | skip)
     refine Hd.After.pureD (i:=6) (some 63) (.slice (some ⟨xb,xo,none⟩) nx cv) rfl rfl (by kernel_rfl) (by decide) (by kernel_rfl) (by kernel_rfl) (fun _ _ _ h=>h) (hS) (Or.inl ⟨by rfl,?_⟩) ?_
     ·
      intro X;go_simp;try with_reducible rfl
     (first | simp only [Act.put,List.setIfInBounds_toArray,List.set_cons_zero,List.set_cons_succ] | skip)
     refine Hd.After.pureD (i:=7) (some 64) (.int .i64 j) rfl rfl (by kernel_rfl) (by decide) (by kernel_rfl) (by kernel_rfl) (fun _ _ _ h=>h) (hS) (Or.inl ⟨by rfl,?_⟩) ?_
     ·
      intro X;go_simp;try with_reducible rfl
     (first | simp only [Act.put,List.setIfInBounds_toArray,List.set_cons_zero,List.set_cons_succ] | skip)
     refine Hd.After.pureD (i:=8) (some 65) (.int .i64 ((j:Int)+1)) rfl rfl (by kernel_rfl) (by decide) (by kernel_rfl) (by kernel_rfl) (fun _ _ _ h=>h) (hS) (Or.inl ⟨by rfl,?_⟩) ?_
     ·
      intro X;go_simp;try with_reducible rfl
     (first | simp only [Act.put,List.setIfInBounds_toArray,List.set_cons_zero,List.set_cons_succ] | skip)
     refine Hd.After.pureD (i:=9) (some 66) (.pointer (some ⟨xb,xo+(j+1),none⟩)) rfl rfl (by kernel_rfl) (by decide) (by kernel_rfl) (by kernel_rfl) (fun _ _ _ h=>h) (hS) (Or.inl ⟨by rfl,?_⟩) ?_
     ·
      intro X;go_simp;try with_reducible rfl
     (first | simp only [Act.put,List.setIfInBounds_toArray,List.set_cons_zero,List.set_cons_succ] | skip)
     refine Hd.After.takeD (i:=10) (some 67) (.int .i64 y) rfl rfl (by kernel_rfl) (by kernel_rfl) (by kernel_rfl) (by kernel_rfl) (by kernel_rfl) (fun _ _ _ h=>h) (hS) (Or.inl ⟨by rfl,?_⟩) ?_
     ·
      rintro X ⟨s0,s1,s2⟩;go_simp;try with_reducible rfl
     (first | simp only [Act.put,List.setIfInBounds_toArray,List.set_cons_zero,List.set_cons_succ] | skip)
     refine Hd.After.pureD (i:=11) (some 68) (.agg #[.int .i64 x,.int .i64 y]) rfl rfl (by kernel_rfl) (by decide) (by kernel_rfl) (by kernel_rfl) (fun _ _ _ h=>h) (hS) (Or.inl ⟨by rfl,?_⟩) ?_
     ·
      intro X;go_simp;try with_reducible rfl
     (first | simp only [Act.put,List.setIfInBounds_toArray,List.set_cons_zero,List.set_cons_succ] | skip)
     have hA:Below w0.heap.size w0 (w0.alloc (.cells #[.int .i64 x,.int .i64 y] 58)):=(Below.refl _ _).alloc (Nat.le_refl _) _
     have st4:=st0.trans (hA.mono st0.size)
     refine Hd.After.one (i:=12) (by kernel_rfl) rfl rfl ?_
     intro K hK
     go_simp
     refine hK _ _ (fun _=>HSX.out _ st4) ?_
     clear hK K
     (first | simp only [Act.put,List.setIfInBounds_toArray,List.set_cons_zero,List.set_cons_succ] | skip)
     refine Hd.After.one (i:=13) (by kernel_rfl) rfl rfl ?_
     intro K hK
     refine wp_snocP _ _ rfl (some 70) rfl M0 ap m cp w0.heap.size ((pairs xs).take m) HTL.out rfl rfl (HOP.out.below st4) (by have:=st4.size;have:=HFR.out.size;have:=HM0.out;omega) x y (by simp) (by simp) (by omega) ?_
     intro a7 c7 w7 hok7 hg7
     rw [← HTK.out] at hok7
     have hf7:Fr (Rm.Fx T M0) w9 w7:=(HFR.out.trans (Rm.fx_below st4)).trans ⟨hg7.os,hg7.tape,hg7.output,hg7.size,fun q hq hn=>hg7.block q hq (fun e=>hn (.inr (HOP.out.ge q e.symm).1))⟩
     have ht7:Wr w7 T 0 [.slice ap m cp,.slice al nl cl]:=(HBT.out.below st4).keptAt hg7.size (hg7.block T (Nat.lt_of_lt_of_le HBT.out.1 st4.size) (fun e=>by have:=(HOP.out.ge T e.symm).1;have:=HTM.out;omega))
     obtain ⟨z2,⟨z0,z00⟩,z1,z11⟩:=wr2 ht7
     have hS7:=HXC.out w7 hf7
     clear hg7
     refine hK _ _ (fun _=>⟨z0,hS7⟩) ?_
     clear hK K
     (first | simp only [Act.put,List.setIfInBounds_toArray,List.set_cons_zero,List.set_cons_succ] | skip)
     refine Hd.After.one (i:=14) (by kernel_rfl) rfl rfl ?_
     intro K hK
     go_simp
     refine hK _ _ (fun _=>⟨z0,hS7⟩) ?_
     clear hK K
     (first | simp only [Act.put,List.setIfInBounds_toArray,List.set_cons_zero,List.set_cons_succ] | skip)
     refine Hd.After.one (i:=15) (by kernel_rfl) rfl rfl ?_
     intro K hK
     go_simp
     refine hK _ _ (fun h=>by cases h) ?_
     clear hK K
     refine Hd.After.done (by kernel_rfl) ?_ _
     have HB8:Hid (Wr (w7.setCell ⟨T,0,none⟩ (.slice a7 (m+1) c7)) T 0 [.slice a7 (m+1) c7,.slice al nl cl]):=ht7.set 0 (by simp) _
     have HO8:Hid (OwnP (w7.setCell ⟨T,0,none⟩ (.slice a7 (m+1) c7)) M0 (.slice a7 (m+1) c7) ((pairs xs).take (m+1))):=hok7.kept (Li.grown_set w7 T 0 _) (.inr (fun e=>by have:=(hok7.ge T e).1;have:=HTM.out;omega))
     have HR8:Hid (Fr (Rm.Fx T M0) w9 (w7.setCell ⟨T,0,none⟩ (.slice a7 (m+1) c7))):=hf7.trans (Rm.fx_set w7 0 _)
     clear st0 hS st4 hA hok7 hf7 ht7 hS7 z0 z00 z1 z11 z2 HSX hw1 hj0 hjt
     go_wp2
     go_roundw
     case rel=>exact ⟨m+1,j+2,a7,c7,by have:=HJ.out;omega,by have:=HJ.out;omega,by go_num,HB8.out,HO8.out,HR8.out⟩
     case measure=>simp [intOf];omega
    ·
     have HTA:Hid ((pairs xs).take m=pairs xs):=by show _=_;rw [List.take_of_length_le];rw [pairs_len,HNX.out];omega
     rw [HTA.out] at HOP
     have hge:¬ (j:Int)+1<nx:=by omega
     have hw1:IntKind.i64.wrap ((j:Int)+1)=(j:Int)+1:=by rw [IntKind.wrap_i64];omega
     have hRT:¬ R=T:=by have:=HRT.out;omega
     have hTR:¬ T=R:=by have:=HRT.out;omega
     have HBR:Hid (Wr wr R 0 [.slice none 0 0,.slice none 0 0]):=HTW.out.br.keptAt hfr.size (hfr.block R HTW.out.br.1 (by unfold Rm.Fx;have:=HRT.out;have:=HTM.out;omega))
     have HOL:Hid (Li.Own wr (T+1) (.slice al nl cl) ls):=Tb.ownsRow_at HTW.out.ol (fun q e=>hfr.block q (HTW.out.ol.ge q e).2 (by have h1:=HTW.out.ol.ge q e;have h2:=HM0.out;unfold Rm.Fx;omega))
     have HBL:Hid (Below w.heap.size w wr):=HTW.out.bel.trans ⟨hfr.os,hfr.tape,hfr.output,hfr.size,fun q hq=>hfr.block q (by have:=HTW.out.bel.size;omega) (by unfold Rm.Fx;have:=HRT.out;have:=HTM.out;omega)⟩
     obtain ⟨hrl,⟨r0,r1⟩,f0,f1⟩:=wr2 HBR.out
     clear hjm bt op hfr
     go_wp2
     refine bodyPost_ret (v:=.tuple #[.agg #[.slice ap m cp,.slice al nl cl],.bool true]) (by rw [results_ct rfl];go_simp) rfl ⟨.inl ⟨xs,ls,_,_,HDN.out,rfl,?_,?_,fun q e e2=>?_⟩,?_⟩
     ·
      have hR:=HRT.out
      have hT:=HTM.out
      have h1:OwnP (wr.setCell ⟨R,0,none⟩ (.slice ap m cp)) M0 (.slice ap m cp) (pairs xs):=HOP.out.kept (Li.grown_set _ R 0 _) (.inr (fun e=>by have:=(HOP.out.ge R e).1;omega))
      exact (h1.kept (Li.grown_set _ R 1 _) (.inr (fun e=>by have:=(h1.ge R e).1;omega))).mono (by omega)
     ·
      have hR:=HRT.out
      have h1:Li.Own (wr.setCell ⟨R,0,none⟩ (.slice ap m cp)) (T+1) (.slice al nl cl) ls:=HOL.out.kept (Li.grown_set _ R 0 _) (.inr (fun e=>by have:=(HOL.out.ge R e).1;omega))
      exact (h1.kept (Li.grown_set _ R 1 _) (.inr (fun e=>by have:=(h1.ge R e).1;omega))).mono (by omega)
     ·
      have h1:=(HOP.out.ge q e).1
      have h2:=(HTW.out.ol.ge q e2).2
      have h3:=HM0.out
      omega
     ·
      have hr:w.heap.size≤R:=by have:=HRT.out;omega
      exact (HBL.out.setCell hr _).setCell hr _
end Go.Proofs.YtaojoamldoofpaaGreatDoor.Rs
namespace Go.Proofs.YtaojoamldoofpaaGreatDoor.Rs
set_option maxRecDepth 100000
open Go.RowKit
open Md (M OwM)
open Kt (Kv OwK ksz)
open To (OwT)
open Tm (szT szt)
open Sv (Fr fr_below fr_grown Wr)
open Rm (Fx fx_set fx_below om_set om_ks splitK splitT St zero addW wModel wCtr wTree pairs pairs_len Ok ksz_app szT_app ksz_set)
def mcells (m:M) (ak:Option Addr) (ck:Nat) (ax:Option Addr) (ct:Nat):List Value:=[.int .i64 m.n,.int .i64 m.c,.int .i64 m.prior,.int .i64 m.base,.slice ak m.ks.length ck,.slice ax m.ts.length ct]
structure Gm (w:World) (b lo:Nat) (m:M) (ak:Option Addr) (ck:Nat) (ax:Option Addr) (ct:Nat):Prop where
 bx:Wr w b 0 (mcells m ak ck ax ct)
 om:OwM w (fun y=>lo≤y) (.slice ak m.ks.length ck) (.slice ax m.ts.length ct) m
 bl:b<lo
 sz:lo≤w.heap.size
theorem Gm.below {w w1:World} {b lo:Nat} {m:M} {ak ax:Option Addr} {ck ct:Nat} (h:Gm w b lo m ak ck ax ct) (hb:Below w.heap.size w w1):Gm w1 b lo m ak ck ax ct :=
 ⟨h.bx.below hb,h.om.below hb,h.bl,Nat.le_trans h.sz hb.size⟩
def mK (m:M) (ks:List Kv):M:=⟨m.n,m.c,m.prior,m.base,ks,m.ts⟩
theorem gm_w0 {w:World} {b lo:Nat} {m:M} {ak ax:Option Addr} {ck ct:Nat} (hg:Gm w b lo m ak ck ax ct) (j:Nat) (hj:j<m.ks.length) :
  ∃ g a0 c0,ak=some ⟨g,0,none⟩∧w.cell? ⟨g,j * 2,none⟩=some (.slice a0 m.ks[j].ws.length c0)∧w.frozen? ⟨g,j * 2,none⟩=false∧Ls.Own w 0 (.slice a0 m.ks[j].ws.length c0) m.ks[j].ws∧g<w.heap.size∧lo≤g∧(∀ k,(Value.slice a0 m.ks[j].ws.length c0).ownBlock=some k→lo≤k∧¬ k=g) ∧
  ∀ wA w1 u0 xs',Below w.heap.size w wA→Ls.Own w1 0 u0 xs'→wA.grownBy w1 (Value.slice a0 m.ks[j].ws.length c0).ownBlock→(u0.ownBlock=(Value.slice a0 m.ks[j].ws.length c0).ownBlock ∨ u0.ownBlock=some wA.heap.size) →
   Gm (w1.setCell ⟨g,j * 2,none⟩ u0) b lo (mK m (m.ks.set j ⟨xs',m.ks[j].vs⟩)) ak ck ax ct∧Fr (Fx b lo) w (w1.setCell ⟨g,j * 2,none⟩ u0):=by
 obtain ⟨P,h0,_⟩:=hg.om
 obtain ⟨a,c,g,a0,c0,e1,rfl,hc,hf,ho,hgl,hBg,hkn,_⟩:=Ps.repl0 h0 j hj
 injection e1 with e1 _ e2
 subst e1;subst e2
 refine ⟨g,a0,c0,rfl,hc,hf,ho,hgl,hBg.1,fun k e=>⟨(hkn k e).1.1,(hkn k e).2⟩,fun wA w1 u0 xs' hA hw hgr hu=>?_⟩
 obtain ⟨B',hB1,hB2,hB3,hB4⟩:=splitK hg.om hA hg.sz
 obtain ⟨a',c',g',a0',c0',e1,rfl,hc',_,_,_,hBg',hkn',hrep⟩:=Ps.repl0 (hB3.mono (fun y hy=>hy.1)) j hj
 injection e1 with e1 _ e2
 injection e1 with e1
 injection e1 with e1 _ _
 subst e1;subst e2
 rw [hA.cell (p:=⟨g,j * 2,none⟩) hgl,hc] at hc'
 injection hc' with hc'
 injection hc' with e3 _ e4
 subst e3;subst e4
 have hk:=hrep w1 u0 xs' hw hgr (hu.imp id (fun e=>⟨_,e,Nat.le_refl _,hB1 _ hA.size⟩))
 have hFr:Fr B' wA (w1.setCell ⟨g,j * 2,none⟩ u0):=by
  refine Fr.trans ⟨hgr.os,hgr.tape,hgr.output,hgr.size,fun k hk hn=>hgr.block k hk (fun e=>hn (hkn' k e.symm).1)⟩ (fr_grown (Li.grown_set w1 g (j * 2) u0) hBg')
 have hbn:¬ B' b:=fun e=>by have:=hB2 b e;have:=hg.bl;omega
 refine ⟨⟨?_,?_,hg.bl,?_⟩,?_⟩
 ·
  have h1:=(hg.bx.below hA).keptAt hFr.size (hFr.block b (Nat.lt_of_lt_of_le hg.bx.1 hA.size) hbn)
  simpa [mcells,mK] using h1
 ·
  have h1:=hB4 _ (.slice (some ⟨g,0,none⟩) m.ks.length ck) (mK m (m.ks.set j ⟨xs',m.ks[j].vs⟩)) rfl hFr hk
  simpa [mK] using h1
 ·
  have h1:=hFr.size
  have h2:=hA.size
  have h3:=hg.sz
  omega
 ·
  exact (fx_below hA).trans (hFr.mono (fun y hy=>.inr (hB2 y hy)))
theorem gm_w1 {w:World} {b lo:Nat} {m:M} {ak ax:Option Addr} {ck ct:Nat} (hg:Gm w b lo m ak ck ax ct) (j:Nat) (hj:j<m.ks.length) :
  ∃ g a0 c0,ak=some ⟨g,0,none⟩∧w.cell? ⟨g,j * 2+1,none⟩=some (.slice a0 m.ks[j].vs.length c0)∧w.frozen? ⟨g,j * 2+1,none⟩=false∧Li.Own w 0 (.slice a0 m.ks[j].vs.length c0) m.ks[j].vs∧g<w.heap.size∧lo≤g∧(∀ k,(Value.slice a0 m.ks[j].vs.length c0).ownBlock=some k→lo≤k∧¬ k=g) ∧
  ∀ wA w1 u0 xs',Below w.heap.size w wA→Li.Own w1 0 u0 xs'→wA.grownBy w1 (Value.slice a0 m.ks[j].vs.length c0).ownBlock→(u0.ownBlock=(Value.slice a0 m.ks[j].vs.length c0).ownBlock ∨ u0.ownBlock=some wA.heap.size) →
   Gm (w1.setCell ⟨g,j * 2+1,none⟩ u0) b lo (mK m (m.ks.set j ⟨m.ks[j].ws,xs'⟩)) ak ck ax ct∧Fr (Fx b lo) w (w1.setCell ⟨g,j * 2+1,none⟩ u0):=by
 obtain ⟨P,h0,_⟩:=hg.om
 obtain ⟨a,c,g,a0,c0,e1,rfl,hc,hf,ho,hgl,hBg,hkn,_⟩:=Ps.repl1 h0 j hj
 injection e1 with e1 _ e2
 subst e1;subst e2
 refine ⟨g,a0,c0,rfl,hc,hf,ho,hgl,hBg.1,fun k e=>⟨(hkn k e).1.1,(hkn k e).2⟩,fun wA w1 u0 xs' hA hw hgr hu=>?_⟩
 obtain ⟨B',hB1,hB2,hB3,hB4⟩:=splitK hg.om hA hg.sz
 obtain ⟨a',c',g',a0',c0',e1,rfl,hc',_,_,_,hBg',hkn',hrep⟩:=Ps.repl1 (hB3.mono (fun y hy=>hy.1)) j hj
 injection e1 with e1 _ e2
 injection e1 with e1
 injection e1 with e1 _ _
 subst e1;subst e2
 rw [hA.cell (p:=⟨g,j * 2+1,none⟩) hgl,hc] at hc'
 injection hc' with hc'
 injection hc' with e3 _ e4
 subst e3;subst e4
 have hk:=hrep w1 u0 xs' hw hgr (hu.imp id (fun e=>⟨_,e,Nat.le_refl _,hB1 _ hA.size⟩))
 have hFr:Fr B' wA (w1.setCell ⟨g,j * 2+1,none⟩ u0):=by
  refine Fr.trans ⟨hgr.os,hgr.tape,hgr.output,hgr.size,fun k hk hn=>hgr.block k hk (fun e=>hn (hkn' k e.symm).1)⟩ (fr_grown (Li.grown_set w1 g (j * 2+1) u0) hBg')
 have hbn:¬ B' b:=fun e=>by have:=hB2 b e;have:=hg.bl;omega
 refine ⟨⟨?_,?_,hg.bl,?_⟩,?_⟩
 ·
  have h1:=(hg.bx.below hA).keptAt hFr.size (hFr.block b (Nat.lt_of_lt_of_le hg.bx.1 hA.size) hbn)
  simpa [mcells,mK] using h1
 ·
  have h1:=hB4 _ (.slice (some ⟨g,0,none⟩) m.ks.length ck) (mK m (m.ks.set j ⟨m.ks[j].ws,xs'⟩)) rfl hFr hk
  simpa [mK] using h1
 ·
  have h1:=hFr.size
  have h2:=hA.size
  have h3:=hg.sz
  omega
 ·
  exact (fx_below hA).trans (hFr.mono (fun y hy=>.inr (hB2 y hy)))
theorem addw1 {ks:List Kv} {q:Nat} (hq:q<ks.length) (hl:q+1=ks.length) (r:ByteArray) (v:Int) (hq':q<(ks.set q ⟨ks[q].ws,ks[q].vs ++ [v]⟩).length) :
  (ks.set q ⟨ks[q].ws,ks[q].vs ++ [v]⟩).set q ⟨((ks.set q ⟨ks[q].ws,ks[q].vs ++ [v]⟩)[q]'hq').ws ++ [r],((ks.set q ⟨ks[q].ws,ks[q].vs ++ [v]⟩)[q]'hq').vs⟩=addW ks r v:=by
 unfold addW
 have e:ks.length-1=q:=by omega
 rw [e]
 simp [List.getD_eq_getElem?_getD,List.getElem?_eq_getElem hq]
theorem sok_line {st st':St} {l:List UInt8} {n:Nat} (h:Ok st n) (e:sLine st l=some st'):Ok st' (n+l.length+3):=by
 obtain ⟨h1,h2⟩:=h
 have hp:=Pc.pieces_len 32 l
 unfold sLine at e
 by_cases hl:0<st.left
 ·
  rw [if_pos hl] at e
  cases hn:snum ((Pc.pieces 32 l).headD []) with
  | none=>rw [hn] at e;cases e
  | some v =>
   rw [hn] at e
   simp only at e
   split at e
   ·
    cases e
   ·
    injection e with e
    subst e
    have:=ksz_set st.m.ks (st.m.ks.length-1) ⟨(l.drop (((Pc.pieces 32 l).headD []).length+1)).toArray⟩ v
    have hr:(ByteArray.mk (l.drop (((Pc.pieces 32 l).headD []).length+1)).toArray).size=(l.drop (((Pc.pieces 32 l).headD []).length+1)).length:=by simp [ByteArray.size]
    rw [hr,List.length_drop] at this
    refine ⟨?_,fun _=>?_⟩
    ·
     unfold M.sz at h1 ⊢
     simp only [addW,List.length_set]
     omega
    ·
     simp only [addW,List.length_set]
     exact h2 hl
 ·
  rw [if_neg hl] at e
  split at e
  ·
   split at e
   ·
    injection e with e
    subst e
    exact ⟨by unfold M.sz at h1 ⊢;show _≤_;simp only;omega,fun hx=>absurd hx hl⟩
   ·
    cases e
  ·
   split at e
   ·
    split at e
    ·
     split at e
     ·
      injection e with e
      subst e
      refine ⟨?_,fun _=>by simp⟩
      unfold M.sz at h1 ⊢
      simp only [ksz_app,List.length_append,List.length_singleton,List.length_nil,Tb.lets]
      omega
     ·
      cases e
    ·
     cases e
   ·
    split at e
    ·
     split at e
     ·
      rename_i a l' ha
      injection e with e
      subst e
      have h3:=stree_len _ _ _ _ _ _ ha
      have h4:=pairs_len a
      simp only [List.length_nil,List.length_tail] at h3
      refine ⟨?_,fun hx=>absurd hx hl⟩
      unfold M.sz at h1 ⊢
      simp only [szT_app,List.length_append,List.length_singleton,szt]
      omega
     ·
      cases e
    ·
     injection e with e
     subst e
     exact ⟨by omega,h2⟩
theorem srd_some {st st':St} {l:List UInt8} {ls:List (List UInt8)} (h:sLine st l=some st'):srd (l :: ls) st=srd ls st':=by rw [srd,h]
theorem srd_none {st:St} {l:List UInt8} {ls:List (List UInt8)} (h:sLine st l=none):srd (l :: ls) st=none:=by rw [srd,h]
end Go.Proofs.YtaojoamldoofpaaGreatDoor.Rs
