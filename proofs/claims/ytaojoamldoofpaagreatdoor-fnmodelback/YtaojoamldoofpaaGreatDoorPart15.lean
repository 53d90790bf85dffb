/-
  Contracts that the proof leans on, put together in the order in which they build.
-/
import Derived.Test.YtaojoamldoofpaaGreatDoorPart14
import Derived.Test.YtaojoamldoofpaaGreatDoorPart8
import Derived.Test.YtaojoamldoofpaaGreatDoorPart10
import Derived.Test.YtaojoamldoofpaaGreatDoorRows
import Derived.WalkKit
import Derived.Deep.QuietTactic
import Derived.BigQuiet
import Derived.Below
import Derived.OpenShut
set_option linter.unusedVariables false
namespace Go.Proofs.YtaojoamldoofpaaGreatDoor.Kt
set_option maxRecDepth 20000
open Go.RowKit
open Tb
open Tk
open Co
open Wd (dictOf dictOf_mem dictOf_len)
open Wc (wcols tok_c IsCb OC)
open Vc (wcols_le wcols_len wcols_word labels_yes labs_lok)
open Sv (Fr fr_below new1 wr2 Wr)
open Li (below_none)
theorem owk_none (w:World):OwK (w.alloc (.cells #[] 47)) (fun y=>y=w.heap.size) (.slice (some ⟨w.heap.size,0,none⟩) 0 0) [] :=
 ⟨[],World.ownsRow_made w #[] 0 (Nat.zero_le _) (by unfold maxLen;omega) (by simp),rfl,fun j h=>by simp at h,fun k hk=>by simp [Value.ownBlock] at hk;omega,fun p h=>by simp at h,fun p q h=>by simp at h⟩
theorem one_cell (w:World) (T:TypeId) (x:Int):∀ j u,([Value.int .i64 x]:List Value)[j]? = some u→(w.alloc (.cells #[.int .i64 x] T)).cell? ((⟨w.heap.size,0,none⟩:Addr).add j)=some u:=by
 intro j u hj
 match j,hj with
 | 0,hj=>simp at hj;subst hj;simp [Addr.add]
theorem one_one (x:Int):∀ u ∈ ([Value.int .i64 x]:List Value),u.oneCell'=true:=by
 intro u hu;simp at hu;subst hu;rfl
theorem own_snoc {w:World} {base n:Nat} {v:Value} {l:List Int} {x:Int} (hn:l.length=n) (h:w.ownsRow base 3 1 v (n+1) (Li.iv l ++ [.int .i64 x])):Li.Own w base v (l ++ [x]):=by
 subst hn
 unfold Li.Own
 rw [← Li.iv_append,List.length_append]
 exact h
set_option maxHeartbeats 8000000 in
theorem stabs (w:World) (n c:Int) (a:Option Addr) (cap:Nat) (rs:List Row) (k:Cf.C) (hx:IsR w a rs) (hl:rs.length+szR rs≤1048576) :
    Calls Tryz.prog 73 #[.agg #[.int .i64 n,.int .i64 c,.slice a rs.length cap],.agg #[.int .i64 k.trees,.int .i64 k.depth,.int .i64 k.most,.int .i64 k.rate,.int .i64 k.l2,.int .i64 k.prior,.int .i64 k.seed]] w fun e w'=>∃ v,e=.returned (.tuple #[v,.bool (tok n c rs && Cf.cok k)])∧OwK w' (fun q=>w.heap.size≤q∧q<w'.heap.size) v (ktabs n c rs k)∧Below w.heap.size w w':=by
  obtain ⟨i0,hi,hz0,hz1,hz2⟩:=info_parts info_tab
  obtain ⟨j0,hj,jz0,jz1,jz2⟩:=info_parts Li.info_int
  go_enter Tryz.func73,Tryz.ntmps73
  go_wp2_with fail
  obtain ⟨W1,hW,hsz,hB,bx⟩:=box3_new' w (.int .i64 n) (.int .i64 c) (.slice a rs.length cap) 79
  rw [hW]
  clear hW
  obtain ⟨W2,hW2,hsz2,hb2,bc⟩:=Cf.bx_new W1 k 82
  rw [hW2]
  clear hW2
  rw [hsz] at bc
  have bx:=bx.below hb2
  have hB:=hB.trans (hb2.mono hB.size)
  have st:=owk_none W2
  obtain ⟨W,hW3⟩:∃ W,W2.alloc (.cells #[] 47)=W:=⟨_,rfl⟩
  have hb3:Below W2.heap.size W2 W:=by rw [← hW3];exact (Below.refl _ _).alloc (Nat.le_refl _) _
  have hsz3:W.heap.size=W2.heap.size+1:=by rw [← hW3];simp
  rw [hW3] at st ⊢
  clear hW3
  have bx:=bx.below hb3
  have bc:=bc.below hb3 (by omega)
  have hB:=hB.trans (hb3.mono hB.size)
  have hG2:W2.heap.size=w.heap.size+2:=by omega
  rw [hG2] at st
  have hszW:w.heap.size+2<W.heap.size:=by omega
  clear hsz hsz2 hb2 hb3 hsz3 hG2
  refine (stab _ _ _ _ _ rs (hx.below hB) hl).mono ?_
  rintro e w1 ⟨rfl,hb⟩
  have bx:=bx.below hb
  have bc:=bc.below hb (by omega)
  have st:=st.below hb
  have hB:=hB.trans (hb.mono hB.size)
  have hszW:w.heap.size+2<w1.heap.size:=by have:=hb.size;omega
  clear hb
  obtain ⟨_,d0,d1,d2,d3,d4,d5,d6⟩:=id bc
  cases ht:tok n c rs
  · have HM : Hid (ktabs n c rs k = []) := ktabs_no (by rw [ht]; simp)
    have HV:Hid ((tok n c rs && Cf.cok k)=false):=by show _=_;rw [ht];rfl
    go_wp2
    refine bodyPost_ret (v:=.tuple #[.slice (some ⟨w.heap.size+2,0,none⟩) 0 0,.bool false]) (by simp [results,Tryz.results73,go_sem]) rfl ?_
    exact ⟨.slice (some ⟨w.heap.size+2,0,none⟩) 0 0,by rw [HV.out],by rw [HM.out];exact st.mono (fun y hy=>by omega),hB⟩
  go_wp2_with fail
  refine (Cf.scok _ _).mono ?_
  rintro e w2 ⟨rfl,hb⟩
  have bx:=bx.below hb
  have bc:=bc.below hb (by omega)
  have st:=st.below hb
  have hB:=hB.trans (hb.mono hB.size)
  have hszW:w.heap.size+2<w2.heap.size:=by have:=hb.size;omega
  clear hb d0 d1 d2 d3 d4 d5 d6
  cases hk:Cf.cok k
  · have HM : Hid (ktabs n c rs k = []) := ktabs_no (by rw [hk]; simp)
    have HV:Hid ((tok n c rs && Cf.cok k)=false):=by show _=_;rw [ht,hk];rfl
    go_wp2
    refine bodyPost_ret (v:=.tuple #[.slice (some ⟨w.heap.size+2,0,none⟩) 0 0,.bool false]) (by simp [results,Tryz.results73,go_sem]) rfl ?_
    exact ⟨.slice (some ⟨w.heap.size+2,0,none⟩) 0 0,by rw [HV.out],by rw [HM.out];exact st.mono (fun y hy=>by omega),hB⟩
  have HM:Hid (ktabs n c rs k=tabsN (wcols c rs).length c rs k.prior):=ktabs_yes ht hk
  have HV:Hid ((tok n c rs && Cf.cok k)=true):=by show _=_;rw [ht,hk];rfl
  have HT:Hid (tok n c rs=true):=ht
  have HLA:Hid (labels n c rs=labs rs):=labels_yes ht
  have HWL:Hid (∀ j (hj:j<(wcols c rs).length),(wcols c rs)[j].length=rs.length):=fun j hj=>wcols_len ht j hj
  have hw3:=wcols_le ht
  obtain ⟨⟨n0,n3⟩,⟨c0,c2⟩,h40⟩:=tok_c ht
  have hlab:(labs rs).length≤1048577:=by rw [labs_length];omega
  clear ht hk
  obtain ⟨_,⟨cx0,cx1,cx2⟩,_⟩:=id bx
  go_wp2_with fail
  refine (Wc.swc _ _ _ _ _ rs (hx.below hB) hl HT.out).mono ?_
  rintro e w4 ⟨vc,rfl,oc,hb⟩
  have bx:=bx.below hb
  have bc:=bc.below hb (by omega)
  have st:=st.below hb
  have hB:=hB.trans (hb.mono hB.size)
  have h24:=hb.size
  clear hb cx0 cx1 cx2
  obtain ⟨ac,cc,rfl,ic⟩:=oc.iscb
  clear oc
  go_wp2
  go_loopw [6,8] (fun v i wr=>∃ q:Nat,q≤(wcols c rs).length∧i=.int .i64 q∧OwK wr (fun y=>y=w.heap.size+2 ∨ w4.heap.size≤y) v (tabsN q c rs k.prior)∧Fr (fun y=>y=w.heap.size+2 ∨ w4.heap.size≤y) w4 wr) (fun _ i _=>(wcols c rs).length-(intOf i).toNat)
  case atStart=>exact ⟨0,Nat.zero_le _,rfl,st.mono (fun y hy=>.inl hy),Fr.refl _ _⟩
  case round =>
    obtain ⟨q,hq,rfl,ok,hf⟩:=hrel
    have hs4:=hf.size
    have hBw:Below w.heap.size w wr:=hB.trans (hf.bel (fun y hy=>by omega) hB.size)
    by_cases hlt:q<(wcols c rs).length
    · rcases ic.same hf.size (fun y h1 h2 => hf.block y h2 (by omega)) with h0 | ⟨cb, co, rfl, ⟨hcl, hcb⟩, hcc⟩
      · rw [h0] at hlt;simp at hlt
      obtain ⟨a',c',dq,iq,_⟩:=hcc q hlt
      have hlq:=HWL.out q hlt
      have HSN:Hid (tabsN (q+1) c rs k.prior=tabsN q c rs k.prior ++ [tab (wcols c rs)[q] (labs rs) k.prior]):=tabsN_snoc q c rs k.prior hlt
      have hcq:=tabsN_length q c rs k.prior hq
      obtain ⟨ws,hws⟩:∃ ws,(wcols c rs)[q]=ws:=⟨_,rfl⟩
      rw [hws] at dq iq hlq HSN
      have hlq40:ws.length≤40:=by omega
      obtain ⟨pre,hpre⟩:∃ pre,tabsN q c rs k.prior=pre:=⟨_,rfl⟩
      rw [hpre] at ok HSN hcq
      have hp3:pre.length≤3:=by omega
      have bxr:=bx.keptAt hf.size (hf.block _ bx.1 (by omega))
      have bcr:=bc.kept hf.size (hf.block _ bc.1 (by omega))
      obtain ⟨wo,rfl⟩:∃ wo,wo=wr:=⟨_,rfl⟩
      have okm:=ok.bound
      clear hcc hws hpre hlq hcq ok
      go_wp2_with fail
      refine (Di.sdict _ _ _ ws iq (by omega)).mono ?_
      rintro e w5 ⟨vd,rfl,od,hb⟩
      have okm:=okm.below hb
      have dq:=(hb.cell (p:=⟨cb,co+q,none⟩) hcb).trans dq
      have iq:=iq.below hb
      have bxr:=bxr.below hb
      have bcr:=bcr.below hb (by omega)
      have hBw:=hBw.trans (hb.mono hBw.size)
      have hf:=hf.trans (fr_below hb)
      have ho5:=hb.size
      have hcb5:cb<w5.heap.size:=by omega
      clear hb
      have hdl:(dictOf ws).length≤40:=by have:=dictOf_len ws;omega
      obtain ⟨t,ht⟩:∃ t,tab ws (labs rs) k.prior=t:=⟨_,rfl⟩
      have HTW:Hid (dictOf ws=t.ws):=by show _=_;rw [← ht];rfl
      have HTV:Hid (t.vs.length=t.ws.length∧∀ j (hj:j<t.ws.length) (hj':j<t.vs.length),t.vs[j]=Ct.oNum ws (labs rs) t.ws[j] k.prior):=by
        show _∧_
        subst ht
        exact ⟨by simp [tab],fun j hj hj'=>by simp [tab]⟩
      rw [ht] at HSN
      rw [HTW.out] at od hdl
      clear ht
      obtain ⟨ad,cd,rfl,idd⟩:=od.iss
      go_wp2
      obtain ⟨w6,hw6,hsz6,hb6,bv⟩:=new1 w5 [.slice ad t.ws.length cd,.slice none 0 0] 47
      rw [hw6]
      clear hw6
      obtain ⟨D,hD⟩:∃ D,w5.heap.size=D:=⟨_,rfl⟩
      have HD:Hid (w5.heap.size=D):=hD
      rw [hD] at bv hsz6 hcb5 ho5 ⊢
      have hb6:Below D w5 w6:=by rw [← hD];exact hb6
      clear hD
      go_loopw [10] (fun i wr=>∃ j:Nat,j≤t.ws.length∧i=.int .i64 j∧∃ vv,Wr wr D 0 [.slice ad t.ws.length cd,vv]∧Li.Own wr (D+1) vv (t.vs.take j)∧Below D w5 wr) (fun i _=>t.ws.length-(intOf i).toNat)
      case atStart=>exact ⟨0,Nat.zero_le _,rfl,_,bv,by simpa using Li.Own.nil _ _,hb6⟩
      case round =>
        obtain ⟨j,hj',rfl,vv,bv,ov,hbD⟩:=hrel
        have hbo:Below w5.heap.size w5 wr:=by rw [HD.out];exact hbD
        obtain ⟨hDw,⟨dv0,dv1⟩,fv0,fv1⟩:=wr2 bv
        by_cases hjl:j<t.ws.length
        · rcases idd.below hbo with h0 | ⟨db, dd, rfl, hdb, hdc⟩
          · rw [h0] at hjl;simp at hjl
          have dd0:=hdc j hjl
          have hjv:j<t.vs.length:=by have:=HTV.out.1;omega
          have hval:=HTV.out.2 j hjl hjv
          have HTK:Hid (t.vs.take (j+1)=t.vs.take j ++ [t.vs[j]]):=List.take_succ_eq_append_getElem hjv
          rw [hval] at HTK
          obtain ⟨s,hs⟩:∃ s,t.ws[j]=s:=⟨_,rfl⟩
          rw [hs] at dd0 HTK
          have htl:(t.vs.take j).length≤40:=by simp;omega
          obtain ⟨tk,htk⟩:∃ tk,t.vs.take j=tk:=⟨_,rfl⟩
          rw [htk] at ov HTK htl
          have HBX:Hid (Box3 wr w.heap.size (.int .i64 n) (.int .i64 c) (.slice a rs.length cap)):=bxr.below hbo
          have HBC:Hid (Cf.Bx wr (w.heap.size+1) k):=bcr.below hbo (by rw [HD.out];omega)
          have hcbr:cb<wr.heap.size:=by have:=hbo.size;rw [HD.out] at this;omega
          have eq:=(hbo.cell (p:=⟨cb,co+q,none⟩) (by show cb<_;rw [HD.out];exact hcb5)).trans dq
          have HIQ:Hid (Ls.IsS wr a' ws):=iq.below hbo
          have HXR:Hid (IsR wr a rs):=hx.below (hBw.trans (hbo.mono hBw.size))
          have HBV:Hid (Wr wr D 0 [.slice (some ⟨db,dd,none⟩) t.ws.length cd,vv]):=bv
          have HOV:Hid (Li.Own wr (D+1) vv tk):=ov
          have HBO:Hid (Below D w5 wr):=hbD
          have HBD:Hid (Below wr.heap.size wr wr.drew):=(Below.refl wr.heap.size wr).drew
          obtain ⟨_,⟨x0,x1,x2⟩,_⟩:=id HBX.out
          obtain ⟨_,_,_,_,_,_,y5,_⟩:=id HBC.out
          have hwb:w.heap.size+1<wr.heap.size:=by omega
          clear hdc hs htk hval bv ov hbD hbo
          go_wp2_with fail
          go_region_held3 (fun w'=>w'.cell? ⟨w.heap.size,0,none⟩=some (.int .i64 n)∧w'.cell? ⟨w.heap.size,1,none⟩=some (.int .i64 c)∧w'.cell? ⟨w.heap.size,2,none⟩=some (.slice a rs.length cap)∧w'.cell? ⟨w.heap.size+1,5,none⟩=some (.int .i64 k.prior)∧w'.cell? ⟨cb,co+q,none⟩=some (.slice a' ws.length c')∧w'.cell? ⟨D,0,none⟩=some (.slice (some ⟨db,dd,none⟩) t.ws.length cd)∧w'.cell? ⟨db,dd+j,none⟩=some (.string s)) (go_keep) (first
            | (go_at_call 75
               refine (slabels wr.drew _ _ _ _ rs (HXR.out.below HBD.out) hl).mono ?_
               rintro e w10 ⟨vl,rfl,ol,hb⟩
               have HY0:Hid (Below wr.heap.size wr w10):=HBD.out.trans hb
               obtain ⟨_,⟨lx0,lx1,lx2⟩,_⟩:=id (HBX.out.below HY0.out)
               obtain ⟨_,_,_,_,_,_,l5,_⟩:=HBC.out.below HY0.out hwb
               have lq:=(HY0.out.cell (p:=⟨cb,co+q,none⟩) hcbr).trans eq
               have ld:=(HY0.out.cell (p:=⟨db,dd+j,none⟩) hdb).trans dd0
               have lv:=(HY0.out.cell (p:=⟨D,0,none⟩) hDw).trans dv0
               rw [HLA.out] at ol
               obtain ⟨al,cl,el,il⟩:=ol.isl
               subst el
               have HIL:Hid (Li.IsL w10 al (labs rs)):=il
               clear hb ol il)
            | (go_at_call 97
               refine (Ct.sofB w10 _ _ _ _ ws (labs rs) s k.prior (HIQ.out.below HY0.out) HIL.out (by omega) hlab).mono ?_
               rintro e w11 ⟨rfl,hb⟩
               have HY1:Hid (Below wr.heap.size wr w11):=HY0.out.trans (hb.mono HY0.out.size)
               obtain ⟨_,⟨px0,px1,px2⟩,_⟩:=id (HBX.out.below HY1.out)
               obtain ⟨_,_,_,_,_,_,p5,_⟩:=HBC.out.below HY1.out hwb
               have pq:=(HY1.out.cell (p:=⟨cb,co+q,none⟩) hcbr).trans eq
               have pd:=(HY1.out.cell (p:=⟨db,dd+j,none⟩) hdb).trans dd0
               have pv:=(HY1.out.cell (p:=⟨D,0,none⟩) hDw).trans dv0
               clear hb))
          have bv:=HBV.out.below HY1.out
          have ov:=HOV.out.below HY1.out
          have hbD:Below D w5 w11:=HBO.out.trans (HY1.out.mono (by omega))
          obtain ⟨z,hz⟩:∃ z,Ct.oNum ws (labs rs) s k.prior=z:=⟨_,rfl⟩
          rw [hz] at HTK ⊢
          clear HY0 HY1 HBX HBC HIQ HXR HBV HOV HBO HBD HIL hz x0 x1 x2 y5 eq dd0 dv0 dv1 fv0 fv1 hDw
          try clear lx0 lx1 lx2 l5 lq ld lv
          try clear px0 px1 px2 p5 pq pd pv
          obtain ⟨hDw,⟨dv0,dv1⟩,fv0,fv1⟩:=wr2 bv
          have HBA:Hid (Below w11.heap.size w11 (w11.alloc (.cells #[.int .i64 z] 3))):=(Below.refl _ _).alloc (Nat.le_refl _) _
          have HBV2:Hid (Wr w11 D 0 [.slice (some ⟨db,dd,none⟩) t.ws.length cd,vv]):=bv
          go_wp2_with (at_builtin
                       refine wpList_append_own_at _ rfl _ _ 45 rfl (D+1) 3 j0 (.int .i64 0) 1 8 Tryz.underlying45 hj jz0 jz1 jz2 rfl (by decide) _ _ _ rfl (World.ownsRow.alloc ov _) ⟨w11.heap.size,0,none⟩ 1 1 [.int .i64 z] rfl rfl (one_cell _ _ _) (one_one _) (by unfold maxLen;omega) (by omega) (by simp;omega) ?_
                       intro v3 w12 hown3 hgrow3 hnn3 hloc3
                       have ov3:=own_snoc rfl hown3
                       obtain ⟨a3,c3,e3,_⟩:=ov3.isl
                       replace e3:v3=.slice a3 (tk.length+1) c3:=by rw [e3];simp
                       subst e3
                       have hge:∀ y,vv.ownBlock=some y→D+1≤y:=fun y e=>(ov.ge y e).1
                       have hsz12:=hgrow3.size
                       have bv12:Wr w12 D 0 [.slice (some ⟨db,dd,none⟩) t.ws.length cd,vv]:=(HBV2.out.below HBA.out).keptAt hgrow3.size (hgrow3.block D (by simp;omega) (fun e=>by have:=hge D e.symm;omega))
                       obtain ⟨hDw2,⟨ev0,ev1⟩,gv0,gv1⟩:=wr2 bv12
                       have hb12:Below D w5 w12:=hbD.trans ((HBA.out.mono (by omega)).trans ⟨hgrow3.os,hgrow3.tape,hgrow3.output,hgrow3.size,fun y hy=>hgrow3.block y (by simp;omega) (fun e=>by have:=hge y e.symm;omega)⟩)
                       have HW3:Hid (Wr (w12.setCell ⟨D,1,none⟩ (.slice a3 (tk.length+1) c3)) D 0 [.slice (some ⟨db,dd,none⟩) t.ws.length cd,.slice a3 (tk.length+1) c3]):=bv12.set 1 (by simp) _
                       have HO3:Hid (Li.Own (w12.setCell ⟨D,1,none⟩ (.slice a3 (tk.length+1) c3)) (D+1) (.slice a3 (tk.length+1) c3) (t.vs.take (j+1))):=by
                         rw [HTK.out]
                         exact ov3.kept (Li.grown_set w12 D 1 _) (by
                           cases e:(Value.slice a3 (tk.length+1) c3).ownBlock with
                           | none=>exact .inl rfl
                           | some y=>exact .inr (fun e'=>by have:=(ov3.ge y e).1;injection e' with e';omega))
                       have HB3:Hid (Below D w5 (w12.setCell ⟨D,1,none⟩ (.slice a3 (tk.length+1) c3))):=hb12.setCell (p:=⟨D,1,none⟩) (Nat.le_refl _) _
                       clear hown3 hgrow3 hnn3 hloc3 ov3 hge bv12 hb12 hsz12)
          go_roundw
          case rel=>exact ⟨j+1,by omega,by go_num,_,HW3.out,HO3.out,HB3.out⟩
          case measure=>simp [intOf];omega
        · obtain rfl : j = t.ws.length := by omega
          have hvl:t.vs.length=t.ws.length:=HTV.out.1
          rw [List.take_of_length_le (by omega)] at ov
          clear hvl
          obtain ⟨av,cv,ev,_⟩:=ov.isl
          subst ev
          have od2:=od.below hbo
          have okm2:=okm.below hbo
          obtain ⟨vs,ho,hvl2,he,hv,hbb,hs⟩:=okm2
          have HBA:Hid (Below wr.heap.size wr (wr.alloc (.cells #[.slice ad t.ws.length cd,.slice av t.vs.length cv] 47))):=(Below.refl _ _).alloc (Nat.le_refl _) _
          have ho':(wr.alloc (.cells #[.slice ad t.ws.length cd,.slice av t.vs.length cv] 47)).ownsRow 0 47 2 u6 pre.length vs:=ownsRow_at ho (fun y e=>HBA.out.block y (World.ownsRow.lt ho y e).2)
          have HV2:Hid (∀ y,u6.ownBlock=some y→(y=w.heap.size+2 ∨ w4.heap.size≤y)∧y<wo.heap.size):=hv
          have hwr5:D≤wr.heap.size:=by omega
          have hdD:∀ y,(Value.slice ad t.ws.length cd).ownBlock=some y→y<D:=fun y e=>by have:=(od.ge y e).2;rw [HD.out] at this;exact this
          have HPP:Hid (∀ v3 w7,w7.ownsRow 0 47 2 v3 (pre.length+1) (vs ++ [.slice ad t.ws.length cd,.slice av t.vs.length cv])→(wr.alloc (.cells #[.slice ad t.ws.length cd,.slice av t.vs.length cv] 47)).grownBy w7 u6.ownBlock→(v3.ownBlock=u6.ownBlock ∨ v3.ownBlock=some (wr.alloc (.cells #[.slice ad t.ws.length cd,.slice av t.vs.length cv] 47)).heap.size)→OwK w7 (fun y=>y=w.heap.size+2 ∨ w4.heap.size≤y) v3 (pre ++ [t])):=fun v3 w7 h1 h2 h3=>by
            refine owk_snoc (B:=fun y=>y=w.heap.size+2 ∨ w4.heap.size≤y) (m:=wo.heap.size) hvl2 (fun i hi=>?_) hv hbb hs (od2.below HBA.out) ((ov.below HBA.out).mono (by omega)) (fun y e e'=>by have:=hdD y e;have:=(ov.ge y e').1;omega) (fun y hy=>by omega) (by simp;omega) h1 h2 h3
            obtain ⟨q0,q1⟩:=he i hi
            exact ⟨q0.below HBA.out,q1.below HBA.out⟩
          have HF:Hid (Fr (fun y=>y=w.heap.size+2 ∨ w4.heap.size≤y) w4 wr):=hf.trans (fr_below hbo)
          clear ho he hv hbb hs hvl2 od2 hjl hbo
          go_wp2_with (at_builtin;refine wpList_append_own_at _ rfl _ _ 26 rfl 0 47 i0 (.agg #[.slice none 0 0,.slice none 0 0]) 2 48 Tryz.underlying26 hi hz0 hz1 hz2 rfl (by decide) _ _ _ rfl ho' ⟨wr.heap.size,0,none⟩ 1 1 [.slice ad t.ws.length cd,.slice av t.vs.length cv] rfl rfl (two_cell _ _ _ _) two_one (by unfold maxLen;omega) (by omega) (by omega) ?_;intro v3 w7 hown3 hgrow3 hnn3 hloc3)
          have ok7:=HPP.out v3 w7 hown3 hgrow3 hloc3
          rw [← HSN.out] at ok7
          have hf7:Fr (fun y=>y=w.heap.size+2 ∨ w4.heap.size≤y) w4 w7:=(HF.out.trans (fr_below HBA.out)).trans ⟨hgrow3.os,hgrow3.tape,hgrow3.output,hgrow3.size,fun y hy hn=>hgrow3.block y hy (fun e=>hn (HV2.out y e.symm).1)⟩
          clear hown3 hgrow3 hnn3 hloc3 HPP HBA ho' HV2
          go_wp2
          go_roundw
          case rel=>exact ⟨q+1,by omega,by go_num,ok7,hf7⟩
          case measure=>simp [intOf];omega
    · obtain rfl : q = (wcols c rs).length := by omega
      rw [← HM.out] at ok
      have okb:=ok.bound
      clear hlt ok
      go_wp2
      refine bodyPost_ret (v:=.tuple #[u6,.bool true]) (by simp [results,Tryz.results73,go_sem]) rfl ?_
      exact ⟨u6,by rw [HV.out],okb.mono (fun y hy=>by omega),hBw⟩
end Go.Proofs.YtaojoamldoofpaaGreatDoor.Kt
namespace Go.Proofs.YtaojoamldoofpaaGreatDoor.Md
set_option maxRecDepth 20000
open Go.RowKit
open Tm (IsT szT)
open Kt (Kv IsK OwK ksz)
open To (OwT)
open Sv (Fr fr_below fr_grown new1 Wr)
end Go.Proofs.YtaojoamldoofpaaGreatDoor.Md
namespace Go.Proofs.YtaojoamldoofpaaGreatDoor.Md
set_option maxRecDepth 20000
open Go.RowKit
open Tb (ownsRow_at Row RowIs)
open Sv (Fr fr_below fr_grown new1 Wr)
theorem wr3 {w:World} {b:Nat} {v0 v1 v2:Value} (h:Wr w b 0 [v0,v1,v2]):b<w.heap.size∧(w.cell? ⟨b,0,none⟩=some v0∧w.cell? ⟨b,1,none⟩=some v1∧w.cell? ⟨b,2,none⟩=some v2)∧w.frozen? ⟨b,0,none⟩=false∧w.frozen? ⟨b,1,none⟩=false∧w.frozen? ⟨b,2,none⟩=false :=
 ⟨h.1,⟨(h.2 0 (by simp)).1,(h.2 1 (by simp)).1,(h.2 2 (by simp)).1⟩,(h.2 0 (by simp)).2,(h.2 1 (by simp)).2,(h.2 2 (by simp)).2⟩
end Go.Proofs.YtaojoamldoofpaaGreatDoor.Md
namespace Go.Proofs.YtaojoamldoofpaaGreatDoor.Tt
set_option maxRecDepth 100000
open Go.RowKit
open Tb Tk
open Md (M OwM wr6 wr3)
open Kt (ktabs OwK)
open To (OwT)
open Mx (mat)
open Co (labels)
open Sv (OwV OwI IsV Wr Fr fr_grown fr_below new1 new3)
noncomputable def mtrain (n c:Int) (rs:List Row) (k:Cf.C):M :=
 if (tok n c rs && Cf.cok k)=true then ⟨n,c,k.prior,(Tn.train (mat n c rs k) (labels n c rs) k).2.1,ktabs n c rs k,(Tn.train (mat n c rs k) (labels n c rs) k).1⟩ else ⟨0,0,0,0,[],[]⟩
theorem mtrain_no {n c:Int} {rs:List Row} {k:Cf.C} (h:(tok n c rs && Cf.cok k)=false):mtrain n c rs k=⟨0,0,0,0,[],[]⟩:=if_neg (by simp [h])
theorem mtrain_yes {n c:Int} {rs:List Row} {k:Cf.C} (h:(tok n c rs && Cf.cok k)=true):mtrain n c rs k=⟨n,c,k.prior,(Tn.train (mat n c rs k) (labels n c rs) k).2.1,ktabs n c rs k,(Tn.train (mat n c rs k) (labels n c rs) k).1⟩:=if_pos h
theorem owm_nil (w:World) (B:Nat→Prop) (n c p b:Int):OwM w B (.slice none 0 0) (.slice none 0 0) ⟨n,c,p,b,[],[]⟩:=⟨fun _=>True,Kt.OwK.nil _ _,To.OwT.nil _ _⟩
theorem set6 (w:World) (p:Nat) (u0 u1 u2 u3 u4 u5:Value):Fr (fun k=>k=p) w ((((((w.setCell ⟨p,0,none⟩ u0).setCell ⟨p,1,none⟩ u1).setCell ⟨p,2,none⟩ u2).setCell ⟨p,3,none⟩ u3).setCell ⟨p,4,none⟩ u4).setCell ⟨p,5,none⟩ u5) :=
 (((((Gt.fr_set u0).trans (Gt.fr_set u1)).trans (Gt.fr_set u2)).trans (Gt.fr_set u3)).trans (Gt.fr_set u4)).trans (Gt.fr_set u5)
theorem mem_tot {xs:List (List Int)} {v:List Int} (h:v ∈ xs):v.length≤Sv.tot xs:=by
 obtain ⟨i,hi,rfl⟩:=List.getElem_of_mem h
 exact Sv.tot_at xs i hi
set_option maxHeartbeats 20000000 in
theorem strain (w:World) (n c:Int) (a:Option Addr) (cap:Nat) (rs:List Row) (k:Cf.C) (hx:IsR w a rs) (hl:rs.length+szR rs≤1048576) :
  Calls Tryz.prog 43 #[.agg #[.int .i64 n,.int .i64 c,.slice a rs.length cap],.agg #[.int .i64 k.trees,.int .i64 k.depth,.int .i64 k.most,.int .i64 k.rate,.int .i64 k.l2,.int .i64 k.prior,.int .i64 k.seed]] w fun e w'=>∃ vk vt,e=.returned (.tuple #[.agg #[.int .i64 (mtrain n c rs k).n,.int .i64 (mtrain n c rs k).c,.int .i64 (mtrain n c rs k).prior,.int .i64 (mtrain n c rs k).base,vk,vt],.bool (tok n c rs && Cf.cok k)])∧OwM w' (fun q=>w.heap.size≤q∧q<w'.heap.size) vk vt (mtrain n c rs k)∧Below w.heap.size w w':=by
 have HX:Hid (IsR w a rs):=hx
 have HL:Hid (rs.length+szR rs≤1048576):=hl
 clear hx hl
 go_enter Tryz.func43,Tryz.ntmps43
 go_wp2_with fail
 obtain ⟨W,hW,hsz,hB,bt,bc,br⟩:=new3 w [.int .i64 n,.int .i64 c,.slice a rs.length cap] k.cells [.int .i64 0,.int .i64 0,.int .i64 0,.int .i64 0,.slice none 0 0,.slice none 0 0] 79 82 29
 have hW2:((w.alloc (.cells #[.int .i64 n,.int .i64 c,.slice a rs.length cap] 79)).alloc (.cells #[.int .i64 k.trees,.int .i64 k.depth,.int .i64 k.most,.int .i64 k.rate,.int .i64 k.l2,.int .i64 k.prior,.int .i64 k.seed] 82)).alloc (.cells #[.int .i64 0,.int .i64 0,.int .i64 0,.int .i64 0,.slice none 0 0,.slice none 0 0] 29)=W:=hW
 rw [hW2]
 clear hW hW2
 refine (Mx.smat _ n c a cap rs k (HX.out.below hB) HL.out).mono ?_
 rintro e w1 ⟨vx,rfl,ox,hb1⟩
 obtain ⟨ax,cx,rfl,-⟩:=ox.isv
 obtain ⟨P,hP⟩:∃ P,w.heap.size=P:=⟨_,rfl⟩
 have HP:Hid (w.heap.size=P):=hP
 have HB:Hid (Below w.heap.size w w1):=hB.trans (hb1.mono hB.size)
 have HBT:Hid (Wr w1 P 0 [.int .i64 n,.int .i64 c,.slice a rs.length cap]):=by rw [← hP];exact bt.below hb1
 have HBC:Hid (Wr w1 (P+1) 0 k.cells):=by rw [← hP];exact bc.below hb1
 have HBR:Hid (Wr w1 (P+2) 0 [.int .i64 0,.int .i64 0,.int .i64 0,.int .i64 0,.slice none 0 0,.slice none 0 0]):=by rw [← hP];exact br.below hb1
 have HOX:Hid (type_of% ox):=ox
 have hs1:P+3≤w1.heap.size:=by have:=hb1.size;omega
 rw [hP]
 have HSW:Hid (P+3=W.heap.size):=by show _=_;omega
 clear hB hb1 bt bc br ox hsz hP
 cases hu:(tok n c rs && Cf.cok k) with
 | false =>
  have HR:Hid (mtrain n c rs k=⟨0,0,0,0,[],[]⟩):=mtrain_no hu
  obtain ⟨hlr,⟨r0,r1,r2,r3,r4,r5⟩,f0,f1,f2,f3,f4,f5⟩:=wr6 HBR.out
  go_wp2_with fail
  refine bodyPost_ret (v:=.tuple #[.agg #[.int .i64 0,.int .i64 0,.int .i64 0,.int .i64 0,.slice none 0 0,.slice none 0 0],.bool false]) (by rw [Gt.results_ct rfl];go_simp) rfl ⟨.slice none 0 0,.slice none 0 0,by rw [HR.out,hu],by rw [HR.out];exact owm_nil _ _ _ _ _ _,?_⟩
  exact HB.out.trans ((set6 w1 (P+1+1) _ _ _ _ _ _).bel (fun q e=>by have:=HP.out;omega) HB.out.size)
 | true =>
  have HR:Hid (type_of% (mtrain_yes hu)):=mtrain_yes hu
  have HU:Hid (type_of% hu):=hu
  clear hu
  obtain ⟨hlt,⟨t0,t1,t2⟩,-⟩:=wr3 HBT.out
  obtain ⟨hlc,q0,q1,q2,q3,q4,q5,q6⟩:=Tn.wr7 HBC.out
  go_wp2_with fail
  obtain ⟨W3,hW3,hsz3,hb3,bm⟩:=new1 w1 [.int .i64 n,.int .i64 c,.int .i64 k.prior,.int .i64 0,.slice none 0 0,.slice none 0 0] 29
  rw [hW3]
  obtain ⟨Mb,hMb⟩:∃ b,w1.heap.size=b:=⟨_,rfl⟩
  have HMB:Hid (w1.heap.size=Mb):=hMb
  rw [hMb] at bm ⊢
  have HB3:Hid (Below w.heap.size w W3):=HB.out.trans (hb3.mono HB.out.size)
  have HT3:Hid (type_of% (HBT.out.below hb3)):=HBT.out.below hb3
  have HC3:Hid (type_of% (HBC.out.below hb3)):=HBC.out.below hb3
  have HR3:Hid (type_of% (HBR.out.below hb3)):=HBR.out.below hb3
  have HX3:Hid (type_of% (HOX.out.below hb3)):=HOX.out.below hb3
  have hs3:W3.heap.size=Mb+1:=by omega
  have HS3:Hid (W3.heap.size=Mb+1):=hs3
  have hPM:P+3≤Mb:=by omega
  clear hW3 hsz3 hb3 hMb HBT HBC HBR HOX hlt t0 t1 t2 hlc q0 q1 q2 q3 q4 q5 q6 hs1 hs3
  refine (Kt.stabs W3 n c a cap rs k (HX.out.below HB3.out) HL.out).mono ?_
  rintro e w2 ⟨vk,rfl,ok,hb2⟩
  obtain ⟨ak,ck,rfl,-⟩:=ok.isk
  replace bm:=bm.below hb2
  obtain ⟨hlm,⟨m0,m1,m2,m3,m4,m5⟩,g0,g1,g2,g3,g4,g5⟩:=wr6 bm
  have HBM:Hid (type_of% bm):=bm
  have HOK:Hid (type_of% ok):=ok
  have HB2:Hid (Below W3.heap.size W3 w2):=hb2
  have hs2:Mb+1≤w2.heap.size:=by have h1:=hb2.size;have h2:=HS3.out;omega
  clear bm ok hb2
  rw [HU.out]
  go_wp2_with fail
  obtain ⟨w3,hw3⟩:∃ X,w2.setCell ⟨Mb,4,none⟩ (.slice ak (ktabs n c rs k).length ck)=X:=⟨_,rfl⟩
  rw [hw3]
  have hF3:Fr (fun q=>q=Mb) w2 w3:=by rw [← hw3];exact fr_grown (Li.grown_set _ _ _ _) rfl
  have HF3:Hid (type_of% hF3):=hF3
  have HBM3:Hid (Wr w3 Mb 0 [.int .i64 n,.int .i64 c,.int .i64 k.prior,.int .i64 0,.slice ak (ktabs n c rs k).length ck,.slice none 0 0]):=by rw [← hw3];exact HBM.out.set 4 (by simp) _
  have HT4:Hid (Wr w3 P 0 [.int .i64 n,.int .i64 c,.slice a rs.length cap]):=Gt.wr_frP (HT3.out.below HB2.out) hF3 (by omega)
  have HC4:Hid (Wr w3 (P+1) 0 k.cells):=Gt.wr_frP (HC3.out.below HB2.out) hF3 (by omega)
  have HR4:Hid (Wr w3 (P+2) 0 [.int .i64 0,.int .i64 0,.int .i64 0,.int .i64 0,.slice none 0 0,.slice none 0 0]):=Gt.wr_frP (HR3.out.below HB2.out) hF3 (by omega)
  have HX4:Hid (OwV w3 (fun q=>P+3≤q∧q<Mb) (.slice ax (mat n c rs k).length cx) (mat n c rs k)):=by
   refine ((HX3.out.below HB2.out).mono (fun q hq=>?_)).fr hF3 (fun q hq e=>by have:=hq.2;omega)
   have h1:=HSW.out;have h2:=HMB.out
   exact ⟨by omega,by omega⟩
  have HK4:Hid (OwK w3 (fun q=>Mb+1≤q∧q<w3.heap.size) (.slice ak (ktabs n c rs k).length ck) (ktabs n c rs k)):=by
   refine (HOK.out.mono (fun q hq=>?_)).fr hF3 (fun q hq e=>by have:=hq.1;omega)
   have h1:=HS3.out;have h2:=hF3.size
   exact ⟨by omega,by omega⟩
  have HB4:Hid (Below w.heap.size w w3):=by
   have h1:=HB3.out.trans (HB2.out.mono HB3.out.size)
   exact h1.trans (hF3.bel (fun q e=>by have:=HP.out;omega) h1.size)
  have hs4:Mb+1≤w3.heap.size:=by have:=hF3.size;omega
  clear hF3 hw3 HF3 HBM HT3 HC3 HR3 HX3 HOK m0 m1 m2 m3 m4 m5 g0 g1 g2 g3 g4 g5 hlm
  obtain ⟨hlt,⟨t0,t1,t2⟩,-⟩:=wr3 HT4.out
  obtain ⟨hlc,q0,q1,q2,q3,q4,q5,q6⟩:=Tn.wr7 HC4.out
  have HSX:Hid (∀ X:World,Fr (fun q=>q=Mb) w3 X→(X.cell? ⟨P,0,none⟩=some (.int .i64 n))∧(X.cell? ⟨P,1,none⟩=some (.int .i64 c))∧(X.cell? ⟨P,2,none⟩=some (.slice a rs.length cap))∧(X.cell? ⟨P+1,0,none⟩=some (.int .i64 k.trees))∧(X.cell? ⟨P+1,1,none⟩=some (.int .i64 k.depth))∧(X.cell? ⟨P+1,2,none⟩=some (.int .i64 k.most))∧(X.cell? ⟨P+1,3,none⟩=some (.int .i64 k.rate))∧(X.cell? ⟨P+1,4,none⟩=some (.int .i64 k.l2))∧(X.cell? ⟨P+1,5,none⟩=some (.int .i64 k.prior))∧(X.cell? ⟨P+1,6,none⟩=some (.int .i64 k.seed))):=fun X hX=>by
   have h1:∀ o:Nat,X.cell? ⟨P,o,none⟩=w3.cell? ⟨P,o,none⟩:=fun o=>World.cell?_of_block (hX.block P hlt (by omega))
   have h2:∀ o:Nat,X.cell? ⟨P+1,o,none⟩=w3.cell? ⟨P+1,o,none⟩:=fun o=>World.cell?_of_block (hX.block (P+1) hlc (by omega))
   exact ⟨(h1 0).trans t0,(h1 1).trans t1,(h1 2).trans t2,(h2 0).trans q0,(h2 1).trans q1,(h2 2).trans q2,(h2 3).trans q3,(h2 4).trans q4,(h2 5).trans q5,(h2 6).trans q6⟩
  clear t0 t1 t2 q0 q1 q2 q3 q4 q5 q6
  obtain ⟨xn,hxn⟩:∃ x,(mat n c rs k).length=x:=⟨_,rfl⟩
  have HXN:Hid ((mat n c rs k).length=xn):=hxn
  obtain ⟨trb,htrb⟩:∃ x,(Tn.train (mat n c rs k) (labels n c rs) k).2.1=x:=⟨_,rfl⟩
  have HTRB:Hid ((Tn.train (mat n c rs k) (labels n c rs) k).2.1=trb):=htrb
  obtain ⟨tro,htro⟩:∃ x,(Tn.train (mat n c rs k) (labels n c rs) k).2.2=x:=⟨_,rfl⟩
  have HTRO:Hid ((Tn.train (mat n c rs k) (labels n c rs) k).2.2=tro):=htro
  have HTRN:Hid (∀ X al kl ln,Below w3.heap.size w3 X→ln=(labels n c rs).length→Li.IsL X al (labels n c rs)→Calls Tryz.prog 74 #[.slice ax xn cx,.slice al ln kl,.agg #[.int .i64 k.trees,.int .i64 k.depth,.int .i64 k.most,.int .i64 k.rate,.int .i64 k.l2,.int .i64 k.prior,.int .i64 k.seed]] X fun e w'=>∃ v,e=.returned (.tuple #[v,.int .i64 trb,.bool tro])∧OwT w' (fun k=>X.heap.size≤k) v (Tn.train (mat n c rs k) (labels n c rs) k).1∧Below X.heap.size X w'):=fun X al kl ln hX hln hil=>by
   subst hln
   obtain ⟨_,_,e1,i1⟩:=HX4.out.isv
   injection e1 with e1
   subst e1
   have hm:=Mx.mat_sz n c rs k
   have hll:=Co.labels_le n c rs
   have hl2:=HL.out
   have h:=Tn.strainOn X ax al cx kl (mat n c rs k) (labels n c rs) k (i1.below hX) hil (by omega) (by omega) (fun v hv=>by have:=mem_tot hv;omega)
   rw [HXN.out,HTRB.out,HTRO.out] at h
   exact h
  rw [hxn]
  clear hxn htrb htro
  have st0:Below w3.heap.size w3 w3.drew:=Tm.below_drew w3
  have C0:=HSX.out _ (fr_below st0)
  refine Hd.start (fun X=>(X.cell? ⟨P,0,none⟩=some (.int .i64 n))∧(X.cell? ⟨P,1,none⟩=some (.int .i64 c))∧(X.cell? ⟨P,2,none⟩=some (.slice a rs.length cap))∧(X.cell? ⟨P+1,0,none⟩=some (.int .i64 k.trees))∧(X.cell? ⟨P+1,1,none⟩=some (.int .i64 k.depth))∧(X.cell? ⟨P+1,2,none⟩=some (.int .i64 k.most))∧(X.cell? ⟨P+1,3,none⟩=some (.int .i64 k.rate))∧(X.cell? ⟨P+1,4,none⟩=some (.int .i64 k.l2))∧(X.cell? ⟨P+1,5,none⟩=some (.int .i64 k.prior))∧(X.cell? ⟨P+1,6,none⟩=some (.int .i64 k.seed))) 12 (by kernel_rfl) ?_
  generalize w3.drew=w0 at st0 C0 ⊢
  refine Hd.After.pureD (i:=0) (some 31) (.slice ax xn cx) rfl rfl (by kernel_rfl) (by decide) (by kernel_rfl) (by kernel_rfl) (fun _ _ _ h=>h) (C0) (Or.inl ⟨by rfl,?_⟩) ?_
  ·
   intro X;go_simp;try with_reducible rfl
  (first | simp only [Act.put,List.setIfInBounds_toArray,List.set_cons_zero,List.set_cons_succ] | skip)
  refine Hd.After.takeD (i:=1) (some 32) (.agg #[.int .i64 n,.int .i64 c,.slice a rs.length cap]) rfl rfl (by kernel_rfl) (by kernel_rfl) (by kernel_rfl) (by kernel_rfl) (by kernel_rfl) (fun _ _ _ h=>h) (C0) (Or.inl ⟨by rfl,?_⟩) ?_
  ·
   rintro X ⟨s0,s1,s2,s3,s4,s5,s6,s7,s8,s9⟩;go_simp;try with_reducible rfl
  (first | simp only [Act.put,List.setIfInBounds_toArray,List.set_cons_zero,List.set_cons_succ] | skip)
  refine Hd.After.takeD (i:=3) (some 34) (.agg #[.int .i64 k.trees,.int .i64 k.depth,.int .i64 k.most,.int .i64 k.rate,.int .i64 k.l2,.int .i64 k.prior,.int .i64 k.seed]) rfl rfl (by kernel_rfl) (by kernel_rfl) (by kernel_rfl) (by kernel_rfl) (by kernel_rfl) (fun _ _ _ h=>h) (C0) (Or.inl ⟨by rfl,?_⟩) ?_
  ·
   rintro X ⟨s0,s1,s2,s3,s4,s5,s6,s7,s8,s9⟩;go_simp;try with_reducible rfl
  (first | simp only [Act.put,List.setIfInBounds_toArray,List.set_cons_zero,List.set_cons_succ] | skip)
  refine Hd.After.one (i:=2) (by kernel_rfl) rfl rfl ?_
  intro K hK
  go_simp
  go_wp2_with (go_at_call 75;refine (Co.slabels _ n c a cap rs (HX.out.below (HB4.out.trans (st0.mono HB4.out.size))) HL.out).mono ?_;rintro e X1 ⟨vl,rfl,ol,hb⟩)
  obtain ⟨al,kl,rfl,il⟩:=ol.isl
  have st1:=st0.trans (hb.mono st0.size)
  obtain ⟨ln,hln⟩:∃ x,(labels n c rs).length=x:=⟨_,rfl⟩
  rw [hln]
  have HTR:Hid (type_of% (HTRN.out X1 al kl ln st1 hln.symm il)):=HTRN.out X1 al kl ln st1 hln.symm il
  clear hb ol il hln
  refine hK _ _ (fun _=>HSX.out _ (fr_below st1)) ?_
  clear hK K
  (first | simp only [Act.put,List.setIfInBounds_toArray,List.set_cons_zero,List.set_cons_succ] | skip)
  refine Hd.After.one (i:=4) (by kernel_rfl) rfl rfl ?_
  intro K hK
  go_simp
  go_wp2_with (go_at_call 74;refine HTR.out.mono ?_;rintro e X2 ⟨vt,rfl,ot,hb⟩)
  obtain ⟨at_,ct,rfl,-⟩:=ot.ist
  have st2:=st1.trans (hb.mono st1.size)
  have HOT:Hid (OwT X2 (fun y=>w3.heap.size≤y) (.slice at_ (Tn.train (mat n c rs k) (labels n c rs) k).1.length ct) (Tn.train (mat n c rs k) (labels n c rs) k).1):=ot.mono (fun y hy=>Nat.le_trans st1.size hy)
  obtain ⟨tn,htn⟩:∃ x,(Tn.train (mat n c rs k) (labels n c rs) k).1.length=x:=⟨_,rfl⟩
  rw [htn] at HOT ⊢
  have HTNN:Hid ((Tn.train (mat n c rs k) (labels n c rs) k).1.length=tn):=htn
  clear hb ot htn
  refine hK _ _ (fun _=>HSX.out _ (fr_below st2)) ?_
  clear hK K
  (first | simp only [Act.put,List.setIfInBounds_toArray,List.set_cons_zero,List.set_cons_succ] | skip)
  have C2:=HSX.out _ (fr_below st2)
  refine Hd.After.pureD (i:=5) (some 30) (.tuple #[.slice at_ tn ct,.int .i64 trb,.bool tro]) rfl rfl (by kernel_rfl) (by decide) (by kernel_rfl) (by kernel_rfl) (fun _ _ _ h=>h) (C2) (Or.inl ⟨by rfl,?_⟩) ?_
  ·
   intro X;go_simp;try with_reducible rfl
  (first | simp only [Act.put,List.setIfInBounds_toArray,List.set_cons_zero,List.set_cons_succ] | skip)
  refine Hd.After.pureD (i:=6) (some 36) (.slice at_ tn ct) rfl rfl (by kernel_rfl) (by decide) (by kernel_rfl) (by kernel_rfl) (fun _ _ _ h=>h) (C2) (Or.inl ⟨by rfl,?_⟩) ?_
  ·
   intro X;go_simp;try with_reducible rfl
  (first | simp only [Act.put,List.setIfInBounds_toArray,List.set_cons_zero,List.set_cons_succ] | skip)
  refine Hd.After.pureD (i:=7) (some 37) (.int .i64 trb) rfl rfl (by kernel_rfl) (by decide) (by kernel_rfl) (by kernel_rfl) (fun _ _ _ h=>h) (C2) (Or.inl ⟨by rfl,?_⟩) ?_
  ·
   intro X;go_simp;try with_reducible rfl
  (first | simp only [Act.put,List.setIfInBounds_toArray,List.set_cons_zero,List.set_cons_succ] | skip)
  refine Hd.After.pureD (i:=8) (some 38) (.bool tro) rfl rfl (by kernel_rfl) (by decide) (by kernel_rfl) (by kernel_rfl) (fun _ _ _ h=>h) (C2) (Or.inl ⟨by rfl,?_⟩) ?_
  ·
   intro X;go_simp;try with_reducible rfl
  (first | simp only [Act.put,List.setIfInBounds_toArray,List.set_cons_zero,List.set_cons_succ] | skip)
  refine Hd.After.pureD (i:=9) (some 39) (.pointer (some ⟨Mb,5,none⟩)) rfl rfl (by kernel_rfl) (by decide) (by kernel_rfl) (by kernel_rfl) (fun _ _ _ h=>h) (C2) (Or.inl ⟨by rfl,?_⟩) ?_
  ·
   intro X;go_simp;try with_reducible rfl
  (first | simp only [Act.put,List.setIfInBounds_toArray,List.set_cons_zero,List.set_cons_succ] | skip)
  have bm:=HBM3.out.below st2
  obtain ⟨hlm,⟨m0,m1,m2,m3,m4,m5⟩,g0,g1,g2,g3,g4,g5⟩:=wr6 bm
  have HBM4:Hid (type_of% bm):=bm
  clear bm
  have HF4:Hid (Fr (fun q=>q=Mb) X2 (X2.setCell ⟨Mb,5,none⟩ (.slice at_ tn ct))):=fr_grown (Li.grown_set _ _ _ _) rfl
  refine Hd.After.one (i:=10) (by kernel_rfl) rfl rfl ?_
  intro K hK
  go_simp
  refine hK _ _ (fun _=>HSX.out _ ((fr_below st2).trans HF4.out)) ?_
  clear hK K
  (first | simp only [Act.put,List.setIfInBounds_toArray,List.set_cons_zero,List.set_cons_succ] | skip)
  obtain ⟨X3,hX3⟩:∃ X,X2.setCell ⟨Mb,5,none⟩ (.slice at_ tn ct)=X:=⟨_,rfl⟩
  rw [hX3] at HF4 ⊢
  have bm:=HBM4.out.set 5 (by simp) (.slice at_ tn ct)
  rw [hX3] at bm
  clear hX3 m0 m1 m2 m3 m4 m5 g0 g1 g2 g3 g4 g5 hlm
  obtain ⟨hlm,⟨m0,m1,m2,m3,m4,m5⟩,g0,g1,g2,g3,g4,g5⟩:=wr6 bm
  have HBM5:Hid (type_of% bm):=bm
  clear bm
  refine Hd.After.pureD (i:=11) (some 40) (.pointer (some ⟨Mb,3,none⟩)) rfl rfl (by kernel_rfl) (by decide) (by kernel_rfl) (by kernel_rfl) (fun _ _ _ h=>h) ((HSX.out _ ((fr_below st2).trans HF4.out))) (Or.inl ⟨by rfl,?_⟩) ?_
  ·
   intro X;go_simp;try with_reducible rfl
  (first | simp only [Act.put,List.setIfInBounds_toArray,List.set_cons_zero,List.set_cons_succ] | skip)
  refine Hd.After.one (i:=12) (by kernel_rfl) rfl rfl ?_
  intro K hK
  go_simp
  refine hK _ _ (fun h=>by cases h) ?_
  clear hK K
  refine Hd.After.done (by kernel_rfl) ?_ _
  have HF5:Hid (Fr (fun q=>q=Mb) w3 (X3.setCell ⟨Mb,3,none⟩ (.int .i64 trb))):=((fr_below st2).trans HF4.out).trans (fr_grown (Li.grown_set _ _ _ _) rfl)
  have bm:=HBM5.out.set 3 (by simp) (.int .i64 trb)
  have HOT5:Hid (OwT (X3.setCell ⟨Mb,3,none⟩ (.int .i64 trb)) (fun y=>w3.heap.size≤y) (.slice at_ tn ct) (Tn.train (mat n c rs k) (labels n c rs) k).1):=HOT.out.fr (HF4.out.trans (fr_grown (Li.grown_set _ _ _ _) rfl)) (fun y h1 h2=>by omega)
  clear m0 m1 m2 m3 m4 m5 g0 g1 g2 g3 g4 g5 hlm C0 C2
  obtain ⟨X4,hX4⟩:∃ X,X3.setCell ⟨Mb,3,none⟩ (.int .i64 trb)=X:=⟨_,rfl⟩
  rw [hX4] at bm HF5 HOT5 ⊢
  clear hX4
  obtain ⟨hlm,⟨m0,m1,m2,m3,m4,m5⟩,-⟩:=wr6 bm
  obtain ⟨hlr,⟨r0,r1,r2,r3,r4,r5⟩,f0,f1,f2,f3,f4,f5⟩:=wr6 (Gt.wr_frP HR4.out HF5.out (by omega))
  go_wp2_with fail
  refine bodyPost_ret (v:=.tuple #[.agg #[.int .i64 n,.int .i64 c,.int .i64 k.prior,.int .i64 trb,.slice ak (ktabs n c rs k).length ck,.slice at_ tn ct],.bool true]) (by rw [Gt.results_ct rfl];go_simp) rfl ⟨.slice ak (ktabs n c rs k).length ck,.slice at_ tn ct,by rw [HR.out,HU.out,HTRB.out],?_,?_⟩
  ·
   have hS:=set6 X4 (P+1+1) (.int .i64 n) (.int .i64 c) (.int .i64 k.prior) (.int .i64 trb) (.slice ak (ktabs n c rs k).length ck) (.slice at_ tn ct)
   rw [HR.out]
   have hk:=(HK4.out.fr HF5.out (fun y h1 h2=>by have:=h1.1;omega)).fr hS (fun y h1 h2=>by have:=h1.1;omega)
   have ht:=HOT5.out.fr hS (fun y h1 h2=>by omega)
   refine ⟨fun y=>y<w3.heap.size,(hk.bound).mono (fun y hy=>⟨⟨by have:=HP.out;omega,hy.2⟩,hy.1.2⟩),(ht.bound).mono (fun y hy=>⟨⟨by have:=HP.out;omega,hy.2⟩,by omega⟩)⟩
  ·
   have h1:=HB4.out.trans (HF5.out.bel (fun y e=>by have:=HP.out;omega) HB4.out.size)
   exact h1.trans ((set6 X4 (P+1+1) _ _ _ _ _ _).bel (fun q e=>by have:=HP.out;omega) h1.size)
end Go.Proofs.YtaojoamldoofpaaGreatDoor.Tt
namespace Go.Proofs.YtaojoamldoofpaaGreatDoor.Tt
set_option maxRecDepth 20000
open Tb Tk
open Md (M)
open Kt (ktabs ksz Kv tab tabsN tabsN_snoc dict_sz)
open Tm (szT)
open Wc (wcols tok_c)
open Wd (dictOf dictOf_len)
theorem kszA (ks:List Kv) (t:Kv):ksz (ks ++ [t])=ksz ks+(t.ws.length+lets t.ws+t.vs.length):=by
 induction ks with
 | nil=>simp [ksz]
 | cons x ks ih=>simp only [List.cons_append,ksz,ih];omega
theorem szTA (ts:List Tr.T) (t:Tr.T):szT (ts ++ [t])=szT ts+(t.sp.length+t.lv.length):=by
 induction ts with
 | nil=>simp [szT,Tm.szt]
 | cons x ts ih=>simp only [List.cons_append,szT,Tm.szt,ih];omega
theorem lets_leB {b:Nat} : ∀ (ws:List ByteArray),(∀ i (hi:i<ws.length),ws[i].size≤b)→lets ws≤b * ws.length
 | [],_=>by simp [lets]
 | w :: ws,h=>by
  have h0:=h 0 (by simp)
  have ih:=lets_leB ws (fun i hi=>by have:=h (i+1) (by simpa using hi);simpa using this)
  simp only [lets,List.length_cons,Nat.mul_succ] at *
  simp at h0
  omega
theorem tabsN_ksz {n c:Int} {rs:List Row} (p:Int) (h:tok n c rs=true):∀ q,q≤(wcols c rs).length→ksz (tabsN q c rs p)≤1080 * q
 | 0,_=>by simp [tabsN,ksz]
 | q+1,hq=>by
  have ih:=tabsN_ksz p h q (by omega)
  rw [tabsN_snoc q c rs p (by omega),kszA]
  have h1:=dictOf_len (wcols c rs)[q]
  have h2:=Vc.wcols_len h q (by omega)
  have h3:=(tok_c h).2.2
  have h4:=lets_leB (dictOf (wcols c rs)[q]) (fun i hi=>dict_sz (fun j hj=>Vc.wcols_word h q (by omega) j hj) i hi)
  have h5:25 * (dictOf (wcols c rs)[q]).length≤25 * 40:=Nat.mul_le_mul_left _ (by omega)
  simp only [tab,List.length_map]
  omega
theorem boost_szT (x:List (List Int)) (ls:List Int) (c:Cf.C):∀ k,szT (Tn.boost x ls c k).1≤20 * k
 | 0=>by simp [Tn.boost,szT]
 | k+1=>by
  have ih:=boost_szT x ls c k
  have h:=Tn.nextT_sz x ls c (Tn.boost x ls c k).2
  simp only [Tn.boost]
  rw [szTA]
  omega
theorem mtrain_sz (n c:Int) (rs:List Row) (k:Cf.C):(mtrain n c rs k).sz≤4000:=by
 cases hu:(tok n c rs && Cf.cok k) with
 | false=>rw [mtrain_no hu];simp [M.sz,ksz,szT]
 | true =>
  rw [mtrain_yes hu]
  simp only [Bool.and_eq_true] at hu
  unfold M.sz
  simp only
  rw [Kt.ktabs_yes hu.1 hu.2]
  have h1:=tabsN_ksz k.prior hu.1 _ (Nat.le_refl _)
  have h2:=Kt.tabsN_length _ c rs k.prior (Nat.le_refl (wcols c rs).length)
  have h3:=Vc.wcols_le hu.1
  have ht:=Tn.cok_t hu.2
  cases hk:Tn.tnok (Mx.mat n c rs k) (Co.labels n c rs) k with
  | false=>rw [Tn.train_no hk];simp [szT];omega
  | true =>
   rw [Tn.train_ok hk]
   have h4:=boost_szT (Mx.mat n c rs k) (Co.labels n c rs) k k.trees.toNat
   have h5:=Tn.boost_trees (Mx.mat n c rs k) (Co.labels n c rs) k k.trees.toNat
   simp only
   omega
end Go.Proofs.YtaojoamldoofpaaGreatDoor.Tt
namespace Go.Proofs.YtaojoamldoofpaaGreatDoor.Cu
open Go.RowKit
def Bytes (w:World) (b:Nat) (a:Option Addr) (len:Nat):Prop :=
 len=0 ∨ ∃ cb off,a=some ⟨cb,off,none⟩∧cb<b∧∀ j,j<len→∃ v:Int,w.cell? ⟨cb,off+j,none⟩=some (.int .u8 v)∧0≤v∧v≤255
def Cur (w:World) (b:Nat) (K:Int):Prop :=
 ∃ a len cap k s,b<w.heap.size∧w.cell? ⟨b,0,none⟩=some (.slice a len cap)∧w.cell? ⟨b,1,none⟩=some (.int .i64 k)∧w.cell? ⟨b,2,none⟩=some (.int .i64 s) ∧
  w.frozen? ⟨b,0,none⟩=false∧w.frozen? ⟨b,1,none⟩=false∧w.frozen? ⟨b,2,none⟩=false ∧
  len≤1048576∧0≤k∧k≤K∧0≤s∧s≤65521∧Bytes w b a len
set_option maxHeartbeats 400000 in
theorem pick_lt (w:World) (b:Nat) (n:Int) (hn:n<2) :
  Calls Tryz.prog 20 #[.pointer (some ⟨b,0,none⟩),.int .i64 n] w fun e w'=>e=.returned (.int .i64 0)∧w'=w:=by
 go_enter Tryz.func20,Tryz.ntmps20
 go_wp2
 go_ret
 exact ⟨rfl,rfl⟩
set_option maxHeartbeats 400000 in
theorem pick_in (w:World) (b:Nat) (n:Int) (hn:2≤n) (hn':n≤1000000000000000000) (len cap:Nat) (k:Int) (cb off:Nat) (v:Int)
  (h0:w.cell? ⟨b,0,none⟩=some (.slice (some ⟨cb,off,none⟩) len cap)) (h1:w.cell? ⟨b,1,none⟩=some (.int .i64 k))
  (f1:w.frozen? ⟨b,1,none⟩=false) (hk:0≤k) (hlt:k<(len:Int)) (hlen:(len:Int)≤1048576)
  (hv:w.cell? ⟨cb,off+k.toNat,none⟩=some (.int .u8 v)) (v0:0≤v) (v1:v≤255) :
  Calls Tryz.prog 20 #[.pointer (some ⟨b,0,none⟩),.int .i64 n] w fun e w'=>e=.returned (.int .i64 (v % n))∧∃ nq,w'=(w.drewN nq).setCell ⟨b,1,none⟩ (.int .i64 (k+1)):=by
 go_enter Tryz.func20,Tryz.ntmps20
 go_wp2
 go_quiet (fail)
 go_wp2
 go_quiet (fail)
 go_wp2
 go_ret
 exact ⟨rfl,_,rfl⟩
set_option maxHeartbeats 400000 in
theorem pick_nil (w:World) (b:Nat) (n:Int) (hn:2≤n) (a:Option Addr) (cap:Nat) (k s:Int)
  (h0:w.cell? ⟨b,0,none⟩=some (.slice a 0 cap)) (h1:w.cell? ⟨b,1,none⟩=some (.int .i64 k)) (h2:w.cell? ⟨b,2,none⟩=some (.int .i64 s))
  (f1:w.frozen? ⟨b,1,none⟩=false) (f2:w.frozen? ⟨b,2,none⟩=false) (hk:0≤k) (hK:k≤1000000000000000000) (s0:0≤s) (s1:s≤65521) :
  Calls Tryz.prog 20 #[.pointer (some ⟨b,0,none⟩),.int .i64 n] w fun e w'=>e=.returned (.int .i64 0)∧∃ nq,w'=((w.drewN nq).setCell ⟨b,2,none⟩ (.int .i64 ((s * 1103+12345) % 65521))).setCell ⟨b,1,none⟩ (.int .i64 (k+1)):=by
 have hd:decide (k<0)=false:=by simp;omega
 go_enter Tryz.func20,Tryz.ntmps20
 go_wp2
 go_quiet (fail)
 go_wp2
 go_ret
 exact ⟨rfl,_,rfl⟩
set_option maxHeartbeats 400000 in
theorem pick_out (w:World) (b:Nat) (n:Int) (hn:2≤n) (hn':n≤1000000000000000000) (len cap:Nat) (k s:Int) (cb off:Nat) (v:Int)
  (h0:w.cell? ⟨b,0,none⟩=some (.slice (some ⟨cb,off,none⟩) len cap)) (h1:w.cell? ⟨b,1,none⟩=some (.int .i64 k)) (h2:w.cell? ⟨b,2,none⟩=some (.int .i64 s))
  (f1:w.frozen? ⟨b,1,none⟩=false) (f2:w.frozen? ⟨b,2,none⟩=false) (hk:0≤k) (hK:k≤1000000000000000000) (s0:0≤s) (s1:s≤65521) (hge:(len:Int)≤k) (hpos:0<(len:Int)) (hlen:(len:Int)≤1048576)
  (hne:cb≠b) (hv:w.cell? ⟨cb,off+(k % (len:Int)).toNat,none⟩=some (.int .u8 v)) (v0:0≤v) (v1:v≤255) :
  Calls Tryz.prog 20 #[.pointer (some ⟨b,0,none⟩),.int .i64 n] w fun e w'=>e=.returned (.int .i64 (((s * 1103+12345) % 65521 / 7+v) % n))∧∃ nq nq',w'=(((w.drewN nq).setCell ⟨b,2,none⟩ (.int .i64 ((s * 1103+12345) % 65521))).drewN nq').setCell ⟨b,1,none⟩ (.int .i64 (k+1)):=by
 have hd:decide (k<(len:Int))=false:=by simp;omega
 have hm0:=Int.emod_nonneg k (show (len:Int)≠0 by omega)
 have hm1:=Int.emod_lt_of_pos k hpos
 have s0':0≤(s * 1103+12345) % 65521:=by omega
 have s1':(s * 1103+12345) % 65521≤65520:=by omega
 have hv':∀ nq x,((w.drewN nq).setCell ⟨b,2,none⟩ x).cell? ⟨cb,off+(k % (len:Int)).toNat,none⟩=some (.int .u8 v):=by
  intro nq x
  rw [World.cell?_setCell_other _ _ _ _ (fun e=>hne (congrArg Addr.block e).symm)]
  exact hv
 go_enter Tryz.func20,Tryz.ntmps20
 go_wp2
 go_quiet (fail)
 go_wp2
 go_quiet (fail)
 go_wp2
 go_ret
 exact ⟨rfl,_,_,rfl⟩
theorem grown_refl (w:World) (r:Option Nat):w.grownBy w r:=⟨rfl,rfl,rfl,Nat.le_refl _,fun _ _ _=>rfl⟩
theorem grown_trans {w w1 w2:World} {r:Option Nat} (h:w.grownBy w1 r) (h':w1.grownBy w2 r):w.grownBy w2 r :=
 ⟨h'.os.trans h.os,h'.tape.trans h.tape,h'.output.trans h.output,Nat.le_trans h.size h'.size,fun k hk hr=>(h'.block k (Nat.lt_of_lt_of_le hk h.size) hr).trans (h.block k hk hr)⟩
theorem grown_drewN {w w1:World} {r:Option Nat} (h:w.grownBy w1 r) (n:Nat):w.grownBy (w1.drewN n) r :=
 grown_trans h ⟨rfl,rfl,rfl,Nat.le_refl _,fun _ _ _=>rfl⟩
theorem grown_drew {w w1:World} {r:Option Nat} (h:w.grownBy w1 r):w.grownBy w1.drew r :=
 grown_trans h ⟨rfl,rfl,rfl,Nat.le_refl _,fun _ _ _=>rfl⟩
theorem grown_alloc {w w1:World} {r:Option Nat} (h:w.grownBy w1 r) (o:Obj):w.grownBy (w1.alloc o) r :=
 grown_trans h (World.grownBy_alloc _ _ _)
theorem grown_set {w w1:World} {b:Nat} (h:w.grownBy w1 (some b)) (o:Nat) (v:Value):w.grownBy (w1.setCell ⟨b,o,none⟩ v) (some b) :=
 grown_trans h ⟨rfl,rfl,rfl,by simp [World.setCell],fun k _ hr=>Below.heap_setCell _ _ _ _ (fun e=>hr (by rw [e]))⟩
theorem Bytes.keptB {w w1:World} {b b':Nat} {a:Option Addr} {len:Nat} (h:Bytes w b a len) (hb':b≤b') (hk:∀ k,k<b→w1.heap[k]? = w.heap[k]?):Bytes w1 b' a len:=by
 rcases h with h | ⟨cb,off,ha,hlt,hc⟩
 ·
  exact .inl h
 ·
  refine .inr ⟨cb,off,ha,by omega,fun j hj=>?_⟩
  obtain ⟨v,hv,h0,h1⟩:=hc j hj
  exact ⟨v,by rw [World.cell?_of_block (w:=w) (a:=⟨cb,off+j,none⟩) (hk cb hlt)];exact hv,h0,h1⟩
theorem Bytes.kept {w w1:World} {b:Nat} {a:Option Addr} {len:Nat} (h:Bytes w b a len) (hb:b<w.heap.size) (hg:w.grownBy w1 (some b)):Bytes w1 b a len :=
 h.keptB (Nat.le_refl _) (fun k hk=>hg.block k (by omega) (fun e=>by cases e;omega))
theorem Cur.keptB {w w1:World} {b:Nat} {K:Int} (h:Cur w b K) (hs:w.heap.size≤w1.heap.size) (hb:∀ k,k≤b→w1.heap[k]? = w.heap[k]?):Cur w1 b K:=by
 obtain ⟨a,len,cap,k,s,hlt,c0,c1,c2,f0,f1,f2,r⟩:=h
 have e:=hb b (Nat.le_refl _)
 refine ⟨a,len,cap,k,s,Nat.lt_of_lt_of_le hlt hs,?_,?_,?_,?_,?_,?_,r.1,r.2.1,r.2.2.1,r.2.2.2.1,r.2.2.2.2.1,r.2.2.2.2.2.keptB (Nat.le_refl _) (fun k hk=>hb k (by omega))⟩
 ·
  rw [World.cell?_of_block (w:=w) (a:=⟨b,0,none⟩) e];exact c0
 ·
  rw [World.cell?_of_block (w:=w) (a:=⟨b,1,none⟩) e];exact c1
 ·
  rw [World.cell?_of_block (w:=w) (a:=⟨b,2,none⟩) e];exact c2
 ·
  rw [World.frozen?_of_block (w:=w) (a:=⟨b,0,none⟩) e];exact f0
 ·
  rw [World.frozen?_of_block (w:=w) (a:=⟨b,1,none⟩) e];exact f1
 ·
  rw [World.frozen?_of_block (w:=w) (a:=⟨b,2,none⟩) e];exact f2
theorem Cur.lt {w:World} {b:Nat} {K:Int} (h:Cur w b K):b<w.heap.size:=by obtain ⟨_,_,_,_,_,h,_⟩:=h;exact h
theorem Cur.kept {w w1:World} {b:Nat} {K:Int} (h:Cur w b K) (hs:w.heap.size≤w1.heap.size) (hb:∀ k,k<w.heap.size→w1.heap[k]? = w.heap[k]?):Cur w1 b K :=
 h.keptB hs (fun k hk=>hb k (by have:=h.lt;omega))
theorem Cur.mono {w:World} {b:Nat} {K K':Int} (h:Cur w b K) (hK:K≤K'):Cur w b K':=by
 obtain ⟨a,len,cap,k,s,hlt,c0,c1,c2,f0,f1,f2,g1,g2,g3,r⟩:=h
 exact ⟨a,len,cap,k,s,hlt,c0,c1,c2,f0,f1,f2,g1,g2,by omega,r⟩
theorem Cur.alloc {w:World} {b:Nat} {K:Int} (h:Cur w b K) (o:Obj):Cur (w.alloc o) b K :=
 h.kept (by simp) (fun k hk=>Below.heap_alloc _ _ _ hk)
theorem Cur.drew {w:World} {b:Nat} {K:Int} (h:Cur w b K):Cur w.drew b K :=
 h.kept (Nat.le_refl _) (fun _ _=>rfl)
theorem step1 {w:World} {b len cap:Nat} {a:Option Addr} {k s:Int} (n1:Nat) (hlt:b<w.heap.size)
  (c0:w.cell? ⟨b,0,none⟩=some (.slice a len cap)) (c1:w.cell? ⟨b,1,none⟩=some (.int .i64 k)) (c2:w.cell? ⟨b,2,none⟩=some (.int .i64 s))
  (f0:w.frozen? ⟨b,0,none⟩=false) (f1:w.frozen? ⟨b,1,none⟩=false) (f2:w.frozen? ⟨b,2,none⟩=false)
  (g1:len≤1048576) (g2:0≤k) (g3:0≤s∧s≤65521) (hB:Bytes w b a len) (K:Int) (hK:k≤K) :
  Cur ((w.drewN n1).setCell ⟨b,1,none⟩ (.int .i64 (k+1))) b (K+1):=by
 refine ⟨a,len,cap,k+1,s,by simpa [World.setCell] using hlt,?_,?_,?_,?_,?_,?_,g1,by omega,by omega,g3.1,g3.2,?_⟩
 ·
  rw [World.cell?_setCell_other _ _ _ _ (by simp)];exact c0
 ·
  exact World.cell?_setCell_same _ _ _ (u:=.int .i64 k) c1
 ·
  rw [World.cell?_setCell_other _ _ _ _ (by simp)];exact c2
 ·
  rw [World.frozen?_setCell];exact f0
 ·
  rw [World.frozen?_setCell];exact f1
 ·
  rw [World.frozen?_setCell];exact f2
 ·
  exact hB.kept hlt (grown_set (grown_drewN (grown_refl _ _) _) _ _)
theorem step2 {w:World} {b len cap:Nat} {a:Option Addr} {k s:Int} (n1 n2:Nat) (s':Int) (hlt:b<w.heap.size)
  (c0:w.cell? ⟨b,0,none⟩=some (.slice a len cap)) (c1:w.cell? ⟨b,1,none⟩=some (.int .i64 k)) (c2:w.cell? ⟨b,2,none⟩=some (.int .i64 s))
  (f0:w.frozen? ⟨b,0,none⟩=false) (f1:w.frozen? ⟨b,1,none⟩=false) (f2:w.frozen? ⟨b,2,none⟩=false)
  (g1:len≤1048576) (g2:0≤k) (g3:0≤s'∧s'≤65521) (hB:Bytes w b a len) (K:Int) (hK:k≤K) :
  Cur ((((w.drewN n1).setCell ⟨b,2,none⟩ (.int .i64 s')).drewN n2).setCell ⟨b,1,none⟩ (.int .i64 (k+1))) b (K+1):=by
 refine step1 (w:=(w.drewN n1).setCell ⟨b,2,none⟩ (.int .i64 s')) (s:=s') (len:=len) (cap:=cap) (a:=a) n2 (by simpa [World.setCell] using hlt) ?_ ?_ ?_ ?_ ?_ ?_ g1 g2 g3 ?_ K hK
 ·
  rw [World.cell?_setCell_other _ _ _ _ (by simp)];exact c0
 ·
  rw [World.cell?_setCell_other _ _ _ _ (by simp)];exact c1
 ·
  exact World.cell?_setCell_same _ _ _ (u:=.int .i64 s) c2
 ·
  rw [World.frozen?_setCell];exact f0
 ·
  rw [World.frozen?_setCell];exact f1
 ·
  rw [World.frozen?_setCell];exact f2
 ·
  exact hB.kept hlt (grown_set (grown_drewN (grown_refl _ _) _) _ _)
theorem pick_any (w:World) (b:Nat) (K:Int) (hc:Cur w b K) (hK:K≤1000000000000000000) (n:Int) (hn':n≤1000000000000000000) :
  Calls Tryz.prog 20 #[.pointer (some ⟨b,0,none⟩),.int .i64 n] w fun e w'=>∃ x:Int,e=.returned (.int .i64 x)∧0≤x∧(2≤n→x<n)∧w.grownBy w' (some b)∧w'.heap.size=w.heap.size∧Cur w' b (K+1):=by
 by_cases hn:n<2
 ·
  refine (pick_lt w b n hn).mono ?_
  rintro e w' ⟨rfl,rfl⟩
  exact ⟨0,rfl,by omega,by omega,grown_refl _ _,rfl,hc.mono (by omega)⟩
 ·
  obtain ⟨a,len,cap,k,s,hlt,c0,c1,c2,f0,f1,f2,g1,g2,g3,g4,g5,hB⟩:=hc
  have hB':=hB
  rcases hB' with rfl | ⟨cb,off,rfl,hcl,hcc⟩
  ·
   refine (pick_nil w b n (by omega) a cap k s c0 c1 c2 f1 f2 g2 (by omega) g4 g5).mono ?_
   rintro e w' ⟨rfl,nq,rfl⟩
   refine ⟨0,rfl,by omega,by omega,?_,by simp [World.setCell],?_⟩
   ·
    exact grown_set (grown_set (grown_drewN (grown_refl _ _) _) _ _) _ _
   ·
    exact step2 nq 0 _ hlt c0 c1 c2 f0 f1 f2 g1 g2 (by omega) hB K g3
  ·
   by_cases hl0:len=0
   ·
    subst hl0
    refine (pick_nil w b n (by omega) _ cap k s c0 c1 c2 f1 f2 g2 (by omega) g4 g5).mono ?_
    rintro e w' ⟨rfl,nq,rfl⟩
    refine ⟨0,rfl,by omega,by omega,?_,by simp [World.setCell],?_⟩
    ·
     exact grown_set (grown_set (grown_drewN (grown_refl _ _) _) _ _) _ _
    ·
     exact step2 nq 0 _ hlt c0 c1 c2 f0 f1 f2 g1 g2 (by omega) hB K g3
   ·
    by_cases hk:k<(len:Int)
    ·
     obtain ⟨v,hv,v0,v1⟩:=hcc k.toNat (by omega)
     refine (pick_in w b n (by omega) hn' len cap k cb off v c0 c1 f1 g2 hk (by omega) hv v0 v1).mono ?_
     rintro e w' ⟨rfl,nq,rfl⟩
     refine ⟨_,rfl,Int.emod_nonneg _ (by omega),fun _=>Int.emod_lt_of_pos _ (by omega),?_,by simp [World.setCell],?_⟩
     ·
      exact grown_set (grown_drewN (grown_refl _ _) _) _ _
     ·
      exact step1 nq hlt c0 c1 c2 f0 f1 f2 g1 g2 ⟨g4,g5⟩ hB K g3
    ·
     have hm0:=Int.emod_nonneg k (show (len:Int)≠0 by omega)
     have hm1:=Int.emod_lt_of_pos k (show 0<(len:Int) by omega)
     obtain ⟨v,hv,v0,v1⟩:=hcc (k % (len:Int)).toNat (by omega)
     refine (pick_out w b n (by omega) hn' len cap k s cb off v c0 c1 c2 f1 f2 g2 (by omega) g4 g5 (by omega) (by omega) (by omega) (by omega) hv v0 v1).mono ?_
     rintro e w' ⟨rfl,nq,nq',rfl⟩
     refine ⟨_,rfl,Int.emod_nonneg _ (by omega),fun _=>Int.emod_lt_of_pos _ (by omega),?_,by simp [World.setCell],?_⟩
     ·
      exact grown_set (grown_drewN (grown_set (grown_drewN (grown_refl _ _) _) _ _) _) _ _
     ·
      exact step2 nq nq' _ hlt c0 c1 c2 f0 f1 f2 g1 g2 (by omega) hB K g3
theorem ret_bool {a b:Bool} (h:a=b):Ending.returned (.bool a)=.returned (.bool b):=by rw [h]
set_option maxHeartbeats 400000 in
theorem once_any (w:World) (b:Nat) (K:Int) (hc:Cur w b K) (hK:K≤1000000000000000000) (n:Int) (hn0:0≤n) (hn':n≤1000000000000000000) :
  Calls Tryz.prog 19 #[.pointer (some ⟨b,0,none⟩),.int .i64 n] w fun e w'=>∃ x:Bool,e=.returned (.bool x)∧w.grownBy w' (some b)∧w'.heap.size=w.heap.size∧Cur w' b (K+1):=by
 go_enter Tryz.func19,Tryz.ntmps19
 go_wp2_with fail
 refine (pick_any _ _ _ hc hK _ hn').mono ?_
 rintro e w1 ⟨x,rfl,x0,x1,hg,hz,hc1⟩
 go_wp2
 go_ret
 exact ⟨_,rfl,hg,hz,hc1⟩
def okv (lo hi:Int):Value→Bool
 | .int .i64 v=>decide (lo≤v∧v≤hi)
 | _=>false
theorem okv_int {lo hi:Int} {v:Value} (h:okv lo hi v=true):∃ x:Int,v=.int .i64 x∧lo≤x∧x≤hi:=by
 unfold okv at h
 split at h
 ·
  exact ⟨_,rfl,by simpa using h⟩
 ·
  cases h
theorem tab {w w1:World} {b:Nat} (cs:Array Value) (T:TypeId) (lo hi:Int) (hg:(w.alloc (.cells cs T)).grownBy w1 (some b)) (hb:b<w.heap.size) (hall:(cs.toList.all (okv lo hi))=true) (x:Int) (h0:0≤x) (h1:x<(cs.size:Int)) :
  ∃ v:Int,w1.cell? ⟨w.heap.size,x.toNat,none⟩=some (.int .i64 v)∧lo≤v∧v≤hi:=by
 have hlt:x.toNat<cs.size:=by omega
 have:=(List.all_eq_true.1 hall) cs[x.toNat] (by simp)
 obtain ⟨v,hv,hb'⟩:=okv_int this
 refine ⟨v,?_,hb'⟩
 refine hg.cell (a:=⟨w.heap.size,x.toNat,none⟩) ?_ (by simp;omega)
 rw [World.cell?_alloc_new,Array.getElem?_eq_getElem hlt,hv]
set_option maxHeartbeats 400000 in
theorem fix_any (w:World) (b:Nat) (K:Int) (hc:Cur w b K) (hK:K≤1000000000000000000) :
  Calls Tryz.prog 76 #[.pointer (some ⟨b,0,none⟩)] w fun e w'=>∃ x:Int,e=.returned (.int .i64 x)∧-1000000000≤x∧x≤1000000000∧w.grownBy w' (some b)∧Cur w' b (K+1):=by
 have hb:b<w.heap.size:=by obtain ⟨_,_,_,_,_,h,_⟩:=hc;exact h
 go_enter Tryz.func76,Tryz.ntmps76
 go_wp2_with fail
 refine (pick_any _ _ _ (hc.alloc _) hK _ (by omega)).mono ?_
 rintro e w1 ⟨x,rfl,x0,x1,hg,hz,hc1⟩
 have x2:x<13:=x1 (by omega)
 obtain ⟨v,hv,v0,v1⟩:=tab _ _ (-1000000000) 1000000000 hg hb (by decide +kernel) x x0 x2
 have hg':w.grownBy w1 (some b):=grown_trans (World.grownBy_alloc _ _ _) hg
 clear hg x1 hz
 go_wp2
 go_ret
 exact ⟨v,rfl,v0,v1,hg',hc1⟩
set_option maxHeartbeats 400000 in
theorem raw_any (w:World) (b:Nat) (K:Int) (hc:Cur w b K) (hK:K≤100000000000000000) :
  Calls Tryz.prog 44 #[.pointer (some ⟨b,0,none⟩)] w fun e w'=>∃ x:Int,e=.returned (.int .i64 x)∧-9223372036854775808≤x∧x≤9223372036854775807∧w.grownBy w' (some b)∧Cur w' b (K+2):=by
 have hb:b<w.heap.size:=by obtain ⟨_,_,_,_,_,h,_⟩:=hc;exact h
 go_enter Tryz.func44,Tryz.ntmps44
 go_wp2_with fail
 refine (pick_any _ _ _ hc (by omega) _ (by omega)).mono ?_
 rintro e w1 ⟨x,rfl,x0,x1,hg,hz,hc1⟩
 have x2:x<8:=x1 (by omega)
 have hb1:b<w1.heap.size:=by omega
 clear x1 hz
 by_cases e0:x=0
 ·
  subst e0
  go_wp2_with fail
  refine (pick_any _ _ _ hc1 (by omega) _ (by omega)).mono ?_
  rintro e w2 ⟨y,rfl,y0,y1,hg2,hz2,hc2⟩
  have y2:y<256:=y1 (by omega)
  clear y1
  go_wp2
  go_ret
  exact ⟨_,rfl,by omega,by omega,grown_trans hg hg2,hc2.mono (by omega)⟩
 ·
  by_cases e1:x=1
  ·
   subst e1
   go_wp2_with fail
   refine (pick_any _ _ _ (hc1.alloc _) (by omega) _ (by omega)).mono ?_
   rintro e w2 ⟨y,rfl,y0,y1,hg2,hz2,hc2⟩
   have y2:y<8:=y1 (by omega)
   obtain ⟨v,hv,v0,v1⟩:=tab _ _ (-9223372036854775808) 9223372036854775807 hg2 hb1 (by decide +kernel) y y0 y2
   have hg':w.grownBy w2 (some b):=grown_trans hg (grown_trans (World.grownBy_alloc _ _ _) hg2)
   clear hg hg2 y1 hz2
   go_wp2
   go_ret
   exact ⟨v,rfl,v0,v1,hg',hc2.mono (by omega)⟩
  ·
   have n0:(x == 0)=false:=by simpa using e0
   have n1:(x == 1)=false:=by simpa using e1
   go_wp2_with fail
   refine (pick_any _ _ _ hc1 (by omega) _ (by omega)).mono ?_
   rintro e w2 ⟨y,rfl,y0,y1,hg2,hz2,hc2⟩
   have y2:y<14:=y1 (by omega)
   clear y1
   go_wp2
   go_ret
   exact ⟨_,rfl,by omega,by omega,grown_trans hg hg2,hc2.mono (by omega)⟩
theorem bytes_of {w:World} {x:Addr} {len cap:Nat} {zs:List Int} (b:Nat) (hb:w.heap.size≤b) (hl:len≤cap) (hz:zs.length=cap)
  (hc:∀ i,i<zs.length→w.cell? (x.add i)=some (.int .u8 (zs.getD i 0))) (hw:∀ n ∈ zs,(Lit.int .u8 n).wf=true):Bytes w b (some x) len:=by
 by_cases h0:len=0
 ·
  exact .inl h0
 ·
  obtain ⟨cb,off,spot⟩:=x
  have hs:spot=none:=by simpa [Addr.add] using World.cell?_spot (hc 0 (by omega))
  subst hs
  have hlt:cb<w.heap.size:=World.block_lt_of_cell? w _ (hc 0 (by omega))
  refine .inr ⟨cb,off,rfl,by omega,fun j hj=>⟨zs.getD j 0,?_,?_⟩⟩
  ·
   rw [← Go.WideShapes.add_plain];exact hc j (by omega)
  ·
   have hm:zs.getD j 0 ∈ zs:=by
    rw [List.getD_eq_getElem?_getD,List.getElem?_eq_getElem (by omega)]
    exact List.getElem_mem _
   exact bounds_u8 (hw _ hm)
theorem Bytes.below {w w1:World} {b b':Nat} {a:Option Addr} {len:Nat} (h:Bytes w b a len) (hb':b≤b') (_hs:w.heap.size≤w1.heap.size) (hk:∀ k,k<b→w1.heap[k]? = w.heap[k]?):Bytes w1 b' a len:=h.keptB hb' hk
set_option maxHeartbeats 400000 in
theorem open_any (w:World) (a:Option Addr) (len cap:Nat) (hB:Bytes w w.heap.size a len) (hl:(len:Int)≤1048576) :
  Calls Tryz.prog 17 #[.slice a len cap] w fun e w'=>e=.returned (.pointer (some ⟨w.heap.size,0,none⟩))∧w.grownBy w' (some w.heap.size)∧Cur w' w.heap.size 0:=by
 go_enter Tryz.func17,Tryz.ntmps17
 go_wp2
 go_ret
 refine ⟨rfl,World.grownBy_alloc _ _ _,a,len,cap,0,83+(len:Int) % 1000,by simp,?_,?_,?_,?_,?_,?_,by omega,by omega,by omega,by omega,by omega,?_⟩
 ·
  simp [World.cell?_alloc_new]
 ·
  simp [World.cell?_alloc_new]
 ·
  simp [World.cell?_alloc_new]
 ·
  simp
 ·
  simp
 ·
  simp
 ·
  exact hB.below (Nat.le_refl _) (by simp) (fun k hk=>Below.heap_alloc _ _ _ hk)
set_option maxHeartbeats 400000 in
theorem big_any (w:World) (a:Option Addr) (len cap:Nat) :
  Calls Tryz.prog 5 #[.slice a len cap] w fun e w'=>e=.returned (.bool (decide (1048576<len)))∧w'=w:=by
 go_enter Tryz.func5,Tryz.ntmps5
 go_wp2
 go_ret
 refine ⟨ret_bool ?_,rfl⟩
 simp
 omega
end Go.Proofs.YtaojoamldoofpaaGreatDoor.Cu
