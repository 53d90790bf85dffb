/-
  Contracts that the proof leans on, put together in the order in which they build.
-/
import Derived.Test.YtaojoamldoofpaaGreatDoorPart13
import Derived.Test.YtaojoamldoofpaaGreatDoorPart11
import Derived.Test.YtaojoamldoofpaaGreatDoorPart8
import Derived.Test.YtaojoamldoofpaaGreatDoorPart1
import Derived.Maps.OwnSet
set_option linter.unusedVariables false
namespace Go.Proofs.YtaojoamldoofpaaGreatDoor.Mx
set_option maxRecDepth 20000
open Go.RowKit
open Tb
open Tk
open Co
open Vc
open Sv (OwV OwI IsV Wr Fr fr_grown fr_below owi_of info_vec)
open Wc (wcols tok_c one_cell one_one IsCb)
open Ct (ord)
open Li (below_none iv)
structure SV (w:World) (base:Nat) (v:Value) (xs:List (List Int)):Prop where
 ex:∃ (vs:List Value) (bl:Nat→Nat),vs.length=xs.length∧w.ownsRow base 139 1 v xs.length vs∧(∀ j (h:j<xs.length) (h':j<vs.length),OwI w (fun q=>q=bl j) vs[j] xs[j]∧(base≤bl j∧bl j<w.heap.size)∧v.ownBlock≠some (bl j))∧∀ i j,i<xs.length→j<xs.length→¬ i=j→¬ bl i=bl j
variable {w w1:World} {base:Nat} {v:Value} {xs:List (List Int)}
theorem SV.lt (h:SV w base v xs):∀ k,v.ownBlock=some k→base≤k∧k<w.heap.size:=by
 obtain ⟨vs,bl,hl,ho,he⟩:=h.ex
 exact World.ownsRow.lt ho
theorem sv_made (w:World) (base:Nat) (hb:base≤w.heap.size):SV (w.alloc (.cells #[] 139)) base (.slice (some ⟨w.heap.size,0,none⟩) 0 0) [] :=
 ⟨[],fun _=>0,rfl,World.ownsRow_made w #[] 0 hb (by unfold maxLen;omega) (by simp),fun j h=>by simp at h,fun i j h=>by simp at h⟩
theorem sv_snoc {v5 u:Value} {x:List Int} {vs:List Value} {bl:Nat→Nat} {b:Nat} (hl:vs.length=xs.length)
  (he:∀ j (h:j<xs.length) (h':j<vs.length),OwI w (fun q=>q=bl j) vs[j] xs[j]∧(base≤bl j∧bl j<w.heap.size)∧v.ownBlock≠some (bl j)) (hd:∀ i j,i<xs.length→j<xs.length→¬ i=j→¬ bl i=bl j)
  (hu:OwI w (fun q=>q=b) u x) (hb:base≤b∧b<w.heap.size) (hbl:∀ j,j<xs.length→bl j<b) (hvb:v.ownBlock≠some b)
  (ho:w1.ownsRow base 139 1 v5 (xs.length+1) (vs ++ [u])) (hg:w.grownBy w1 v.ownBlock) (hloc:v5.ownBlock=v.ownBlock ∨ v5.ownBlock=some w.heap.size):SV w1 base v5 (xs ++ [x]):=by
 have hfr:∀ y,v.ownBlock≠some y→Fr (fun q=>v.ownBlock=some q) w w1:=fun y _=>⟨hg.os,hg.tape,hg.output,hg.size,fun k hk hn=>hg.block k hk (fun e=>hn e.symm)⟩
 have hv5:∀ y,y<w.heap.size→v.ownBlock≠some y→v5.ownBlock≠some y:=fun y hy hn e=>by
  rcases hloc with h | h
  ·
   exact hn (h ▸ e)
  ·
   rw [h] at e;injection e with e;omega
 have hsz:=hg.size
 refine ⟨vs ++ [u],fun j=>if j=xs.length then b else bl j,by simp [hl],by simpa using ho,fun j h h'=>?_,fun i j hi hj hij=>?_⟩
 ·
  by_cases hj:j<xs.length
  ·
   obtain ⟨h1,h2,h3⟩:=he j hj (by omega)
   rw [List.getElem_append_left (by omega),List.getElem_append_left hj]
   simp only [show ¬ j=xs.length by omega,if_false]
   exact ⟨h1.fr (hfr _ h3) (fun k e e'=>by subst e;exact h3 e'),⟨h2.1,by omega⟩,hv5 _ h2.2 h3⟩
  ·
   have e1:j=xs.length:=by simp at h;omega
   subst e1
   rw [List.getElem_append_right (by omega),List.getElem_append_right (by omega)]
   simp only [hl,Nat.sub_self,List.getElem_cons_zero,if_true]
   exact ⟨hu.fr (hfr _ hvb) (fun k e e'=>by subst e;exact hvb e'),⟨hb.1,by omega⟩,hv5 _ hb.2 hvb⟩
 ·
  simp at hi hj
  by_cases e1:i=xs.length
  ·
   have e2:¬ j=xs.length:=by omega
   have:=hbl j (by omega)
   simp only [e1,e2,if_true,if_false];omega
  ·
   by_cases e2:j=xs.length
   ·
    have:=hbl i (by omega)
    simp only [e1,e2,if_true,if_false];omega
   ·
    simp only [e1,e2,if_false]
    exact hd i j (by omega) (by omega) hij
theorem SV.owv (h:SV w base v xs):OwV w (fun q=>base≤q∧q<w.heap.size) v xs:=by
 obtain ⟨vs,bl,hl,ho,he,hd⟩:=h.ex
 have h':=ho
 rcases ho.2 with ⟨rfl,h0⟩ | ⟨g,cap,cur,rfl,hb,hh,_⟩
 ·
  obtain rfl:=List.length_eq_zero_iff.1 h0
  exact ⟨none,0,rfl,.inl rfl⟩
 ·
  have hg:=(Array.getElem?_eq_some_iff.1 hh).1
  refine ⟨_,cap,rfl,.inr ⟨g,0,fun j=>vs.getD j undef,bl,rfl,⟨hb,hg⟩,hg,fun j hj=>?_,fun j hj=>?_,hd⟩⟩
  ·
   obtain ⟨h1,h2,h3⟩:=he j hj (by omega)
   refine ⟨?_,?_⟩
   ·
    rw [Nat.zero_add,World.ownsRow.cellAt h' j (by omega)]
    simp [List.getElem?_eq_getElem (show j<vs.length by omega)]
   ·
    have:vs.getD j undef=vs[j]'(by omega):=by simp [List.getElem?_eq_getElem (show j<vs.length by omega)]
    show OwI w _ (vs.getD j undef) _
    rw [this];exact h1
  ·
   obtain ⟨h1,h2,h3⟩:=he j hj (by omega)
   exact ⟨h2,fun e=>h3 (by rw [e];rfl)⟩
theorem SV.slice (h:SV w base v xs):v=.slice none 0 0∧xs.length=0 ∨ ∃ G cap,v=.slice (some ⟨G,0,none⟩) xs.length cap:=by
 obtain ⟨vs,bl,hl,ho,he,hd⟩:=h.ex
 rcases ho.2 with ⟨rfl,h0⟩ | ⟨g,cap,cur,rfl,hb,hh,_⟩
 ·
  exact .inl ⟨rfl,h0⟩
 ·
  exact .inr ⟨g,cap,rfl⟩
noncomputable def nrow (n:Nat) (rs:List Row) (i g:Nat):Int:=if g<n then (rs[i]?.bind fun r=>r.nums[g]?).getD 0 else 0
theorem mk_snoc (N:Nat) (e:Nat→Nat→Int):mk (N+1) e=mk N e ++ [(List.range 6).map fun g=>e N g]:=by simp [mk,List.range_succ]
theorem fnum_num {n c:Int} {rs:List Row} {s p:Int} (h:tok n c rs=true) (i g:Nat) (hi:i<rs.length) (hg:g<n.toNat):fnum n c rs s p i g=nrow n.toNat rs i g:=by
 obtain ⟨⟨n0,n3⟩,_,_⟩:=tok_c h
 unfold fnum nrow fcols
 have h1:g<(ncols n.toNat rs).length:=by rw [ncols_length];exact hg
 rw [List.getElem?_append_left h1,List.getElem?_eq_getElem h1,if_pos hg]
 have h2:=(tok_nums h i hi).1
 have h3:g<rs[i].nums.length:=by omega
 simp [ncols,nat,hi,h3]
theorem fnum_word {n c:Int} {rs:List Row} {s p:Int} (i q:Nat) (hq:q<(wcols c rs).length):fnum n c rs s p i (n.toNat+q)=((Ct.cAll (wcols c rs)[q] (labs rs) (Po.permR s rs.length) p)[i]?).getD 0:=by
 unfold fnum fcols
 rw [List.getElem?_append_right (by rw [ncols_length];omega),ncols_length,show n.toNat+q-n.toNat=q by omega]
 simp [ccols,hq]
theorem tot_mk (N:Nat) (e:Nat→Nat→Int):Sv.tot (mk N e)=6 * N:=by
 induction N with
 | zero=>rfl
 | succ N ih =>
  have key:∀ (xs:List (List Int)) (y:List Int),Sv.tot (xs ++ [y])=Sv.tot xs+y.length:=by
   intro xs y
   induction xs with
   | nil=>simp [Sv.tot]
   | cons x xs ih=>simp only [List.cons_append,Sv.tot,ih];omega
  rw [mk_snoc,key,ih]
  simp;omega
theorem mat_sz (n c:Int) (rs:List Row) (k:Cf.C):(mat n c rs k).length+Sv.tot (mat n c rs k)≤1048576:=by
 by_cases h:tok n c rs=true∧Cf.cok k=true
 ·
  rw [mat_yes h.1 h.2,mk_length,tot_mk]
  have:=(tok_c h.1).2.2
  omega
 ·
  rw [mat_no h];simp [Sv.tot]
set_option maxHeartbeats 8000000 in
theorem smat (w:World) (n c:Int) (a:Option Addr) (cap:Nat) (rs:List Row) (k:Cf.C) (hx:IsR w a rs) (hl:rs.length+szR rs≤1048576) :
    Calls Tryz.prog 72 #[.agg #[.int .i64 n,.int .i64 c,.slice a rs.length cap],.agg #[.int .i64 k.trees,.int .i64 k.depth,.int .i64 k.most,.int .i64 k.rate,.int .i64 k.l2,.int .i64 k.prior,.int .i64 k.seed]] w fun e w'=>∃ v,e=.returned (.tuple #[v,.bool (tok n c rs && Cf.cok k)])∧OwV w' (fun q=>w.heap.size≤q∧q<w'.heap.size) v (mat n c rs k)∧Below w.heap.size w w':=by
  obtain ⟨i0,hi,hz0,hz1,hz2⟩:=info_parts info_vec
  obtain ⟨j0,hj,jz0,jz1,jz2⟩:=info_parts Li.info_int
  go_enter Tryz.func72,Tryz.ntmps72
  go_wp2_with fail
  obtain ⟨W1,hW,hsz,hB,bx⟩:=box3_new' w (.int .i64 n) (.int .i64 c) (.slice a rs.length cap) 79
  rw [hW]
  clear hW
  obtain ⟨W,hW2,hsz2,hb2,bc⟩:=Cf.bx_new W1 k 82
  rw [hW2]
  clear hW2
  rw [hsz] at bc
  have bx:=bx.below hb2
  have hB:=hB.trans (hb2.mono hB.size)
  have hszW:w.heap.size+1<W.heap.size:=by omega
  have hxW:=hx.below hB
  clear hsz hsz2 hb2 hx
  refine (stab _ _ _ _ _ rs hxW hl).mono ?_
  rintro e w1 ⟨rfl,hb⟩
  have bx:=bx.below hb
  have bc:=bc.below hb (by omega)
  have hxW:=hxW.below hb
  have hB:=hB.trans (hb.mono hB.size)
  have hszW:w.heap.size+1<w1.heap.size:=by have:=hb.size;omega
  clear hb
  obtain ⟨_,d0,d1,d2,d3,d4,d5,d6⟩:=id bc
  cases ht:tok n c rs
  · have HM : Hid (mat n c rs k = []) := mat_no (by rw [ht]; simp)
    have HV:Hid ((tok n c rs && Cf.cok k)=false):=by show _=_;rw [ht];rfl
    go_wp2
    refine bodyPost_ret (v:=.tuple #[.slice (some ⟨w1.heap.size,0,none⟩) 0 0,.bool false]) (by simp [results,Tryz.results72,go_sem]) rfl ?_
    exact ⟨.slice (some ⟨w1.heap.size,0,none⟩) 0 0,by rw [HV.out],by rw [HM.out];exact ⟨_,0,rfl,.inl rfl⟩,hB.alloc hB.size _⟩
  go_wp2_with fail
  refine (Cf.scok _ _).mono ?_
  rintro e w2 ⟨rfl,hb⟩
  have bx:=bx.below hb
  have bc:=bc.below hb (by omega)
  have hxW:=hxW.below hb
  have hB:=hB.trans (hb.mono hB.size)
  have hszW:w.heap.size+1<w2.heap.size:=by have:=hb.size;omega
  clear hb d0 d1 d2 d3 d4 d5 d6
  cases hk:Cf.cok k
  · have HM : Hid (mat n c rs k = []) := mat_no (by rw [hk]; simp)
    have HV:Hid ((tok n c rs && Cf.cok k)=false):=by show _=_;rw [ht,hk];rfl
    go_wp2
    refine bodyPost_ret (v:=.tuple #[.slice (some ⟨w2.heap.size,0,none⟩) 0 0,.bool false]) (by simp [results,Tryz.results72,go_sem]) rfl ?_
    exact ⟨.slice (some ⟨w2.heap.size,0,none⟩) 0 0,by rw [HV.out],by rw [HM.out];exact ⟨_,0,rfl,.inl rfl⟩,hB.alloc hB.size _⟩
  have HM:Hid (mat n c rs k=mk rs.length (fnum n c rs k.seed k.prior)):=mat_yes ht hk
  have hpr:=cok_prior hk
  obtain ⟨⟨n0,n3⟩,⟨c0,c2⟩,h40⟩:=tok_c ht
  have HT:Hid (tok n c rs=true):=ht
  have HK:Hid (Cf.cok k=true):=hk
  obtain ⟨nn,rfl⟩:∃ nn:Nat,n=(nn:Int):=⟨n.toNat,by omega⟩
  have HTN:Hid (∀ i (hi:i<rs.length),rs[i].nums.length=nn):=fun i hi=>by have:=(tok_nums ht i hi).1;omega
  clear ht hk
  have st:=sv_made w2 w2.heap.size (Nat.le_refl _)
  obtain ⟨w3,hw3⟩:∃ w3,w2.alloc (.cells #[] 139)=w3:=⟨_,rfl⟩
  have hb3:Below w2.heap.size w2 w3:=by rw [← hw3];exact (Below.refl _ _).alloc (Nat.le_refl _) _
  rw [hw3] at st
  have HW3:Hid (w2.alloc (.cells #[] 139)=w3):=hw3
  clear hw3
  obtain ⟨G,hG⟩:∃ G,w2.heap.size=G:=⟨_,rfl⟩
  have HG:Hid (w2.heap.size=G):=hG
  rw [hG] at st hszW hb3
  go_wp2
  rw [HW3.out]
  try rw [hG]
  clear HW3 hG
  go_loopw [6,7] (fun v i wr=>∃ q:Nat,q≤rs.length∧i=.int .i64 q∧SV wr G v (mk q (nrow nn rs))∧Below G w2 wr) (fun _ i _=>rs.length-(intOf i).toNat)
  case atStart=>exact ⟨0,Nat.zero_le _,rfl,st,hb3⟩
  case round =>
    obtain ⟨q,hq,rfl,sv,hBG⟩:=hrel
    have hBr:Below w2.heap.size w2 wr:=by rw [HG.out];exact hBG
    have bxr:=bx.below hBr
    have hxr:=hxW.below hBr
    obtain ⟨hbx,⟨cx0,cx1,cx2⟩,_⟩:=id bxr
    have hsr:G≤wr.heap.size:=by have:=hBr.size;rw [HG.out] at this;exact this
    clear st hb3
    by_cases hlt:q<rs.length
    · rcases hxr with h0 | ⟨xb, xo, rfl, hxb, hxc⟩
      · rw [h0] at hlt;simp at hlt
      obtain ⟨v0,v1,v2,⟨e0,e1,e2⟩,hr⟩:=hxc q hlt
      obtain ⟨a0,q0,a1,q1,rfl,rfl,rfl,in0,_⟩:=hr
      have hnl:=HTN.out q hlt
      have HNR:Hid (∀ g (hg:g<rs[q].nums.length),nrow nn rs q g=rs[q].nums[g]):=fun g hg=>by
        unfold nrow
        rw [if_pos (by omega)]
        simp [hlt,hg]
      have HNR0:Hid (∀ g,¬ g<nn→nrow nn rs q g=0):=fun g hg=>by unfold nrow;rw [if_neg hg]
      obtain ⟨row,hrow⟩:∃ row,rs[q]=row:=⟨_,rfl⟩
      rw [hrow] at in0 hnl HNR e0 e1 e2
      have HNL:Hid (row.nums.length=nn):=hnl
      have hnl3:row.nums.length≤3:=by omega
      obtain ⟨wo,rfl⟩:∃ wo,wo=wr:=⟨_,rfl⟩
      clear hrow hnl hxc
      go_wp2_with (at_make
                   refine wpList_make_full _ rfl _ _ 45 rfl wo.heap.size 3 j0 (.int .i64 0) 1 Tryz.underlying45 hj jz0 jz1 _ _ _ _ 6 rfl rfl (by omega) (by omega) (by rw [jz2];omega) (by unfold maxLen;omega) (Nat.le_refl _) ?_
                   intro w4 hown4 hgrow4)
      have o4:=Li.own_made hown4
      have hb4:=below_none hgrow4
      obtain ⟨w5,hw5,hsz5,hb5,bv⟩:=Sv.new1 w4 [.slice (some ⟨wo.heap.size,0,none⟩) 6 6] 139
      rw [hw5]
      have o5:=o4.below hb5
      have hb5:=hb4.trans (hb5.mono hb4.size)
      obtain ⟨D,hD⟩:∃ D,w4.heap.size=D:=⟨_,rfl⟩
      have hDR:wo.heap.size<D:=by rw [← hD];exact (o4.ge wo.heap.size rfl).2
      rw [hD] at bv ⊢
      obtain ⟨R,hR⟩:∃ R,wo.heap.size=R:=⟨_,rfl⟩
      have HR:Hid (wo.heap.size=R):=hR
      rw [hR] at o5 hb5 bv hDR hsr hbx hxb ⊢
      have hbR:Below R wo w5:=hb5
      clear hown4 hgrow4 o4 hb4 hw5 hsz5 hD hR hb5
      have hz6:(List.replicate 6 (0:Int))=(List.range 6).map fun t=>if t<0 then nrow nn rs q t else 0:=by simp [List.range_succ]
      rw [hz6] at o5
      clear hz6
      go_loopw [9] (fun i wr=>∃ g:Nat,g≤nn∧i=.int .i64 g∧Li.Own wr R (.slice (some ⟨R,0,none⟩) 6 6) ((List.range 6).map fun t=>if t<g then nrow nn rs q t else 0)∧Wr wr D 0 [.slice (some ⟨R,0,none⟩) 6 6]∧Below R wo wr) (fun i _=>nn-(intOf i).toNat)
      case atStart=>exact ⟨0,Nat.zero_le _,rfl,o5,bv,hbR⟩
      case round =>
        obtain ⟨g,hg,rfl,og,bv,hbR⟩:=hrel
        have hbo:Below wo.heap.size wo wr:=by rw [HR.out];exact hbR
        have dx0:=(hbo.cell (p:=⟨w.heap.size,0,none⟩) (by show w.heap.size<_;rw [HR.out];omega)).trans cx0
        have dx2:=(hbo.cell (p:=⟨w.heap.size,2,none⟩) (by show w.heap.size<_;rw [HR.out];omega)).trans cx2
        have de0:=(hbo.cell (p:=⟨xb,xo+q * 3,none⟩) (by show xb<_;rw [HR.out];exact hxb)).trans e0
        obtain ⟨l,hlg⟩:∃ l:List Int,(List.range 6).map (fun t=>if t<g then nrow nn rs q t else 0)=l:=⟨_,rfl⟩
        have hl6:l.length=6:=by rw [← hlg];simp
        have HL6:Hid (l.length=6):=hl6
        have HLG:Hid ((List.range 6).map (fun t=>if t<g then nrow nn rs q t else 0)=l):=hlg
        rw [hlg] at og
        clear hlg hl6
        obtain ⟨hDw,dv,_⟩:=Sv.wr1 bv
        have hRw:=(og.ge R rfl).2
        by_cases hgn:g<nn
        · have hgr : g < row.nums.length := by have := HNL.out; omega
          rcases in0.below hbo with h0 | ⟨nb,no,rfl,hnb,hnc⟩
          · rw [h0] at hgr;simp at hgr
          have dn:=hnc g hgr
          have hval:=HNR.out g hgr
          obtain ⟨x,hx⟩:∃ x,row.nums[g]=x:=⟨_,rfl⟩
          rw [hx] at dn hval
          have hcl:=og.cell HL6.out g (by have:=HL6.out;omega)
          obtain ⟨cv,hcv⟩:∃ cv,wr.cell? ⟨R,g,none⟩=some cv:=⟨_,hcl⟩
          have hcf:=og.frozen HL6.out g
          have hset:(List.range 6).map (fun t=>if t<g+1 then nrow nn rs q t else 0)=l.set g x:=by
            rw [← HLG.out]
            apply List.ext_getElem
            · simp
            · intro t h1 h2
              rw [List.getElem_set]
              simp only [List.getElem_map,List.getElem_range]
              by_cases e:g=t
              · subst e;rw [if_pos (by omega),if_pos rfl,hval]
              · rw [if_neg e]
                by_cases h3:t<g
                · rw [if_pos (by omega),if_pos h3]
                · rw [if_neg (by omega),if_neg h3]
          have HO:Hid (Li.Own (wr.setCell ⟨R,g,none⟩ (.int .i64 x)) R (.slice (some ⟨R,0,none⟩) 6 6) ((List.range 6).map fun t=>if t<g+1 then nrow nn rs q t else 0)):=by
            rw [hset];exact og.set HL6.out g x
          have HBV:Hid (Wr (wr.setCell ⟨R,g,none⟩ (.int .i64 x)) D 0 [.slice (some ⟨R,0,none⟩) 6 6]):=bv.setOther (by omega)
          have HBR:Hid (Below R wo (wr.setCell ⟨R,g,none⟩ (.int .i64 x))):=hbR.setCell (p:=⟨R,g,none⟩) (Nat.le_refl _) _
          have hgl:(g:Int)<(row.nums.length:Int):=by omega
          clear hset hcl og bv hbR hbo hnc hx hval
          go_wp2
          go_region
          all_goals
            go_wp2
            go_roundw
            case rel=>exact ⟨g+1,by omega,by go_num,by first | exact HO.out | exact Li.Own.drewN HO.out 1,by first | exact HBV.out,by first | exact HBR.out | exact Below.drew HBR.out⟩
            case measure=>simp [intOf];omega
        · obtain rfl : g = nn := by omega
          have hlr:l=(List.range 6).map fun t=>nrow g rs q t:=by
            rw [← HLG.out]
            refine List.map_congr_left fun t _=>?_
            by_cases h3:t<g
            · rw [if_pos h3]
            · rw [if_neg h3,HNR0.out t h3]
          have HLR:Hid (l=(List.range 6).map fun t=>nrow g rs q t):=hlr
          have HO:Hid (OwI wr (fun y=>y=R) (.slice (some ⟨R,0,none⟩) 6 6) l):=owi_of og HL6.out rfl
          obtain ⟨vs,bl,hvl,ho,he,hd⟩:=sv.ex
          have hcl:=mk_length q (nrow g rs)
          have HVL:Hid (vs.length=(mk q (nrow g rs)).length):=hvl
          have hcl40:(mk q (nrow g rs)).length≤40:=by omega
          have HBA:Hid (Below wr.heap.size wr (wr.alloc (.cells #[.slice (some ⟨R,0,none⟩) 6 6] 139))):=(Below.refl _ _).alloc (Nat.le_refl _) _
          have ho:=row_below (row_below ho hbo) HBA.out
          have HHE:Hid (∀ j (h:j<(mk q (nrow g rs)).length) (h':j<vs.length),OwI (wr.alloc (.cells #[.slice (some ⟨R,0,none⟩) 6 6] 139)) (fun q=>q=bl j) vs[j] (mk q (nrow g rs))[j]∧(G≤bl j∧bl j<(wr.alloc (.cells #[.slice (some ⟨R,0,none⟩) 6 6] 139)).heap.size)∧u6.ownBlock≠some (bl j)):=fun j h h'=>by
            obtain ⟨h1,h2,h3⟩:=he j h h'
            exact ⟨(h1.below hbo).below HBA.out,⟨h2.1,by have:=hbo.size;simp;omega⟩,h3⟩
          have HBL:Hid (∀ j,j<(mk q (nrow g rs)).length→bl j<R):=fun j h=>by
            have:=(he j h (by have:=HVL.out;omega)).2.1.2
            rw [HR.out] at this;exact this
          have HVB:Hid (∀ y,u6.ownBlock=some y→G≤y∧y<R):=fun y hy=>by have:=sv.lt y hy;rw [HR.out] at this;exact this
          have HD:Hid (∀ i j,i<(mk q (nrow g rs)).length→j<(mk q (nrow g rs)).length→¬ i=j→¬ bl i=bl j):=hd
          have hwr:R≤wr.heap.size:=by omega
          clear hlr og hvl he hd hcl hgn cx0 cx1 cx2 e0 e1 e2 de0 bxr sv
          go_wp2_with (at_builtin;refine wpList_append_own_at _ rfl _ _ 116 rfl G 139 i0 (.agg #[.slice none 0 0]) 1 24 Tryz.underlying116 hi hz0 hz1 hz2 rfl (by decide) _ _ _ rfl ho ⟨wr.heap.size,0,none⟩ 1 1 [.slice (some ⟨R,0,none⟩) 6 6] rfl rfl (one_cell _ _ _) one_one (by unfold maxLen;omega) (by omega) (by simp;omega) ?_;intro v3 w7 hown3 hgrow3 hnn3 hloc3)
          have sv7:=sv_snoc HVL.out HHE.out HD.out (HO.out.below HBA.out) (b:=R) ⟨hsr,by simp;omega⟩ HBL.out (fun e=>by have:=(HVB.out R e).2;omega) hown3 hgrow3 hloc3
          rw [HLR.out,← mk_snoc] at sv7
          have hB7:Below G w2 w7:=hBG.trans ((hbR.mono hsr).trans ((HBA.out.mono (by omega)).trans ⟨hgrow3.os,hgrow3.tape,hgrow3.output,hgrow3.size,fun y hy=>hgrow3.block y (by simp;omega) (fun e=>by have:=(HVB.out y e.symm).1;omega)⟩))
          clear hown3 hgrow3 hnn3 hloc3 ho HBA HHE HBL HVB HD HO hbR hbo bv
          go_wp2
          go_roundw
          case rel=>exact ⟨q+1,by omega,by go_num,sv7,hB7⟩
          case measure=>simp [intOf];omega
    · obtain rfl : q = rs.length := by omega
      have ov0:=sv.owv
      obtain ⟨og,c6,hu6,hog⟩:∃ og c6,u6=.slice og rs.length c6∧(rs.length=0 ∨ ∃ G6,og=some ⟨G6,0,none⟩):=by
        have hcl:=mk_length rs.length (nrow nn rs)
        rcases sv.slice with ⟨h1,h2⟩ | ⟨G6,c6,h1⟩
        · exact ⟨none,0,by rw [h1];rw [hcl] at h2;rw [h2],.inl (by omega)⟩
        · exact ⟨_,c6,by rw [h1,hcl],.inr ⟨G6,rfl⟩⟩
      subst hu6
      obtain ⟨_,_,_,_,_,_,_,d6⟩:=bc.below hBr (by rw [HG.out];omega)
      obtain ⟨A,hA⟩:∃ A,wr.heap.size=A:=⟨_,rfl⟩
      have HA:Hid (wr.heap.size=A):=hA
      rw [hA] at ov0 hsr
      clear hA sv hlt
      go_wp2_with fail
      refine (Po.sperm_any _ _ _).mono ?_
      rintro e w8 ⟨vp,rfl,op,hb8⟩
      have bx8:=bxr.below hb8
      have hx8:=hxr.below hb8
      obtain ⟨_,⟨cy0,cy1,cy2⟩,_⟩:=id bx8
      rw [HA.out] at op
      have ov8:=ov0.below hb8
      clear cx0 cx1 cx2 d6
      go_wp2_with fail
      refine (Wc.swc _ _ _ _ _ rs hx8 hl HT.out).mono ?_
      rintro e w9 ⟨vc,rfl,oc,hb9⟩
      have hA8:A≤w8.heap.size:=by have:=hb8.size;rw [HA.out] at this;exact this
      have oc:=oc.mono hA8
      have op:=op.below hb9
      have ov9:=ov8.below hb9
      have hb89:=hb8.trans (hb9.mono hb8.size)
      have hB9:Below G w2 w9:=hBG.trans (hb89.mono (by rw [HA.out];exact hsr))
      have hA9:A≤w9.heap.size:=by have:=hb9.size;omega
      obtain ⟨ac,cc,rfl,ic⟩:=oc.iscb
      obtain ⟨ap,cp,ep,ip⟩:=op.isl
      subst ep
      have hap:∀ x,ap=some x→A≤x.block∧x.block<w9.heap.size:=fun x hx=>by subst hx;exact op.ge x.block rfl
      clear oc op ov0 ov8 bx8 hx8 cy0 cy1 cy2 hb8 hb9 hb89 hBG bxr hxr hBr hbx
      obtain ⟨F,hF⟩:∃ F:Nat→Nat→Int,fnum (nn:Int) c rs k.seed k.prior=F:=⟨_,rfl⟩
      have HF0:Hid (∀ i g,i<rs.length→g<6→nrow nn rs i g=if g<nn+0 then F i g else 0):=fun i g h1 h2=>by
        by_cases h3:g<nn
        · rw [if_pos (by omega),← hF,fnum_num HT.out i g h1 (by simpa using h3)];simp
        · rw [if_neg (by omega)];unfold nrow;rw [if_neg h3]
      have HF1:Hid (∀ i q (hq:q<(wcols c rs).length),F i (nn+q)=((Ct.cAll (wcols c rs)[q] (labs rs) (Po.permR k.seed rs.length) k.prior)[i]?).getD 0):=fun i q hq=>by
        rw [← hF]
        have:=fnum_word (n:=(nn:Int)) (c:=c) (rs:=rs) (s:=k.seed) (p:=k.prior) i q hq
        simpa using this
      have HF2:Hid (∀ i g,¬ g<nn+(wcols c rs).length→F i g=0):=fun i g hg=>by
        rw [← hF]
        refine fnum_out i g ?_
        rw [fcols_length _ _ HT.out];simpa using hg
      rw [hF] at HM
      have hw3c:=wcols_le HT.out
      have HWL:Hid (∀ j (hj:j<(wcols c rs).length),(wcols c rs)[j].length=rs.length):=fun j hj=>wcols_len HT.out j hj
      have HOR:Hid (∀ ws:List ByteArray,ws.length=rs.length→ord ws.length (labs rs) (Po.permR k.seed rs.length) k.prior=true):=fun ws hw=>ord_col HT.out hw _ hpr
      have HCL:Hid (∀ ws:List ByteArray,ws.length=rs.length→(Ct.cAll ws (labs rs) (Po.permR k.seed rs.length) k.prior).length=rs.length):=fun ws hw=>cAll_len HT.out hw _ hpr
      have HLA:Hid (labels (nn:Int) c rs=labs rs):=labels_yes HT.out
      have hpl:=Po.permR_len k.seed rs.length
      have hlab:(labs rs).length≤1048577:=by rw [labs_length];omega
      clear hF
      go_wp2
      go_loopw [12] (fun i wr=>∃ q:Nat,q≤(wcols c rs).length∧i=.int .i64 q∧∃ e:Nat→Nat→Int,(∀ i g,i<rs.length→g<6→e i g=if g<nn+q then F i g else 0)∧OwV wr (fun y=>G≤y∧y<A) (.slice og rs.length c6) (mk rs.length e)∧(w9.heap.size≤wr.heap.size∧∀ y,A≤y→y<w9.heap.size→wr.heap[y]? = w9.heap[y]?)∧Below G w2 wr) (fun i _=>(wcols c rs).length-(intOf i).toNat)
      case atStart=>exact ⟨0,Nat.zero_le _,rfl,_,HF0.out,ov9,⟨Nat.le_refl _,fun _ _ _=>rfl⟩,hB9⟩
      case round =>
        obtain ⟨q,hq,rfl,e,he,ov,⟨hs9,hsame⟩,hBr⟩:=hrel
        have HE:Hid (∀ i g,i<rs.length→g<6→e i g=if g<nn+q then F i g else 0):=he
        have HSM:Hid (∀ y,A≤y→y<w9.heap.size→wr.heap[y]? = w9.heap[y]?):=hsame
        clear he hsame ov9 hB9
        have hB2:Below w2.heap.size w2 wr:=by rw [HG.out];exact hBr
        have bxr:=bx.below hB2
        have bcr:=bc.below hB2 (by rw [HG.out];omega)
        have hxr:=hxW.below hB2
        by_cases hlt:q<(wcols c rs).length
        · rcases ic with h0 | ⟨cb, co, rfl, ⟨hcA, hcb⟩, hcc⟩
          · rw [h0] at hlt;simp at hlt
          obtain ⟨a',c',dq9,iq9,hd9⟩:=hcc q hlt
          have dq:wr.cell? ⟨cb,co+q,none⟩=some (.slice a' (wcols c rs)[q].length c'):=by
            rw [World.cell?_of_block (w:=w9) (a:=⟨cb,co+q,none⟩) (HSM.out cb hcA hcb)];exact dq9
          have iqr:=iq9.keptAt hs9 (fun x hx _=>HSM.out _ (hd9 x hx).1 (hd9 x hx).2)
          have ipr:=ip.keptAt hs9 (fun x hx _=>HSM.out _ (hap x hx).1 (hap x hx).2)
          have hlq:=HWL.out q hlt
          have hor:=HOR.out _ hlq
          have hcn:=HCL.out _ hlq
          have HFQ:Hid (∀ i,F i (nn+q)=((Ct.cAll (wcols c rs)[q] (labs rs) (Po.permR k.seed rs.length) k.prior)[i]?).getD 0):=fun i=>HF1.out i q hlt
          obtain ⟨ws,hws⟩:∃ ws,(wcols c rs)[q]=ws:=⟨_,rfl⟩
          rw [hws] at dq iqr hlq hor hcn HFQ
          have HLQ:Hid (ws.length=rs.length):=hlq
          have hw40:ws.length≤40:=by omega
          obtain ⟨_,⟨cx0,cx1,cx2⟩,_⟩:=id bxr
          obtain ⟨_,_,_,_,_,_,d5,_⟩:=id bcr
          have hcbw:cb<wr.heap.size:=by omega
          have hwb:w.heap.size+1<wr.heap.size:=by omega
          obtain ⟨z,hz⟩:∃ z,Ct.cAll ws (labs rs) (Po.permR k.seed rs.length) k.prior=z:=⟨_,rfl⟩
          rw [hz] at hcn HFQ
          have HZ:Hid (Ct.cAll ws (labs rs) (Po.permR k.seed rs.length) k.prior=z):=hz
          have HZN:Hid (z.length=rs.length):=hcn
          have HOV:Hid (OwV wr (fun y=>G≤y∧y<A) (.slice og rs.length c6) (mk rs.length e)):=ov
          have HBXR:Hid (Box3 wr w.heap.size (.int .i64 (nn:Int)) (.int .i64 c) (.slice a rs.length cap)):=bxr
          have HBCR:Hid (Cf.Bx wr (w.heap.size+1) k):=bcr
          have HXR:Hid (IsR wr a rs):=hxr
          have HIQ:Hid (Ls.IsS wr a' ws):=iqr
          have HIP:Hid (Li.IsL wr ap (Po.permR k.seed rs.length)):=ipr
          have HBR:Hid (Below G w2 wr):=hBr
          have HBD:Hid (Below wr.heap.size wr wr.drew):=(Below.refl wr.heap.size wr).drew
          have HSZ:Hid (A≤wr.heap.size):=by show _≤_;omega
          clear hws hz hlq hcn hcc dq9 iq9 hd9 iqr ipr bxr bcr hxr ov hBr hB2
          go_wp2_with fail
          go_region_held3 (fun w'=>w'.cell? ⟨w.heap.size,0,none⟩=some (.int .i64 (nn:Int))∧w'.cell? ⟨w.heap.size,1,none⟩=some (.int .i64 c)∧w'.cell? ⟨w.heap.size,2,none⟩=some (.slice a rs.length cap)∧w'.cell? ⟨w.heap.size+1,5,none⟩=some (.int .i64 k.prior)∧w'.cell? ⟨cb,co+q,none⟩=some (.slice a' ws.length c')) (go_keep) (first
            | (go_at_call 75
               refine (slabels wr.drew _ _ _ _ rs (HXR.out.below HBD.out) hl).mono ?_
               rintro e w10 ⟨vl,rfl,ol,hb⟩
               have HY0:Hid (Below wr.heap.size wr w10):=HBD.out.trans hb
               have HOL:Hid (Li.Own w10 wr.heap.size vl (labs rs)):=by rw [HLA.out] at ol;exact ol
               obtain ⟨_,⟨lx0,lx1,lx2⟩,_⟩:=id (HBXR.out.below HY0.out)
               obtain ⟨_,_,_,_,_,_,l5,_⟩:=HBCR.out.below HY0.out hwb
               have lq:=(HY0.out.cell (p:=⟨cb,co+q,none⟩) hcbw).trans dq
               obtain ⟨al,cl,el,il⟩:=HOL.out.isl
               subst el
               have HIL:Hid (Li.IsL w10 al (labs rs)):=il
               clear hb ol il)
            | (go_at_call 96
               refine (Ct.sall w10 _ _ _ _ _ _ ws (labs rs) (Po.permR k.seed rs.length) k.prior (HIQ.out.below HY0.out) HIL.out (HIP.out.below HY0.out) (by omega) hlab (by omega)).mono ?_
               rintro e w11 ⟨vz,rfl,oz,hb⟩
               rw [hor]
               have HY1:Hid (Below w10.heap.size w10 w11):=hb
               have HOZ:Hid (Li.Own w11 w10.heap.size vz z):=by rw [HZ.out] at oz;exact oz
               obtain ⟨_,⟨px0,px1,px2⟩,_⟩:=id ((HBXR.out.below HY0.out).below hb)
               obtain ⟨_,_,_,_,_,_,p5,_⟩:=HBCR.out.below (HY0.out.trans (hb.mono HY0.out.size)) hwb
               have pq:=((HY0.out.trans (hb.mono HY0.out.size)).cell (p:=⟨cb,co+q,none⟩) hcbw).trans dq
               clear hb oz))
          have hb:=HY0.out.trans (HY1.out.mono HY0.out.size)
          have ov:=HOV.out.below hb
          have bx11:=HBXR.out.below hb
          have hs11:w9.heap.size≤w11.heap.size:=by have:=hb.size;omega
          have HS11:Hid (∀ y,A≤y→y<w9.heap.size→w11.heap[y]? = w9.heap[y]?):=fun y h1 h2=>(hb.block y (by omega)).trans (HSM.out y h1 h2)
          have hB11:Below G w2 w11:=HBR.out.trans (hb.mono (by have:=HSZ.out;omega))
          obtain ⟨az,cz,ez,iz⟩:=HOZ.out.isl
          have haz:∀ x,az=some x→A≤x.block∧x.block<w11.heap.size:=fun x hx=>by
            have:=HOZ.out.ge x.block (by rw [ez,hx];rfl)
            have h1:=HY0.out.size
            have h2:=HSZ.out
            omega
          subst ez
          have hzl40:z.length≤40:=by have:=HZN.out;omega
          obtain ⟨_,⟨cy0,cy1,cy2⟩,_⟩:=id bx11
          clear HY0 HY1 HOV HBXR HBCR HXR HIQ HIP HBR HBD HIL HOL HOZ hb dq hor cx0 cx1 cx2 d5
          try clear lx0 lx1 lx2 l5 lq
          try clear px0 px1 px2 p5 pq
          go_wp2
          go_loopw [15] (fun i wr=>∃ r:Nat,r≤rs.length∧i=.int .i64 r∧∃ e:Nat→Nat→Int,(∀ i g,i<rs.length→g<6→e i g=if g<nn+q ∨ (g=nn+q∧i<r) then F i g else 0)∧OwV wr (fun y=>G≤y∧y<A) (.slice og rs.length c6) (mk rs.length e)∧(w11.heap.size≤wr.heap.size∧∀ y,A≤y→y<w11.heap.size→wr.heap[y]? = w11.heap[y]?)∧Below G w2 wr) (fun i _=>rs.length-(intOf i).toNat)
          case atStart=>exact ⟨0,Nat.zero_le _,rfl,e,fun i g h1 h2=>by rw [HE.out i g h1 h2];simp,ov,⟨Nat.le_refl _,fun _ _ _=>rfl⟩,hB11⟩
          case round =>
            obtain ⟨r,hr,rfl,e1,he1,ov,⟨hsr2,hsame⟩,hBr⟩:=hrel
            have HE1:Hid (∀ i g,i<rs.length→g<6→e1 i g=if g<nn+q ∨ (g=nn+q∧i<r) then F i g else 0):=he1
            clear he1 hB11
            by_cases hlr:r<rs.length
            · obtain ⟨G6,rfl⟩:∃ G6,og=some ⟨G6,0,none⟩:=by
                rcases hog with h | h
                · omega
                · exact h
              have hrz:r<z.length:=by have:=HZN.out;omega
              rcases iz.keptAt hsr2 (fun x hx _=>hsame _ (haz x hx).1 (haz x hx).2) with h0 | ⟨zb,zo,rfl,hzb,hzc⟩
              · rw [h0] at hrz;simp at hrz
              have hcv:=hzc r hrz
              have hFV:F r (nn+q)=z[r]:=by rw [HFQ.out r];simp [hrz]
              obtain ⟨x,hx⟩:∃ x,z[r]=x:=⟨_,rfl⟩
              rw [hx] at hcv hFV
              obtain ⟨f,hf⟩:∃ f,nn+q=f:=⟨_,rfl⟩
              have hfq:((nn:Int)+(q:Int))=(f:Int):=by omega
              have hf6:f<6:=by omega
              rw [hf] at hFV HE1
              have hmr:r<(mk rs.length e1).length:=by rw [mk_length];exact hlr
              have h6:=mk_row rs.length e1 r hmr
              obtain ⟨b,o,c7,dG,⟨hbG,hbA⟩,hbl,hcf,hset⟩:=owv_at ov r hmr (by omega)
              rw [h6] at dG
              obtain ⟨hcell,hfz⟩:=hcf f (by omega)
              have hB2:Below w2.heap.size w2 wr:=by rw [HG.out];exact hBr
              obtain ⟨_,⟨cx0,cx1,cx2⟩,_⟩:=id (bx.below hB2)
              have HO:Hid (OwV (wr.setCell ⟨b,o+f,none⟩ (.int .i64 x)) (fun y=>G≤y∧y<A) (.slice (some ⟨G6,0,none⟩) rs.length c6) (mk rs.length (fun i' g=>if i'=r∧g=f then x else e1 i' g))):=by
                have:=hset f (by omega) x
                rwa [mk_set] at this
              have HE2:Hid (∀ i g,i<rs.length→g<6→(fun i' g=>if i'=r∧g=f then x else e1 i' g) i g=if g<nn+q ∨ (g=nn+q∧i<r+1) then F i g else 0):=fun i g h1 h2=>by
                show (if i=r∧g=f then x else e1 i g)=_
                by_cases hh:i=r∧g=f
                · rw [if_pos hh,if_pos (by omega),hh.1,hh.2,hFV]
                · rw [if_neg hh, HE1.out i g h1 h2]
                  by_cases h3:g<f ∨ (g=f∧i<r)
                  · rw [if_pos h3,if_pos (by omega)]
                  · rw [if_neg h3,if_neg (by omega)]
              obtain ⟨cv,hcv2⟩:∃ cv,wr.cell? ⟨b,o+f,none⟩=some cv:=⟨_,hcell⟩
              have HS2:Hid (∀ y,A≤y→y<w11.heap.size→(wr.setCell ⟨b,o+f,none⟩ (.int .i64 x)).heap[y]? = w11.heap[y]?):=fun y h1 h2=>by
                rw [Below.heap_setCell _ _ _ _ (fun e=>by have:y=b:=e;omega)];exact hsame y h1 h2
              have HB2:Hid (Below G w2 (wr.setCell ⟨b,o+f,none⟩ (.int .i64 x))):=hBr.setCell (p:=⟨b,o+f,none⟩) (by show G≤b;omega) _
              have HS7:Hid (w11.heap.size≤(wr.setCell ⟨b,o+f,none⟩ (.int .i64 x)).heap.size):=by
                show _≤_
                simpa [World.setCell] using hsr2
              have hrzi:(r:Int)<(z.length:Int):=by omega
              clear hset hcf hcell ov hsame hBr hzc hx hFV h6 hf HE1 hB2
              go_wp2
              go_region
              all_goals
                go_wp2
                go_roundw
                case rel=>exact ⟨r+1,by omega,by go_num,_,HE2.out,by first | exact HO.out,⟨HS7.out,HS2.out⟩,by first | exact HB2.out | exact Below.drew HB2.out⟩
                case measure=>simp [intOf];omega
            · obtain rfl : r = rs.length := by omega
              have HE3:Hid (∀ i g,i<rs.length→g<6→e1 i g=if g<nn+(q+1) then F i g else 0):=fun i g h1 h2=>by
                rw [HE1.out i g h1 h2]
                by_cases h3:g<nn+(q+1)
                · rw [if_pos h3,if_pos (by omega)]
                · rw [if_neg h3,if_neg (by omega)]
              have HS3:Hid (∀ y,A≤y→y<w9.heap.size→wr.heap[y]? = w9.heap[y]?):=fun y h1 h2=>(hsame y h1 (by omega)).trans (HS11.out y h1 h2)
              have hs3:w9.heap.size≤wr.heap.size:=by omega
              clear hlr hsame
              go_wp2
              go_roundw
              case rel=>exact ⟨q+1,by omega,by go_num,e1,HE3.out,ov,⟨hs3,HS3.out⟩,hBr⟩
              case measure=>simp [intOf];omega
        · obtain rfl : q = (wcols c rs).length := by omega
          have hmk:mk rs.length e=mk rs.length F:=mk_congr fun i g h1 h2=>by
            rw [HE.out i g h1 h2]
            by_cases h3:g<nn+(wcols c rs).length
            · rw [if_pos h3]
            · rw [if_neg h3,HF2.out i g h3]
          rw [hmk,← HM.out] at ov
          have HV:Hid ((tok (nn:Int) c rs && Cf.cok k)=true):=by show _=_;rw [HT.out,HK.out];rfl
          have hBe:Below w.heap.size w wr:=hB.trans (hB2.mono hB.size)
          clear hmk hlt
          go_wp2
          refine bodyPost_ret (v:=.tuple #[.slice og rs.length c6,.bool true]) (by simp [results,Tryz.results72,go_sem]) rfl ?_
          exact ⟨.slice og rs.length c6,by rw [HV.out],ov.mono (fun y hy=>by omega),hBe⟩
end Go.Proofs.YtaojoamldoofpaaGreatDoor.Mx
namespace Go.Proofs.YtaojoamldoofpaaGreatDoor.Di
open Go.RowKit
open Wd
open Li (ret_int below_none)
set_option maxHeartbeats 1000000 in
theorem sid0 (w:World) (a:Option Addr) (cap:Nat) (xs:List ByteArray) (s:ByteArray) (hx:Ls.IsS w a xs) (hl:xs.length≤1048576) :
  Calls Tryz.prog 80 #[.slice a xs.length cap,.string s] w fun e w'=>e=.returned (.int .i64 (idOf xs s))∧w'=w:=by
 go_enter Tryz.func80,Tryz.ntmps80
 go_wp2
 go_loop [5] (fun i=>∃ k:Nat,k≤xs.length∧i=.int .i64 k∧∀ j (hj:j<xs.length),j<k→¬ xs[j]=s) (fun i=>xs.length-(intOf i).toNat)
 case atStart=>exact ⟨0,Nat.zero_le _,rfl,fun j hj h=>by omega⟩
 case round =>
  obtain ⟨k,hk,rfl,hn⟩:=hrel
  have HN:Hid (∀ j (hj:j<xs.length),j<k→¬ xs[j]=s):=hn
  clear hn
  by_cases hlt:k<xs.length
  ·
   rcases hx with rfl | ⟨b,off,rfl,hb,hc⟩
   ·
    simp at hlt
   have hcx:=hc k hlt
   clear hc
   by_cases he:xs[k]=s
   ·
    have HR:Hid (idOf xs s=k):=idOf_found hlt he HN.out
    have he':(xs[k].toList == s.toList)=true:=Ls.tl_eq he
    clear he
    obtain ⟨x,ex⟩:∃ x,xs[k]=x:=⟨_,rfl⟩
    rw [ex] at hcx he'
    clear ex
    go_wp2
    go_ret
    exact ⟨ret_int HR.out.symm,rfl⟩
   ·
    have HR:Hid (∀ j (hj:j<xs.length),j<k+1→¬ xs[j]=s):=fun j hj h=>by
     by_cases e:j=k
     ·
      subst e;exact he
     ·
      exact HN.out j hj (by omega)
    have he':(xs[k].toList == s.toList)=false:=Ls.tl_ne he
    clear he
    obtain ⟨x,ex⟩:∃ x,xs[k]=x:=⟨_,rfl⟩
    rw [ex] at hcx he'
    clear ex
    go_wp2
    go_round
    case rel=>exact ⟨k+1,by omega,by go_num,HR.out⟩
    case measure=>simp [intOf];omega
  ·
   have HR:Hid (idOf xs s = -1):=idOf_none (fun j hj=>HN.out j hj (by omega))
   go_wp2
   go_ret
   exact ⟨ret_int HR.out.symm,rfl⟩
end Go.Proofs.YtaojoamldoofpaaGreatDoor.Di
namespace Go.Proofs.YtaojoamldoofpaaGreatDoor.Di
set_option maxRecDepth 20000
open Go.RowKit Go.Maps
open Go.WideMaps (keyOf_string_mk)
open Wd
open Li (ret_int below_none)
theorem lawS:Keyed Tryz.prog 9:=string_keyed Tryz.underlying9
def ks (s:ByteArray):Lit:=.string s.data.toList
theorem ks_inj {s t:ByteArray} (h:ks s=ks t):s=t:=by
 unfold ks at h
 exact ba_ext (by simpa using h)
theorem ks_key (s:ByteArray):WideAt.IsKeyLit (ks s):=by unfold ks;trivial
def nD (i:Int):DataW Unit:=.lit (.int .i64 i)
def PM (w:World) (b n:Nat) (l:List ByteArray):Prop :=
 ∃ D:DataW Unit,w.ownsMap Tryz.prog 9 (plainElem Tryz.prog 3) b n D∧∀ s:ByteArray,D.atKey (ks s) (nD 0)=nD (valL l s)∧has D (ks s)=hasL l s
theorem PM.kept {w w':World} {b n:Nat} {l:List ByteArray} {row:Option Nat} (h:PM w b n l) (hg:w.grownBy w' row) (hne:some b≠row):PM w' b n l:=by
 obtain ⟨D,ho,hf⟩:=h
 exact ⟨D,ho.kept hg hne,hf⟩
theorem PM.below {w w':World} {b n:Nat} {l:List ByteArray} (h:PM w b n l) (hB:Below w.heap.size w w'):PM w' b n l :=
 h.kept (row:=none) ⟨hB.os,hB.tape,hB.output,hB.size,fun k hk _=>hB.block k hk⟩ (by simp)
theorem PM.lt {w:World} {b n:Nat} {l:List ByteArray} (h:PM w b n l):b<w.heap.size:=by obtain ⟨D,ho,_⟩:=h;exact ho.lt
theorem PM.same {w:World} {b n:Nat} {l m:List ByteArray} (h:PM w b n l) (e:∀ s,hasL m s=hasL l s∧valL m s=valL l s):PM w b n m:=by
 obtain ⟨D,ho,hf⟩:=h
 exact ⟨D,ho,fun s=>by rw [(e s).1,(e s).2];exact hf s⟩
theorem PM.mono {w:World} {b n n':Nat} {l:List ByteArray} (h:PM w b n l) (hn:n≤n'):PM w b n' l:=by
 obtain ⟨D,ho,hf⟩:=h
 exact ⟨D,ho.mono hn,hf⟩
theorem pm_made (w:World):PM (w.alloc (.map #[] 0)) w.heap.size 0 [] :=
 ⟨.map [],World.ownsMap_made _ _ _ _,fun _=>⟨rfl,rfl⟩⟩
theorem zeroI (w:World):(zeroValue 3).run Tryz.prog w=.ok (.int .i64 0) w:=by kernel_rfl
section
variable (w:World) {ops:Array Oper} {rest:List Oper} {o:Oper} {a:Act} {Q:Exit→Act→World→Prop}
theorem at_pm (hg:o.guard=none) (m x:Operand) (hop:o.op=Op.lookup 162 m x false) (b n:Nat) (l:List ByteArray) (hm:a.eval m=.map (some b)) (h:PM w b n l) (s:ByteArray) (hx:a.eval x=.string s) (hs:s.size≤maxLen)
  (hK:wpList Tryz.prog ops Q rest (a.put o.dst (.int .i64 (valL l s))) w):wpList Tryz.prog ops Q (o :: rest) a w:=by
 obtain ⟨D,ho,hf⟩:=h
 refine wpList_lookup_own_int w hg m x 162 hop 9 3 .i64 lawS Tryz.underlying162 Tryz.underlying3 (zeroI w) b n D hm ho _ (ks s) hx (keyOf_string_mk Tryz.underlying9 hs) ?_
 intro c hat _
 have e:nD (valL l s)=nD c:=(hf s).1.symm.trans hat
 have e:valL l s=c:=by unfold nD at e;simpa using e
 rw [← e];exact hK
theorem ok_pm (hg:o.guard=none) (m x:Operand) (hop:o.op=Op.lookup 162 m x true) (b n:Nat) (l:List ByteArray) (hm:a.eval m=.map (some b)) (h:PM w b n l) (s:ByteArray) (hx:a.eval x=.string s) (hs:s.size≤maxLen)
  (hK:wpList Tryz.prog ops Q rest (a.put o.dst (.tuple #[.int .i64 (valL l s),.bool (hasL l s)])) w):wpList Tryz.prog ops Q (o :: rest) a w:=by
 obtain ⟨D,ho,hf⟩:=h
 refine wpList_lookup_own_ok_int w hg m x 162 hop 9 3 .i64 lawS Tryz.underlying162 Tryz.underlying3 (zeroI w) b n D hm ho _ (ks s) hx (keyOf_string_mk Tryz.underlying9 hs) ?_
 intro c hat _
 have e:nD (valL l s)=nD c:=(hf s).1.symm.trans hat
 have e:valL l s=c:=by unfold nD at e;simpa using e
 rw [← e,(hf s).2];exact hK
theorem set_pm (hg:o.guard=none) (m x v:Operand) (hop:o.op=Op.mapUpdate 162 m x v) (b n:Nat) (l:List ByteArray) (hm:a.eval m=.map (some b)) (h:PM w b n l) (hn:n≤10000000) (s:ByteArray) (hx:a.eval x=.string s) (hs:s.size≤maxLen) (hnew:¬ s ∈ l) (hll:l.length≤10000000) (hv:a.eval v=.int .i64 (l.length:Int))
  (hK:∀ w',PM w' b (n+1) (l ++ [s])→w.grownBy w' (some b)→wpList Tryz.prog ops Q rest (a.put o.dst undef) w'):wpList Tryz.prog ops Q (o :: rest) a w:=by
 obtain ⟨D,ho,hf⟩:=h
 refine wpList_mapUpdate_own w hg m x v 162 hop 9 3 lawS Tryz.underlying162 _ b n D hm ho (by unfold maxLen;omega) _ _ (ks s) hx hv (keyOf_string_mk Tryz.underlying9 hs) _ [] (plainElem_int Tryz.underlying3 (WalkArith.wf_i64 (by omega))) ?_
 intro w' ho' hg'
 refine hK w' ⟨_,ho',fun t=>?_⟩ hg'
 rw [(snoc_new hnew t).1,(snoc_new hnew t).2]
 by_cases ht:t=s
 ·
  subst ht
  rw [if_pos rfl,if_pos rfl,atKey_put_same ho.isMap (ks_key _),has_put_same ho.isMap (ks_key _)]
  exact ⟨rfl,rfl⟩
 ·
  rw [if_neg ht,if_neg ht,atKey_put_other (fun h=>ht (ks_inj h)),has_put_other (fun h=>ht (ks_inj h))]
  exact hf t
theorem len_pm (hg:o.guard=none) (m:Operand) (hop:o.op=Op.call { callee:=Callee.builtin Builtin.len,args:=#[m],argTypes:=#[162] }) (b n:Nat) (l:List ByteArray) (hm:a.eval m=.map (some b)) (h:PM w b n l)
  (hK:∀ q:Nat,q≤n→wpList Tryz.prog ops Q rest (a.put o.dst (.int .i64 (q:Int))) w):wpList Tryz.prog ops Q (o :: rest) a w:=by
 obtain ⟨D,ho,hf⟩:=h
 exact wpList_len_own w hg m 162 hop 9 3 Tryz.underlying162 _ b n D hm ho (hK _ ho.size_le)
end
set_option maxHeartbeats 2000000 in
theorem places (w:World) (a:Option Addr) (cap:Nat) (ws:List ByteArray) (hx:Ls.IsS w a ws) (hl:ws.length≤1048576) (hz:∀ j (h:j<ws.length),ws[j].size≤1048576) :
  Calls Tryz.prog 116 #[.slice a ws.length cap] w fun e w'=>e=.returned (.map (some w.heap.size))∧PM w' w.heap.size ws.length ws∧Below w.heap.size w w':=by
 have hmm:=@run_makeMap Tryz.prog
 go_enter Tryz.func116,Tryz.ntmps116
 go_wp2
 go_loopw [11] (fun i wr=>∃ k:Nat,k≤ws.length∧i=.int .i64 k∧PM wr w.heap.size k (ws.take k)∧Below w.heap.size w wr) (fun i _=>ws.length-(intOf i).toNat)
 case atStart=>exact ⟨0,Nat.zero_le _,rfl,by simpa using pm_made w,(Below.refl _ _).alloc (Nat.le_refl _) _⟩
 case round =>
  obtain ⟨k,hk,rfl,hm,hB⟩:=hrel
  by_cases hlt:k<ws.length
  ·
   rcases hx.below hB with rfl | ⟨b,off,rfl,hb,hc⟩
   ·
    simp at hlt
   have hcx:=hc k hlt
   have hs:ws[k].size≤maxLen:=by have:=hz k hlt;unfold maxLen;omega
   have HT:Hid (ws.take (k+1)=ws.take k ++ [ws[k]]):=List.take_succ_eq_append_getElem hlt
   have HTL:Hid ((ws.take k).length=k):=by show _=_;simp;omega
   clear hc hz
   by_cases hin:ws[k] ∈ ws.take k
   ·
    have hh:hasL (ws.take k) ws[k]=true:=hasL_iff.2 hin
    have HM:Hid (PM wr w.heap.size (k+1) (ws.take (k+1))):=(hm.mono (Nat.le_succ _)).same (fun s=>by rw [HT.out];exact snoc_old hin s)
    obtain ⟨x,ex⟩:∃ x,ws[k]=x:=⟨_,rfl⟩
    rw [ex] at hcx hs hh
    clear ex hin
    go_wp2_with (at_lookup;refine ok_pm _ rfl _ _ rfl _ _ _ rfl hm _ rfl hs ?_;rw [hh])
    go_roundw
    case rel=>exact ⟨k+1,by omega,by go_num,HM.out,hB⟩
    case measure=>simp [intOf];omega
   ·
    have hh:hasL (ws.take k) ws[k]=false:=hasL_no hin
    obtain ⟨x,ex⟩:∃ x,ws[k]=x:=⟨_,rfl⟩
    rw [ex] at hcx hs hh hin HT
    clear ex
    go_wp2_with (first
     | (at_lookup;refine ok_pm _ rfl _ _ rfl _ _ _ rfl hm _ rfl hs ?_;rw [hh])
     | (at_mapUpdate;refine set_pm _ rfl _ _ _ rfl _ _ _ rfl hm (by omega) _ rfl hs hin (by rw [HTL.out];omega) (by rw [HTL.out];rfl) ?_;intro w1 h1 g1))
    go_roundw
    case rel=>exact ⟨k+1,by omega,by go_num,by rw [HT.out];exact h1,Ap.below_app hB hB.size g1 (fun k hk=>by cases hk;exact Nat.le_refl _)⟩
    case measure=>simp [intOf];omega
  ·
   obtain rfl:k=ws.length:=by omega
   have ht:ws.take ws.length=ws:=List.take_length
   rw [ht] at hm
   clear ht
   go_wp2
   go_ret
   exact ⟨rfl,hm,hB⟩
set_option maxHeartbeats 400000 in
theorem clone (w:World) (s:ByteArray) (hs:s.size≤281474976710656) :
  Calls Tryz.prog 84 #[.string s] w fun e w'=>e=.returned (.string s)∧Below w.heap.size w w':=by
 go_enter Tryz.func84,Tryz.ntmps84
 go_wp2_with (go_at_call 112;refine (Tryz.stringslite_Clone _ _ hs).mono ?_;rintro e w1 ⟨rfl,hB⟩)
 go_ret
 exact ⟨rfl,hB⟩
set_option maxHeartbeats 4000000 in
theorem idict (w:World) (a:Option Addr) (cap:Nat) (ws:List ByteArray) (hx:Ls.IsS w a ws) (hl:ws.length≤1048576) (hz:∀ j (h:j<ws.length),ws[j].size≤1048576) :
    Calls Tryz.prog 91 #[.slice a ws.length cap] w fun e w'=>∃ v,e=.returned v∧Ls.Own w' w.heap.size v (dictOf ws)∧Below w.heap.size w w':=by
  obtain ⟨i0,hi,hz0,hz1,hz2⟩:=info_parts Ls.info_str
  go_enter Tryz.func91,Tryz.ntmps91
  go_wp2_with fail
  refine (places _ _ _ ws hx hl hz).mono ?_
  rintro e w1 ⟨rfl,hm,hB⟩
  have hml:=hm.lt
  obtain ⟨bm,hbm⟩:∃ bm,w.heap.size=bm:=⟨_,rfl⟩
  rw [hbm] at hm hml hB ⊢
  have HBM:Hid (w.heap.size=bm):=hbm
  clear hbm
  go_wp2_with (first
    | (at_len;refine len_pm _ rfl _ rfl _ _ _ rfl hm ?_;intro q hq)
    | (at_make;refine wpList_make_own _ rfl _ _ 44 rfl w1.heap.size 9 i0 (.string ⟨#[]⟩) 1 Tryz.underlying44 hi hz0 hz1 _ _ _ q rfl rfl rfl (by rw [hz2];omega) (by unfold maxLen;omega) (Nat.le_refl _) ?_;intro w2 hown hgrow))
  have ho2:Ls.Own w2 w1.heap.size (.slice (some ⟨w1.heap.size,0,none⟩) 0 q) []:=hown
  have hB2:=below_none hgrow
  have hm2:=hm.below hB2
  have hs2:=hB2.size
  have hB:=hB.trans (hB2.mono (by omega))
  clear hown hgrow hB2 hm
  go_loopw [4,14] (fun v i wr=>∃ k:Nat,k≤ws.length∧i=.int .i64 k∧Ls.Own wr w1.heap.size v (dictOf (ws.take k))∧PM wr bm ws.length ws∧Below bm w wr∧w1.heap.size≤wr.heap.size) (fun _ i _=>ws.length-(intOf i).toNat)
  case atStart=>exact ⟨0,Nat.zero_le _,rfl,by simpa [dictOf,dict] using ho2,hm2,hB,hs2⟩
  case round =>
    obtain ⟨k,hk,rfl,hown,hm,hBr,hsr⟩:=hrel
    clear ho2 hm2
    have hBw:Below w.heap.size w wr:=by rw [HBM.out];exact hBr
    by_cases hlt:k<ws.length
    · rcases hx.below hBw with rfl | ⟨b, off, rfl, hb, hc⟩
      · simp at hlt
      have hcx:=hc k hlt
      have hs0:=hz k hlt
      have hs:ws[k].size≤maxLen:=by unfold maxLen;omega
      have hval:=valL_at hlt
      have hdl:=dictOf_len (ws.take k)
      have hdl2:(ws.take k).length≤k:=by simp;omega
      have hblt:b<w.heap.size:=by
        rcases hx with h | ⟨b',o',h,hb',_⟩
        · subst h;simp at hlt
        · cases h;exact hb'
      clear hc hz
      by_cases hin:ws[k] ∈ ws.take k
      · have hne : ¬ fst ws[k] ws = k := fun e => (fst_first hlt).1 e hin
        have HD:Hid (dictOf (ws.take (k+1))=dictOf (ws.take k)):=dictOf_old hlt hin
        have hcmp:((fst ws[k] ws:Int) == (k:Int))=false:=by simp;omega
        obtain ⟨x,ex⟩:∃ x,ws[k]=x:=⟨_,rfl⟩
        rw [ex] at hcx hs hval hcmp
        obtain ⟨d,hd⟩:∃ d,dictOf (ws.take k)=d:=⟨_,rfl⟩
        rw [hd] at hown HD hdl
        clear ex hin hne hd
        go_wp2_with (at_lookup;refine at_pm _ rfl _ _ rfl _ _ _ rfl hm _ rfl hs ?_;rw [hval])
        go_roundw
        case rel=>exact ⟨k+1,by omega,by go_num,by rw [HD.out];exact hown,hm,hBr,hsr⟩
        case measure=>simp [intOf];omega
      · have hne := (fst_first hlt).2 hin
        have HD:Hid (dictOf (ws.take (k+1))=dictOf (ws.take k) ++ [ws[k]]):=dictOf_new hlt hin
        have hcmp:((fst ws[k] ws:Int) == (k:Int))=true:=by simp;omega
        obtain ⟨x,ex⟩:∃ x,ws[k]=x:=⟨_,rfl⟩
        rw [ex] at hcx hs hs0 hval hcmp HD
        obtain ⟨d,hd⟩:∃ d,dictOf (ws.take k)=d:=⟨_,rfl⟩
        rw [hd] at hown HD hdl
        clear ex hin hne hd
        go_wp2_with (first
          | (at_lookup;refine at_pm _ rfl _ _ rfl _ _ _ rfl hm _ rfl hs ?_;rw [hval])
          | (go_at_call 84; refine (clone _ _ (by omega)).mono ?_; rintro e w3 ⟨rfl, hB3⟩
             have hown3:=hown.below hB3
             have hm3:=hm.below hB3
             have hBr3:Below bm w w3:=hBr.trans (hB3.mono (by have:=hm.lt;omega))
             have hs3:w1.heap.size≤w3.heap.size:=by have:=hB3.size;omega
             clear hB3)
          | (at_builtin;refine wpList_append_own _ rfl _ _ 44 rfl w1.heap.size 9 i0 (.string ⟨#[]⟩) 1 16 Tryz.underlying44 hi hz0 hz1 hz2 rfl (by decide) _ _ _ rfl (World.ownsRow.alloc hown3 _) ⟨w3.heap.size,0,none⟩ 1 1 [.string x] rfl rfl (Ap.one_cell _ _ _ rfl) (Ap.one_one _ rfl) (by unfold maxLen;omega) (by omega) (by simp;omega) ?_;intro v5 w5 hown5 hgrow hnn))
        have ho5:=Ap.sown_snoc rfl hown5
        have hge:∀ j,(u4:Value).ownBlock=some j→w1.heap.size≤j:=fun j hj=>(hown3.ge j hj).1
        have hB5:Below bm w w5:=Ap.below_app (hBr3.alloc (by have:=hm3.lt;omega) _) (by have:=hm3.lt;simp;omega) hgrow (fun j hj=>by have:=hge j hj;omega)
        have hm5:PM w5 bm ws.length ws:=(hm3.below ((Below.refl _ _).alloc (Nat.le_refl _) _)).kept hgrow (fun e=>by have:=hge bm e.symm;omega)
        have hs5:w1.heap.size≤w5.heap.size:=by have:=hgrow.size;simp at this;omega
        clear hown5 hgrow hnn hge hown3 hm3 hBr3
        go_wp2
        go_roundw
        case rel=>exact ⟨k+1,by omega,by go_num,by rw [HD.out];exact ho5,hm5,hB5,hs5⟩
        case measure=>simp [intOf];omega
    · obtain rfl : k = ws.length := by omega
      have HT:Hid (ws.take ws.length=ws):=List.take_length
      have HO:Hid (Ls.Own wr w.heap.size u4 (dictOf ws)):=by
        have h:=hown
        rw [HT.out] at h
        exact h.mono (by have:=HBM.out;omega)
      clear hown
      go_wp2
      go_ret
      exact ⟨_,rfl,HO.out,hBw⟩
set_option maxHeartbeats 4000000 in
theorem sdict (w:World) (a:Option Addr) (cap:Nat) (ws:List ByteArray) (hx:Ls.IsS w a ws) (hl:ws.length≤1048576) :
  Calls Tryz.prog 57 #[.slice a ws.length cap] w fun e w'=>∃ v,e=.returned v∧Ls.Own w' w.heap.size v (dictOf ws)∧Below w.heap.size w w':=by
 obtain ⟨i0,hi,hz0,hz1,hz2⟩:=info_parts Ls.info_str
 have ho:=Ap.sown_empty w w.heap.size (Nat.le_refl _)
 have hB1:Below w.heap.size w (w.alloc (.cells #[] 9)):=(Below.refl _ _).alloc (Nat.le_refl _) _
 go_enter Tryz.func57,Tryz.ntmps57
 go_wp2
 go_loopw [3,4] (fun v i wr=>∃ k:Nat,k≤ws.length∧i=.int .i64 k∧Ls.Own wr w.heap.size v (dictOf (ws.take k))∧Below w.heap.size w wr) (fun _ i _=>ws.length-(intOf i).toNat)
 case atStart=>exact ⟨0,Nat.zero_le _,rfl,by simpa [dictOf,dict] using ho,hB1⟩
 case round =>
  obtain ⟨k,hk,rfl,hown,hB⟩:=hrel
  clear ho hB1
  by_cases hlt:k<ws.length
  ·
   rcases hx.below hB with rfl | ⟨b,off,rfl,hb,hc⟩
   ·
    simp at hlt
   have hcx:=hc k hlt
   have hdl:=dictOf_len (ws.take k)
   have hdl2:(ws.take k).length≤k:=by simp;omega
   have hBs:=hB.size
   clear hc
   by_cases hin:ws[k] ∈ ws.take k
   ·
    have HD:Hid (dictOf (ws.take (k+1))=dictOf (ws.take k)):=dictOf_old hlt hin
    have hid:¬ idOf (dictOf (ws.take k)) ws[k]<0:=fun h=>idOf_neg.1 h (dictOf_mem.2 hin)
    obtain ⟨x,ex⟩:∃ x,ws[k]=x:=⟨_,rfl⟩
    rw [ex] at hcx hid
    obtain ⟨d,hd⟩:∃ d,dictOf (ws.take k)=d:=⟨_,rfl⟩
    rw [hd] at hown HD hdl hid
    clear ex hin hd
    obtain ⟨va,vc,ev,hs⟩:=hown.iss
    subst ev
    go_wp2_with (go_at_call 80;refine (sid0 _ _ _ d x hs (by omega)).mono ?_;rintro e w' ⟨rfl,hw⟩;subst w')
    go_roundw
    case rel=>exact ⟨k+1,by omega,by go_num,by rw [HD.out];exact hown,hB⟩
    case measure=>simp [intOf];omega
   ·
    have HD:Hid (dictOf (ws.take (k+1))=dictOf (ws.take k) ++ [ws[k]]):=dictOf_new hlt hin
    have hid:idOf (dictOf (ws.take k)) ws[k]<0:=idOf_neg.2 (fun h=>hin (dictOf_mem.1 h))
    obtain ⟨x,ex⟩:∃ x,ws[k]=x:=⟨_,rfl⟩
    rw [ex] at hcx hid HD
    obtain ⟨d,hd⟩:∃ d,dictOf (ws.take k)=d:=⟨_,rfl⟩
    rw [hd] at hown HD hdl hid
    clear ex hin hd
    obtain ⟨va,vc,ev,hs⟩:=hown.iss
    subst ev
    go_wp2_with (first
     | (go_at_call 80;refine (sid0 _ _ _ d x hs (by omega)).mono ?_;rintro e w' ⟨rfl,hw⟩;subst w')
     | (at_builtin;refine wpList_append_own _ rfl _ _ 44 rfl w.heap.size 9 i0 (.string ⟨#[]⟩) 1 16 Tryz.underlying44 hi hz0 hz1 hz2 rfl (by decide) _ _ _ rfl (World.ownsRow.alloc hown _) ⟨wr.heap.size,0,none⟩ 1 1 [.string x] rfl rfl (Ap.one_cell _ _ _ rfl) (Ap.one_one _ rfl) (by unfold maxLen;omega) (by omega) (by simp;omega) ?_;intro v5 w5 hown5 hgrow hnn))
    have ho5:=Ap.sown_snoc rfl hown5
    have hge:∀ j,(Value.slice va d.length vc).ownBlock=some j→w.heap.size≤j:=fun j hj=>(hown.ge j hj).1
    have hB5:Below w.heap.size w w5:=Ap.below_app (hB.alloc hBs _) (by simp;omega) hgrow hge
    clear hown5 hgrow hnn hge
    go_wp2
    go_roundw
    case rel=>exact ⟨k+1,by omega,by go_num,by rw [HD.out];exact ho5,hB5⟩
    case measure=>simp [intOf];omega
  ·
   obtain rfl:k=ws.length:=by omega
   have HT:Hid (ws.take ws.length=ws):=List.take_length
   have HO:Hid (Ls.Own wr w.heap.size u3 (dictOf ws)):=by have h:=hown;rw [HT.out] at h;exact h
   clear hown
   go_wp2
   go_ret
   exact ⟨_,rfl,HO.out,hB⟩
end Go.Proofs.YtaojoamldoofpaaGreatDoor.Di
namespace Go.Proofs.YtaojoamldoofpaaGreatDoor.Kt
set_option maxRecDepth 20000
open Go.RowKit
open Tb
open Tk
open Co
open Wd (dictOf dictOf_mem dictOf_len)
open Wc (wcols tok_c IsCb OC)
open Vc (wcols_le wcols_len wcols_word labels_yes labs_lok)
open Sv (Fr fr_below new1 wr2 Wr)
open Li (below_none)
noncomputable def tab (ws:List ByteArray) (ls:List Int) (p:Int):Kv:=⟨dictOf ws,(dictOf ws).map fun s=>Ct.oNum ws ls s p⟩
noncomputable def tabsN (q:Nat) (c:Int) (rs:List Row) (p:Int):List Kv:=((wcols c rs).take q).map fun ws=>tab ws (labs rs) p
theorem tabsN_length (q:Nat) (c:Int) (rs:List Row) (p:Int) (h:q≤(wcols c rs).length):(tabsN q c rs p).length=q:=by simp [tabsN];omega
theorem tabsN_snoc (q:Nat) (c:Int) (rs:List Row) (p:Int) (h:q<(wcols c rs).length):tabsN (q+1) c rs p=tabsN q c rs p ++ [tab (wcols c rs)[q] (labs rs) p]:=by
 unfold tabsN
 rw [List.take_succ_eq_append_getElem h,List.map_append];rfl
noncomputable def ktabs (n c:Int) (rs:List Row) (k:Cf.C):List Kv:=if tok n c rs=true∧Cf.cok k=true then tabsN (wcols c rs).length c rs k.prior else []
theorem ktabs_no {n c:Int} {rs:List Row} {k:Cf.C} (h:¬ (tok n c rs=true∧Cf.cok k=true)):ktabs n c rs k=[]:=by unfold ktabs;rw [if_neg h]
theorem ktabs_yes {n c:Int} {rs:List Row} {k:Cf.C} (h:tok n c rs=true) (h':Cf.cok k=true):ktabs n c rs k=tabsN (wcols c rs).length c rs k.prior:=by unfold ktabs;rw [if_pos ⟨h,h'⟩]
theorem dict_sz {ws:List ByteArray} {b:Nat} (h:∀ i (hi:i<ws.length),ws[i].size≤b) (j:Nat) (hj:j<(dictOf ws).length):(dictOf ws)[j].size≤b:=by
 have:=dictOf_mem.1 (List.getElem_mem hj)
 obtain ⟨i,hi,e⟩:=List.getElem_of_mem this
 rw [← e];exact h i hi
theorem info_tab:(Tryz.prog.info? 47).map (fun i=>(i.zero,i.size,i.bytes))=some (some (.agg #[.slice none 0 0,.slice none 0 0]),2,48):=by kernel_rfl
theorem two_cell (w:World) (T:TypeId) (x y:Value):∀ j u,([x,y]:List Value)[j]? = some u→(w.alloc (.cells #[x,y] T)).cell? ((⟨w.heap.size,0,none⟩:Addr).add j)=some u:=by
 intro j u hj
 match j,hj with
 | 0,hj=>simp at hj;subst hj;simp [Addr.add]
 | 1,hj=>simp at hj;subst hj;simp [Addr.add]
theorem two_one {a b:Option Addr} {n c m d:Nat} : ∀ u ∈ ([.slice a n c,.slice b m d]:List Value),u.oneCell'=true:=by
 intro u hu
 simp at hu
 rcases hu with rfl | rfl <;> rfl
end Go.Proofs.YtaojoamldoofpaaGreatDoor.Kt
