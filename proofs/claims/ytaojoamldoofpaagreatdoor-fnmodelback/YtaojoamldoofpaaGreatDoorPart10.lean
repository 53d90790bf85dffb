/-
  Contracts that the proof leans on, put together in the order in which they build.
-/
import Derived.Test.YtaojoamldoofpaaGreatDoorPart7
import Derived.Test.YtaojoamldoofpaaGreatDoorPart6
import Derived.Test.YtaojoamldoofpaaGreatDoorPart9
import Derived.Test.YtaojoamldoofpaaGreatDoorPart8
import Derived.Test.YtaojoamldoofpaaGreatDoorPart4
set_option linter.unusedVariables false
namespace Go.Proofs.YtaojoamldoofpaaGreatDoor.Tn
set_option maxRecDepth 100000
open Go.RowKit
open Li (ret_bool ret_int below_none IsL btw Own)
open Tm (IsP OwnP)
open To (OwT)
open Se Sv
open Sw7 (row_fr row_below)
open Bp (isv_at)
open Bo (fok aok bor)
theorem wr7 {w:World} {b:Nat} {c:Cf.C} (h:Wr w b 0 c.cells):b<w.heap.size∧w.cell? ⟨b,0,none⟩=some (.int .i64 c.trees)∧w.cell? ⟨b,1,none⟩=some (.int .i64 c.depth)∧w.cell? ⟨b,2,none⟩=some (.int .i64 c.most)∧w.cell? ⟨b,3,none⟩=some (.int .i64 c.rate)∧w.cell? ⟨b,4,none⟩=some (.int .i64 c.l2)∧w.cell? ⟨b,5,none⟩=some (.int .i64 c.prior)∧w.cell? ⟨b,6,none⟩=some (.int .i64 c.seed) :=
 ⟨h.1,(h.2 0 (by simp [Cf.C.cells])).1,(h.2 1 (by simp [Cf.C.cells])).1,(h.2 2 (by simp [Cf.C.cells])).1,(h.2 3 (by simp [Cf.C.cells])).1,(h.2 4 (by simp [Cf.C.cells])).1,(h.2 5 (by simp [Cf.C.cells])).1,(h.2 6 (by simp [Cf.C.cells])).1⟩
theorem results_ttt {fn:Func} {p q r:Tmp} (h:fn.results=#[.tmp p,.tmp q,.tmp r]) (tmps:Array Value) (P:Program) (w:World) :
  (results fn tmps).run P w=.ok (.tuple #[tmps.getD p undef,tmps.getD q undef,tmps.getD r undef]) w:=by
 simp only [results,h]
 simp
theorem owt_empty (w:World) (B:Nat→Prop) (hB:B w.heap.size):OwT (w.alloc (.cells #[] 56)) B (.slice (some ⟨w.heap.size,0,none⟩) 0 0) [] :=
 ⟨[],World.ownsRow_made w #[] 0 (Nat.zero_le _) (by unfold maxLen;omega) (by simp),rfl,fun j h=>by simp at h,fun k e=>by simp [Value.ownBlock] at e;rw [← e];exact hB,fun p hp=>by simp at hp,fun p q hp=>by simp at hp⟩
theorem wp_makeI {o:Oper} {a:Act} {w:World} {K:Act→World→Prop} {Q:Exit→Act→World→Prop} (l c:Operand) (hop:o.op=Op.makeSlice 45 l c) (dt:Option Tmp) (hd:o.dst=dt) (n:Nat) (hl:a.eval l=.int .i64 (n:Int)) (hc:a.eval c=.int .i64 (n:Int)) (hn:n≤1048576)
  (h:∀ g w',w.heap.size≤g→Own w' w.heap.size (.slice (some ⟨g,0,none⟩) n n) (List.replicate n 0)→Below w.heap.size w w'→K (a.put dt (.slice (some ⟨g,0,none⟩) n n)) w'):o.wp Tryz.prog a w K Q:=by
 subst hd
 obtain ⟨i0,hi,hz0,hz1,hz2⟩:=info_parts Li.info_int
 obtain ⟨w',hrun,r1,r2⟩:=run_make_full (P:=Tryz.prog) w w.heap.size 45 3 i0 (.int .i64 0) 1 Tryz.underlying45 hi hz0 hz1 .i64 .i64 n (by rw [hz2];omega) (by unfold maxLen;omega) (Nat.le_refl _)
 unfold Oper.wp
 simp [execOp,hop,hl,hc,hrun,Result.andThen]
 exact h _ _ (Nat.le_refl _) (Li.own_made r1) (Li.below_none r2)
theorem wpl_pushT {ops:Array Oper} {rest:List Oper} {o:Oper} {a:Act} {w:World} {Q:Exit→Act→World→Prop} (hgd:o.guard=none) (s x:Operand) (ho:o.op=.call { callee:=.builtin .append,args:=#[s,x],argTypes:=#[27,27] })
  (B:Nat→Prop) (m:Nat) (v:Value) (ks:List Tr.T) (h:OwT w (fun y=>B y∧y<m) v ks) (E:Nat) (b0 b1:Option Addr) (d0 d1 n0 n1:Nat) (t:Tr.T) (hs:a.eval s=v) (hx:a.eval x=.slice (some ⟨E,0,none⟩) 1 1)
  (e0:w.cell? ⟨E,0,none⟩=some (.slice b0 n0 d0)) (e1:w.cell? ⟨E,1,none⟩=some (.slice b1 n1 d1)) (o0:Tm.OwnP w m (.slice b0 n0 d0) t.sp) (o1:Li.Own w m (.slice b1 n1 d1) t.lv) (h01:∀ k,(Value.slice b0 n0 d0).ownBlock=some k→(Value.slice b1 n1 d1).ownBlock≠some k)
  (hB:∀ y,m≤y→B y) (hm:m≤w.heap.size) (hl:ks.length≤1048576)
  (hq:∀ a5 c5 w5,OwT w5 B (.slice a5 (ks.length+1) c5) (ks ++ [t])→w.grownBy w5 v.ownBlock→wpList Tryz.prog ops Q rest (a.put o.dst (.slice a5 (ks.length+1) c5)) w5):wpList Tryz.prog ops Q (o :: rest) a w:=by
 obtain ⟨a5,c5,w5,hr,h2,h3⟩:=Ps.run_pushT w o.type B m v ks h E b0 b1 d0 d1 n0 n1 t e0 e1 o0 o1 h01 hB hm hl
 refine wpList_plain hgd fun K hK=>?_
 unfold Oper.wp execOp
 simp only [ho,resolve,invoke,builtin,Sem.run_bind,Sem.run_pure,Result.andThen_ok,List.map_toArray,List.map_cons,List.map_nil,hs,hx,hr]
 exact hK _ _ (hq a5 c5 w5 h2 h3)
theorem nextT_sz (x:List (List Int)) (ls:List Int) (c:Cf.C) (ps:List Int):(nextT x ls c ps).sp.length≤4∧(nextT x ls c ps).lv.length≤16:=by
 unfold nextT
 cases h:Gt.gtok (rowsOf x ls ps c.l2) (bors x c.most 6) c.depth c.rate with
 | false=>rw [Gt.grow_no h];exact ⟨by simp,by simp⟩
 | true =>
  rw [Gt.grow_ok h]
  simp only [Gt.gtok,Bool.and_eq_true] at h
  have hd:=Gt.gok_d h.1.1.2
  exact ⟨Nat.le_trans (Gt.asks_len _ _ _) (by omega),Gw.lvs_le _ _ _⟩
theorem cok_t {c:Cf.C} (h:Cf.cok c=true):0≤c.trees∧c.trees≤12:=by
 simp only [Cf.cok,Bool.and_eq_true,btw,decide_eq_true_iff] at h
 exact h.1
set_option maxHeartbeats 20000000 in
theorem strainOn (w:World) (ax al:Option Addr) (kx kl:Nat) (x:List (List Int)) (ls:List Int) (c:Cf.C) (hx:IsV w ax x) (hl:IsL w al ls) (hxl:x.length≤1048576) (hll:ls.length≤1048576) (hvl:∀ v ∈ x,v.length≤1048576) :
  Calls Tryz.prog 74 #[.slice ax x.length kx,.slice al ls.length kl,.agg #[.int .i64 c.trees,.int .i64 c.depth,.int .i64 c.most,.int .i64 c.rate,.int .i64 c.l2,.int .i64 c.prior,.int .i64 c.seed]] w fun e w'=>∃ v,e=.returned (.tuple #[v,.int .i64 (train x ls c).2.1,.bool (train x ls c).2.2])∧OwT w' (fun k=>w.heap.size≤k) v (train x ls c).1∧Below w.heap.size w w':=by
 have HXV:Hid (IsV w ax x):=hx
 have HLL:Hid (IsL w al ls):=hl
 have HVL:Hid (∀ v ∈ x,v.length≤1048576):=hvl
 obtain ⟨n,hn⟩:∃ n,x.length=n:=⟨_,rfl⟩
 obtain ⟨m,hm⟩:∃ m,ls.length=m:=⟨_,rfl⟩
 have HN:Hid (x.length=n):=hn
 have HM:Hid (ls.length=m):=hm
 rw [hn] at hxl ⊢
 rw [hm] at hll ⊢
 clear hn hm hx hl hvl
 go_enter Tryz.func74,Tryz.ntmps74
 go_wp2_with fail
 obtain ⟨W,hW,hsz,hB,bc,_⟩:=new2 w c.cells [] 82 56
 have hW2:(w.alloc (.cells #[.int .i64 c.trees,.int .i64 c.depth,.int .i64 c.most,.int .i64 c.rate,.int .i64 c.l2,.int .i64 c.prior,.int .i64 c.seed] 82)).alloc (.cells #[] 56)=W:=hW
 rw [hW2]
 have HOT:Hid (OwT W (fun k=>w.heap.size≤k) (.slice (some ⟨w.heap.size+1,0,none⟩) 0 0) []):=by
  show OwT _ _ _ _
  have:=owt_empty (w.alloc (.cells c.cells.toArray 82)) (fun k=>w.heap.size≤k) (by simp)
  rw [hW,World.size_alloc] at this
  exact this
 clear hW hW2
 refine (Cf.scok _ c).mono ?_
 rintro e w1 ⟨rfl,hb1⟩
 have HB:Hid (Below w.heap.size w w1):=hB.trans (hb1.mono hB.size)
 replace bc:=bc.below hb1
 replace HOT:Hid (type_of% (HOT.out.below hb1)):=HOT.out.below hb1
 obtain ⟨P,hP⟩:∃ P,w.heap.size=P:=⟨_,rfl⟩
 rw [hP] at bc hsz ⊢
 have HP:Hid (w.heap.size=P):=hP
 have hs1:P+2≤w1.heap.size:=by have:=hb1.size;omega
 have HBC:Hid (type_of% bc):=bc
 rw [hP] at HOT
 clear hB hb1 hsz hP bc
 cases hu:Cf.cok c with
 | false =>
  have HR:Hid (train x ls c=([],0,false)):=train_no (by simp [tnok,hu])
  go_wp2_with fail
  refine bodyPost_ret (v:=.tuple #[.slice (some ⟨P+1,0,none⟩) 0 0,.int .i64 0,.bool false]) (by rw [results_ttt rfl];rfl) rfl ⟨_,by rw [HR.out],by rw [HR.out,HP.out];exact HOT.out,HB.out⟩
 | true =>
  have HU:Hid (Cf.cok c=true):=hu
  clear hu
  have HSL:Hid (type_of% (Ba.slabs w1 al kl ls (HLL.out.below HB.out) (by rw [HM.out];omega))):=Ba.slabs w1 al kl ls (HLL.out.below HB.out) (by rw [HM.out];omega)
  rw [HM.out] at HSL
  cases hv:(decide (m≤40) && ls.all Tk.lok) with
  | false =>
   rw [hv] at HSL
   have HW:Hid (tnok x ls c=false):=by show _=_;rw [tnok,HM.out,hv];simp
   clear hv
   go_wp2_with (go_at_call 98;refine HSL.out.mono ?_;rintro e w' ⟨rfl,hw'⟩;subst w')
   have HR:Hid (train x ls c=([],0,false)):=train_no HW.out
   refine bodyPost_ret (v:=.tuple #[.slice (some ⟨P+1,0,none⟩) 0 0,.int .i64 0,.bool false]) (by rw [results_ttt rfl];rfl) rfl ⟨_,by rw [HR.out],by rw [HR.out,HP.out];exact HOT.out,HB.out⟩
  | true =>
   have h40:m≤40:=by simp at hv;exact hv.1
   have HLK:Hid ((decide (m≤40) && ls.all Tk.lok)=true):=hv
   rw [hv] at HSL
   clear hv
   by_cases hnm:n=m
   rotate_left
   ·
    have hne:((n:Int) != (m:Int))=true:=by simp;omega
    have HW:Hid (tnok x ls c=false):=by show _=_;rw [tnok,HM.out,HN.out];simp [hnm]
    clear hnm
    go_wp2_with (go_at_call 98;refine HSL.out.mono ?_;rintro e w' ⟨rfl,hw'⟩;subst w')
    have HR:Hid (train x ls c=([],0,false)):=train_no HW.out
    refine bodyPost_ret (v:=.tuple #[.slice (some ⟨P+1,0,none⟩) 0 0,.int .i64 0,.bool false]) (by rw [results_ttt rfl];rfl) rfl ⟨_,by rw [HR.out],by rw [HR.out,HP.out];exact HOT.out,HB.out⟩
   subst hnm
   have hne:((n:Int) != (n:Int))=false:=by simp
   go_wp2_with (go_at_call 98;refine HSL.out.mono ?_;rintro e w' ⟨rfl,hw'⟩;subst w')
   clear HSL hne
   obtain ⟨Q0,hQ0⟩:∃ q,w1.heap.size=q:=⟨_,rfl⟩
   have hv0:=VL.made (w:=w1) (lo:=Q0) (by omega)
   obtain ⟨W2,hW2,hsz2,hb2,_⟩:=new1 w1 [] 139
   have hW2b:w1.alloc (.cells #[] 139)=W2:=hW2
   rw [hW2b] at hv0 ⊢
   rw [hQ0] at hv0 ⊢
   have HV0:Hid (type_of% hv0):=hv0
   have HB2:Hid (Below w1.heap.size w1 W2):=hb2
   have HQ0:Hid (w1.heap.size=Q0):=hQ0
   have hPQ:P+2≤Q0:=by omega
   clear hW2 hW2b hsz2 hb2 hv0 hQ0
   go_loopw [10,11] (fun v i wr=>∃ k:Nat,k≤6∧i=.int .i64 k∧∃ cs,VL wr Q0 v cs (bors x c.most k)∧Below w1.heap.size w1 wr∧∀ f,f<k→∀ t,t<n→(x.getD t []).length=6∧fok ((x.getD t []).getD f 0)=true) (fun _ i _=>6-(intOf i).toNat)
   case atStart=>exact ⟨0,by omega,rfl,[],HV0.out,HB2.out,fun f hf=>by omega⟩
   case round =>
    obtain ⟨k,hk,rfl,cs,hvl,hbr,hok⟩:=hrel
    obtain ⟨av,cv,rfl,-⟩:=hvl.isv
    have HVV:Hid (type_of% hvl):=hvl
    have HBR:Hid (Below w1.heap.size w1 wr):=hbr
    have HOK:Hid (type_of% hok):=hok
    have hsr:Q0≤wr.heap.size:=by have h1:=hbr.size;have h2:=HQ0.out;omega
    clear hvl hbr hok HV0 HB2
    by_cases hlt:k<6
    ·
     have hlti:(k:Int)<6:=by omega
     have hltd:decide ((k:Int)<6)=true:=by simp [hlti]
     obtain ⟨wq,hwq⟩:∃ wq,wq=wr:=⟨_,rfl⟩
     subst hwq
     go_wp2_with fail
     have ho0:=Ai.own_empty wq wq.heap.size (Nat.le_refl _)
     obtain ⟨W3,hW3,hsz3,hb3,_⟩:=new1 wq [] 3
     have hW3b:wq.alloc (.cells #[] 3)=W3:=hW3
     rw [hW3b] at ho0 ⊢
     have HO0:Hid (type_of% ho0):=ho0
     have HB3:Hid (Below wq.heap.size wq W3):=hb3
     clear hW3 hW3b hsz3 hb3 ho0
     go_loopw [12,13] (fun v i wr'=>∃ j:Nat,j≤n∧i=.int .i64 j∧∃ ys:List Int,ys=(col x k).take j∧ys.length=j∧Own wr' wq.heap.size v ys∧Below wq.heap.size wq wr'∧∀ t,t<j→(x.getD t []).length=6∧fok ((x.getD t []).getD k 0)=true) (fun _ i _=>n-(intOf i).toNat)
     case atStart=>exact ⟨0,by omega,rfl,[],by simp,rfl,HO0.out,HB3.out,fun t ht=>by omega⟩
     case round =>
      obtain ⟨j,hj,rfl,ys,hys,hyl,hoy,hbj,hokj⟩:=hrel
      have HYS:Hid (ys=(col x k).take j):=hys
      have HYL:Hid (ys.length=j):=hyl
      have HOY:Hid (type_of% hoy):=hoy
      have HBJ:Hid (type_of% hbj):=hbj
      have HOJ:Hid (type_of% hokj):=hokj
      have HBW:Hid (Below w.heap.size w wr):=by
       have h1:=HB.out.trans (HBR.out.mono HB.out.size)
       exact h1.trans (hbj.mono h1.size)
      clear hys hyl hoy hbj hokj HO0 HB3
      by_cases hjn:j<n
      ·
       have hjx:j<x.length:=by rw [HN.out];exact hjn
       obtain ⟨xb,xo,a1,c1,hxa,hxb,hcell,hil⟩:=isv_at (HXV.out.below HBW.out) hjx
       subst hxa
       obtain ⟨y,hy⟩:∃ y,x.getD j []=y:=⟨_,rfl⟩
       have HY:Hid (x.getD j []=y):=hy
       rw [hy] at hcell hil
       obtain ⟨z,hz⟩:∃ z,y.length=z:=⟨_,rfl⟩
       have HZ:Hid (y.length=z):=hz
       rw [hz] at hcell
       have hzl:z≤1048576:=by rw [← hz,← hy];exact HVL.out _ (Gt.getD_mem hjx)
       have HIL:Hid (IsL wr a1 y):=hil
       have hji:(j:Int)<n:=by omega
       clear hy hz hil
       have HOTr:Hid (OwT wr (fun k=>P≤k) (.slice (some ⟨P+1,0,none⟩) 0 0) []):=HOT.out.below ((HBR.out.trans (HBJ.out.mono HBR.out.size)))
       by_cases hz6:z=6
       rotate_left
       ·
        have hne:((z:Int) != 6)=true:=by simp;omega
        have HW:Hid (tnok x ls c=false):=by
         show _=_
         have h1:x.all vok=false:=vok_bad hjx (fun h=>by rw [HY.out,HZ.out] at h;exact absurd h hz6)
         simp [tnok,h1]
        clear hz6
        have HR:Hid (train x ls c=([],0,false)):=train_no (HW.out)
        go_wp2_with fail
        refine bodyPost_ret (v:=.tuple #[.slice (some ⟨P+1,0,none⟩) 0 0,.int .i64 0,.bool false]) (by rw [results_ttt rfl];rfl) rfl ⟨_,by rw [HR.out],by rw [HR.out,HP.out];exact HOTr.out,HBW.out⟩
       subst hz6
       have hne:(((6:Nat):Int) != 6)=false:=by decide
       have hky:k<y.length:=by rw [HZ.out];exact hlt
       rcases HIL.out with h0 | ⟨yb,yo,ha,hyb,hyc⟩
       ·
        rw [h0] at hky;simp at hky
       subst ha
       have hcy:=hyc k hky
       obtain ⟨u,hu⟩:∃ u,y[k]=u:=⟨_,rfl⟩
       rw [hu] at hcy
       have HUU:Hid ((x.getD j []).getD k 0=u):=by show _=_;rw [HY.out,List.getD_eq_getElem?_getD,List.getElem?_eq_getElem hky,← hu];rfl
       clear hyc hu
       cases hf:fok u with
       | false =>
        have HW:Hid (tnok x ls c=false):=by
         show _=_
         have h1:x.all vok=false:=vok_bad hjx (fun _=>⟨k,hlt,by rw [HUU.out];exact hf⟩)
         simp [tnok,h1]
        go_wp2_with (go_at_call 54;refine (Bw.sokv _ false hf _).mono ?_;rintro e w' ⟨rfl,hw'⟩;subst w')
        have HR:Hid (train x ls c=([],0,false)):=train_no HW.out
        refine bodyPost_ret (v:=.tuple #[.slice (some ⟨P+1,0,none⟩) 0 0,.int .i64 0,.bool false]) (by rw [results_ttt rfl];rfl) rfl ⟨_,by rw [HR.out],by rw [HR.out,HP.out];exact HOTr.out,HBW.out⟩
       | true =>
        obtain ⟨ay,cy,rfl,-⟩:=HOY.out.isl
        replace HOY:=HOY.out
        go_wp2_with (first | (go_at_call 54;refine (Bw.sokv _ true hf _).mono ?_;rintro e w' ⟨rfl,hw'⟩;subst w') | (at_builtin;refine Sn.wpl_snocI rfl _ _ rfl wq.heap.size _ ys wr.heap.size u rfl rfl (by simp) (HOY.below ((Below.refl _ _).alloc (Nat.le_refl _) _)) (by have:=HBJ.out.size;simp;omega) (by rw [HYL.out];omega) ?_;intro g5 c5 w5 o5 hg5 hp5;have HO5:Hid (type_of% o5):=o5;have HG5:Hid (type_of% hg5):=hg5;clear o5 hg5 hp5))
        have HB5:Hid (Below wq.heap.size wq w5):=by
         have h1:=HBJ.out.alloc HBJ.out.size (.cells #[.int .i64 u] 3)
         exact Ai.below_app h1 h1.size HG5.out (fun q e=>(HOY.ge q e).1)
        have HYN:Hid ((ys ++ [u]).length=j+1):=by show _=_;rw [List.length_append,HYL.out];rfl
        go_roundw
        case rel=>exact ⟨j+1,by omega,by go_num,ys ++ [u],by rw [HYS.out,col_take x k j hjx,HUU.out],HYN.out,HO5.out,HB5.out,Gt.upto HOJ.out ⟨by rw [HY.out];exact HZ.out,by rw [HUU.out];exact hf⟩⟩
        case measure=>simp [intOf];omega
      ·
       obtain rfl:j=n:=by omega
       have hji:¬ (j:Int)<j:=by omega
       have HYC:Hid (ys=col x k):=by show _=_;rw [HYS.out,List.take_of_length_le (by rw [col_length,HN.out];exact Nat.le_refl _)]
       obtain ⟨ay,cy,rfl,hil⟩:=HOY.out.isl
       have HIL:Hid (IsL wr ay ys):=hil
       have HBCr:Hid (Wr wr P 0 c.cells):=(HBC.out.below HBR.out).below HBJ.out
       obtain ⟨hlc,q0,q1,q2,q3,q4,q5,q6⟩:=wr7 HBCr.out
       have hsq:wq.heap.size≤wr.heap.size:=HBJ.out.size
       have HVq:Hid (type_of% (HVV.out.below HBJ.out)):=HVV.out.below HBJ.out
       clear hil q0 q1 q3 q4 q5 q6
       go_wp2_with (first | (go_at_call 99;refine (Bs.sbor _ _ _ ys c.most HIL.out (by rw [HYL.out];omega)).mono ?_;rintro e w7 ⟨v7,rfl,o7,hb7⟩;obtain ⟨a7,c7,rfl,-⟩:=o7.isl;obtain ⟨n7,hn7⟩:∃ n,(bor ys c.most).length=n:=⟨_,rfl⟩;have HN7:Hid ((bor ys c.most).length=n7):=hn7;rw [hn7] at o7 ⊢;have HO7:Hid (type_of% o7):=o7;have HB7:Hid (Below wr.heap.size wr w7):=hb7;clear o7 hb7 hn7) | (at_builtin;refine Sn.wpl_snocV rfl _ _ rfl Q0 _ (bors x c.most k).length cs w7.heap.size (.slice a7 n7 c7) rfl rfl rfl (by simp) ((HVq.out.below HB7.out).below ((Below.refl _ _).alloc (Nat.le_refl _) _)).ox (by have:=HB7.out.size;simp;omega) (by rw [bors_length];omega) ?_;intro g5 c5 w5 o5 hg5 hp5;have HO5:Hid (type_of% o5):=o5;have HG5:Hid (type_of% hg5):=hg5;have HP5:Hid (type_of% hp5):=hp5;clear o5 hg5 hp5))
       have hAl:Below w7.heap.size w7 (w7.alloc (.cells #[.slice a7 n7 c7] 139)):=(Below.refl _ _).alloc (Nat.le_refl _) _
       have hb17:=HB7.out.trans (hAl.mono HB7.out.size)
       have hvv:=HVV.out
       have HPS:Hid (type_of% (((HVq.out.below HB7.out).below hAl).push (Tm.ownsRow_mono (row_below HO7.out hAl) (by omega)) (fun q e e2=>by have h1:=(HO7.out.ge q e).1;have h2:=(World.ownsRow.lt hvv.ox q e2).2;omega) HO5.out HG5.out HP5.out)):=((HVq.out.below HB7.out).below hAl).push (Tm.ownsRow_mono (row_below HO7.out hAl) (by omega)) (fun q e e2=>by have h1:=(HO7.out.ge q e).1;have h2:=(World.ownsRow.lt hvv.ox q e2).2;omega) HO5.out HG5.out HP5.out
       have HBN:Hid (Below w1.heap.size w1 w5):=by
        have h1:=HBR.out.trans (HBJ.out.mono HBR.out.size)
        have h2:=h1.trans (hb17.mono h1.size)
        exact Ai.below_app h2 h2.size HG5.out (fun q e=>by have h3:=(World.ownsRow.lt hvv.ox q e).1;have h4:=HQ0.out;omega)
       clear hAl hb17 hvv
       go_roundw
       case rel=>exact ⟨k+1,by omega,by go_num,_,by rw [bors_succ,← HYC.out];exact HPS.out,HBN.out,Gt.upto HOK.out HOJ.out⟩
       case measure=>simp [intOf];omega
    ·
     obtain rfl:k=6:=by omega
     have hlti:¬ ((6:Nat):Int)<6:=by omega
     have HTOK:Hid (tnok x ls c=true):=by
      show _=_
      have h1:x.all vok=true:=vok_all (fun f hf i hi=>HOK.out f hf i (by rw [← HN.out];exact hi))
      simp [tnok,h1,HU.out,HM.out,HN.out,HLK.out]
     obtain ⟨wq,hwq⟩:∃ wq,wq=wr:=⟨_,rfl⟩
     subst hwq
     have HBW:Hid (Below w.heap.size w wq):=HB.out.trans (HBR.out.mono HB.out.size)
     have HSB:Hid (type_of% (Ba.sbase wq al kl ls (HLL.out.below HBW.out) (by rw [HM.out];omega))):=Ba.sbase wq al kl ls (HLL.out.below HBW.out) (by rw [HM.out];omega)
     rw [HM.out] at HSB
     obtain ⟨bse,hbse⟩:∃ b,Ba.base ls=b:=⟨_,rfl⟩
     have HBS:Hid (Ba.base ls=bse):=hbse
     rw [hbse] at HSB
     clear hbse HOK hlt
     go_wp2_with (go_at_call 100;refine HSB.out.mono ?_;rintro e w' ⟨rfl,hw'⟩;subst w')
     clear HSB
     have ho0:=Ai.own_empty wq wq.heap.size (Nat.le_refl _)
     obtain ⟨W3,hW3,hsz3,hb3,_⟩:=new1 wq [] 3
     have hW3b:wq.alloc (.cells #[] 3)=W3:=hW3
     rw [hW3b] at ho0 ⊢
     have HO0:Hid (type_of% ho0):=ho0
     have HB3:Hid (Below wq.heap.size wq W3):=hb3
     clear hW3 hW3b hsz3 hb3 ho0
     go_loopw [15,16] (fun v i wr'=>∃ j:Nat,j≤n∧i=.int .i64 j∧∃ ys:List Int,ys=List.replicate j bse∧ys.length=j∧Own wr' wq.heap.size v ys∧Below wq.heap.size wq wr') (fun _ i _=>n-(intOf i).toNat)
     case atStart=>exact ⟨0,by omega,rfl,[],rfl,rfl,HO0.out,HB3.out⟩
     case round =>
      obtain ⟨j,hj,rfl,ys,hys,hyl,hoy,hbj⟩:=hrel
      have HYS:Hid (ys=List.replicate j bse):=hys
      have HYL:Hid (ys.length=j):=hyl
      have HBJ:Hid (type_of% hbj):=hbj
      obtain ⟨ay,cy,rfl,-⟩:=hoy.isl
      have HOY:Hid (type_of% hoy):=hoy
      clear hys hyl hoy hbj HO0 HB3
      by_cases hjn:j<n
      ·
       have hji:(j:Int)<n:=by omega
       go_wp2_with (at_builtin;refine Sn.wpl_snocI rfl _ _ rfl wq.heap.size _ ys wr.heap.size bse rfl rfl (by simp) (HOY.out.below ((Below.refl _ _).alloc (Nat.le_refl _) _)) (by have:=HBJ.out.size;simp;omega) (by rw [HYL.out];omega) ?_;intro g5 c5 w5 o5 hg5 hp5;have HO5:Hid (type_of% o5):=o5;have HG5:Hid (type_of% hg5):=hg5;clear o5 hg5 hp5)
       have HB5:Hid (Below wq.heap.size wq w5):=by
        have h1:=HBJ.out.alloc HBJ.out.size (.cells #[.int .i64 bse] 3)
        exact Ai.below_app h1 h1.size HG5.out (fun q e=>(HOY.out.ge q e).1)
       have HYN:Hid ((ys ++ [bse]).length=j+1):=by show _=_;rw [List.length_append,HYL.out];rfl
       go_roundw
       case rel=>exact ⟨j+1,by omega,by go_num,ys ++ [bse],by rw [HYS.out,List.replicate_succ'],HYN.out,HO5.out,HB5.out⟩
       case measure=>simp [intOf];omega
      ·
       obtain rfl:j=n:=by omega
       have hji:¬ (j:Int)<j:=by omega
       have ht:=cok_t HU.out
       obtain ⟨T,hT⟩:∃ T:Nat,c.trees=T:=⟨c.trees.toNat,by omega⟩
       have HT:Hid (c.trees=T):=hT
       have hT12:T≤12:=by omega
       clear ht hT
       go_wp2_with fail
       obtain ⟨Q2,hQ2⟩:∃ q,wr.heap.size=q:=⟨_,rfl⟩
       have ho4:=owt_empty wr (fun y=>Q2≤y) (by omega)
       obtain ⟨W4,hW4,hsz4,hb4,_⟩:=new1 wr [] 56
       have hW4b:wr.alloc (.cells #[] 56)=W4:=hW4
       rw [hW4b,hQ2] at ho4
       rw [hW4b,hQ2]
       have HO4:Hid (type_of% ho4):=ho4
       have HB4:Hid (Below wq.heap.size wq W4):=HBJ.out.trans (hb4.mono HBJ.out.size)
       have HY4:Hid (Own W4 wq.heap.size (.slice ay j cy) ys):=by show Own _ _ _ _;have h1:=HOY.out.below hb4;rw [HYL.out] at h1;exact h1
       have HPB:Hid (∀ q,(Value.slice ay j cy).ownBlock=some q→q<Q2):=fun q e=>by have h1:=HOY.out;rw [HYL.out] at h1;have:=(h1.ge q e).2;omega
       have hq24:Q2≤W4.heap.size:=by have:=hb4.size;omega
       have HY0:Hid (ys=(boost x ls c 0).2):=by show _=_;rw [HYS.out,boost,HM.out,HBS.out]
       have hq12:wq.heap.size≤Q2:=by have:=HBJ.out.size;omega
       rw [HYL.out]
       clear hW4 hW4b hsz4 hb4 ho4 hQ2 HBJ HOY HYS
       go_loopw [17,18] (fun v i wr'=>∃ k:Nat,k≤T∧i=.int .i64 k∧∃ ps,ps=(boost x ls c k).2∧ps.length=j∧Own wr' wq.heap.size (.slice ay j cy) ps∧OwT wr' (fun y=>Q2≤y) v (boost x ls c k).1∧Below wq.heap.size wq wr'∧Q2≤wr'.heap.size) (fun _ i _=>T-(intOf i).toNat)
       case atStart=>exact ⟨0,Nat.zero_le _,rfl,ys,HY0.out,HYL.out,HY4.out,HO4.out,HB4.out,hq24⟩
       case round =>
        obtain ⟨k,hk,rfl,ps,hps,hpl,hop,hot,hbk,hq2⟩:=hrel
        have HPS:Hid (ps=(boost x ls c k).2):=hps
        have HPL:Hid (ps.length=j):=hpl
        have HOP:Hid (type_of% hop):=hop
        have HOTk:Hid (type_of% hot):=hot
        have HBK:Hid (type_of% hbk):=hbk
        have HBCk:Hid (Wr wr P 0 c.cells):=(HBC.out.below HBR.out).below hbk
        obtain ⟨hlc,q0,q1,q2,q3,q4,q5,q6⟩:=wr7 HBCk.out
        rw [HT.out] at q0
        clear hps hpl hop hot hbk HY4 HO4 HB4 HY0
        by_cases hkT:k<T
        ·
         have hki:(k:Int)<T:=by omega
         go_wp2_with fail
         have HGRD:Hid (∀ X,Below wr.heap.size wr X→Calls Tryz.prog 101 #[.slice al j kl,.slice ay j cy] X fun e w'=>∃ v,e=.returned v∧Own w' X.heap.size v (Gd.grs ls ps)∧Below X.heap.size X w'):=fun X hX=>by
          obtain ⟨_,_,e1,hil⟩:=HOP.out.isl
          rw [HPL.out] at e1
          injection e1 with e1
          subst e1
          have h2:=HBW.out.trans (HBK.out.mono HBW.out.size)
          have h1:=Gd.sgrs X al ay kl cy ls ps ((HLL.out.below h2).below hX) (hil.below hX) (by rw [HM.out];omega) (by rw [HPL.out];omega)
          rw [HM.out,HPL.out] at h1
          exact h1
         have HSX:Hid (∀ X:World,Below wr.heap.size wr X→X.cell? ⟨P,4,none⟩=some (.int .i64 c.l2)):=fun X hX=>(hX.cell (by exact hlc)).trans q4
         have hj40:j≤40:=h40
         go_cut [19] from 105 to 156 (fun s19 wx=>∃ (bo:Nat) (ag:Option Addr) (cg g6:Nat),s19=.pointer (some ⟨bo,0,none⟩)∧Wr wx bo 0 [.slice ax j kx,.slice ag (Gd.grs ls ps).length cg,.slice (some ⟨g6,0,none⟩) j j,.int .i64 1,.int .i64 c.l2]∧Own wx wr.heap.size (.slice ag (Gd.grs ls ps).length cg) (Gd.grs ls ps)∧Own wx wr.heap.size (.slice (some ⟨g6,0,none⟩) j j) (List.replicate j 0)∧Below wr.heap.size wr wx∧wr.heap.size≤bo)
         case first =>
          have st0:Below wr.heap.size wr wr.drew:=Tm.below_drew wr
          have C0:=HSX.out _ st0
          clear q0 q1 q2 q3 q4 q5 q6
          refine Hd.start (fun X=>X.cell? ⟨P,4,none⟩=some (.int .i64 c.l2)) 11 (by kernel_rfl) ?_
          generalize wr.drew=w0 at st0 C0 ⊢
          refine Hd.After.pureD (i:=0) (some 111) (.slice ax j kx) rfl rfl (by kernel_rfl) (by decide) (by kernel_rfl) (by kernel_rfl) (fun _ _ _ h=>h) (C0) (Or.inl ⟨by rfl,?_⟩) ?_
          ·
           intro X;go_simp;try with_reducible rfl
          (first | simp only [Act.put,List.setIfInBounds_toArray,List.set_cons_zero,List.set_cons_succ] | skip)
          refine Hd.After.pureD (i:=1) (some 112) (.slice al j kl) rfl rfl (by kernel_rfl) (by decide) (by kernel_rfl) (by kernel_rfl) (fun _ _ _ h=>h) (C0) (Or.inl ⟨by rfl,?_⟩) ?_
          ·
           intro X;go_simp;try with_reducible rfl
          (first | simp only [Act.put,List.setIfInBounds_toArray,List.set_cons_zero,List.set_cons_succ] | skip)
          refine Hd.After.pureD (i:=2) (some 113) (.slice ay j cy) rfl rfl (by kernel_rfl) (by decide) (by kernel_rfl) (by kernel_rfl) (fun _ _ _ h=>h) (C0) (Or.inl ⟨by rfl,?_⟩) ?_
          ·
           intro X;go_simp;try with_reducible rfl
          (first | simp only [Act.put,List.setIfInBounds_toArray,List.set_cons_zero,List.set_cons_succ] | skip)
          refine Hd.After.pureD (i:=4) (some 115) (.slice ax j kx) rfl rfl (by kernel_rfl) (by decide) (by kernel_rfl) (by kernel_rfl) (fun _ _ _ h=>h) (C0) (Or.inl ⟨by rfl,?_⟩) ?_
          ·
           intro X;go_simp;try with_reducible rfl
          (first | simp only [Act.put,List.setIfInBounds_toArray,List.set_cons_zero,List.set_cons_succ] | skip)
          refine Hd.After.pureD (i:=5) (some 116) (.int .i64 j) rfl rfl (by kernel_rfl) (by decide) (by kernel_rfl) (by kernel_rfl) (fun _ _ _ h=>h) (C0) (Or.inl ⟨by rfl,?_⟩) ?_
          ·
           intro X;go_simp;try with_reducible rfl
          (first | simp only [Act.put,List.setIfInBounds_toArray,List.set_cons_zero,List.set_cons_succ] | skip)
          refine Hd.After.pureD (i:=7) (some 118) (.pointer (some ⟨P,4,none⟩)) rfl rfl (by kernel_rfl) (by decide) (by kernel_rfl) (by kernel_rfl) (fun _ _ _ h=>h) (C0) (Or.inl ⟨by rfl,?_⟩) ?_
          ·
           intro X;go_simp;try with_reducible rfl
          (first | simp only [Act.put,List.setIfInBounds_toArray,List.set_cons_zero,List.set_cons_succ] | skip)
          refine Hd.After.takeD (i:=8) (some 119) (.int .i64 c.l2) rfl rfl (by kernel_rfl) (by kernel_rfl) (by kernel_rfl) (by kernel_rfl) (by kernel_rfl) (fun _ _ _ h=>h) (C0) (Or.inl ⟨by rfl,?_⟩) ?_
          ·
           rintro X s0;go_simp;try with_reducible rfl
          (first | simp only [Act.put,List.setIfInBounds_toArray,List.set_cons_zero,List.set_cons_succ] | skip)
          refine Hd.After.three (i:=3) (j:=6) (k:=10) (by kernel_rfl) rfl rfl rfl rfl rfl rfl ?_ ?_ ?_
          ·
           intro K hK
           go_simp
           go_wp2_with (go_at_call 101;refine (HGRD.out _ st0).mono ?_;rintro e X1 ⟨v3,rfl,o3,hb⟩)
           obtain ⟨ag,cg,rfl,-⟩:=o3.isl
           have o3h:Hid (Own X1 wr.heap.size (.slice ag (Gd.grs ls ps).length cg) (Gd.grs ls ps)):=Tm.ownsRow_mono o3 st0.size
           clear o3
           have st1:=st0.trans (hb.mono st0.size)
           clear hb
           refine hK _ _ (fun _=>HSX.out _ st1) ?_
           clear hK K
           (first | simp only [Act.put,List.setIfInBounds_toArray,List.set_cons_zero,List.set_cons_succ] | skip)
           refine Hd.After.two (i:=6) (j:=10) (by kernel_rfl) rfl rfl rfl rfl ?_ ?_
           ·
            intro K hK
            refine wp_makeI _ _ rfl (some 117) rfl j rfl rfl (by omega) ?_
            intro g6 X2 hg6 o6 hb
            have o6h:Hid (Own X2 wr.heap.size (.slice (some ⟨g6,0,none⟩) j j) (List.replicate j 0)):=Tm.ownsRow_mono o6 st1.size
            clear o6
            replace o3h:Hid (type_of% (o3h.out.below hb)):=o3h.out.below hb
            have st2:=st1.trans (hb.mono st1.size)
            clear hb
            refine hK _ _ (fun _=>HSX.out _ st2) ?_
            clear hK K
            (first | simp only [Act.put,List.setIfInBounds_toArray,List.set_cons_zero,List.set_cons_succ] | skip)
            refine Hd.After.pureD (i:=9) (some 120) (.agg #[.slice ax j kx,.slice ag (Gd.grs ls ps).length cg,.slice (some ⟨g6,0,none⟩) j j,.int .i64 1,.int .i64 c.l2]) rfl rfl (by kernel_rfl) (by decide) (by kernel_rfl) (by kernel_rfl) (fun _ _ _ h=>h) (HSX.out _ st2) (Or.inl ⟨by rfl,?_⟩) ?_
            ·
             intro X;go_simp;try with_reducible rfl
            (first | simp only [Act.put,List.setIfInBounds_toArray,List.set_cons_zero,List.set_cons_succ] | skip)
            refine Hd.After.one (i:=10) (by kernel_rfl) rfl rfl ?_
            intro K hK
            go_simp
            refine hK _ _ (fun _=>HSX.out _ (st2.alloc st2.size _)) ?_
            clear hK K
            (first | simp only [Act.put,List.setIfInBounds_toArray,List.set_cons_zero,List.set_cons_succ] | skip)
            obtain ⟨X3,hX,hsX,hb,bx⟩:=new1 X2 [.slice none 0 0,.slice none 0 0,.slice none 0 0,.int .i64 0,.int .i64 0] 151
            rw [hX]
            have hbg:wr.heap.size≤X2.heap.size:=st2.size
            obtain ⟨b10,hb10⟩:∃ b,X2.heap.size=b:=⟨_,rfl⟩
            rw [hb10] at bx hbg ⊢
            have bxh:Hid (type_of% bx):=bx
            clear bx
            have n3:Hid (∀ q,(Value.slice ag (Gd.grs ls ps).length cg).ownBlock=some q→¬ q=b10):=fun q e h=>by have h1:=(o3h.out.ge q e).2;omega
            have n6:Hid (∀ q,(Value.slice (some ⟨g6,0,none⟩) j j).ownBlock=some q→¬ q=b10):=fun q e h=>by have h1:=(o6h.out.ge q e).2;omega
            replace o3h:Hid (type_of% (o3h.out.below hb)):=o3h.out.below hb
            replace o6h:Hid (type_of% (o6h.out.below hb)):=o6h.out.below hb
            have st3:=st2.trans (hb.mono st2.size)
            clear hX hsX hb hb10
            obtain ⟨hlb,⟨z0,z1,z2,z3,z4⟩,f0,f1,f2,f3,f4⟩:=wr5 bxh.out
            refine Hd.After.one (i:=11) (by kernel_rfl) rfl rfl ?_
            intro K hK
            go_simp
            refine hK _ _ (fun h=>by cases h) ?_
            clear hK K
            refine Hd.After.done (by kernel_rfl) ?_ _
            have hF:=Gt.set5 X3 b10 (.slice ax j kx) (.slice ag (Gd.grs ls ps).length cg) (.slice (some ⟨g6,0,none⟩) j j) (.int .i64 1) (.int .i64 c.l2)
            go_wp2_with fail
            go_meet
            case rel=>exact ⟨b10,ag,cg,g6,rfl,Gt.wr_set5 bxh.out _ _ _ _ _,row_fr o3h.out hF n3.out,row_fr o6h.out hF n6.out,st3.trans (hF.bel (fun k e=>by omega) st3.size),hbg⟩
           ·
            intro K hK
            go_simp
            refine hK _ _ (fun _=>HSX.out _ (st1.alloc st1.size _)) ?_
            clear hK K
            (first | simp only [Act.put,List.setIfInBounds_toArray,List.set_cons_zero,List.set_cons_succ] | skip)
            obtain ⟨X2,hX,hsX,hb,bx⟩:=new1 X1 [.slice none 0 0,.slice none 0 0,.slice none 0 0,.int .i64 0,.int .i64 0] 151
            rw [hX]
            have hbg:wr.heap.size≤X1.heap.size:=st1.size
            obtain ⟨b10,hb10⟩:∃ b,X1.heap.size=b:=⟨_,rfl⟩
            rw [hb10] at bx hbg ⊢
            have bxh:Hid (type_of% bx):=bx
            clear bx
            have n3:Hid (∀ q,(Value.slice ag (Gd.grs ls ps).length cg).ownBlock=some q→¬ q=b10):=fun q e h=>by have h1:=(o3h.out.ge q e).2;omega
            replace o3h:Hid (type_of% (o3h.out.below hb)):=o3h.out.below hb
            have st2:=st1.trans (hb.mono st1.size)
            clear hX hsX hb hb10
            refine Hd.After.one (i:=6) (by kernel_rfl) rfl rfl ?_
            intro K hK
            refine wp_makeI _ _ rfl (some 117) rfl j rfl rfl (by omega) ?_
            intro g6 X3 hg6 o6 hb
            have o6h:Hid (Own X3 wr.heap.size (.slice (some ⟨g6,0,none⟩) j j) (List.replicate j 0)):=Tm.ownsRow_mono o6 st2.size
            have n6:Hid (∀ q,(Value.slice (some ⟨g6,0,none⟩) j j).ownBlock=some q→¬ q=b10):=fun q e h=>by have h1:=(o6.ge q e).1;have h2:=bxh.out.1;omega
            clear o6
            replace o3h:Hid (type_of% (o3h.out.below hb)):=o3h.out.below hb
            replace bxh:Hid (type_of% (bxh.out.below hb)):=bxh.out.below hb
            have st3:=st2.trans (hb.mono st2.size)
            clear hb
            refine hK _ _ (fun _=>HSX.out _ st3) ?_
            clear hK K
            (first | simp only [Act.put,List.setIfInBounds_toArray,List.set_cons_zero,List.set_cons_succ] | skip)
            refine Hd.After.pureD (i:=9) (some 120) (.agg #[.slice ax j kx,.slice ag (Gd.grs ls ps).length cg,.slice (some ⟨g6,0,none⟩) j j,.int .i64 1,.int .i64 c.l2]) rfl rfl (by kernel_rfl) (by decide) (by kernel_rfl) (by kernel_rfl) (fun _ _ _ h=>h) (HSX.out _ st3) (Or.inl ⟨by rfl,?_⟩) ?_
            ·
             intro X;go_simp;try with_reducible rfl
            (first | simp only [Act.put,List.setIfInBounds_toArray,List.set_cons_zero,List.set_cons_succ] | skip)
            obtain ⟨hlb,⟨z0,z1,z2,z3,z4⟩,f0,f1,f2,f3,f4⟩:=wr5 bxh.out
            refine Hd.After.one (i:=11) (by kernel_rfl) rfl rfl ?_
            intro K hK
            go_simp
            refine hK _ _ (fun h=>by cases h) ?_
            clear hK K
            refine Hd.After.done (by kernel_rfl) ?_ _
            have hF:=Gt.set5 X3 b10 (.slice ax j kx) (.slice ag (Gd.grs ls ps).length cg) (.slice (some ⟨g6,0,none⟩) j j) (.int .i64 1) (.int .i64 c.l2)
            go_wp2_with fail
            go_meet
            case rel=>exact ⟨b10,ag,cg,g6,rfl,Gt.wr_set5 bxh.out _ _ _ _ _,row_fr o3h.out hF n3.out,row_fr o6h.out hF n6.out,st3.trans (hF.bel (fun k e=>by omega) st3.size),hbg⟩
          ·
           intro K hK
           refine wp_makeI _ _ rfl (some 117) rfl j rfl rfl (by omega) ?_
           intro g6 X1 hg6 o6 hb
           have o6h:Hid (Own X1 wr.heap.size (.slice (some ⟨g6,0,none⟩) j j) (List.replicate j 0)):=Tm.ownsRow_mono o6 st0.size
           clear o6
           have st1:=st0.trans (hb.mono st0.size)
           clear hb
           refine hK _ _ (fun _=>HSX.out _ st1) ?_
           clear hK K
           (first | simp only [Act.put,List.setIfInBounds_toArray,List.set_cons_zero,List.set_cons_succ] | skip)
           refine Hd.After.two (i:=3) (j:=10) (by kernel_rfl) rfl rfl rfl rfl ?_ ?_
           ·
            intro K hK
            go_simp
            go_wp2_with (go_at_call 101;refine (HGRD.out _ st1).mono ?_;rintro e X2 ⟨v3,rfl,o3,hb⟩)
            obtain ⟨ag,cg,rfl,-⟩:=o3.isl
            have o3h:Hid (Own X2 wr.heap.size (.slice ag (Gd.grs ls ps).length cg) (Gd.grs ls ps)):=Tm.ownsRow_mono o3 st1.size
            clear o3
            replace o6h:Hid (type_of% (o6h.out.below hb)):=o6h.out.below hb
            have st2:=st1.trans (hb.mono st1.size)
            clear hb
            refine hK _ _ (fun _=>HSX.out _ st2) ?_
            clear hK K
            (first | simp only [Act.put,List.setIfInBounds_toArray,List.set_cons_zero,List.set_cons_succ] | skip)
            refine Hd.After.pureD (i:=9) (some 120) (.agg #[.slice ax j kx,.slice ag (Gd.grs ls ps).length cg,.slice (some ⟨g6,0,none⟩) j j,.int .i64 1,.int .i64 c.l2]) rfl rfl (by kernel_rfl) (by decide) (by kernel_rfl) (by kernel_rfl) (fun _ _ _ h=>h) (HSX.out _ st2) (Or.inl ⟨by rfl,?_⟩) ?_
            ·
             intro X;go_simp;try with_reducible rfl
            (first | simp only [Act.put,List.setIfInBounds_toArray,List.set_cons_zero,List.set_cons_succ] | skip)
            refine Hd.After.one (i:=10) (by kernel_rfl) rfl rfl ?_
            intro K hK
            go_simp
            refine hK _ _ (fun _=>HSX.out _ (st2.alloc st2.size _)) ?_
            clear hK K
            (first | simp only [Act.put,List.setIfInBounds_toArray,List.set_cons_zero,List.set_cons_succ] | skip)
            obtain ⟨X3,hX,hsX,hb,bx⟩:=new1 X2 [.slice none 0 0,.slice none 0 0,.slice none 0 0,.int .i64 0,.int .i64 0] 151
            rw [hX]
            have hbg:wr.heap.size≤X2.heap.size:=st2.size
            obtain ⟨b10,hb10⟩:∃ b,X2.heap.size=b:=⟨_,rfl⟩
            rw [hb10] at bx hbg ⊢
            have bxh:Hid (type_of% bx):=bx
            clear bx
            have n3:Hid (∀ q,(Value.slice ag (Gd.grs ls ps).length cg).ownBlock=some q→¬ q=b10):=fun q e h=>by have h1:=(o3h.out.ge q e).2;omega
            have n6:Hid (∀ q,(Value.slice (some ⟨g6,0,none⟩) j j).ownBlock=some q→¬ q=b10):=fun q e h=>by have h1:=(o6h.out.ge q e).2;omega
            replace o3h:Hid (type_of% (o3h.out.below hb)):=o3h.out.below hb
            replace o6h:Hid (type_of% (o6h.out.below hb)):=o6h.out.below hb
            have st3:=st2.trans (hb.mono st2.size)
            clear hX hsX hb hb10
            obtain ⟨hlb,⟨z0,z1,z2,z3,z4⟩,f0,f1,f2,f3,f4⟩:=wr5 bxh.out
            refine Hd.After.one (i:=11) (by kernel_rfl) rfl rfl ?_
            intro K hK
            go_simp
            refine hK _ _ (fun h=>by cases h) ?_
            clear hK K
            refine Hd.After.done (by kernel_rfl) ?_ _
            have hF:=Gt.set5 X3 b10 (.slice ax j kx) (.slice ag (Gd.grs ls ps).length cg) (.slice (some ⟨g6,0,none⟩) j j) (.int .i64 1) (.int .i64 c.l2)
            go_wp2_with fail
            go_meet
            case rel=>exact ⟨b10,ag,cg,g6,rfl,Gt.wr_set5 bxh.out _ _ _ _ _,row_fr o3h.out hF n3.out,row_fr o6h.out hF n6.out,st3.trans (hF.bel (fun k e=>by omega) st3.size),hbg⟩
           ·
            intro K hK
            go_simp
            refine hK _ _ (fun _=>HSX.out _ (st1.alloc st1.size _)) ?_
            clear hK K
            (first | simp only [Act.put,List.setIfInBounds_toArray,List.set_cons_zero,List.set_cons_succ] | skip)
            obtain ⟨X2,hX,hsX,hb,bx⟩:=new1 X1 [.slice none 0 0,.slice none 0 0,.slice none 0 0,.int .i64 0,.int .i64 0] 151
            rw [hX]
            have hbg:wr.heap.size≤X1.heap.size:=st1.size
            obtain ⟨b10,hb10⟩:∃ b,X1.heap.size=b:=⟨_,rfl⟩
            rw [hb10] at bx hbg ⊢
            have bxh:Hid (type_of% bx):=bx
            clear bx
            have n6:Hid (∀ q,(Value.slice (some ⟨g6,0,none⟩) j j).ownBlock=some q→¬ q=b10):=fun q e h=>by have h1:=(o6h.out.ge q e).2;omega
            replace o6h:Hid (type_of% (o6h.out.below hb)):=o6h.out.below hb
            have st2:=st1.trans (hb.mono st1.size)
            clear hX hsX hb hb10
            refine Hd.After.one (i:=3) (by kernel_rfl) rfl rfl ?_
            intro K hK
            go_simp
            go_wp2_with (go_at_call 101;refine (HGRD.out _ st2).mono ?_;rintro e X3 ⟨v3,rfl,o3,hb⟩)
            obtain ⟨ag,cg,rfl,-⟩:=o3.isl
            have o3h:Hid (Own X3 wr.heap.size (.slice ag (Gd.grs ls ps).length cg) (Gd.grs ls ps)):=Tm.ownsRow_mono o3 st2.size
            have n3:Hid (∀ q,(Value.slice ag (Gd.grs ls ps).length cg).ownBlock=some q→¬ q=b10):=fun q e h=>by have h1:=(o3.ge q e).1;have h2:=bxh.out.1;omega
            clear o3
            replace o6h:Hid (type_of% (o6h.out.below hb)):=o6h.out.below hb
            replace bxh:Hid (type_of% (bxh.out.below hb)):=bxh.out.below hb
            have st3:=st2.trans (hb.mono st2.size)
            clear hb
            refine hK _ _ (fun _=>HSX.out _ st3) ?_
            clear hK K
            (first | simp only [Act.put,List.setIfInBounds_toArray,List.set_cons_zero,List.set_cons_succ] | skip)
            refine Hd.After.pureD (i:=9) (some 120) (.agg #[.slice ax j kx,.slice ag (Gd.grs ls ps).length cg,.slice (some ⟨g6,0,none⟩) j j,.int .i64 1,.int .i64 c.l2]) rfl rfl (by kernel_rfl) (by decide) (by kernel_rfl) (by kernel_rfl) (fun _ _ _ h=>h) (HSX.out _ st3) (Or.inl ⟨by rfl,?_⟩) ?_
            ·
             intro X;go_simp;try with_reducible rfl
            (first | simp only [Act.put,List.setIfInBounds_toArray,List.set_cons_zero,List.set_cons_succ] | skip)
            obtain ⟨hlb,⟨z0,z1,z2,z3,z4⟩,f0,f1,f2,f3,f4⟩:=wr5 bxh.out
            refine Hd.After.one (i:=11) (by kernel_rfl) rfl rfl ?_
            intro K hK
            go_simp
            refine hK _ _ (fun h=>by cases h) ?_
            clear hK K
            refine Hd.After.done (by kernel_rfl) ?_ _
            have hF:=Gt.set5 X3 b10 (.slice ax j kx) (.slice ag (Gd.grs ls ps).length cg) (.slice (some ⟨g6,0,none⟩) j j) (.int .i64 1) (.int .i64 c.l2)
            go_wp2_with fail
            go_meet
            case rel=>exact ⟨b10,ag,cg,g6,rfl,Gt.wr_set5 bxh.out _ _ _ _ _,row_fr o3h.out hF n3.out,row_fr o6h.out hF n6.out,st3.trans (hF.bel (fun k e=>by omega) st3.size),hbg⟩
          ·
           intro K hK
           go_simp
           refine hK _ _ (fun _=>HSX.out _ (st0.alloc st0.size _)) ?_
           clear hK K
           (first | simp only [Act.put,List.setIfInBounds_toArray,List.set_cons_zero,List.set_cons_succ] | skip)
           obtain ⟨X1,hX,hsX,hb,bx⟩:=new1 w0 [.slice none 0 0,.slice none 0 0,.slice none 0 0,.int .i64 0,.int .i64 0] 151
           rw [hX]
           have hbg:wr.heap.size≤w0.heap.size:=st0.size
           obtain ⟨b10,hb10⟩:∃ b,w0.heap.size=b:=⟨_,rfl⟩
           rw [hb10] at bx hbg ⊢
           have bxh:Hid (type_of% bx):=bx
           clear bx
           have st1:=st0.trans (hb.mono st0.size)
           clear hX hsX hb hb10
           refine Hd.After.two (i:=3) (j:=6) (by kernel_rfl) rfl rfl rfl rfl ?_ ?_
           ·
            intro K hK
            go_simp
            go_wp2_with (go_at_call 101;refine (HGRD.out _ st1).mono ?_;rintro e X2 ⟨v3,rfl,o3,hb⟩)
            obtain ⟨ag,cg,rfl,-⟩:=o3.isl
            have o3h:Hid (Own X2 wr.heap.size (.slice ag (Gd.grs ls ps).length cg) (Gd.grs ls ps)):=Tm.ownsRow_mono o3 st1.size
            have n3:Hid (∀ q,(Value.slice ag (Gd.grs ls ps).length cg).ownBlock=some q→¬ q=b10):=fun q e h=>by have h1:=(o3.ge q e).1;have h2:=bxh.out.1;omega
            clear o3
            replace bxh:Hid (type_of% (bxh.out.below hb)):=bxh.out.below hb
            have st2:=st1.trans (hb.mono st1.size)
            clear hb
            refine hK _ _ (fun _=>HSX.out _ st2) ?_
            clear hK K
            (first | simp only [Act.put,List.setIfInBounds_toArray,List.set_cons_zero,List.set_cons_succ] | skip)
            refine Hd.After.one (i:=6) (by kernel_rfl) rfl rfl ?_
            intro K hK
            refine wp_makeI _ _ rfl (some 117) rfl j rfl rfl (by omega) ?_
            intro g6 X3 hg6 o6 hb
            have o6h:Hid (Own X3 wr.heap.size (.slice (some ⟨g6,0,none⟩) j j) (List.replicate j 0)):=Tm.ownsRow_mono o6 st2.size
            have n6:Hid (∀ q,(Value.slice (some ⟨g6,0,none⟩) j j).ownBlock=some q→¬ q=b10):=fun q e h=>by have h1:=(o6.ge q e).1;have h2:=bxh.out.1;omega
            clear o6
            replace o3h:Hid (type_of% (o3h.out.below hb)):=o3h.out.below hb
            replace bxh:Hid (type_of% (bxh.out.below hb)):=bxh.out.below hb
            have st3:=st2.trans (hb.mono st2.size)
            clear hb
            refine hK _ _ (fun _=>HSX.out _ st3) ?_
            clear hK K
            (first | simp only [Act.put,List.setIfInBounds_toArray,List.set_cons_zero,List.set_cons_succ] | skip)
            refine Hd.After.pureD (i:=9) (some 120) (.agg #[.slice ax j kx,.slice ag (Gd.grs ls ps).length cg,.slice (some ⟨g6,0,none⟩) j j,.int .i64 1,.int .i64 c.l2]) rfl rfl (by kernel_rfl) (by decide) (by kernel_rfl) (by kernel_rfl) (fun _ _ _ h=>h) (HSX.out _ st3) (Or.inl ⟨by rfl,?_⟩) ?_
            ·
             intro X;go_simp;try with_reducible rfl
            (first | simp only [Act.put,List.setIfInBounds_toArray,List.set_cons_zero,List.set_cons_succ] | skip)
            obtain ⟨hlb,⟨z0,z1,z2,z3,z4⟩,f0,f1,f2,f3,f4⟩:=wr5 bxh.out
            refine Hd.After.one (i:=11) (by kernel_rfl) rfl rfl ?_
            intro K hK
            go_simp
            refine hK _ _ (fun h=>by cases h) ?_
            clear hK K
            refine Hd.After.done (by kernel_rfl) ?_ _
            have hF:=Gt.set5 X3 b10 (.slice ax j kx) (.slice ag (Gd.grs ls ps).length cg) (.slice (some ⟨g6,0,none⟩) j j) (.int .i64 1) (.int .i64 c.l2)
            go_wp2_with fail
            go_meet
            case rel=>exact ⟨b10,ag,cg,g6,rfl,Gt.wr_set5 bxh.out _ _ _ _ _,row_fr o3h.out hF n3.out,row_fr o6h.out hF n6.out,st3.trans (hF.bel (fun k e=>by omega) st3.size),hbg⟩
           ·
            intro K hK
            refine wp_makeI _ _ rfl (some 117) rfl j rfl rfl (by omega) ?_
            intro g6 X2 hg6 o6 hb
            have o6h:Hid (Own X2 wr.heap.size (.slice (some ⟨g6,0,none⟩) j j) (List.replicate j 0)):=Tm.ownsRow_mono o6 st1.size
            have n6:Hid (∀ q,(Value.slice (some ⟨g6,0,none⟩) j j).ownBlock=some q→¬ q=b10):=fun q e h=>by have h1:=(o6.ge q e).1;have h2:=bxh.out.1;omega
            clear o6
            replace bxh:Hid (type_of% (bxh.out.below hb)):=bxh.out.below hb
            have st2:=st1.trans (hb.mono st1.size)
            clear hb
            refine hK _ _ (fun _=>HSX.out _ st2) ?_
            clear hK K
            (first | simp only [Act.put,List.setIfInBounds_toArray,List.set_cons_zero,List.set_cons_succ] | skip)
            refine Hd.After.one (i:=3) (by kernel_rfl) rfl rfl ?_
            intro K hK
            go_simp
            go_wp2_with (go_at_call 101;refine (HGRD.out _ st2).mono ?_;rintro e X3 ⟨v3,rfl,o3,hb⟩)
            obtain ⟨ag,cg,rfl,-⟩:=o3.isl
            have o3h:Hid (Own X3 wr.heap.size (.slice ag (Gd.grs ls ps).length cg) (Gd.grs ls ps)):=Tm.ownsRow_mono o3 st2.size
            have n3:Hid (∀ q,(Value.slice ag (Gd.grs ls ps).length cg).ownBlock=some q→¬ q=b10):=fun q e h=>by have h1:=(o3.ge q e).1;have h2:=bxh.out.1;omega
            clear o3
            replace o6h:Hid (type_of% (o6h.out.below hb)):=o6h.out.below hb
            replace bxh:Hid (type_of% (bxh.out.below hb)):=bxh.out.below hb
            have st3:=st2.trans (hb.mono st2.size)
            clear hb
            refine hK _ _ (fun _=>HSX.out _ st3) ?_
            clear hK K
            (first | simp only [Act.put,List.setIfInBounds_toArray,List.set_cons_zero,List.set_cons_succ] | skip)
            refine Hd.After.pureD (i:=9) (some 120) (.agg #[.slice ax j kx,.slice ag (Gd.grs ls ps).length cg,.slice (some ⟨g6,0,none⟩) j j,.int .i64 1,.int .i64 c.l2]) rfl rfl (by kernel_rfl) (by decide) (by kernel_rfl) (by kernel_rfl) (fun _ _ _ h=>h) (HSX.out _ st3) (Or.inl ⟨by rfl,?_⟩) ?_
            ·
             intro X;go_simp;try with_reducible rfl
            (first | simp only [Act.put,List.setIfInBounds_toArray,List.set_cons_zero,List.set_cons_succ] | skip)
            obtain ⟨hlb,⟨z0,z1,z2,z3,z4⟩,f0,f1,f2,f3,f4⟩:=wr5 bxh.out
            refine Hd.After.one (i:=11) (by kernel_rfl) rfl rfl ?_
            intro K hK
            go_simp
            refine hK _ _ (fun h=>by cases h) ?_
            clear hK K
            refine Hd.After.done (by kernel_rfl) ?_ _
            have hF:=Gt.set5 X3 b10 (.slice ax j kx) (.slice ag (Gd.grs ls ps).length cg) (.slice (some ⟨g6,0,none⟩) j j) (.int .i64 1) (.int .i64 c.l2)
            go_wp2_with fail
            go_meet
            case rel=>exact ⟨b10,ag,cg,g6,rfl,Gt.wr_set5 bxh.out _ _ _ _ _,row_fr o3h.out hF n3.out,row_fr o6h.out hF n6.out,st3.trans (hF.bel (fun k e=>by omega) st3.size),hbg⟩
         case rest =>
          obtain ⟨bo,ag,cg,g6,rfl,hbx,o3,o6,hst,hbo⟩:=hcut
          obtain ⟨G,hG⟩:∃ G,(Gd.grs ls ps).length=G:=⟨_,rfl⟩
          have HG:Hid ((Gd.grs ls ps).length=G):=hG
          rw [hG] at hbx o3
          have HST:Hid (Below wr.heap.size wr wc):=hst
          have hs8:wr.heap.size≤wc.heap.size:=hst.size
          have HO3:Hid (type_of% o3):=o3
          have HO6:Hid (type_of% o6):=o6
          obtain ⟨hlb,⟨z0,z1,z2,z3,z4⟩,-⟩:=wr5 hbx
          obtain ⟨hlc8,-,d1,-,d3,-⟩:=wr7 (HBCk.out.below hst)
          obtain ⟨t,ht⟩:∃ t,nextT x ls c ps=t:=⟨_,rfl⟩
          have HTT:Hid (nextT x ls c ps=t):=ht
          obtain ⟨gb,hgb⟩:∃ b,(Gt.grow (rowsOf x ls ps c.l2) (bors x c.most 6) c.depth c.rate).2=b:=⟨_,rfl⟩
          have HGB:Hid (type_of% hgb):=hgb
          have HGW:Hid (Calls Tryz.prog 102 #[.agg #[.slice ax j kx,.slice ag G cg,.slice (some ⟨g6,0,none⟩) j j,.int .i64 1,.int .i64 c.l2],.slice av (bors x c.most 6).length cv,.agg #[.int .i64 c.depth,.int .i64 c.rate]] wc fun e w'=>∃ v0 v1,e=.returned (.tuple #[.agg #[v0,v1],.bool gb])∧OwnP w' wc.heap.size v0 t.sp∧Own w' wc.heap.size v1 t.lv∧(∀ k,v0.ownBlock=some k→v1.ownBlock≠some k)∧Below wc.heap.size wc w'):=by
           have i3:IsL wc ag (Gd.grs ls ps):=by
            obtain ⟨_,_,e3,i3⟩:=HO3.out.isl
            injection e3 with e3
            subst e3
            exact i3
           have i6:IsL wc (some ⟨g6,0,none⟩) (List.replicate x.length 0):=by
            obtain ⟨_,_,e6,i6⟩:=HO6.out.isl
            injection e6 with e6
            subst e6
            rw [HN.out]
            exact i6
           have hwc:Below w.heap.size w wc:=by
            have h1:=HBW.out.trans (HBK.out.mono HBW.out.size)
            exact h1.trans (HST.out.mono h1.size)
           have hv6:IsV wc av (bors x c.most 6):=by
            obtain ⟨_,_,e7,i7⟩:=HVV.out.isv
            injection e7 with e7
            subst e7
            exact (i7.below HBK.out).below HST.out
           have h:=Gt.sgrow wc ax ag (some ⟨g6,0,none⟩) av kx cg j cv (rowsOf x ls ps c.l2) (bors x c.most 6) c.depth c.rate ⟨HXV.out.below hwc,i3,i6⟩ hv6 (fun y hy=>by simp only [bors,List.mem_map] at hy;obtain ⟨f,_,rfl⟩:=hy;have:=Bo.bor_len12 (col x f) c.most;omega)
           have e1:(rowsOf x ls ps c.l2).x.length=j:=HN.out
           have e2:(rowsOf x ls ps c.l2).g.length=G:=HG.out
           have e3:(rowsOf x ls ps c.l2).ids.length=j:=by show (List.replicate x.length 0).length=j;rw [List.length_replicate,HN.out]
           have e4:(Gt.grow (rowsOf x ls ps c.l2) (bors x c.most 6) c.depth c.rate).1=t:=HTT.out
           rw [e1,e2,e3,e4,HGB.out] at h
           exact h
          have HQC:Hid (Q2≤wc.heap.size):=by show _≤_;omega
          obtain ⟨at_,ct_,rfl,-⟩:=HOTk.out.ist
          obtain ⟨nt,hnt⟩:∃ n,(boost x ls c k).1.length=n:=⟨_,rfl⟩
          have HNT:Hid ((boost x ls c k).1.length=nt):=hnt
          rw [hnt] at HOTk ⊢
          clear hbx o3 o6 hst hG ht hgb hnt
          go_wp2_with (first | (go_at_call 102;refine HGW.out.mono ?_;rintro e w7 ⟨v0,v1,rfl,p0,p1,hsep,hb7⟩;obtain ⟨a0,c0,rfl,-,-⟩:=p0.isp;obtain ⟨a1,c1,rfl,-⟩:=p1.isl;have HP0:Hid (type_of% p0):=p0;have HP1:Hid (type_of% p1):=p1;have HSP:Hid (type_of% hsep):=hsep;have HB7:Hid (Below wc.heap.size wc w7):=hb7;have HAA:Hid (Below w7.heap.size w7 ((w7.alloc (.cells #[.slice a0 t.sp.length c0,.slice a1 t.lv.length c1] 56)).alloc (.cells #[.slice a0 t.sp.length c0,.slice a1 t.lv.length c1] 56))):=((Below.refl _ _).alloc (Nat.le_refl _) _).alloc (by simp) _;have HOB:Hid (OwT ((w7.alloc (.cells #[.slice a0 t.sp.length c0,.slice a1 t.lv.length c1] 56)).alloc (.cells #[.slice a0 t.sp.length c0,.slice a1 t.lv.length c1] 56)) (fun y=>Q2≤y∧y<wc.heap.size) (.slice at_ nt ct_) (boost x ls c k).1):=(((HOTk.out.bound.mono (fun y hy=>⟨hy.1,Nat.lt_of_lt_of_le hy.2 HST.out.size⟩)).below HST.out).below HB7.out).below HAA.out;clear p0 p1 hsep hb7) | (at_builtin;refine wpl_pushT rfl _ _ rfl (fun y=>Q2≤y) wc.heap.size _ (boost x ls c k).1 HOB.out (w7.heap.size+1) a0 a1 c0 c1 _ _ t rfl rfl (by simp) (by simp) (HP0.out.below HAA.out) (HP1.out.below HAA.out) HSP.out (fun y hy=>Nat.le_trans HQC.out hy) (Nat.le_trans HB7.out.size HAA.out.size) (by rw [boost_trees];omega) ?_;intro a9 c9 w9 hok9 hg9;have HOK9:Hid (type_of% hok9):=hok9;have HG9:Hid (type_of% hg9):=hg9;rw [HNT.out] at HOK9 ⊢;clear hok9 hg9))
          have HF9:Hid (Fr (fun q=>(Value.slice at_ nt ct_).ownBlock=some q) ((w7.alloc (.cells #[.slice a0 t.sp.length c0,.slice a1 t.lv.length c1] 56)).alloc (.cells #[.slice a0 t.sp.length c0,.slice a1 t.lv.length c1] 56)) w9):=⟨HG9.out.os,HG9.out.tape,HG9.out.output,HG9.out.size,fun q hq hn=>HG9.out.block q hq (fun e=>hn e.symm)⟩
          have HLO:Hid (∀ q,(Value.slice at_ nt ct_).ownBlock=some q→Q2≤q∧q<wr.heap.size):=fun q e=>by obtain ⟨_,h1,_,_,h2,_⟩:=HOTk.out;exact ⟨h2 q e,(World.ownsRow.lt h1 q e).2⟩
          have HBT:Hid (Wr w9 w7.heap.size 0 [.slice a0 t.sp.length c0,.slice a1 t.lv.length c1]):=by
           have h1:Wr (w7.alloc (.cells #[.slice a0 t.sp.length c0,.slice a1 t.lv.length c1] 56)) w7.heap.size 0 [.slice a0 t.sp.length c0,.slice a1 t.lv.length c1]:=wr_new _ _ _
           exact Gt.wr_frP (h1.alloc _) HF9.out (fun e=>by have h2:=(HLO.out _ e).2;have h3:=HB7.out.size;omega)
          have HPP:Hid (OwnP w9 wc.heap.size (.slice a0 t.sp.length c0) t.sp):=row_fr (HP0.out.below HAA.out) HF9.out (fun q e e2=>by have h2:=(HLO.out _ e2).2;have h3:=(HP0.out.ge q e).1;omega)
          have HPL1:Hid (Own w9 wc.heap.size (.slice a1 t.lv.length c1) t.lv):=row_fr (HP1.out.below HAA.out) HF9.out (fun q e e2=>by have h2:=(HLO.out _ e2).2;have h3:=(HP1.out.ge q e).1;omega)
          have HOP9:Hid (Own w9 wq.heap.size (.slice ay j cy) ps):=row_fr (((HOP.out.below HST.out).below HB7.out).below HAA.out) HF9.out (fun q e e2=>by have h2:=(HLO.out _ e2).1;have h3:=HPB.out q e;omega)
          have hs9:wc.heap.size≤w9.heap.size:=by have h1:=HF9.out.size;have h2:=HAA.out.size;have h3:=HB7.out.size;omega
          have hs79:w7.heap.size<w9.heap.size:=HBT.out.1
          have HB9:Hid (Below wq.heap.size wq w9):=by
           have h1:=HBK.out.trans (HST.out.mono HBK.out.size)
           have h2:=h1.trans (HB7.out.mono h1.size)
           have h3:=h2.trans (HAA.out.mono h2.size)
           exact h3.trans (HF9.out.bel (fun q e=>by have:=(HLO.out q e).1;omega) h3.size)
          have HP00:Hid (nextP x t ps 0=ps):=nextP_zero x t ps
          have HTZ:Hid (t.sp.length≤4∧t.lv.length≤16):=by have h:=nextT_sz x ls c ps;rw [HTT.out] at h;exact h
          obtain ⟨BT,hBT⟩:∃ b,w7.heap.size=b:=⟨_,rfl⟩
          have HBT2:Hid (Q2≤BT):=by show _≤_;have h1:=HQC.out;have h2:=HB7.out.size;omega
          rw [hBT] at HBT hs79 ⊢
          clear HG9 HF9 HAA HOB HP0 HP1 HSP HGW hBT z0 z1 z2 z3 z4 d1 d3 hlb hlc8 q0 q1 q2 q3 q4 q5 q6
          go_loopw [22] (fun i wr'=>∃ q:Nat,q≤j∧i=.int .i64 q∧Own wr' wq.heap.size (.slice ay j cy) (nextP x t ps q)∧Fr (fun y=>(Value.slice ay j cy).ownBlock=some y) w9 wr') (fun i _=>j-(intOf i).toNat)
          case atStart=>exact ⟨0,Nat.zero_le _,rfl,by rw [HP00.out];exact HOP9.out,Fr.refl _ _⟩
          case round =>
           obtain ⟨q,hq,rfl,hoq,hfq⟩:=hrel
           have HOQ:Hid (type_of% hoq):=hoq
           have HFQ:Hid (type_of% hfq):=hfq
           have hsq9:w9.heap.size≤wr.heap.size:=hfq.size
           clear hoq hfq HOP9
           by_cases hqj:q<j
           ·
            have hqi:(q:Int)<j:=by omega
            have HGE:Hid (∀ y,(Value.slice ay j cy).ownBlock=some y→wq.heap.size≤y∧y<Q2):=fun y e=>⟨(HOQ.out.ge y e).1,HPB.out y e⟩
            have HBQ:Hid (Below w.heap.size w wr):=by
             have h1:=HBW.out.trans (HB9.out.mono HBW.out.size)
             exact h1.trans (HFQ.out.bel (fun y e=>by have h2:=(HGE.out y e).1;have h3:=HBW.out.size;omega) h1.size)
            have hqx:q<x.length:=by rw [HN.out];exact hqj
            obtain ⟨xb,xo,ay1,cy1,hxa,hxb,hcell,hil⟩:=isv_at (HXV.out.below HBQ.out) hqx
            subst hxa
            obtain ⟨y,hy⟩:∃ y,x.getD q []=y:=⟨_,rfl⟩
            have HY:Hid (x.getD q []=y):=hy
            rw [hy] at hcell hil
            obtain ⟨yn,hyn⟩:∃ n,y.length=n:=⟨_,rfl⟩
            have HYN:Hid (y.length=yn):=hyn
            rw [hyn] at hcell
            have HIL:Hid (IsL wr ay1 y):=hil
            have hynl:yn≤1048576:=by rw [← hyn,← hy];exact HVL.out _ (Gt.getD_mem hqx)
            have HXW:Hid (xb<w.heap.size):=by
             rcases HXV.out with h0 | ⟨b2,o2,e2,h2,_⟩
             ·
              rw [h0] at hqx;simp at hqx
             ·
              cases e2;exact h2
            have hqp:q<(nextP x t ps q).length:=by rw [nextP_length,HPL.out];exact hqj
            have hqs:q<ps.length:=by rw [HPL.out];exact hqj
            rcases HOQ.out.2 with ⟨e0,h0⟩ | ⟨gp,cap,cur,e0,-⟩
            ·
             exfalso;omega
            injection e0 with e1 e2 e3
            subst e1
            clear e2 e3
            have HNL:Hid ((nextP x t ps q).length=j):=by show _=_;rw [nextP_length,HPL.out]
            have pc:=HOQ.out.cell HNL.out q hqp
            have pf:=HOQ.out.frozen HNL.out q
            rw [nextP_get x t ps q hqs hqp] at pc
            obtain ⟨p,hp⟩:∃ p,ps[q]=p:=⟨_,rfl⟩
            have HPQ:Hid (ps[q]=p):=hp
            rw [hp] at pc
            obtain ⟨ev,hev⟩:∃ v,Tr.eval t y=v:=⟨_,rfl⟩
            have HEV:Hid (Tr.eval t y=ev):=hev
            have hgq:=(HGE.out gp rfl)
            have hgl:gp<wr.heap.size:=(HOQ.out.ge gp rfl).2
            have HBTq:Hid (Wr wr BT 0 [.slice a0 t.sp.length c0,.slice a1 t.lv.length c1]):=Gt.wr_frP HBT.out HFQ.out (fun e=>by have h1:=(HGE.out _ e).2;have h2:=HBT2.out;omega)
            obtain ⟨hlb,⟨b0,b1⟩,-⟩:=wr2 HBTq.out
            have HSV:Hid (∀ X,Below wr.heap.size wr X→Calls Tryz.prog 104 #[.agg #[.slice a0 t.sp.length c0,.slice a1 t.lv.length c1],.slice ay1 yn cy1] X fun e w'=>e=.returned (.int .i64 ev)∧Below X.heap.size X w'):=fun X hX=>by
             have hn:∀ k,(fun y=>(Value.slice (some ⟨gp,0,none⟩) j cy).ownBlock=some y) k→¬ wc.heap.size≤k:=fun k e h=>by have h1:=(HGE.out _ e).2;have h2:=HQC.out;omega
             have o0:=row_below (row_fr HPP.out HFQ.out (fun k e e2=>hn k e2 (HPP.out.ge k e).1)) hX
             have o1:=row_below (row_fr HPL1.out HFQ.out (fun k e e2=>hn k e2 (HPL1.out.ge k e).1)) hX
             obtain ⟨_,_,e0,-,i0⟩:=OwnP.isp o0
             obtain ⟨_,_,e1,i1⟩:=Own.isl o1
             injection e0 with e0
             injection e1 with e1
             subst e0 e1
             have h:=Tw.seval X _ _ ay1 c0 c1 cy1 t y i0 i1 (HIL.out.below hX) (by have:=HTZ.out;omega) (by rw [HYN.out];omega)
             rw [HYN.out,HEV.out] at h
             exact h
            have HSX:Hid (∀ X:World,Below wr.heap.size wr X→X.cell? ⟨gp,q,none⟩=some (.int .i64 p)∧X.cell? ⟨BT,0,none⟩=some (.slice a0 t.sp.length c0)∧X.cell? ⟨BT,1,none⟩=some (.slice a1 t.lv.length c1)∧X.cell? ⟨xb,xo+q,none⟩=some (.slice ay1 yn cy1)):=fun X hX=>⟨(hX.cell (by exact hgl)).trans pc,(hX.cell (by exact hlb)).trans b0,(hX.cell (by exact hlb)).trans b1,(hX.cell (by exact hxb)).trans hcell⟩
            have hgb:¬ gp=BT:=by have h2:=HBT2.out;have:=hgq.2;omega
            have hgx:¬ gp=xb:=by have:=HXW.out;have:=HBW.out.size;omega
            clear hy hyn hil hp hev pc b0 b1 hcell
            go_wp2_with fail
            have st0:Below wr.heap.size wr wr.drew:=Tm.below_drew wr
            have C0:=HSX.out _ st0
            have hz0:wr.heap.size≤wr.drew.heap.size:=st0.size
            refine Hd.start (fun X=>X.cell? ⟨gp,q,none⟩=some (.int .i64 p)∧X.cell? ⟨BT,0,none⟩=some (.slice a0 t.sp.length c0)∧X.cell? ⟨BT,1,none⟩=some (.slice a1 t.lv.length c1)∧X.cell? ⟨xb,xo+q,none⟩=some (.slice ay1 yn cy1)) 15 (by kernel_rfl) ?_
            generalize wr.drew=w0 at st0 C0 hz0 ⊢
            refine Hd.After.pureD (i:=0) (some 142) (.slice (some ⟨gp,0,none⟩) j cy) rfl rfl (by kernel_rfl) (by decide) (by kernel_rfl) (by kernel_rfl) (fun _ _ _ h=>h) (C0) (Or.inl ⟨by rfl,?_⟩) ?_
            ·
             intro X;go_simp;try with_reducible rfl
            (first | simp only [Act.put,List.setIfInBounds_toArray,List.set_cons_zero,List.set_cons_succ] | skip)
            refine Hd.After.pureD (i:=1) (some 143) (.int .i64 q) rfl rfl (by kernel_rfl) (by decide) (by kernel_rfl) (by kernel_rfl) (fun _ _ _ h=>h) (C0) (Or.inl ⟨by rfl,?_⟩) ?_
            ·
             intro X;go_simp;try with_reducible rfl
            (first | simp only [Act.put,List.setIfInBounds_toArray,List.set_cons_zero,List.set_cons_succ] | skip)
            refine Hd.After.pureD (i:=2) (some 144) (.slice (some ⟨gp,0,none⟩) j cy) rfl rfl (by kernel_rfl) (by decide) (by kernel_rfl) (by kernel_rfl) (fun _ _ _ h=>h) (C0) (Or.inl ⟨by rfl,?_⟩) ?_
            ·
             intro X;go_simp;try with_reducible rfl
            (first | simp only [Act.put,List.setIfInBounds_toArray,List.set_cons_zero,List.set_cons_succ] | skip)
            refine Hd.After.pureD (i:=3) (some 145) (.int .i64 q) rfl rfl (by kernel_rfl) (by decide) (by kernel_rfl) (by kernel_rfl) (fun _ _ _ h=>h) (C0) (Or.inl ⟨by rfl,?_⟩) ?_
            ·
             intro X;go_simp;try with_reducible rfl
            (first | simp only [Act.put,List.setIfInBounds_toArray,List.set_cons_zero,List.set_cons_succ] | skip)
            refine Hd.After.pureD (i:=4) (some 146) (.pointer (some ⟨gp,q,none⟩)) rfl rfl (by kernel_rfl) (by decide) (by kernel_rfl) (by kernel_rfl) (fun _ _ _ h=>h) (C0) (Or.inl ⟨by rfl,?_⟩) ?_
            ·
             intro X;go_simp;try with_reducible rfl
            (first | simp only [Act.put,List.setIfInBounds_toArray,List.set_cons_zero,List.set_cons_succ] | skip)
            refine Hd.After.takeD (i:=5) (some 147) (.int .i64 p) rfl rfl (by kernel_rfl) (by kernel_rfl) (by kernel_rfl) (by kernel_rfl) (by kernel_rfl) (fun _ _ _ h=>h) (C0) (Or.inl ⟨by rfl,?_⟩) ?_
            ·
             rintro X ⟨s0,s1,s2,s3⟩;go_simp;try with_reducible rfl
            (first | simp only [Act.put,List.setIfInBounds_toArray,List.set_cons_zero,List.set_cons_succ] | skip)
            refine Hd.After.takeD (i:=6) (some 148) (.agg #[.slice a0 t.sp.length c0,.slice a1 t.lv.length c1]) rfl rfl (by kernel_rfl) (by kernel_rfl) (by kernel_rfl) (by kernel_rfl) (by kernel_rfl) (fun _ _ _ h=>h) (C0) (Or.inl ⟨by rfl,?_⟩) ?_
            ·
             rintro X ⟨s0,s1,s2,s3⟩;go_simp;try with_reducible rfl
            (first | simp only [Act.put,List.setIfInBounds_toArray,List.set_cons_zero,List.set_cons_succ] | skip)
            refine Hd.After.pureD (i:=7) (some 149) (.slice (some ⟨xb,xo,none⟩) j kx) rfl rfl (by kernel_rfl) (by decide) (by kernel_rfl) (by kernel_rfl) (fun _ _ _ h=>h) (C0) (Or.inl ⟨by rfl,?_⟩) ?_
            ·
             intro X;go_simp;try with_reducible rfl
            (first | simp only [Act.put,List.setIfInBounds_toArray,List.set_cons_zero,List.set_cons_succ] | skip)
            refine Hd.After.pureD (i:=8) (some 150) (.int .i64 q) rfl rfl (by kernel_rfl) (by decide) (by kernel_rfl) (by kernel_rfl) (fun _ _ _ h=>h) (C0) (Or.inl ⟨by rfl,?_⟩) ?_
            ·
             intro X;go_simp;try with_reducible rfl
            (first | simp only [Act.put,List.setIfInBounds_toArray,List.set_cons_zero,List.set_cons_succ] | skip)
            refine Hd.After.pureD (i:=9) (some 151) (.pointer (some ⟨xb,xo+q,none⟩)) rfl rfl (by kernel_rfl) (by decide) (by kernel_rfl) (by kernel_rfl) (fun _ _ _ h=>h) (C0) (Or.inl ⟨by rfl,?_⟩) ?_
            ·
             intro X;go_simp;try with_reducible rfl
            (first | simp only [Act.put,List.setIfInBounds_toArray,List.set_cons_zero,List.set_cons_succ] | skip)
            refine Hd.After.pureD (i:=10) (some 152) (.pointer (some ⟨xb,xo+q,none⟩)) rfl rfl (by kernel_rfl) (by decide) (by kernel_rfl) (by kernel_rfl) (fun _ _ _ h=>h) (C0) (Or.inl ⟨by rfl,?_⟩) ?_
            ·
             intro X;go_simp;try with_reducible rfl
            (first | simp only [Act.put,List.setIfInBounds_toArray,List.set_cons_zero,List.set_cons_succ] | skip)
            refine Hd.After.takeD (i:=11) (some 153) (.slice ay1 yn cy1) rfl rfl (by kernel_rfl) (by kernel_rfl) (by kernel_rfl) (by kernel_rfl) (by kernel_rfl) (fun _ _ _ h=>h) (C0) (Or.inl ⟨by rfl,?_⟩) ?_
            ·
             rintro X ⟨s0,s1,s2,s3⟩;go_simp;try with_reducible rfl
            (first | simp only [Act.put,List.setIfInBounds_toArray,List.set_cons_zero,List.set_cons_succ] | skip)
            refine Hd.After.one (i:=12) (by kernel_rfl) rfl rfl ?_
            intro K hK
            go_simp
            go_wp2_with (go_at_call 104;refine (HSV.out _ st0).mono ?_;rintro e X1 ⟨rfl,hb⟩)
            have st1:=st0.trans (hb.mono st0.size)
            have hz1:wr.heap.size≤X1.heap.size:=st1.size
            clear hb
            refine hK _ _ (fun _=>HSX.out _ st1) ?_
            clear hK K
            (first | simp only [Act.put,List.setIfInBounds_toArray,List.set_cons_zero,List.set_cons_succ] | skip)
            refine Hd.After.one (i:=13) (by kernel_rfl) rfl rfl ?_
            intro K hK
            go_simp
            go_wp2_with (go_at_call 103;refine (Ad.sadd_any _ _ _).mono ?_;rintro e w' ⟨rfl,hw'⟩;subst w')
            refine hK _ _ (fun _=>HSX.out _ st1) ?_
            clear hK K
            (first | simp only [Act.put,List.setIfInBounds_toArray,List.set_cons_zero,List.set_cons_succ] | skip)
            refine Hd.After.pureD (i:=14) (some 156) (.pointer (some ⟨gp,q,none⟩)) rfl rfl (by kernel_rfl) (by decide) (by kernel_rfl) (by kernel_rfl) (fun _ _ _ h=>h) ((HSX.out _ st1)) (Or.inl ⟨by rfl,?_⟩) ?_
            ·
             intro X;go_simp;try with_reducible rfl
            (first | simp only [Act.put,List.setIfInBounds_toArray,List.set_cons_zero,List.set_cons_succ] | skip)
            have HOX:Hid (Own X1 wq.heap.size (.slice (some ⟨gp,0,none⟩) j cy) (nextP x t ps q)):=row_below HOQ.out st1
            have xc:=HOX.out.cell HNL.out q hqp
            have xf:=HOX.out.frozen HNL.out q
            refine Hd.After.one (i:=15) (by kernel_rfl) rfl rfl ?_
            intro K hK
            go_simp
            refine hK _ _ (fun h=>by cases h) ?_
            clear hK K
            refine Hd.After.done (by kernel_rfl) ?_ _
            have HON:Hid (Own (X1.setCell ⟨gp,q,none⟩ (.int .i64 (Ad.fadd p ev))) wq.heap.size (.slice (some ⟨gp,0,none⟩) j cy) (nextP x t ps (q+1))):=by
             have h1:=HOX.out.set HNL.out q (Ad.fadd p ev)
             have h2:=nextP_set x t ps q hqs
             rw [HY.out,HEV.out,HPQ.out] at h2
             rw [h2] at h1
             exact h1
            have HFN:Hid (Fr (fun y=>(Value.slice (some ⟨gp,0,none⟩) j cy).ownBlock=some y) w9 (X1.setCell ⟨gp,q,none⟩ (.int .i64 (Ad.fadd p ev)))):=(HFQ.out.trans (fr_below st1)).trans (fr_grown (Li.grown_set _ _ _ _) rfl)
            go_wp2_with fail
            go_roundw
            case rel=>exact ⟨q+1,by omega,by go_num,HON.out,HFN.out⟩
            case measure=>simp [intOf];omega
           ·
            obtain rfl:q=j:=by omega
            have hqi:¬ (q:Int)<q:=by omega
            have HNB:Hid (Below wq.heap.size wq wr):=HB9.out.trans (HFQ.out.bel (fun y e=>(HOQ.out.ge y e).1) HB9.out.size)
            have HNO:Hid (OwT wr (fun y=>Q2≤y) (.slice a9 (nt+1) c9) (boost x ls c (k+1)).1):=by
             have h:=HOK9.out.fr HFQ.out (fun y h1 h2=>by have:=HPB.out y h2;omega)
             rw [← HTT.out,HPS.out] at h
             exact h
            have HNP:Hid (nextP x t ps q=(boost x ls c (k+1)).2):=by show _=_;rw [boost,← HPS.out,HTT.out,HM.out]
            go_wp2_with fail
            go_roundw
            case rel=>exact ⟨k+1,by omega,by go_num,_,HNP.out,by rw [nextP_length,HPL.out],HOQ.out,HNO.out,HNB.out,by omega⟩
            case measure=>simp [intOf];omega
        ·
         obtain rfl:k=T:=by omega
         have hki:¬ (k:Int)<k:=by omega
         have HBW2:Hid (Below w.heap.size w wr):=HBW.out.trans (HBK.out.mono HBW.out.size)
         have HR:Hid (train x ls c=((boost x ls c k).1,bse,true)):=by show _=_;rw [train_ok HTOK.out,HT.out,HBS.out];simp
         have hPQ2:P≤Q2:=by have h1:=HBR.out.size;have h2:=HQ0.out;omega
         go_wp2_with fail
         refine bodyPost_ret (v:=.tuple #[_,.int .i64 bse,.bool true]) (by rw [results_ttt rfl];rfl) rfl ⟨_,by rw [HR.out],?_,HBW2.out⟩
         rw [HR.out,HP.out]
         exact HOTk.out.mono (fun y hy=>by omega)
end Go.Proofs.YtaojoamldoofpaaGreatDoor.Tn
