/-
  Contracts that the proof leans on, put together in the order in which they build.
-/
import Derived.Test.YtaojoamldoofpaaGreatDoorPart24
import Derived.Test.YtaojoamldoofpaaGreatDoorPart22
import Derived.WalkMore
import Derived.Test.YtaojoamldoofpaaGreatDoorPart11
import Derived.Shelf.Strings.BuilderK
import Derived.Shelf.Strings.Builder1
import Derived.WalkKit
import Derived.Below
import Derived.Test.YtaojoamldoofpaaGreatDoorPart8
set_option linter.unusedVariables false
namespace Go.Proofs.YtaojoamldoofpaaGreatDoor.Rm
set_option maxRecDepth 100000
open Go.RowKit
open Md (M OwM)
open Kt (Kv OwK)
open To (OwT)
open Tm (OwnP pv pv_length pv_append)
open Sv (Fr fr_below fr_grown Wr wr2 new1)
theorem cutc (w:World) (s:ByteArray) (c:UInt8) (hs:s.size≤1048576) (hV:Vs w) :
  Calls Tryz.prog 59 #[.string s,.string ⟨#[c]⟩] w fun e w'=>e=.returned (.tuple #[.string (Pc.ba (Lib.cut s.data.toList [c]).1),.string (Pc.ba (Lib.cut s.data.toList [c]).2.1),.bool (Lib.cut s.data.toList [c]).2.2])∧Below w.heap.size w w':=by
 obtain ⟨m,hm⟩:=hV.2.1
 refine (Tryz.strings_Cut s ⟨#[c]⟩ m w (by omega) hm).mono ?_
 rintro e w' ⟨rfl,n,rfl⟩
 exact ⟨rfl,⟨rfl,rfl,rfl,Nat.le_refl _,fun _ _=>rfl⟩⟩
theorem run_snocP (w:World) (ty:TypeId) (base:Nat) (a:Option Addr) (n c E:Nat) (ps:List (Int × Int)) (hn:ps.length=n) (ho:OwnP w base (.slice a n c) ps) (hb:base≤w.heap.size) (x y:Int) (e0:w.cell? ⟨E,0,none⟩=some (.int .i64 x)) (e1:w.cell? ⟨E,1,none⟩=some (.int .i64 y)) (hl:n≤1048576) :
  ∃ a5 c5 w5,(Builtin.append_ #[54,54] ty #[.slice a n c,.slice (some ⟨E,0,none⟩) 1 1]).run Tryz.prog w=.ok (.slice a5 (n+1) c5) w5∧OwnP w5 base (.slice a5 (n+1) c5) (ps ++ [(x,y)])∧w.grownBy w5 (Value.slice a n c).ownBlock:=by
 obtain ⟨i0,hi,hz0,hz1,hz2⟩:=info_parts Tm.info_spl
 subst hn
 obtain ⟨v',w',hr,h2,h3,hnil,h5⟩:=run_append_own_at (P:=Tryz.prog) w base 54 ty 58 i0 (.agg #[.int .i64 0,.int .i64 0]) 2 16 Tryz.underlying54 hi hz0 hz1 hz2 rfl (by decide) _ ps.length (pv ps) ho ⟨E,0,none⟩ 1 1 [.int .i64 x,.int .i64 y] rfl (by
  intro j u hj
  rw [Go.WideShapes.add_plain,Nat.zero_add]
  match j,hj with
  | 0,hj=>simp at hj;subst hj;exact e0
  | 1,hj=>simp at hj;subst hj;exact e1) (by intro u hu;simp at hu;rcases hu with rfl | rfl <;> rfl) (by unfold maxLen;omega) (by omega) hb
 have hok:OwnP w' base v' (ps ++ [(x,y)]):=by
  unfold OwnP
  rw [← pv_append,List.length_append]
  exact h2
 obtain ⟨a5,c5,e5,_⟩:=hok.isp
 rw [List.length_append] at e5
 subst e5
 exact ⟨a5,c5,w',hr,hok,h3⟩
theorem wp_snocP {o:Oper} {a:Act} {w:World} {K:Act→World→Prop} {Q:Exit→Act→World→Prop} (s x:Operand) (ho:o.op=.call { callee:=.builtin .append,args:=#[s,x],argTypes:=#[54,54] }) (dt:Option Tmp) (hd:o.dst=dt)
  (base:Nat) (ad:Option Addr) (n c E:Nat) (ps:List (Int × Int)) (hn:ps.length=n) (hs:a.eval s=.slice ad n c) (hx:a.eval x=.slice (some ⟨E,0,none⟩) 1 1) (hown:OwnP w base (.slice ad n c) ps) (hb:base≤w.heap.size) (p q:Int) (e0:w.cell? ⟨E,0,none⟩=some (.int .i64 p)) (e1:w.cell? ⟨E,1,none⟩=some (.int .i64 q)) (hl:n≤1048576)
  (hq:∀ a5 c5 w5,OwnP w5 base (.slice a5 (n+1) c5) (ps ++ [(p,q)])→w.grownBy w5 (Value.slice ad n c).ownBlock→K (a.put dt (.slice a5 (n+1) c5)) w5):o.wp Tryz.prog a w K Q:=by
 subst hd
 obtain ⟨a5,c5,w5,hr,h2,h3⟩:=run_snocP w o.type base ad n c E ps hn hown hb p q e0 e1 hl
 unfold Oper.wp execOp
 simp only [ho,resolve,invoke,builtin,Sem.run_bind,Sem.run_pure,Result.andThen_ok,List.map_toArray,List.map_cons,List.map_nil,hs,hx,hr]
 exact hq a5 c5 w5 h2 h3
theorem pairs_len:∀ xs:List Int,(pairs xs).length=xs.length / 2
 | []=>rfl
 | [_]=>by simp [pairs]
 | _ :: _ :: r=>by
  have:=pairs_len r
  simp only [pairs,List.length_cons,this]
  omega
theorem pairs_get:∀ (xs:List Int) (k:Nat) (h:k<(pairs xs).length) (h0:k * 2<xs.length) (h1:k * 2+1<xs.length),(pairs xs)[k]=(xs[k * 2],xs[k * 2+1])
 | _ :: _ :: r,0,_,_,_=>rfl
 | x :: y :: r,k+1,h,h0,h1=>by
  have ih:=pairs_get r k (by simpa [pairs] using h) (by simp at h0;omega) (by simp at h1;omega)
  have e0:(x :: y :: r)[(k+1) * 2]=r[k * 2]'(by simp at h0;omega):=by
   have:(k+1) * 2=k * 2+1+1:=by omega
   simp only [this,List.getElem_cons_succ]
  have e1:(x :: y :: r)[(k+1) * 2+1]=r[k * 2+1]'(by simp at h1;omega):=by
   have:(k+1) * 2+1=k * 2+1+1+1:=by omega
   simp only [this,List.getElem_cons_succ]
  rw [e0,e1,← ih]
  rfl
 | [],k,h,_,_=>by simp [pairs] at h
 | [_],k,h,_,_=>by simp [pairs] at h
theorem cut_size (s:ByteArray) (c:UInt8):(Pc.ba (Lib.cut s.data.toList [c]).1).size≤s.size∧(Pc.ba (Lib.cut s.data.toList [c]).2.1).size≤s.size:=by
 rw [Pc.ba_size,Pc.ba_size]
 have hsz:s.data.toList.length=s.size:=by simp
 rw [← hsz]
 unfold Lib.cut
 split
 ·
  simp only [List.length_take,List.length_drop];omega
 ·
  simp
set_option maxHeartbeats 4000000 in
theorem itree (w:World) (b lo:Nat) (st:St) (ak ax:Option Addr) (ck ct:Nat) (hg:Gs w b lo st ak ck ax ct) (hV:Vs w) (s:ByteArray) (hs:s.size≤30000) (ht:st.m.ts.length≤1000000) :
  Calls Tryz.prog 63 #[.pointer (some ⟨b,0,none⟩),.string s] w fun e w'=>((∃ st' ax' ct',dTree st s.data.toList=some st'∧e=.returned (.bool true)∧Gs w' b lo st' ak ck ax' ct') ∨ (dTree st s.data.toList=none∧e=.returned (.bool false)))∧Fr (Fx b lo) w w':=by
 have HD:Hid (dTree st s.data.toList=(match inums (Lib.cut s.data.toList [58]).1,inums (Lib.cut s.data.toList [58]).2.1 with
  | some a,some l=>if a.length % 2=0 then some ⟨⟨st.m.n,st.m.c,st.m.prior,st.m.base,st.m.ks,st.m.ts ++ [⟨pairs a,l⟩]⟩,st.left⟩ else none
  | _,_=>none)):=rfl
 have hcs:=cut_size s 58
 go_enter Tryz.func63,Tryz.ntmps63
 go_wp2_with fail
 refine (cutc w s 58 (by omega) hV).mono ?_
 rintro e w1 ⟨rfl,hB⟩
 have hp:=Pc.ba_data (Lib.cut s.data.toList [58]).1
 have hr:=Pc.ba_data (Lib.cut s.data.toList [58]).2.1
 generalize Pc.ba (Lib.cut s.data.toList [58]).1=p at hp hcs ⊢
 generalize Pc.ba (Lib.cut s.data.toList [58]).2.1=r at hr hcs ⊢
 generalize (Lib.cut s.data.toList [58]).2.2=cc
 rw [← hp,← hr] at HD
 clear hp hr
 have hV1:=hV.below hB
 go_wp2_with fail
 refine (inumbers w1 hV1 p (by omega)).mono ?_
 rintro e w2 ⟨he,hB2⟩
 have hV2:=hV1.below hB2
 have hs1:=hB.size
 have hB:=hB.trans (hB2.mono hB.size)
 clear hB2 hV1 hV
 obtain ⟨xs,a,na,c,oka,rfl,hxa,hoa⟩:∃ xs a na c oka,e=.returned (.tuple #[.slice a na c,.bool oka])∧((oka=true∧inums p.data.toList=some xs∧(∀ x ∈ xs,-9223372036854775808≤x∧x≤9223372036854775807)∧xs.length=na) ∨ (oka=false∧inums p.data.toList=none∧xs=[]∧na=0))∧Li.Own w2 w1.heap.size (.slice a na c) xs:=by
  rcases he with ⟨xs,a,c,hx,hbd,rfl,ho⟩ | ⟨hx,rfl⟩
  ·
   exact ⟨xs,a,_,c,true,rfl,.inl ⟨rfl,hx,hbd,rfl⟩,ho⟩
  ·
   exact ⟨[],none,0,0,false,rfl,.inr ⟨rfl,hx,rfl,rfl⟩,Li.Own.nil _ _⟩
 go_wp2_with fail
 refine (inumbers w2 hV2 r (by omega)).mono ?_
 rintro e w3 ⟨he,hB3⟩
 have hs2:=hB.size
 have hs23:=hB3.size
 have hB:=hB.trans (hB3.mono hB.size)
 have hoa:=hoa.below hB3
 clear hB3 hV2
 have HF:Hid (Fr (Fx b lo) w w3):=fr_below hB
 rcases he with ⟨ls,al,cl,hx2,hbd2,rfl,hol⟩ | ⟨hx2,rfl⟩
 ·
  rcases hxa with ⟨rfl,hx1,hbd1,hna⟩ | ⟨rfl,hx1,_,_⟩
  ·
   have hlx:=inums_len hx1
   have hll:=inums_len hx2
   have hps:p.data.toList.length=p.size:=by simp
   have hrs:r.data.toList.length=r.size:=by simp
   have hnb:na≤30000:=by omega
   by_cases hev:na % 2=0
   ·
    have HDS:Hid (dTree st s.data.toList=some ⟨⟨st.m.n,st.m.c,st.m.prior,st.m.base,st.m.ks,st.m.ts ++ [⟨pairs xs,ls⟩]⟩,st.left⟩):=by
     have h1:=HD.out
     rw [hx1,hx2] at h1
     simp only [hna,hev] at h1
     exact h1
    have hm:Int.tmod (na:Int) 2=0:=by rw [Int.tmod_eq_emod_of_nonneg (by omega)];omega
    clear HD hx1 hx2 hbd2
    go_wp2_with fail
    obtain ⟨hf,hhf⟩:∃ hf,na=hf * 2:=⟨na / 2,by omega⟩
    have HH:Hid (na=hf * 2):=hhf
    obtain ⟨nl,hnl⟩:∃ nl,ls.length=nl:=⟨_,rfl⟩
    obtain ⟨a',c',e,hia⟩:=hoa.isl
    rw [hna] at e
    injection e with e _ e2
    subst e
    subst e2
    rw [hnl] at hol ⊢
    obtain ⟨w4,hW4,hs4,hb4,bt0⟩:=new1 w3 [.slice none 0 0,.slice al nl cl] 56
    rw [hW4]
    obtain ⟨T,hT⟩:∃ T,w3.heap.size=T:=⟨_,rfl⟩
    rw [hT] at bt0 ⊢
    have HT:Hid (w3.heap.size=T):=hT
    have HB4:Hid (Below w3.heap.size w3 w4):=hb4
    have HBT0:Hid (type_of% bt0):=bt0
    have HBW:Hid (Below w.heap.size w w3):=hB
    have HOL:Hid (type_of% hol):=hol
    have HIA:Hid (type_of% hia):=hia
    have HG:Hid (type_of% hg):=hg
    obtain ⟨nt,hnt⟩:∃ nt,st.m.ts.length=nt:=⟨_,rfl⟩
    have HNT:Hid (st.m.ts.length=nt):=hnt
    have HTN:Hid (st.m.ts.length≤1000000):=ht
    have HXL:Hid (xs.length=na):=hna
    have HLL:Hid (ls.length=nl):=hnl
    clear hnt ht hhf hW4 hs4 hb4 bt0 hT hB hol hoa hia hna hnl hm hev hlx hll hps hrs hbd1 hg HF
    go_loopw [13] (fun i wr=>∃ (k j:Nat) (ap:Option Addr) (cp:Nat),j=k * 2∧k≤hf∧i=.int .i64 j∧Wr wr T 0 [.slice ap k cp,.slice al nl cl]∧OwnP wr (T+1) (.slice ap k cp) ((pairs xs).take k)∧Below w3.heap.size w3 wr) (fun i _=>na-(intOf i).toNat)
    case atStart=>exact ⟨0,0,none,0,rfl,Nat.zero_le _,rfl,HBT0.out,World.ownsRow_nil _ _ _ _,HB4.out⟩
    case round =>
     obtain ⟨k,j,ap,cp,hjk,hk,rfl,bt,op,hbr⟩:=hrel
     have hhf:=HH.out
     have HJ:Hid (j=k * 2):=hjk
     have HBR:Hid (type_of% hbr):=hbr
     have HOP:Hid (type_of% op):=op
     have HBT:Hid (type_of% bt):=bt
     obtain ⟨htl,⟨t0,t1⟩,_⟩:=wr2 bt
     by_cases hlt:k<hf
     ·
      have hj1:j+1<xs.length:=by rw [HXL.out];omega
      rcases HIA.out with e0 | ⟨xb,xo,rfl,hxb,hxc⟩
      ·
       rw [e0] at hj1;simp at hj1
      have d0:=hxc j (by omega)
      have d1:=hxc (j+1) hj1
      have HPL:Hid (k<(pairs xs).length):=by show _<_;rw [pairs_len,HXL.out];omega
      have HTK:Hid ((pairs xs).take (k+1)=(pairs xs).take k ++ [(xs[j],xs[j+1])]):=by
       show _=_
       rw [List.take_succ_eq_append_getElem HPL.out,pairs_get xs k HPL.out (by omega) (by omega)]
       subst hjk
       rfl
      have HTL:Hid (((pairs xs).take k).length=k):=by have:=HPL.out;show _=_;rw [List.length_take];omega
      generalize xs[j]=x at d0 HTK
      generalize xs[j+1]=y at d1 HTK
      have HXC:Hid (∀ X:World,Below w3.heap.size w3 X→X.cell? ⟨xb,xo+j,none⟩=some (.int .i64 x)∧X.cell? ⟨xb,xo+(j+1),none⟩=some (.int .i64 y)):=fun X hX=>⟨(hX.cell (p:=⟨xb,xo+j,none⟩) hxb).trans d0,(hX.cell (p:=⟨xb,xo+(j+1),none⟩) hxb).trans d1⟩
      have HSX:Hid (∀ X:World,Below wr.heap.size wr X→X.cell? ⟨T,0,none⟩=some (.slice ap k cp)∧X.cell? ⟨xb,xo+j,none⟩=some (.int .i64 x)∧X.cell? ⟨xb,xo+(j+1),none⟩=some (.int .i64 y)):=fun X hX=>⟨(hX.cell (p:=⟨T,0,none⟩) htl).trans t0,HXC.out X (HBR.out.trans (hX.mono HBR.out.size))⟩
      have st0:Below wr.heap.size wr wr.drew:=(Below.refl _ _).drew
      have hS:=HSX.out _ st0
      have hw1:IntKind.i64.wrap ((j:Int)+1)=(j:Int)+1:=by rw [IntKind.wrap_i64];omega
      have hw2:IntKind.i64.wrap ((j:Int)+2)=(j:Int)+2:=by rw [IntKind.wrap_i64];omega
      have hjn:(j:Int)<na:=by omega
      have hjn1:(j:Int)+1<na:=by omega
      have hj0:(0:Int)≤(j:Int)+1:=by omega
      have hjt:((j:Int)+1).toNat=j+1:=by omega
      have hk3:k≤30000:=by omega
      clear hxc d0 d1 t0 t1 bt op hbr hj1 hjk hhf
      go_wp2_with fail
      refine Hd.start (fun X=>X.cell? ⟨T,0,none⟩=some (.slice ap k cp)∧X.cell? ⟨xb,xo+j,none⟩=some (.int .i64 x)∧X.cell? ⟨xb,xo+(j+1),none⟩=some (.int .i64 y)) 15 (by kernel_rfl) ?_
      generalize wr.drew=w0 at st0 hS ⊢
      refine Hd.After.pureD (i:=0) (some 50) (.pointer (some ⟨T,0,none⟩)) rfl rfl (by kernel_rfl) (by decide) (by kernel_rfl) (by kernel_rfl) (fun _ _ _ h=>h) (hS) (Or.inl ⟨by rfl,?_⟩) ?_
      ·
       intro X;go_simp;try with_reducible rfl
      (first | simp only [Act.put,List.setIfInBounds_toArray,List.set_cons_zero,List.set_cons_succ] | skip)
      refine Hd.After.takeD (i:=1) (some 51) (.slice ap k cp) rfl rfl (by kernel_rfl) (by kernel_rfl) (by kernel_rfl) (by kernel_rfl) (by kernel_rfl) (fun _ _ _ h=>h) (hS) (Or.inl ⟨by rfl,?_⟩) ?_
      ·
       rintro X ⟨s0,s1,s2⟩;go_simp;try with_reducible rfl
      (first | simp only [Act.put,List.setIfInBounds_toArray,List.set_cons_zero,List.set_cons_succ] | skip)
      refine Hd.After.pureD (i:=2) (some 52) (.slice (some ⟨xb,xo,none⟩) na c) rfl rfl (by kernel_rfl) (by decide) (by kernel_rfl) (by kernel_rfl) (fun _ _ _ h=>h) (hS) (Or.inl ⟨by rfl,?_⟩) ?_
      ·
       intro X;go_simp;try with_reducible rfl
      (first | simp only [Act.put,List.setIfInBounds_toArray,List.set_cons_zero,List.set_cons_succ] | skip)
      refine Hd.After.pureD (i:=3) (some 53) (.int .i64 j) rfl rfl (by kernel_rfl) (by decide) (by kernel_rfl) (by kernel_rfl) (fun _ _ _ h=>h) (hS) (Or.inl ⟨by rfl,?_⟩) ?_
      ·
       intro X;go_simp;try with_reducible rfl
      (first | simp only [Act.put,List.setIfInBounds_toArray,List.set_cons_zero,List.set_cons_succ] | skip)
      refine Hd.After.pureD (i:=4) (some 54) (.pointer (some ⟨xb,xo+j,none⟩)) rfl rfl (by kernel_rfl) (by decide) (by kernel_rfl) (by kernel_rfl) (fun _ _ _ h=>h) (hS) (Or.inl ⟨by rfl,?_⟩) ?_
      ·
       intro X;go_simp;try with_reducible rfl
      (first | simp only [Act.put,List.setIfInBounds_toArray,List.set_cons_zero,List.set_cons_succ] | skip)
      refine Hd.After.takeD (i:=5) (some 55) (.int .i64 x) rfl rfl (by kernel_rfl) (by kernel_rfl) (by kernel_rfl) (by kernel_rfl) (by kernel_rfl) (fun _ _ _ h=>h) (hS) (Or.inl ⟨by rfl,?_⟩) ?_
      ·
       rintro X ⟨s0,s1,s2⟩;go_simp;try with_reducible rfl
      (first | simp only [Act.put,List.setIfInBounds_toArray,List.set_cons_zero,List.set_cons_succ] | skip)
      refine Hd.After.pureD (i:=6) (some 56) (.slice (some ⟨xb,xo,none⟩) na c) rfl rfl (by kernel_rfl) (by decide) (by kernel_rfl) (by kernel_rfl) (fun _ _ _ h=>h) (hS) (Or.inl ⟨by rfl,?_⟩) ?_
      ·
       intro X;go_simp;try with_reducible rfl
      (first | simp only [Act.put,List.setIfInBounds_toArray,List.set_cons_zero,List.set_cons_succ] | skip)
      refine Hd.After.pureD (i:=7) (some 57) (.int .i64 j) rfl rfl (by kernel_rfl) (by decide) (by kernel_rfl) (by kernel_rfl) (fun _ _ _ h=>h) (hS) (Or.inl ⟨by rfl,?_⟩) ?_
      ·
       intro X;go_simp;try with_reducible rfl
      (first | simp only [Act.put,List.setIfInBounds_toArray,List.set_cons_zero,List.set_cons_succ] | skip)
      refine Hd.After.pureD (i:=8) (some 58) (.int .i64 ((j:Int)+1)) rfl rfl (by kernel_rfl) (by decide) (by kernel_rfl) (by kernel_rfl) (fun _ _ _ h=>h) (hS) (Or.inl ⟨by rfl,?_⟩) ?_
      ·
       intro X;go_simp;try with_reducible rfl
      (first | simp only [Act.put,List.setIfInBounds_toArray,List.set_cons_zero,List.set_cons_succ] | skip)
      refine Hd.After.pureD (i:=9) (some 59) (.pointer (some ⟨xb,xo+(j+1),none⟩)) rfl rfl (by kernel_rfl) (by decide) (by kernel_rfl) (by kernel_rfl) (fun _ _ _ h=>h) (hS) (Or.inl ⟨by rfl,?_⟩) ?_
      ·
       intro X;go_simp;try with_reducible rfl
      (first | simp only [Act.put,List.setIfInBounds_toArray,List.set_cons_zero,List.set_cons_succ] | skip)
      refine Hd.After.takeD (i:=10) (some 60) (.int .i64 y) rfl rfl (by kernel_rfl) (by kernel_rfl) (by kernel_rfl) (by kernel_rfl) (by kernel_rfl) (fun _ _ _ h=>h) (hS) (Or.inl ⟨by rfl,?_⟩) ?_
      ·
       rintro X ⟨s0,s1,s2⟩;go_simp;try with_reducible rfl
      (first | simp only [Act.put,List.setIfInBounds_toArray,List.set_cons_zero,List.set_cons_succ] | skip)
      refine Hd.After.pureD (i:=11) (some 61) (.agg #[.int .i64 x,.int .i64 y]) rfl rfl (by kernel_rfl) (by decide) (by kernel_rfl) (by kernel_rfl) (fun _ _ _ h=>h) (hS) (Or.inl ⟨by rfl,?_⟩) ?_
      ·
       intro X;go_simp;try with_reducible rfl
      (first | simp only [Act.put,List.setIfInBounds_toArray,List.set_cons_zero,List.set_cons_succ] | skip)
      have hA:Below w0.heap.size w0 (w0.alloc (.cells #[.int .i64 x,.int .i64 y] 58)):=(Below.refl _ _).alloc (Nat.le_refl _) _
      have st4:=st0.trans (hA.mono st0.size)
      refine Hd.After.one (i:=12) (by kernel_rfl) rfl rfl ?_
      intro K hK
      go_simp
      refine hK _ _ (fun _=>HSX.out _ st4) ?_
      clear hK K
      (first | simp only [Act.put,List.setIfInBounds_toArray,List.set_cons_zero,List.set_cons_succ] | skip)
      refine Hd.After.one (i:=13) (by kernel_rfl) rfl rfl ?_
      intro K hK
      refine wp_snocP _ _ rfl (some 63) rfl (T+1) ap k cp w0.heap.size ((pairs xs).take k) HTL.out rfl rfl (HOP.out.below st4) (by have:=st4.size;have:=HBT.out.1;omega) x y (by simp) (by simp) (by omega) ?_
      intro a7 c7 w7 hok7 hg7
      rw [← HTK.out] at hok7
      have hb7:Below w3.heap.size w3 w7:=(HBR.out.trans (st4.mono (by have:=HBR.out.size;omega))).trans ⟨hg7.os,hg7.tape,hg7.output,hg7.size,fun q hq=>hg7.block q (by have:=st4.size;have:=HBR.out.size;omega) (fun e=>by have:=(HOP.out.ge q e.symm).1;have:=HT.out;omega)⟩
      have ht7:Wr w7 T 0 [.slice ap k cp,.slice al nl cl]:=(HBT.out.below st4).keptAt hg7.size (hg7.block T (Nat.lt_of_lt_of_le HBT.out.1 st4.size) (fun e=>by have:=(HOP.out.ge T e.symm).1;omega))
      obtain ⟨z2,⟨z0,z00⟩,z1,z11⟩:=wr2 ht7
      have hS7:=HXC.out _ hb7
      clear hg7
      refine hK _ _ (fun _=>⟨z0,hS7⟩) ?_
      clear hK K
      (first | simp only [Act.put,List.setIfInBounds_toArray,List.set_cons_zero,List.set_cons_succ] | skip)
      refine Hd.After.one (i:=14) (by kernel_rfl) rfl rfl ?_
      intro K hK
      go_simp
      refine hK _ _ (fun _=>⟨z0,hS7⟩) ?_
      clear hK K
      (first | simp only [Act.put,List.setIfInBounds_toArray,List.set_cons_zero,List.set_cons_succ] | skip)
      refine Hd.After.one (i:=15) (by kernel_rfl) rfl rfl ?_
      intro K hK
      go_simp
      refine hK _ _ (fun h=>by cases h) ?_
      clear hK K
      refine Hd.After.done (by kernel_rfl) ?_ _
      have HB8:Hid (Wr (w7.setCell ⟨T,0,none⟩ (.slice a7 (k+1) c7)) T 0 [.slice a7 (k+1) c7,.slice al nl cl]):=ht7.set 0 (by simp) _
      have HO8:Hid (OwnP (w7.setCell ⟨T,0,none⟩ (.slice a7 (k+1) c7)) (T+1) (.slice a7 (k+1) c7) ((pairs xs).take (k+1))):=hok7.kept (Li.grown_set w7 T 0 _) (.inr (fun e=>by have:=(hok7.ge T e).1;omega))
      have HR8:Hid (Below w3.heap.size w3 (w7.setCell ⟨T,0,none⟩ (.slice a7 (k+1) c7))):=hb7.setCell (by have:=HT.out;show w3.heap.size≤T;omega) _
      clear st0 hS st4 hA hok7 hb7 ht7 hS7 z0 z00 z1 z11 z2 HSX hw1 hj0 hjt
      go_wp2
      go_roundw
      case rel=>exact ⟨k+1,j+2,a7,c7,by have:=HJ.out;omega,by omega,by go_num,HB8.out,HO8.out,HR8.out⟩
      case measure=>have:=HJ.out;have:=HH.out;simp [intOf];omega
     ·
      obtain rfl:k=hf:=by omega
      have HTA:Hid ((pairs xs).take k=pairs xs):=by show _=_;rw [List.take_of_length_le];rw [pairs_len,HXL.out];omega
      rw [HTA.out] at HOP
      have hge:¬ (j:Int)<na:=by omega
      have HBWR:Hid (Below w.heap.size w wr):=HBW.out.trans (HBR.out.mono HBW.out.size)
      obtain ⟨hbl,⟨x0,x1,x2,x3,x4,x5,x6⟩,xx⟩:=wr7 (HG.out.bx.below HBWR.out)
      rw [HNT.out] at x5
      have HSX:Hid (∀ X:World,Below wr.heap.size wr X→X.cell? ⟨b,5,none⟩=some (.slice ax nt ct)∧X.cell? ⟨T,0,none⟩=some (.slice ap k cp)∧X.cell? ⟨T,1,none⟩=some (.slice al nl cl)):=fun X hX=>⟨(hX.cell (p:=⟨b,5,none⟩) hbl).trans x5,(hX.cell (p:=⟨T,0,none⟩) htl).trans t0,(hX.cell (p:=⟨T,1,none⟩) htl).trans t1⟩
      have HSEP:Hid (∀ q,(Value.slice ap k cp).ownBlock=some q→(Value.slice al nl cl).ownBlock≠some q):=fun q e e'=>by have:=(HOP.out.ge q e).1;have:=(HOL.out.ge q e').2;have:=HT.out;omega
      have st0:Below wr.heap.size wr wr.drew:=(Below.refl _ _).drew
      have hS:=HSX.out _ st0
      clear hjk hhf x0 x1 x2 x3 x4 x5 x6 xx t0 t1 bt op hbr
      go_wp2_with fail
      refine Hd.start (fun X=>X.cell? ⟨b,5,none⟩=some (.slice ax nt ct)∧X.cell? ⟨T,0,none⟩=some (.slice ap k cp)∧X.cell? ⟨T,1,none⟩=some (.slice al nl cl)) 12 (by kernel_rfl) ?_
      generalize wr.drew=w0 at st0 hS ⊢
      refine Hd.After.pureD (i:=0) (some 65) (.pointer (some ⟨b,0,none⟩)) rfl rfl (by kernel_rfl) (by decide) (by kernel_rfl) (by kernel_rfl) (fun _ _ _ h=>h) (hS) (Or.inl ⟨by rfl,?_⟩) ?_
      ·
       intro X;go_simp;try with_reducible rfl
      (first | simp only [Act.put,List.setIfInBounds_toArray,List.set_cons_zero,List.set_cons_succ] | skip)
      refine Hd.After.pureD (i:=1) (some 66) (.pointer (some ⟨b,0,none⟩)) rfl rfl (by kernel_rfl) (by decide) (by kernel_rfl) (by kernel_rfl) (fun _ _ _ h=>h) (hS) (Or.inl ⟨by rfl,?_⟩) ?_
      ·
       intro X;go_simp;try with_reducible rfl
      (first | simp only [Act.put,List.setIfInBounds_toArray,List.set_cons_zero,List.set_cons_succ] | skip)
      refine Hd.After.pureD (i:=2) (some 67) (.pointer (some ⟨b,0,none⟩)) rfl rfl (by kernel_rfl) (by decide) (by kernel_rfl) (by kernel_rfl) (fun _ _ _ h=>h) (hS) (Or.inl ⟨by rfl,?_⟩) ?_
      ·
       intro X;go_simp;try with_reducible rfl
      (first | simp only [Act.put,List.setIfInBounds_toArray,List.set_cons_zero,List.set_cons_succ] | skip)
      refine Hd.After.pureD (i:=3) (some 68) (.pointer (some ⟨b,0,none⟩)) rfl rfl (by kernel_rfl) (by decide) (by kernel_rfl) (by kernel_rfl) (fun _ _ _ h=>h) (hS) (Or.inl ⟨by rfl,?_⟩) ?_
      ·
       intro X;go_simp;try with_reducible rfl
      (first | simp only [Act.put,List.setIfInBounds_toArray,List.set_cons_zero,List.set_cons_succ] | skip)
      refine Hd.After.pureD (i:=4) (some 69) (.pointer (some ⟨b,5,none⟩)) rfl rfl (by kernel_rfl) (by decide) (by kernel_rfl) (by kernel_rfl) (fun _ _ _ h=>h) (hS) (Or.inl ⟨by rfl,?_⟩) ?_
      ·
       intro X;go_simp;try with_reducible rfl
      (first | simp only [Act.put,List.setIfInBounds_toArray,List.set_cons_zero,List.set_cons_succ] | skip)
      refine Hd.After.takeD (i:=5) (some 70) (.slice ax nt ct) rfl rfl (by kernel_rfl) (by kernel_rfl) (by kernel_rfl) (by kernel_rfl) (by kernel_rfl) (fun _ _ _ h=>h) (hS) (Or.inl ⟨by rfl,?_⟩) ?_
      ·
       rintro X ⟨s0,s1,s2⟩;go_simp;try with_reducible rfl
      (first | simp only [Act.put,List.setIfInBounds_toArray,List.set_cons_zero,List.set_cons_succ] | skip)
      refine Hd.After.takeD (i:=6) (some 71) (.agg #[.slice ap k cp,.slice al nl cl]) rfl rfl (by kernel_rfl) (by kernel_rfl) (by kernel_rfl) (by kernel_rfl) (by kernel_rfl) (fun _ _ _ h=>h) (hS) (Or.inl ⟨by rfl,?_⟩) ?_
      ·
       rintro X ⟨s0,s1,s2⟩;go_simp;try with_reducible rfl
      (first | simp only [Act.put,List.setIfInBounds_toArray,List.set_cons_zero,List.set_cons_succ] | skip)
      have hA:Below w0.heap.size w0 (w0.alloc (.cells #[.slice ap k cp,.slice al nl cl] 56)):=(Below.refl _ _).alloc (Nat.le_refl _) _
      have st4:=st0.trans (hA.mono st0.size)
      have hbA:Below w.heap.size w (w0.alloc (.cells #[.slice ap k cp,.slice al nl cl] 56)):=HBW.out.trans ((HBR.out.trans (st4.mono HBR.out.size)).mono HBW.out.size)
      refine Hd.After.one (i:=7) (by kernel_rfl) rfl rfl ?_
      intro K hK
      go_simp
      refine hK _ _ (fun _=>HSX.out _ st4) ?_
      clear hK K
      (first | simp only [Act.put,List.setIfInBounds_toArray,List.set_cons_zero,List.set_cons_succ] | skip)
      obtain ⟨B',hB1,hB2,hB3,hB4⟩:=splitT HG.out.om hbA HG.out.sz
      have hvb:∀ y,(Value.slice ax nt ct).ownBlock=some y→B' y∧y<w.heap.size:=fun y e=>by obtain ⟨_,_,_,_,hv,_⟩:=hB3;exact hv y (by rw [HNT.out];exact e)
      rw [HNT.out] at hB3
      refine Hd.After.one (i:=8) (by kernel_rfl) rfl rfl ?_
      intro K hK
      refine Ps.wp_pushT _ _ rfl (some 73) rfl B' w.heap.size _ st.m.ts hB3 w0.heap.size ap al cp cl k nl ⟨pairs xs,ls⟩ rfl rfl (by simp) (by simp) ((HOP.out.below st4).mono (by have:=HT.out;have:=HBW.out.size;omega)) (((HOL.out.below HBR.out).below st4).mono (by omega)) HSEP.out hB1 hbA.size (by have:=HTN.out;omega) ?_
      intro a9 c9 w9 hok9 hg9
      have hfr:Fr B' _ w9:=⟨hg9.os,hg9.tape,hg9.output,hg9.size,fun q hq hn=>hg9.block q hq (fun e=>hn (hvb q e.symm).1)⟩
      have hx9:Wr w9 b 0 _:=(HG.out.bx.below hbA).keptAt hfr.size (hfr.block b (Nat.lt_of_lt_of_le HG.out.bx.1 hbA.size) (fun e=>by have:=hB2 b e;have:=HG.out.bl;omega))
      have ht9:Wr w9 T 0 [.slice ap k cp,.slice al nl cl]:=(HBT.out.below st4).keptAt hg9.size (hg9.block T (Nat.lt_of_lt_of_le HBT.out.1 st4.size) (fun e=>by have:=(hvb T e.symm).2;have:=HT.out;have:=HBW.out.size;omega))
      obtain ⟨_,⟨t9,t99⟩,_⟩:=wr2 ht9
      obtain ⟨hbl9,⟨z0,z1,z2,z3,z4,z5,z6⟩,y0,y1,y2,y3,y4,y5,y6⟩:=wr7 hx9
      rw [HNT.out] at z5
      clear hg9
      refine hK _ _ (fun _=>⟨z5,t9,t99⟩) ?_
      clear hK K
      (first | simp only [Act.put,List.setIfInBounds_toArray,List.set_cons_zero,List.set_cons_succ] | skip)
      refine Hd.After.one (i:=9) (by kernel_rfl) rfl rfl ?_
      intro K hK
      go_simp
      refine hK _ _ (fun _=>⟨z5,t9,t99⟩) ?_
      clear hK K
      (first | simp only [Act.put,List.setIfInBounds_toArray,List.set_cons_zero,List.set_cons_succ] | skip)
      refine Hd.After.one (i:=10) (by kernel_rfl) rfl rfl ?_
      intro K hK
      go_simp
      refine hK _ _ (fun _=>⟨z5,t9,t99⟩) ?_
      clear hK K
      (first | simp only [Act.put,List.setIfInBounds_toArray,List.set_cons_zero,List.set_cons_succ] | skip)
      refine Hd.After.one (i:=11) (by kernel_rfl) rfl rfl ?_
      intro K hK
      go_simp
      refine hK _ _ (fun _=>⟨z5,t9,t99⟩) ?_
      clear hK K
      (first | simp only [Act.put,List.setIfInBounds_toArray,List.set_cons_zero,List.set_cons_succ] | skip)
      refine Hd.After.one (i:=12) (by kernel_rfl) rfl rfl ?_
      intro K hK
      go_simp
      refine hK _ _ (fun h=>by cases h) ?_
      clear hK K
      refine Hd.After.done (by kernel_rfl) ?_ _
      have HX9:Hid (type_of% hx9):=hx9
      have HFR:Hid (type_of% hfr):=hfr
      have HBA:Hid (type_of% hbA):=hbA
      have HB2:Hid (type_of% hB2):=hB2
      have h4:=hB4 w9 (.slice a9 (st.m.ts.length+1) c9) ⟨st.m.n,st.m.c,st.m.prior,st.m.base,st.m.ks,st.m.ts ++ [⟨pairs xs,ls⟩]⟩ rfl hfr hok9
      have H5:Hid (type_of% h4):=h4
      clear st0 hS st4 hA hok9 hfr hx9 hbA hB1 hB2 hB3 hB4 hvb ht9 t9 t99 z0 z1 z2 z3 z4 z5 z6 y0 y1 y2 y3 y4 y5 y6 HSX h4
      go_wp2
      go_ret
      have hg:=HG.out
      refine ⟨.inl ⟨_,a9,c9,HDS.out,rfl,?_⟩,?_⟩
      ·
       refine ⟨?_,?_,hg.bl,?_,hg.lf⟩
       ·
        have h6:=HX9.out.set 5 (by simp [gcells]) (.slice a9 (st.m.ts.length+1) c9)
        simpa [gcells] using h6
       ·
        have h6:=om_set (o:=5) (x:=.slice a9 (st.m.ts.length+1) c9) H5.out hg.bl
        simpa using h6
       ·
        have h1:=HFR.out.size
        have h2:=HBA.out.size
        have h3:=hg.sz
        simp [World.setCell] at h1 ⊢
        simp at h2
        omega
      ·
       exact ((fx_below HBA.out).trans (HFR.out.mono (fun y hy=>.inr (HB2.out y hy)))).trans (fx_set _ 5 _)
   ·
    have HDS:Hid (dTree st s.data.toList=none):=by
     have h1:=HD.out
     rw [hx1,hx2] at h1
     simp only [hna,hev] at h1
     exact h1
    have hm:(Int.tmod (na:Int) 2 != 0)=true:=by rw [Int.tmod_eq_emod_of_nonneg (by omega)];simp;omega
    clear HD hx1 hx2 hbd2
    go_wp2
    go_ret
    exact ⟨.inr ⟨HDS.out,rfl⟩,HF.out⟩
  ·
   have HDS:Hid (dTree st s.data.toList=none):=by
    have h1:=HD.out
    rw [hx1] at h1
    exact h1
   clear HD hx1 hx2 hbd2
   go_wp2
   go_ret
   exact ⟨.inr ⟨HDS.out,rfl⟩,HF.out⟩
 ·
  have HDS:Hid (dTree st s.data.toList=none):=by
   have h1:=HD.out
   rw [hx2] at h1
   rw [h1]
   cases inums p.data.toList <;> rfl
  clear HD hx2
  cases oka
  ·
   clear hxa
   go_wp2
   go_ret
   exact ⟨.inr ⟨HDS.out,rfl⟩,HF.out⟩
  ·
   clear hxa
   go_wp2
   go_ret
   exact ⟨.inr ⟨HDS.out,rfl⟩,HF.out⟩
end Go.Proofs.YtaojoamldoofpaaGreatDoor.Rm
namespace Go.Proofs.YtaojoamldoofpaaGreatDoor.Rm
set_option maxRecDepth 100000
open Go.RowKit
open Md (M OwM)
open Kt (Kv OwK ksz)
open To (OwT)
open Tm (szT szt)
open Tb (lets)
open Sv (Fr fr_below fr_grown Wr)
theorem cut_len (l:List UInt8) (c:UInt8):(Lib.cut l [c]).1.length+(Lib.cut l [c]).2.1.length≤l.length:=by
 rcases Pc.first_cut c l with h | ⟨a,r,rfl,h⟩
 ·
  rw [Pc.cut_no c l h];simp
 ·
  rw [Pc.cut_at c a r h];simp
theorem ksz_app:∀ (ks:List Kv) (t:Kv),ksz (ks ++ [t])=ksz ks+(t.ws.length+lets t.ws+t.vs.length)
 | [],t=>by simp [ksz]
 | k :: ks,t=>by simp only [List.cons_append,ksz,ksz_app ks t];omega
theorem szT_app:∀ (ts:List Tr.T) (t:Tr.T),szT (ts ++ [t])=szT ts+szt t
 | [],t=>by simp [szT]
 | k :: ks,t=>by simp only [List.cons_append,szT,szT_app ks t];omega
theorem lets_app:∀ (ws:List ByteArray) (s:ByteArray),lets (ws ++ [s])=lets ws+s.size
 | [],s=>by simp [lets]
 | x :: ws,s=>by simp only [List.cons_append,lets,lets_app ws s];omega
theorem ksz_set:∀ (ks:List Kv) (q:Nat) (s:ByteArray) (v:Int),ksz (ks.set q ⟨(ks.getD q ⟨[],[]⟩).ws ++ [s],(ks.getD q ⟨[],[]⟩).vs ++ [v]⟩)≤ksz ks+s.size+2
 | [],q,s,v=>by simp [ksz]
 | k :: ks,0,s,v=>by
  simp only [List.set_cons_zero,ksz,List.getD_cons_zero,List.length_append,lets_app,List.length_singleton]
  omega
 | k :: ks,q+1,s,v=>by
  have:=ksz_set ks q s v
  simp only [List.set_cons_succ,ksz,List.getD_cons_succ]
  omega
def Ok (st:St) (n:Nat):Prop:=st.m.sz≤n∧(0<st.left→0<st.m.ks.length)
theorem ok_line {st st':St} {l:List UInt8} {n:Nat} (h:Ok st n) (e:dLine st l=some st'):Ok st' (n+l.length+3):=by
 obtain ⟨h1,h2⟩:=h
 have hc:=cut_len l 32
 unfold dLine at e
 by_cases hl:0<st.left
 ·
  rw [if_pos hl] at e
  unfold dWord at e
  cases hn:num (first l) with
  | none=>rw [hn] at e;cases e
  | some v =>
   rw [hn] at e
   injection e with e
   subst e
   have:=ksz_set st.m.ks (st.m.ks.length-1) ⟨(rest l).toArray⟩ v
   have hr:(ByteArray.mk (rest l).toArray).size=(rest l).length:=by simp [ByteArray.size]
   rw [hr] at this
   unfold rest at this hr
   refine ⟨?_,fun _=>?_⟩
   ·
    unfold M.sz at h1 ⊢
    simp only [addW,List.length_set]
    unfold rest
    omega
   ·
    simp only [addW,List.length_set]
    exact h2 hl
 ·
  rw [if_neg hl] at e
  by_cases hm:first l=wModel
  ·
   rw [if_pos hm] at e
   unfold dHead at e
   split at e
   ·
    injection e with e
    subst e
    exact ⟨by unfold M.sz at h1 ⊢;show _≤_;simp only;omega,fun hx=>absurd hx hl⟩
   ·
    cases e
  ·
   rw [if_neg hm] at e
   by_cases hk:first l=wCtr
   ·
    rw [if_pos hk] at e
    unfold dCtr at e
    split at e
    ·
     injection e with e
     subst e
     refine ⟨?_,fun _=>by simp⟩
     unfold M.sz at h1 ⊢
     simp only [ksz_app,List.length_append,List.length_singleton,List.length_nil,lets]
     omega
    ·
     cases e
   ·
    rw [if_neg hk] at e
    by_cases ht:first l=wTree
    ·
     rw [if_pos ht] at e
     unfold dTree at e
     split at e
     ·
      rename_i a b ha hb
      split at e
      ·
       injection e with e
       subst e
       have h3:=inums_len ha
       have h4:=inums_len hb
       have h5:=cut_len (rest l) 58
       have h6:=pairs_len a
       unfold rest at h3 h4 h5
       refine ⟨?_,fun hx=>absurd hx hl⟩
       unfold M.sz at h1 ⊢
       simp only [szT_app,List.length_append,List.length_singleton,szt]
       omega
      ·
       cases e
     ·
      cases e
    ·
     rw [if_neg ht] at e;cases e
def tot (k:Nat):List (List UInt8)→Nat
 | []=>0
 | l :: ls=>match k with
  | 0=>0
  | k+1=>l.length+3+tot k ls
theorem tot_succ:∀ (ls:List (List UInt8)) (k:Nat) (h:k<ls.length),tot (k+1) ls=tot k ls+ls[k].length+3
 | l :: ls,0,_=>by simp [tot];cases ls <;> simp [tot]
 | l :: ls,k+1,h=>by
  have:=tot_succ ls k (by simpa using h)
  rw [tot,this]
  simp only [tot,List.getElem_cons_succ]
  omega
theorem tot_le:∀ (ls:List (List UInt8)) (k:Nat),tot k ls≤tot ls.length ls
 | [],k=>by simp [tot]
 | l :: ls,0=>by simp [tot]
 | l :: ls,k+1=>by
  have:=tot_le ls k
  simp only [tot,List.length_cons]
  omega
theorem pieces_tot (c:UInt8):∀ l:List UInt8,tot (Pc.pieces c l).length (Pc.pieces c l)≤3 * l.length+3∧(Pc.pieces c l).length≤l.length+1
 | []=>by simp [Pc.pieces,tot]
 | x :: l=>by
  obtain ⟨h1,h2⟩:=pieces_tot c l
  have hne:=Pc.pieces_ne c l
  unfold Pc.pieces
  split
  ·
   simp only [List.length_cons,List.length_nil,tot]
   omega
  ·
   cases hp:Pc.pieces c l with
   | nil=>exact absurd hp hne
   | cons y ys =>
    rw [hp] at h1 h2
    simp only [List.length_cons,tot,List.headD_cons,List.tail_cons] at h1 h2 ⊢
    omega
theorem piece_len (c:UInt8):∀ (l:List UInt8),∀ x ∈ Pc.pieces c l,x.length≤l.length
 | [],x,hx=>by simp [Pc.pieces] at hx;subst hx;simp
 | y :: l,x,hx=>by
  have ih:=piece_len c l
  have hne:=Pc.pieces_ne c l
  unfold Pc.pieces at hx
  split at hx
  ·
   rcases List.mem_cons.1 hx with rfl | h
   ·
    simp
   ·
    have:=ih x h;simp;omega
  ·
   cases hp:Pc.pieces c l with
   | nil=>exact absurd hp hne
   | cons z zs =>
    rw [hp] at hx ih
    simp only [List.headD_cons,List.tail_cons] at hx
    rcases List.mem_cons.1 hx with rfl | h
    ·
     have:=ih z (by simp);simp;omega
    ·
     have:=ih x (by simp [h]);simp;omega
theorem splitd (w:World) (s:ByteArray) (hs:s.size≤1048576) (hV:Vs w) :
  Calls Tryz.prog 58 #[.string s,.string ⟨#[10]⟩] w fun e w'=>∃ cap,e=.returned (.slice (some ⟨w.heap.size,0,none⟩) (Pc.pieces 10 s.data.toList).length cap)∧w.heap.size<w'.heap.size∧(∀ j (hj:j<(Pc.pieces 10 s.data.toList).length),w'.cell? ⟨w.heap.size,j,none⟩=some (.string (Pc.ba ((Pc.pieces 10 s.data.toList)[j]))))∧Below w.heap.size w w':=by
 obtain ⟨m,hm⟩:=hV.2.1
 refine (Tryz.strings_Split s ⟨#[10]⟩ m w (by omega) hm (by decide)).mono ?_
 rintro e w' ⟨rfl,rfl⟩
 have hl:(Pc.pcs 10 s.data.toList).length=Lib.countB s ⟨#[10]⟩+1:=by
  rw [← Pc.splitB_pcs];exact Lib.splitB_all ⟨#[10]⟩ (by decide) 0 _ s rfl
 have hl2:(Pc.pieces 10 s.data.toList).length=Lib.countB s ⟨#[10]⟩+1:=by
  rw [← hl,Pc.pcs,List.length_map]
 rw [Pc.splitB_pcs]
 refine ⟨_,by rw [hl2],by simp,fun j hj=>?_,(Below.refl _ _).alloc (Nat.le_refl _) _⟩
 simp [World.cell?_alloc_new,Pc.pcs,hj]
theorem fx_bel {b lo:Nat} {w0 w w1:World} (hf:Fr (Fx b lo) w w1) (hb:w0.heap.size≤b) (hl:w0.heap.size≤lo) (h:Below w0.heap.size w0 w):Below w0.heap.size w0 w1 :=
 h.trans ⟨hf.os,hf.tape,hf.output,hf.size,fun k hk=>hf.block k (by have:=h.size;omega) (by unfold Fx;omega)⟩
theorem rd_some {st st':St} {l:List UInt8} {ls:List (List UInt8)} (h:dLine st l=some st') (hs:0<st.left ∨ ¬ first l=wSum):rd (l :: ls) st=rd ls st':=by
 rw [rd,h]
 by_cases h1:0<st.left
 ·
  rw [if_pos h1]
 ·
  rw [if_neg h1,if_neg (hs.resolve_left h1)]
theorem rd_none {st:St} {l:List UInt8} {ls:List (List UInt8)} (h:dLine st l=none) (hs:0<st.left ∨ ¬ first l=wSum):rd (l :: ls) st=none:=by
 rw [rd,h]
 by_cases h1:0<st.left
 ·
  rw [if_pos h1]
 ·
  rw [if_neg h1,if_neg (hs.resolve_left h1)]
theorem rd_sum {st:St} {l:List UInt8} {ls:List (List UInt8)} (h1:¬ 0<st.left) (h2:first l=wSum):rd (l :: ls) st=some st:=by
 rw [rd,if_neg h1,if_pos h2]
theorem ba_is {f:ByteArray} {l x:List UInt8} (h:f.data.toList=l):f=⟨x.toArray⟩↔l=x:=by
 subst h
 constructor
 ·
  intro e;rw [e]
 ·
  intro e;rw [← e]
theorem zero_sz:(⟨zero,0⟩:St).m.sz=0:=rfl
set_option maxHeartbeats 8000000 in
theorem iread (w0 w:World) (b:Nat) (s:ByteArray) (hV:Vs w0) (hB0:Below w0.heap.size w0 w) (hb0:w0.heap.size≤b) (bx:Wr w b 0 (gcells ⟨zero,0⟩ none 0 none 0)) (hs:s.size≤30000) :
  Calls Tryz.prog 28 #[.pointer (some ⟨b,0,none⟩),.string s] w fun e w'=>((∃ st lo ak ck ax ct,rdt s.data.toList ⟨zero,0⟩=some st∧e=.returned (.bool true)∧w.heap.size≤lo∧Gs w' b lo st ak ck ax ct∧st.m.sz≤100000) ∨ (rdt s.data.toList ⟨zero,0⟩=none∧e=.returned (.bool false)))∧Fr (Fx b w.heap.size) w w':=by
 have HPT:=pieces_tot 10 s.data.toList
 have hne:=Pc.pieces_ne 10 s.data.toList
 have hsz:s.data.toList.length=s.size:=by simp
 have HRT:Hid (rdt s.data.toList ⟨zero,0⟩=rd (Pc.pieces 10 s.data.toList) ⟨zero,0⟩):=rfl
 have hpm:∀ x ∈ Pc.pieces 10 s.data.toList,x.length≤30000:=fun x hx=>by
  obtain ⟨j,hj,rfl⟩:=List.getElem_of_mem hx
  have h1:=tot_succ (Pc.pieces 10 s.data.toList) j hj
  have h2:=tot_le (Pc.pieces 10 s.data.toList) (j+1)
  have h3:=piece_len 10 s.data.toList _ (List.getElem_mem hj)
  omega
 go_enter Tryz.func28,Tryz.ntmps28
 go_wp2_with fail
 go_step3
 go_wp2_with fail
 go_step3
 go_wp2_with fail
 refine (splitd w s (by omega) (hV.below hB0)).mono ?_
 rintro e w1 ⟨cap,rfl,hxb,hxc,hB⟩
 generalize Pc.pieces 10 s.data.toList=L at HPT hxc HRT hpm hne ⊢
 obtain ⟨n,hn⟩:∃ n,L.length=n:=⟨_,rfl⟩
 rw [hn]
 obtain ⟨xb,hxe⟩:∃ xb,w.heap.size=xb:=⟨_,rfl⟩
 have HXN:Hid (w.heap.size=xb):=hxe
 rw [hxe] at hxb hxc ⊢
 obtain ⟨lo,hlo⟩:∃ lo,w1.heap.size=lo:=⟨_,rfl⟩
 have HG0:Hid (Gs w1 b lo ⟨zero,0⟩ none 0 none 0):=⟨bx.below hB,⟨fun _=>True,OwK.nil _ _,OwT.nil _ _⟩,by have:=bx.1;have:=hB.size;omega,by omega,by decide⟩
 have HXB:Hid (xb<w1.heap.size∧∀ j (hj:j<L.length),w1.cell? ⟨xb,j,none⟩=some (.string (Pc.ba (L[j]'hj)))):=⟨hxb,hxc⟩
 have HNX:Hid (¬ xb=b):=fun e=>by have h1:=bx.1;have h2:=HXN.out;omega
 have HFW:Hid (Fr (Fx b w.heap.size) w w1):=fx_below hB
 have HFX:Hid (∀ y,Fx b lo y→Fx b w.heap.size y):=fun y hy=>by have:=hB.size;unfold Fx at hy ⊢;omega
 have HLO:Hid (w.heap.size≤lo):=by have:=hB.size;show _≤_;omega
 have HB01:Hid (Below w0.heap.size w0 w1):=hB0.trans (hB.mono hB0.size)
 have HL0:Hid (w0.heap.size≤lo):=by have:=HB01.out.size;show _≤_;omega
 have HB0:Hid (w0.heap.size≤b):=hb0
 have HL1:Hid (w1.heap.size=lo):=hlo
 have HV:Hid (type_of% hV):=hV
 have HLN:Hid (L.length=n):=hn
 have HTO:Hid (∀ k,tot k L≤3 * s.size+3):=fun k=>by have h1:=tot_le L k;have h2:=HPT.1;omega
 have HPM:Hid (type_of% hpm):=hpm
 have hn3:n≤30001:=by omega
 clear hxe hxb hxc hV hn hlo hb0 hB0 hB bx hne HPT hpm hsz
 go_wp2_with fail
 go_loopw [14] (fun i wr=>∃ (k:Nat) (st:St) (ak:Option Addr) (ck:Nat) (ax:Option Addr) (ct:Nat),k≤n∧i=.int .i64 k∧Gs wr b lo st ak ck ax ct∧rd L ⟨zero,0⟩=rd (L.drop k) st∧Ok st (tot k L)∧Fr (Fx b lo) w1 wr) (fun i _=>n-(intOf i).toNat)
 case atStart=>exact ⟨0,⟨zero,0⟩,none,0,none,0,Nat.zero_le _,rfl,HG0.out,rfl,⟨by rw [zero_sz];omega,fun h=>absurd h (by decide)⟩,Fr.refl _ _⟩
 case round =>
  clear HG0
  obtain ⟨k,st,ak,ck,ax,ct,hk,rfl,hg,hrd,hok,hf⟩:=hrel
  have HRD:Hid (type_of% hrd):=hrd
  have HOK:Hid (type_of% hok):=hok
  have HF:Hid (type_of% hf):=hf
  have HG:Hid (type_of% hg):=hg
  have HSZ:Hid (st.m.sz≤100000):=by have h1:=hok.1;have h2:=HTO.out k;show _≤_;omega
  have hlw:xb<wr.heap.size:=Nat.lt_of_lt_of_le HXB.out.1 hf.size
  clear hrd hok hg
  by_cases hlt:k<n
  ·
   have HKL:Hid (k<L.length):=by have:=HLN.out;show _<_;omega
   have d:wr.cell? ⟨xb,k,none⟩=some (.string (Pc.ba (L[k]'HKL.out))):=(World.cell?_of_block (a:=⟨xb,k,none⟩) (hf.block xb HXB.out.1 (fun e=>by rcases e with e | e;exact HNX.out e;have h1:=HXB.out.1;have h2:=HL1.out;omega))).trans (HXB.out.2 k HKL.out)
   have HDR:Hid (L.drop k=L[k]'HKL.out :: L.drop (k+1)):=by show _=_;exact List.drop_eq_getElem_cons HKL.out
   have HTS:Hid (tot (k+1) L=tot k L+(L[k]'HKL.out).length+3):=tot_succ L k HKL.out
   have hll:=HPM.out _ (List.getElem_mem HKL.out)
   generalize L[k]'HKL.out=l at d HDR HTS hll
   clear hf
   go_wp2_with fail
   have hbs:(Pc.ba l).size=l.length:=Pc.ba_size l
   have hcl:=cut_len l 32
   have HV5:Hid (Vs wr):=HV.out.below (fx_bel HF.out HB0.out HL0.out HB01.out)
   refine (cutc wr (Pc.ba l) 32 (by omega) HV5.out).mono ?_
   rintro e w5 ⟨rfl,hB5⟩
   rw [Pc.ba_data]
   have HB5:Hid (type_of% hB5):=hB5
   have HV6:Hid (Vs w5):=HV5.out.below hB5
   have hfd:(Pc.ba (Lib.cut l [32]).1).data.toList=first l:=Pc.ba_data _
   have hrs:(Pc.ba (Lib.cut l [32]).2.1).data.toList=rest l:=Pc.ba_data _
   have hf1:(Pc.ba (Lib.cut l [32]).1).size≤30000:=by rw [Pc.ba_size];omega
   have hr1:(Pc.ba (Lib.cut l [32]).2.1).size≤30000:=by rw [Pc.ba_size];omega
   generalize Pc.ba (Lib.cut l [32]).1=f at hfd hf1 ⊢
   generalize Pc.ba (Lib.cut l [32]).2.1=r at hrs hr1 ⊢
   generalize (Lib.cut l [32]).2.2=cc
   have HFD:Hid (f.data.toList=first l):=hfd
   have HRS:Hid (r.data.toList=rest l):=hrs
   have HG5:Hid (Gs w5 b lo st ak ck ax ct):=HG.out.below hB5
   obtain ⟨hbl5,⟨c0,c1,c2,c3,c4,c5,c6⟩,_⟩:=wr7 HG5.out.bx
   clear hB5 hfd hrs hcl hbs d c0 c1 c2 c3 c4 c5 hll
   by_cases hl:0<st.left
   ·
    have HKW:Hid (∀ t ∈ st.m.ks,t.ws.length≤1000000∧t.vs.length≤1000000):=fun t ht=>by obtain ⟨q,hq,rfl⟩:=List.getElem_of_mem ht;have h1:=Kt.ksz_at st.m.ks q hq;have h2:=HSZ.out;unfold M.sz at h2;omega
    have HDL:Hid (dLine st l=dWord st f.data.toList r.data.toList):=by show _=_;rw [HFD.out,HRS.out];unfold dLine;rw [if_pos hl]
    have HNS:Hid (0<st.left ∨ ¬ first l=wSum):=.inl hl
    go_wp2_with fail
    refine (iword w5 b lo st ak ax ck ct HG5.out HV6.out f r hf1 hr1 (HOK.out.2 hl) (by have h1:=HSZ.out;unfold M.sz at h1;omega) HKW.out hl).mono ?_
    rintro e w6 ⟨he,hF6⟩
    have HF6:Hid (Fr (Fx b lo) w1 w6):=(HF.out.trans (fx_below HB5.out)).trans hF6
    clear hF6
    rcases he with ⟨st',hd,rfl,hg6⟩ | ⟨hd,rfl⟩
    ·
     have HG6:Hid (type_of% hg6):=hg6
     have HRD6:Hid (rd L ⟨zero,0⟩=rd (L.drop (k+1)) st'):=by
      show _=_
      rw [HRD.out,HDR.out,rd_some (HDL.out.trans hd) HNS.out]
     have HOK6:Hid (Ok st' (tot (k+1) L)):=by
      show Ok _ _
      rw [HTS.out]
      exact ok_line HOK.out (HDL.out.trans hd)
     clear hd hg6 c6
     go_wp2
     go_roundw
     case rel=>exact ⟨k+1,st',ak,ck,ax,ct,by omega,by go_num,HG6.out,HRD6.out,HOK6.out,HF6.out⟩
     case measure=>simp [intOf];omega
    ·
     have HRD6:Hid (rd L ⟨zero,0⟩=none):=by
      show _=_
      rw [HRD.out,HDR.out,rd_none (HDL.out.trans hd) HNS.out]
     clear hd c6
     go_wp2
     rw [Exit.noGoto_ret]
     go_ret
     exact ⟨.inr ⟨HRT.out.trans HRD6.out,rfl⟩,HFW.out.trans (HF6.out.mono HFX.out)⟩
   ·
    have hl':st.left≤0:=by omega
    by_cases h1:f=⟨#[109,111,100,101,108]⟩
    ·
     have HM:Hid (first l=wModel):=(ba_is HFD.out).1 h1
     have qh1:=Ls.tl_eq h1
     have HDL:Hid (dLine st l=dHead st r.data.toList):=by show _=_;rw [HRS.out];unfold dLine;rw [if_neg hl]; rw [if_pos HM.out]
     have HNS:Hid (0<st.left ∨ ¬ first l=wSum):=.inr (by rw [HM.out];decide)
     go_wp2_with fail
     refine (ihead w5 b lo st ak ax ck ct HG5.out HV6.out r hr1).mono ?_
     rintro e w6 ⟨he,hF6⟩
     have HF6:Hid (Fr (Fx b lo) w1 w6):=(HF.out.trans (fx_below HB5.out)).trans hF6
     clear hF6
     rcases he with ⟨st',hd,rfl,hg6⟩ | ⟨hd,rfl⟩
     ·
      have HG6:Hid (type_of% hg6):=hg6
      have HRD6:Hid (rd L ⟨zero,0⟩=rd (L.drop (k+1)) st'):=by
       show _=_
       rw [HRD.out,HDR.out,rd_some (HDL.out.trans hd) HNS.out]
      have HOK6:Hid (Ok st' (tot (k+1) L)):=by
       show Ok _ _
       rw [HTS.out]
       exact ok_line HOK.out (HDL.out.trans hd)
      clear hd hg6 c6
      go_wp2
      go_roundw
      case rel=>exact ⟨k+1,st',ak,ck,ax,ct,by omega,by go_num,HG6.out,HRD6.out,HOK6.out,HF6.out⟩
      case measure=>simp [intOf];omega
     ·
      have HRD6:Hid (rd L ⟨zero,0⟩=none):=by
       show _=_
       rw [HRD.out,HDR.out,rd_none (HDL.out.trans hd) HNS.out]
      clear hd c6
      go_wp2
      rw [Exit.noGoto_ret]
      go_ret
      exact ⟨.inr ⟨HRT.out.trans HRD6.out,rfl⟩,HFW.out.trans (HF6.out.mono HFX.out)⟩
    have q1:=Ls.tl_ne h1
    by_cases h2:f=⟨#[99,116,114]⟩
    ·
     have HM:Hid (first l=wCtr):=(ba_is HFD.out).1 h2
     have qh2:=Ls.tl_eq h2
     have HDL:Hid (dLine st l=dCtr st r.data.toList):=by show _=_;rw [HRS.out];unfold dLine;rw [if_neg hl];rw [if_neg (by rw [HM.out];decide)];rw [if_pos HM.out]
     have HNS:Hid (0<st.left ∨ ¬ first l=wSum):=.inr (by rw [HM.out];decide)
     go_wp2_with fail
     refine (ictr w5 b lo st ak ax ck ct HG5.out HV6.out r hr1 (by have h1:=HSZ.out;unfold M.sz at h1;omega)).mono ?_
     rintro e w6 ⟨he,hF6⟩
     have HF6:Hid (Fr (Fx b lo) w1 w6):=(HF.out.trans (fx_below HB5.out)).trans hF6
     clear hF6
     rcases he with ⟨st',ak',ck',hd,rfl,hg6⟩ | ⟨hd,rfl⟩
     ·
      have HG6:Hid (type_of% hg6):=hg6
      have HRD6:Hid (rd L ⟨zero,0⟩=rd (L.drop (k+1)) st'):=by
       show _=_
       rw [HRD.out,HDR.out,rd_some (HDL.out.trans hd) HNS.out]
      have HOK6:Hid (Ok st' (tot (k+1) L)):=by
       show Ok _ _
       rw [HTS.out]
       exact ok_line HOK.out (HDL.out.trans hd)
      clear hd hg6 c6
      go_wp2
      go_roundw
      case rel=>exact ⟨k+1,st',ak',ck',ax,ct,by omega,by go_num,HG6.out,HRD6.out,HOK6.out,HF6.out⟩
      case measure=>simp [intOf];omega
     ·
      have HRD6:Hid (rd L ⟨zero,0⟩=none):=by
       show _=_
       rw [HRD.out,HDR.out,rd_none (HDL.out.trans hd) HNS.out]
      clear hd c6
      go_wp2
      rw [Exit.noGoto_ret]
      go_ret
      exact ⟨.inr ⟨HRT.out.trans HRD6.out,rfl⟩,HFW.out.trans (HF6.out.mono HFX.out)⟩
    have q2:=Ls.tl_ne h2
    by_cases h3:f=⟨#[116,114,101,101]⟩
    ·
     have HM:Hid (first l=wTree):=(ba_is HFD.out).1 h3
     have qh3:=Ls.tl_eq h3
     have HDL:Hid (dLine st l=dTree st r.data.toList):=by show _=_;rw [HRS.out];unfold dLine;rw [if_neg hl];rw [if_neg (by rw [HM.out];decide)];rw [if_neg (by rw [HM.out];decide)];rw [if_pos HM.out]
     have HNS:Hid (0<st.left ∨ ¬ first l=wSum):=.inr (by rw [HM.out];decide)
     go_wp2_with fail
     refine (itree w5 b lo st ak ax ck ct HG5.out HV6.out r hr1 (by have h1:=HSZ.out;unfold M.sz at h1;omega)).mono ?_
     rintro e w6 ⟨he,hF6⟩
     have HF6:Hid (Fr (Fx b lo) w1 w6):=(HF.out.trans (fx_below HB5.out)).trans hF6
     clear hF6
     rcases he with ⟨st',ax',ct',hd,rfl,hg6⟩ | ⟨hd,rfl⟩
     ·
      have HG6:Hid (type_of% hg6):=hg6
      have HRD6:Hid (rd L ⟨zero,0⟩=rd (L.drop (k+1)) st'):=by
       show _=_
       rw [HRD.out,HDR.out,rd_some (HDL.out.trans hd) HNS.out]
      have HOK6:Hid (Ok st' (tot (k+1) L)):=by
       show Ok _ _
       rw [HTS.out]
       exact ok_line HOK.out (HDL.out.trans hd)
      clear hd hg6 c6
      go_wp2
      go_roundw
      case rel=>exact ⟨k+1,st',ak,ck,ax',ct',by omega,by go_num,HG6.out,HRD6.out,HOK6.out,HF6.out⟩
      case measure=>simp [intOf];omega
     ·
      have HRD6:Hid (rd L ⟨zero,0⟩=none):=by
       show _=_
       rw [HRD.out,HDR.out,rd_none (HDL.out.trans hd) HNS.out]
      clear hd c6
      go_wp2
      rw [Exit.noGoto_ret]
      go_ret
      exact ⟨.inr ⟨HRT.out.trans HRD6.out,rfl⟩,HFW.out.trans (HF6.out.mono HFX.out)⟩
    have q3:=Ls.tl_ne h3
    by_cases h4:f=⟨#[115,117,109]⟩
    ·
     have HM:Hid (first l=wSum):=(ba_is HFD.out).1 h4
     have q4:=Ls.tl_eq h4
     have HE:Hid (rdt s.data.toList ⟨zero,0⟩=some st):=by
      show _=_
      rw [HRT.out,HRD.out,HDR.out,rd_sum hl HM.out]
     have HF5:Hid (Fr (Fx b lo) w1 w5):=HF.out.trans (fx_below HB5.out)
     go_wp2
     rw [Exit.noGoto_ret]
     go_ret
     exact ⟨.inl ⟨st,lo,ak,ck,ax,ct,HE.out,rfl,HLO.out,HG5.out,HSZ.out⟩,HFW.out.trans (HF5.out.mono HFX.out)⟩
    ·
     have q4:=Ls.tl_ne h4
     rw [show (ByteArray.mk #[109,111,100,101,108]).toList=[109,111,100,101,108] by kernel_rfl] at q1
     rw [show (ByteArray.mk #[99,116,114]).toList=[99,116,114] by kernel_rfl] at q2
     rw [show (ByteArray.mk #[116,114,101,101]).toList=[116,114,101,101] by kernel_rfl] at q3
     rw [show (ByteArray.mk #[115,117,109]).toList=[115,117,109] by kernel_rfl] at q4
     have HE:Hid (rdt s.data.toList ⟨zero,0⟩=none):=by
      have n1:¬ first l=wModel:=mt (ba_is HFD.out).2 h1
      have n2:¬ first l=wCtr:=mt (ba_is HFD.out).2 h2
      have n3:¬ first l=wTree:=mt (ba_is HFD.out).2 h3
      have n4:¬ first l=wSum:=mt (ba_is HFD.out).2 h4
      show _=_
      rw [HRT.out,HRD.out,HDR.out,rd_none (by unfold dLine;rw [if_neg hl,if_neg n1,if_neg n2,if_neg n3]) (.inr n4)]
     have HF5:Hid (Fr (Fx b lo) w1 w5):=HF.out.trans (fx_below HB5.out)
     go_wp2
     rw [Exit.noGoto_ret]
     go_ret
     exact ⟨.inr ⟨HE.out,rfl⟩,HFW.out.trans (HF5.out.mono HFX.out)⟩
  ·
   obtain rfl:k=n:=by omega
   have HE:Hid (rdt s.data.toList ⟨zero,0⟩=some st):=by
    show _=_
    rw [HRT.out,HRD.out,List.drop_of_length_le (by have:=HLN.out;omega)]
    rfl
   clear hf
   go_wp2
   rw [Exit.noGoto_ret]
   go_ret
   exact ⟨.inl ⟨st,lo,ak,ck,ax,ct,HE.out,rfl,HLO.out,HG.out,HSZ.out⟩,HFW.out.trans (HF.out.mono HFX.out)⟩
end Go.Proofs.YtaojoamldoofpaaGreatDoor.Rm
namespace Go.Proofs.YtaojoamldoofpaaGreatDoor.Bd
open Go.RowKit
def ren:Go.Shelf.Ren:=⟨fun | 166=>47 | 240=>78 | 276=>106 | n=>n,fun | 9=>9 | 3=>3 | 4=>4 | 0=>0 | 20=>20 | 72=>90 | 76=>93 | 70=>88 | 37=>22 | 75=>92 | 164=>157 | 5=>5 | 80=>97 | n=>n,fun | n=>n⟩
theorem lays:Go.Proofs.Lays.n166 Tryz.prog ren:={
 mixed:=by kernel_rfl
 f166:=Tryz.func47.trans (congrArg some (by kernel_rfl))
 f240:=Tryz.func78.trans (congrArg some (by kernel_rfl))
 f276:=Tryz.func106.trans (congrArg some (by kernel_rfl))
 t0:=Tryz.underlying0,a0:=Tryz.isAgg0,z0:=Tryz.sizeOf0,v0:=Tryz.zeroValue0
 t3:=Tryz.underlying3,a3:=Tryz.isAgg3,z3:=Tryz.sizeOf3,v3:=Tryz.zeroValue3
 t4:=Tryz.underlying4,a4:=Tryz.isAgg4,z4:=Tryz.sizeOf4,v4:=Tryz.zeroValue4
 t9:=Tryz.underlying9,a9:=Tryz.isAgg9,z9:=Tryz.sizeOf9,v9:=Tryz.zeroValue9
 t20:=Tryz.underlying20,a20:=Tryz.isAgg20,z20:=Tryz.sizeOf20,v20:=Tryz.zeroValue20
 t37:=Tryz.underlying22,a37:=Tryz.isAgg22,z37:=Tryz.sizeOf22,v37:=Tryz.zeroValue22
 t70:=Tryz.underlying88,a70:=Tryz.isAgg88,z70:=Tryz.sizeOf88,v70:=Tryz.zeroValue88
 t72:=Tryz.underlying90,a72:=Tryz.isAgg90,z72:=Tryz.sizeOf90,v72:=Tryz.zeroValue90
 t75:=Tryz.underlying92,a75:=Tryz.isAgg92,z75:=Tryz.sizeOf92,v75:=Tryz.zeroValue92
 t164:=Tryz.underlying157,a164:=Tryz.isAgg157,z164:=Tryz.sizeOf157,v164:=Tryz.zeroValue157 }
theorem extra:Builder.Extra Tryz.prog ren:={
 sizeBuilder:=by kernel_rfl
 liesBuilder:=by kernel_rfl
 t5:=Tryz.underlying5
 a5:=Tryz.isAgg5
 z5:=Tryz.sizeOf5
 v5:=Tryz.zeroValue5
 infoByte:=by kernel_rfl
 cellsByte:=by kernel_rfl
 sizeByte:=by kernel_rfl
 neB5:=by decide }
theorem write (B b:Nat) (bs:List Value) (s:ByteArray) (w:World) (h:Lib.IsBuilder 90 5 B b bs w) (hlen:bs.length+s.size≤140737488355328) (hBw:B≤w.heap.size) :
  Calls Tryz.prog 47 #[.pointer (some ⟨b,0,none⟩),.string s] w fun e w'=>e=.returned (.tuple #[.int .i64 s.size,.nilIface])∧(Lib.BuilderAt 90 5 B b (.pointer (some ⟨b,0,none⟩)) (bs ++ Lib.strCells s) w'∧Below B w w') :=
 Any.Builder_WriteString lays extra B b bs s w h hlen hBw
end Go.Proofs.YtaojoamldoofpaaGreatDoor.Bd
namespace Go.Proofs.YtaojoamldoofpaaGreatDoor.Mt
set_option maxRecDepth 100000
open Go.RowKit
theorem ownsRow_atM {w w1:World} {base:Nat} {e:TypeId} {size:Nat} {v:Value} {n:Nat} {xs:List Value} (h:w.ownsRow base e size v n xs) (hk:∀ k,v.ownBlock=some k→w1.heap[k]? = w.heap[k]?):w1.ownsRow base e size v n xs:=by
 refine ⟨h.1,?_⟩
 rcases h.2 with h | ⟨g,cap,cur,rfl,hb,hh,r⟩
 ·
  exact .inl h
 ·
  exact .inr ⟨g,cap,cur,rfl,hb,by rw [hk g rfl];exact hh,r⟩
theorem builder_below {T e:TypeId} {B b:Nat} {bs:List Value} {w w':World} (h:Lib.IsBuilder T e B b bs w) (hB:Below w.heap.size w w'):Lib.IsBuilder T e B b bs w':=by
 have one:∀ {p:Value},Lib.BuilderAt T e B b p bs w→Lib.BuilderAt T e B b p bs w':=fun {p} h=>by
  obtain ⟨h1,v,hb,ho,hne⟩:=h
  have hlt:b<w.heap.size:=(Array.getElem?_eq_some_iff.1 hb).1
  exact ⟨h1,v,by rw [hB.block b hlt];exact hb,ownsRow_atM ho (fun k e=>hB.block k (World.ownsRow.lt ho k e).2),hne⟩
 rcases h with h | h
 ·
  exact .inl (one h)
 ·
  exact .inr (one h)
def Bu (w:World) (B b:Nat) (l:List UInt8):Prop:=Lib.IsBuilder 90 5 B b (Lib.byteCells l) w
theorem Bu.below {w w':World} {B b:Nat} {l:List UInt8} (h:Bu w B b l) (hB:Below w.heap.size w w'):Bu w' B b l:=builder_below h hB
theorem bu_new (w:World) (b:Nat) (hb:b=w.heap.size):∃ W,w.alloc (.cells #[.pointer none,.slice none 0 0] 90)=W∧Below w.heap.size w W∧Bu W w.heap.size b []∧W.heap.size=w.heap.size+1:=by
 subst hb
 exact ⟨_,rfl,(Below.refl _ _).alloc (Nat.le_refl _) _,Lib.fresh_isBuilder _ _ _,by simp⟩
theorem wrote (w:World) (B b:Nat) (l:List UInt8) (s:ByteArray) (h:Bu w B b l) (hl:l.length+s.size≤1000000) (hB:B≤w.heap.size) :
  Calls Tryz.prog 47 #[.pointer (some ⟨b,0,none⟩),.string s] w fun e w'=>e=.returned (.tuple #[.int .i64 s.size,.nilIface])∧Bu w' B b (l ++ s.data.toList)∧Below B w w':=by
 refine (Bd.write _ _ _ _ _ h (by rw [bc_len];omega) hB).mono ?_
 rintro e w' ⟨rfl,h1,h2⟩
 refine ⟨rfl,?_,h2⟩
 unfold Bu
 rw [← cells_more]
 exact .inr h1
theorem told (w:World) (B b:Nat) (l:List UInt8) (h:Bu w B b l) (hB:B≤w.heap.size) :
  Calls Tryz.prog 51 #[.pointer (some ⟨b,0,none⟩)] w fun e w'=>e=.returned (.string ⟨l.toArray⟩)∧Below B w w':=by
 refine (Tryz.Builder_String_any _ _ _ _ h hB).mono ?_
 rintro e w' ⟨rfl,h2⟩
 exact ⟨rfl,h2⟩
set_option maxHeartbeats 2000000 in
theorem ispaced (w:World) (a:Option Addr) (c:Nat) (l:List Int) (h:Li.IsL w a l) (hb:∀ x ∈ l,i64 x) (hl:l.length≤1000) (hT:Nu.Tab w) :
  Calls Tryz.prog 23 #[.slice a l.length c] w fun e w'=>e=.returned (.string ⟨(nums l).toArray⟩)∧Below w.heap.size w w':=by
 go_enter Tryz.func23,Tryz.ntmps23
 go_wp2
 obtain ⟨W,hW,hB0,hbu,hsz⟩:=bu_new w _ rfl
 rw [hW]
 clear hW hsz
 go_loopw [8] (fun i wr=>∃ k:Nat,k≤l.length∧i=.int .i64 k∧Bu wr w.heap.size w.heap.size (nums (l.take k))∧Below w.heap.size w wr) (fun i _=>l.length-(intOf i).toNat)
 case atStart=>exact ⟨0,Nat.zero_le _,rfl,hbu,hB0⟩
 case round =>
  obtain ⟨k,hk,rfl,hbl,hBr⟩:=hrel
  by_cases hlt:k<l.length
  ·
   rcases h.below hBr with h0 | ⟨xb,xo,rfl,hxb,hxc⟩
   ·
    rw [h0] at hlt;simp at hlt
   have hcx:=hxc k hlt
   have hx:=hb l[k] (List.getElem_mem hlt)
   have HN:Hid (nums (l.take (k+1))=nums (l.take k) ++ 32 :: Lib.itoa l[k]):=nums_take l k hlt
   have hnl:(nums (l.take k)).length≤22000:=by
    have h1:=nums_len (l.take k) (take_mem hb k)
    have h2:=List.length_take_le k l
    omega
   obtain ⟨x,hx0⟩:∃ x,l[k]=x:=⟨_,rfl⟩
   rw [hx0] at HN hx hcx
   clear hxc hx0
   have hil:=Nu.itoa_len x hx.1 hx.2
   go_wp2_with fail
   refine (Nu.inum _ _ hx.1 hx.2 (hT.below hBr)).mono ?_
   rintro e w1 ⟨rfl,hB1⟩
   have hbl:=hbl.below hB1
   have hBr:=hBr.trans (hB1.mono hBr.size)
   clear hB1 hcx hxb
   go_wp2_with fail
   refine (wrote _ _ _ _ _ hbl (by rw [ByteArray.size_append,ba_size];simp only [ByteArray.size];simp;omega) hBr.size).mono ?_
   rintro e w2 ⟨rfl,hb2,hB2⟩
   have hBr:=hBr.trans hB2
   have HB:Hid (Bu w2 w.heap.size w.heap.size (nums (l.take (k+1)))):=by
    show Bu _ _ _ _
    rw [HN.out]
    simpa using hb2
   clear hb2 hB2 hbl
   go_wp2
   go_roundw
   case rel=>exact ⟨k+1,by omega,by go_num,HB.out,hBr⟩
   case measure=>simp [intOf];omega
  ·
   have hbl:Bu wr w.heap.size w.heap.size (nums l):=by rwa [List.take_of_length_le (by omega)] at hbl
   go_wp2_with fail
   refine (told _ _ _ _ hbl hBr.size).mono ?_
   rintro e w3 ⟨rfl,hB3⟩
   have hBr:=hBr.trans hB3
   go_wp2
   go_ret
   exact ⟨rfl,hBr⟩
end Go.Proofs.YtaojoamldoofpaaGreatDoor.Mt
