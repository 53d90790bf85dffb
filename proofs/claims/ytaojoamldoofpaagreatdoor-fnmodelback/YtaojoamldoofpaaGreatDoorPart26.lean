/-
  Contracts that the proof leans on, put together in the order in which they build.
-/
import Derived.Test.YtaojoamldoofpaaGreatDoorPart22
import Derived.Test.YtaojoamldoofpaaGreatDoorPart25
import Derived.Test.YtaojoamldoofpaaGreatDoorPart8
import Derived.Deep.Cut
set_option linter.unusedVariables false
namespace Go.Proofs.YtaojoamldoofpaaGreatDoor.Mt
set_option maxRecDepth 100000
open Go.RowKit
open Md (M mok mok_parts kok kok_parts Rm wr6)
open Kt (Kv IsK)
open Tm (IsT IsP)
open Sv (new1 Wr wr2)
set_option maxHeartbeats 2000000 in
theorem ihead (w:World) (ak ax:Option Addr) (ck ct:Nat) (m:M) (hm:Mn m) (hT:Nu.Tab w) :
  Calls Tryz.prog 48 #[.agg #[.int .i64 m.n,.int .i64 m.c,.int .i64 m.prior,.int .i64 m.base,.slice ak m.ks.length ck,.slice ax m.ts.length ct]] w fun e w'=>e=.returned (.string ⟨(head m).toArray⟩)∧Below w.heap.size w w':=by
 have HH:Hid (head m=[109,111,100,101,108] ++ nums [m.n,m.c,m.prior,m.base] ++ [10]):=rfl
 have hnl:(nums [m.n,m.c,m.prior,m.base]).length≤88:=nums_len _ hm.h
 go_enter Tryz.func48,Tryz.ntmps48
 go_wp2_with fail
 obtain ⟨W,hW,hsz,hB,bm⟩:=new1 w [.int .i64 m.n,.int .i64 m.c,.int .i64 m.prior,.int .i64 m.base,.slice ak m.ks.length ck,.slice ax m.ts.length ct] 29
 rw [hW]
 clear hW
 have hB1:Below w.heap.size w (W.alloc (.cells #[.int .i64 m.n,.int .i64 m.c,.int .i64 m.prior,.int .i64 m.base] 3)):=hB.alloc hB.size _
 refine (ispaced _ _ _ [m.n,m.c,m.prior,m.base] (isl_lit W [m.n,m.c,m.prior,m.base] 3 _ _ hsz.symm rfl) hm.h (by simp) (hT.below hB1)).mono ?_
 rintro e w1 ⟨rfl,hB2⟩
 have hB:=hB1.trans (hB2.mono hB1.size)
 clear hB1 hB2
 go_wp2
 go_ret
 exact ⟨ret_str (ba_ext (by rw [HH.out];simp)),hB⟩
set_option maxHeartbeats 2000000 in
theorem ictxt (w:World) (a0 a1:Option Addr) (c0 c1:Nat) (t:Kv) (h0:Ls.IsS w a0 t.ws) (h1:Li.IsL w a1 t.vs) (hk:Kn t) (hT:Nu.Tab w) :
  Calls Tryz.prog 49 #[.agg #[.slice a0 t.ws.length c0,.slice a1 t.vs.length c1]] w fun e w'=>e=.returned (.string ⟨(ctxt t).toArray⟩)∧Below w.heap.size w w':=by
 obtain ⟨k1,k2,k3,k4⟩:=hk
 have HH:Hid (ctxt t=[99,116,114] ++ nums [(t.ws.length:Int)] ++ [10] ++ wlines t.vs t.ws):=rfl
 obtain ⟨n,hn⟩:∃ n,t.ws.length=n:=⟨_,rfl⟩
 have hi:∀ x ∈ [(n:Int)],i64 x:=by intro x hx;simp at hx;subst hx;unfold i64;omega
 have hnl:=nums_len _ hi
 rw [hn] at k1 k2 HH
 rw [k2,hn]
 have HK2:Hid (t.vs.length=n):=k2
 have HKN:Hid (t.ws.length=n):=hn
 clear k2 hn
 simp only [List.length_cons,List.length_nil] at hnl
 go_enter Tryz.func49,Tryz.ntmps49
 go_wp2_with fail
 obtain ⟨W,hW,hsz,hB,bm⟩:=new1 w [.slice a0 n c0,.slice a1 n c1] 47
 rw [hW]
 obtain ⟨W1,hW1,hBb,hbu,hs1⟩:=bu_new W (w.heap.size+1) hsz.symm
 rw [hW1]
 clear hW hW1
 have hB2:Below W1.heap.size W1 (W1.alloc (.cells #[.int .i64 n] 3)):=(Below.refl _ _).alloc (Nat.le_refl _) _
 have hB1:=hBb.trans (hB2.mono hBb.size)
 have hT:=hT.below hB
 refine (ispaced _ _ _ [(n:Int)] (isl_lit W1 [(n:Int)] 3 _ _ (by omega) rfl) hi (by simp) (hT.below hB1)).mono ?_
 rintro e w2 ⟨rfl,hB3⟩
 have hbu:=(hbu.below hB2).below hB3
 have hBr:=hB1.trans (hB3.mono hB1.size)
 clear hB1 hB2 hB3 hBb hs1 hsz
 obtain ⟨_,⟨x0,x1⟩,_⟩:=wr2 (bm.below hBr)
 go_wp2_with fail
 refine (wrote _ _ _ _ _ hbu (by rw [ByteArray.size_append,ByteArray.size_append,ba_size];simp only [ByteArray.size];simp;omega) hBr.size).mono ?_
 rintro e w3 ⟨rfl,hbu,hB3⟩
 have hBr:=hBr.trans hB3
 clear hB3 x0 x1
 obtain ⟨_,⟨x0,x1⟩,_⟩:=wr2 (bm.below hBr)
 obtain ⟨X,hX⟩:∃ X,[99,116,114] ++ nums [(n:Int)] ++ [10]=X:=⟨_,rfl⟩
 have hXl:X.length≤26:=by rw [← hX];simp;omega
 have HBU:Hid (Bu w3 W.heap.size (w.heap.size+1) (X ++ wlines (t.vs.take 0) (t.ws.take 0))):=by show Bu _ _ _ _;simpa [← hX,wlines] using hbu
 rw [hX] at HH
 clear hX hbu
 go_wp2
 go_loopw [17] (fun i wr=>∃ k:Nat,k≤n∧i=.int .i64 k∧Bu wr W.heap.size (w.heap.size+1) (X ++ wlines (t.vs.take k) (t.ws.take k))∧Below W.heap.size W wr) (fun i _=>n-(intOf i).toNat)
 case atStart=>exact ⟨0,Nat.zero_le _,rfl,HBU.out,hBr⟩
 case round =>
  obtain ⟨k,hk,rfl,hbl,hBr⟩:=hrel
  clear HBU x0 x1
  obtain ⟨_,⟨x0,x1⟩,_⟩:=wr2 (bm.below hBr)
  have hBe:=hB.trans (hBr.mono hB.size)
  by_cases hlt:k<n
  ·
   have hlw:k<t.ws.length:=by rw [HKN.out];exact hlt
   have hlv:k<t.vs.length:=by rw [HK2.out];exact hlt
   rcases h0.below hBe with e0 | ⟨xb,xo,rfl,hxb,hxc⟩
   ·
    rw [e0] at hlw;simp at hlw
   rcases h1.below hBe with e0 | ⟨yb,yo,rfl,hyb,hyc⟩
   ·
    rw [e0] at hlv;simp at hlv
   have hcx:=hxc k hlw
   have hcy:=hyc k hlv
   have hx:=k3 t.vs[k] (List.getElem_mem hlv)
   have hs:=k4 t.ws[k] (List.getElem_mem hlw)
   have HN:Hid (wlines (t.vs.take (k+1)) (t.ws.take (k+1))=wlines (t.vs.take k) (t.ws.take k) ++ wline t.vs[k] t.ws[k]):=wlines_take t.vs t.ws k hlw hlv
   have hnl2:(wlines (t.vs.take k) (t.ws.take k)).length≤1920:=by
    have q1:=wlines_len (t.vs.take k) (t.ws.take k) (take_mem k3 k) (take_mem k4 k)
    have q2:=List.length_take_le k t.ws
    omega
   obtain ⟨x,hx0⟩:∃ x,t.vs[k]=x:=⟨_,rfl⟩
   obtain ⟨s,hs0⟩:∃ s,t.ws[k]=s:=⟨_,rfl⟩
   rw [hx0,hs0] at HN
   rw [hx0] at hx hcy
   rw [hs0] at hs hcx
   clear hxc hyc hx0 hs0 hlw hlv
   have hil:=Nu.itoa_len x hx.1 hx.2
   go_wp2_with fail
   refine (Nu.inum _ _ hx.1 hx.2 (hT.below hBr)).mono ?_
   rintro e w1 ⟨rfl,hB1⟩
   have hbl:=hbl.below hB1
   have hBr:=hBr.trans (hB1.mono hBr.size)
   clear hB1 hcx hcy hxb hyb x0 x1
   go_wp2_with fail
   refine (wrote _ _ _ _ _ hbl (by rw [ByteArray.size_append,ByteArray.size_append,ByteArray.size_append,ba_size,List.length_append];simp only [ByteArray.size];simp;show _+(_+1+s.size+1)≤_;omega) hBr.size).mono ?_
   rintro e w2 ⟨rfl,hb2,hB2⟩
   have hBr:=hBr.trans hB2
   have HB:Hid (Bu w2 W.heap.size (w.heap.size+1) (X ++ wlines (t.vs.take (k+1)) (t.ws.take (k+1)))):=by
    show Bu _ _ _ _
    rw [HN.out]
    simpa [wline] using hb2
   clear hb2 hB2 hbl
   go_wp2
   go_roundw
   case rel=>exact ⟨k+1,by omega,by go_num,HB.out,hBr⟩
   case measure=>simp [intOf];omega
  ·
   have e1:t.vs.take k=t.vs:=List.take_of_length_le (by rw [HK2.out];omega)
   have e2:t.ws.take k=t.ws:=List.take_of_length_le (by rw [HKN.out];omega)
   rw [e1,e2] at hbl
   clear e1 e2
   go_wp2_with fail
   refine (told _ _ _ _ hbl hBr.size).mono ?_
   rintro e w3 ⟨rfl,hB3⟩
   have hBe:=hBe.trans (hB3.mono hB.size)
   go_wp2
   go_ret
   exact ⟨by rw [HH.out];rfl,hBe⟩
end Go.Proofs.YtaojoamldoofpaaGreatDoor.Mt
namespace Go.Proofs.YtaojoamldoofpaaGreatDoor.Mt
set_option maxRecDepth 100000
open Go.RowKit
open Md (M mok mok_parts kok kok_parts Rm wr6 imok)
open Kt (Kv IsK)
open Tm (IsT IsP)
open Sv (new1 Wr wr2)
open Li (ret_bool)
set_option maxHeartbeats 2000000 in
theorem ittxt (w:World) (a0 a1:Option Addr) (c0 c1:Nat) (t:Tr.T) (h0:IsP w a0 t.sp) (h1:Li.IsL w a1 t.lv) (hk:Tn t) (hT:Nu.Tab w) :
  Calls Tryz.prog 50 #[.agg #[.slice a0 t.sp.length c0,.slice a1 t.lv.length c1]] w fun e w'=>e=.returned (.string ⟨(ttxt t).toArray⟩)∧Below w.heap.size w w':=by
 obtain ⟨k1,k2,k3,k4⟩:=hk
 have HH:Hid (ttxt t=[116,114,101,101] ++ spt t.sp ++ ([32,58] ++ nums t.lv ++ [10])):=rfl
 have hnl:=nums_len _ k4
 go_enter Tryz.func50,Tryz.ntmps50
 go_wp2_with fail
 obtain ⟨W,hW,hsz,hB,bm⟩:=new1 w [.slice a0 t.sp.length c0,.slice a1 t.lv.length c1] 56
 rw [hW]
 obtain ⟨W1,hW1,hBr,hbu,hs1⟩:=bu_new W (w.heap.size+1) hsz.symm
 rw [hW1]
 clear hW hW1 hs1 hsz
 have hT:=hT.below hB
 refine (wrote _ _ _ _ _ hbu (by simp [ByteArray.size]) hBr.size).mono ?_
 rintro e w3 ⟨rfl,hbu,hB3⟩
 have hBr:=hBr.trans hB3
 clear hB3
 obtain ⟨_,⟨x0,x1⟩,_⟩:=wr2 (bm.below hBr)
 have HBU:Hid (Bu w3 W.heap.size (w.heap.size+1) ([116,114,101,101] ++ spt (t.sp.take 0))):=by show Bu _ _ _ _;simpa [spt] using hbu
 clear hbu
 go_wp2
 go_loopw [10] (fun i wr=>∃ k:Nat,k≤t.sp.length∧i=.int .i64 k∧Bu wr W.heap.size (w.heap.size+1) ([116,114,101,101] ++ spt (t.sp.take k))∧Below W.heap.size W wr) (fun i _=>t.sp.length-(intOf i).toNat)
 case atStart=>exact ⟨0,Nat.zero_le _,rfl,HBU.out,hBr⟩
 case round =>
  obtain ⟨k,hk,rfl,hbl,hBr⟩:=hrel
  clear HBU x0 x1
  obtain ⟨_,⟨x0,x1⟩,_⟩:=wr2 (bm.below hBr)
  have hBe:=hB.trans (hBr.mono hB.size)
  have hnl2:(spt (t.sp.take k)).length≤176:=by
   have q1:=spt_len (t.sp.take k) (take_mem k3 k)
   have q2:=List.length_take_le k t.sp
   omega
  by_cases hlt:k<t.sp.length
  ·
   rcases h0.below hBe with e0 | ⟨xb,xo,rfl,hxb,hxc⟩
   ·
    rw [e0] at hlt;simp at hlt
   obtain ⟨d0,d1⟩:=hxc k hlt
   have hx:=k3 t.sp[k] (List.getElem_mem hlt)
   have HN:Hid (spt (t.sp.take (k+1))=spt (t.sp.take k) ++ nums [t.sp[k].1,t.sp[k].2]):=spt_take t.sp k hlt
   obtain ⟨x,hx0⟩:∃ x,t.sp[k].1=x:=⟨_,rfl⟩
   obtain ⟨y,hy0⟩:∃ x,t.sp[k].2=x:=⟨_,rfl⟩
   rw [hx0,hy0] at HN hx
   rw [hx0] at d0
   rw [hy0] at d1
   clear hxc hx0 hy0
   have hi:∀ z ∈ [x,y],i64 z:=by intro z hz;simp at hz;rcases hz with rfl | rfl;exact hx.1;exact hx.2
   have hil:=nums_len _ hi
   simp only [List.length_cons,List.length_nil] at hil
   go_wp2_with fail
   have hB1:Below wr.heap.size wr ((wr.alloc (.cells #[.int .i64 x,.int .i64 y] 58)).alloc (.cells #[.int .i64 x,.int .i64 y] 3)):=((Below.refl _ _).alloc (Nat.le_refl _) _).alloc (by simp) _
   have hbl:=hbl.below hB1
   have hBr:=hBr.trans (hB1.mono hBr.size)
   refine (ispaced _ _ _ [x,y] (isl_lit (wr.alloc (.cells #[.int .i64 x,.int .i64 y] 58)) [x,y] 3 _ _ (by simp) rfl) hi (by simp) (hT.below hBr)).mono ?_
   rintro e w1 ⟨rfl,hB2⟩
   have hbl:=hbl.below hB2
   have hBr:=hBr.trans (hB2.mono hBr.size)
   clear hB1 hB2 d0 d1 hxb x0 x1
   go_wp2_with fail
   refine (wrote _ _ _ _ _ hbl (by rw [ba_size];simp;omega) hBr.size).mono ?_
   rintro e w2 ⟨rfl,hb2,hB2⟩
   have hBr:=hBr.trans hB2
   have HB:Hid (Bu w2 W.heap.size (w.heap.size+1) ([116,114,101,101] ++ spt (t.sp.take (k+1)))):=by
    show Bu _ _ _ _
    rw [HN.out]
    simpa using hb2
   clear hb2 hB2 hbl
   go_wp2
   go_roundw
   case rel=>exact ⟨k+1,by omega,by go_num,HB.out,hBr⟩
   case measure=>simp [intOf];omega
  ·
   have e1:t.sp.take k=t.sp:=List.take_of_length_le (by omega)
   rw [e1] at hbl hnl2
   clear e1
   go_wp2_with fail
   refine (ispaced _ _ _ t.lv (h1.below hBe) k4 (by omega) (hT.below hBr)).mono ?_
   rintro e w1 ⟨rfl,hB2⟩
   have hbl:=hbl.below hB2
   have hBr:=hBr.trans (hB2.mono hBr.size)
   clear hB2 x0 x1 hBe
   go_wp2_with fail
   refine (wrote _ _ _ _ _ hbl (by rw [ByteArray.size_append,ByteArray.size_append,ba_size];simp only [ByteArray.size];simp;omega) hBr.size).mono ?_
   rintro e w2 ⟨rfl,hb2,hB2⟩
   have hBr:=hBr.trans hB2
   have HB:Hid (Bu w2 W.heap.size (w.heap.size+1) ([116,114,101,101] ++ spt t.sp ++ ([32,58] ++ nums t.lv ++ [10]))):=by
    show Bu _ _ _ _
    simpa using hb2
   rw [← HH.out] at HB
   clear hb2 hbl hB2
   go_wp2_with fail
   refine (told _ _ _ _ HB.out hBr.size).mono ?_
   rintro e w3 ⟨rfl,hB3⟩
   have hBe:=hB.trans ((hBr.trans hB3).mono hB.size)
   go_wp2
   go_ret
   exact ⟨rfl,hBe⟩
theorem idx_has:∀ (l:List UInt8) (c:UInt8),decide (0≤Lib.indexByte l c)=l.contains c
 | [],c=>by simp [Lib.indexByte]
 | b :: l,c=>by
  have ih:=idx_has l c
  have hg:=Lib.indexByte_ge l c
  unfold Lib.indexByte
  by_cases h:b=c
  ·
   subst h;simp
  ·
   have h1:(b == c)=false:=by simpa using h
   have h2:(c == b)=false:=by simpa using fun e=>h e.symm
   simp only [h1,List.contains_cons,h2,Bool.false_or,← ih]
   by_cases h3:Lib.indexByte l c = -1
   ·
    simp [h3]
   ·
    have h4:(Lib.indexByte l c == -1)=false:=by simpa using h3
    simp only [h4]
    simp
    omega
theorem contains_lf (s:ByteArray) (w:World):Calls Tryz.prog 46 #[.string s,.string ⟨#[10]⟩] w fun e w'=>e=.returned (.bool (hasLf s))∧w'=w:=by
 refine (Tryz.strings_Contains_one s 10 w).mono ?_
 rintro e w' ⟨rfl,rfl⟩
 exact ⟨by rw [idx_has];rfl,rfl⟩
set_option maxHeartbeats 2000000 in
theorem ianylf (w:World) (a:Option Addr) (ca:Nat) (ks:List Kv) (h:IsK w a ks) (hl:ks.length≤1048576) (hw:∀ t ∈ ks,t.ws.length≤1048576) :
  Calls Tryz.prog 21 #[.slice a ks.length ca] w fun e w'=>e=.returned (.bool (anyLf ks))∧Below w.heap.size w w':=by
 go_enter Tryz.func21,Tryz.ntmps21
 go_wp2
 go_loopw [9] (fun i wr=>∃ k:Nat,k≤ks.length∧i=.int .i64 k∧(∀ j (hj:j<ks.length),j<k→(ks[j].ws.any hasLf)=false)∧Below w.heap.size w wr) (fun i _=>ks.length-(intOf i).toNat)
 case atStart=>exact ⟨0,Nat.zero_le _,rfl,fun j _ hj=>by omega,Below.refl _ _⟩
 case round =>
  obtain ⟨k,hk,rfl,hno,hB⟩:=hrel
  have HNO:Hid (∀ j (hj:j<ks.length),j<k→(ks[j].ws.any hasLf)=false):=hno
  clear hno
  by_cases hlt:k<ks.length
  ·
   rcases h.below hB with e0 | ⟨xb,xo,rfl,hxb,hxc⟩
   ·
    rw [e0] at hlt;simp at hlt
   obtain ⟨a0,c0,a1,c1,⟨d0,d1⟩,hs,hv⟩:=hxc k hlt
   have hwl:=hw ks[k] (List.getElem_mem hlt)
   have HYES:Hid ((ks[k].ws.any hasLf)=true→anyLf ks=true):=fun e=>any_yes (p:=fun t:Kv=>t.ws.any hasLf) hlt e
   have HNX:Hid ((ks[k].ws.any hasLf)=false→∀ j (hj:j<ks.length),j<k+1→(ks[j].ws.any hasLf)=false):=fun e=>at_snoc (p:=fun t:Kv=>t.ws.any hasLf) HNO.out hlt e
   clear hxc HNO
   obtain ⟨ws,hws⟩:∃ ws,ks[k].ws=ws:=⟨_,rfl⟩
   obtain ⟨nv,hnv⟩:∃ ws,ks[k].vs.length=ws:=⟨_,rfl⟩
   rw [hws] at HYES HNX d0 hs hwl
   rw [hnv] at d1
   clear hws hv hnv
   go_wp2
   obtain ⟨W,hW,hsz,hB1,bm⟩:=new1 wr [.slice a0 ws.length c0,.slice a1 nv c1] 47
   rw [hW]
   have hBr:=hB.trans (hB1.mono hB.size)
   have hs:=hs.below hB1
   clear hW hsz d0 d1 hB1 bm
   go_loopw [16] (fun i wq=>∃ q:Nat,q≤ws.length∧i=.int .i64 q∧(∀ j (hj:j<ws.length),j<q→hasLf ws[j]=false)∧wq=W) (fun i _=>ws.length-(intOf i).toNat)
   case atStart=>exact ⟨0,Nat.zero_le _,rfl,fun j _ hj=>by omega,rfl⟩
   case round =>
    obtain ⟨q,hq,rfl,hno,rfl⟩:=hrel
    have HNO:Hid (∀ j (hj:j<ws.length),j<q→hasLf ws[j]=false):=hno
    clear hno
    by_cases hql:q<ws.length
    ·
     rcases id hs with e0 | ⟨yb,yo,rfl,hyb,hyc⟩
     ·
      rw [e0] at hql;simp at hql
     have hcy:=hyc q hql
     clear hyc
     cases hh:hasLf ws[q] with
     | true =>
      have HR:Hid (anyLf ks=true):=HYES.out (any_yes (p:=hasLf) hql hh)
      go_wp2_with (go_at_call 46;refine (contains_lf _ _).mono ?_;rintro e w' ⟨rfl,hw'⟩;subst w';rw [hh])
      go_ret
      exact ⟨ret_bool HR.out.symm,hBr⟩
     | false =>
      have HR:Hid (∀ j (hj:j<ws.length),j<q+1→hasLf ws[j]=false):=at_snoc (p:=hasLf) HNO.out hql hh
      go_wp2_with (go_at_call 46;refine (contains_lf _ _).mono ?_;rintro e w' ⟨rfl,hw'⟩;subst w';rw [hh])
      go_roundw
      case rel=>exact ⟨q+1,by omega,by go_num,HR.out,by first | rfl | trivial⟩
      case measure=>simp [intOf];omega
    ·
     have HR:Hid (∀ j (hj:j<ks.length),j<k+1→(ks[j].ws.any hasLf)=false):=HNX.out (any_no fun j hj=>HNO.out j hj (by omega))
     go_wp2
     go_roundw
     case rel=>exact ⟨k+1,by omega,by go_num,HR.out,hBr⟩
     case measure=>simp [intOf];omega
  ·
   have HR:Hid (anyLf ks=false):=any_no (p:=fun t:Kv=>t.ws.any hasLf) fun j hj=>HNO.out j hj (by omega)
   go_wp2
   go_ret
   exact ⟨ret_bool HR.out.symm,hB⟩
set_option maxHeartbeats 2000000 in
theorem isummed (w:World) (ak ax:Option Addr) (ck ct:Nat) (m:M) (h:Rm w ak ax m) (hm:Mn m) (hT:Nu.Tab w) :
  Calls Tryz.prog 22 #[.agg #[.int .i64 m.n,.int .i64 m.c,.int .i64 m.prior,.int .i64 m.base,.slice ak m.ks.length ck,.slice ax m.ts.length ct]] w fun e w'=>e=.returned (.string ⟨(body m).toArray⟩)∧Below w.heap.size w w':=by
 have HH:Hid (body m=head m ++ ctxts m.ks ++ ttxts m.ts):=rfl
 have hhl:=head_len hm
 have hkl:=hm.k
 have htl:=hm.t
 go_enter Tryz.func22,Tryz.ntmps22
 go_wp2_with fail
 obtain ⟨W,hW,hsz,hB,bm⟩:=new1 w [.int .i64 m.n,.int .i64 m.c,.int .i64 m.prior,.int .i64 m.base,.slice ak m.ks.length ck,.slice ax m.ts.length ct] 29
 rw [hW]
 obtain ⟨W1,hW1,hBr,hbu,hs1⟩:=bu_new W (w.heap.size+1) hsz.symm
 rw [hW1]
 clear hW hW1 hs1 hsz
 have hT:=hT.below hB
 have h:=h.below hB
 refine (ihead _ _ _ _ _ m hm (hT.below hBr)).mono ?_
 rintro e w2 ⟨rfl,hB2⟩
 have hbu:=hbu.below hB2
 have hBr:=hBr.trans (hB2.mono hBr.size)
 clear hB2
 go_wp2_with fail
 refine (wrote _ _ _ _ _ hbu (by rw [ba_size];simp;omega) hBr.size).mono ?_
 rintro e w3 ⟨rfl,hbu,hB3⟩
 have hBr:=hBr.trans hB3
 clear hB3
 obtain ⟨_,⟨x0,x1,x2,x3,x4,x5⟩,_⟩:=wr6 (bm.below hBr)
 have HBU:Hid (Bu w3 W.heap.size (w.heap.size+1) (head m ++ ctxts (m.ks.take 0))):=by show Bu _ _ _ _;simpa [ctxts] using hbu
 clear hbu
 go_wp2
 go_loopw [14] (fun i wr=>∃ k:Nat,k≤m.ks.length∧i=.int .i64 k∧Bu wr W.heap.size (w.heap.size+1) (head m ++ ctxts (m.ks.take k))∧Below W.heap.size W wr) (fun i _=>m.ks.length-(intOf i).toNat)
 case atStart=>exact ⟨0,Nat.zero_le _,rfl,HBU.out,hBr⟩
 case round =>
  obtain ⟨k,hk,rfl,hbl,hBr⟩:=hrel
  clear HBU x0 x1 x2 x3 x4 x5
  have hnl2:(ctxts (m.ks.take k)).length≤5838:=ctxts_len (by have:=List.length_take_le k m.ks;omega) (take_mem hm.ks k)
  by_cases hlt:k<m.ks.length
  ·
   rcases h.k.below hBr with e0 | ⟨xb,xo,rfl,hxb,hxc⟩
   ·
    rw [e0] at hlt;simp at hlt
   obtain ⟨a0,c0,a1,c1,⟨d0,d1⟩,hs,hv⟩:=hxc k hlt
   have HN:Hid (ctxts (m.ks.take (k+1))=ctxts (m.ks.take k) ++ ctxt m.ks[k]):=ctxts_take m.ks k hlt
   have hkn:=hm.ks m.ks[k] (List.getElem_mem hlt)
   have hcl:=ctxt_len hkn
   clear hxc
   generalize m.ks[k]=t at d0 d1 hs hv HN hkn hcl
   go_wp2_with fail
   obtain ⟨W2,hW2,hsz2,hB1,bt⟩:=new1 wr [.slice a0 t.ws.length c0,.slice a1 t.vs.length c1] 47
   rw [hW2]
   have hbl:=hbl.below hB1
   have hBr:=hBr.trans (hB1.mono hBr.size)
   refine (ictxt _ _ _ _ _ t (hs.below hB1) (hv.below hB1) hkn (hT.below hBr)).mono ?_
   rintro e w4 ⟨rfl,hB2⟩
   have hbl:=hbl.below hB2
   have hBr:=hBr.trans (hB2.mono hBr.size)
   clear hB1 hB2 hW2 hsz2 bt d0 d1 hs hv hxb
   go_wp2_with fail
   refine (wrote _ _ _ _ _ hbl (by rw [ba_size];simp;omega) hBr.size).mono ?_
   rintro e w5 ⟨rfl,hb2,hB2⟩
   have hBr:=hBr.trans hB2
   have HB:Hid (Bu w5 W.heap.size (w.heap.size+1) (head m ++ ctxts (m.ks.take (k+1)))):=by
    show Bu _ _ _ _
    rw [HN.out]
    simpa using hb2
   clear hb2 hB2 hbl
   go_wp2
   go_roundw
   case rel=>exact ⟨k+1,by omega,by go_num,HB.out,hBr⟩
   case measure=>simp [intOf];omega
  ·
   have e1:m.ks.take k=m.ks:=List.take_of_length_le (by omega)
   rw [e1] at hbl hnl2
   clear e1
   obtain ⟨_,⟨x0,x1,x2,x3,x4,x5⟩,_⟩:=wr6 (bm.below hBr)
   obtain ⟨X,hX⟩:∃ X,head m ++ ctxts m.ks=X:=⟨_,rfl⟩
   have hXl:X.length≤5932:=by rw [← hX,List.length_append];omega
   rw [hX] at hbl HH
   have HBU:Hid (Bu wr W.heap.size (w.heap.size+1) (X ++ ttxts (m.ts.take 0))):=by show Bu _ _ _ _;simpa [ttxts] using hbl
   clear hX hbl
   go_wp2
   go_loopw [25] (fun i wr=>∃ k:Nat,k≤m.ts.length∧i=.int .i64 k∧Bu wr W.heap.size (w.heap.size+1) (X ++ ttxts (m.ts.take k))∧Below W.heap.size W wr) (fun i _=>m.ts.length-(intOf i).toNat)
   case atStart=>exact ⟨0,Nat.zero_le _,rfl,HBU.out,hBr⟩
   case round =>
    obtain ⟨q,hq,rfl,hbl,hBr⟩:=hrel
    clear HBU x0 x1 x2 x3 x4 x5
    have hnl2:(ttxts (m.ts.take q)).length≤6420:=ttxts_len (by have:=List.length_take_le q m.ts;omega) (take_mem hm.ts q)
    by_cases hlt2:q<m.ts.length
    ·
     rcases h.t.below hBr with e0 | ⟨xb,xo,rfl,hxb,hxc⟩
     ·
      rw [e0] at hlt2;simp at hlt2
     obtain ⟨v0,v1,⟨d0,d1⟩,htr⟩:=hxc q hlt2
     have HN:Hid (ttxts (m.ts.take (q+1))=ttxts (m.ts.take q) ++ ttxt m.ts[q]):=ttxts_take m.ts q hlt2
     have hkn:=hm.ts m.ts[q] (List.getElem_mem hlt2)
     have hcl:=ttxt_len hkn
     clear hxc
     generalize m.ts[q]=t at d0 d1 htr HN hkn hcl
     obtain ⟨a0,c0,a1,c1,rfl,rfl,hp,hv⟩:=htr
     go_wp2_with fail
     obtain ⟨W2,hW2,hsz2,hB1,bt⟩:=new1 wr [.slice a0 t.sp.length c0,.slice a1 t.lv.length c1] 56
     rw [hW2]
     have hbl:=hbl.below hB1
     have hBr:=hBr.trans (hB1.mono hBr.size)
     refine (ittxt _ _ _ _ _ t (hp.below hB1) (hv.below hB1) hkn (hT.below hBr)).mono ?_
     rintro e w4 ⟨rfl,hB2⟩
     have hbl:=hbl.below hB2
     have hBr:=hBr.trans (hB2.mono hBr.size)
     clear hB1 hB2 hW2 hsz2 bt d0 d1 hp hv hxb
     go_wp2_with fail
     refine (wrote _ _ _ _ _ hbl (by rw [ba_size];simp;omega) hBr.size).mono ?_
     rintro e w5 ⟨rfl,hb2,hB2⟩
     have hBr:=hBr.trans hB2
     have HB:Hid (Bu w5 W.heap.size (w.heap.size+1) (X ++ ttxts (m.ts.take (q+1)))):=by
      show Bu _ _ _ _
      rw [HN.out]
      simpa using hb2
     clear hb2 hB2 hbl
     go_wp2
     go_roundw
     case rel=>exact ⟨q+1,by omega,by go_num,HB.out,hBr⟩
     case measure=>simp [intOf];omega
    ·
     have e1:m.ts.take q=m.ts:=List.take_of_length_le (by omega)
     rw [e1,← HH.out] at hbl
     clear e1
     go_wp2_with fail
     refine (told _ _ _ _ hbl hBr.size).mono ?_
     rintro e w3 ⟨rfl,hB3⟩
     have hBe:=hB.trans ((hBr.trans hB3).mono hB.size)
     go_wp2
     go_ret
     exact ⟨rfl,hBe⟩
set_option maxHeartbeats 2000000 in
theorem imtext (w:World) (ak ax:Option Addr) (ck ct:Nat) (m:M) (h:Rm w ak ax m) (hl:m.sz≤1048576) (hT:Nu.Tab w) :
  Calls Tryz.prog 7 #[.agg #[.int .i64 m.n,.int .i64 m.c,.int .i64 m.prior,.int .i64 m.base,.slice ak m.ks.length ck,.slice ax m.ts.length ct]] w fun e w'=>e=.returned (.string ⟨(mtext m).toArray⟩)∧Below w.heap.size w w':=by
 go_enter Tryz.func7,Tryz.ntmps7
 go_wp2_with fail
 obtain ⟨W,hW,hsz,hB,bm⟩:=new1 w [.int .i64 m.n,.int .i64 m.c,.int .i64 m.prior,.int .i64 m.base,.slice ak m.ks.length ck,.slice ax m.ts.length ct] 29
 rw [hW]
 clear hW hsz
 refine (imok _ _ _ _ _ m (h.below hB) hl).mono ?_
 rintro e w1 ⟨rfl,hb⟩
 have bm:=bm.below hb
 have hB:=hB.trans (hb.mono hB.size)
 clear hb
 cases h1:mok m with
 | false =>
  have HR:Hid (mtext m=[]):=mtext_no h1
  go_wp2
  go_ret
  exact ⟨by rw [HR.out];rfl,hB⟩
 | true =>
 have hm:=mok_mn h1
 have HOK:Hid (mok m=true):=h1
 clear h1
 obtain ⟨_,⟨x0,x1,x2,x3,x4,x5⟩,_⟩:=wr6 bm
 go_wp2_with fail
 refine (ianylf _ _ _ m.ks (h.below hB).k (by have:=hm.k;omega) (fun t ht=>by have:=(hm.ks t ht).1;omega)).mono ?_
 rintro e w2 ⟨rfl,hb⟩
 have bm:=bm.below hb
 have hB:=hB.trans (hb.mono hB.size)
 clear hb x0 x1 x2 x3 x4 x5
 cases h1:anyLf m.ks with
 | true =>
  have HR:Hid (mtext m=[]):=mtext_lf h1
  go_wp2
  go_ret
  exact ⟨by rw [HR.out];rfl,hB⟩
 | false =>
 have HR:Hid (mtext m=whole m):=mtext_yes HOK.out h1
 have HWH:Hid (whole m=body m ++ ([115,117,109] ++ nums [(Cr.crc (body m):Int)] ++ [10])):=rfl
 have hbl:=body_len hm
 have hwl:=whole_len hm
 clear h1
 obtain ⟨_,⟨x0,x1,x2,x3,x4,x5⟩,_⟩:=wr6 bm
 go_wp2_with fail
 refine (isummed _ _ _ _ _ m (h.below hB) hm (hT.below hB)).mono ?_
 rintro e w3 ⟨rfl,hb⟩
 have hB:=hB.trans (hb.mono hB.size)
 have hi:=crc_i64 (body m)
 obtain ⟨X,hX⟩:∃ X,body m=X:=⟨_,rfl⟩
 rw [hX] at HWH hi hbl ⊢
 rw [HWH.out] at hwl
 clear hb x0 x1 x2 x3 x4 x5 bm hX
 have hi':∀ x ∈ [(Cr.crc X:Int)],i64 x:=by intro x hx;simp at hx;subst hx;exact hi
 have hnl:=nums_len _ hi'
 have hcr:=Cr.crc_lt X
 have hic:=Cr.icrc ⟨X.toArray⟩ w3 (by rw [ba_size];omega)
 simp only [List.length_cons,List.length_nil] at hnl
 have hdl:(ByteArray.mk X.toArray).data.toList=X:=by simp
 rw [hdl] at hic
 clear hdl
 have hlen:X.length+3+(nums [(Cr.crc X:Int)]).length+1≤12400:=by simp at hwl;omega
 clear hwl
 go_wp2_with (go_at_call 15;refine hic.mono ?_;rintro e w' ⟨rfl,hw'⟩;subst w')
 have hB1:Below w.heap.size w (w3.alloc (.cells #[.int .i64 (Cr.crc X:Nat)] 3)):=hB.alloc hB.size _
 refine (ispaced _ _ _ [(Cr.crc X:Int)] (isl_lit w3 [(Cr.crc X:Int)] 3 _ _ rfl rfl) hi' (by simp) (hT.below hB1)).mono ?_
 rintro e w4 ⟨rfl,hB2⟩
 have hB:=hB1.trans (hB2.mono hB1.size)
 clear hB1 hB2 hic hi hi' hcr
 generalize nums [(Cr.crc X:Int)]=Y at hnl hlen HWH ⊢
 go_upto_region 5 with fail
 have HE:Hid ((⟨X.toArray⟩:ByteArray) ++ ⟨#[115,117,109]⟩ ++ ⟨Y.toArray⟩ ++ ⟨#[10]⟩=⟨(X ++ ([115,117,109] ++ Y ++ [10])).toArray⟩):=ba_ext (by simp)
 rw [HE.out]
 have hZ:(X ++ ([115,117,109] ++ Y ++ [10])).length≤12400:=by simp;omega
 generalize X ++ ([115,117,109] ++ Y ++ [10])=Z at hZ HWH ⊢
 clear hlen hnl hbl HE
 go_wp2
 go_ret
 exact ⟨by rw [HR.out,HWH.out];rfl,hB⟩
end Go.Proofs.YtaojoamldoofpaaGreatDoor.Mt
namespace Go.Proofs.YtaojoamldoofpaaGreatDoor.Rm
set_option maxRecDepth 100000
open Go.RowKit
open Md (M OwM mok)
open Kt (Kv OwK)
open To (OwT)
open Mt (whole mtext anyLf)
open Sv (Fr fr_below fr_grown Wr new2)
def Good (m:M):Prop:=mok m=true∧anyLf m.ks=false
theorem whole_inj {m m':M} (h:Good m) (h':Good m') (e:whole m=whole m'):m=m':=by
 have h1:=rdt_whole (gd_of h.1 h.2)
 have h2:=rdt_whole (gd_of h'.1 h'.2)
 rw [e] at h1
 exact (St.mk.inj (Option.some.inj (h1.symm.trans h2))).1
theorem rdt_nil (st:St) (h:¬ 0<st.left):rdt [] st=none:=by
 unfold rdt
 show rd [[]] st=none
 have hc:Lib.cut [] [32]=([],[],false):=Pc.cut_no 32 [] (by simp)
 have hf:first []=[]:=by unfold first;rw [hc]
 refine rd_none ?_ (.inr ?_)
 ·
  unfold dLine
  rw [if_neg h,hf,if_neg (by decide),if_neg (by decide),if_neg (by decide)]
 ·
  rw [hf];decide
def Reads (s:List UInt8) (m:M) (ok:Bool):Prop:=(ok=true∧Good m∧whole m=s) ∨ (ok=false∧m=zero∧∀ m',Good m'→¬ whole m'=s)
theorem reads_one {s:List UInt8} {m m':M} {a b:Bool} (h:Reads s m a) (h':Reads s m' b):m=m'∧a=b:=by
 rcases h with ⟨rfl,h1,h2⟩ | ⟨rfl,rfl,h1⟩
 ·
  rcases h' with ⟨rfl,h3,h4⟩ | ⟨rfl,rfl,h3⟩
  ·
   exact ⟨whole_inj h1 h3 (h2.trans h4.symm),rfl⟩
  ·
   exact absurd h2 (h3 m h1)
 ·
  rcases h' with ⟨rfl,h3,h4⟩ | ⟨rfl,rfl,h3⟩
  ·
   exact absurd h4 (h1 m' h3)
  ·
   exact ⟨rfl,rfl⟩
theorem mtext_good {m:M} (h:Good m):mtext m=whole m:=by unfold mtext;exact if_pos h
theorem mtext_bad {m:M} (h:¬ Good m):mtext m=[]:=by unfold mtext;exact if_neg h
theorem whole_le {m:M} (h:Good m):(whole m).length≤12400:=Mt.whole_len (Mt.mok_mn h.1)
theorem reads_yes {s:List UInt8} {st:St} (h:rdt s ⟨zero,0⟩=some st) (e:mtext st.m=s):Reads s st.m true:=by
 by_cases hg:Good st.m
 ·
  exact .inl ⟨rfl,hg,by rw [← mtext_good hg];exact e⟩
 ·
  rw [mtext_bad hg] at e
  have h1:=rdt_nil ⟨zero,0⟩ (by decide)
  rw [e] at h1
  exact absurd (h1.symm.trans h) (by simp)
theorem reads_no {s:List UInt8} {st:St} (h:rdt s ⟨zero,0⟩=some st) (e:¬ mtext st.m=s):Reads s zero false:=by
 refine .inr ⟨rfl,rfl,fun m hm hw=>e ?_⟩
 have h1:=rdt_whole (gd_of hm.1 hm.2)
 rw [hw] at h1
 have h2:st=⟨m,0⟩:=Option.some.inj (h.symm.trans h1)
 rw [h2]
 exact (mtext_good hm).trans hw
theorem reads_none {s:List UInt8} (h:rdt s ⟨zero,0⟩=none):Reads s zero false:=by
 refine .inr ⟨rfl,rfl,fun m hm hw=>?_⟩
 have h1:=rdt_whole (gd_of hm.1 hm.2)
 rw [hw] at h1
 exact absurd (h.symm.trans h1) (by simp)
theorem reads_long {s:List UInt8} (h:30000<s.length):Reads s zero false:=by
 refine .inr ⟨rfl,rfl,fun m hm hw=>?_⟩
 have:=whole_le hm
 rw [hw] at this
 omega
theorem results_ct {fn:Func} {p q:Tmp} {ty:TypeId} (h:fn.results=#[.cell p ty,.tmp q]) (tmps:Array Value) (P:Program) (w:World) :
  (results fn tmps).run P w=((asAddr (tmps.getD p undef)).run P w).andThen fun a w₁=>((loadVar ty a).run P w₁).andThen fun v w₂=>.ok (.tuple #[v,tmps.getD q undef]) w₂:=by
 simp only [results,h]
 simp [Sem.run_bind,Result.andThen]
theorem zero_own (w:World) (B:Nat→Prop):OwM w B (.slice none 0 0) (.slice none 0 0) zero:=⟨fun _=>True,OwK.nil _ _,OwT.nil _ _⟩
def Ans (w:World) (s:List UInt8) (e:Ending) (w':World):Prop:=∃ m ok vk vt,Reads s m ok∧e=.returned (.tuple #[.agg #[.int .i64 m.n,.int .i64 m.c,.int .i64 m.prior,.int .i64 m.base,vk,vt],.bool ok])∧OwM w' (fun y=>w.heap.size≤y) vk vt m∧m.sz≤100000∧Below w.heap.size w w'
theorem ans_no {w w':World} {s:List UInt8} (h:Reads s zero false) (hb:Below w.heap.size w w'):Ans w s (.returned (.tuple #[.agg #[.int .i64 0,.int .i64 0,.int .i64 0,.int .i64 0,.slice none 0 0,.slice none 0 0],.bool false])) w' :=
 ⟨zero,false,.slice none 0 0,.slice none 0 0,h,rfl,zero_own _ _,by decide,hb⟩
theorem bel6 {w w1:World} {R:Nat} (h:Below w.heap.size w w1) (hR:w.heap.size=R) (a b c d e f:Value):Below w.heap.size w ((((((w1.setCell ⟨R,0,none⟩ a).setCell ⟨R,1,none⟩ b).setCell ⟨R,2,none⟩ c).setCell ⟨R,3,none⟩ d).setCell ⟨R,4,none⟩ e).setCell ⟨R,5,none⟩ f):=by
 have hr:w.heap.size≤R:=by omega
 exact (((((h.setCell hr a).setCell hr b).setCell hr c).setCell hr d).setCell hr e).setCell hr f
set_option maxHeartbeats 2000000 in
theorem imread (w:World) (s:ByteArray) (hs:s.size≤281474976710656) (hV:Vs w) :
  Calls Tryz.prog 9 #[.string s] w fun e w'=>Ans w s.data.toList e w':=by
 have hsz:s.data.toList.length=s.size:=by simp
 by_cases hlong:30000<s.size
 ·
  have HR:Hid (Reads s.data.toList zero false):=reads_long (by omega)
  go_enter Tryz.func9,Tryz.ntmps9
  go_wp2
  refine bodyPost_ret (v:=.tuple #[.agg #[.int .i64 0,.int .i64 0,.int .i64 0,.int .i64 0,.slice none 0 0,.slice none 0 0],.bool false]) (by rw [results_ct rfl];go_simp) rfl (ans_no HR.out ?_)
  repeat first | exact ((Below.refl _ _).alloc (Nat.le_refl _) _).alloc (by simp) _ | refine Below.setCell ?_ (by simp) _
 have hlong':¬ (30000:Int)<s.size:=by omega
 go_enter Tryz.func9,Tryz.ntmps9
 go_wp2_with fail
 obtain ⟨W,hW,hsW,hB,br,bx⟩:=new2 w [.int .i64 0,.int .i64 0,.int .i64 0,.int .i64 0,.slice none 0 0,.slice none 0 0] [.int .i64 0,.int .i64 0,.int .i64 0,.int .i64 0,.slice none 0 0,.slice none 0 0,.int .i64 0] 29 60
 rw [hW]
 refine (iread w W (w.heap.size+1) s hV hB (by omega) bx (by omega)).mono ?_
 rintro e w1 ⟨he,hF⟩
 obtain ⟨R,hR⟩:∃ R,w.heap.size=R:=⟨_,rfl⟩
 obtain ⟨b,hb⟩:∃ b,w.heap.size+1=b:=⟨_,rfl⟩
 have hRb:¬ R=b:=by omega
 have hbR:¬ b=R:=by omega
 have br1:Wr w1 R 0 [.int .i64 0,.int .i64 0,.int .i64 0,.int .i64 0,.slice none 0 0,.slice none 0 0]:=by
  rw [hR] at br
  exact br.keptAt hF.size (hF.block R br.1 (by unfold Fx;have:=br.1;omega))
 have hB1:Below w.heap.size w w1:=hB.trans ⟨hF.os,hF.tape,hF.output,hF.size,fun k hk=>hF.block k (by omega) (by unfold Fx;omega)⟩
 rw [hb] at he ⊢
 rw [hR]
 have HB1:Hid (type_of% hB1):=hB1
 have HRW:Hid (w.heap.size=R):=hR
 have HLE:Hid (w.heap.size+2=W.heap.size):=hsW.symm
 clear hW hB br bx hF hb hR hsW hlong
 rcases he with ⟨st,lo,ak,ck,ax,ct,hrd,rfl,hlo,hg,hsm⟩ | ⟨hrd,rfl⟩
 ·
  have hT:Nu.Tab w1:=(hV.below hB1).1
  obtain ⟨ak',ck',ax',ct',e1,e2,hrm⟩:=hg.om.rm
  injection e1 with e1 _ e3
  injection e2 with e2 _ e4
  subst e1;subst e2;subst e3;subst e4
  obtain ⟨hbl,⟨c0,c1,c2,c3,c4,c5,c6⟩,xx⟩:=wr7 hg.bx
  have HG:Hid (type_of% hg):=hg
  have HRD:Hid (type_of% hrd):=hrd
  have HSM:Hid (type_of% hsm):=hsm
  have HLO:Hid (W.heap.size≤lo):=hlo
  have HBR:Hid (type_of% br1):=br1
  clear hg hrd hlo xx c6
  go_wp2_with fail
  refine (Mt.imtext w1 ak ax ck ct st.m hrm (by omega) hT).mono ?_
  rintro e w2 ⟨rfl,hB2⟩
  obtain ⟨hbl2,⟨d0,d1,d2,d3,d4,d5,d6⟩,yy⟩:=wr7 (HG.out.bx.below hB2)
  obtain ⟨hrl,⟨r0,r1,r2,r3,r4,r5⟩,f0,f1,f2,f3,f4,f5⟩:=Md.wr6 (HBR.out.below hB2)
  have HB2:Hid (Below w.heap.size w w2):=HB1.out.trans (hB2.mono HB1.out.size)
  have HOM:Hid (OwM w2 (fun y=>lo≤y) (.slice ak st.m.ks.length ck) (.slice ax st.m.ts.length ct) st.m):=HG.out.om.below hB2
  have hte:(ByteArray.mk (mtext st.m).toArray).data.toList=mtext st.m:=by simp
  generalize ByteArray.mk (mtext st.m).toArray=t at hte ⊢
  have HTE:Hid (t.data.toList=mtext st.m):=hte
  clear hte hrm hT hB2 c0 c1 c2 c3 c4 c5 d6 yy hB1 br1 hsm
  by_cases h1:t=s
  ·
   have HR:Hid (Reads s.data.toList st.m true):=reads_yes HRD.out (by rw [← HTE.out,h1])
   have q1:=Ls.tl_eq h1
   clear h1
   go_wp2
   refine bodyPost_ret (v:=.tuple #[.agg #[.int .i64 st.m.n,.int .i64 st.m.c,.int .i64 st.m.prior,.int .i64 st.m.base,.slice ak st.m.ks.length ck,.slice ax st.m.ts.length ct],.bool true]) (by rw [results_ct rfl];go_simp) rfl ⟨st.m,true,_,_,HR.out,rfl,?_,HSM.out,?_⟩
   ·
    have hRl:R<lo:=by have h1:=HRW.out;have h2:=HLE.out;have h3:=HLO.out;omega
    exact (om_set (om_set (om_set (om_set (om_set (om_set HOM.out hRl) hRl) hRl) hRl) hRl) hRl).mono (fun y hy=>by have h1:=HRW.out;show _≤_;omega)
   ·
    exact bel6 HB2.out HRW.out _ _ _ _ _ _
  ·
   have HR:Hid (Reads s.data.toList zero false):=reads_no HRD.out (fun e=>h1 (by
    have h2:=HTE.out.trans e
    obtain ⟨⟨a⟩⟩:=t
    obtain ⟨⟨c⟩⟩:=s
    exact congrArg (fun x=>ByteArray.mk ⟨x⟩) h2))
   have q1:=Ls.tl_ne h1
   clear h1
   go_wp2
   refine bodyPost_ret (v:=.tuple #[.agg #[.int .i64 0,.int .i64 0,.int .i64 0,.int .i64 0,.slice none 0 0,.slice none 0 0],.bool false]) (by rw [results_ct rfl];go_simp) rfl (ans_no HR.out ?_)
   exact bel6 HB2.out HRW.out _ _ _ _ _ _
 ·
  have HR:Hid (Reads s.data.toList zero false):=reads_none hrd
  obtain ⟨hrl,⟨r0,r1,r2,r3,r4,r5⟩,f0,f1,f2,f3,f4,f5⟩:=Md.wr6 br1
  clear hrd
  go_wp2
  refine bodyPost_ret (v:=.tuple #[.agg #[.int .i64 0,.int .i64 0,.int .i64 0,.int .i64 0,.slice none 0 0,.slice none 0 0],.bool false]) (by rw [results_ct rfl];go_simp) rfl (ans_no HR.out ?_)
  exact bel6 HB1.out HRW.out _ _ _ _ _ _
end Go.Proofs.YtaojoamldoofpaaGreatDoor.Rm
