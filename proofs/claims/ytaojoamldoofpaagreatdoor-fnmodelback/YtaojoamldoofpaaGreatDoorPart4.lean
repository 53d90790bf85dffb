/-
  Contracts that the proof leans on, put together in the order in which they build.
-/
import Derived.Test.YtaojoamldoofpaaGreatDoorPart3
import Derived.Test.YtaojoamldoofpaaGreatDoorRows
import Derived.WalkKit
import Derived.Test.YtaojoamldoofpaaGreatDoorPart1
import Derived.Test.YtaojoamldoofpaaGreatDoorPart2
import Derived.Maps.AppendAt
import Derived.Deep.AppendLies
import Derived.Deep.RegionLaw
import Derived.Deep.RegionWith
import Derived.Deep.RegionHeld
set_option linter.unusedVariables false
namespace Go.Proofs.YtaojoamldoofpaaGreatDoor.Bp
set_option maxRecDepth 100000
open Go.RowKit
open Li (ret_bool ret_int below_none IsL btw)
open Se Sv Sw7
structure B where
 f:Int
 b:Int
 top:Int
 found:Bool
def stp (r:R) (q:B) (f b:Int):B:=if q.found=false ∨ q.top<gain r f b then ⟨f,b,gain r f b,true⟩ else q
def inn (r:R) (f:Int) (q:B) (bs:List Int):B:=bs.foldl (fun q b=>stp r q f b) q
def out (r:R) (bs:List (List Int)):Nat→B
 | 0=>⟨0,0,0,false⟩
 | k+1=>inn r k (out r bs k) (bs.getD k [])
def best (r:R) (bs:List (List Int)):B:=if rok r=true∧r.lv≤8∧bs.length=6 then out r bs 6 else ⟨0,0,0,false⟩
theorem inn_zero (r:R) (f:Int) (q:B) (bs:List Int):inn r f q (bs.take 0)=q:=by simp [inn]
theorem inn_take (r:R) (f:Int) (q:B) (bs:List Int) (j:Nat) (hj:j<bs.length):inn r f q (bs.take (j+1))=stp r (inn r f q (bs.take j)) f bs[j]:=by
 unfold inn
 rw [← List.take_append_getElem hj,List.foldl_append]
 rfl
theorem inn_all (r:R) (f:Int) (q:B) (bs:List Int):inn r f q (bs.take bs.length)=inn r f q bs:=by rw [List.take_length]
theorem stp_yes {r:R} {q:B} {f b g:Int} (hg:gain r f b=g) (h:q.found=false ∨ q.top<g):stp r q f b=⟨f,b,g,true⟩:=by unfold stp;rw [hg,if_pos h]
theorem stp_no {r:R} {q:B} {f b g:Int} (hg:gain r f b=g) (h:¬ (q.found=false ∨ q.top<g)):stp r q f b=q:=by unfold stp;rw [hg,if_neg h]
theorem best_ok {r:R} {bs:List (List Int)} (h:rok r=true) (h8:r.lv≤8) (h6:bs.length=6):best r bs=out r bs 6:=if_pos ⟨h,h8,h6⟩
theorem best_no {r:R} {bs:List (List Int)} (h:¬ (rok r=true∧r.lv≤8∧bs.length=6)):best r bs=⟨0,0,0,false⟩:=if_neg h
theorem results_ctt {fn:Func} {p q q2:Tmp} {ty:TypeId} (h:fn.results=#[.cell p ty,.tmp q,.tmp q2]) (tmps:Array Value) (P:Program) (w:World) :
  (results fn tmps).run P w=((asAddr (tmps.getD p undef)).run P w).andThen fun a w₁=>((loadVar ty a).run P w₁).andThen fun v w₂=>.ok (.tuple #[v,tmps.getD q undef,tmps.getD q2 undef]) w₂:=by
 simp only [results,h]
 simp [Sem.run_bind,Result.andThen]
def Fp (p n:Nat):Nat→Prop:=fun y=>y=p ∨ n≤y
theorem fp_set {w0 w:World} {p n:Nat} {u0 u1:Value} (h:Fr (Fp p n) w0 w) (hw:Wr w p 0 [u0,u1]) (v0 v1:Value):Fr (Fp p n) w0 ((w.setCell ⟨p,0,none⟩ v0).setCell ⟨p,1,none⟩ v1)∧Wr ((w.setCell ⟨p,0,none⟩ v0).setCell ⟨p,1,none⟩ v1) p 0 [v0,v1]:=by
 have h1:=hw.set 0 (by simp) v0
 have h2:=h1.set 1 (by simp) v1
 exact ⟨(h.trans (fr_grown (Li.grown_set w p 0 v0) (.inl rfl))).trans (fr_grown (Li.grown_set _ p 1 v1) (.inl rfl)),by simpa using h2⟩
theorem isv_at {w:World} {a:Option Addr} {xs:List (List Int)} (h:IsV w a xs) {k:Nat} (hk:k<xs.length):∃ b off a' c',a=some ⟨b,off,none⟩∧b<w.heap.size∧w.cell? ⟨b,off+k,none⟩=some (.slice a' (xs.getD k []).length c')∧IsL w a' (xs.getD k []):=by
 rcases h with h | ⟨b,off,rfl,hb,hc⟩
 ·
  rw [h] at hk;simp at hk
 ·
  obtain ⟨a',c',h1,h2⟩:=hc k hk
  have e:xs.getD k []=xs[k]:=by simp [List.getD,List.getElem?_eq_getElem hk]
  rw [e]
  exact ⟨b,off,a',c',rfl,hb,h1,h2⟩
set_option maxHeartbeats 4000000 in
theorem sbest (w:World) (a0 a1 a2 ab:Option Addr) (c0 c1 c2 cb:Nat) (r:R) (bs:List (List Int)) (h:Rd w a0 a1 a2 r) (hb:IsV w ab bs) (hl:∀ x ∈ bs,x.length≤1048576) :
  Calls Tryz.prog 130 #[.agg #[.slice a0 r.x.length c0,.slice a1 r.g.length c1,.slice a2 r.ids.length c2,.int .i64 r.lv,.int .i64 r.l2],.slice ab bs.length cb] w fun e w'=>e=.returned (.tuple #[.agg #[.int .i64 (best r bs).f,.int .i64 (best r bs).b],.int .i64 (best r bs).top,.bool (best r bs).found])∧Below w.heap.size w w':=by
 obtain ⟨n,hn⟩:∃ n,bs.length=n:=⟨_,rfl⟩
 have HN:Hid (bs.length=n):=hn
 have HLX:Hid (∀ x ∈ bs,x.length≤1048576):=hl
 have HV:Hid (IsV w ab bs):=hb
 have HH:Hid (Rd w a0 a1 a2 r):=h
 rw [hn]
 go_enter Tryz.func130,Tryz.ntmps130
 go_wp2_with fail
 obtain ⟨W,hW,hsz,hB,bx,bz,bp⟩:=new3 w [.slice a0 r.x.length c0,.slice a1 r.g.length c1,.slice a2 r.ids.length c2,.int .i64 r.lv,.int .i64 r.l2] [.int .i64 0,.int .i64 0] [.int .i64 0,.int .i64 0] 151 58 58
 rw [hW]
 refine (srows _ _ _ _ _ _ _ r (h.below hB)).mono ?_
 rintro e w1 ⟨rfl,hb1⟩
 have HB:Hid (Below w.heap.size w w1):=hB.trans (hb1.mono hB.size)
 have bx:=bx.below hb1
 have bz:=bz.below hb1
 have bp:=bp.below hb1
 obtain ⟨_,⟨x0,x1,x2,x3,x4⟩,_⟩:=wr5 bx
 have hlx:=bx.1
 have hlz:=bz.1
 have hlp:=bp.1
 obtain ⟨P,hP⟩:∃ P,w.heap.size=P:=⟨_,rfl⟩
 rw [hP] at bx bz bp hlx hlz hlp x0 x1 x2 x3 x4
 rw [hP]
 have HP:Hid (w.heap.size=P):=hP
 clear hn hl hb h hW hsz hB hb1 hP
 have HX:Hid (type_of% bx):=bx
 have HZ:Hid (type_of% bz):=bz
 obtain ⟨lv,hlv⟩:∃ x,r.lv=x:=⟨_,rfl⟩
 have HLV:Hid (r.lv=lv):=hlv
 rw [hlv] at x3 ⊢
 clear hlv
 by_cases hc:rok r=true∧lv≤8∧n=6
 rotate_left
 ·
  have HC:Hid (best r bs=⟨0,0,0,false⟩):=best_no (by rw [HN.out,HLV.out];exact hc)
  obtain ⟨_,⟨p0,p1⟩,_⟩:=wr2 bp
  obtain ⟨_,⟨z0,z1⟩,z2,z3⟩:=wr2 bz
  have HE:Hid (Below w.heap.size w ((w1.setCell ⟨P+1,0,none⟩ (.int .i64 0)).setCell ⟨P+1,1,none⟩ (.int .i64 0))):=by
   have h1:=HP.out
   exact (HB.out.setCell (p:=⟨P+1,0,none⟩) (by show _≤P+1;omega) _).setCell (p:=⟨P+1,1,none⟩) (by show _≤P+1;omega) _
  cases hr:rok r with
  | false =>
   clear hc bx bz bp
   go_wp2
   refine bodyPost_ret (v:=.tuple #[.agg #[.int .i64 0,.int .i64 0],.int .i64 0,.bool false]) (by rw [results_ctt rfl];go_simp) rfl ⟨by rw [HC.out],HE.out⟩
  | true =>
   by_cases h8:lv≤8
   ·
    have h6:((n:Int) != 6)=true:=by
     have:¬ n=6:=fun e=>hc ⟨hr,h8,e⟩
     simp;omega
    have h8':¬ 8<lv:=by omega
    clear hc bx bz bp
    go_wp2
    refine bodyPost_ret (v:=.tuple #[.agg #[.int .i64 0,.int .i64 0],.int .i64 0,.bool false]) (by rw [results_ctt rfl];go_simp) rfl ⟨by rw [HC.out],HE.out⟩
   ·
    have h8':8<lv:=by omega
    clear hc bx bz bp h8
    go_wp2
    refine bodyPost_ret (v:=.tuple #[.agg #[.int .i64 0,.int .i64 0],.int .i64 0,.bool false]) (by rw [results_ctt rfl];go_simp) rfl ⟨by rw [HC.out],HE.out⟩
 obtain ⟨hr,h8,rfl⟩:=hc
 have h8':¬ 8<lv:=by omega
 have HR:Hid (rok r=true):=hr
 have H8:Hid (lv≤8):=h8
 rw [hr]
 have HBP:Hid (type_of% bp):=bp
 clear bx bz bp h8
 go_wp2_with fail
 have HFB:Hid (∀ X:World,Fr (Fp (P+2) w1.heap.size) w1 X→Below w.heap.size w X):=fun X hX=>by
  have h1:=HP.out
  exact HB.out.trans (hX.bel (fun k hk=>by unfold Fp at hk;omega) HB.out.size)
 clear x0 x1 x2 x3 x4 h8'
 go_loopw [8,9,10] (fun t fd i wr=>∃ k:Nat,k≤6∧i=.int .i64 k∧∃ q:B,q=out r bs k∧t=.int .i64 q.top∧fd=.bool q.found∧Wr wr (P+2) 0 [.int .i64 q.f,.int .i64 q.b]∧Fr (Fp (P+2) w1.heap.size) w1 wr) (fun _ _ i _=>6-(intOf i).toNat)
 case atStart=>exact ⟨0,by omega,rfl,⟨0,0,0,false⟩,rfl,rfl,rfl,HBP.out,Fr.refl _ _⟩
 case round =>
  obtain ⟨k,hk,rfl,q,hq,rfl,rfl,hwr,hfr⟩:=hrel
  have HQ:Hid (q=out r bs k):=hq
  have HF:Hid (type_of% hfr):=hfr
  have HBR:Hid (Below w.heap.size w wr):=HFB.out wr hfr
  obtain ⟨hlw,⟨p0,p1⟩,p2,p3⟩:=wr2 hwr
  have HWR:Hid (type_of% hwr):=hwr
  clear hq hfr hwr
  by_cases hlt:k<6
  ·
   obtain ⟨vb,vo,a',c',hab,hvb,hcell,hisl⟩:=isv_at HV.out (by rw [HN.out];exact hlt)
   subst hab
   obtain ⟨x,hx⟩:∃ x,bs.getD k []=x:=⟨_,rfl⟩
   have HXK:Hid (bs.getD k []=x):=hx
   have hxl:x.length≤1048576:=by
    rw [← hx]
    have hkb:k<bs.length:=by rw [HN.out];exact hlt
    have e:bs.getD k []=bs[k]:=by simp [List.getD,List.getElem?_eq_getElem hkb]
    rw [e];exact HLX.out _ (List.getElem_mem hkb)
   rw [hx] at hcell hisl
   obtain ⟨m,hm⟩:∃ m,x.length=m:=⟨_,rfl⟩
   have HM:Hid (x.length=m):=hm
   rw [hm] at hcell hxl
   have HCX:Hid (∀ X:World,Below w.heap.size w X→vb<X.heap.size∧X.cell? ⟨vb,vo+k,none⟩=some (.slice a' m c')∧IsL X a' x):=fun X hX=>⟨Nat.lt_of_lt_of_le hvb hX.size,(hX.cell (by exact hvb)).trans hcell,hisl.below hX⟩
   obtain ⟨wo,hwo⟩:∃ wo,wo=wr:=⟨_,rfl⟩
   rw [← hwo] at HF HBR HWR hlw p0 p1 p2 p3 ⊢
   clear hwo hx hm hcell hisl hvb
   obtain ⟨hvo,hco,_⟩:=HCX.out wo HBR.out
   have hlti:(k:Int)<6:=by omega
   have hltd:decide ((k:Int)<6)=true:=by simp [hlti]
   go_wp2_with fail
   clear hvo hco p0 p1 p2 p3 hlw
   go_loopw [8,9,11] (fun t fd i wr=>∃ j:Nat,j≤m∧i=.int .i64 j∧∃ p:B,p=inn r k q (x.take j)∧t=.int .i64 p.top∧fd=.bool p.found∧Wr wr (P+2) 0 [.int .i64 p.f,.int .i64 p.b]∧Fr (Fp (P+2) w1.heap.size) w1 wr) (fun _ _ i _=>m-(intOf i).toNat)
   case atStart=>exact ⟨0,by omega,rfl,q,(inn_zero _ _ _ _).symm,rfl,rfl,HWR.out,HF.out⟩
   case round =>
    obtain ⟨j,hj,rfl,p,hp,rfl,rfl,hwr,hfr⟩:=hrel
    have HQJ:Hid (p=inn r k q (x.take j)):=hp
    have HFJ:Hid (type_of% hfr):=hfr
    have HBJ:Hid (Below w.heap.size w wr):=HFB.out wr hfr
    obtain ⟨hlw,⟨p0,p1⟩,p2,p3⟩:=wr2 hwr
    have HWJ:Hid (type_of% hwr):=hwr
    obtain ⟨hvo,hco,hil⟩:=HCX.out wr HBJ.out
    have hxw:=HX.out.keptAt hfr.size (hfr.block _ hlx (by unfold Fp;omega))
    obtain ⟨hlx2,⟨x0,x1,x2,x3,x4⟩,_⟩:=wr5 hxw
    rw [HLV.out] at x3
    clear hp hfr hwr hxw
    by_cases hjm:j<m
    ·
     have hjx:j<x.length:=by rw [HM.out];exact hjm
     rcases hil with h0 | ⟨xb,xo,ha,hxb,hxc⟩
     ·
      rw [h0] at hjx;simp at hjx
     subst ha
     have hxj:=hxc j hjx
     obtain ⟨y,hy⟩:∃ y,x[j]=y:=⟨_,rfl⟩
     have HY:Hid (x[j]=y):=hy
     rw [hy] at hxj
     clear hy hxc
     have hji:(j:Int)<m:=by omega
     go_wp2_with fail
     obtain ⟨X1,hX1,hs1,hb1,by1⟩:=new1 wr [.int .i64 k,.int .i64 y] 58
     rw [hX1]
     obtain rfl:=HLV.out
     refine (sgain X1 a0 a1 a2 c0 c1 c2 r k y (HH.out.below (HBJ.out.trans (hb1.mono HBJ.out.size)))).mono ?_
     rintro e X2 ⟨rfl,hb2⟩
     obtain ⟨g,hg⟩:∃ g,gain r k y=g:=⟨_,rfl⟩
     have HG:Hid (gain r k y=g):=hg
     rw [hg]
     have HF2:Hid (Fr (Fp (P+2) w1.heap.size) w1 X2):=HFJ.out.trans ((fr_below hb1).trans (fr_below hb2))
     have hwb:=(HWJ.out.below hb1).below hb2
     have HWB:Hid (type_of% hwb):=hwb
     obtain ⟨hlb,⟨b0,b1⟩,b2,b3⟩:=wr2 hwb
     obtain ⟨hly,⟨y0,y1⟩,_⟩:=wr2 (by1.below hb2)
     clear hX1 hs1 hb1 by1 hb2 hg hwb p0 p1 p2 p3 hlw x0 x1 x2 x3 x4 hxj hco hvo hxb hlx2
     by_cases hc:p.found=false ∨ p.top<g
     ·
      have HS:Hid ((⟨k,y,g,true⟩:B)=inn r k q (x.take (j+1))):=by
       show _=_
       rw [inn_take _ _ _ _ _ hjx,← HQJ.out,HY.out,stp_yes HG.out hc]
      have HD:=fp_set HF2.out HWB.out (.int .i64 k) (.int .i64 y)
      cases hfd:p.found with
      | false =>
       clear hc
       go_wp2
       go_roundw
       case rel=>exact ⟨j+1,by omega,by go_num,⟨k,y,g,true⟩,HS.out,rfl,rfl,HD.2,HD.1⟩
       case measure=>simp [intOf];omega
      | true =>
       have hlg:p.top<g:=by
        rcases hc with h | h
        ·
         rw [hfd] at h;cases h
        ·
         exact h
       clear hc
       go_wp2
       go_roundw
       case rel=>exact ⟨j+1,by omega,by go_num,⟨k,y,g,true⟩,HS.out,rfl,rfl,HD.2,HD.1⟩
       case measure=>simp [intOf];omega
     ·
      have HS:Hid (p=inn r k q (x.take (j+1))):=by
       show _=_
       rw [inn_take _ _ _ _ _ hjx,← HQJ.out,HY.out,stp_no HG.out hc]
      have hfd:p.found=true:=by
       cases h:p.found
       ·
        exact absurd (.inl h) hc
       ·
        rfl
      have hlg:¬ p.top<g:=fun h=>hc (.inr h)
      rw [hfd]
      clear hc
      go_wp2
      go_roundw
      case rel=>exact ⟨j+1,by omega,by go_num,p,HS.out,rfl,by rw [hfd],HWB.out,HF2.out⟩
      case measure=>simp [intOf];omega
    ·
     obtain rfl:j=m:=by omega
     have hji:¬ (j:Int)<j:=by omega
     go_wp2
     go_roundw
     case rel=>exact ⟨k+1,by omega,by go_num,p,by rw [HQJ.out,HQ.out];show _=inn r k (out r bs k) (bs.getD k []);rw [HXK.out,← HM.out,inn_all],rfl,rfl,HWJ.out,HFJ.out⟩
     case measure=>simp [intOf];omega
  ·
   obtain rfl:k=6:=by omega
   obtain ⟨_,⟨z0,z1⟩,z2,z3⟩:=wr2 (HZ.out.keptAt HF.out.size (HF.out.block _ hlz (by unfold Fp;omega)))
   go_wp2
   have h1:=HP.out
   refine bodyPost_ret (v:=.tuple #[.agg #[.int .i64 q.f,.int .i64 q.b],.int .i64 q.top,.bool q.found]) (by rw [results_ctt rfl];go_simp) rfl ⟨by rw [best_ok HR.out (by rw [HLV.out];exact H8.out) HN.out,← HQ.out],?_⟩
   exact (HBR.out.setCell (p:=⟨P+1,0,none⟩) (by show _≤P+1;omega) _).setCell (p:=⟨P+1,1,none⟩) (by show _≤P+1;omega) _
end Go.Proofs.YtaojoamldoofpaaGreatDoor.Bp
namespace Go.Proofs.YtaojoamldoofpaaGreatDoor.Ar
open Go.RowKit
def flo (a b:Int):Int:=if ¬ a.tmod b=0∧¬ (decide (a<0)=decide (b<0)) then wrap64 (wrap64 (a.tdiv b)-1) else wrap64 (a.tdiv b)
theorem ret_int {k:IntKind} {a b:Int} (h:a=b):Ending.returned (.int k a)=.returned (.int k b):=by rw [h]
theorem flo_one {a b:Int} (h:a.tmod b=0):flo a b=wrap64 (a.tdiv b):=by unfold flo;rw [if_neg (fun hh=>hh.1 h)]
theorem flo_two {a b:Int} (h:¬ a.tmod b=0) (h':(a.tmod b != 0)=true∧(!decide (a<0) == decide (b<0))=true):flo a b=wrap64 (wrap64 (a.tdiv b)-1):=by
 unfold flo;rw [if_pos ⟨h,fun e=>by rw [e] at h';simp at h'⟩]
theorem flo_three {a b:Int} (h:¬ a.tmod b=0) (h':(a.tmod b != 0)=false ∨ (!decide (a<0) == decide (b<0))=false):flo a b=wrap64 (a.tdiv b):=by
 unfold flo
 rw [if_neg]
 rintro ⟨_,e⟩
 rcases h' with h' | h'
 ·
  simp at h';exact h h'
 ·
  simp at h';exact e (by simpa using h')
set_option maxHeartbeats 400000 in
theorem floor_any (a b:Int) (w:World) (hb:¬ b=0) :
  Calls Tryz.prog 124 #[.int .i64 a,.int .i64 b] w fun e w'=>e=.returned (.int .i64 (flo a b))∧w'=w:=by
 go_enter Tryz.func124,Tryz.ntmps124
 go_wp2
 all_goals go_ret
 all_goals refine ⟨ret_int ?_,rfl⟩
 ·
  exact (flo_one ‹_›).symm
 ·
  exact (flo_two ‹_› ‹_›).symm
 ·
  exact (flo_three ‹_› ‹_›).symm
end Go.Proofs.YtaojoamldoofpaaGreatDoor.Ar
namespace Go.Proofs.YtaojoamldoofpaaGreatDoor.Ar
open Go.RowKit
def clip (x:Int):Int:=if x < -1000000000 then -1000000000 else if 1000000000<x then 1000000000 else x
theorem clip_bd (x:Int) : -1000000000≤clip x∧clip x≤1000000000:=by unfold clip;split <;> (try split) <;> omega
def fmul (a b:Int):Int:=clip (flo (clip a * clip b) 1000)
theorem mul_bd {a b:Int} (ha : -1000000000≤a∧a≤1000000000) (hb : -1000000000≤b∧b≤1000000000) : -1000000000000000000≤a * b∧a * b≤1000000000000000000:=by
 have h1:(a * b).natAbs≤1000000000 * 1000000000:=by rw [Int.natAbs_mul];exact Nat.mul_le_mul (by omega) (by omega)
 omega
set_option maxHeartbeats 400000 in
theorem clip_any (x:Int) (w:World) :
  Calls Tryz.prog 127 #[.int .i64 x] w fun e w'=>e=.returned (.int .i64 (clip x))∧w'=w:=by
 go_enter Tryz.func127,Tryz.ntmps127
 go_wp2
 all_goals go_ret
 all_goals refine ⟨ret_int ?_,rfl⟩
 all_goals unfold clip;(repeat' split) <;> (try split at *) <;> omega
set_option maxHeartbeats 400000 in
theorem smul_any (a b:Int) (w:World) :
  Calls Tryz.prog 157 #[.int .i64 a,.int .i64 b] w fun e w'=>e=.returned (.int .i64 (fmul a b))∧w'=w:=by
 have ha:=clip_bd a
 have hb:=clip_bd b
 have hm:=mul_bd ha hb
 go_enter Tryz.func157,Tryz.ntmps157
 go_wp2_with (first | (go_at_call 127;refine (clip_any _ _).mono ?_;rintro e w' ⟨rfl,rfl⟩) | (go_at_call 124;refine (floor_any _ _ _ (by omega)).mono ?_;rintro e w' ⟨rfl,rfl⟩))
 go_ret
 exact ⟨rfl,rfl⟩
end Go.Proofs.YtaojoamldoofpaaGreatDoor.Ar
namespace Go.Proofs.YtaojoamldoofpaaGreatDoor.Gw
open Go.RowKit
open Li (ret_bool ret_int below_none IsL btw)
def gok (d r:Int):Bool:=btw d 0 4 && btw r 1 1000
set_option maxHeartbeats 400000 in
theorem sgok (w:World) (d r:Int):Calls Tryz.prog 129 #[.agg #[.int .i64 d,.int .i64 r]] w fun e w'=>e=.returned (.bool (gok d r))∧Below w.heap.size w w':=by
 have HR:Hid (gok d r=(btw d 0 4 && btw r 1 1000)):=rfl
 cases hv:btw d 0 4 with
 | false =>
  go_enter Tryz.func129,Tryz.ntmps129
  go_wp2_with (go_at_call 33;refine (Li.between_any _ _ _ _).mono ?_;rintro e w' ⟨rfl,hw⟩;subst w';rw [hv])
  go_ret
  exact ⟨ret_bool (by rw [HR.out,hv];rfl),(Below.refl _ _).alloc (Nat.le_refl _) _⟩
 | true =>
  go_enter Tryz.func129,Tryz.ntmps129
  go_wp2_with (go_at_call 33;refine (Li.between_any _ _ _ _).mono ?_;rintro e w' ⟨rfl,hw⟩;subst w';(try rw [hv]))
  go_ret
  exact ⟨ret_bool (by rw [HR.out,hv];rfl),(Below.refl _ _).alloc (Nat.le_refl _) _⟩
end Go.Proofs.YtaojoamldoofpaaGreatDoor.Gw
namespace Go.Proofs.YtaojoamldoofpaaGreatDoor.Gw
open Go.RowKit
open Li (ret_bool ret_int below_none IsL btw Own iv)
open Tm (IsP)
open Se Sv Sw7
def lval (c:Int × Int) (l2 rate:Int):Int:=if c.1=0 then 0 else Ar.fmul (Ar.flo c.2 (c.1+l2)) rate
def lok (cs:List (Int × Int)) (l2 rate:Int):Bool:=scok cs l2 && btw rate 1 1000
def lvs (cs:List (Int × Int)) (l2 rate:Int):List Int:=if lok cs l2 rate=true then cs.map (fun c=>lval c l2 rate) else []
theorem lvs_ok {cs:List (Int × Int)} {l2 rate:Int} (h:lok cs l2 rate=true):lvs cs l2 rate=cs.map (fun c=>lval c l2 rate):=if_pos h
theorem lvs_no {cs:List (Int × Int)} {l2 rate:Int} (h:lok cs l2 rate=false):lvs cs l2 rate=[]:=if_neg (by simp [h])
theorem lvs_le (cs:List (Int × Int)) (l2 rate:Int):(lvs cs l2 rate).length≤16:=by
 cases h:lok cs l2 rate with
 | false=>rw [lvs_no h];simp
 | true =>
  rw [lvs_ok h]
  simp only [lok,Bool.and_eq_true] at h
  have:=(scok_iff.1 h.1).1
  simpa using this
theorem map_take {cs:List (Int × Int)} {f:Int × Int→Int} {k:Nat} (h:k<cs.length):(cs.take (k+1)).map f=(cs.take k).map f ++ [f cs[k]]:=by
 rw [List.take_succ_eq_append_getElem h,List.map_append];rfl
set_option maxHeartbeats 2000000 in
theorem s8cells (w:World) (a:Option Addr) (cap:Nat) (ps:List (Int × Int)) (l2:Int) (h:IsP w a ps) (hl:ps.length≤1048576) :
  Calls Tryz.prog 156 #[.slice a ps.length cap,.int .i64 l2] w fun e w'=>e=.returned (.bool (scok ps l2))∧Below w.heap.size w w':=by
 by_cases h16:ps.length≤16
 rotate_left
 ·
  have HR:Hid (scok ps l2=false):=scok_head (fun h=>h16 h.1)
  have hd:decide (16<(ps.length:Int))=true:=by simp;omega
  go_enter Tryz.func156,Tryz.ntmps156
  go_wp2_with fail
  go_ret
  exact ⟨ret_bool HR.out.symm,Below.refl _ _⟩
 have hd:decide (16<(ps.length:Int))=false:=by simp;omega
 cases hv:btw l2 1 1000 with
 | false =>
  have HR:Hid (scok ps l2=false):=scok_head (fun h=>by simp only [btw,decide_eq_false_iff_not] at hv;exact hv h.2)
  go_enter Tryz.func156,Tryz.ntmps156
  go_wp2_with (go_at_call 33;refine (Li.between_any _ _ _ _).mono ?_;rintro e w' ⟨rfl,hw⟩;subst w';rw [hv])
  go_ret
  exact ⟨ret_bool HR.out.symm,Below.refl _ _⟩
 | true =>
  have h2:1≤l2∧l2≤1000:=by simp only [btw,decide_eq_true_iff] at hv;exact hv
  go_enter Tryz.func156,Tryz.ntmps156
  go_wp2_with (go_at_call 33;refine (Li.between_any _ _ _ _).mono ?_;rintro e w' ⟨rfl,hw⟩;subst w';rw [hv])
  clear hv
  go_loopw [5] (fun i wr=>∃ k:Nat,k≤ps.length∧i=.int .i64 k∧(∀ j (hj:j<ps.length),j<k→cok ps[j])∧Below w.heap.size w wr) (fun i _=>ps.length-(intOf i).toNat)
  case atStart=>exact ⟨0,Nat.zero_le _,rfl,fun j hj h=>by omega,Below.refl _ _⟩
  case round =>
   obtain ⟨k,hk,rfl,hn,hBr⟩:=hrel
   have HN:Hid (∀ j (hj:j<ps.length),j<k→cok ps[j]):=hn
   clear hn
   by_cases hlt:k<ps.length
   ·
    rcases h.below hBr with h0 | ⟨b,off,rfl,hb,hc⟩
    ·
     rw [h0] at hlt;simp at hlt
    obtain ⟨c0,c1⟩:=hc k hlt
    have HCK:Hid (cok ps[k]↔btw ps[k].1 0 40=true∧btw ps[k].2 (-80000000) 80000000=true):=by show _↔_;simp [cok,btw]
    have HBAD:Hid (¬ cok ps[k]→scok ps l2=false):=fun hb=>scok_bad hlt hb
    obtain ⟨N,hN⟩:∃ N,ps[k].1=N:=⟨_,rfl⟩
    obtain ⟨G,hG⟩:∃ G,ps[k].2=G:=⟨_,rfl⟩
    rw [hN] at c0 HCK
    rw [hG] at c1 HCK
    clear hc hN hG
    cases hv1:btw N 0 40 with
    | false =>
     have HR:Hid (scok ps l2=false):=HBAD.out (fun h=>by have:=(HCK.out.1 h).1;rw [hv1] at this;cases this)
     go_wp2_with (go_at_call_of 33 N;refine (Li.between_any _ _ _ _).mono ?_;rintro e w' ⟨rfl,hw⟩;subst w';rw [hv1])
     go_ret
     exact ⟨ret_bool HR.out.symm,hBr⟩
    | true =>
     cases hv2:btw G (-80000000) 80000000 with
     | false =>
      have HR:Hid (scok ps l2=false):=HBAD.out (fun h=>by have:=(HCK.out.1 h).2;rw [hv2] at this;cases this)
      go_wp2_with (first | (go_at_call_of 33 N;refine (Li.between_any _ _ _ _).mono ?_;rintro e w' ⟨rfl,hw⟩;subst w';rw [hv1]) | (go_at_call_of 33 G;refine (Li.between_any _ _ _ _).mono ?_;rintro e w' ⟨rfl,hw⟩;subst w';rw [hv2]))
      go_ret
      exact ⟨ret_bool HR.out.symm,hBr⟩
     | true =>
      have hck:=HCK.out.2 ⟨hv1,hv2⟩
      have HR:Hid (∀ j (hj:j<ps.length),j<k+1→cok ps[j]):=fun j hj h=>by
       by_cases e:j=k
       ·
        subst e;exact hck
       ·
        exact HN.out j hj (by omega)
      clear hck
      go_wp2_with (first | (go_at_call_of 33 N;refine (Li.between_any _ _ _ _).mono ?_;rintro e w' ⟨rfl,hw⟩;subst w';rw [hv1]) | (go_at_call_of 33 G;refine (Li.between_any _ _ _ _).mono ?_;rintro e w' ⟨rfl,hw⟩;subst w';rw [hv2]))
      go_roundw
      case rel=>exact ⟨k+1,by omega,by go_num,HR.out,hBr⟩
      case measure=>simp [intOf];omega
   ·
    obtain rfl:k=ps.length:=by omega
    have HR:Hid (scok ps l2=true):=scok_all h16 h2 (fun j hj=>HN.out j hj hj)
    go_wp2
    go_ret
    exact ⟨ret_bool HR.out.symm,hBr⟩
set_option maxHeartbeats 2000000 in
theorem slvs (w:World) (a:Option Addr) (cap:Nat) (ps:List (Int × Int)) (l2 rate:Int) (h:IsP w a ps) (hl:ps.length≤1048576) :
  Calls Tryz.prog 134 #[.slice a ps.length cap,.int .i64 l2,.int .i64 rate] w fun e w'=>∃ v,e=.returned v∧Own w' w.heap.size v (lvs ps l2 rate)∧Below w.heap.size w w':=by
 obtain ⟨i0,hi,hz0,hz1,hz2⟩:=info_parts Li.info_int
 go_enter Tryz.func134,Tryz.ntmps134
 go_wp2_with fail
 have ho0:=Ai.own_empty w w.heap.size (Nat.le_refl _)
 have hB0:Below w.heap.size w (w.alloc (.cells #[] 3)):=(Below.refl _ _).alloc (Nat.le_refl _) _
 obtain ⟨w0,hw0⟩:∃ w0,w.alloc (.cells #[] 3)=w0:=⟨_,rfl⟩
 rw [hw0] at ho0 hB0 ⊢
 clear hw0
 refine (s8cells _ _ _ ps l2 (h.below hB0) hl).mono ?_
 rintro e w1 ⟨rfl,hb⟩
 have ho1:=ho0.below hb
 have hB1:=hB0.trans (hb.mono hB0.size)
 clear hb ho0 hB0
 cases hv:scok ps l2 with
 | false =>
  have HR:Hid (lvs ps l2 rate=[]):=lvs_no (by simp [lok,hv])
  go_wp2_with fail
  go_ret
  exact ⟨_,rfl,by rw [HR.out];exact ho1,hB1⟩
 | true =>
  cases hr:btw rate 1 1000 with
  | false =>
   have HR:Hid (lvs ps l2 rate=[]):=lvs_no (by simp [lok,hr])
   go_wp2_with (go_at_call 33;refine (Li.between_any _ _ _ _).mono ?_;rintro e w' ⟨rfl,hw⟩;subst w';rw [hr])
   go_ret
   exact ⟨_,rfl,by rw [HR.out];exact ho1,hB1⟩
  | true =>
   have HR:Hid (lvs ps l2 rate=ps.map (fun c=>lval c l2 rate)):=lvs_ok (by simp [lok,hr,hv])
   obtain ⟨h16,h2,hc0⟩:=scok_iff.1 hv
   have HC:Hid (∀ j (hj:j<ps.length),cok ps[j]):=fun j hj=>hc0 _ (List.getElem_mem hj)
   clear hc0 hv
   go_wp2_with (go_at_call 33;refine (Li.between_any _ _ _ _).mono ?_;rintro e w' ⟨rfl,hw⟩;subst w';rw [hr])
   clear hr
   go_loopw [7,8] (fun v i wr=>∃ k:Nat,k≤ps.length∧i=.int .i64 k∧∃ m:List Int,m=(ps.take k).map (fun c=>lval c l2 rate)∧Own wr w.heap.size v m∧Below w.heap.size w wr) (fun _ i _=>ps.length-(intOf i).toNat)
   case atStart=>exact ⟨0,Nat.zero_le _,rfl,[],by simp,ho1,hB1⟩
   case round =>
    obtain ⟨k,hk,rfl,m,hm,hown,hB⟩:=hrel
    have HM:Hid (m=(ps.take k).map (fun c=>lval c l2 rate)):=hm
    have hml:m.length=k:=by rw [hm];simp;omega
    have HL:Hid (m.length=k):=hml
    clear hm hml
    by_cases hlt:k<ps.length
    ·
     have hs:=hB.size
     rcases h.below hB with h0 | ⟨b,off,rfl,hb,hc⟩
     ·
      rw [h0] at hlt;simp at hlt
     obtain ⟨c0,c1⟩:=hc k hlt
     obtain ⟨⟨n0,n1⟩,g0,g1⟩:=HC.out k hlt
     have HT:Hid ((ps.take (k+1)).map (fun c=>lval c l2 rate)=(ps.take k).map (fun c=>lval c l2 rate) ++ [lval ps[k] l2 rate]):=map_take hlt
     have HV:Hid (lval ps[k] l2 rate=if ps[k].1=0 then 0 else Ar.fmul (Ar.flo ps[k].2 (ps[k].1+l2)) rate):=rfl
     obtain ⟨z,hz⟩:∃ z,lval ps[k] l2 rate=z:=⟨_,rfl⟩
     rw [hz] at HV HT
     obtain ⟨N,hN⟩:∃ N,ps[k].1=N:=⟨_,rfl⟩
     obtain ⟨G,hG⟩:∃ G,ps[k].2=G:=⟨_,rfl⟩
     rw [hN] at c0 HV n0 n1
     rw [hG] at c1 HV g0 g1
     clear hc hz hN hG
     by_cases hN0:N=0
     ·
      obtain rfl:z=0:=by rw [HV.out,if_pos hN0]
      subst hN0
      go_wp2_with (at_builtin;refine wpList_append_own _ rfl _ _ 45 rfl w.heap.size 3 i0 (.int .i64 0) 1 8 Tryz.underlying45 hi hz0 hz1 hz2 rfl (by decide) _ _ _ rfl (World.ownsRow.alloc hown _) ⟨wr.heap.size,0,none⟩ 1 1 [.int .i64 0] rfl rfl (Ai.one_cell _ _ _) (Ai.one_one _) (by have:=HL.out;unfold maxLen;omega) (by have:=HL.out;omega) (by simp;omega) ?_)
      intro v' w6 hown' hgrow hnn
      clear hnn
      have ho6:Own w6 w.heap.size v' (m ++ [0]):=Ai.own_snoc rfl hown'
      have hB6:Below w.heap.size w w6:=Ai.below_app (hB.alloc hB.size _) (by have:=hB.size;simp;omega) hgrow (fun k hk=>(hown.ge k hk).1)
      have HM6:Hid (m ++ [0]=(ps.take (k+1)).map (fun c=>lval c l2 rate)):=by show _=_;rw [HT.out,HM.out]
      clear hown' hgrow hown hB
      go_wp2
      go_roundw
      case rel=>exact ⟨k+1,by omega,by go_num,m ++ [0],HM6.out,ho6,hB6⟩
      case measure=>simp [intOf];omega
     ·
      have hz:z=Ar.fmul (Ar.flo G (N+l2)) rate:=by rw [HV.out,if_neg hN0]
      have HZ:Hid (z=Ar.fmul (Ar.flo G (N+l2)) rate):=hz
      have hne:¬ N+l2=0:=by omega
      clear hz HV
      have hgt:decide (0<N)=true:=by simp;omega
      clear hN0
      go_wp2_with fail
      have hwn:IntKind.i64.wrap (N+l2)=N+l2:=by simp [IntKind.wrap,IntKind.bits,IntKind.signed];omega
      go_quiet (first | (go_at_call 124;refine Calls.quiet_of_same (Ar.floor_any _ _ _ hne)) | (go_at_call 157;refine Calls.quiet_of_same (Ar.smul_any _ _ _)))
      clear hwn
      rw [← HZ.out]
      obtain ⟨W,hW⟩:∃ W,wr.drewN nq=W:=⟨_,rfl⟩
      have hbW:Below wr.heap.size wr W:=by rw [← hW];exact Tm.below_drewN' _ _
      have hown2:=hown.below hbW
      have hB2:=hB.trans (hbW.mono hB.size)
      have hs2:=hB2.size
      rw [hW]
      clear hW c0 c1 hown hB hb hbW hs
      go_wp2_with (at_builtin;refine wpList_append_own _ rfl _ _ 45 rfl w.heap.size 3 i0 (.int .i64 0) 1 8 Tryz.underlying45 hi hz0 hz1 hz2 rfl (by decide) _ _ _ rfl (World.ownsRow.alloc hown2 _) ⟨W.heap.size,0,none⟩ 1 1 [.int .i64 z] rfl rfl (Ai.one_cell _ _ _) (Ai.one_one _) (by have:=HL.out;unfold maxLen;omega) (by have:=HL.out;omega) (by simp;omega) ?_)
      intro v' w6 hown' hgrow hnn
      clear hnn
      have ho6:Own w6 w.heap.size v' (m ++ [z]):=Ai.own_snoc rfl hown'
      have hB6:Below w.heap.size w w6:=Ai.below_app (hB2.alloc hB2.size _) (by have:=hB2.size;simp;omega) hgrow (fun k hk=>(hown2.ge k hk).1)
      have HM6:Hid (m ++ [z]=(ps.take (k+1)).map (fun c=>lval c l2 rate)):=by show _=_;rw [HT.out,HM.out]
      clear hown' hgrow hown2 hB2
      go_wp2
      go_roundw
      case rel=>exact ⟨k+1,by omega,by go_num,m ++ [z],HM6.out,ho6,hB6⟩
      case measure=>simp [intOf];omega
    ·
     obtain rfl:k=ps.length:=by omega
     have HR2:Hid (lvs ps l2 rate=m):=by show _=_;rw [HR.out,HM.out,List.take_length]
     go_wp2
     go_ret
     exact ⟨_,rfl,by rw [HR2.out];exact hown,hB⟩
end Go.Proofs.YtaojoamldoofpaaGreatDoor.Gw
namespace Go.Proofs.YtaojoamldoofpaaGreatDoor.Sn
set_option maxRecDepth 100000
open Go.RowKit
open Tm (OwnP pv pv_length pv_append)
theorem run_snocP (w:World) (ty:TypeId) (base:Nat) (a:Option Addr) (n c E:Nat) (ps:List (Int × Int)) (hn:ps.length=n) (ho:OwnP w base (.slice a n c) ps) (hb:base≤w.heap.size) (x y:Int) (e0:w.cell? ⟨E,0,none⟩=some (.int .i64 x)) (e1:w.cell? ⟨E,1,none⟩=some (.int .i64 y)) (hl:n≤1048576) :
  ∃ a5 c5 w5,(Builtin.append_ #[54,54] ty #[.slice a n c,.slice (some ⟨E,0,none⟩) 1 1]).run Tryz.prog w=.ok (.slice a5 (n+1) c5) w5∧OwnP w5 base (.slice a5 (n+1) c5) (ps ++ [(x,y)])∧w.grownBy w5 (Value.slice a n c).ownBlock:=by
 obtain ⟨i0,hi,hz0,hz1,hz2⟩:=info_parts Tm.info_spl
 subst hn
 obtain ⟨v',w',hr,h2,h3,hnil,h5⟩:=run_append_own_at (P:=Tryz.prog) w base 54 ty 58 i0 (.agg #[.int .i64 0,.int .i64 0]) 2 16 Tryz.underlying54 hi hz0 hz1 hz2 rfl (by decide) _ ps.length (pv ps) ho ⟨E,0,none⟩ 1 1 [.int .i64 x,.int .i64 y] rfl (by
  intro j u hj
  rw [Go.WideShapes.add_plain,Nat.zero_add]
  match j,hj with
  | 0,hj=>simp at hj;subst hj;exact e0
  | 1,hj=>simp at hj;subst hj;exact e1) (by intro u hu;simp at hu;rcases hu with rfl | rfl <;> rfl) (by unfold maxLen;omega) (by omega) hb
 have hok:OwnP w' base v' (ps ++ [(x,y)]):=by
  unfold OwnP
  rw [← pv_append,List.length_append]
  exact h2
 obtain ⟨a5,c5,e5,_⟩:=hok.isp
 rw [List.length_append] at e5
 subst e5
 exact ⟨a5,c5,w',hr,hok,h3⟩
theorem wpl_snocP {ops:Array Oper} {rest:List Oper} {o:Oper} {a:Act} {w:World} {Q:Exit→Act→World→Prop} (hgd:o.guard=none) (s x:Operand) (ho:o.op=.call { callee:=.builtin .append,args:=#[s,x],argTypes:=#[54,54] })
  (base:Nat) (ad:Option Addr) (n c E:Nat) (ps:List (Int × Int)) (hn:ps.length=n) (hs:a.eval s=.slice ad n c) (hx:a.eval x=.slice (some ⟨E,0,none⟩) 1 1) (hown:OwnP w base (.slice ad n c) ps) (hb:base≤w.heap.size) (p q:Int) (e0:w.cell? ⟨E,0,none⟩=some (.int .i64 p)) (e1:w.cell? ⟨E,1,none⟩=some (.int .i64 q)) (hl:n≤1048576)
  (hq:∀ a5 c5 w5,OwnP w5 base (.slice a5 (n+1) c5) (ps ++ [(p,q)])→w.grownBy w5 (Value.slice ad n c).ownBlock→wpList Tryz.prog ops Q rest (a.put o.dst (.slice a5 (n+1) c5)) w5):wpList Tryz.prog ops Q (o :: rest) a w:=by
 obtain ⟨a5,c5,w5,hr,h2,h3⟩:=run_snocP w o.type base ad n c E ps hn hown hb p q e0 e1 hl
 refine wpList_plain hgd fun K hK=>?_
 unfold Oper.wp execOp
 simp only [ho,resolve,invoke,builtin,Sem.run_bind,Sem.run_pure,Result.andThen_ok,List.map_toArray,List.map_cons,List.map_nil,hs,hx,hr]
 exact hK _ _ (hq a5 c5 w5 h2 h3)
end Go.Proofs.YtaojoamldoofpaaGreatDoor.Sn
namespace Go.Proofs.YtaojoamldoofpaaGreatDoor.Bw
open Go.RowKit
open Li Bo
set_option maxHeartbeats 400000 in
theorem iok_m (x:Int) (w:World) :
  Calls Tryz.prog 65 #[.int .i64 x] w fun e w'=>e=.returned (.bool (fok x))∧w'=w:=by
 go_enter Tryz.func65,Tryz.ntmps65
 go_wp2
 all_goals go_ret
 all_goals refine ⟨ret_bool ?_,rfl⟩
 all_goals unfold fok
 all_goals simp
 all_goals omega
set_option maxHeartbeats 400000 in
theorem iok (x:Int) (w:World) :
  Calls Tryz.prog 37 #[.int .i64 x] w fun e w'=>e=.returned (.bool (fok x))∧w'=w:=by
 go_enter Tryz.func37,Tryz.ntmps37
 go_wp2_with (go_at_call 65;refine (iok_m _ _).mono ?_;rintro e w' ⟨rfl,hw⟩;subst w')
 go_ret
 exact ⟨rfl,rfl⟩
set_option maxHeartbeats 400000 in
theorem sok (x:Int) (w:World) :
  Calls Tryz.prog 54 #[.int .i64 x] w fun e w'=>e=.returned (.bool (fok x))∧w'=w:=by
 go_enter Tryz.func54,Tryz.ntmps54
 go_wp2_with (go_at_call 33;refine (between_any _ _ _ _).mono ?_;rintro e w' ⟨rfl,hw⟩;subst w')
 go_ret
 exact ⟨rfl,rfl⟩
theorem sokv (x:Int) (v:Bool) (h:fok x=v) (w:World) :
  Calls Tryz.prog 54 #[.int .i64 x] w fun e w'=>e=.returned (.bool v)∧w'=w:=by subst h;exact sok x w
set_option maxHeartbeats 1000000 in
theorem iall (w:World) (a:Option Addr) (cap:Nat) (xs:List Int) (hx:IsL w a xs) (hl:xs.length≤1048576) :
  Calls Tryz.prog 87 #[.slice a xs.length cap] w fun e w'=>e=.returned (.bool (aok xs))∧w'=w:=by
 go_enter Tryz.func87,Tryz.ntmps87
 go_wp2
 go_loop [7] (fun i=>∃ k:Nat,k≤xs.length∧i=.int .i64 k∧∀ j (hj:j<xs.length),j<k→fok xs[j]=true) (fun i=>xs.length-(intOf i).toNat)
 case atStart=>exact ⟨0,Nat.zero_le _,rfl,fun j hj h=>by omega⟩
 case round =>
  obtain ⟨k,hk,rfl,hn⟩:=hrel
  have HN:Hid (∀ j (hj:j<xs.length),j<k→fok xs[j]=true):=hn
  clear hn
  by_cases hlt:k<xs.length
  ·
   rcases hx with rfl | ⟨b,off,rfl,hb,hc⟩
   ·
    simp at hlt
   have hcx:=hc k hlt
   clear hc
   cases hv:fok xs[k] with
   | false =>
    have HR:Hid (aok xs=false):=aok_no hlt hv
    go_wp2_with (go_at_call 37;refine (iok _ _).mono ?_;rintro e w' ⟨rfl,hw⟩;subst w';rw [hv])
    go_ret
    exact ⟨ret_bool HR.out.symm,rfl⟩
   | true =>
    have HR:Hid (∀ j (hj:j<xs.length),j<k+1→fok xs[j]=true):=fun j hj h=>by
     by_cases e:j=k
     ·
      subst e;exact hv
     ·
      exact HN.out j hj (by omega)
    go_wp2_with (go_at_call 37;refine (iok _ _).mono ?_;rintro e w' ⟨rfl,hw⟩;subst w';rw [hv])
    go_round
    case rel=>exact ⟨k+1,by omega,by go_num,HR.out⟩
    case measure=>simp [intOf];omega
  ·
   have HR:Hid (aok xs=true):=aok_to (fun j hj=>HN.out j hj (by omega))
   go_wp2
   go_ret
   exact ⟨ret_bool HR.out.symm,rfl⟩
end Go.Proofs.YtaojoamldoofpaaGreatDoor.Bw
namespace Go.Proofs.YtaojoamldoofpaaGreatDoor.Hd
variable {P:Program} {ops:Array Oper} {Q:Exit→Act→World→Prop} {md:Region.Mode} {S:World→Prop} {d:Nat}
theorem After.takeD {i:Nat} {oi:Oper} (t:Option Tmp) (v:Value) {n:Nat} {l:Array Bool} {a:Act} {w:World} (hi:ops[i]? = some oi) (ht:oi.dst=t) (hs:Region.noSelect ops=true) (hw:Waits md ops d i=true) (hf:Region.free md ops l i=true) (hr:(Region.ready md ops l).contains i=true) (hdu:l.getD d true=false)
  (hQ:∀ c a w,Q (.panic c) (a.put oi.dst v) w→Q (.panic c) a w) (hS:S w) (hy:YieldsIf P ops S oi v a) (h:After P md ops Q S d n (l.setIfInBounds i true) (a.put t v) w):After P md ops Q S d (n+1) l a w:=by
 subst ht
 exact After.take v hi hs hw hf hr hdu hQ hS hy h
theorem After.pureD {i:Nat} {oi:Oper} (t:Option Tmp) (v:Value) {n:Nat} {l:Array Bool} {a:Act} {w:World} (hi:ops[i]? = some oi) (ht:oi.dst=t) (hs:Region.noSelect ops=true) (hid:i≠d) (hf:Region.free md ops l i=true) (hr:(Region.ready md ops l).contains i=true)
  (hQ:∀ c a w,Q (.panic c) (a.put oi.dst v) w→Q (.panic c) a w) (hS:S w) (hy:Yields P ops oi v a) (h:After P md ops Q S d n (l.setIfInBounds i true) (a.put t v) w):After P md ops Q S d (n+1) l a w:=by
 subst ht
 exact After.pure v hi hs hid hf hr hQ hS hy h
end Go.Proofs.YtaojoamldoofpaaGreatDoor.Hd
namespace Go.Proofs.YtaojoamldoofpaaGreatDoor.Hs
variable {P:Program} {ops:Array Oper} {Q:Exit→Act→World→Prop} {md:Region.Mode} {S:World→Prop}
theorem takeD {i:Nat} {oi:Oper} (d:Option Tmp) (v:Value) {n:Nat} {l:Array Bool} {a:Act} {w:World} (hi:ops[i]? = some oi) (hd:oi.dst=d) (hs:Region.noSelect ops=true) (hf:Region.free md ops l i=true) (hr:(Region.ready md ops l).contains i=true)
  (hQ:∀ c a w,Q (.panic c) (a.put oi.dst v) w→Q (.panic c) a w) (hS:S w) (hy:YieldsIf P ops S oi v a) (h:wpAnyH P md ops Q S n (l.setIfInBounds i true) (a.put d v) w):wpAnyH P md ops Q S (n+1) l a w:=by
 subst hd
 exact wpAnyH_take hi hs hf hr hQ hy hS h
theorem oneG {i:Nat} {o:Oper} {n:Nat} {l:Array Bool} {a:Act} {w:World} (hr:Region.ready md ops l=[i]) (hi:ops[i]? = some o) (hw:Region.wanted o (yielded ops a.tmps)=true)
  (h:∀ K:Act→World→Prop,(∀ a' w',S w'→wpAnyH P md ops Q S n (l.setIfInBounds i true) a' w'→K a' w')→o.wp P a w K Q):wpAnyH P md ops Q S (n+1) l a w:=by
 refine ⟨fun h0=>(by rw [hr] at h0;simp at h0),fun j hj=>?_⟩
 rw [hr] at hj
 obtain rfl:=List.mem_singleton.1 hj
 unfold wpOp
 rw [hi]
 simp only [hw,if_true]
 exact .inl (h _ fun _ _ h1 h2=>⟨h1,h2⟩)
theorem passD {i:Nat} {oi:Oper} (d:Option Tmp) {n:Nat} {l:Array Bool} {a:Act} {w:World} (hi:ops[i]? = some oi) (hd:oi.dst=d) (hs:Region.noSelect ops=true) (hf:Region.free md ops l i=true) (hr:(Region.ready md ops l).contains i=true)
  (hQ:∀ c a w,Q (.panic c) (a.put oi.dst undef) w→Q (.panic c) a w) (hS:S w) (hw:Region.wanted oi (yielded ops a.tmps)=false) (h:wpAnyH P md ops Q S n (l.setIfInBounds i true) (a.put d undef) w):wpAnyH P md ops Q S (n+1) l a w:=by
 subst hd
 exact wpAnyH_take hi hs hf hr hQ (.inr ⟨hw,rfl⟩) hS h
theorem start {id:Nat} {a:Act} {w:World} (S:World→Prop) (hm:P.follows .mixedOrders=true) (h:wpAnyH P .any ops Q S ops.size (Array.replicate ops.size false) a w.drew):(Code.region id ops true).wp P Q a w :=
 wp_region_held hm h
end Go.Proofs.YtaojoamldoofpaaGreatDoor.Hs
