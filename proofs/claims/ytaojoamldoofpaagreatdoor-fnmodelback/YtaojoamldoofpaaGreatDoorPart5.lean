/-
  Contracts that the proof leans on, put together in the order in which they build.
-/
import Derived.Test.YtaojoamldoofpaaGreatDoorPart4
import Derived.Deep.LoopGhost
set_option linter.unusedVariables false
namespace Go.Proofs.YtaojoamldoofpaaGreatDoor.Gt
set_option maxRecDepth 100000
open Go.RowKit
open Li (ret_bool ret_int below_none IsL btw Own)
open Tm (IsP OwnP)
open Se Sv Sw7
open Bp (B best isv_at)
open Bo (fok aok)
def worth (r:R) (bs:List (List Int)):Bool:=(best r bs).found && decide (score (cells r) r.l2<(best r bs).top)
def asks (bs:List (List Int)):Nat→R→R × List (Int × Int)
 | 0,r=>(r,[])
 | n+1,r=>if worth r bs=true then ((asks bs n (asked r (best r bs).f (best r bs).b)).1,((best r bs).f,(best r bs).b) :: (asks bs n (asked r (best r bs).f (best r bs).b)).2) else (r,[])
def gtok (r:R) (bs:List (List Int)) (d rate:Int):Bool:=rok r && decide (r.lv=1) && Gw.gok d rate && decide (bs.length=6) && bs.all aok
def grow (r:R) (bs:List (List Int)) (d rate:Int):Tr.T × Bool :=
 if gtok r bs d rate=true then (⟨(asks bs d.toNat r).2,Gw.lvs (cells (asks bs d.toNat r).1) (asks bs d.toNat r).1.l2 rate⟩,true) else (⟨[],[]⟩,false)
theorem grow_no {r:R} {bs:List (List Int)} {d rate:Int} (h:gtok r bs d rate=false):grow r bs d rate=(⟨[],[]⟩,false):=if_neg (by simp [h])
theorem grow_ok {r:R} {bs:List (List Int)} {d rate:Int} (h:gtok r bs d rate=true):grow r bs d rate=(⟨(asks bs d.toNat r).2,Gw.lvs (cells (asks bs d.toNat r).1) (asks bs d.toNat r).1.l2 rate⟩,true):=if_pos h
theorem asks_no {bs:List (List Int)} {n:Nat} {r:R} (h:worth r bs=false):asks bs n r=(r,[]):=by
 cases n with
 | zero=>rfl
 | succ n=>simp [asks,h]
theorem asks_yes {bs:List (List Int)} {n:Nat} {r:R} (h:worth r bs=true):asks bs (n+1) r=((asks bs n (asked r (best r bs).f (best r bs).b)).1,((best r bs).f,(best r bs).b) :: (asks bs n (asked r (best r bs).f (best r bs).b)).2):=by simp [asks,h]
theorem asks_len (bs:List (List Int)):∀ (n:Nat) (r:R),(asks bs n r).2.length≤n
 | 0,r=>by simp [asks]
 | n+1,r=>by
  cases h:worth r bs with
  | false=>rw [asks_no h];simp
  | true=>rw [asks_yes h];have:=asks_len bs n (asked r (best r bs).f (best r bs).b);simp;omega
theorem results_ct {fn:Func} {p q:Tmp} {ty:TypeId} (h:fn.results=#[.cell p ty,.tmp q]) (tmps:Array Value) (P:Program) (w:World) :
  (results fn tmps).run P w=((asAddr (tmps.getD p undef)).run P w).andThen fun a w₁=>((loadVar ty a).run P w₁).andThen fun v w₂=>.ok (.tuple #[v,tmps.getD q undef]) w₂:=by
 simp only [results,h]
 simp [Sem.run_bind,Result.andThen]
def Bad (P bt:Nat) (v:Value) (k:Nat):Prop:=k=P ∨ k=P+1 ∨ k=P+2 ∨ k=bt ∨ v.ownBlock=some k
structure Gs (w wr:World) (P bt:Nat) (bs:List (List Int)) (r:R) (D:Nat) (d rate:Int) (q:R) (ps:List (Int × Int)) (a0 a1 a2 ap:Option Addr) (c0 c1 c2 cp:Nat):Prop where
 bx:Wr wr P 0 [.slice a0 q.x.length c0,.slice a1 q.g.length c1,.slice a2 q.ids.length c2,.int .i64 q.lv,.int .i64 q.l2]
 bg:Wr wr (P+1) 0 [.int .i64 d,.int .i64 rate]
 bz:Wr wr (P+2) 0 [.slice none 0 0,.slice none 0 0]
 bv:Wr wr bt 0 [.slice ap ps.length cp,.slice none 0 0]
 kp:∀ X,Fr (Bad P bt (.slice ap ps.length cp)) wr X→Rd X a0 a1 a2 q
 op:OwnP wr (bt+1) (.slice ap ps.length cp) ps
 bel:Below w.heap.size w wr
 le:ps.length≤D
 e1:(asks bs D r).1=(asks bs (D-ps.length) q).1
 e2:(asks bs D r).2=ps ++ (asks bs (D-ps.length) q).2
 lo:P+2<bt
theorem Gs.below {w wr wx:World} {P bt:Nat} {bs:List (List Int)} {r:R} {D:Nat} {d rate:Int} {q:R} {ps:List (Int × Int)} {a0 a1 a2 ap:Option Addr} {c0 c1 c2 cp:Nat} (h:Gs w wr P bt bs r D d rate q ps a0 a1 a2 ap c0 c1 c2 cp) (hb:Below wr.heap.size wr wx):Gs w wx P bt bs r D d rate q ps a0 a1 a2 ap c0 c1 c2 cp :=
 ⟨h.bx.below hb,h.bg.below hb,h.bz.below hb,h.bv.below hb,fun X hX=>h.kp X ((fr_below hb).trans hX),h.op.below hb,h.bel.trans (hb.mono h.bel.size),h.le,h.e1,h.e2,h.lo⟩
theorem Gs.rd {w wr:World} {P bt:Nat} {bs:List (List Int)} {r:R} {D:Nat} {d rate:Int} {q:R} {ps:List (Int × Int)} {a0 a1 a2 ap:Option Addr} {c0 c1 c2 cp:Nat} (h:Gs w wr P bt bs r D d rate q ps a0 a1 a2 ap c0 c1 c2 cp):Rd wr a0 a1 a2 q:=h.kp wr (Fr.refl _ _)
theorem set5 (w:World) (p:Nat) (u0 u1 u2 u3 u4:Value):Fr (fun k=>k=p) w (((((w.setCell ⟨p,0,none⟩ u0).setCell ⟨p,1,none⟩ u1).setCell ⟨p,2,none⟩ u2).setCell ⟨p,3,none⟩ u3).setCell ⟨p,4,none⟩ u4):=by
 have f:∀ (w:World) (o:Nat) (v:Value),Fr (fun k=>k=p) w (w.setCell ⟨p,o,none⟩ v):=fun w o v=>fr_grown (Li.grown_set w p o v) rfl
 exact ((((f w 0 u0).trans (f _ 1 u1)).trans (f _ 2 u2)).trans (f _ 3 u3)).trans (f _ 4 u4)
theorem wr_set5 {w:World} {p:Nat} {v0 v1 v2 v3 v4:Value} (h:Wr w p 0 [v0,v1,v2,v3,v4]) (u0 u1 u2 u3 u4:Value):Wr (((((w.setCell ⟨p,0,none⟩ u0).setCell ⟨p,1,none⟩ u1).setCell ⟨p,2,none⟩ u2).setCell ⟨p,3,none⟩ u3).setCell ⟨p,4,none⟩ u4) p 0 [u0,u1,u2,u3,u4]:=by
 have h4:=((((h.set 0 (by simp) u0).set 1 (by simp) u1).set 2 (by simp) u2).set 3 (by simp) u3).set 4 (by simp) u4
 simpa using h4
theorem wr_frP {w w1:World} {B:Nat→Prop} {g:Nat} {vs:List Value} (h:Wr w g 0 vs) (hf:Fr B w w1) (hg:¬ B g):Wr w1 g 0 vs:=h.keptAt hf.size (hf.block g h.1 hg)
theorem getD_mem {bs:List (List Int)} {k:Nat} (h:k<bs.length):bs.getD k [] ∈ bs:=by
 rw [List.getD_eq_getElem?_getD,List.getElem?_eq_getElem h];exact List.getElem_mem h
theorem aok_bad {x:List Int} {j:Nat} (hj:j<x.length) (h:fok (x.getD j 0)=false):aok x=false :=
 Bo.aok_no hj (by rw [List.getD_eq_getElem?_getD,List.getElem?_eq_getElem hj] at h;exact h)
theorem aok_all {x:List Int} (h:∀ t,t<x.length→fok (x.getD t 0)=true):aok x=true :=
 Bo.aok_to (fun j hj=>by have:=h j hj;rw [List.getD_eq_getElem?_getD,List.getElem?_eq_getElem hj] at this;exact this)
theorem gok_d {d rate:Int} (h:Gw.gok d rate=true):0≤d∧d≤4:=by
 simp only [Gw.gok,Bool.and_eq_true,btw,decide_eq_true_iff] at h
 exact h.1
theorem own_set3 {w:World} {base s n p o p2 o2 o3:Nat} {t:TypeId} {v u0 u1 u2:Value} {vs:List Value} (h:w.ownsRow base t s v n vs) (hp:p<base) (hp2:p2<base):(((w.setCell ⟨p,o,none⟩ u0).setCell ⟨p2,o2,none⟩ u1).setCell ⟨p2,o3,none⟩ u2).ownsRow base t s v n vs:=by
 have hb:∀ {w:World} {q o:Nat} {u:Value},w.ownsRow base t s v n vs→q<base→(w.setCell ⟨q,o,none⟩ u).ownsRow base t s v n vs:=fun {w q o u} h hq=>row_fr h (fr_grown (B:=fun k=>k=q) (Li.grown_set w q o u) rfl) (fun k e e2=>by have:=(World.ownsRow.lt h k e).1;omega)
 exact hb (hb (hb h hp) hp2) hp2
theorem upto {p:Nat→Prop} {j:Nat} (h:∀ t,t<j→p t) (hj:p j):∀ t,t<j+1→p t:=fun t ht=>by
 by_cases e:t=j
 ·
  subst e;exact hj
 ·
  exact h t (by omega)
theorem fr_set {w:World} {b o:Nat} (v:Value):Fr (fun q=>q=b) w (w.setCell ⟨b,o,none⟩ v):=fr_grown (Li.grown_set w b o v) rfl
set_option maxHeartbeats 20000000 in
theorem sgrow (w:World) (a0 a1 a2 ab:Option Addr) (c0 c1 c2 cb:Nat) (r:R) (bs:List (List Int)) (d rate:Int) (h:Rd w a0 a1 a2 r) (hb:IsV w ab bs) (hl:∀ x ∈ bs,x.length≤1048576) :
  Calls Tryz.prog 102 #[.agg #[.slice a0 r.x.length c0,.slice a1 r.g.length c1,.slice a2 r.ids.length c2,.int .i64 r.lv,.int .i64 r.l2],.slice ab bs.length cb,.agg #[.int .i64 d,.int .i64 rate]] w fun e w'=>∃ v0 v1,e=.returned (.tuple #[.agg #[v0,v1],.bool (grow r bs d rate).2])∧OwnP w' w.heap.size v0 (grow r bs d rate).1.sp∧Own w' w.heap.size v1 (grow r bs d rate).1.lv∧(∀ k,v0.ownBlock=some k→v1.ownBlock≠some k)∧Below w.heap.size w w':=by
 obtain ⟨n,hn⟩:∃ n,bs.length=n:=⟨_,rfl⟩
 have HN:Hid (bs.length=n):=hn
 have HLX:Hid (∀ x ∈ bs,x.length≤1048576):=hl
 have HV:Hid (IsV w ab bs):=hb
 have HH:Hid (Rd w a0 a1 a2 r):=h
 rw [hn]
 go_enter Tryz.func102,Tryz.ntmps102
 go_wp2_with fail
 obtain ⟨W,hW,hsz,hB,bx,bg,bz⟩:=new3 w [.slice a0 r.x.length c0,.slice a1 r.g.length c1,.slice a2 r.ids.length c2,.int .i64 r.lv,.int .i64 r.l2] [.int .i64 d,.int .i64 rate] [.slice none 0 0,.slice none 0 0] 151 154 56
 rw [hW]
 refine (srows _ _ _ _ _ _ _ r (h.below hB)).mono ?_
 rintro e w1 ⟨rfl,hb1⟩
 have HB:Hid (Below w.heap.size w w1):=hB.trans (hb1.mono hB.size)
 have hs1:=hb1.size
 obtain ⟨P,hP⟩:∃ P,w.heap.size=P:=⟨_,rfl⟩
 replace bx:=bx.below hb1
 replace bg:=bg.below hb1
 replace bz:=bz.below hb1
 rw [hP] at bx bg bz hsz ⊢
 have HP:Hid (w.heap.size=P):=hP
 have hP3:P+3≤w1.heap.size:=by omega
 have HBX:Hid (type_of% bx):=bx
 have HBG:Hid (type_of% bg):=bg
 have HBZ:Hid (type_of% bz):=bz
 clear hn hl hb h hW hsz hB hb1 hP hs1 bx bg bz
 cases hu:rok r with
 | false =>
  obtain ⟨hlx,⟨x0,x1,x2,x3,x4⟩,_⟩:=wr5 HBX.out
  obtain ⟨hlg,⟨g0,g1⟩,_⟩:=wr2 HBG.out
  obtain ⟨hlz,⟨z0,z1⟩,z2,z3⟩:=wr2 HBZ.out
  have HR:Hid (grow r bs d rate=(⟨[],[]⟩,false)):=grow_no (by simp [gtok,hu])
  go_wp2
  refine bodyPost_ret (v:=.tuple #[.agg #[.slice none 0 0,.slice none 0 0],.bool false]) (by rw [results_ct rfl];go_simp) rfl ⟨.slice none 0 0,.slice none 0 0,by rw [HR.out],?_,?_,fun k e=>by simp [Value.ownBlock] at e,?_⟩
  ·
   rw [HR.out];exact World.ownsRow_nil _ _ _ _
  ·
   rw [HR.out];exact World.ownsRow_nil _ _ _ _
  ·
   exact (HB.out.setCell (p:=⟨P+2,0,none⟩) (by have:=HP.out;show _≤P+2;omega) _).setCell (p:=⟨P+2,1,none⟩) (by have:=HP.out;show _≤P+2;omega) _
 | true =>
  have HU:Hid (rok r=true):=hu
  clear hu
  by_cases h1:r.lv=1
  rotate_left
  ·
   have hne:(r.lv != 1)=true:=by simpa using h1
   obtain ⟨hlx,⟨x0,x1,x2,x3,x4⟩,_⟩:=wr5 HBX.out
   obtain ⟨hlg,⟨g0,g1⟩,_⟩:=wr2 HBG.out
   obtain ⟨hlz,⟨z0,z1⟩,z2,z3⟩:=wr2 HBZ.out
   have HW:Hid (gtok r bs d rate=false):=by show _=_;simp [gtok,h1]
   clear h1
   have HR:Hid (grow r bs d rate=(⟨[],[]⟩,false)):=grow_no (HW.out)
   go_wp2
   refine bodyPost_ret (v:=.tuple #[.agg #[.slice none 0 0,.slice none 0 0],.bool false]) (by rw [results_ct rfl];go_simp) rfl ⟨.slice none 0 0,.slice none 0 0,by rw [HR.out],?_,?_,fun k e=>by simp [Value.ownBlock] at e,?_⟩
   ·
    rw [HR.out];exact World.ownsRow_nil _ _ _ _
   ·
    rw [HR.out];exact World.ownsRow_nil _ _ _ _
   ·
    exact (HB.out.setCell (p:=⟨P+2,0,none⟩) (by have:=HP.out;show _≤P+2;omega) _).setCell (p:=⟨P+2,1,none⟩) (by have:=HP.out;show _≤P+2;omega) _
  have hne:(r.lv != 1)=false:=by simp [h1]
  have H1:Hid (r.lv=1):=h1
  clear h1
  obtain ⟨hlx,⟨x0,x1,x2,x3,x4⟩,_⟩:=wr5 HBX.out
  obtain ⟨hlg,⟨g0,g1⟩,_⟩:=wr2 HBG.out
  obtain ⟨hlz,⟨z0,z1⟩,z2,z3⟩:=wr2 HBZ.out
  go_wp2_with fail
  refine (Gw.sgok _ d rate).mono ?_
  rintro e w2 ⟨rfl,hb2⟩
  replace HB:Hid (Below w.heap.size w w2):=HB.out.trans (hb2.mono HB.out.size)
  replace HBX:Hid (type_of% (HBX.out.below hb2)):=HBX.out.below hb2
  replace HBG:Hid (type_of% (HBG.out.below hb2)):=HBG.out.below hb2
  replace HBZ:Hid (type_of% (HBZ.out.below hb2)):=HBZ.out.below hb2
  have hP32:P+3≤w2.heap.size:=by have:=hb2.size;omega
  clear hb2 x0 x1 x2 x3 x4 g0 g1 z0 z1 z2 z3 hlx hlg hlz hne
  cases hg:Gw.gok d rate with
  | false =>
   obtain ⟨hlx,⟨x0,x1,x2,x3,x4⟩,_⟩:=wr5 HBX.out
   obtain ⟨hlg,⟨g0,g1⟩,_⟩:=wr2 HBG.out
   obtain ⟨hlz,⟨z0,z1⟩,z2,z3⟩:=wr2 HBZ.out
   have HW:Hid (gtok r bs d rate=false):=by show _=_;simp [gtok,hg]
   clear hg
   have HR:Hid (grow r bs d rate=(⟨[],[]⟩,false)):=grow_no (HW.out)
   go_wp2
   refine bodyPost_ret (v:=.tuple #[.agg #[.slice none 0 0,.slice none 0 0],.bool false]) (by rw [results_ct rfl];go_simp) rfl ⟨.slice none 0 0,.slice none 0 0,by rw [HR.out],?_,?_,fun k e=>by simp [Value.ownBlock] at e,?_⟩
   ·
    rw [HR.out];exact World.ownsRow_nil _ _ _ _
   ·
    rw [HR.out];exact World.ownsRow_nil _ _ _ _
   ·
    exact (HB.out.setCell (p:=⟨P+2,0,none⟩) (by have:=HP.out;show _≤P+2;omega) _).setCell (p:=⟨P+2,1,none⟩) (by have:=HP.out;show _≤P+2;omega) _
  | true =>
   have HG:Hid (Gw.gok d rate=true):=hg
   clear hg
   by_cases h6:n=6
   rotate_left
   ·
    have hne:((n:Int) != 6)=true:=by simp;omega
    obtain ⟨hlx,⟨x0,x1,x2,x3,x4⟩,_⟩:=wr5 HBX.out
    obtain ⟨hlg,⟨g0,g1⟩,_⟩:=wr2 HBG.out
    obtain ⟨hlz,⟨z0,z1⟩,z2,z3⟩:=wr2 HBZ.out
    have HW:Hid (gtok r bs d rate=false):=by show _=_;simp [gtok,HN.out,h6]
    clear h6
    have HR:Hid (grow r bs d rate=(⟨[],[]⟩,false)):=grow_no (HW.out)
    go_wp2
    refine bodyPost_ret (v:=.tuple #[.agg #[.slice none 0 0,.slice none 0 0],.bool false]) (by rw [results_ct rfl];go_simp) rfl ⟨.slice none 0 0,.slice none 0 0,by rw [HR.out],?_,?_,fun k e=>by simp [Value.ownBlock] at e,?_⟩
    ·
     rw [HR.out];exact World.ownsRow_nil _ _ _ _
    ·
     rw [HR.out];exact World.ownsRow_nil _ _ _ _
    ·
     exact (HB.out.setCell (p:=⟨P+2,0,none⟩) (by have:=HP.out;show _≤P+2;omega) _).setCell (p:=⟨P+2,1,none⟩) (by have:=HP.out;show _≤P+2;omega) _
   subst h6
   go_wp2_with fail
   go_loopw [8] (fun i wr=>∃ k:Nat,k≤6∧i=.int .i64 k∧(∀ j,j<k→aok (bs.getD j [])=true)∧wr=w2) (fun i _=>6-(intOf i).toNat)
   case atStart=>exact ⟨0,by omega,rfl,fun j hj=>by omega,rfl⟩
   case round =>
    obtain ⟨k,hk,rfl,hall,rfl⟩:=hrel
    have HA:Hid (type_of% hall):=hall
    clear hall
    by_cases hlt:k<6
    ·
     obtain ⟨vb,vo,a',c',hab,hvb,hcell,hisl⟩:=isv_at (HV.out.below HB.out) (by rw [HN.out];exact hlt)
     subst hab
     obtain ⟨x,hx⟩:∃ x,bs.getD k []=x:=⟨_,rfl⟩
     have HXK:Hid (bs.getD k []=x):=hx
     have hxl:x.length≤1048576:=by
      rw [← hx]
      have hkb:k<bs.length:=by rw [HN.out];exact hlt
      have e:bs.getD k []=bs[k]:=by simp [List.getD,List.getElem?_eq_getElem hkb]
      rw [e];exact HLX.out _ (List.getElem_mem hkb)
     rw [hx] at hcell hisl
     obtain ⟨m,hm⟩:∃ m,x.length=m:=⟨_,rfl⟩
     have HM:Hid (x.length=m):=hm
     rw [hm] at hcell hxl
     have HIL:Hid (IsL wr a' x):=hisl
     have hlti:(k:Int)<6:=by omega
     have hltd:decide ((k:Int)<6)=true:=by simp [hlti]
     clear hx hm hisl
     obtain ⟨wq,hwq⟩:∃ wq,wq=wr:=⟨_,rfl⟩
     subst hwq
     go_wp2_with fail
     go_loopw [9] (fun i wr'=>∃ j:Nat,j≤m∧i=.int .i64 j∧(∀ t,t<j→fok (x.getD t 0)=true)∧wr'=wq) (fun i _=>m-(intOf i).toNat)
     case atStart=>exact ⟨0,by omega,rfl,fun t ht=>by omega,rfl⟩
     case round =>
      obtain ⟨j,hj,rfl,hal2,rfl⟩:=hrel
      have HA2:Hid (type_of% hal2):=hal2
      clear hal2
      by_cases hjm:j<m
      ·
       have hjx:j<x.length:=by rw [HM.out];exact hjm
       rcases HIL.out with h0 | ⟨xb,xo,ha,hxb,hxc⟩
       ·
        rw [h0] at hjx;simp at hjx
       subst ha
       have hxj:=hxc j hjx
       obtain ⟨y,hy⟩:∃ y,x[j]=y:=⟨_,rfl⟩
       have HY:Hid (x.getD j 0=y):=by show _=_;rw [List.getD_eq_getElem?_getD,List.getElem?_eq_getElem hjx,← hy];rfl
       rw [hy] at hxj
       have hji:(j:Int)<m:=by omega
       clear hxc hy
       cases hf:fok y with
       | false =>
        have HW:Hid (gtok r bs d rate=false):=by
         show _=_
         have h1:bs.all aok=false:=by
          rw [List.all_eq_false]
          refine ⟨x,?_,?_⟩
          ·
           rw [← HXK.out];exact getD_mem (by rw [HN.out];exact hlt)
          ·
           rw [aok_bad hjx (by rw [HY.out];exact hf)];simp
         simp [gtok,h1]
        go_wp2_with (go_at_call 54;refine (Bw.sokv _ false hf _).mono ?_;rintro e w' ⟨rfl,hw'⟩;subst w';obtain ⟨hlz,⟨z0,z1⟩,z2,z3⟩:=wr2 HBZ.out)
        have HR:Hid (grow r bs d rate=(⟨[],[]⟩,false)):=grow_no (HW.out)
        go_wp2
        refine bodyPost_ret (v:=.tuple #[.agg #[.slice none 0 0,.slice none 0 0],.bool false]) (by rw [results_ct rfl];go_simp) rfl ⟨.slice none 0 0,.slice none 0 0,by rw [HR.out],?_,?_,fun k e=>by simp [Value.ownBlock] at e,?_⟩
        ·
         rw [HR.out];exact World.ownsRow_nil _ _ _ _
        ·
         rw [HR.out];exact World.ownsRow_nil _ _ _ _
        ·
         exact (HB.out.setCell (p:=⟨P+2,0,none⟩) (by have:=HP.out;show _≤P+2;omega) _).setCell (p:=⟨P+2,1,none⟩) (by have:=HP.out;show _≤P+2;omega) _
       | true =>
        go_wp2_with (go_at_call 54;refine (Bw.sokv _ true hf _).mono ?_;rintro e w' ⟨rfl,hw'⟩;subst w')
        go_roundw
        case rel=>exact ⟨j+1,by omega,by go_num,upto HA2.out (by rw [HY.out];exact hf),by first | rfl | trivial⟩
        case measure=>simp [intOf];omega
      ·
       obtain rfl:j=m:=by omega
       have hji:¬ (j:Int)<j:=by omega
       go_wp2
       go_roundw
       case rel=>exact ⟨k+1,by omega,by go_num,upto HA.out (by rw [HXK.out];exact aok_all (fun t ht=>HA2.out t (by rw [← HM.out];exact ht))),by first | rfl | trivial⟩
       case measure=>simp [intOf];omega
    ·
     obtain rfl:k=6:=by omega
     have hlti:¬ ((6:Nat):Int)<6:=by omega
     have HOK:Hid (gtok r bs d rate=true):=by
      show _=_
      have h1:bs.all aok=true:=by
       rw [List.all_eq_true]
       intro x hx
       obtain ⟨j,hj,rfl⟩:=List.getElem_of_mem hx
       have:=HA.out j (by rw [← HN.out];exact hj)
       rw [List.getD_eq_getElem?_getD,List.getElem?_eq_getElem hj] at this
       exact this
      simp [gtok,h1,HU.out,H1.out,HG.out,HN.out]
     have hd4:0≤d∧d≤4:=gok_d HG.out
     obtain ⟨D,hD⟩:∃ D:Nat,d=D:=⟨d.toNat,by omega⟩
     subst hD
     have hD4:D≤4:=by omega
     clear hd4 HG HA hk
     go_wp2_with fail
     obtain ⟨W3,hW3,hsz3,hb3,bv⟩:=new1 wr [.slice none 0 0,.slice none 0 0] 56
     rw [hW3]
     obtain ⟨bt,hbt⟩:∃ b,wr.heap.size=b:=⟨_,rfl⟩
     rw [hbt] at bv ⊢
     have HGS:Hid (Gs w W3 P bt bs r D D rate r [] a0 a1 a2 none c0 c1 c2 0):=⟨HBX.out.below hb3,HBG.out.below hb3,HBZ.out.below hb3,bv,fun X hX=>HH.out.below ((HB.out.trans (hb3.mono HB.out.size)).trans (hX.bel (fun k e=>by have:=HP.out;rcases e with e | e | e | e | e <;> first | omega | (simp [Value.ownBlock] at e)) (Nat.le_trans HB.out.size hb3.size))),World.ownsRow_nil _ _ _ _,HB.out.trans (hb3.mono HB.out.size),Nat.zero_le _,rfl,rfl,by omega⟩
     have HVB:Hid (IsV w ab bs):=HV.out
     clear hW3 hsz3 hb3 bv HBX HBG HBZ HB hP3 hP32 hlt hlti
     go_loopg [] D (fun gk wr=>∃ (q:R) (ps:List (Int × Int)) (b0 b1 b2 bp:Option Addr) (e0 e1 e2 ep:Nat),ps.length+gk=D∧Gs w wr P bt bs r D D rate q ps b0 b1 b2 bp e0 e1 e2 ep)
     case atStart=>exact ⟨r,[],a0,a1,a2,none,c0,c1,c2,0,by simp,HGS.out⟩
     case round =>
      obtain ⟨q,ps,b0,b1,b2,bp,e0,e1,e2,ep,hgk,hgs⟩:=hrel
      have HS:Hid (type_of% hgs):=hgs
      have HGK:Hid (ps.length+gk=D):=hgk
      clear hgs hgk HGS
      obtain ⟨m,hm⟩:∃ m,ps.length=m:=⟨_,rfl⟩
      have HM:Hid (ps.length=m):=hm
      have hmD:m≤D:=by have:=HS.out.le;omega
      obtain ⟨hlv,⟨v0,v1⟩,vf0,vf1⟩:=wr2 HS.out.bv
      obtain ⟨hlg,⟨g0,g1⟩,_⟩:=wr2 HS.out.bg
      obtain ⟨hlx,⟨x0,x1,x2,x3,x4⟩,_⟩:=wr5 HS.out.bx
      rw [hm] at v0
      have hlo:=HS.out.lo
      clear hm
      by_cases hmd:m<D
      rotate_left
      ·
       obtain rfl:m=D:=by omega
       have hmi:¬ (m:Int)<m:=by omega
       have HE:Hid (asks bs (m-m) q=(q,[])):=by show _=_;rw [Nat.sub_self];rfl
       go_wp2_with fail
       have hbtw:bt<wr.heap.size:=HS.out.bv.1
       have C0:(fun X:World=>X.cell? ⟨P,0,none⟩=some (.slice b0 q.x.length e0)∧X.cell? ⟨P,1,none⟩=some (.slice b1 q.g.length e1)∧X.cell? ⟨P,2,none⟩=some (.slice b2 q.ids.length e2)∧X.cell? ⟨P,3,none⟩=some (.int .i64 q.lv)∧X.cell? ⟨P,4,none⟩=some (.int .i64 q.l2)∧X.cell? ⟨P+1,1,none⟩=some (.int .i64 rate)) wr.drew:=⟨x0,x1,x2,x3,x4,g1⟩
       have D0:Hid (Rd wr.drew b0 b1 b2 q):=HS.out.rd.drew
       have HXD:Hid (Below wr.heap.size wr wr.drew):=Tm.below_drew wr
       clear x0 x1 x2 x3 x4 g0 g1 v0 v1 vf0 vf1 hlv hlg hlx
       refine Hd.start (fun X=>X.cell? ⟨P,0,none⟩=some (.slice b0 q.x.length e0)∧X.cell? ⟨P,1,none⟩=some (.slice b1 q.g.length e1)∧X.cell? ⟨P,2,none⟩=some (.slice b2 q.ids.length e2)∧X.cell? ⟨P,3,none⟩=some (.int .i64 q.lv)∧X.cell? ⟨P,4,none⟩=some (.int .i64 q.l2)∧X.cell? ⟨P+1,1,none⟩=some (.int .i64 rate)) 8 (by kernel_rfl) ?_
       generalize wr.drew=w0 at C0 D0 HXD ⊢
       refine Hd.After.takeD (i:=0) (some 94) (.agg #[.slice b0 q.x.length e0,.slice b1 q.g.length e1,.slice b2 q.ids.length e2,.int .i64 q.lv,.int .i64 q.l2]) rfl rfl (by kernel_rfl) (by kernel_rfl) (by kernel_rfl) (by kernel_rfl) (by kernel_rfl) (fun _ _ _ h=>h) (C0) (Or.inl ⟨by rfl,?_⟩) ?_
       ·
        rintro X ⟨x0,x1,x2,x3,x4,g1⟩;go_simp;try with_reducible rfl
       (first | simp only [Act.put,List.setIfInBounds_toArray,List.set_cons_zero,List.set_cons_succ] | skip)
       refine Hd.After.pureD (i:=2) (some 96) (.pointer (some ⟨P,4,none⟩)) rfl rfl (by kernel_rfl) (by decide) (by kernel_rfl) (by kernel_rfl) (fun _ _ _ h=>h) (C0) (Or.inl ⟨by rfl,?_⟩) ?_
       ·
        intro X;go_simp;try with_reducible rfl
       (first | simp only [Act.put,List.setIfInBounds_toArray,List.set_cons_zero,List.set_cons_succ] | skip)
       refine Hd.After.takeD (i:=3) (some 97) (.int .i64 q.l2) rfl rfl (by kernel_rfl) (by kernel_rfl) (by kernel_rfl) (by kernel_rfl) (by kernel_rfl) (fun _ _ _ h=>h) (C0) (Or.inl ⟨by rfl,?_⟩) ?_
       ·
        rintro X ⟨x0,x1,x2,x3,x4,g1⟩;go_simp;try with_reducible rfl
       (first | simp only [Act.put,List.setIfInBounds_toArray,List.set_cons_zero,List.set_cons_succ] | skip)
       refine Hd.After.pureD (i:=4) (some 98) (.pointer (some ⟨P+1,1,none⟩)) rfl rfl (by kernel_rfl) (by decide) (by kernel_rfl) (by kernel_rfl) (fun _ _ _ h=>h) (C0) (Or.inl ⟨by rfl,?_⟩) ?_
       ·
        intro X;go_simp;try with_reducible rfl
       (first | simp only [Act.put,List.setIfInBounds_toArray,List.set_cons_zero,List.set_cons_succ] | skip)
       refine Hd.After.takeD (i:=5) (some 99) (.int .i64 rate) rfl rfl (by kernel_rfl) (by kernel_rfl) (by kernel_rfl) (by kernel_rfl) (by kernel_rfl) (fun _ _ _ h=>h) (C0) (Or.inl ⟨by rfl,?_⟩) ?_
       ·
        rintro X ⟨x0,x1,x2,x3,x4,g1⟩;go_simp;try with_reducible rfl
       (first | simp only [Act.put,List.setIfInBounds_toArray,List.set_cons_zero,List.set_cons_succ] | skip)
       refine Hd.After.one (i:=1) (by kernel_rfl) rfl rfl ?_
       intro K hK
       go_simp
       go_wp2_with (go_at_call 132;refine (scellsof w0 _ _ _ _ _ _ q D0.out).mono ?_;rintro e w7 ⟨v,rfl,oc,hb7⟩)
       obtain ⟨ac,cc,rfl,hp⟩:=oc.isp
       have HY:Hid (Below wr.heap.size wr w7):=HXD.out.trans (hb7.mono HXD.out.size)
       have HPC:Hid (IsP w7 ac (cells q)):=hp
       have hcl:=cells_le q
       clear hb7 oc hp C0
       obtain ⟨_,⟨x0,x1,x2,x3,x4⟩,_⟩:=wr5 (HS.out.bx.below HY.out)
       obtain ⟨_,⟨g0,g1⟩,_⟩:=wr2 (HS.out.bg.below HY.out)
       refine hK _ _ (fun _=>⟨x0,x1,x2,x3,x4,g1⟩) ?_
       clear hK K
       (first | simp only [Act.put,List.setIfInBounds_toArray,List.set_cons_zero,List.set_cons_succ] | skip)
       clear x0 x1 x2 x3 x4 g0 g1
       refine Hd.After.one (i:=6) (by kernel_rfl) rfl rfl ?_
       intro K hK
       go_simp
       go_wp2_with (go_at_call 134;refine (Gw.slvs _ _ _ (cells q) q.l2 rate HPC.out (by omega)).mono ?_;rintro e w8 ⟨v,rfl,ov,hb8⟩)
       obtain ⟨av,cv,rfl,-⟩:=ov.isl
       have HZ:Hid (Below wr.heap.size wr w8):=HY.out.trans (hb8.mono HY.out.size)
       have HOV:Hid (type_of% ov):=ov
       have hs7:wr.heap.size≤w7.heap.size:=HY.out.size
       have hs78:=hb8.size
       clear hb8 ov
       obtain ⟨_,⟨x0,x1,x2,x3,x4⟩,_⟩:=wr5 (HS.out.bx.below HZ.out)
       obtain ⟨_,⟨g0,g1⟩,_⟩:=wr2 (HS.out.bg.below HZ.out)
       refine hK _ _ (fun _=>⟨x0,x1,x2,x3,x4,g1⟩) ?_
       clear hK K
       (first | simp only [Act.put,List.setIfInBounds_toArray,List.set_cons_zero,List.set_cons_succ] | skip)
       refine Hd.After.pureD (i:=7) (some 101) (.pointer (some ⟨bt,1,none⟩)) rfl rfl (by kernel_rfl) (by decide) (by kernel_rfl) (by kernel_rfl) (fun _ _ _ h=>h) (⟨x0,x1,x2,x3,x4,g1⟩) (Or.inl ⟨by rfl,?_⟩) ?_
       ·
        intro X;go_simp;try with_reducible rfl
       (first | simp only [Act.put,List.setIfInBounds_toArray,List.set_cons_zero,List.set_cons_succ] | skip)
       obtain ⟨hlv,⟨v0,v1⟩,vf0,vf1⟩:=wr2 (HS.out.bv.below HZ.out)
       rw [HM.out] at v0
       obtain ⟨nl,hnl⟩:∃ n,(Gw.lvs (cells q) q.l2 rate).length=n:=⟨_,rfl⟩
       have HNL:Hid ((Gw.lvs (cells q) q.l2 rate).length=nl):=hnl
       rw [hnl]
       clear hnl
       refine Hd.After.one (i:=8) (by kernel_rfl) rfl rfl ?_
       intro K hK
       go_simp
       refine hK _ _ (fun h=>by cases h) ?_
       clear hK K
       refine Hd.After.done (by kernel_rfl) ?_ _
       obtain ⟨hlz,⟨z0,z1⟩,zf0,zf1⟩:=wr2 (HS.out.bz.below HZ.out)
       have hne:¬ bt=P+2:=by omega
       have hne2:¬ P+2=bt:=by omega
       clear x0 x1 x2 x3 x4 g0 g1
       go_wp2
       have hgr:=grow_ok HOK.out
       have hDn:((m:Int)).toNat=m:=by simp
       rw [hDn,HS.out.e1,HS.out.e2,HM.out,HE.out,List.append_nil] at hgr
       refine bodyPost_ret (v:=.tuple #[.agg #[.slice bp m ep,.slice av nl cv],.bool true]) (by rw [results_ct rfl];go_simp) rfl ⟨.slice bp m ep,.slice av nl cv,by rw [hgr],?_,?_,?_,?_⟩
       ·
        rw [hgr]
        have h1:=HS.out.op.below HZ.out
        rw [HM.out] at h1
        exact Tm.ownsRow_mono (own_set3 h1 (by omega) (by omega)) (by have:=HP.out;omega)
       ·
        rw [hgr]
        have h1:=HOV.out
        rw [HNL.out] at h1
        exact Tm.ownsRow_mono (own_set3 h1 (by omega) (by omega)) (by have:=HP.out;omega)
       ·
        intro k e e2
        have h1:=HS.out.op
        rw [HM.out] at h1
        have h2:=(h1.ge k e).2
        have h3:=HOV.out
        rw [HNL.out] at h3
        have h4:=(h3.ge k e2).1
        omega
       ·
        have h1:=HS.out.bel.trans (HZ.out.mono HS.out.bel.size)
        have h2:=HP.out
        exact ((h1.setCell (p:=⟨bt,1,none⟩) (by show _≤bt;omega) _).setCell (p:=⟨P+2,0,none⟩) (by show _≤P+2;omega) _).setCell (p:=⟨P+2,1,none⟩) (by show _≤P+2;omega) _
      ·
       have hmi:(m:Int)<D:=by omega
       go_wp2_with fail
       have hsb:=Bp.sbest wr b0 b1 b2 ab e0 e1 e2 cb q bs HS.out.rd (HVB.out.below HS.out.bel) HLX.out
       rw [HN.out] at hsb
       refine hsb.mono ?_
       rintro e w4 ⟨rfl,hb4⟩
       clear hsb
       obtain ⟨f,hf⟩:∃ f,(best q bs).f=f:=⟨_,rfl⟩
       obtain ⟨b,hb⟩:∃ b,(best q bs).b=b:=⟨_,rfl⟩
       obtain ⟨top,htop⟩:∃ t,(best q bs).top=t:=⟨_,rfl⟩
       obtain ⟨fd,hfd⟩:∃ t,(best q bs).found=t:=⟨_,rfl⟩
       rw [hf,hb,htop,hfd]
       have HF:Hid ((best q bs).f=f∧(best q bs).b=b∧(best q bs).top=top∧(best q bs).found=fd):=⟨hf,hb,htop,hfd⟩
       clear hf hb htop hfd x0 x1 x2 x3 x4 g0 g1 v0 v1 vf0 vf1 hlv hlg hlx
       obtain ⟨W5,hW5,hsz5,hb5,bsp⟩:=new1 w4 [.int .i64 f,.int .i64 b] 58
       have HB5:Hid (Below wr.heap.size wr W5):=hb4.trans (hb5.mono hb4.size)
       have HW5:Hid (w4.alloc (.cells #[.int .i64 f,.int .i64 b] 58)=W5):=hW5
       obtain ⟨sb,hsbn⟩:∃ n,w4.heap.size=n:=⟨_,rfl⟩
       have hsbl:wr.heap.size≤sb:=by rw [← hsbn];exact hb4.size
       rw [hsbn] at bsp
       have HBS:Hid (type_of% bsp):=bsp
       clear hW5 hsz5 hb5 bsp hb4
       go_wp2_with fail
       rw [HW5.out]
       have HS5:Hid (Gs w W5 P bt bs r D D rate q ps b0 b1 b2 bp e0 e1 e2 ep):=HS.out.below HB5.out
       have hbts:bt<sb:=by have:=HS.out.bv.1;omega
       have HOB:Hid (∀ k,(Value.slice bp m ep).ownBlock=some k→k<sb):=fun k e=>by have h1:=HS.out.op;rw [HM.out] at h1;have:=(h1.ge k e).2;omega
       clear HB5 HW5 HS hsbl hsbn
       obtain ⟨hlx,⟨x0,x1,x2,x3,x4⟩,_⟩:=wr5 HS5.out.bx
       have C0:(fun X:World=>X.cell? ⟨P,0,none⟩=some (.slice b0 q.x.length e0)∧X.cell? ⟨P,1,none⟩=some (.slice b1 q.g.length e1)∧X.cell? ⟨P,2,none⟩=some (.slice b2 q.ids.length e2)∧X.cell? ⟨P,3,none⟩=some (.int .i64 q.lv)∧X.cell? ⟨P,4,none⟩=some (.int .i64 q.l2)) W5.drew:=⟨x0,x1,x2,x3,x4⟩
       have HXD:Hid (Below W5.heap.size W5 W5.drew):=Tm.below_drew W5
       clear x0 x1 x2 x3 x4 hlx
       cases fd with
       | false =>
        refine Hs.start (fun X=>X.cell? ⟨P,0,none⟩=some (.slice b0 q.x.length e0)∧X.cell? ⟨P,1,none⟩=some (.slice b1 q.g.length e1)∧X.cell? ⟨P,2,none⟩=some (.slice b2 q.ids.length e2)∧X.cell? ⟨P,3,none⟩=some (.int .i64 q.lv)∧X.cell? ⟨P,4,none⟩=some (.int .i64 q.l2)) (by kernel_rfl) ?_
        generalize W5.drew=w0 at C0 HXD ⊢
        refine Hs.takeD (i:=0) (some 74) (.bool false) rfl rfl (by kernel_rfl) (by kernel_rfl) (by kernel_rfl) (fun _ _ _ h=>h) (C0) (Or.inl ⟨by rfl,?_⟩) ?_
        ·
         rintro X ⟨x0,x1,x2,x3,x4⟩;go_simp;try with_reducible rfl
        (first | simp only [Act.put,List.setIfInBounds_toArray,List.set_cons_zero,List.set_cons_succ] | skip)
        refine Hs.takeD (i:=1) (some 75) (.bool true) rfl rfl (by kernel_rfl) (by kernel_rfl) (by kernel_rfl) (fun _ _ _ h=>h) (C0) (Or.inl ⟨by rfl,?_⟩) ?_
        ·
         rintro X ⟨x0,x1,x2,x3,x4⟩;go_simp;try with_reducible rfl
        (first | simp only [Act.put,List.setIfInBounds_toArray,List.set_cons_zero,List.set_cons_succ] | skip)
        refine Hs.takeD (i:=2) (some 76) (.bool true) rfl rfl (by kernel_rfl) (by kernel_rfl) (by kernel_rfl) (fun _ _ _ h=>h) (C0) (Or.inl ⟨by rfl,?_⟩) ?_
        ·
         rintro X ⟨x0,x1,x2,x3,x4⟩;go_simp;try with_reducible rfl
        (first | simp only [Act.put,List.setIfInBounds_toArray,List.set_cons_zero,List.set_cons_succ] | skip)
        refine Hs.passD (i:=3) (some 77) rfl rfl (by kernel_rfl) (by kernel_rfl) (by kernel_rfl) (fun _ _ _ h=>h) (C0) (by rfl) ?_
        (first | simp only [Act.put,List.setIfInBounds_toArray,List.set_cons_zero,List.set_cons_succ] | skip)
        refine Hs.passD (i:=4) (some 78) rfl rfl (by kernel_rfl) (by kernel_rfl) (by kernel_rfl) (fun _ _ _ h=>h) (C0) (by rfl) ?_
        (first | simp only [Act.put,List.setIfInBounds_toArray,List.set_cons_zero,List.set_cons_succ] | skip)
        refine Hs.passD (i:=5) (some 79) rfl rfl (by kernel_rfl) (by kernel_rfl) (by kernel_rfl) (fun _ _ _ h=>h) (C0) (by rfl) ?_
        (first | simp only [Act.put,List.setIfInBounds_toArray,List.set_cons_zero,List.set_cons_succ] | skip)
        refine Hs.passD (i:=6) (some 80) rfl rfl (by kernel_rfl) (by kernel_rfl) (by kernel_rfl) (fun _ _ _ h=>h) (C0) (by rfl) ?_
        (first | simp only [Act.put,List.setIfInBounds_toArray,List.set_cons_zero,List.set_cons_succ] | skip)
        refine Hs.passD (i:=7) (some 81) rfl rfl (by kernel_rfl) (by kernel_rfl) (by kernel_rfl) (fun _ _ _ h=>h) (C0) (by rfl) ?_
        (first | simp only [Act.put,List.setIfInBounds_toArray,List.set_cons_zero,List.set_cons_succ] | skip)
        refine Hs.passD (i:=8) (some 82) rfl rfl (by kernel_rfl) (by kernel_rfl) (by kernel_rfl) (fun _ _ _ h=>h) (C0) (by rfl) ?_
        (first | simp only [Act.put,List.setIfInBounds_toArray,List.set_cons_zero,List.set_cons_succ] | skip)
        refine Hs.passD (i:=9) (some 83) rfl rfl (by kernel_rfl) (by kernel_rfl) (by kernel_rfl) (fun _ _ _ h=>h) (C0) (by rfl) ?_
        (first | simp only [Act.put,List.setIfInBounds_toArray,List.set_cons_zero,List.set_cons_succ] | skip)
        refine Hs.takeD (i:=10) (some 84) (.bool true) rfl rfl (by kernel_rfl) (by kernel_rfl) (by kernel_rfl) (fun _ _ _ h=>h) (C0) (Or.inl ⟨by rfl,?_⟩) ?_
        ·
         rintro X ⟨x0,x1,x2,x3,x4⟩;go_simp;try with_reducible rfl
        (first | simp only [Act.put,List.setIfInBounds_toArray,List.set_cons_zero,List.set_cons_succ] | skip)
        refine wpAnyH_done (by kernel_rfl) ?_ _
        have HE:Hid (asks bs (D-m) q=(q,[])):=asks_no (by simp [worth,HF.out.2.2.2])
        have HS:Hid (Gs w w0 P bt bs r D D rate q ps b0 b1 b2 bp e0 e1 e2 ep):=HS5.out.below HXD.out
        clear C0 HS5 HXD
        obtain ⟨wz,hwz⟩:∃ wz,wz=w0:=⟨_,rfl⟩
        subst hwz
        obtain ⟨hlv,⟨v0,v1⟩,vf0,vf1⟩:=wr2 HS.out.bv
        obtain ⟨hlg,⟨g0,g1⟩,_⟩:=wr2 HS.out.bg
        obtain ⟨hlx,⟨x0,x1,x2,x3,x4⟩,_⟩:=wr5 HS.out.bx
        rw [HM.out] at v0
        go_wp2_with fail
        have hbtw:bt<wz.heap.size:=HS.out.bv.1
        have C0:(fun X:World=>X.cell? ⟨P,0,none⟩=some (.slice b0 q.x.length e0)∧X.cell? ⟨P,1,none⟩=some (.slice b1 q.g.length e1)∧X.cell? ⟨P,2,none⟩=some (.slice b2 q.ids.length e2)∧X.cell? ⟨P,3,none⟩=some (.int .i64 q.lv)∧X.cell? ⟨P,4,none⟩=some (.int .i64 q.l2)∧X.cell? ⟨P+1,1,none⟩=some (.int .i64 rate)) wz.drew:=⟨x0,x1,x2,x3,x4,g1⟩
        have D0:Hid (Rd wz.drew b0 b1 b2 q):=HS.out.rd.drew
        have HXD:Hid (Below wz.heap.size wz wz.drew):=Tm.below_drew wz
        clear x0 x1 x2 x3 x4 g0 g1 v0 v1 vf0 vf1 hlv hlg hlx
        refine Hd.start (fun X=>X.cell? ⟨P,0,none⟩=some (.slice b0 q.x.length e0)∧X.cell? ⟨P,1,none⟩=some (.slice b1 q.g.length e1)∧X.cell? ⟨P,2,none⟩=some (.slice b2 q.ids.length e2)∧X.cell? ⟨P,3,none⟩=some (.int .i64 q.lv)∧X.cell? ⟨P,4,none⟩=some (.int .i64 q.l2)∧X.cell? ⟨P+1,1,none⟩=some (.int .i64 rate)) 8 (by kernel_rfl) ?_
        generalize wz.drew=w0 at C0 D0 HXD ⊢
        refine Hd.After.takeD (i:=0) (some 94) (.agg #[.slice b0 q.x.length e0,.slice b1 q.g.length e1,.slice b2 q.ids.length e2,.int .i64 q.lv,.int .i64 q.l2]) rfl rfl (by kernel_rfl) (by kernel_rfl) (by kernel_rfl) (by kernel_rfl) (by kernel_rfl) (fun _ _ _ h=>h) (C0) (Or.inl ⟨by rfl,?_⟩) ?_
        ·
         rintro X ⟨x0,x1,x2,x3,x4,g1⟩;go_simp;try with_reducible rfl
        (first | simp only [Act.put,List.setIfInBounds_toArray,List.set_cons_zero,List.set_cons_succ] | skip)
        refine Hd.After.pureD (i:=2) (some 96) (.pointer (some ⟨P,4,none⟩)) rfl rfl (by kernel_rfl) (by decide) (by kernel_rfl) (by kernel_rfl) (fun _ _ _ h=>h) (C0) (Or.inl ⟨by rfl,?_⟩) ?_
        ·
         intro X;go_simp;try with_reducible rfl
        (first | simp only [Act.put,List.setIfInBounds_toArray,List.set_cons_zero,List.set_cons_succ] | skip)
        refine Hd.After.takeD (i:=3) (some 97) (.int .i64 q.l2) rfl rfl (by kernel_rfl) (by kernel_rfl) (by kernel_rfl) (by kernel_rfl) (by kernel_rfl) (fun _ _ _ h=>h) (C0) (Or.inl ⟨by rfl,?_⟩) ?_
        ·
         rintro X ⟨x0,x1,x2,x3,x4,g1⟩;go_simp;try with_reducible rfl
        (first | simp only [Act.put,List.setIfInBounds_toArray,List.set_cons_zero,List.set_cons_succ] | skip)
        refine Hd.After.pureD (i:=4) (some 98) (.pointer (some ⟨P+1,1,none⟩)) rfl rfl (by kernel_rfl) (by decide) (by kernel_rfl) (by kernel_rfl) (fun _ _ _ h=>h) (C0) (Or.inl ⟨by rfl,?_⟩) ?_
        ·
         intro X;go_simp;try with_reducible rfl
        (first | simp only [Act.put,List.setIfInBounds_toArray,List.set_cons_zero,List.set_cons_succ] | skip)
        refine Hd.After.takeD (i:=5) (some 99) (.int .i64 rate) rfl rfl (by kernel_rfl) (by kernel_rfl) (by kernel_rfl) (by kernel_rfl) (by kernel_rfl) (fun _ _ _ h=>h) (C0) (Or.inl ⟨by rfl,?_⟩) ?_
        ·
         rintro X ⟨x0,x1,x2,x3,x4,g1⟩;go_simp;try with_reducible rfl
        (first | simp only [Act.put,List.setIfInBounds_toArray,List.set_cons_zero,List.set_cons_succ] | skip)
        refine Hd.After.one (i:=1) (by kernel_rfl) rfl rfl ?_
        intro K hK
        go_simp
        go_wp2_with (go_at_call 132;refine (scellsof w0 _ _ _ _ _ _ q D0.out).mono ?_;rintro e w7 ⟨v,rfl,oc,hb7⟩)
        obtain ⟨ac,cc,rfl,hp⟩:=oc.isp
        have HY:Hid (Below wz.heap.size wz w7):=HXD.out.trans (hb7.mono HXD.out.size)
        have HPC:Hid (IsP w7 ac (cells q)):=hp
        have hcl:=cells_le q
        clear hb7 oc hp C0
        obtain ⟨_,⟨x0,x1,x2,x3,x4⟩,_⟩:=wr5 (HS.out.bx.below HY.out)
        obtain ⟨_,⟨g0,g1⟩,_⟩:=wr2 (HS.out.bg.below HY.out)
        refine hK _ _ (fun _=>⟨x0,x1,x2,x3,x4,g1⟩) ?_
        clear hK K
        (first | simp only [Act.put,List.setIfInBounds_toArray,List.set_cons_zero,List.set_cons_succ] | skip)
        clear x0 x1 x2 x3 x4 g0 g1
        refine Hd.After.one (i:=6) (by kernel_rfl) rfl rfl ?_
        intro K hK
        go_simp
        go_wp2_with (go_at_call 134;refine (Gw.slvs _ _ _ (cells q) q.l2 rate HPC.out (by omega)).mono ?_;rintro e w8 ⟨v,rfl,ov,hb8⟩)
        obtain ⟨av,cv,rfl,-⟩:=ov.isl
        have HZ:Hid (Below wz.heap.size wz w8):=HY.out.trans (hb8.mono HY.out.size)
        have HOV:Hid (type_of% ov):=ov
        have hs7:wz.heap.size≤w7.heap.size:=HY.out.size
        have hs78:=hb8.size
        clear hb8 ov
        obtain ⟨_,⟨x0,x1,x2,x3,x4⟩,_⟩:=wr5 (HS.out.bx.below HZ.out)
        obtain ⟨_,⟨g0,g1⟩,_⟩:=wr2 (HS.out.bg.below HZ.out)
        refine hK _ _ (fun _=>⟨x0,x1,x2,x3,x4,g1⟩) ?_
        clear hK K
        (first | simp only [Act.put,List.setIfInBounds_toArray,List.set_cons_zero,List.set_cons_succ] | skip)
        refine Hd.After.pureD (i:=7) (some 101) (.pointer (some ⟨bt,1,none⟩)) rfl rfl (by kernel_rfl) (by decide) (by kernel_rfl) (by kernel_rfl) (fun _ _ _ h=>h) (⟨x0,x1,x2,x3,x4,g1⟩) (Or.inl ⟨by rfl,?_⟩) ?_
        ·
         intro X;go_simp;try with_reducible rfl
        (first | simp only [Act.put,List.setIfInBounds_toArray,List.set_cons_zero,List.set_cons_succ] | skip)
        obtain ⟨hlv,⟨v0,v1⟩,vf0,vf1⟩:=wr2 (HS.out.bv.below HZ.out)
        rw [HM.out] at v0
        obtain ⟨nl,hnl⟩:∃ n,(Gw.lvs (cells q) q.l2 rate).length=n:=⟨_,rfl⟩
        have HNL:Hid ((Gw.lvs (cells q) q.l2 rate).length=nl):=hnl
        rw [hnl]
        clear hnl
        refine Hd.After.one (i:=8) (by kernel_rfl) rfl rfl ?_
        intro K hK
        go_simp
        refine hK _ _ (fun h=>by cases h) ?_
        clear hK K
        refine Hd.After.done (by kernel_rfl) ?_ _
        obtain ⟨hlz,⟨z0,z1⟩,zf0,zf1⟩:=wr2 (HS.out.bz.below HZ.out)
        have hne:¬ bt=P+2:=by omega
        have hne2:¬ P+2=bt:=by omega
        clear x0 x1 x2 x3 x4 g0 g1
        go_wp2
        have hgr:=grow_ok HOK.out
        have hDn:((D:Int)).toNat=D:=by simp
        rw [hDn,HS.out.e1,HS.out.e2,HM.out,HE.out,List.append_nil] at hgr
        refine bodyPost_ret (v:=.tuple #[.agg #[.slice bp m ep,.slice av nl cv],.bool true]) (by rw [results_ct rfl];go_simp) rfl ⟨.slice bp m ep,.slice av nl cv,by rw [hgr],?_,?_,?_,?_⟩
        ·
         rw [hgr]
         have h1:=HS.out.op.below HZ.out
         rw [HM.out] at h1
         exact Tm.ownsRow_mono (own_set3 h1 (by omega) (by omega)) (by have:=HP.out;omega)
        ·
         rw [hgr]
         have h1:=HOV.out
         rw [HNL.out] at h1
         exact Tm.ownsRow_mono (own_set3 h1 (by omega) (by omega)) (by have:=HP.out;omega)
        ·
         intro k e e2
         have h1:=HS.out.op
         rw [HM.out] at h1
         have h2:=(h1.ge k e).2
         have h3:=HOV.out
         rw [HNL.out] at h3
         have h4:=(h3.ge k e2).1
         omega
        ·
         have h1:=HS.out.bel.trans (HZ.out.mono HS.out.bel.size)
         have h2:=HP.out
         exact ((h1.setCell (p:=⟨bt,1,none⟩) (by show _≤bt;omega) _).setCell (p:=⟨P+2,0,none⟩) (by show _≤P+2;omega) _).setCell (p:=⟨P+2,1,none⟩) (by show _≤P+2;omega) _
       | true =>
        refine Hs.start (fun X=>X.cell? ⟨P,0,none⟩=some (.slice b0 q.x.length e0)∧X.cell? ⟨P,1,none⟩=some (.slice b1 q.g.length e1)∧X.cell? ⟨P,2,none⟩=some (.slice b2 q.ids.length e2)∧X.cell? ⟨P,3,none⟩=some (.int .i64 q.lv)∧X.cell? ⟨P,4,none⟩=some (.int .i64 q.l2)) (by kernel_rfl) ?_
        generalize W5.drew=w0 at C0 HXD ⊢
        refine Hs.takeD (i:=0) (some 74) (.bool true) rfl rfl (by kernel_rfl) (by kernel_rfl) (by kernel_rfl) (fun _ _ _ h=>h) (C0) (Or.inl ⟨by rfl,?_⟩) ?_
        ·
         rintro X ⟨x0,x1,x2,x3,x4⟩;go_simp;try with_reducible rfl
        (first | simp only [Act.put,List.setIfInBounds_toArray,List.set_cons_zero,List.set_cons_succ] | skip)
        refine Hs.takeD (i:=1) (some 75) (.bool false) rfl rfl (by kernel_rfl) (by kernel_rfl) (by kernel_rfl) (fun _ _ _ h=>h) (C0) (Or.inl ⟨by rfl,?_⟩) ?_
        ·
         rintro X ⟨x0,x1,x2,x3,x4⟩;go_simp;try with_reducible rfl
        (first | simp only [Act.put,List.setIfInBounds_toArray,List.set_cons_zero,List.set_cons_succ] | skip)
        refine Hs.takeD (i:=2) (some 76) (.bool false) rfl rfl (by kernel_rfl) (by kernel_rfl) (by kernel_rfl) (fun _ _ _ h=>h) (C0) (Or.inl ⟨by rfl,?_⟩) ?_
        ·
         rintro X ⟨x0,x1,x2,x3,x4⟩;go_simp;try with_reducible rfl
        (first | simp only [Act.put,List.setIfInBounds_toArray,List.set_cons_zero,List.set_cons_succ] | skip)
        refine Hs.takeD (i:=3) (some 77) (.int .i64 top) rfl rfl (by kernel_rfl) (by kernel_rfl) (by kernel_rfl) (fun _ _ _ h=>h) (C0) (Or.inl ⟨by rfl,?_⟩) ?_
        ·
         rintro X ⟨x0,x1,x2,x3,x4⟩;go_simp;try with_reducible rfl
        (first | simp only [Act.put,List.setIfInBounds_toArray,List.set_cons_zero,List.set_cons_succ] | skip)
        refine Hs.takeD (i:=4) (some 78) (.agg #[.slice b0 q.x.length e0,.slice b1 q.g.length e1,.slice b2 q.ids.length e2,.int .i64 q.lv,.int .i64 q.l2]) rfl rfl (by kernel_rfl) (by kernel_rfl) (by kernel_rfl) (fun _ _ _ h=>h) (C0) (Or.inl ⟨by rfl,?_⟩) ?_
        ·
         rintro X ⟨x0,x1,x2,x3,x4⟩;go_simp;try with_reducible rfl
        (first | simp only [Act.put,List.setIfInBounds_toArray,List.set_cons_zero,List.set_cons_succ] | skip)
        refine Hs.takeD (i:=6) (some 80) (.pointer (some ⟨P,4,none⟩)) rfl rfl (by kernel_rfl) (by kernel_rfl) (by kernel_rfl) (fun _ _ _ h=>h) (C0) (Or.inl ⟨by rfl,?_⟩) ?_
        ·
         rintro X ⟨x0,x1,x2,x3,x4⟩;go_simp;try with_reducible rfl
        (first | simp only [Act.put,List.setIfInBounds_toArray,List.set_cons_zero,List.set_cons_succ] | skip)
        refine Hs.takeD (i:=7) (some 81) (.int .i64 q.l2) rfl rfl (by kernel_rfl) (by kernel_rfl) (by kernel_rfl) (fun _ _ _ h=>h) (C0) (Or.inl ⟨by rfl,?_⟩) ?_
        ·
         rintro X ⟨x0,x1,x2,x3,x4⟩;go_simp;try with_reducible rfl
        (first | simp only [Act.put,List.setIfInBounds_toArray,List.set_cons_zero,List.set_cons_succ] | skip)
        refine Hs.oneG (i:=5) (by kernel_rfl) rfl (by rfl) ?_
        intro K hK
        go_simp
        go_wp2_with (go_at_call 132;refine (scellsof w0 _ _ _ _ _ _ q (HS5.out.below HXD.out).rd).mono ?_;rintro e w7 ⟨v,rfl,oc,hb7⟩)
        obtain ⟨ac,cc,rfl,hp⟩:=oc.isp
        have HY:Hid (Below W5.heap.size W5 w7):=HXD.out.trans (hb7.mono HXD.out.size)
        have HPC:Hid (IsP w7 ac (cells q)):=hp
        have hcl:=cells_le q
        clear hb7 oc hp C0
        obtain ⟨_,⟨x0,x1,x2,x3,x4⟩,_⟩:=wr5 (HS5.out.bx.below HY.out)
        refine hK _ _ (⟨x0,x1,x2,x3,x4⟩) ?_
        clear hK K
        (first | simp only [Act.put,List.setIfInBounds_toArray,List.set_cons_zero,List.set_cons_succ] | skip)
        clear x0 x1 x2 x3 x4
        refine Hs.oneG (i:=8) (by kernel_rfl) rfl (by rfl) ?_
        intro K hK
        go_simp
        go_wp2_with (go_at_call 131;refine (sscore _ _ _ (cells q) q.l2 HPC.out (by omega)).mono ?_;rintro e w8 ⟨rfl,hb8⟩)
        have HZ:Hid (Below W5.heap.size W5 w8):=HY.out.trans (hb8.mono HY.out.size)
        clear hb8 HPC
        obtain ⟨sc,hsc⟩:∃ s,score (cells q) q.l2=s:=⟨_,rfl⟩
        rw [hsc]
        have HSC:Hid (score (cells q) q.l2=sc):=hsc
        clear hsc
        obtain ⟨_,⟨x0,x1,x2,x3,x4⟩,_⟩:=wr5 (HS5.out.bx.below HZ.out)
        refine hK _ _ (⟨x0,x1,x2,x3,x4⟩) ?_
        clear hK K
        (first | simp only [Act.put,List.setIfInBounds_toArray,List.set_cons_zero,List.set_cons_succ] | skip)
        have HS:Hid (Gs w w8 P bt bs r D D rate q ps b0 b1 b2 bp e0 e1 e2 ep):=HS5.out.below HZ.out
        have HBS8:Hid (type_of% (HBS.out.below HZ.out)):=HBS.out.below HZ.out
        have hcl2:=hcl
        by_cases hle:top≤sc
        ·
         refine Hs.takeD (i:=9) (some 83) (.bool true) rfl rfl (by kernel_rfl) (by kernel_rfl) (by kernel_rfl) (fun _ _ _ h=>h) (⟨x0,x1,x2,x3,x4⟩) (Or.inl ⟨by rfl,?_⟩) ?_
         ·
          rintro X ⟨x0,x1,x2,x3,x4⟩;go_simp;try with_reducible rfl
         (first | simp only [Act.put,List.setIfInBounds_toArray,List.set_cons_zero,List.set_cons_succ] | skip)
         refine Hs.takeD (i:=10) (some 84) (.bool true) rfl rfl (by kernel_rfl) (by kernel_rfl) (by kernel_rfl) (fun _ _ _ h=>h) (⟨x0,x1,x2,x3,x4⟩) (Or.inl ⟨by rfl,?_⟩) ?_
         ·
          rintro X ⟨x0,x1,x2,x3,x4⟩;go_simp;try with_reducible rfl
         (first | simp only [Act.put,List.setIfInBounds_toArray,List.set_cons_zero,List.set_cons_succ] | skip)
         refine wpAnyH_done (by kernel_rfl) ?_ _
         have HE:Hid (asks bs (D-m) q=(q,[])):=asks_no (by have h1:=HF.out;have h2:=HSC.out;simp [worth,h1.2.2.1,h2];intro _;omega)
         clear x0 x1 x2 x3 x4 HS5 HXD HY HZ HBS hcl hcl2 hle
         obtain ⟨wz,hwz⟩:∃ wz,wz=w8:=⟨_,rfl⟩
         subst hwz
         obtain ⟨hlv,⟨v0,v1⟩,vf0,vf1⟩:=wr2 HS.out.bv
         obtain ⟨hlg,⟨g0,g1⟩,_⟩:=wr2 HS.out.bg
         obtain ⟨hlx,⟨x0,x1,x2,x3,x4⟩,_⟩:=wr5 HS.out.bx
         rw [HM.out] at v0
         go_wp2_with fail
         have hbtw:bt<wz.heap.size:=HS.out.bv.1
         have C0:(fun X:World=>X.cell? ⟨P,0,none⟩=some (.slice b0 q.x.length e0)∧X.cell? ⟨P,1,none⟩=some (.slice b1 q.g.length e1)∧X.cell? ⟨P,2,none⟩=some (.slice b2 q.ids.length e2)∧X.cell? ⟨P,3,none⟩=some (.int .i64 q.lv)∧X.cell? ⟨P,4,none⟩=some (.int .i64 q.l2)∧X.cell? ⟨P+1,1,none⟩=some (.int .i64 rate)) wz.drew:=⟨x0,x1,x2,x3,x4,g1⟩
         have D0:Hid (Rd wz.drew b0 b1 b2 q):=HS.out.rd.drew
         have HXD:Hid (Below wz.heap.size wz wz.drew):=Tm.below_drew wz
         clear x0 x1 x2 x3 x4 g0 g1 v0 v1 vf0 vf1 hlv hlg hlx
         refine Hd.start (fun X=>X.cell? ⟨P,0,none⟩=some (.slice b0 q.x.length e0)∧X.cell? ⟨P,1,none⟩=some (.slice b1 q.g.length e1)∧X.cell? ⟨P,2,none⟩=some (.slice b2 q.ids.length e2)∧X.cell? ⟨P,3,none⟩=some (.int .i64 q.lv)∧X.cell? ⟨P,4,none⟩=some (.int .i64 q.l2)∧X.cell? ⟨P+1,1,none⟩=some (.int .i64 rate)) 8 (by kernel_rfl) ?_
         generalize wz.drew=w0 at C0 D0 HXD ⊢
         refine Hd.After.takeD (i:=0) (some 94) (.agg #[.slice b0 q.x.length e0,.slice b1 q.g.length e1,.slice b2 q.ids.length e2,.int .i64 q.lv,.int .i64 q.l2]) rfl rfl (by kernel_rfl) (by kernel_rfl) (by kernel_rfl) (by kernel_rfl) (by kernel_rfl) (fun _ _ _ h=>h) (C0) (Or.inl ⟨by rfl,?_⟩) ?_
         ·
          rintro X ⟨x0,x1,x2,x3,x4,g1⟩;go_simp;try with_reducible rfl
         (first | simp only [Act.put,List.setIfInBounds_toArray,List.set_cons_zero,List.set_cons_succ] | skip)
         refine Hd.After.pureD (i:=2) (some 96) (.pointer (some ⟨P,4,none⟩)) rfl rfl (by kernel_rfl) (by decide) (by kernel_rfl) (by kernel_rfl) (fun _ _ _ h=>h) (C0) (Or.inl ⟨by rfl,?_⟩) ?_
         ·
          intro X;go_simp;try with_reducible rfl
         (first | simp only [Act.put,List.setIfInBounds_toArray,List.set_cons_zero,List.set_cons_succ] | skip)
         refine Hd.After.takeD (i:=3) (some 97) (.int .i64 q.l2) rfl rfl (by kernel_rfl) (by kernel_rfl) (by kernel_rfl) (by kernel_rfl) (by kernel_rfl) (fun _ _ _ h=>h) (C0) (Or.inl ⟨by rfl,?_⟩) ?_
         ·
          rintro X ⟨x0,x1,x2,x3,x4,g1⟩;go_simp;try with_reducible rfl
         (first | simp only [Act.put,List.setIfInBounds_toArray,List.set_cons_zero,List.set_cons_succ] | skip)
         refine Hd.After.pureD (i:=4) (some 98) (.pointer (some ⟨P+1,1,none⟩)) rfl rfl (by kernel_rfl) (by decide) (by kernel_rfl) (by kernel_rfl) (fun _ _ _ h=>h) (C0) (Or.inl ⟨by rfl,?_⟩) ?_
         ·
          intro X;go_simp;try with_reducible rfl
         (first | simp only [Act.put,List.setIfInBounds_toArray,List.set_cons_zero,List.set_cons_succ] | skip)
         refine Hd.After.takeD (i:=5) (some 99) (.int .i64 rate) rfl rfl (by kernel_rfl) (by kernel_rfl) (by kernel_rfl) (by kernel_rfl) (by kernel_rfl) (fun _ _ _ h=>h) (C0) (Or.inl ⟨by rfl,?_⟩) ?_
         ·
          rintro X ⟨x0,x1,x2,x3,x4,g1⟩;go_simp;try with_reducible rfl
         (first | simp only [Act.put,List.setIfInBounds_toArray,List.set_cons_zero,List.set_cons_succ] | skip)
         refine Hd.After.one (i:=1) (by kernel_rfl) rfl rfl ?_
         intro K hK
         go_simp
         go_wp2_with (go_at_call 132;refine (scellsof w0 _ _ _ _ _ _ q D0.out).mono ?_;rintro e w7 ⟨v,rfl,oc,hb7⟩)
         obtain ⟨ac,cc,rfl,hp⟩:=oc.isp
         have HY:Hid (Below wz.heap.size wz w7):=HXD.out.trans (hb7.mono HXD.out.size)
         have HPC:Hid (IsP w7 ac (cells q)):=hp
         have hcl:=cells_le q
         clear hb7 oc hp C0
         obtain ⟨_,⟨x0,x1,x2,x3,x4⟩,_⟩:=wr5 (HS.out.bx.below HY.out)
         obtain ⟨_,⟨g0,g1⟩,_⟩:=wr2 (HS.out.bg.below HY.out)
         refine hK _ _ (fun _=>⟨x0,x1,x2,x3,x4,g1⟩) ?_
         clear hK K
         (first | simp only [Act.put,List.setIfInBounds_toArray,List.set_cons_zero,List.set_cons_succ] | skip)
         clear x0 x1 x2 x3 x4 g0 g1
         refine Hd.After.one (i:=6) (by kernel_rfl) rfl rfl ?_
         intro K hK
         go_simp
         go_wp2_with (go_at_call 134;refine (Gw.slvs _ _ _ (cells q) q.l2 rate HPC.out (by omega)).mono ?_;rintro e w8 ⟨v,rfl,ov,hb8⟩)
         obtain ⟨av,cv,rfl,-⟩:=ov.isl
         have HZ:Hid (Below wz.heap.size wz w8):=HY.out.trans (hb8.mono HY.out.size)
         have HOV:Hid (type_of% ov):=ov
         have hs7:wz.heap.size≤w7.heap.size:=HY.out.size
         have hs78:=hb8.size
         clear hb8 ov
         obtain ⟨_,⟨x0,x1,x2,x3,x4⟩,_⟩:=wr5 (HS.out.bx.below HZ.out)
         obtain ⟨_,⟨g0,g1⟩,_⟩:=wr2 (HS.out.bg.below HZ.out)
         refine hK _ _ (fun _=>⟨x0,x1,x2,x3,x4,g1⟩) ?_
         clear hK K
         (first | simp only [Act.put,List.setIfInBounds_toArray,List.set_cons_zero,List.set_cons_succ] | skip)
         refine Hd.After.pureD (i:=7) (some 101) (.pointer (some ⟨bt,1,none⟩)) rfl rfl (by kernel_rfl) (by decide) (by kernel_rfl) (by kernel_rfl) (fun _ _ _ h=>h) (⟨x0,x1,x2,x3,x4,g1⟩) (Or.inl ⟨by rfl,?_⟩) ?_
         ·
          intro X;go_simp;try with_reducible rfl
         (first | simp only [Act.put,List.setIfInBounds_toArray,List.set_cons_zero,List.set_cons_succ] | skip)
         obtain ⟨hlv,⟨v0,v1⟩,vf0,vf1⟩:=wr2 (HS.out.bv.below HZ.out)
         rw [HM.out] at v0
         obtain ⟨nl,hnl⟩:∃ n,(Gw.lvs (cells q) q.l2 rate).length=n:=⟨_,rfl⟩
         have HNL:Hid ((Gw.lvs (cells q) q.l2 rate).length=nl):=hnl
         rw [hnl]
         clear hnl
         refine Hd.After.one (i:=8) (by kernel_rfl) rfl rfl ?_
         intro K hK
         go_simp
         refine hK _ _ (fun h=>by cases h) ?_
         clear hK K
         refine Hd.After.done (by kernel_rfl) ?_ _
         obtain ⟨hlz,⟨z0,z1⟩,zf0,zf1⟩:=wr2 (HS.out.bz.below HZ.out)
         have hne:¬ bt=P+2:=by omega
         have hne2:¬ P+2=bt:=by omega
         clear x0 x1 x2 x3 x4 g0 g1
         go_wp2
         have hgr:=grow_ok HOK.out
         have hDn:((D:Int)).toNat=D:=by simp
         rw [hDn,HS.out.e1,HS.out.e2,HM.out,HE.out,List.append_nil] at hgr
         refine bodyPost_ret (v:=.tuple #[.agg #[.slice bp m ep,.slice av nl cv],.bool true]) (by rw [results_ct rfl];go_simp) rfl ⟨.slice bp m ep,.slice av nl cv,by rw [hgr],?_,?_,?_,?_⟩
         ·
          rw [hgr]
          have h1:=HS.out.op.below HZ.out
          rw [HM.out] at h1
          exact Tm.ownsRow_mono (own_set3 h1 (by omega) (by omega)) (by have:=HP.out;omega)
         ·
          rw [hgr]
          have h1:=HOV.out
          rw [HNL.out] at h1
          exact Tm.ownsRow_mono (own_set3 h1 (by omega) (by omega)) (by have:=HP.out;omega)
         ·
          intro k e e2
          have h1:=HS.out.op
          rw [HM.out] at h1
          have h2:=(h1.ge k e).2
          have h3:=HOV.out
          rw [HNL.out] at h3
          have h4:=(h3.ge k e2).1
          omega
         ·
          have h1:=HS.out.bel.trans (HZ.out.mono HS.out.bel.size)
          have h2:=HP.out
          exact ((h1.setCell (p:=⟨bt,1,none⟩) (by show _≤bt;omega) _).setCell (p:=⟨P+2,0,none⟩) (by show _≤P+2;omega) _).setCell (p:=⟨P+2,1,none⟩) (by show _≤P+2;omega) _
        ·
         refine Hs.takeD (i:=9) (some 83) (.bool false) rfl rfl (by kernel_rfl) (by kernel_rfl) (by kernel_rfl) (fun _ _ _ h=>h) (⟨x0,x1,x2,x3,x4⟩) (Or.inl ⟨by rfl,?_⟩) ?_
         ·
          rintro X ⟨x0,x1,x2,x3,x4⟩;go_simp;try with_reducible rfl
         (first | simp only [Act.put,List.setIfInBounds_toArray,List.set_cons_zero,List.set_cons_succ] | skip)
         refine Hs.takeD (i:=10) (some 84) (.bool false) rfl rfl (by kernel_rfl) (by kernel_rfl) (by kernel_rfl) (fun _ _ _ h=>h) (⟨x0,x1,x2,x3,x4⟩) (Or.inl ⟨by rfl,?_⟩) ?_
         ·
          rintro X ⟨x0,x1,x2,x3,x4⟩;go_simp;try with_reducible rfl
         (first | simp only [Act.put,List.setIfInBounds_toArray,List.set_cons_zero,List.set_cons_succ] | skip)
         refine wpAnyH_done (by kernel_rfl) ?_ _
         have HWO:Hid (worth q bs=true):=by show _=_;have h1:=HF.out;have h2:=HSC.out;simp [worth,h1.2.2.1,h1.2.2.2,h2];omega
         clear x0 x1 x2 x3 x4 HS5 HXD HY HZ HBS hcl hcl2 hle HSC
         have HOP:Hid (OwnP w8 (bt+1) (.slice bp m ep) ps):=by have h1:=HS.out.op;rw [HM.out] at h1;exact h1
         have HKP:Hid (∀ X,Fr (Bad P bt (.slice bp m ep)) w8 X→Rd X b0 b1 b2 q):=by have h1:=HS.out.kp;rw [HM.out] at h1;exact h1
         obtain ⟨hlv,⟨v0,v1⟩,vf0,vf1⟩:=wr2 HS.out.bv
         rw [HM.out] at v0
         obtain ⟨hls,⟨s0,s1⟩,_⟩:=wr2 HBS8.out
         have hsb8:sb<w8.heap.size:=hls
         have hAl:Below w8.heap.size w8 (w8.alloc (.cells #[.int .i64 f,.int .i64 b] 58)):=(Below.refl _ _).alloc (Nat.le_refl _) _
         have HAL:Hid (type_of% hAl):=hAl
         clear hAl
         go_wp2_with (at_builtin;refine Sn.wpl_snocP rfl _ _ rfl (bt+1) bp m ep w8.heap.size ps HM.out rfl rfl (HOP.out.below HAL.out) (by simp;omega) f b (by simp) (by simp) (by omega) ?_;intro a5 c5 w9 o9 hg9;have HO9:Hid (type_of% o9):=o9;have HF9:Hid (Fr (Bad P bt (.slice bp m ep)) w8 w9):=(fr_below HAL.out).trans ⟨hg9.os,hg9.tape,hg9.output,hg9.size,fun k hk hn=>hg9.block k hk (fun e=>hn (.inr (.inr (.inr (.inr e.symm)))))⟩;have HG9:Hid (type_of% hg9):=hg9;have hnb:∀ k,k<bt+1 ∨ k=sb→¬ (Value.slice bp m ep).ownBlock=some k:=(fun k hk e=>by have h1:=(HOP.out.ge k e).1;have h2:=HOB.out k e;omega);have HBV9:Hid (Wr w9 bt 0 _):=(HS.out.bv.below HAL.out).keptAt hg9.size (hg9.block bt (Nat.lt_of_lt_of_le HS.out.bv.1 HAL.out.size) (fun e=>hnb bt (by omega) e.symm));have HBS9:Hid (Wr w9 sb 0 _):=(HBS8.out.below HAL.out).keptAt hg9.size (hg9.block sb (Nat.lt_of_lt_of_le hsb8 HAL.out.size) (fun e=>hnb sb (by omega) e.symm));have HBX9:Hid (Wr w9 P 0 _):=(HS.out.bx.below HAL.out).keptAt hg9.size (hg9.block P (Nat.lt_of_lt_of_le HS.out.bx.1 HAL.out.size) (fun e=>hnb P (by omega) e.symm));have HBG9:Hid (Wr w9 (P+1) 0 _):=(HS.out.bg.below HAL.out).keptAt hg9.size (hg9.block (P+1) (Nat.lt_of_lt_of_le HS.out.bg.1 HAL.out.size) (fun e=>hnb (P+1) (by omega) e.symm));have HBZ9:Hid (Wr w9 (P+2) 0 _):=(HS.out.bz.below HAL.out).keptAt hg9.size (hg9.block (P+2) (Nat.lt_of_lt_of_le HS.out.bz.1 HAL.out.size) (fun e=>hnb (P+2) (by omega) e.symm));obtain ⟨hlv9,⟨n0,n1⟩,nf0,nf1⟩:=wr2 HBV9.out;obtain ⟨hls9,⟨r0,r1⟩,_⟩:=wr2 HBS9.out;obtain ⟨hlx9,⟨y0,y1,y2,y3,y4⟩,yf0,yf1,yf2,yf3,yf4⟩:=wr5 HBX9.out;have hd1:¬ sb=bt:=(by omega);have hd2:¬ P=bt:=(by omega);clear o9 hg9 hnb)
         clear n0 n1 nf0 nf1 hlv9 r0 r1 hls9 y0 y1 y2 y3 y4 yf0 yf1 yf2 yf3 yf4 hlx9 v0 v1 vf0 vf1 hlv s0 s1 hls
         obtain ⟨w10,hw10⟩:∃ W,w9.setCell ⟨bt,0,none⟩ (.slice a5 (m+1) c5)=W:=⟨_,rfl⟩
         have HF10:Hid (Fr (Bad P bt (.slice bp m ep)) w9 w10):=by show Fr _ _ _;rw [← hw10];exact (fr_set _).mono (fun k e=>.inr (.inr (.inr (.inl e))))
         have qHBX:=HBX9.out.setOther (b:=bt) (o:=0) (v:=.slice a5 (m+1) c5) hd2
         rw [hw10] at qHBX
         have HBX:Hid (type_of% qHBX):=qHBX
         clear qHBX
         have qHBG:=HBG9.out.setOther (b:=bt) (o:=0) (v:=.slice a5 (m+1) c5) (by omega)
         rw [hw10] at qHBG
         have HBG:Hid (type_of% qHBG):=qHBG
         clear qHBG
         have qHBZ:=HBZ9.out.setOther (b:=bt) (o:=0) (v:=.slice a5 (m+1) c5) (by omega)
         rw [hw10] at qHBZ
         have HBZ:Hid (type_of% qHBZ):=qHBZ
         clear qHBZ
         have HBV:Hid (Wr w10 bt 0 [.slice a5 (m+1) c5,.slice none 0 0]):=by show Wr _ _ _ _;rw [← hw10];have:=HBV9.out.set 0 (by simp) (.slice a5 (m+1) c5);simpa using this
         have HO:Hid (OwnP w10 (bt+1) (.slice a5 (m+1) c5) (ps ++ [(f,b)])):=by show OwnP _ _ _ _;rw [← hw10];exact row_fr HO9.out (fr_set (b:=bt) (o:=0) (.slice a5 (m+1) c5)) (fun k e e2=>by have:=(HO9.out.ge k e).1;omega)
         have HRD:Hid (Rd w10 b0 b1 b2 q):=HKP.out w10 (HF9.out.trans HF10.out)
         have HBL:Hid (Below w.heap.size w w10):=HS.out.bel.trans ((HF9.out.trans HF10.out).bel (fun k e=>by have h1:=HP.out;have h2:=HS.out.lo;rcases e with e | e | e | e | e <;> first | omega | (have:=(HOP.out.ge k e).1;omega)) HS.out.bel.size)
         rw [hw10]
         clear hw10 HBX9 HBG9 HBZ9 HBV9 HBS9 HO9
         refine (sasked w10 _ _ _ _ _ _ q f b HRD.out).mono ?_
         rintro e w11 ⟨u0,u1,u2,rfl,ho,hb11⟩
         obtain ⟨q2,hq2⟩:∃ x,asked q f b=x:=⟨_,rfl⟩
         have HQ2:Hid (asked q f b=q2):=hq2
         rw [hq2] at ho ⊢
         obtain ⟨d0,k0,d1,k1,d2,k2,rfl,rfl,rfl,-⟩:=ho.rd
         have HOR:Hid (type_of% ho):=ho
         have HB11:Hid (Below w10.heap.size w10 w11):=hb11
         clear hq2 ho hb11
         obtain ⟨hlx,⟨x0,x1,x2,x3,x4⟩,xf0,xf1,xf2,xf3,xf4⟩:=wr5 (HBX.out.below HB11.out)
         have hPb:P<bt:=by omega
         go_wp2
         have HM1:Hid ((ps ++ [(f,b)]).length=m+1):=by show _=_;rw [List.length_append,HM.out];rfl
         have hF12:=set5 w11 P (.slice d0 q2.x.length k0) (.slice d1 q2.g.length k1) (.slice d2 q2.ids.length k2) (.int .i64 q2.lv) (.int .i64 q2.l2)
         have hDm:D-m=(D-(m+1))+1:=by omega
         have hay:=asks_yes (n:=D-(m+1)) HWO.out
         rw [HF.out.1,HF.out.2.1,HQ2.out,← hDm] at hay
         go_roundg (gk-1)
         case' measure=>have:=HGK.out;have:=HM.out;omega
         refine ⟨q2,ps ++ [(f,b)],d0,d1,d2,a5,k0,k1,k2,c5,by rw [HM1.out];have h1:=HGK.out;have h2:=HM.out;omega,?_⟩
         refine ⟨wr_set5 (HBX.out.below HB11.out) _ _ _ _ _,wr_frP (HBG.out.below HB11.out) hF12 (by omega),wr_frP (HBZ.out.below HB11.out) hF12 (by omega),?_,?_,?_,?_,by rw [HM1.out];omega,?_,?_,HS.out.lo⟩
         ·
          rw [HM1.out];exact wr_frP (HBV.out.below HB11.out) hF12 (by omega)
         ·
          rw [HM1.out]
          intro X hX
          have hFX:Fr (Bad P bt (.slice a5 (m+1) c5)) w11 X:=(hF12.mono (fun k e=>.inl e)).trans hX
          obtain ⟨_,_,_,_,_,_,j0,j1,j2,hrd⟩:=(HOR.out.fr hFX (fun k hk e=>by
           have h1:=HBX.out.1
           have h2:=HBG.out.1
           have h3:=HBZ.out.1
           have h4:=HBV.out.1
           rcases e with e | e | e | e | e <;> first | omega | (have:=(HO.out.ge k e).2;omega))).rd
          cases j0;cases j1;cases j2
          exact hrd
         ·
          rw [HM1.out];exact row_fr (HO.out.below HB11.out) hF12 (fun k e e2=>by have:=(HO.out.ge k e).1;omega)
         ·
          exact (HBL.out.trans (HB11.out.mono HBL.out.size)).trans (hF12.bel (fun k e=>by have:=HP.out;omega) (Nat.le_trans HBL.out.size HB11.out.size))
         ·
          rw [HM1.out,HS.out.e1,HM.out,hay]
         ·
          rw [HM1.out,HS.out.e2,HM.out,hay];simp
end Go.Proofs.YtaojoamldoofpaaGreatDoor.Gt
namespace Go.Proofs.YtaojoamldoofpaaGreatDoor.Bw
open Go.RowKit
open Li Bo
end Go.Proofs.YtaojoamldoofpaaGreatDoor.Bw
