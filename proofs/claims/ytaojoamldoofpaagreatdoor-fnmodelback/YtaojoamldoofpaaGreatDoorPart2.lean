/-
  Contracts that the proof leans on, put together in the order in which they build.
-/
import Derived.Test.YtaojoamldoofpaaGreatDoorPart1
import Derived.Deep.QuietTactic
import Derived.BigQuiet
import Derived.BigRegion
import Derived.Deep.RegionHeld3
import Derived.Deep.MidRow
import Derived.Deep.AppendLies
import Derived.Deep.RegionLaw
import Derived.Deep.RegionWith
import Derived.Laws.Cover3
import Derived.Test.YtaojoamldoofpaaGreatDoorRows
import Derived.OrdersHeld
import Derived.WalkKit
set_option linter.unusedVariables false
namespace Go.Proofs.YtaojoamldoofpaaGreatDoor.Tm
open Go.RowKit
open Li (ret_bool ret_int below_none)
def Box2 (w:World) (b:Nat) (v0 v1:Value):Prop :=
 b<w.heap.size∧(w.cell? ⟨b,0,none⟩=some v0∧w.cell? ⟨b,1,none⟩=some v1)∧w.frozen? ⟨b,0,none⟩=false∧w.frozen? ⟨b,1,none⟩=false
theorem Box2.keptAt {w w1:World} {b:Nat} {v0 v1:Value} (h:Box2 w b v0 v1) (hs:w.heap.size≤w1.heap.size) (hb:w1.heap[b]? = w.heap[b]?):Box2 w1 b v0 v1:=by
 obtain ⟨hlt,⟨c0,c1⟩,f0,f1⟩:=h
 refine ⟨by omega,⟨?_,?_⟩,?_,?_⟩
 ·
  rw [World.cell?_of_block (w:=w) (a:=⟨b,0,none⟩) hb];exact c0
 ·
  rw [World.cell?_of_block (w:=w) (a:=⟨b,1,none⟩) hb];exact c1
 ·
  rw [World.frozen?_of_block (w:=w) (a:=⟨b,0,none⟩) hb];exact f0
 ·
  rw [World.frozen?_of_block (w:=w) (a:=⟨b,1,none⟩) hb];exact f1
theorem Box2.below {w w1:World} {b:Nat} {v0 v1:Value} (h:Box2 w b v0 v1) (hB:Below w.heap.size w w1):Box2 w1 b v0 v1:=h.keptAt hB.size (hB.block b h.1)
theorem Box2.setOther {w:World} {b g o:Nat} {v0 v1 v:Value} (h:Box2 w b v0 v1) (hne:¬ b=g):Box2 (w.setCell ⟨g,o,none⟩ v) b v0 v1 :=
 h.keptAt (by simp [World.setCell]) (Below.heap_setCell _ _ _ _ (fun e=>hne (by simpa using e)))
theorem Box2.set0 {w:World} {b:Nat} {v0 v1:Value} (h:Box2 w b v0 v1) (v:Value):Box2 (w.setCell ⟨b,0,none⟩ v) b v v1:=by
 obtain ⟨hlt,⟨c0,c1⟩,f0,f1⟩:=h
 refine ⟨by simpa [World.setCell] using hlt,⟨World.cell?_setCell_same _ _ _ c0,?_⟩,?_,?_⟩
 ·
  rw [World.cell?_setCell_other _ _ _ _ (by simp)];exact c1
 all_goals (rw [World.frozen?_setCell];assumption)
theorem Box2.set1 {w:World} {b:Nat} {v0 v1:Value} (h:Box2 w b v0 v1) (v:Value):Box2 (w.setCell ⟨b,1,none⟩ v) b v0 v:=by
 obtain ⟨hlt,⟨c0,c1⟩,f0,f1⟩:=h
 refine ⟨by simpa [World.setCell] using hlt,⟨?_,World.cell?_setCell_same _ _ _ c1⟩,?_,?_⟩
 ·
  rw [World.cell?_setCell_other _ _ _ _ (by simp)];exact c0
 all_goals (rw [World.frozen?_setCell];assumption)
theorem box2_new (w:World) (v0 v1:Value) (T:TypeId):Box2 (w.alloc (.cells #[v0,v1] T)) w.heap.size v0 v1 :=
 ⟨by simp,⟨by simp [World.cell?_alloc_new],by simp [World.cell?_alloc_new]⟩,by simp,by simp⟩
theorem Box2.alloc {w:World} {b:Nat} {v0 v1:Value} (h:Box2 w b v0 v1) (o:Obj):Box2 (w.alloc o) b v0 v1:=h.below ((Below.refl _ _).alloc (Nat.le_refl _) _)
theorem Box2.drewN {w:World} {b:Nat} {v0 v1:Value} (h:Box2 w b v0 v1) (n:Nat):Box2 (w.drewN n) b v0 v1:=h
theorem size_alloc (w:World) (o:Obj):(w.alloc o).heap.size=w.heap.size+1:=by simp
theorem boxes1 (w:World) (v0 v1:Value) (T:TypeId):∃ W,w.alloc (.cells #[v0,v1] T)=W∧W.heap.size=w.heap.size+1∧Below w.heap.size w W∧Box2 W w.heap.size v0 v1 :=
 ⟨_,rfl,by simp,(Below.refl _ _).alloc (Nat.le_refl _) _,box2_new _ _ _ _⟩
theorem boxes2 (w:World) (v0 v1 x0 x1:Value) (T U:TypeId):∃ W,(w.alloc (.cells #[v0,v1] T)).alloc (.cells #[x0,x1] U)=W∧W.heap.size=w.heap.size+2∧Below w.heap.size w W∧Box2 W w.heap.size v0 v1∧Box2 W (w.heap.size+1) x0 x1:=by
 refine ⟨_,rfl,by simp,((Below.refl _ _).alloc (Nat.le_refl _) _).alloc (by simp) _,?_,?_⟩
 ·
  exact (box2_new _ _ _ _).alloc _
 ·
  have:=box2_new (w.alloc (.cells #[v0,v1] T)) x0 x1 U
  rwa [size_alloc] at this
theorem own_off {w w1:World} {B b:Nat} {v:Value} {xs:List Int} (h:Li.Own w B v xs) (hg:w.grownBy w1 (some b)) (hb:b<B):Li.Own w1 B v xs:=by
 refine h.kept hg ?_
 cases e:v.ownBlock with
 | none=>exact .inl rfl
 | some k=>exact .inr (by have:=(h.ge k e).1;simp;omega)
theorem ownP_off {w w1:World} {B b:Nat} {v:Value} {xs:List (Int × Int)} (h:OwnP w B v xs) (hg:w.grownBy w1 (some b)) (hb:b<B):OwnP w1 B v xs:=by
 refine h.kept hg ?_
 cases e:v.ownBlock with
 | none=>exact .inl rfl
 | some k=>exact .inr (by have:=(h.ge k e).1;simp;omega)
def Apt (u v:Value):Prop:=(v.ownBlock=none ∨ v.ownBlock≠u.ownBlock)∧(u.ownBlock=none ∨ u.ownBlock≠v.ownBlock)
theorem apt_of {u v:Value} (h:∀ k,u.ownBlock=some k→v.ownBlock=some k→False):Apt u v:=by
 unfold Apt
 cases e:u.ownBlock with
 | none=>exact ⟨by cases e':v.ownBlock <;> simp,.inl rfl⟩
 | some k =>
  cases e':v.ownBlock with
  | none=>exact ⟨.inl rfl,by simp⟩
  | some k' =>
   have:¬ k=k':=fun e2=>h k e (by rw [e',e2])
   exact ⟨.inr (by simp;omega),.inr (by simp;omega)⟩
theorem ownsRow_at {w w1:World} {base:Nat} {e:TypeId} {size:Nat} {v:Value} {n:Nat} {xs:List Value} (h:w.ownsRow base e size v n xs) (hk:∀ k,v.ownBlock=some k→w1.heap[k]? = w.heap[k]?):w1.ownsRow base e size v n xs:=by
 refine ⟨h.1,?_⟩
 rcases h.2 with h | ⟨g,cap,cur,rfl,hb,hh,r⟩
 ·
  exact .inl h
 ·
  exact .inr ⟨g,cap,cur,rfl,hb,by rw [hk g rfl];exact hh,r⟩
theorem below_drew (w:World):Below w.heap.size w w.drew:=⟨rfl,rfl,rfl,Nat.le_refl _,fun _ _=>rfl⟩
end Go.Proofs.YtaojoamldoofpaaGreatDoor.Tm
namespace Go.Proofs.YtaojoamldoofpaaGreatDoor.Sv
open Go.RowKit
open Li (iv ret_bool ret_int below_none IsL)
open Se (R)
open Tm (pv pv_length pv_get pv_set IsP)
theorem Wr.fr {w w1:World} {B:Nat→Prop} {g off:Nat} {vs:List Value} (h:Wr w g off vs) (hf:Fr B w w1) (hn:¬ B g):Wr w1 g off vs:=h.keptAt hf.size (hf.block g h.1 hn)
def OwC (w:World) (B:Nat→Prop) (v:Value) (ps:List (Int × Int)):Prop:=∃ a cap,v=.slice a ps.length cap∧(ps=[] ∨ ∃ g off,a=some ⟨g,off,none⟩∧B g∧Wr w g off (pv ps))
theorem wr_isp {w:World} {g off:Nat} {ps:List (Int × Int)} (h:Wr w g off (pv ps)):IsP w (some ⟨g,off,none⟩) ps:=by
 refine .inr ⟨g,off,rfl,h.1,fun j hj=>?_⟩
 have hp:=pv_get ps j hj
 have hl:=pv_length ps
 have h1:=(h.2 (j * 2) (by omega)).1
 have h2:=(h.2 (j * 2+1) (by omega)).1
 rw [List.getElem?_eq_getElem (by omega)] at hp
 rw [List.getElem?_eq_getElem (by omega)] at hp
 refine ⟨by rw [h1];exact hp.1,?_⟩
 rw [show off+j * 2+1=off+(j * 2+1) by omega,h2];exact hp.2
theorem OwC.isp {w:World} {B:Nat→Prop} {v:Value} {ps:List (Int × Int)} (h:OwC w B v ps):∃ a cap,v=.slice a ps.length cap∧IsP w a ps:=by
 obtain ⟨a,cap,e,h⟩:=h
 refine ⟨a,cap,e,?_⟩
 rcases h with h | ⟨g,off,rfl,_,hw⟩
 ·
  exact .inl h
 ·
  exact wr_isp hw
theorem wr_row {w:World} {base g n s cap:Nat} {t:TypeId} {vs:List Value} (h:w.ownsRow base t s (.slice (some ⟨g,0,none⟩) n cap) n vs):Wr w g 0 vs:=by
 refine ⟨(World.ownsRow.lt h g rfl).2,fun j hj=>?_⟩
 rw [Nat.zero_add]
 exact ⟨by rw [World.ownsRow.cellAt h j (by have:=h.1;omega),List.getElem?_eq_getElem hj],World.ownsRow.frozenAt h j⟩
theorem info_cell:(Tryz.prog.info? 194).map (fun i=>(i.zero,i.size,i.bytes))=some (some (.agg #[.int .i64 0,.int .i64 0]),2,16):=by kernel_rfl
theorem pv_made (n:Nat):(madeCells (Value.agg #[.int .i64 0,.int .i64 0]).cells (n * 2)).toList=pv (Se.none0 n):=by
 apply List.ext_getElem?
 intro p
 by_cases hp:p<n * 2
 ·
  have hz:(madeCells (Value.agg #[.int .i64 0,.int .i64 0]).cells (n * 2)).toList[p]? = some (.int .i64 0):=by
   have h2:p % 2<2:=Nat.mod_lt _ (by decide)
   simp [madeCells,hp,Value.cells]
   rcases Nat.mod_two_eq_zero_or_one p with e | e <;> simp [e]
  rw [hz]
  have hg:=pv_get (Se.none0 n) (p / 2) (by rw [Se.none0_length];omega)
  rcases Nat.mod_two_eq_zero_or_one p with e | e
  ·
   have:=hg.1;rw [show p / 2 * 2=p by omega] at this;rw [this];simp [Se.none0]
  ·
   have:=hg.2;rw [show p / 2 * 2+1=p by omega] at this;rw [this];simp [Se.none0]
 ·
  rw [List.getElem?_eq_none (by simp [madeCells];omega),List.getElem?_eq_none (by rw [pv_length,Se.none0_length];omega)]
theorem Wr.set2 {w:World} {g off:Nat} {ps:List (Int × Int)} (h:Wr w g off (pv ps)) (j:Nat) (hj:j<ps.length) (x y:Int) :
  Wr ((w.setCell ⟨g,off+j * 2,none⟩ (.int .i64 x)).setCell ⟨g,off+j * 2+1,none⟩ (.int .i64 y)) g off (pv (ps.set j (x,y))):=by
 have hl:=pv_length ps
 have h1:=h.set (j * 2) (by omega) (.int .i64 x)
 have h2:=h1.set (j * 2+1) (by rw [List.length_set];omega) (.int .i64 y)
 rw [pv_set] at h2
 rwa [show off+(j * 2+1)=off+j * 2+1 by omega] at h2
theorem Wr.at2 {w:World} {g off:Nat} {ps:List (Int × Int)} (h:Wr w g off (pv ps)) (j:Nat) (hj:j<ps.length) :
  (w.cell? ⟨g,off+j * 2,none⟩=some (.int .i64 ps[j].1)∧w.cell? ⟨g,off+j * 2+1,none⟩=some (.int .i64 ps[j].2))∧w.frozen? ⟨g,off+j * 2,none⟩=false∧w.frozen? ⟨g,off+j * 2+1,none⟩=false:=by
 have hl:=pv_length ps
 rcases wr_isp h with h0 | ⟨b,o,e,_,hc⟩
 ·
  subst h0;simp at hj
 ·
  cases e
  refine ⟨hc j hj,(h.2 (j * 2) (by omega)).2,?_⟩
  have:=(h.2 (j * 2+1) (by omega)).2
  rwa [show off+(j * 2+1)=off+j * 2+1 by omega] at this
end Go.Proofs.YtaojoamldoofpaaGreatDoor.Sv
namespace Go.Proofs.YtaojoamldoofpaaGreatDoor.Sw7
open Go.RowKit
open Li (ret_bool ret_int below_none IsL btw)
open Se Sv
theorem below_box1 {w:World} {o:Obj} : Below w.heap.size w (w.alloc o):=(Below.refl _ _).alloc (Nat.le_refl _) _
theorem rd_row {w:World} {a0 a1 a2:Option Addr} {r:R} (h:Rd w a0 a1 a2 r) (h1:r.g.length=r.x.length) (h2:r.ids.length=r.x.length) (k:Nat) (hk:k<r.x.length) :
  ∃ xb xo gb go ib io a' c',a0=some ⟨xb,xo,none⟩∧a1=some ⟨gb,go,none⟩∧a2=some ⟨ib,io,none⟩∧(xb<w.heap.size∧gb<w.heap.size∧ib<w.heap.size) ∧
   w.cell? ⟨xb,xo+k,none⟩=some (.slice a' (r.x.getD k []).length c')∧IsL w a' (r.x.getD k [])∧w.cell? ⟨gb,go+k,none⟩=some (.int .i64 (r.g.getD k 0))∧w.cell? ⟨ib,io+k,none⟩=some (.int .i64 (r.ids.getD k 0)):=by
 obtain ⟨i0,i1,i2⟩:=h
 rcases i0 with e | ⟨xb,xo,rfl,hxb,hx⟩
 ·
  rw [e] at hk;simp at hk
 rcases i1 with e | ⟨gb,go,rfl,hgb,hg⟩
 ·
  rw [e] at h1;simp at h1;omega
 rcases i2 with e | ⟨ib,io,rfl,hib,hi⟩
 ·
  rw [e] at h2;simp at h2;omega
 obtain ⟨a',c',hc,hl⟩:=hx k hk
 have e0:r.x.getD k []=r.x[k]:=by simp [List.getD_eq_getElem?_getD,hk]
 have e1:r.g.getD k 0=r.g[k]:=by simp [List.getD_eq_getElem?_getD,h1,hk]
 have e2:r.ids.getD k 0=r.ids[k]:=by simp [List.getD_eq_getElem?_getD,h2,hk]
 rw [e0,e1,e2]
 exact ⟨xb,xo,gb,go,ib,io,a',c',rfl,rfl,rfl,⟨hxb,hgb,hib⟩,hc,hl,hg k (by omega),hi k (by omega)⟩
theorem sbtwv (x lo hi:Int) (b:Bool) (h:btw x lo hi=b) (w:World):Calls Tryz.prog 33 #[.int .i64 x,.int .i64 lo,.int .i64 hi] w fun e w'=>e=.returned (.bool b)∧w'=w:=by subst h;exact Li.between_any x lo hi w
abbrev rwk (L:Nat) (G I lv:Int):Prop:=L=6∧(-2000000≤G∧G≤2000000)∧(0≤I∧I<lv)
end Go.Proofs.YtaojoamldoofpaaGreatDoor.Sw7
namespace Go.Proofs.YtaojoamldoofpaaGreatDoor.Sw7
open Go.RowKit
open Li (ret_bool ret_int below_none IsL btw)
open Se Sv
set_option maxHeartbeats 2000000 in
theorem srows (w:World) (a0 a1 a2:Option Addr) (c0 c1 c2:Nat) (r:R) (h:Rd w a0 a1 a2 r) :
  Calls Tryz.prog 128 #[.agg #[.slice a0 r.x.length c0,.slice a1 r.g.length c1,.slice a2 r.ids.length c2,.int .i64 r.lv,.int .i64 r.l2]] w fun e w'=>e=.returned (.bool (rok r))∧Below w.heap.size w w':=by
 by_cases hs:Se.shape r
 rotate_left
 ·
  have HR:Hid (rok r=false):=rok_shape hs
  have HS:Hid (¬ Se.shape r):=hs
  clear hs
  obtain ⟨n,hn⟩:∃ n,r.x.length=n:=⟨_,rfl⟩
  obtain ⟨m,hm⟩:∃ n,r.g.length=n:=⟨_,rfl⟩
  obtain ⟨q,hq⟩:∃ n,r.ids.length=n:=⟨_,rfl⟩
  have HE:Hid (r.x.length=n∧r.g.length=m∧r.ids.length=q):=⟨hn,hm,hq⟩
  rw [hn,hm,hq]
  clear hn hm hq
  cases hl:btw r.lv 1 16
  all_goals cases hl2:btw r.l2 1 1000
  all_goals have HL:Hid (btw r.lv 1 16=_∧btw r.l2 1 1000=_):=⟨hl,hl2⟩
  all_goals
   go_enter Tryz.func128,Tryz.ntmps128
   go_wp2_with (first | (go_at_call_of 33 (16:Int);refine (Li.between_any _ _ _ _).mono ?_;rintro e w' ⟨rfl,hw⟩;subst w';rw [hl]) | (go_at_call 33;refine (Li.between_any _ _ _ _).mono ?_;rintro e w' ⟨rfl,hw⟩;subst w';rw [hl2]))
  all_goals first
   | (go_ret;exact ⟨ret_bool HR.out.symm,below_box1⟩)
   | (exfalso;have h1:=HS.out;have h2:=HE.out;have h3:=HL.out;simp [btw] at h3;simp [Se.shape] at h1;omega)
 obtain ⟨s1,s2,s3,s4,s5⟩:=hs
 obtain ⟨i0,i1,i2⟩:=h
 have HS:Hid (Se.shape r):=⟨s1,s2,s3,s4,s5⟩
 have HH:Hid (Rd w a0 a1 a2 r):=⟨i0,i1,i2⟩
 rw [s2,s3]
 obtain ⟨n,hn⟩:∃ n,r.x.length=n:=⟨_,rfl⟩
 have HE:Hid (r.x.length=n):=hn
 rw [hn] at s1 ⊢
 obtain ⟨lv,hlv⟩:∃ x,r.lv=x:=⟨_,rfl⟩
 have HV:Hid (r.lv=lv):=hlv
 rw [hlv] at s4 ⊢
 have hl:btw lv 1 16=true:=by simp only [btw,decide_eq_true_iff];exact s4
 have hl2:btw r.l2 1 1000=true:=by simp only [btw,decide_eq_true_iff];exact s5
 have hne:((n:Int) != (n:Int))=false:=by simp
 clear hn s2 s3 i0 i1 i2 hlv
 go_enter Tryz.func128,Tryz.ntmps128
 go_wp2_with (first | (go_at_call_of 33 (16:Int);refine (Li.between_any _ _ _ _).mono ?_;rintro e w' ⟨rfl,hw⟩;subst w';rw [hl]) | (go_at_call 33;refine (Li.between_any _ _ _ _).mono ?_;rintro e w' ⟨rfl,hw⟩;subst w';rw [hl2]))
 obtain ⟨W,hW,hsz,hB,bx⟩:=new1 w [.slice a0 n c0,.slice a1 n c1,.slice a2 n c2,.int .i64 lv,.int .i64 r.l2] 151
 rw [hW]
 have HX:Hid (Wr W w.heap.size 0 [.slice a0 n c0,.slice a1 n c1,.slice a2 n c2,.int .i64 lv,.int .i64 r.l2]):=bx
 have HBW:Hid (Below w.heap.size w W):=hB
 clear hW hsz hl hl2 hB bx
 go_loopw [3] (fun i wr=>∃ k:Nat,k≤n∧i=.int .i64 k∧(∀ j,j<k→rowok r j)∧∃ z,wr=W.drewN z) (fun i _=>n-(intOf i).toNat)
 case atStart=>exact ⟨0,Nat.zero_le _,rfl,fun j hj=>by omega,0,rfl⟩
 case round =>
  obtain ⟨k,hk,rfl,hn,z,hz⟩:=hrel
  have HN:Hid (∀ j,j<k→rowok r j):=hn
  have HZ:Hid (wr=W.drewN z):=hz
  have hbr:Below W.heap.size W wr:=by rw [hz];exact Tm.below_drewN' _ _
  obtain ⟨_,⟨x0,x1,x2,x3,x4⟩,_⟩:=wr5 (HX.out.below hbr)
  have HBR:Hid (Below w.heap.size w wr):=HBW.out.trans (hbr.mono HBW.out.size)
  clear hn hz
  by_cases hlt:k<n
  ·
   obtain ⟨xb,xo,gb,go,ib,io,a',c',rfl,rfl,rfl,⟨hb0,hb1,hb2⟩,hx,_,hg,hi⟩:=rd_row (HH.out.below HBR.out) HS.out.2.1 HS.out.2.2.1 k (by rw [HE.out];exact hlt)
   have HK:Hid (rowok r k↔rwk (r.x.getD k []).length (r.g.getD k 0) (r.ids.getD k 0) r.lv):=Iff.rfl
   rw [HV.out] at HK
   obtain ⟨L,hL⟩:∃ L,(r.x.getD k []).length=L:=⟨_,rfl⟩
   obtain ⟨G,hG⟩:∃ G,r.g.getD k 0=G:=⟨_,rfl⟩
   obtain ⟨I,hI⟩:∃ I,r.ids.getD k 0=I:=⟨_,rfl⟩
   rw [hL] at hx HK
   rw [hG] at hg HK
   rw [hI] at hi HK
   clear hL hG hI hbr
   have hlt':(k:Int)<n:=by omega
   obtain ⟨p,hp⟩:∃ p,lv-1=p:=⟨_,rfl⟩
   have HP:Hid (lv-1=p):=hp
   have hpw:IntKind.i64.wrap (lv-1)=p:=by rw [hp];simp [IntKind.wrap,IntKind.bits,IntKind.signed];omega
   have hpv:wrap64 (lv-1)=p:=by unfold wrap64;omega
   by_cases h6:L=6
   rotate_left
   ·
    have e6:((L:Int) != 6)=true:=by simp;omega
    have HR:Hid (rok r=false):=rok_row (by rw [HE.out];exact hlt) (fun h=>h6 (HK.out.1 h).1)
    go_wp2
    go_quiet (fail)
    go_wp2
    go_ret
    exact ⟨ret_bool HR.out.symm,HBR.out.trans ((Tm.below_drewN' _ _).mono HBR.out.size)⟩
   have e6:((L:Int) != 6)=false:=by simp;omega
   cases hgr:btw G (-2000000) 2000000 with
   | false =>
    have HR:Hid (rok r=false):=rok_row (by rw [HE.out];exact hlt) (fun h=>by have:=(HK.out.1 h).2.1;simp only [btw,decide_eq_false_iff_not] at hgr;omega)
    go_wp2
    go_quiet (first | (go_at_call 33;refine Calls.quiet_of_same (sbtwv _ (-2000000) 2000000 false hgr _)))
    go_wp2
    go_ret
    exact ⟨ret_bool HR.out.symm,HBR.out.trans ((Tm.below_drewN' _ _).mono HBR.out.size)⟩
   | true =>
    cases hid:btw I 0 p with
    | false =>
     have HR:Hid (rok r=false):=rok_row (by rw [HE.out];exact hlt) (fun h=>by have:=(HK.out.1 h).2.2;simp only [btw,decide_eq_false_iff_not] at hid;have:=HP.out;omega)
     go_wp2
     go_quiet (first | (go_at_call_of 33 G;refine Calls.quiet_of_same (sbtwv _ (-2000000) 2000000 true hgr _)) | (go_at_call_of 33 I;refine Calls.quiet_of_same (sbtwv I 0 p false hid _)))
     go_wp2
     go_ret
     exact ⟨ret_bool HR.out.symm,HBR.out.trans ((Tm.below_drewN' _ _).mono HBR.out.size)⟩
    | true =>
     have HR:Hid (∀ j,j<k+1→rowok r j):=fun j hj=>by
      by_cases e:j=k
      ·
       subst e;simp only [btw,decide_eq_true_iff] at hid hgr;have:=HP.out;exact HK.out.2 ⟨h6,hgr,by omega,by omega⟩
      ·
       exact HN.out j (by omega)
     go_wp2
     go_quiet (first | (go_at_call_of 33 G;refine Calls.quiet_of_same (sbtwv _ (-2000000) 2000000 true hgr _)) | (go_at_call_of 33 I;refine Calls.quiet_of_same (sbtwv I 0 p true hid _)))
     go_wp2
     go_roundw
     case rel=>exact ⟨k+1,by omega,by go_num,HR.out,_,by rw [HZ.out,World.drewN_drewN]⟩
     case measure=>simp [intOf];omega
  ·
   have HR:Hid (rok r=true):=rok_all HS.out (fun j hj=>HN.out j (by rw [HE.out] at hj;omega))
   go_wp2
   go_ret
   exact ⟨ret_bool HR.out.symm,HBR.out⟩
end Go.Proofs.YtaojoamldoofpaaGreatDoor.Sw7
namespace Go.Proofs.YtaojoamldoofpaaGreatDoor.Sw7
open Go.RowKit
open Li (ret_bool ret_int below_none IsL btw)
open Tm (IsP)
open Se Sv
set_option maxHeartbeats 2000000 in
theorem sscore (w:World) (a:Option Addr) (cap:Nat) (ps:List (Int × Int)) (l2:Int) (h:IsP w a ps) (hl:ps.length≤1048576) :
  Calls Tryz.prog 131 #[.slice a ps.length cap,.int .i64 l2] w fun e w'=>e=.returned (.int .i64 (score ps l2))∧Below w.heap.size w w':=by
 by_cases h16:ps.length≤16
 rotate_left
 ·
  have HR:Hid (score ps l2=0):=score_no (scok_head (fun h=>h16 h.1))
  have hd:decide (16<(ps.length:Int))=true:=by simp;omega
  go_enter Tryz.func131,Tryz.ntmps131
  go_wp2_with fail
  go_ret
  exact ⟨ret_int HR.out.symm,Below.refl _ _⟩
 have hd:decide (16<(ps.length:Int))=false:=by simp;omega
 cases hv:btw l2 1 1000 with
 | false =>
  have HR:Hid (score ps l2=0):=score_no (scok_head (fun h=>by simp only [btw,decide_eq_false_iff_not] at hv;exact hv h.2))
  go_enter Tryz.func131,Tryz.ntmps131
  go_wp2_with (go_at_call 33;refine (Li.between_any _ _ _ _).mono ?_;rintro e w' ⟨rfl,hw⟩;subst w';rw [hv])
  go_ret
  exact ⟨ret_int HR.out.symm,Below.refl _ _⟩
 | true =>
  have h2:1≤l2∧l2≤1000:=by simp only [btw,decide_eq_true_iff] at hv;exact hv
  go_enter Tryz.func131,Tryz.ntmps131
  go_wp2_with (go_at_call 33;refine (Li.between_any _ _ _ _).mono ?_;rintro e w' ⟨rfl,hw⟩;subst w';rw [hv])
  clear hv
  go_loopw [5,6] (fun q i wr=>∃ k:Nat,k≤ps.length∧i=.int .i64 k∧q=.int .i64 (ssum l2 (ps.take k))∧(∀ j (hj:j<ps.length),j<k→cok ps[j])∧∃ z,wr=w.drewN z) (fun _ i _=>ps.length-(intOf i).toNat)
  case atStart=>exact ⟨0,Nat.zero_le _,rfl,by simp [ssum],fun j hj h=>by omega,0,rfl⟩
  case round =>
   obtain ⟨k,hk,rfl,rfl,hn,z,hz⟩:=hrel
   have HN:Hid (∀ j (hj:j<ps.length),j<k→cok ps[j]):=hn
   have HZ:Hid (wr=w.drewN z):=hz
   have hBr:Below w.heap.size w wr:=by rw [hz];exact Tm.below_drewN' _ _
   clear hn hz
   by_cases hlt:k<ps.length
   ·
    rcases h.below hBr with h0 | ⟨b,off,rfl,hb,hc⟩
    ·
     rw [h0] at hlt;simp at hlt
    obtain ⟨c0,c1⟩:=hc k hlt
    have HT:Hid (ssum l2 (ps.take (k+1))=ssum l2 (ps.take k)+one ps[k] l2):=ssum_take ps l2 k hlt
    obtain ⟨r0,r1⟩:=ssum_range ps l2 h2 k hk (fun j hj hjk=>HN.out j hj hjk)
    obtain ⟨Z,hZ⟩:∃ Z,ssum l2 (ps.take k)=Z:=⟨_,rfl⟩
    rw [hZ] at r0 r1 HT ⊢
    have hz:Z≤102400000000000000:=by omega
    have HCK:Hid (cok ps[k]↔btw ps[k].1 0 40=true∧btw ps[k].2 (-80000000) 80000000=true):=by show _↔_;simp [cok,btw]
    have HBAD:Hid (¬ cok ps[k]→score ps l2=0):=fun hb=>score_no (scok_bad hlt hb)
    have HGO:Hid (cok ps[k]→(0≤one ps[k] l2∧one ps[k] l2≤6400000000000000)∧(0≤ps[k].2 * ps[k].2∧ps[k].2 * ps[k].2≤6400000000000000)):=fun hc=>⟨one_range hc h2,sq_range hc⟩
    unfold one at HGO HT
    obtain ⟨N,hN⟩:∃ N,ps[k].1=N:=⟨_,rfl⟩
    obtain ⟨G,hG⟩:∃ G,ps[k].2=G:=⟨_,rfl⟩
    rw [hN] at c0 HT HGO HCK
    rw [hG] at c1 HT HGO HCK
    clear hc hZ hN hG r1
    cases hv1:btw N 0 40 with
    | false =>
     have HR:Hid (score ps l2=0):=HBAD.out (fun h=>by have:=(HCK.out.1 h).1;rw [hv1] at this;cases this)
     go_wp2_with (go_at_call_of 33 N;refine (Li.between_any _ _ _ _).mono ?_;rintro e w' ⟨rfl,hw⟩;subst w';rw [hv1])
     go_ret
     exact ⟨ret_int HR.out.symm,hBr⟩
    | true =>
     cases hv2:btw G (-80000000) 80000000 with
     | false =>
      have HR:Hid (score ps l2=0):=HBAD.out (fun h=>by have:=(HCK.out.1 h).2;rw [hv2] at this;cases this)
      go_wp2_with (first | (go_at_call_of 33 N;refine (Li.between_any _ _ _ _).mono ?_;rintro e w' ⟨rfl,hw⟩;subst w';rw [hv1]) | (go_at_call_of 33 G;refine (Li.between_any _ _ _ _).mono ?_;rintro e w' ⟨rfl,hw⟩;subst w';rw [hv2]))
      go_ret
      exact ⟨ret_int HR.out.symm,hBr⟩
     | true =>
      have hck:=HCK.out.2 ⟨hv1,hv2⟩
      obtain ⟨⟨q0,q1⟩,s0,s1⟩:=HGO.out hck
      have HR:Hid (∀ j (hj:j<ps.length),j<k+1→cok ps[j]):=fun j hj h=>by
       by_cases e:j=k
       ·
        subst e;exact hck
       ·
        exact HN.out j hj (by omega)
      have hN:=hv1
      have hG:=hv2
      simp only [btw,decide_eq_true_iff] at hN hG
      have hne:¬ N+l2=0:=by omega
      have hnb:(N+l2 == 0)=false:=by simp;omega
      clear hck
      go_wp2_with (first | (go_at_call_of 33 N;refine (Li.between_any _ _ _ _).mono ?_;rintro e w' ⟨rfl,hw⟩;subst w';rw [hv1]) | (go_at_call_of 33 G;refine (Li.between_any _ _ _ _).mono ?_;rintro e w' ⟨rfl,hw⟩;subst w';rw [hv2]))
      go_quiet (fail)
      go_wp2
      go_roundw
      case rel=>exact ⟨k+1,by omega,by go_num,by rw [HT.out],HR.out,_,by rw [HZ.out,World.drewN_drewN]⟩
      case measure=>simp [intOf];omega
   ·
    obtain rfl:k=ps.length:=by omega
    have ht:ps.take ps.length=ps:=List.take_length
    have HR:Hid (score ps l2=ssum l2 ps):=score_ok (scok_all h16 h2 (fun j hj=>HN.out j hj hj))
    rw [ht]
    go_wp2
    go_ret
    exact ⟨ret_int HR.out.symm,hBr⟩
end Go.Proofs.YtaojoamldoofpaaGreatDoor.Sw7
namespace Go.Proofs.YtaojoamldoofpaaGreatDoor.Sw7
open Go.RowKit
open Li (ret_bool ret_int below_none IsL btw)
open Tm (IsP pv pv_length)
open Se Sv
end Go.Proofs.YtaojoamldoofpaaGreatDoor.Sw7
namespace Go.Proofs.YtaojoamldoofpaaGreatDoor.Ai
open Go.RowKit
open Li
theorem one_cell (w:World) (T:TypeId) (x:Int):∀ j u,([Value.int .i64 x]:List Value)[j]? = some u→(w.alloc (.cells #[.int .i64 x] T)).cell? ((⟨w.heap.size,0,none⟩:Addr).add j)=some u:=by
 intro j u hj
 match j,hj with
 | 0,hj=>simp at hj;subst hj;simp [Addr.add]
theorem one_at {w:World} {T:TypeId} {x:Int} {H:Nat} (h:w.heap.size=H):∀ j u,([Value.int .i64 x]:List Value)[j]? = some u→(w.alloc (.cells #[.int .i64 x] T)).cell? ((⟨H,0,none⟩:Addr).add j)=some u:=by
 subst h;exact one_cell _ _ _
theorem one_one (x:Int):∀ u ∈ ([Value.int .i64 x]:List Value),u.oneCell'=true:=by
 intro u hu;simp at hu;subst hu;rfl
theorem own_snoc {w:World} {base n:Nat} {v:Value} {l:List Int} {x:Int} (hn:l.length=n) (h:w.ownsRow base 3 1 v (n+1) (iv l ++ [.int .i64 x])):Own w base v (l ++ [x]):=by
 subst hn
 unfold Own
 rw [← iv_append,List.length_append]
 exact h
theorem own_empty (w:World) (base:Nat) (hb:base≤w.heap.size):Own (w.alloc (.cells #[] 3)) base (.slice (some ⟨w.heap.size,0,none⟩) 0 0) [] :=
 World.ownsRow_made w #[] 0 hb (by unfold maxLen;omega) (by simp)
theorem news_i {w:World} {ad:Addr} {xs:List Int} (h:IsL w (some ad) xs):∀ j u,(iv xs)[j]? = some u→w.cell? (ad.add j)=some u:=by
 intro j u hj
 rcases h with rfl | ⟨b,off,e,_,hc⟩
 ·
  simp [iv] at hj
 ·
  cases e
  have hlt:j<xs.length:=by
   apply Classical.byContradiction
   intro hn
   rw [List.getElem?_eq_none (by rw [iv_length];omega)] at hj
   cases hj
  rw [iv_get xs j hlt] at hj
  rw [Go.WideShapes.add_plain,hc j hlt,hj]
theorem below_app {w wr w1:World} {B:Nat} {r:Option Nat} (hB:Below B w wr) (hs:B≤wr.heap.size) (hg:wr.grownBy w1 r) (hr:∀ k,r=some k→B≤k):Below B w w1 :=
 hB.trans ⟨hg.os,hg.tape,hg.output,hg.size,fun k hk=>hg.block k (by omega) (fun e=>by have:=hr k e.symm;omega)⟩
theorem own_cur {w w1:World} {b B:Nat} {v:Value} {xs:List Int} (h:Own w B v xs) (hg:w.grownBy w1 (some b)) (hb:b<B):Own w1 B v xs:=by
 refine h.kept hg ?_
 cases e:v.ownBlock with
 | none=>exact .inl rfl
 | some k=>exact .inr (by have:=(h.ge k e).1;simp;omega)
theorem grown_new {w w1 w2:World} {b:Nat} {r:Option Nat} (h:w.grownBy w1 (some b)) (h':w1.grownBy w2 r) (hr:∀ k,r=some k→w.heap.size≤k):w.grownBy w2 (some b) :=
 ⟨h'.os.trans h.os,h'.tape.trans h.tape,h'.output.trans h.output,Nat.le_trans h.size h'.size,fun k hk hne=>(h'.block k (Nat.lt_of_lt_of_le hk h.size) (fun e=>by have:=hr k e.symm;omega)).trans (h.block k hk hne)⟩
end Go.Proofs.YtaojoamldoofpaaGreatDoor.Ai
namespace Go.Proofs.YtaojoamldoofpaaGreatDoor.Sw7
open Go.RowKit
open Li (ret_bool ret_int below_none IsL btw)
open Tm (IsP pv pv_length)
open Se Sv
end Go.Proofs.YtaojoamldoofpaaGreatDoor.Sw7
namespace Go.Proofs.YtaojoamldoofpaaGreatDoor.Sw7
set_option maxRecDepth 100000
open Go.RowKit
open Li (ret_bool ret_int below_none IsL btw)
open Tm (IsP pv pv_length)
open Se Sv
theorem bump_set (cs:List (Int × Int)) (j:Nat) (g:Int) (hj:j<cs.length):bump cs (j:Int) g=cs.set j (cs[j].1+1,cs[j].2+g):=by
 unfold bump
 rw [Int.toNat_natCast]
 simp [List.getD_eq_getElem?_getD,hj]
set_option maxHeartbeats 4000000 in
theorem scellsof (w:World) (a0 a1 a2:Option Addr) (c0 c1 c2:Nat) (r:R) (h:Rd w a0 a1 a2 r) :
  Calls Tryz.prog 132 #[.agg #[.slice a0 r.x.length c0,.slice a1 r.g.length c1,.slice a2 r.ids.length c2,.int .i64 r.lv,.int .i64 r.l2]] w fun e w'=>∃ v,e=.returned v∧OwC w' (fun k=>w.heap.size≤k∧k<w'.heap.size) v (cells r)∧Below w.heap.size w w':=by
 obtain ⟨i0,hi,hz0,hz1,hz2⟩:=info_parts info_cell
 go_enter Tryz.func132,Tryz.ntmps132
 go_wp2_with fail
 obtain ⟨W,hW,hsz,hB,bx⟩:=new1 w [.slice a0 r.x.length c0,.slice a1 r.g.length c1,.slice a2 r.ids.length c2,.int .i64 r.lv,.int .i64 r.l2] 151
 rw [hW]
 clear hW hsz
 refine (srows _ _ _ _ _ _ _ r (h.below hB)).mono ?_
 rintro e w1 ⟨rfl,hb⟩
 have bx:=bx.below hb
 have hB:=hB.trans (hb.mono hB.size)
 clear hb
 have h:=h.below hB
 cases hv:rok r with
 | false =>
  have HR:Hid (cells r=[]):=cells_no hv
  go_wp2
  go_ret
  refine ⟨_,rfl,?_,hB.alloc hB.size _⟩
  rw [HR.out]
  exact ⟨_,_,rfl,.inl rfl⟩
 | true =>
  have HK:Hid (ROk r):=rok_iff.1 hv
  have HV:Hid (rok r=true):=hv
  obtain ⟨⟨s1,s2,s3,s4,s5⟩,hrow⟩:=rok_iff.1 hv
  clear hv hrow
  obtain ⟨q,hq⟩:∃ q:Nat,r.lv=(q:Int):=⟨r.lv.toNat,by omega⟩
  have HQ:Hid (r.lv.toNat=q):=by show _=_;omega
  rw [hq] at bx s4 ⊢
  have hq16:q≤16:=by omega
  have hq0:0<q:=by omega
  have HQE:Hid (r.lv=(q:Int)):=hq
  clear hq
  obtain ⟨_,⟨x0,x1,x2,x3,x4⟩,_⟩:=wr5 bx
  have hws:=hB.size
  go_wp2_with (at_make;refine wpList_make_full _ rfl _ _ 175 rfl w1.heap.size 194 i0 (.agg #[.int .i64 0,.int .i64 0]) 2 Tryz.underlying175 hi hz0 hz1 _ _ _ _ q rfl rfl (by omega) (by omega) (by rw [hz2];omega) (by unfold maxLen;omega) (Nat.le_refl _) ?_;intro w2 hown hgrow)
  rw [pv_made] at hown
  have bt:=wr_row hown
  have hb2:=below_none hgrow
  clear hown hgrow x0 x1 x2 x3 x4
  go_loopw [4] (fun i wr=>∃ k:Nat,k≤r.ids.length∧i=.int .i64 k∧Wr wr w1.heap.size 0 (pv (tally r.ids r.g (none0 q) k))∧Below w1.heap.size w1 wr) (fun i _=>r.ids.length-(intOf i).toNat)
  case atStart=>exact ⟨0,Nat.zero_le _,rfl,bt,hb2⟩
  case round =>
   obtain ⟨k,hk,rfl,ht,hb⟩:=hrel
   have hBr:=hB.trans (hb.mono hB.size)
   have HT:Hid (Wr wr w1.heap.size 0 (pv (tally r.ids r.g (none0 q) k))):=ht
   obtain ⟨hbx,⟨x0,x1,x2,x3,x4⟩,_⟩:=wr5 (bx.below hb)
   by_cases hlt:k<r.ids.length
   ·
    obtain ⟨xb,xo,gb,go,ib,io,a',c',rfl,rfl,rfl,⟨hl0,hl1,hl2⟩,_,_,hg,hi⟩:=rd_row (h.below hb) s2 s3 k (by omega)
    have hrw:=HK.out.2 k (by omega)
    obtain ⟨_,hgr,hid⟩:=hrw
    rw [HQE.out] at hid
    obtain ⟨j,hj⟩:∃ j:Nat,r.ids.getD k 0=(j:Int):=⟨(r.ids.getD k 0).toNat,by omega⟩
    rw [hj] at hi hid
    have hjl:j<(tally r.ids r.g (none0 q) k).length:=by rw [tally_length,none0_length];omega
    have HS:Hid (tally r.ids r.g (none0 q) (k+1)=(tally r.ids r.g (none0 q) k).set j ((tally r.ids r.g (none0 q) k)[j].1+1,(tally r.ids r.g (none0 q) k)[j].2+r.g.getD k 0)):=by
     show tally _ _ _ (k+1)=_
     rw [← bump_set _ _ _ hjl,← hj];rfl
    have hck:=tally_cok r.ids r.g q k (by omega) (fun i hi'=>(HK.out.2 i (by omega)).2.1) j hjl
    obtain ⟨⟨t0,t1⟩,f0,f1⟩:=ht.at2 j hjl
    obtain ⟨T,hTT⟩:∃ T,tally r.ids r.g (none0 q) k=T:=⟨_,rfl⟩
    have hlt':k<r.g.length:=by omega
    obtain ⟨G,hG⟩:∃ G,r.g.getD k 0=G:=⟨_,rfl⟩
    have HN2:Hid (∀ N M:Int,Wr ((wr.setCell ⟨w1.heap.size,j * 2,none⟩ (.int .i64 N)).setCell ⟨w1.heap.size,j * 2+1,none⟩ (.int .i64 M)) w1.heap.size 0 (pv ((tally r.ids r.g (none0 q) k).set j (N,M)))):=fun N M=>by have:=ht.set2 j hjl N M;rw [Nat.zero_add] at this;exact this
    obtain ⟨N,hN⟩:∃ N,(tally r.ids r.g (none0 q) k)[j].1=N:=⟨_,rfl⟩
    obtain ⟨M,hM⟩:∃ N,(tally r.ids r.g (none0 q) k)[j].2=N:=⟨_,rfl⟩
    rw [hG] at hg hgr HS
    rw [hN,hM] at HS
    simp only [cok] at hck
    rw [hN,hM] at hck
    rw [hN] at t0
    rw [hM] at t1
    rw [Nat.zero_add] at t0 t1 f0 f1
    obtain ⟨⟨n0,n1⟩,g0,g1⟩:=hck
    have hltb:w1.heap.size<wr.heap.size:=ht.1
    have ne0:¬ w.heap.size=w1.heap.size:=by have:=bx.1;omega
    have hjq:(j:Int)<q:=by omega
    have hne1:¬ ib=w1.heap.size:=by
     intro e
     rcases h.2.2 with h0 | ⟨b',o',e',hb',_⟩
     ·
      rw [h0] at hlt;simp at hlt
     ·
      cases e';omega
    have hne2:¬ gb=w1.heap.size:=by
     intro e
     rcases h.2.1 with h0 | ⟨b',o',e',hb',_⟩
     ·
      rw [h0] at hlt';simp at hlt'
     ·
      cases e';omega
    have hlti:(k:Int)<(r.ids.length:Int):=by omega
    have hltg:(k:Int)<(r.g.length:Int):=by omega
    clear hj hG hTT hN hM hjl ht
    go_wp2
    go_region
    go_wp2
    go_roundw
    case rel =>
     refine ⟨k+1,by omega,by go_num,?_,?_⟩
     ·
      rw [HS.out];exact HN2.out _ _
     ·
      exact ((hb.setCell (p:=⟨w1.heap.size,j * 2,none⟩) (Nat.le_refl _) _).setCell (p:=⟨w1.heap.size,j * 2+1,none⟩) (Nat.le_refl _) _).drew
    case measure=>simp [intOf];omega
   ·
    obtain rfl:k=r.ids.length:=by omega
    have HO:Hid (OwC wr (fun k=>w.heap.size≤k∧k<wr.heap.size) (.slice (some ⟨w1.heap.size,0,none⟩) q q) (cells r)):=by
     refine ⟨some ⟨w1.heap.size,0,none⟩,q,?_,.inr ⟨w1.heap.size,0,rfl,⟨by omega,HT.out.1⟩,?_⟩⟩
     ·
      rw [cells_ok HV.out,tally_length,none0_length,HQ.out]
     ·
      rw [cells_ok HV.out,HQ.out];exact HT.out
    clear ht HT
    go_wp2
    go_ret
    exact ⟨_,rfl,HO.out,hBr⟩
end Go.Proofs.YtaojoamldoofpaaGreatDoor.Sw7
namespace Go.Proofs.YtaojoamldoofpaaGreatDoor.Sw7
set_option maxRecDepth 100000
open Go.RowKit
open Li (ret_bool ret_int below_none IsL btw)
open Tm (IsP pv pv_length)
open Se Sv
theorem isl_pos {w:World} {a:Option Addr} {xs:List Int} (h:IsL w a xs) {k:Nat} (hk:k<xs.length):∃ b off,a=some ⟨b,off,none⟩∧b<w.heap.size∧∀ j (hj:j<xs.length),w.cell? ⟨b,off+j,none⟩=some (.int .i64 xs[j]):=by
 rcases h with h | ⟨b,off,e,hb,hc⟩
 ·
  rw [h] at hk;simp at hk
 ·
  exact ⟨b,off,e,hb,hc⟩
end Go.Proofs.YtaojoamldoofpaaGreatDoor.Sw7
namespace Go.Proofs.YtaojoamldoofpaaGreatDoor.Sw7
set_option maxRecDepth 100000
open Go.RowKit
open Li (ret_bool ret_int below_none IsL btw)
open Tm (IsP pv pv_length)
open Se Sv
end Go.Proofs.YtaojoamldoofpaaGreatDoor.Sw7
namespace Go.Proofs.YtaojoamldoofpaaGreatDoor.Sw7
open Go.RowKit
open Li (ret_bool ret_int below_none IsL btw iv)
open Tm (IsP pv pv_length)
open Se Sv
end Go.Proofs.YtaojoamldoofpaaGreatDoor.Sw7
namespace Go.Proofs.YtaojoamldoofpaaGreatDoor.Sw7
set_option maxRecDepth 100000
open Go.RowKit
open Li (ret_bool ret_int below_none IsL btw iv)
open Tm (IsP pv pv_length)
open Se Sv
def zr5':List Value:=[.slice none 0 0,.slice none 0 0,.slice none 0 0,.int .i64 0,.int .i64 0]
structure SP (w wx:World) (bo lo hi:Nat) (vx vg vi:Value) (lv2 l2 f b:Int) (cx:List Value) (V:Nat→Value) (bl:Nat→Nat) (xs:List (List Int)) (k:Nat) (ids gs:List Int) (RA:List Value):Prop where
 bv:Wr wx bo 0 [vx,vg,vi,.int .i64 lv2,.int .i64 l2]
 ox:wx.ownsRow (w.heap.size+3) 139 1 vx k cx
 oi:Li.Own wx (w.heap.size+3) vi ids
 og:OwI wx (fun q=>lo≤q∧q<hi) vg gs
 ba:Wr wx w.heap.size 0 RA
 bs:Wr wx (w.heap.size+1) 0 [.int .i64 f,.int .i64 b]
 br:Wr wx (w.heap.size+1+1) 0 zr5'
 bel:Below w.heap.size w wx
 ge:w.heap.size+3≤bo∧w.heap.size+3≤lo∧hi≤wx.heap.size
 bx:∀ q,vx.ownBlock=some q→¬ q=bo∧¬ (lo≤q∧q<hi)∧¬ vi.ownBlock=some q
 bi:∀ q,vi.ownBlock=some q→¬ q=bo∧¬ (lo≤q∧q<hi)
 bg:¬ (lo≤bo∧bo<hi)
 nest:∀ i (hi':i<xs.length),i<k→cx[i]? = some (V i)∧OwI wx (fun q=>q=bl i) (V i) xs[i]∧w.heap.size+3≤bl i∧bl i<wx.heap.size∧¬ bl i=bo∧¬ (lo≤bl i∧bl i<hi)∧¬ vx.ownBlock=some (bl i)∧¬ vi.ownBlock=some (bl i)
 inj:∀ i j,i<j→j<k→¬ bl i=bl j
section
variable {w wx wy:World} {bo lo hi:Nat} {vx vg vi:Value} {lv2 l2 f b:Int} {cx:List Value} {V:Nat→Value} {bl:Nat→Nat} {xs:List (List Int)} {k:Nat} {ids gs:List Int} {RA:List Value}
theorem row_below {base s n:Nat} {t:TypeId} {v:Value} {vs:List Value} (h:wx.ownsRow base t s v n vs) (hb:Below wx.heap.size wx wy):wy.ownsRow base t s v n vs :=
 World.ownsRow.kept (row:=none) h ⟨hb.os,hb.tape,hb.output,hb.size,fun k hk _=>hb.block k hk⟩ (by cases hv:v.ownBlock <;> simp)
theorem row_fr {base s n:Nat} {t:TypeId} {v:Value} {vs:List Value} {B:Nat→Prop} (h:wx.ownsRow base t s v n vs) (hf:Fr B wx wy) (hd:∀ q,v.ownBlock=some q→¬ B q):wy.ownsRow base t s v n vs:=by
 refine ⟨h.1,?_⟩
 rcases h.2 with h0 | ⟨g,cap,cur,e,hb,hh,r⟩
 ·
  exact .inl h0
 ·
  subst e
  exact .inr ⟨g,cap,cur,rfl,hb,by rw [hf.block g (World.ownsRow.lt h g rfl).2 (hd g rfl)];exact hh,r⟩
theorem SP.below (h:SP w wx bo lo hi vx vg vi lv2 l2 f b cx V bl xs k ids gs RA) (hb:Below wx.heap.size wx wy):SP w wy bo lo hi vx vg vi lv2 l2 f b cx V bl xs k ids gs RA :=
  ⟨h.bv.below hb, row_below h.ox hb, h.oi.below hb, h.og.below hb, h.ba.below hb, h.bs.below hb, h.br.below hb, h.bel.trans (hb.mono h.bel.size), ⟨h.ge.1, h.ge.2.1, Nat.le_trans h.ge.2.2 hb.size⟩, h.bx, h.bi, h.bg,
   fun i hi' hk=>by obtain ⟨n1,n2,n3,n4,n5⟩:=h.nest i hi' hk;exact ⟨n1,n2.below hb,n3,Nat.lt_of_lt_of_le n4 hb.size,n5⟩,h.inj⟩
theorem SP.addI {w3:World} {g cap:Nat} {x:Int} (h:SP w wx bo lo hi vx vg vi lv2 l2 f b cx V bl xs k ids gs RA) (hown:Li.Own w3 (w.heap.size+3) (.slice (some ⟨g,0,none⟩) (ids.length+1) cap) (ids ++ [x])) (hg:wx.grownBy w3 vi.ownBlock) (hp:vi.ownBlock=some g ∨ g=wx.heap.size) :
  SP w (w3.setCell ⟨bo,2,none⟩ (.slice (some ⟨g,0,none⟩) (ids.length+1) cap)) bo lo hi vx vg (.slice (some ⟨g,0,none⟩) (ids.length+1) cap) lv2 l2 f b cx V bl xs k (ids ++ [x]) gs RA:=by
 obtain ⟨g1,g2,g3⟩:=h.ge
 have hbo:=h.bv.1
 have hge:=h.oi.ge
 have hF1:Fr (fun q=>vi.ownBlock=some q) wx w3:=⟨hg.os,hg.tape,hg.output,hg.size,fun q hq hn=>hg.block q hq (fun e=>hn e.symm)⟩
 have hF2:Fr (fun q=>q=bo) w3 (w3.setCell ⟨bo,2,none⟩ (.slice (some ⟨g,0,none⟩) (ids.length+1) cap)):=fr_grown (Li.grown_set _ _ _ _) rfl
 have hnv:∀ q,q<w.heap.size+3→¬ vi.ownBlock=some q:=fun q hq e=>by have:=(hge q e).1;omega
 have hgb:¬ g=bo:=by
  rcases hp with e | e
  ·
   exact (h.bi g e).1
  ·
   omega
 refine ⟨?_,row_fr (row_fr h.ox hF1 (fun q e=>(h.bx q e).2.2)) hF2 (fun q e=>(h.bx q e).1),?_,(h.og.fr hF1 (fun q hq e=>(h.bi q e).2 hq)).fr hF2 (fun q hq e=>by subst e;exact h.bg hq),((h.ba.fr hF1 (hnv _ (by omega))).fr hF2 (by omega)),((h.bs.fr hF1 (hnv _ (by omega))).fr hF2 (by omega)),((h.br.fr hF1 (hnv _ (by omega))).fr hF2 (by omega)),?_,⟨g1,g2,Nat.le_trans g3 (Nat.le_trans hF1.size hF2.size)⟩,?_,?_,h.bg,?_,h.inj⟩
 ·
  have hb1:¬ vi.ownBlock=some bo:=fun e=>(h.bi bo e).1 rfl
  have:=(h.bv.fr hF1 hb1).set 2 (by simp) (.slice (some ⟨g,0,none⟩) (ids.length+1) cap)
  simpa using this
 ·
  exact row_fr hown hF2 (fun q e=>by simp [Value.ownBlock] at e;omega)
 ·
  exact (h.bel.trans (hF1.bel (fun q e=>by have:=(hge q e).1;omega) h.bel.size)).trans (hF2.bel (fun q e=>by omega) (Nat.le_trans h.bel.size hF1.size))
 ·
  intro q e
  obtain ⟨b1,b2,b3⟩:=h.bx q e
  refine ⟨b1,b2,fun e'=>?_⟩
  simp [Value.ownBlock] at e'
  subst e'
  rcases hp with e' | e'
  ·
   exact b3 e'
  ·
   have:=(World.ownsRow.lt h.ox g e).2;omega
 ·
  intro q e
  simp [Value.ownBlock] at e
  subst e
  rcases hp with e' | e'
  ·
   exact h.bi g e'
  ·
   exact ⟨hgb,by omega⟩
 ·
  intro i hi' hk
  obtain ⟨n1,n2,n3,n4,n5,n6,n7,n8⟩:=h.nest i hi' hk
  refine ⟨n1,(n2.fr hF1 (fun q e e'=>by subst e;exact n8 e')).fr hF2 (fun q e e'=>by omega),n3,Nat.lt_of_lt_of_le n4 (Nat.le_trans hF1.size hF2.size),n5,n6,n7,fun e=>?_⟩
  simp [Value.ownBlock] at e
  rcases hp with e' | e'
  ·
   exact n8 (by rw [e',e])
  ·
   omega
theorem SP.addX {w4 w5:World} {g cap g1:Nat} {v1:Value} (h:SP w wx bo lo hi vx vg vi lv2 l2 f b cx V bl xs k ids gs RA) (hk:k<xs.length) (hcl:cx.length=k) (hb:Below wx.heap.size wx w4) (o1:OwI w4 (fun q=>q=g1) v1 xs[k]) (hg1:wx.heap.size≤g1) (hg1':g1<w4.heap.size)
  (hown:w5.ownsRow (w.heap.size+3) 139 1 (.slice (some ⟨g,0,none⟩) (k+1) cap) (k+1) (cx ++ [v1])) (hg:w4.grownBy w5 vx.ownBlock) (hp:vx.ownBlock=some g ∨ g=w4.heap.size) :
  SP w (w5.setCell ⟨bo,0,none⟩ (.slice (some ⟨g,0,none⟩) (k+1) cap)) bo lo hi (.slice (some ⟨g,0,none⟩) (k+1) cap) vg vi lv2 l2 f b (cx ++ [v1]) (fun i=>if i=k then v1 else V i) (fun i=>if i=k then g1 else bl i) xs (k+1) ids gs RA:=by
 have h4:=h.below hb
 obtain ⟨e1,e2,e3⟩:=h4.ge
 have e3':=h.ge.2.2
 have hbo:=h.bv.1
 have hge:=World.ownsRow.lt h.ox
 have hF1:Fr (fun q=>vx.ownBlock=some q) w4 w5:=⟨hg.os,hg.tape,hg.output,hg.size,fun q hq hn=>hg.block q hq (fun e=>hn e.symm)⟩
 have hF2:Fr (fun q=>q=bo) w5 (w5.setCell ⟨bo,0,none⟩ (.slice (some ⟨g,0,none⟩) (k+1) cap)):=fr_grown (Li.grown_set _ _ _ _) rfl
 have hnv:∀ q,q<w.heap.size+3→¬ vx.ownBlock=some q:=fun q hq e=>by have:=(hge q e).1;omega
 have hsz:=hb.size
 have hgb:¬ g=bo:=by
  rcases hp with e | e
  ·
   exact (h.bx g e).1
  ·
   omega
 have hg1v:¬ vx.ownBlock=some g1:=fun e=>by have:=(hge g1 e).2;omega
 have hg1i:¬ vi.ownBlock=some g1:=fun e=>by have:=(h.oi.ge g1 e).2;omega
 have hgg:¬ g=g1:=by
  rcases hp with e | e
  ·
   have:=(hge g e).2;omega
  ·
   omega
 refine ⟨?_,?_,row_fr (row_fr h4.oi hF1 (fun q e e'=>(h.bx q e').2.2 e)) hF2 (fun q e=>(h.bi q e).1),(h4.og.fr hF1 (fun q hq e=>(h.bx q e).2.1 hq)).fr hF2 (fun q hq e=>by subst e;exact h.bg hq),((h4.ba.fr hF1 (hnv _ (by omega))).fr hF2 (by omega)),((h4.bs.fr hF1 (hnv _ (by omega))).fr hF2 (by omega)),((h4.br.fr hF1 (hnv _ (by omega))).fr hF2 (by omega)),?_,⟨e1,e2,Nat.le_trans e3 (Nat.le_trans hF1.size hF2.size)⟩,?_,h.bi,h.bg,?_,?_⟩
 ·
  have hb1:¬ vx.ownBlock=some bo:=fun e=>(h.bx bo e).1 rfl
  have:=(h4.bv.fr hF1 hb1).set 0 (by simp) (.slice (some ⟨g,0,none⟩) (k+1) cap)
  simpa using this
 ·
  exact row_fr hown hF2 (fun q e=>by simp [Value.ownBlock] at e;omega)
 ·
  exact (h4.bel.trans (hF1.bel (fun q e=>by have:=(hge q e).1;omega) h4.bel.size)).trans (hF2.bel (fun q e=>by omega) (Nat.le_trans h4.bel.size hF1.size))
 ·
  intro q e
  simp [Value.ownBlock] at e
  subst e
  rcases hp with e' | e'
  ·
   exact h.bx g e'
  ·
   refine ⟨hgb,by omega,fun e''=>?_⟩
   have:=(h.oi.ge g e'').2;omega
 ·
  intro i hi' hik
  by_cases e:i=k
  ·
   subst e
   simp only [if_true]
   refine ⟨by rw [← hcl];simp,(o1.fr hF1 (fun q e e'=>by subst e;exact hg1v e')).fr hF2 (fun q e e'=>by omega),by omega,Nat.lt_of_lt_of_le hg1' (Nat.le_trans hF1.size hF2.size),by omega,by omega,fun e=>?_,hg1i⟩
   simp [Value.ownBlock] at e;omega
  ·
   obtain ⟨n1,n2,n3,n4,n5,n6,n7,n8⟩:=h4.nest i hi' (by omega)
   have n4':=(h.nest i hi' (by omega)).2.2.2.1
   simp only [e,if_false]
   refine ⟨by rw [List.getElem?_append_left (by omega)];exact n1,(n2.fr hF1 (fun q e e'=>by subst e;exact n7 e')).fr hF2 (fun q e e'=>by omega),n3,Nat.lt_of_lt_of_le n4 (Nat.le_trans hF1.size hF2.size),n5,n6,fun e'=>?_,n8⟩
   simp [Value.ownBlock] at e'
   rcases hp with e'' | e''
   ·
    exact n7 (by rw [e'',e'])
   ·
    omega
 ·
  intro i j hij hjk
  by_cases e:j=k
  ·
   subst e
   simp only [show ¬ i=j by omega,if_false,if_true]
   have:=(h.nest i (by omega) hij).2.2.2.1
   omega
  ·
   simp only [show ¬ i=k by omega,e,if_false]
   exact h.inj i j hij (by omega)
theorem SP.own (h:SP w wx bo lo hi vx vg vi lv2 l2 f b cx V bl xs xs.length ids gs RA) (hcl:cx.length=xs.length) (lv' l2':Int):OwR wx (fun q=>w.heap.size+3≤q∧q<wx.heap.size) vx vg vi ⟨xs,gs,ids,lv',l2'⟩:=by
 obtain ⟨g1,g2,g3⟩:=h.ge
 have ho:=h.ox
 have o0:OwV wx (fun q=>(vx.ownBlock=some q ∨ ∃ i,i<xs.length∧q=bl i)) vx xs:=by
  rcases h.ox.2 with ⟨e,h0⟩ | ⟨g,cap,cur,e,hb,hh,r⟩
  ·
   obtain rfl:=List.length_eq_zero_iff.1 h0
   exact ⟨none,0,e,.inl rfl⟩
  ·
   subst e
   refine ⟨_,cap,rfl,.inr ⟨g,0,V,bl,rfl,.inl rfl,(World.ownsRow.lt ho g rfl).2,fun j hj=>?_,fun j hj=>⟨.inr ⟨j,hj,rfl⟩,fun e=>(h.nest j hj hj).2.2.2.2.2.2.1 (by rw [e];rfl)⟩,fun i j hi' hj hij=>?_⟩⟩
   ·
    obtain ⟨n1,n2,_⟩:=h.nest j hj hj
    exact ⟨by rw [Nat.zero_add,World.ownsRow.cellAt ho j (by omega),n1],n2⟩
   ·
    rcases Nat.lt_or_gt_of_ne hij with h1 | h1
    ·
     exact h.inj i j h1 hj
    ·
     exact fun e=>h.inj j i h1 hi' e.symm
 have o2:OwI wx (fun q=>vi.ownBlock=some q) vi ids:=by
  rcases h.oi.2 with ⟨e,h0⟩ | ⟨g,cap,cur,e,hb,hh,r⟩
  ·
   obtain rfl:=List.length_eq_zero_iff.1 h0
   exact ⟨none,0,e,.inl rfl⟩
  ·
   have:=h.oi
   subst e
   exact owi_of this rfl rfl
 refine ⟨_,_,_,o0,h.og,o2,fun q hq=>?_,fun q hq=>⟨⟨by omega,by omega⟩,fun e=>(h.bi q e).2 hq⟩,fun q hq=>⟨(h.oi.ge q hq).1,(h.oi.ge q hq).2⟩⟩
 rcases hq with e | ⟨i,hi',e⟩
 ·
  exact ⟨⟨(World.ownsRow.lt ho q e).1,(World.ownsRow.lt ho q e).2⟩,(h.bx q e).2.1,(h.bx q e).2.2⟩
 ·
  subst e
  obtain ⟨n1,n2,n3,n4,n5,n6,n7,n8⟩:=h.nest i hi' hi'
  exact ⟨⟨n3,n4⟩,n6,n8⟩
end
end Go.Proofs.YtaojoamldoofpaaGreatDoor.Sw7
namespace Go.Proofs.YtaojoamldoofpaaGreatDoor.Hd
variable {P:Program} {ops:Array Oper} {Q:Exit→Act→World→Prop} {md:Region.Mode} {S:World→Prop} {d:Nat}
def After (P:Program) (md:Region.Mode) (ops:Array Oper) (Q:Exit→Act→World→Prop) (S:World→Prop) (d:Nat):Nat→Array Bool→Act→World→Prop
 | 0,l,a,w=>Region.ready md ops l=[]∧Q .normal a w
 | n+1,l,a,w=>(Region.ready md ops l=[]→Q .normal a w)∧∀ j ∈ Region.ready md ops l,wpOp P ops Q j (fun a' w'=>((l.setIfInBounds j true).getD d true=false→S w')∧After P md ops Q S d n (l.setIfInBounds j true) a' w') a w
theorem After.any:∀ {n:Nat} {l:Array Bool} {a:Act} {w:World},After P md ops Q S d n l a w→wpAny P md ops Q n l a w
 | 0,_,_,_,h=>h
 | _+1,_,_,_,h=>⟨h.1,fun j hj=>wpOp_mono (fun _ _ h'=>h'.2.any) (h.2 j hj)⟩
theorem not_waiting {i j:Nat} {l:Array Bool} {oj:Oper} (hu:l.getD i true=false) (hj:j ∈ Region.ready md ops l) (ho:ops[j]? = some oj) (e:Edge) (he:e ∈ oj.after) (hb:Region.binds md e=true):e.on≠i:=by
 intro heq
 obtain ⟨_,o',ho',hall⟩:=mem_ready.1 hj
 obtain rfl:oj=o':=Option.some.inj (ho.symm.trans ho')
 have h1:=hall e he hb
 rw [heq,Array.getD_eq_getD_getElem?] at h1
 rw [Array.getD_eq_getD_getElem?] at hu
 cases hl:l[i]? with
 | none=>rw [hl] at h1;simp at h1
 | some x=>rw [hl] at h1 hu;simp at h1 hu;rw [h1] at hu;cases hu
def Waits (md:Region.Mode) (ops:Array Oper) (d i:Nat):Bool:=match ops[d]? with | some o=>o.after.any fun e=>Region.binds md e && e.on == i | none=>false
theorem waits_ne {i j:Nat} {l:Array Bool} (hw:Waits md ops d i=true) (hu:l.getD i true=false) (hj:j ∈ Region.ready md ops l):j≠d:=by
 rintro rfl
 unfold Waits at hw
 split at hw
 ·
  rename_i o ho
  rw [Array.any_eq_true'] at hw
  obtain ⟨e,he,hx⟩:=hw
  simp at hx
  exact not_waiting hu hj ho e he hx.1 hx.2
 ·
  cases hw
def Clear (md:Region.Mode) (ops:Array Oper) (oi:Oper) (i:Nat) (l:Array Bool):Prop:=∀ j oj,ops[j]? = some oj→j≠i→l.getD j true=false→(∀ e ∈ oj.after,Region.binds md e=true→e.on≠i)→oi.apart ops oj=true
theorem Clear.set {oi:Oper} {i j:Nat} {l:Array Bool} (h:Clear md ops oi i l) (hj:l.getD j true=false):Clear md ops oi i (l.setIfInBounds j true):=by
 intro k ok hk hki hku hno
 refine h k ok hk hki ?_ hno
 by_cases ejk:j=k
 ·
  subst ejk;exact hj
 ·
  rwa [getD_set_ne true ejk] at hku
theorem After.take_first {i:Nat} {oi:Oper} {v:Value} (hi:ops[i]? = some oi) (hs:Region.noSelect ops=true) (hQ:∀ c a w,Q (.panic c) (a.put oi.dst v) w→Q (.panic c) a w) (hw:Waits md ops d i=true) :
  ∀ (n:Nat) {l:Array Bool} {a:Act} {w:World},Clear md ops oi i l→i ∈ Region.ready md ops l→YieldsIf P ops S oi v a→l.getD d true=false→S w→After P md ops Q S d n (l.setIfInBounds i true) (a.put oi.dst v) w→After P md ops Q S d (n+1) l a w:=by
 intro n
 induction n with
 | zero =>
  intro l a w _ hr hy _ hS h
  constructor
  ·
   intro h0;rw [h0] at hr;exact absurd hr (by simp)
  ·
   intro j hj
   have e:j=i:=Classical.byContradiction fun hne=>by
    have h1:=ready_mono hj hne
    rw [h.1] at h1
    exact absurd h1 (by simp)
   subst e
   exact hy.wpOp hi hS ⟨fun _=>hS,h⟩
 | succ n ih =>
  intro l a w hf hr hy hdu hS h
  constructor
  ·
   intro h0;rw [h0] at hr;exact absurd hr (by simp)
  ·
   intro j hj
   by_cases e:j=i
   ·
    subst e
    exact hy.wpOp hi hS ⟨fun _=>hS,h⟩
   ·
    have hu:=(mem_ready.1 hr).1
    have hnd:j≠d:=waits_ne hw hu hj
    obtain ⟨hju,oj,hoj,_⟩:=mem_ready.1 hj
    have hap:=hf j oj hoj e hju (fun e' he' hb'=>not_waiting hu hj hoj e' he' hb')
    have hdj:(l.setIfInBounds j true).getD d true=false:=by rw [getD_set_ne true hnd];exact hdu
    refine wpOp_mono ?_ (wpOp_putIf hoj hap (fun cs b=>Region.noSelect_spec hs i oi cs b hi) (fun cs b=>Region.noSelect_spec hs j oj cs b hoj) hQ hy (h.2 j (ready_mono hj e)))
    rintro a' w' ⟨hy',hS',h'⟩
    rw [Array.setIfInBounds_comm _ _ (Ne.symm e)] at hS' h'
    have hid:i≠d:=by
     rintro rfl
     exact waits_ne hw hu hr rfl
    have hSw:S w':=hS' (by rw [getD_set_ne true hid];exact hdj)
    exact ⟨fun _=>hSw,ih (hf.set hju) (ready_mono hr (Ne.symm e)) hy' hdj hSw h'⟩
theorem After.pure_first {i:Nat} {oi:Oper} {v:Value} (hi:ops[i]? = some oi) (hs:Region.noSelect ops=true) (hQ:∀ c a w,Q (.panic c) (a.put oi.dst v) w→Q (.panic c) a w) (hid:i≠d) :
  ∀ (n:Nat) {l:Array Bool} {a:Act} {w:World},Clear md ops oi i l→i ∈ Region.ready md ops l→Yields P ops oi v a→(l.getD d true=false→S w)→After P md ops Q S d n (l.setIfInBounds i true) (a.put oi.dst v) w→After P md ops Q S d (n+1) l a w:=by
 intro n
 induction n with
 | zero =>
  intro l a w _ hr hy hS h
  constructor
  ·
   intro h0;rw [h0] at hr;exact absurd hr (by simp)
  ·
   intro j hj
   have e:j=i:=Classical.byContradiction fun hne=>by
    have h1:=ready_mono hj hne
    rw [h.1] at h1
    exact absurd h1 (by simp)
   subst e
   exact hy.wpOp hi ⟨fun h0=>hS (by rwa [getD_set_ne true hid] at h0),h⟩
 | succ n ih =>
  intro l a w hf hr hy hS h
  constructor
  ·
   intro h0;rw [h0] at hr;exact absurd hr (by simp)
  ·
   intro j hj
   by_cases e:j=i
   ·
    subst e
    exact hy.wpOp hi ⟨fun h0=>hS (by rwa [getD_set_ne true hid] at h0),h⟩
   ·
    have hu:=(mem_ready.1 hr).1
    obtain ⟨hju,oj,hoj,_⟩:=mem_ready.1 hj
    have hap:=hf j oj hoj e hju (fun e' he' hb'=>not_waiting hu hj hoj e' he' hb')
    refine wpOp_mono ?_ (wpOp_put hoj hap (fun cs b=>Region.noSelect_spec hs i oi cs b hi) (fun cs b=>Region.noSelect_spec hs j oj cs b hoj) hQ hy (h.2 j (ready_mono hj e)))
    rintro a' w' ⟨hy',hS',h'⟩
    rw [Array.setIfInBounds_comm _ _ (Ne.symm e)] at hS' h'
    have hSw:(l.setIfInBounds j true).getD d true=false→S w':=fun h0=>hS' (by rw [getD_set_ne true hid];exact h0)
    exact ⟨hSw,ih (hf.set hju) (ready_mono hr (Ne.symm e)) hy' hSw h'⟩
theorem After.take {i:Nat} {oi:Oper} (v:Value) {n:Nat} {l:Array Bool} {a:Act} {w:World} (hi:ops[i]? = some oi) (hs:Region.noSelect ops=true) (hw:Waits md ops d i=true) (hf:Region.free md ops l i=true) (hr:(Region.ready md ops l).contains i=true) (hdu:l.getD d true=false)
  (hQ:∀ c a w,Q (.panic c) (a.put oi.dst v) w→Q (.panic c) a w) (hS:S w) (hy:YieldsIf P ops S oi v a) (h:After P md ops Q S d n (l.setIfInBounds i true) (a.put oi.dst v) w):After P md ops Q S d (n+1) l a w :=
 After.take_first hi hs hQ hw n (Region.free_spec hi hf) (by simpa using hr) hy hdu hS h
theorem After.pure {i:Nat} {oi:Oper} (v:Value) {n:Nat} {l:Array Bool} {a:Act} {w:World} (hi:ops[i]? = some oi) (hs:Region.noSelect ops=true) (hid:i≠d) (hf:Region.free md ops l i=true) (hr:(Region.ready md ops l).contains i=true)
  (hQ:∀ c a w,Q (.panic c) (a.put oi.dst v) w→Q (.panic c) a w) (hS:S w) (hy:Yields P ops oi v a) (h:After P md ops Q S d n (l.setIfInBounds i true) (a.put oi.dst v) w):After P md ops Q S d (n+1) l a w :=
 After.pure_first hi hs hQ hid n (Region.free_spec hi hf) (by simpa using hr) hy (fun _=>hS) h
theorem After.one {i:Nat} {o:Oper} {n:Nat} {l:Array Bool} {a:Act} {w:World} (hr:Region.ready md ops l=[i]) (hi:ops[i]? = some o) (hg:o.guard=none)
  (h:∀ K:Act→World→Prop,(∀ a' w',((l.setIfInBounds i true).getD d true=false→S w')→After P md ops Q S d n (l.setIfInBounds i true) a' w'→K a' w')→o.wp P a w K Q):After P md ops Q S d (n+1) l a w:=by
 refine ⟨fun h0=>(by rw [hr] at h0;simp at h0),fun j hj=>?_⟩
 rw [hr] at hj
 obtain rfl:=List.mem_singleton.1 hj
 unfold wpOp
 rw [hi]
 have hw:Region.wanted o (yielded ops a.tmps)=true:=by simp [Region.wanted,hg]
 simp only [hw,if_true]
 exact .inl (h _ fun _ _ h1 h2=>⟨h1,h2⟩)
theorem After.two {i j:Nat} {oi oj:Oper} {n:Nat} {l:Array Bool} {a:Act} {w:World} (hr:Region.ready md ops l=[i,j]) (hi:ops[i]? = some oi) (hj:ops[j]? = some oj) (hg:oi.guard=none) (hg':oj.guard=none)
  (h:∀ K:Act→World→Prop,(∀ a' w',((l.setIfInBounds i true).getD d true=false→S w')→After P md ops Q S d n (l.setIfInBounds i true) a' w'→K a' w')→oi.wp P a w K Q)
  (h':∀ K:Act→World→Prop,(∀ a' w',((l.setIfInBounds j true).getD d true=false→S w')→After P md ops Q S d n (l.setIfInBounds j true) a' w'→K a' w')→oj.wp P a w K Q):After P md ops Q S d (n+1) l a w:=by
 refine ⟨fun h0=>(by rw [hr] at h0;simp at h0),fun k hk=>?_⟩
 rw [hr] at hk
 have hwi:Region.wanted oi (yielded ops a.tmps)=true:=by simp [Region.wanted,hg]
 have hwj:Region.wanted oj (yielded ops a.tmps)=true:=by simp [Region.wanted,hg']
 rcases List.mem_cons.1 hk with rfl | hk
 ·
  unfold wpOp;rw [hi];simp only [hwi,if_true];exact .inl (h _ fun _ _ h1 h2=>⟨h1,h2⟩)
 ·
  obtain rfl:=List.mem_singleton.1 hk
  unfold wpOp;rw [hj];simp only [hwj,if_true];exact .inl (h' _ fun _ _ h1 h2=>⟨h1,h2⟩)
theorem After.done {l:Array Bool} {a:Act} {w:World} (hr:Region.ready md ops l=[]) (h:Q .normal a w):∀ n,After P md ops Q S d n l a w
 | 0=>⟨hr,h⟩
 | _+1=>⟨fun _=>h,by rw [hr];intro j hj;cases hj⟩
theorem start {id:Nat} {a:Act} {w:World} (S:World→Prop) (d:Nat) (hm:P.follows .mixedOrders=true) (h:After P .any ops Q S d ops.size (Array.replicate ops.size false) a w.drew):(Code.region id ops true).wp P Q a w :=
 wp_region_any hm h.any
end Go.Proofs.YtaojoamldoofpaaGreatDoor.Hd
