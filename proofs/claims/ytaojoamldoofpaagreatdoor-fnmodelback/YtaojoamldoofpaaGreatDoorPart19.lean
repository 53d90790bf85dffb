/-
  Contracts that the proof leans on, put together in the order in which they build.
-/
import Derived.Test.YtaojoamldoofpaaGreatDoorPart18
import Derived.Test.YtaojoamldoofpaaGreatDoorPart7
import Derived.Deep.RegionLaw
import Derived.Deep.RegionWith
import Derived.Test.YtaojoamldoofpaaGreatDoorPart16
import Derived.Test.YtaojoamldoofpaaGreatDoorPart17
import Derived.Deep.Cut
import Derived.Deep.CutRange
import Derived.Test.YtaojoamldoofpaaGreatDoorPart8
import Derived.Test.YtaojoamldoofpaaGreatDoorPart6
set_option linter.unusedVariables false
namespace Go.Proofs.YtaojoamldoofpaaGreatDoor.Df
open Go.RowKit
open Li (iv ret_bool ret_int below_none)
open Ai Tr Tm
theorem wrapB (n:Int) : -9223372036854775808≤IntKind.i64.wrap n∧IntKind.i64.wrap n≤9223372036854775807:=by
 simp [IntKind.wrap,IntKind.bits,IntKind.signed];omega
theorem tabI (l:List Value) (lo hi:Int) (hall:l.all (Cu.okv lo hi)=true) (y:Int) (h0:0≤y) (h1:y<(l.length:Int)):∃ v:Int,(∀ h,l[y.toNat]'h=.int .i64 v)∧lo≤v∧v≤hi:=by
 have hlt:y.toNat<l.length:=by omega
 obtain ⟨v,hv,hb⟩:=Cu.okv_int ((List.all_eq_true.1 hall) l[y.toNat] (by simp))
 exact ⟨v,fun _=>hv,hb⟩
theorem kept {w w':World} {b:Nat} (h:w.grownBy w' (some b)):∀ blk o,b<blk→blk<w.heap.size→w'.cell? ⟨blk,o,none⟩=w.cell? ⟨blk,o,none⟩ :=
 fun blk o h1 h2=>World.cell?_of_block (a:=⟨blk,o,none⟩) (h.block blk h2 (fun e=>by cases e;omega))
structure TS (w wr:World) (b:Nat) (K:Int) (v0 v1:Value) (t:T):Prop where
 bx:Box2 wr (w.heap.size+1) v0 v1
 br:Box2 wr w.heap.size (.slice none 0 0) (.slice none 0 0)
 o0:OwnP wr (w.heap.size+2) v0 t.sp
 o1:Li.Own wr (w.heap.size+2) v1 t.lv
 ap:Apt v0 v1
 gr:w.grownBy wr (some b)
 cu:Cu.Cur wr b K
theorem ownP_cur {w w1:World} {b B:Nat} {v:Value} {xs:List (Int × Int)} (h:OwnP w B v xs) (hg:w.grownBy w1 (some b)) (hb:b<B):OwnP w1 B v xs:=ownP_off h hg hb
theorem TS.cur {w wr w1:World} {b:Nat} {K K':Int} {v0 v1:Value} {t:T} (h:TS w wr b K v0 v1 t) (hb:b<w.heap.size) (hg:wr.grownBy w1 (some b)) (hc:Cu.Cur w1 b K'):TS w w1 b K' v0 v1 t :=
 ⟨h.bx.keptAt hg.size (hg.block _ h.bx.1 (by simp;omega)),h.br.keptAt hg.size (hg.block _ h.br.1 (by simp;omega)),ownP_cur h.o0 hg (by omega),own_cur h.o1 hg (by omega),h.ap,Cu.grown_trans h.gr hg,hc⟩
theorem TS.alloc {w wr:World} {b:Nat} {K:Int} {v0 v1:Value} {t:T} (h:TS w wr b K v0 v1 t) (o:Obj):TS w (wr.alloc o) b K v0 v1 t :=
 ⟨h.bx.alloc o,h.br.alloc o,World.ownsRow.alloc h.o0 o,World.ownsRow.alloc h.o1 o,h.ap,Cu.grown_alloc h.gr o,h.cu.alloc o⟩
theorem TS.drew {w wr:World} {b:Nat} {K:Int} {v0 v1:Value} {t:T} (h:TS w wr b K v0 v1 t):TS w wr.drew b K v0 v1 t :=
 ⟨h.bx,h.br,h.o0,h.o1,h.ap,Cu.grown_drew h.gr,h.cu.drew⟩
theorem TS.mono {w wr:World} {b:Nat} {K K':Int} {v0 v1:Value} {t:T} (h:TS w wr b K v0 v1 t) (hK:K≤K'):TS w wr b K' v0 v1 t :=
 ⟨h.bx,h.br,h.o0,h.o1,h.ap,h.gr,h.cu.mono hK⟩
theorem TS.put0 {w wr w1:World} {b g n cap:Nat} {K:Int} {v0 v1:Value} {t:T} {ps:List (Int × Int)} (h:TS w wr b K v0 v1 t) (hb:b<w.heap.size) (hg:wr.grownBy w1 v0.ownBlock) (ho:OwnP w1 (w.heap.size+2) (.slice (some ⟨g,0,none⟩) n cap) ps) (hpos:v0.ownBlock=some g ∨ g=wr.heap.size) :
  TS w (w1.setCell ⟨w.heap.size+1,0,none⟩ (.slice (some ⟨g,0,none⟩) n cap)) b K (.slice (some ⟨g,0,none⟩) n cap) v1 ⟨ps,t.lv⟩:=by
 have hge:=h.o0.ge
 have hg1:=h.o1.ge
 have hgg:=ho.ge g rfl
 have hbx:=h.bx.keptAt hg.size (hg.block _ h.bx.1 (fun e=>by have:=(hge _ e.symm).1;omega))
 have hbr:=h.br.keptAt hg.size (hg.block _ h.br.1 (fun e=>by have:=(hge _ e.symm).1;omega))
 have ho1:=h.o1.kept hg h.ap.1
 refine ⟨hbx.set0 _,hbr.setOther (by omega),ownP_off ho (Li.grown_set _ _ _ _) (by omega),own_off ho1 (Li.grown_set _ _ _ _) (by omega),apt_of (fun k e e'=>?_),?_,?_⟩
 ·
  simp [Value.ownBlock] at e
  subst e
  rcases hpos with h1 | h1
  ·
   have:=h.ap.1;rw [h1,e'] at this;simp at this
  ·
   have:=(hg1 _ e').2;omega
 ·
  refine grown_new (grown_new h.gr hg (fun k hk=>by have:=(hge k hk).1;omega)) (Li.grown_set w1 (w.heap.size+1) 0 _) (fun k hk=>by cases hk;omega)
 ·
  refine cur_new (cur_new h.cu hg (fun k hk=>by have:=(hge k hk).1;omega)) (Li.grown_set w1 (w.heap.size+1) 0 _) (fun k hk=>by cases hk;omega)
theorem TS.put1 {w wr w1:World} {b g n cap:Nat} {K:Int} {v0 v1:Value} {t:T} {ps:List Int} (h:TS w wr b K v0 v1 t) (hb:b<w.heap.size) (hg:wr.grownBy w1 v1.ownBlock) (ho:Li.Own w1 (w.heap.size+2) (.slice (some ⟨g,0,none⟩) n cap) ps) (hpos:v1.ownBlock=some g ∨ g=wr.heap.size) :
  TS w (w1.setCell ⟨w.heap.size+1,1,none⟩ (.slice (some ⟨g,0,none⟩) n cap)) b K v0 (.slice (some ⟨g,0,none⟩) n cap) ⟨t.sp,ps⟩:=by
 have hge:=h.o1.ge
 have hg1:=h.o0.ge
 have hgg:=ho.ge g rfl
 have hbx:=h.bx.keptAt hg.size (hg.block _ h.bx.1 (fun e=>by have:=(hge _ e.symm).1;omega))
 have hbr:=h.br.keptAt hg.size (hg.block _ h.br.1 (fun e=>by have:=(hge _ e.symm).1;omega))
 have ho0:=h.o0.kept hg h.ap.2
 refine ⟨hbx.set1 _,hbr.setOther (by omega),ownP_off ho0 (Li.grown_set _ _ _ _) (by omega),own_off ho (Li.grown_set _ _ _ _) (by omega),apt_of (fun k e e'=>?_),?_,?_⟩
 ·
  simp [Value.ownBlock] at e'
  subst e'
  rcases hpos with h1 | h1
  ·
   have:=h.ap.2;rw [h1,e] at this;simp at this
  ·
   have:=(hg1 _ e).2;omega
 ·
  refine grown_new (grown_new h.gr hg (fun k hk=>by have:=(hge k hk).1;omega)) (Li.grown_set w1 (w.heap.size+1) 1 _) (fun k hk=>by cases hk;omega)
 ·
  refine cur_new (cur_new h.cu hg (fun k hk=>by have:=(hge k hk).1;omega)) (Li.grown_set w1 (w.heap.size+1) 1 _) (fun k hk=>by cases hk;omega)
theorem TS.done {w wr:World} {b:Nat} {K:Int} {v0 v1:Value} {t:T} (h:TS w wr b K v0 v1 t) (hb:b<w.heap.size) :
  OwnP ((wr.setCell ⟨w.heap.size,0,none⟩ v0).setCell ⟨w.heap.size,1,none⟩ v1) w.heap.size v0 t.sp∧Li.Own ((wr.setCell ⟨w.heap.size,0,none⟩ v0).setCell ⟨w.heap.size,1,none⟩ v1) w.heap.size v1 t.lv∧w.grownBy ((wr.setCell ⟨w.heap.size,0,none⟩ v0).setCell ⟨w.heap.size,1,none⟩ v1) (some b)∧Cu.Cur ((wr.setCell ⟨w.heap.size,0,none⟩ v0).setCell ⟨w.heap.size,1,none⟩ v1) b K:=by
 refine ⟨(ownP_off (ownP_off h.o0 (Li.grown_set wr w.heap.size 0 v0) (by omega)) (Li.grown_set (wr.setCell ⟨w.heap.size,0,none⟩ v0) w.heap.size 1 v1) (by omega)).mono (by omega),(own_off (own_off h.o1 (Li.grown_set wr w.heap.size 0 v0) (by omega)) (Li.grown_set (wr.setCell ⟨w.heap.size,0,none⟩ v0) w.heap.size 1 v1) (by omega)).mono (by omega),?_,?_⟩
 ·
  exact grown_new (grown_new h.gr (Li.grown_set wr w.heap.size 0 v0) (fun k hk=>by cases hk;omega)) (Li.grown_set (wr.setCell ⟨w.heap.size,0,none⟩ v0) w.heap.size 1 v1) (fun k hk=>by cases hk;omega)
 ·
  exact cur_new (cur_new h.cu (Li.grown_set wr w.heap.size 0 v0) (fun k hk=>by cases hk;omega)) (Li.grown_set (wr.setCell ⟨w.heap.size,0,none⟩ v0) w.heap.size 1 v1) (fun k hk=>by cases hk;omega)
theorem TS.set1 {w wr:World} {b g1 n c:Nat} {K:Int} {v0:Value} {t:T} (h:TS w wr b K v0 (.slice (some ⟨g1,0,none⟩) n c) t) (hb:b<w.heap.size) (hn:t.lv.length=n) (hg:w.heap.size+2≤g1) (x:Int) :
  TS w (wr.setCell ⟨g1,0,none⟩ (.int .i64 x)) b K v0 (.slice (some ⟨g1,0,none⟩) n c) ⟨t.sp,t.lv.set 0 x⟩:=by
 have hgr:=Li.grown_set wr g1 0 (.int .i64 x)
 refine ⟨h.bx.setOther (by omega),h.br.setOther (by omega),h.o0.kept hgr h.ap.2,h.o1.set hn 0 x,h.ap,grown_new h.gr hgr (fun k hk=>by cases hk;omega),cur_new h.cu hgr (fun k hk=>by cases hk;omega)⟩
theorem pv_set1 (ps:List (Int × Int)) (h0:0<ps.length) (y:Int):(pv ps).set 1 (.int .i64 y)=pv (ps.set 0 (ps[0].1,y)):=by
 match ps,h0 with
 | p :: ps,_=>rfl
theorem TS.set0 {w wr:World} {b g0 n c:Nat} {K:Int} {v1:Value} {t:T} (h:TS w wr b K (.slice (some ⟨g0,0,none⟩) n c) v1 t) (hb:b<w.heap.size) (hn:t.sp.length=n) (hg:w.heap.size+2≤g0) (h0:0<t.sp.length) (y:Int) :
  TS w (wr.setCell ⟨g0,1,none⟩ (.int .i64 y)) b K (.slice (some ⟨g0,0,none⟩) n c) v1 ⟨t.sp.set 0 (t.sp[0].1,y),t.lv⟩:=by
 have hgr:=Li.grown_set wr g0 1 (.int .i64 y)
 refine ⟨h.bx.setOther (by omega),h.br.setOther (by omega),?_,h.o1.kept hgr h.ap.1,h.ap,grown_new h.gr hgr (fun k hk=>by cases hk;omega),cur_new h.cu hgr (fun k hk=>by cases hk;omega)⟩
 subst hn
 have:=(World.ownsRow.stored h.o0 1 (.int .i64 y)).1
 rw [pv_set1 _ h0] at this
 unfold OwnP
 rwa [List.length_set]
theorem two_cell (w:World) (T:TypeId) (x y:Int) (H:Nat) (hH:w.heap.size=H):∀ j u,([Value.int .i64 x,.int .i64 y]:List Value)[j]? = some u→(w.alloc (.cells #[.int .i64 x,.int .i64 y] T)).cell? ((⟨H,0,none⟩:Addr).add j)=some u:=by
 subst hH
 intro j u hj
 match j,hj with
 | 0,hj=>simp at hj;subst hj;simp [Addr.add]
 | 1,hj=>simp at hj;subst hj;simp [Addr.add]
 | j+2,hj=>simp at hj
theorem two_one (x y:Int):∀ u ∈ ([Value.int .i64 x,.int .i64 y]:List Value),u.oneCell'=true:=by
 intro u hu;simp at hu;rcases hu with rfl | rfl <;> rfl
theorem ownP_snoc {w:World} {base n:Nat} {v:Value} {l:List (Int × Int)} {x y:Int} (hn:l.length=n) (h:w.ownsRow base 58 2 v (n+1) (pv l ++ [.int .i64 x,.int .i64 y])):OwnP w base v (l ++ [(x,y)]):=by
 subst hn
 unfold OwnP
 rw [← pv_append,List.length_append]
 exact h
theorem ts_start {w:World} {b:Nat} {K:Int} (hc:Cu.Cur w b K) (T:TypeId):TS w ((w.alloc (.cells #[.slice none 0 0,.slice none 0 0] T)).alloc (.cells #[.slice none 0 0,.slice none 0 0] T)) b K (.slice none 0 0) (.slice none 0 0) ⟨[],[]⟩:=by
 refine ⟨?_,(box2_new _ _ _ _).alloc _,World.ownsRow_nil _ _ _ _,World.ownsRow_nil _ _ _ _,apt_of (fun k e=>by simp [Value.ownBlock] at e),Cu.grown_alloc (World.grownBy_alloc _ _ _) _,(hc.alloc _).alloc _⟩
 have:=box2_new (w.alloc (.cells #[.slice none 0 0,.slice none 0 0] T)) (.slice none 0 0) (.slice none 0 0) T
 rwa [size_alloc] at this
set_option maxRecDepth 100000 in
set_option maxHeartbeats 8000000 in
theorem tree_any (w:World) (b:Nat) (K:Int) (hc:Cu.Cur w b K) (h0K:0≤K) (hK:K≤1000000000000000) :
    Calls Tryz.prog 45 #[.pointer (some ⟨b,0,none⟩)] w fun e w'=>∃ v0 v1 t,e=.returned (.agg #[v0,v1])∧(t:T).sp.length+t.lv.length≤100∧OwnP w' w.heap.size v0 t.sp∧Li.Own w' w.heap.size v1 t.lv∧Apt v0 v1∧w.grownBy w' (some b)∧Cu.Cur w' b (K+200):=by
  obtain ⟨i0,hi,hz0,hz1,hz2⟩:=info_parts info_spl
  obtain ⟨j0,hj,hy0,hy1,hy2⟩:=info_parts Li.info_int
  have hbw:=hc.lt
  have ts:=ts_start hc 56
  go_enter Tryz.func45,Tryz.ntmps45
  go_wp2_with fail
  obtain ⟨W,hW⟩:∃ W,(w.alloc (.cells #[.slice none 0 0,.slice none 0 0] 56)).alloc (.cells #[.slice none 0 0,.slice none 0 0] 56)=W:=⟨_,rfl⟩
  rw [hW] at ts ⊢
  clear hW
  refine (Cu.pick_any _ _ _ ts.cu (by omega) _ (by omega)).mono ?_
  rintro e w1 ⟨s',rfl,s0,s1,hg1,hz1',hc1⟩
  obtain ⟨s,rfl⟩:∃ s:Nat,s'=(s:Int):=⟨s'.toNat,by omega⟩
  have s4:(s:Int)<5:=s1 (by omega)
  have ts:=ts.cur hbw hg1 hc1
  clear hg1 hz1' hc1 s1 hc
  go_wp2
  go_loopw [4] (fun i wr=>∃ k:Nat,k≤s∧i=.int .i64 k∧∃ u0,∃ ps:List (Int × Int),ps.length+k=s∧TS w wr b (K+1+2 * (s-k)) u0 (.slice none 0 0) ⟨ps,[]⟩) (fun i _=>(intOf i).toNat)
  case atStart=>exact ⟨s,Nat.le_refl _,rfl,_,[],by simp,ts.mono (by omega)⟩
  case round =>
    clear ts
    obtain ⟨k,hk,rfl,u0,ps,hpk,ts⟩:=hrel
    have HPK:Hid (ps.length+k=s):=hpk
    have hpl:ps.length≤4:=by omega
    clear hpk
    obtain ⟨hxl,⟨x0,x1⟩,xf0,xf1⟩:=id ts.bx
    by_cases hlt:0<k
    · have hlti : (0 : Int) < (k : Int) := by omega
      have hcu:=ts.cu
      go_wp2
      go_region_law (first
        | (refine step_append_lies _ rfl _ _ 54 rfl (w.heap.size + 2) 58 i0 (.agg #[.int .i64 0, .int .i64 0]) 2 16 Tryz.underlying54 hi hz0 hz1 hz2 rfl (by decide) u0 ps.length (pv ps) rfl (by first | exact World.ownsRow.alloc ts4.o0 _ | exact (ts4.alloc _).drew.o0) ⟨w4.heap.size, 0, none⟩ 1 1 [.int .i64 p6, .int .i64 (IntKind.i64.wrap (q * 1000))] rfl rfl (two_cell w4 58 p6 (IntKind.i64.wrap (q * 1000)) _ rfl) (two_one _ _) (by decide) (by unfold maxLen; omega) (by omega) (by have := ts4.bx.1; simp; omega) _ rfl ?_
           intro g cap w5 hown hgrow hpos hglt
           have hsn:=ownP_snoc rfl hown
           have HTS:Hid (TS w (w5.setCell ⟨w.heap.size+1,0,none⟩ (.slice (some ⟨g,0,none⟩) (ps.length+1) cap)) b _ _ _ _):=TS.put0 (by first | exact ts4.alloc _ | exact (ts4.alloc _).drew) hbw hgrow hsn hpos
           obtain ⟨hxl5,⟨y0,y1⟩,yf0,yf1⟩:=(by first | exact ts4.alloc _ | exact (ts4.alloc _).drew:TS w _ b _ _ _ _).bx.keptAt hgrow.size (hgrow.block _ (by have:=ts4.bx.1;simp;omega) (fun e=>by have:=(ts4.o0.ge _ e.symm).1;omega))
           clear hown hgrow hpos hsn)
        | (go_simp
           go_wp2_with (first
            | (go_at_call_of 20 (Value.int .i64 6)
               refine (Cu.pick_any _ _ _ hcu.drew (by omega) _ (by omega)).mono ?_
               rintro e w3 ⟨p6,rfl,p60,p61,hg3,hz3,hc3⟩
               have ts3:=ts.drew.cur hbw hg3 hc3
               obtain ⟨hxl3,⟨q0,q1⟩,_,_⟩:=id ts3.bx
               have p62:=p61 (by omega)
               have hcu3:=ts3.cu
               clear hg3 hz3 hc3 p61)
            | (go_at_call_of 20 (Value.int .i64 4)
               refine (Cu.pick_any _ _ _ (by first | exact hcu3 | exact hcu3.drew) (by omega) _ (by omega)).mono ?_
               rintro e w4 ⟨q,rfl,q40,q41,hg4,hz4,hc4⟩
               have q42:=q41 (by omega)
               have ts4:=(by first | exact ts3.cur hbw hg4 hc4 | exact ts3.drew.cur hbw hg4 hc4:TS w w4 b _ _ _ _)
               obtain ⟨hxl4,⟨r0,r1⟩,_,_⟩:=id ts4.bx
               clear hg4 hz4 hc4 q41))))
      all_goals
        have HL:Hid ((ps ++ [(p6,IntKind.i64.wrap (q * 1000))]).length+(k-1)=s):=by have:=HPK.out;show _=_;simp;omega
        clear ts3 ts4 ts
        go_wp2
        go_roundw
        case rel=>exact ⟨k-1,by omega,by go_num,_,_,HL.out,HTS.out.mono (by omega)⟩
        case measure=>simp [intOf];omega
    · obtain rfl : k = 0 := by omega
      have ts:=ts.mono (show K+1+2 * ((s:Int)-((0:Nat):Int))≤K+9 by omega)
      obtain ⟨au,cu,hu,_,_⟩:=ts.o0.isp
      subst hu
      have hpk:2 ^ ps.length≤16:=Nat.pow_le_pow_right (n:=2) (j:=4) (by decide) hpl
      have h1p:0<2 ^ ps.length:=Nat.pow_pos (by decide)
      have hpw:=Tw.pow_d ps.length (by omega)
      obtain ⟨p,hp2⟩:∃ p,2 ^ ps.length=p:=⟨_,rfl⟩
      rw [hp2] at hpk h1p hpw
      have hpv:Value.int .i64 (wrap64 (2 ^ ps.length))=.int .i64 (p:Int):=by rw [hpw]
      clear hlt hpw hp2 HPK
      have HTS:Hid (type_of% ts):=ts
      clear ts
      go_wp2
      clear x0 x1 xf0 xf1
      go_loopw [5] (fun i wr=>∃ k:Nat,k≤p∧i=.int .i64 k∧∃ u1,∃ lv:List Int,lv.length+k=p∧TS w wr b (K+9+4 * (p-k)) (.slice au ps.length cu) u1 ⟨ps,lv⟩) (fun i _=>(intOf i).toNat)
      case atStart=>exact ⟨p,Nat.le_refl _,rfl,_,[],by simp,HTS.out.mono (by omega)⟩
      case round =>
        clear HTS
        obtain ⟨k,hk,rfl,u1,lv,hlk,ts⟩:=hrel
        have HLK:Hid (lv.length+k=p):=hlk
        have hll:lv.length≤16:=by omega
        clear hlk
        obtain ⟨hxl,⟨x0,x1⟩,xf0,xf1⟩:=id ts.bx
        by_cases hlt:0<k
        · have hlti : (0 : Int) < (k : Int) := by omega
          have hcu:=ts.cu
          go_wp2
          go_region_law (first
            | (refine step_append_lies _ rfl _ _ 45 rfl (w.heap.size + 2) 3 j0 (.int .i64 0) 1 8 Tryz.underlying45 hj hy0 hy1 hy2 rfl (by decide) u1 lv.length (iv lv) rfl (by first | exact World.ownsRow.alloc ts5.o1 _ | exact World.ownsRow.alloc (World.ownsRow.alloc ts5.o1 _) _ | exact (ts5.alloc _).drew.o1) _ 1 1 [.int .i64 z] rfl rfl (one_at (by first | rfl | simp)) (one_one _) (by decide) (by unfold maxLen; omega) (by omega) (by have := ts5.bx.1; simp; omega) _ rfl ?_
               intro g cap w6 hown hgrow hpos hglt
               have hsn:=own_snoc rfl hown
               have HTS:Hid (TS w (w6.setCell ⟨w.heap.size+1,1,none⟩ (.slice (some ⟨g,0,none⟩) (lv.length+1) cap)) b _ _ _ _):=TS.put1 (by first | exact ts5.alloc _ | exact (ts5.alloc _).alloc _ | exact (ts5.alloc _).drew) hbw hgrow hsn hpos
               obtain ⟨hxl6,⟨y0,y1⟩,yf0,yf1⟩:=(by first | exact ts5.alloc _ | exact (ts5.alloc _).alloc _ | exact (ts5.alloc _).drew:TS w _ b _ _ _ _).bx.keptAt hgrow.size (hgrow.block _ (by have:=ts5.bx.1;simp;omega) (fun e=>by have:=(ts5.o1.ge _ e.symm).1;omega))
               clear hown hgrow hpos hsn)
            | (go_simp
               go_wp2_with (first
                | (go_at_call_of 20 (Value.int .i64 20)
                   refine (Cu.pick_any _ _ _ hcu.drew (by omega) _ (by omega)).mono ?_
                   rintro e w3 ⟨x,rfl,xx0,xx1,hg3,hz3,hc3⟩
                   have ts3:=ts.drew.cur hbw hg3 hc3
                   obtain ⟨hxl3,⟨q0,q1⟩,_,_⟩:=id ts3.bx
                   have xx2:=xx1 (by omega)
                   have hcu3:=ts3.cu
                   clear hg3 hz3 hc3 xx1)
                | (go_at_call 76
                   refine (Cu.fix_any _ _ _ (by first | exact hcu3 | exact hcu3.drew) (by omega)).mono ?_
                   rintro e w4 ⟨fx,rfl,fb0,fb1,hg4,hc4⟩
                   have ts4:=(by first | exact ts3.cur hbw hg4 hc4 | exact ts3.drew.cur hbw hg4 hc4:TS w w4 b _ _ _ _)
                   obtain ⟨hxl4,⟨r0,r1⟩,_,_⟩:=id ts4.bx
                   have hxm4:w.heap.size<w4.heap.size:=(by omega)
                   have hcu4:=ts4.cu
                   have hb4:b<w4.heap.size:=hcu4.lt
                   clear hg4 hc4)
                | (go_at_call_of 20 (Value.int .i64 2)
                   refine (Cu.pick_any _ _ _ (by first | exact hcu4 | exact hcu4.drew | exact hcu4.alloc _ | exact (hcu4.alloc _).drew) (by omega) _ (by omega)).mono ?_
                   rintro e w5 ⟨y,rfl,yb0,yb1,hg5,hq5,hc5⟩
                   have yb2:=yb1 (by omega)
                   obtain ⟨z,hv,v0,v1⟩:=tabI [.int .i64 (IntKind.i64.wrap (x * 100)),.int .i64 fx] (-9223372036854775808) 9223372036854775807 (by simp [Cu.okv];have:=wrapB (x * 100);omega) y yb0 (by simp;omega)
                   have ts5:=(by first | exact ts4.cur hbw hg5 hc5 | exact ts4.drew.cur hbw hg5 hc5 | exact (ts4.alloc _).cur hbw hg5 hc5 | exact (ts4.alloc _).drew.cur hbw hg5 hc5:TS w w5 b _ _ _ _)
                   have hb5:b<w5.heap.size:=hc5.lt
                   have hk5:=kept hg5
                   have hz5':=Nat.le_of_eq hq5.symm
                   have hz5'':=Nat.le_of_eq hq5
                   (try simp at hz5')
                   (try simp at hz5'')
                   (try simp at hk5)
                   obtain ⟨hxl5,⟨t0,t1⟩,_,_⟩:=id ts5.bx
                   have hxm5:w.heap.size<w5.heap.size:=(by omega)
                   clear hq5 yb1 hg5 hc5))))
          all_goals
            have HL:Hid ((lv ++ [z]).length+(k-1)=p):=by have:=HLK.out;show _=_;simp;omega
            clear ts3 ts4 ts5 ts hk5 hv
            go_wp2
            go_roundw
            case rel=>exact ⟨k-1,by omega,by go_num,_,_,HL.out,HTS.out.mono (by omega)⟩
            case measure=>simp [intOf];omega
        · obtain rfl : k = 0 := by omega
          have ts:=ts.mono (show K+9+4 * ((p:Int)-((0:Nat):Int))≤K+73 by omega)
          have hl1:0<lv.length:=by have:=HLK.out;omega
          clear hlt HLK
          go_wp2_with fail
          refine (Cu.once_any _ _ _ ts.cu (by omega) _ (by omega) (by omega)).mono ?_
          rintro e w2 ⟨t1,rfl,hg2,hz2',hc2⟩
          have ts:=ts.cur hbw hg2 hc2
          clear hg2 hz2' hc2 x0 x1 xf0 xf1
          obtain ⟨hxl2,⟨x0,x1⟩,xf0,xf1⟩:=id ts.bx
          obtain ⟨hrl2,⟨y0,y1⟩,yf0,yf1⟩:=id ts.br
          cases t1
          · have hd := ts.done hbw
            obtain ⟨a1,c1,hu1,_⟩:=ts.o1.isl
            subst hu1
            go_wp2
            refine bodyPost_ret (v:=.agg #[.slice au ps.length cu,.slice a1 lv.length c1]) (by rw [results_cell rfl];go_simp) rfl ⟨_,_,⟨ps,lv⟩,rfl,by show ps.length+lv.length≤100;omega,hd.1,hd.2.1,ts.ap,hd.2.2.1,hd.2.2.2.mono (by omega)⟩
          · clear y0 y1 yf0 yf1 hrl2
            go_wp2_with fail
            refine (Cu.pick_any _ _ _ ts.cu (by omega) _ (by omega)).mono ?_
            rintro e w3 ⟨m,rfl,m0,m1,hg3,hz3,hc3⟩
            have m4:m<4:=m1 (by omega)
            have ts:=ts.cur hbw hg3 hc3
            clear hg3 hz3 hc3 x0 x1 xf0 xf1 m1
            obtain ⟨hxl3,⟨x0,x1⟩,xf0,xf1⟩:=id ts.bx
            obtain ⟨hrl3,⟨y0,y1⟩,yf0,yf1⟩:=id ts.br
            have hm:m=0 ∨ m=1 ∨ m=2 ∨ m=3:=by omega
            obtain ⟨g1,c1,hu1,hg1b,hg1c⟩:∃ g1 c1,u1=.slice (some ⟨g1,0,none⟩) lv.length c1∧w.heap.size+2≤g1∧g1<w3.heap.size:=by
              have hge:=ts.o1.ge
              rcases ts.o1.2 with ⟨_,h0⟩ | ⟨g1,c1,cur,e,hb,_⟩
              · have h0':lv.length=0:=h0;omega
              · subst e;exact ⟨g1,c1,rfl,hb,(hge g1 rfl).2⟩
            subst hu1
            rcases hm with rfl | rfl | rfl | rfl
            · -- one leaf more
              have ts2:=ts.alloc (.cells #[.int .i64 1] 3)
              go_wp2_with (at_builtin;refine wpList_append_lies _ rfl _ _ 45 rfl (w.heap.size+2) 3 j0 (.int .i64 0) 1 8 Tryz.underlying45 hj hy0 hy1 hy2 rfl (by decide) (.slice (some ⟨g1,0,none⟩) lv.length c1) lv.length (iv lv) rfl ts2.o1 ⟨w3.heap.size,0,none⟩ 1 1 [.int .i64 1] rfl rfl (one_cell _ _ _) (one_one _) (by decide) (by unfold maxLen;omega) (by omega) (by have:=ts2.bx.1;omega) _ rfl ?_;intro g cap w6 hown hgrow hpos hglt;have hsn:Li.Own w6 (w.heap.size+2) (.slice (some ⟨g,0,none⟩) (lv.length+1) cap) (lv ++ [1]):=own_snoc rfl hown;have tsz:=TS.put1 ts2 hbw hgrow hsn hpos;obtain ⟨hxl6,⟨z0,z1⟩,zf0,zf1⟩:=ts2.bx.keptAt hgrow.size (hgrow.block _ ts2.bx.1 (fun e=>by have:=(ts2.o1.ge _ e.symm).1;omega));obtain ⟨hxl7,⟨a0,a1⟩,af0,af1⟩:=id tsz.bx;obtain ⟨hrl7,⟨b0,b1⟩,bf0,bf1⟩:=id tsz.br;have hd:=tsz.done hbw;clear hown hgrow hpos hsn)
              refine bodyPost_ret (v:=.agg #[.slice au ps.length cu,.slice (some ⟨g,0,none⟩) (lv.length+1) cap]) (by rw [results_cell rfl];go_simp) rfl ?_
              first
                | exact ⟨_,_,⟨ps,lv ++ [1]⟩,rfl,by show ps.length+(lv ++ [1]).length≤100;simp;omega,hd.1,hd.2.1,tsz.ap,hd.2.2.1,hd.2.2.2.mono (by omega)⟩
                | exact ⟨_,_,rfl,⟨ps,lv ++ [1]⟩,by show ps.length+(lv ++ [1]).length≤100;simp;omega,hd.1,hd.2.1,tsz.ap,hd.2.2.1,hd.2.2.2.mono (by omega)⟩
            · -- one question more
              have hcu:=ts.cu
              go_wp2
              go_region_law (first
                | (refine step_append_lies _ rfl _ _ 54 rfl (w.heap.size + 2) 58 i0 (.agg #[.int .i64 0, .int .i64 0]) 2 16 Tryz.underlying54 hi hz0 hz1 hz2 rfl (by decide) (.slice au ps.length cu) ps.length (pv ps) rfl (by first | exact World.ownsRow.alloc ts4.o0 _ | exact (ts4.alloc _).drew.o0) ⟨w4.heap.size, 0, none⟩ 1 1 [.int .i64 q, .int .i64 0] rfl rfl (two_cell w4 58 q 0 _ rfl) (two_one _ _) (by decide) (by unfold maxLen; omega) (by omega) (by have := ts4.bx.1; simp; omega) _ rfl ?_
                   intro g cap w5 hown hgrow hpos hglt
                   have hsn:=ownP_snoc rfl hown
                   have HTS:Hid (TS w (w5.setCell ⟨w.heap.size+1,0,none⟩ (.slice (some ⟨g,0,none⟩) (ps.length+1) cap)) b _ _ _ _):=TS.put0 (by first | exact ts4.alloc _ | exact (ts4.alloc _).drew) hbw hgrow hsn hpos
                   obtain ⟨hxl5,⟨z0,z1⟩,zf0,zf1⟩:=(by first | exact ts4.alloc _ | exact (ts4.alloc _).drew:TS w _ b _ _ _ _).bx.keptAt hgrow.size (hgrow.block _ (by have:=ts4.bx.1;simp;omega) (fun e=>by have:=(ts4.o0.ge _ e.symm).1;omega))
                   clear hown hgrow hpos hsn)
                | (go_simp
                   go_wp2_with (go_at_call 44
                                refine (Cu.raw_any _ _ _ hcu.drew (by omega)).mono ?_
                                rintro e w4 ⟨q,rfl,q40,q41,hg4,hc4⟩
                                have ts4:=ts.drew.cur hbw hg4 hc4
                                obtain ⟨hxl4,⟨r0,r1⟩,_,_⟩:=id ts4.bx
                                have hxm4:w.heap.size<w4.heap.size:=(by omega)
                                clear hg4 hc4)))
              all_goals
                have tsz:=HTS.out
                have hd:=tsz.done hbw
                obtain ⟨hxl7,⟨a0,a1⟩,af0,af1⟩:=id tsz.bx
                obtain ⟨hrl7,⟨b0,b1⟩,bf0,bf1⟩:=id tsz.br
                clear ts4 ts
                go_wp2
                refine bodyPost_ret (v:=.agg #[.slice (some ⟨g,0,none⟩) (ps.length+1) cap,.slice (some ⟨g1,0,none⟩) lv.length c1]) (by rw [results_cell rfl];go_simp) rfl ?_
                first
                  | exact ⟨_,_,⟨ps ++ [(q,0)],lv⟩,rfl,by show (ps ++ [(q,0)]).length+lv.length≤100;simp;omega,hd.1,hd.2.1,tsz.ap,hd.2.2.1,hd.2.2.2.mono (by omega)⟩
                  | exact ⟨_,_,rfl,⟨ps ++ [(q,0)],lv⟩,by show (ps ++ [(q,0)]).length+lv.length≤100;simp;omega,hd.1,hd.2.1,tsz.ap,hd.2.2.1,hd.2.2.2.mono (by omega)⟩
            · -- the first leaf is another
              have hcu:=ts.cu
              have hl0:=ts.o1.cell rfl 0 hl1
              have hf0:=ts.o1.frozen rfl 0
              go_wp2
              go_region_with (go_at_call 44;refine (Cu.raw_any _ _ _ hcu.drew (by omega)).mono ?_;rintro e w4 ⟨q,rfl,q40,q41,hg4,hc4⟩;have ts4:=ts.drew.cur hbw hg4 hc4;obtain ⟨hxl4,⟨r0,r1⟩,_,_⟩:=id ts4.bx;have hl4:=ts4.o1.cell rfl 0 hl1;have hf4:=ts4.o1.frozen rfl 0;have hgl4:=(ts4.o1.ge g1 rfl).2;clear hg4 hc4)
              all_goals
                have HTS:Hid (TS w (w4.setCell ⟨g1,0,none⟩ (.int .i64 q)) b _ _ _ _):=ts4.set1 hbw rfl hg1b q
                have tsz:=HTS.out
                have hd:=tsz.done hbw
                obtain ⟨hxl7,⟨a0,a1⟩,af0,af1⟩:=id tsz.bx
                obtain ⟨hrl7,⟨b0,b1⟩,bf0,bf1⟩:=id tsz.br
                clear ts4 ts
                go_wp2
                refine bodyPost_ret (v:=.agg #[.slice au ps.length cu,.slice (some ⟨g1,0,none⟩) lv.length c1]) (by rw [results_cell rfl];go_simp) rfl ?_
                first
                  | exact ⟨_,_,⟨ps,lv.set 0 q⟩,rfl,by show ps.length+(lv.set 0 q).length≤100;simp;omega,hd.1,hd.2.1,tsz.ap,hd.2.2.1,hd.2.2.2.mono (by omega)⟩
                  | exact ⟨_,_,rfl,⟨ps,lv.set 0 q⟩,by show ps.length+(lv.set 0 q).length≤100;simp;omega,hd.1,hd.2.1,tsz.ap,hd.2.2.1,hd.2.2.2.mono (by omega)⟩
            · -- the first border is another, if there is one
              by_cases hp0:0<ps.length
              · have hpi : (0 : Int) < (ps.length : Int) := by omega
                obtain ⟨g0,hau,hg0b⟩:∃ g0,au=some ⟨g0,0,none⟩∧w.heap.size+2≤g0:=by
                  rcases ts.o0.2 with ⟨_,h0⟩ | ⟨g0,c0,cur,e,hb,_⟩
                  · have h0':ps.length=0:=h0;omega
                  · cases e;exact ⟨g0,rfl,hb⟩
                subst hau
                have hcu:=ts.cu
                go_wp2
                go_region_with (go_at_call 44;refine (Cu.raw_any _ _ _ hcu.drew (by omega)).mono ?_;rintro e w4 ⟨q,rfl,q40,q41,hg4,hc4⟩;have ts4:=ts.drew.cur hbw hg4 hc4;obtain ⟨hxl4,⟨r0,r1⟩,_,_⟩:=id ts4.bx;obtain ⟨_,hl4⟩:=ts4.o0.cell rfl 0 hp0;have hf4:=ts4.o0.frozen rfl 1;have hgl4:=(ts4.o0.ge g0 rfl).2;(try simp at hl4);clear hg4 hc4)
                all_goals
                  have HTS:Hid (TS w (w4.setCell ⟨g0,1,none⟩ (.int .i64 q)) b _ _ _ _):=ts4.set0 hbw rfl hg0b hp0 q
                  have tsz:=HTS.out
                  have hd:=tsz.done hbw
                  obtain ⟨hxl7,⟨a0,a1⟩,af0,af1⟩:=id tsz.bx
                  obtain ⟨hrl7,⟨b0,b1⟩,bf0,bf1⟩:=id tsz.br
                  clear ts4 ts
                  go_wp2
                  refine bodyPost_ret (v:=.agg #[.slice (some ⟨g0,0,none⟩) ps.length cu,.slice (some ⟨g1,0,none⟩) lv.length c1]) (by rw [results_cell rfl];go_simp) rfl ?_
                  first
                    | exact ⟨_,_,⟨ps.set 0 (ps[0].1,q),lv⟩,rfl,by show (ps.set 0 (ps[0].1,q)).length+lv.length≤100;simp;omega,hd.1,hd.2.1,tsz.ap,hd.2.2.1,hd.2.2.2.mono (by omega)⟩
                    | exact ⟨_,_,rfl,⟨ps.set 0 (ps[0].1,q),lv⟩,by show (ps.set 0 (ps[0].1,q)).length+lv.length≤100;simp;omega,hd.1,hd.2.1,tsz.ap,hd.2.2.1,hd.2.2.2.mono (by omega)⟩
              · have hpi : decide ((0 : Int) < (ps.length : Int)) = false := by rw [decide_eq_false_iff_not]; omega
                have tsz:=ts
                have hd:=tsz.done hbw
                go_wp2
                refine bodyPost_ret (v:=.agg #[.slice au ps.length cu,.slice (some ⟨g1,0,none⟩) lv.length c1]) (by rw [results_cell rfl];go_simp) rfl ?_
                first
                  | exact ⟨_,_,⟨ps,lv⟩,rfl,by show ps.length+lv.length≤100;omega,hd.1,hd.2.1,tsz.ap,hd.2.2.1,hd.2.2.2.mono (by omega)⟩
                  | exact ⟨_,_,rfl,⟨ps,lv⟩,by show ps.length+lv.length≤100;omega,hd.1,hd.2.1,tsz.ap,hd.2.2.1,hd.2.2.2.mono (by omega)⟩
end Go.Proofs.YtaojoamldoofpaaGreatDoor.Df
namespace Go.Proofs.YtaojoamldoofpaaGreatDoor.Dm
set_option maxRecDepth 100000
open Go.RowKit
open Tb Tk
open Md (M OwM wr6 wr3)
open Kt (OwK Kv)
open To (OwT)
open Tt (mtrain strain mtrain_sz set6)
open Sv (Wr Fr fr_grown fr_below new1 new2 new3 wr_new wr2)
theorem own_lit {w:World} {T:TypeId} {u0 u1:Value} : (w.alloc (.cells #[u0,u1] T)).ownsRow w.heap.size T 1 (.slice (some ⟨w.heap.size,0,none⟩) 2 2) 2 [u0,u1] :=
 ⟨by simp,.inr ⟨w.heap.size,2,#[u0,u1],rfl,Nat.le_refl _,heap_alloc_new w _,Nat.le_refl _,by unfold maxLen;omega,by simp,by simp⟩⟩
set_option maxHeartbeats 20000000 in
theorem model_any (w:World) (b:Nat) (KC:Int) (hc:Cu.Cur w b KC) (h0K:0≤KC) (hK:KC≤1000000000000) :
  Calls Tryz.prog 18 #[.pointer (some ⟨b,0,none⟩)] w fun e w'=>∃ (m:M) (vk vt:Value),e=.returned (.agg #[.int .i64 m.n,.int .i64 m.c,.int .i64 m.prior,.int .i64 m.base,vk,vt])∧m.sz≤4500∧OwM w' (fun q=>w.heap.size≤q∧q<w'.heap.size) vk vt m∧Fr (fun q=>q=b) w w'∧Cu.Cur w' b (KC+1000):=by
 have hbw:=hc.lt
 have HC:Hid (Cu.Cur w b KC):=hc
 clear hc
 go_enter Tryz.func18,Tryz.ntmps18
 go_wp2_with fail
 obtain ⟨W,hW,hsz,hB,b2⟩:=new1 w z6 29
 have hW2:w.alloc (.cells #[.int .i64 0,.int .i64 0,.int .i64 0,.int .i64 0,.slice none 0 0,.slice none 0 0] 29)=W:=hW
 rw [hW2]
 have hcW:Cu.Cur W b KC:=by rw [← hW];exact HC.out.alloc _
 clear hW hW2
 obtain ⟨X2,hX2⟩:∃ x,w.heap.size=x:=⟨_,rfl⟩
 have HX2:Hid (w.heap.size=X2):=hX2
 rw [hX2] at b2 ⊢
 refine (Db.table_any W b KC hcW (by omega)).mono ?_
 rintro e w1 ⟨n,c,v,rs,rfl,hrs,ot,hg1,hc1⟩
 obtain ⟨a,cap,rfl,-⟩:=ot.isr
 have HRS:Hid (rs.length+szR rs≤1048576):=by show _≤_;have:=szR_all (fun r hr=>(hrs.2.2.2.2.2 r hr).1);have:=hrs.2.2.2.2.1;omega
 have hb0:b<X2:=by omega
 have hF1:Fr (fun q=>q=b) W w1:=fr_grown hg1 rfl
 have hs1:=hF1.size
 clear hrs hg1 hcW
 go_wp2_with fail
 obtain ⟨W1,hW1,hsz1,hB1,b3⟩:=new1 w1 [.int .i64 n,.int .i64 c,.slice a rs.length cap] 79
 rw [hW1]
 have hcW1:Cu.Cur W1 b (KC+300):=by rw [← hW1];exact hc1.alloc _
 refine (Dc.conf_any W1 b (KC+300) hcW1 (by omega)).mono ?_
 rintro e w2 ⟨k,rfl,hg2,hc2⟩
 have hF2:Fr (fun q=>q=b) W1 w2:=fr_grown hg2 rfl
 have hs2:=hF2.size
 clear hW1 hg2 hcW1
 obtain ⟨W2,hW2,hsz2,hB2,b4⟩:=new1 w2 k.cells 82
 have hW2b:w2.alloc (.cells #[.int .i64 k.trees,.int .i64 k.depth,.int .i64 k.most,.int .i64 k.rate,.int .i64 k.l2,.int .i64 k.prior,.int .i64 k.seed] 82)=W2:=hW2
 have hF:Fr (fun q=>q=b) W W2:=((hF1.trans (fr_below hB1)).trans hF2).trans (fr_below hB2)
 have hF0:Fr (fun q=>q=b) w W2:=(fr_below hB).trans hF
 have ot2:OwnT W2 W.heap.size w1.heap.size (.slice a rs.length cap) rs:=ot.keptAt (fun q h1 h2 h3=>(((fr_below hB1).trans hF2).trans (fr_below (B:=fun q=>q=b) hB2)).block q h3 (by omega))
 have hcW2:Cu.Cur W2 b (KC+400):=(by rw [← hW2];exact hc2.alloc _:Cu.Cur W2 b (KC+300+100)).mono (by omega)
 have B2:Wr W2 X2 0 z6:=wrB b2 hF (by omega)
 have B3:Wr W2 w1.heap.size 0 [.int .i64 n,.int .i64 c,.slice a rs.length cap]:=wrB b3 (hF2.trans (fr_below hB2)) (by omega)
 have HIS:Hid (∀ X,Below W2.heap.size W2 X→IsR X a rs):=fun X hX=>by
  obtain ⟨_,_,e,i⟩:=(ot2.below hX).isr
  injection e with e
  subst e
  exact i
 have HB2:Hid (type_of% B2):=B2
 have HB3:Hid (type_of% B3):=B3
 have HB4:Hid (type_of% b4):=b4
 have HF0:Hid (type_of% hF0):=hF0
 have HCW:Hid (type_of% hcW2):=hcW2
 obtain ⟨D3,hD3⟩:∃ x,w1.heap.size=x:=⟨_,rfl⟩
 obtain ⟨D4,hD4⟩:∃ x,w2.heap.size=x:=⟨_,rfl⟩
 have h23:X2<D3:=by omega
 have h34:D3<D4:=by omega
 have h4W:D4<W2.heap.size:=by omega
 rw [hD3] at HB3 ⊢
 rw [hD4] at HB4
 obtain ⟨hl3,⟨t0,t1,t2⟩,-⟩:=wr3 B3
 have hl3b:=hl3
 rw [hD3] at t0 t1 t2 hl3
 obtain ⟨hl4,q0,q1,q2,q3,q4,q5,q6⟩:=Tn.wr7 b4
 rw [hD4] at q0 q1 q2 q3 q4 q5 q6 hl4
 go_wp2_with fail
 clear hB b2 ot hc1 hF1 hs1 hsz1 hB1 b3 hc2 hF2 hs2 hsz2 hB2 hF hF0 ot2 hcW2 b4 B2 B3 hW2 hW2b hD3 hD4 hsz hX2 hl3b
 refine (strain W2 n c a cap rs k (HIS.out _ (Below.refl _ _)) HRS.out).mono ?_
 rintro e w3 ⟨vk,vt,rfl,om,hb3⟩
 have hmz:=mtrain_sz n c rs k
 generalize mtrain n c rs k=m at om hmz ⊢
 generalize (tok n c rs && Cf.cok k)=ok
 obtain ⟨ak,ck,ax,ct,rfl,rfl,-⟩:=om.rm
 have HOM:Hid (type_of% om):=om
 have HMZ:Hid (m.sz≤4000):=hmz
 have HB3b:Hid (Below W2.heap.size W2 w3):=hb3
 have hs3:=hb3.size
 clear om hmz hb3
 go_upto_if 18 with fail
 obtain ⟨W3,hW3,hsz3,hB5,b5⟩:=new1 w3 (mc m (.slice ak m.ks.length ck) (.slice ax m.ts.length ct)) 29
 have hW3b:w3.alloc (.cells #[.int .i64 m.n,.int .i64 m.c,.int .i64 m.prior,.int .i64 m.base,.slice ak m.ks.length ck,.slice ax m.ts.length ct] 29)=W3:=hW3
 rw [hW3b]
 obtain ⟨X5,hX5⟩:∃ x,w3.heap.size=x:=⟨_,rfl⟩
 rw [hX5] at b5 ⊢
 have hBB:Below W2.heap.size W2 W3:=HB3b.out.trans (hB5.mono HB3b.out.size)
 have HMS:Hid (Ms w W3 b X2 X5 (KC+400) 4000 m (.slice ak m.ks.length ck) (.slice ax m.ts.length ct)):=⟨curF (B:=fun _=>False) HCW.out (fr_below hBB) (fun _ e=>e.elim),HF0.out.trans (fr_below hBB),by omega,HX2.out,by omega,HB2.out.below hBB,b5,(HOM.out.below hB5).mono (fun q hq=>⟨by omega,by omega⟩),HMZ.out⟩
 have HBT:Hid (Wr W3 D3 0 [.int .i64 n,.int .i64 c,.slice a rs.length cap]):=HB3.out.below hBB
 have HIS3:Hid (∀ X,Below W3.heap.size W3 X→IsR X a rs):=fun X hX=>HIS.out X (hBB.trans (hX.mono hBB.size))
 have hX5W:X5<W3.heap.size:=by omega
 have h25:X2<X5:=by omega
 clear hW3 hW3b hsz3 hB5 b5 hX5 hBB hs3 HOM HMZ HB3b HIS HB2 HB3 HB4 HF0 HCW t0 t1 t2 hl3 q0 q1 q2 q3 q4 q5 q6 hl4 h34 h4W
 go_cut [] from 17 (fun wx=>∃ (m:M) (vk vt:Value),Ms w wx b X2 X5 (KC+400) 4000 m vk vt)
 case first =>
  cases ok with
  | true =>
   go_wp2_with fail
   go_meet
   case rel=>exact ⟨_,_,_,HMS.out⟩
  | false =>
   obtain ⟨hl3,⟨t0,t1,t2⟩,-⟩:=wr3 HBT.out
   obtain ⟨hl5,⟨x0,x1,x2,x3,x4,x5⟩,f0,f1,f2,f3,f4,f5⟩:=wr6 HMS.out.b5
   go_wp2_with fail
   refine (strain W3 n c a cap rs ⟨2,2,3,500,1,0,5⟩ (HIS3.out _ (Below.refl _ _)) HRS.out).mono ?_
   rintro e w5 ⟨vk5,vt5,rfl,om5,hb5⟩
   have hmz5:=mtrain_sz n c rs ⟨2,2,3,500,1,0,5⟩
   generalize mtrain n c rs ⟨2,2,3,500,1,0,5⟩=m5 at om5 hmz5 ⊢
   obtain ⟨ak5,ck5,ax5,ct5,rfl,rfl,-⟩:=om5.rm
   have HP:Hid (type_of% (HMS.out.put6 hb5 om5 hmz5)):=HMS.out.put6 hb5 om5 hmz5
   clear hl5 x0 x1 x2 x3 x4 x5 f0 f1 f2 f3 f4 f5 hl3 t0 t1 t2
   obtain ⟨hl5,⟨x0,x1,x2,x3,x4,x5⟩,f0,f1,f2,f3,f4,f5⟩:=wr6 (HMS.out.b5.below hb5)
   clear om5 hmz5 hb5
   go_wp2_with fail
   go_meet
   case rel=>exact ⟨_,_,_,HP.out⟩
 case rest =>
  clear HMS HBT HIS3 HRS
  obtain ⟨m,vk,vt,ms⟩:=hcut
  obtain ⟨ak,ck,ax,ct,rfl,rfl,-⟩:=ms.om.rm
  have HMS:Hid (type_of% ms):=ms
  clear ms
  go_wp2_with fail
  refine (Cu.once_any wc b (KC+400) HMS.out.cu (by omega) 10 (by omega) (by omega)).mono ?_
  rintro e w6 ⟨oc,rfl,hg6,hs6,hc6⟩
  have HM6:Hid (Ms w w6 b X2 X5 (KC+401) 4000 m (.slice ak m.ks.length ck) (.slice ax m.ts.length ct)):=HMS.out.step hg6 (hc6.mono (by omega))
  clear hg6 hs6 hc6 HMS
  go_upto_if 26 with fail
  go_cut [] from 26 (fun wx=>∃ (m:M) (vk vt:Value),Ms w wx b X2 X5 (KC+1000) 4500 m vk vt)
  case first =>
   cases oc with
   | false =>
    go_wp2_with fail
    go_meet
    case rel=>exact ⟨_,_,_,HM6.out.lower (by omega) (by omega)⟩
   | true =>
    go_wp2_with fail
    refine (Cu.pick_any w6 b (KC+401) HM6.out.cu (by omega) 5 (by omega)).mono ?_
    rintro e w7 ⟨y,rfl,y0,y1,hg7,hs7,hc7⟩
    have HM7:Hid (Ms w w7 b X2 X5 (KC+402) 4000 m (.slice ak m.ks.length ck) (.slice ax m.ts.length ct)):=HM6.out.step hg7 (hc7.mono (by omega))
    clear hg7 hs7 hc7 HM6
    have hy:y=0 ∨ y=1 ∨ y=2 ∨ y=3 ∨ y=4:=by have:=y1 (by omega);omega
    clear y0 y1
    rcases hy with rfl | rfl | rfl | rfl | rfl
    ·
     go_wp2_with fail
     refine (Cu.raw_any w7 b (KC+402) HM7.out.cu (by omega)).mono ?_
     rintro e w8 ⟨z,rfl,_,_,hg8,hc8⟩
     have HM8:Hid (Ms w w8 b X2 X5 (KC+404) 4000 m (.slice ak m.ks.length ck) (.slice ax m.ts.length ct)):=HM7.out.step hg8 (hc8.mono (by omega))
     clear hg8 hc8
     obtain ⟨hl5,⟨x0,x1,x2,x3,x4,x5⟩,f0,f1,f2,f3,f4,f5⟩:=wr6 HM8.out.b5
     go_wp2_with fail
     go_meet
     case rel=>exact ⟨⟨m.n,m.c,m.prior,z,m.ks,m.ts⟩,_,_,(HM8.out.num (m':=⟨m.n,m.c,m.prior,z,m.ks,m.ts⟩) (o:=3) (by omega) (by simp [mc]) rfl rfl).lower (by omega) (by omega)⟩
    ·
     go_wp2_with fail
     obtain ⟨B,hBn,hB0,hB1⟩:=HM7.out.forT
     have HBN:Hid (type_of% hBn):=hBn
     have HB0:Hid (type_of% hB0):=hB0
     have HB1:Hid (type_of% hB1):=hB1
     clear hBn hB0 hB1
     have HTL:Hid (m.ts.length≤1048576):=by show _≤_;have:=HM7.out.sz;unfold M.sz at this;omega
     have st:Below w7.heap.size w7 w7.drew:=Tm.below_drew w7
     have MD:Ms w w7.drew b X2 X5 (KC+402) 4000 m (.slice ak m.ks.length ck) (.slice ax m.ts.length ct):=HM7.out.below st
     have HMD:Hid (type_of% MD):=MD
     have hS:=(wr6 MD.b5).2.1.2.2.2.2.2
     clear MD
     refine Hd.start (fun X=>X.cell? ⟨X5,5,none⟩=some (.slice ax m.ts.length ct)) 7 (by kernel_rfl) ?_
     generalize w7.drew=w0 at st HMD hS ⊢
     refine Hd.After.pureD (i:=0) (some 53) (.pointer (some ⟨X5,5,none⟩)) rfl rfl (by kernel_rfl) (by decide) (by kernel_rfl) (by kernel_rfl) (fun _ _ _ h=>h) (hS) (Or.inl ⟨by rfl,?_⟩) ?_
     ·
      intro X;go_simp;try with_reducible rfl
     (first | simp only [Act.put,List.setIfInBounds_toArray,List.set_cons_zero,List.set_cons_succ] | skip)
     refine Hd.After.takeD (i:=1) (some 54) (.slice ax m.ts.length ct) rfl rfl (by kernel_rfl) (by kernel_rfl) (by kernel_rfl) (by kernel_rfl) (by kernel_rfl) (fun _ _ _ h=>h) (hS) (Or.inl ⟨by rfl,?_⟩) ?_
     ·
      rintro X s5;go_simp;try with_reducible rfl
     (first | simp only [Act.put,List.setIfInBounds_toArray,List.set_cons_zero,List.set_cons_succ] | skip)
     refine Hd.After.pureD (i:=2) (some 55) (.pointer (some ⟨b,0,none⟩)) rfl rfl (by kernel_rfl) (by decide) (by kernel_rfl) (by kernel_rfl) (fun _ _ _ h=>h) (hS) (Or.inl ⟨by rfl,?_⟩) ?_
     ·
      intro X;go_simp;try with_reducible rfl
     (first | simp only [Act.put,List.setIfInBounds_toArray,List.set_cons_zero,List.set_cons_succ] | skip)
     refine Hd.After.one (i:=3) (by kernel_rfl) rfl rfl ?_
     intro K hK
     go_simp
     go_wp2_with (go_at_call 45;refine (Df.tree_any w0 b (KC+402) HMD.out.cu (by omega) (by omega)).mono ?_;rintro e w8 ⟨v0,v1,t,rfl,hzt,p0,p1,hap,hg8,hc8⟩)
     have M8:Ms w w8 b X2 X5 (KC+602) 4000 m (.slice ak m.ks.length ck) (.slice ax m.ts.length ct):=HMD.out.step hg8 (hc8.mono (by omega))
     have HM8:Hid (type_of% M8):=M8
     have HF8:Hid (Fr (fun q=>q=b) w7 w8):=(fr_below st).trans (fr_grown hg8 rfl)
     have hs8:w7.heap.size≤w8.heap.size:=HF8.out.size
     have hS8:=(wr6 M8.b5).2.1.2.2.2.2.2
     obtain ⟨a0,c0,rfl,-,-⟩:=p0.isp
     obtain ⟨a1,c1,rfl,-⟩:=p1.isl
     have HP0:Hid (type_of% p0):=p0
     have HP1:Hid (type_of% p1):=p1
     have HAP:Hid (type_of% hap):=hap
     have HZT:Hid (type_of% hzt):=hzt
     clear M8 hg8 hc8 p0 p1 hap hzt
     refine hK _ _ (fun _=>hS8) ?_
     clear hK K
     (first | simp only [Act.put,List.setIfInBounds_toArray,List.set_cons_zero,List.set_cons_succ] | skip)
     have hA:Below w8.heap.size w8 (w8.alloc (.cells #[.slice a0 t.sp.length c0,.slice a1 t.lv.length c1] 56)):=(Below.refl _ _).alloc (Nat.le_refl _) _
     have hS9:=(wr6 (HM8.out.below hA).b5).2.1.2.2.2.2.2
     refine Hd.After.one (i:=4) (by kernel_rfl) rfl rfl ?_
     intro K hK
     go_simp
     refine hK _ _ (fun _=>hS9) ?_
     clear hK K
     (first | simp only [Act.put,List.setIfInBounds_toArray,List.set_cons_zero,List.set_cons_succ] | skip)
     refine Hd.After.one (i:=5) (by kernel_rfl) rfl rfl ?_
     intro K hK
     refine Ps.wp_pushT _ _ rfl (some 58) rfl B w7.heap.size _ m.ts (HB0.out _ (HF8.out.trans (fr_below hA))) w8.heap.size a0 a1 c0 c1 _ _ t rfl rfl (by simp) (by simp) ((HP0.out.below hA).mono st.size) ((HP1.out.below hA).mono st.size) (fun q e e2=>HAP.out.1.elim (fun h=>by rw [h] at e2;cases e2) (fun h=>h (e2.trans e.symm))) HBN.out (Nat.le_trans hs8 hA.size) HTL.out ?_
     intro a9 c9 w9 hok9 hg9
     have HMN:Hid (type_of% (HB1.out _ (KC+1000) w9 (.slice a9 (m.ts.length+1) c9) t (HF8.out.trans (fr_below hA)) ((HM8.out.below hA).cu.mono (by omega)) hok9 hg9 HZT.out)):=HB1.out _ (KC+1000) w9 (.slice a9 (m.ts.length+1) c9) t (HF8.out.trans (fr_below hA)) ((HM8.out.below hA).cu.mono (by omega)) hok9 hg9 HZT.out
     have hw9:=HM8.out.keptT hA hg9
     obtain ⟨hl9,⟨_,_,_,_,_,z5⟩,_,_,_,_,_,g5⟩:=wr6 hw9
     clear hok9 hg9 hw9
     refine hK _ _ (fun _=>z5) ?_
     clear hK K
     (first | simp only [Act.put,List.setIfInBounds_toArray,List.set_cons_zero,List.set_cons_succ] | skip)
     refine Hd.After.pureD (i:=6) (some 59) (.pointer (some ⟨X5,5,none⟩)) rfl rfl (by kernel_rfl) (by decide) (by kernel_rfl) (by kernel_rfl) (fun _ _ _ h=>h) (z5) (Or.inl ⟨by rfl,?_⟩) ?_
     ·
      intro X;go_simp;try with_reducible rfl
     (first | simp only [Act.put,List.setIfInBounds_toArray,List.set_cons_zero,List.set_cons_succ] | skip)
     refine Hd.After.one (i:=7) (by kernel_rfl) rfl rfl ?_
     intro K hK
     go_simp
     refine hK _ _ (fun h=>by cases h) ?_
     clear hK K
     refine Hd.After.done (by kernel_rfl) ?_ _
     go_wp2_with fail
     go_meet
     case rel=>exact ⟨_,_,_,HMN.out.lower (by omega) (by omega)⟩
    ·
     obtain ⟨hl5,⟨x0,x1,x2,x3,x4,x5⟩,f0,f1,f2,f3,f4,f5⟩:=wr6 HM7.out.b5
     obtain ⟨B,hBn,hB0,hB1⟩:=HM7.out.forK
     have HBN:Hid (type_of% hBn):=hBn
     have HB0:Hid (type_of% hB0):=hB0
     have HB1:Hid (type_of% hB1):=hB1
     clear hBn hB0 hB1
     have HTL:Hid (m.ks.length≤1048576):=by show _≤_;have:=HM7.out.sz;unfold M.sz at this;omega
     obtain ⟨WA,hWA⟩:∃ X,((w7.alloc (.cells #[.string ⟨#[97]⟩,.string ⟨#[97]⟩] 9)).alloc (.cells #[.int .i64 1,.int .i64 2] 3)).alloc (.cells #[.slice (some ⟨w7.heap.size,0,none⟩) 2 2,.slice (some ⟨w7.heap.size+1,0,none⟩) 2 2] 47)=X:=⟨_,rfl⟩
     have hA1:Below w7.heap.size w7 (w7.alloc (.cells #[.string ⟨#[97]⟩,.string ⟨#[97]⟩] 9)):=(Below.refl _ _).alloc (Nat.le_refl _) _
     have hA2:Below w7.heap.size w7 ((w7.alloc (.cells #[.string ⟨#[97]⟩,.string ⟨#[97]⟩] 9)).alloc (.cells #[.int .i64 1,.int .i64 2] 3)):=hA1.alloc hA1.size _
     have hA3:Below w7.heap.size w7 WA:=by rw [← hWA];exact hA2.alloc hA2.size _
     have O1:Ls.Own WA w7.heap.size (.slice (some ⟨w7.heap.size,0,none⟩) 2 2) [⟨#[97]⟩,⟨#[97]⟩]:=by
      have h1:Ls.Own (w7.alloc (.cells #[.string ⟨#[97]⟩,.string ⟨#[97]⟩] 9)) w7.heap.size (.slice (some ⟨w7.heap.size,0,none⟩) 2 2) [⟨#[97]⟩,⟨#[97]⟩]:=own_lit
      rw [← hWA]
      exact (h1.below ((Below.refl _ _).alloc (Nat.le_refl _) _)).below ((Below.refl _ _).alloc (Nat.le_refl _) _)
     have O2:Li.Own WA w7.heap.size (.slice (some ⟨w7.heap.size+1,0,none⟩) 2 2) [1,2]:=by
      have h1:Li.Own ((w7.alloc (.cells #[.string ⟨#[97]⟩,.string ⟨#[97]⟩] 9)).alloc (.cells #[.int .i64 1,.int .i64 2] 3)) (w7.heap.size+1) (.slice (some ⟨w7.heap.size+1,0,none⟩) 2 2) [1,2]:=by
       have h2:=own_lit (w:=w7.alloc (.cells #[.string ⟨#[97]⟩,.string ⟨#[97]⟩] 9)) (T:=3) (u0:=.int .i64 1) (u1:=.int .i64 2)
       rw [World.size_alloc] at h2
       exact h2
      rw [← hWA]
      exact (h1.below ((Below.refl _ _).alloc (Nat.le_refl _) _)).mono (by omega)
     have hWE:WA.cell? ⟨w7.heap.size+1+1,0,none⟩=some (.slice (some ⟨w7.heap.size,0,none⟩) 2 2)∧WA.cell? ⟨w7.heap.size+1+1,1,none⟩=some (.slice (some ⟨w7.heap.size+1,0,none⟩) 2 2):=by
      have h9:=(wr2 (wr_new ((w7.alloc (.cells #[.string ⟨#[97]⟩,.string ⟨#[97]⟩] 9)).alloc (.cells #[.int .i64 1,.int .i64 2] 3)) [.slice (some ⟨w7.heap.size,0,none⟩) 2 2,.slice (some ⟨w7.heap.size+1,0,none⟩) 2 2] 47)).2.1
      rw [World.size_alloc,World.size_alloc] at h9
      rw [← hWA]
      exact h9
     have HWA:Hid (type_of% hWA):=hWA
     have HA3:Hid (type_of% hA3):=hA3
     have HO1:Hid (type_of% O1):=O1
     have HO2:Hid (type_of% O2):=O2
     have HWE:Hid (type_of% hWE):=hWE
     clear hWA hA1 hA2 hA3 O1 O2 hWE
     go_wp2_with (at_builtin;rw [HWA.out];refine Ps.wpl_pushK rfl _ _ rfl B w7.heap.size _ m.ks (HB0.out _ (fr_below HA3.out)) (w7.heap.size+1+1) _ _ _ _ _ _ ⟨[⟨#[97]⟩,⟨#[97]⟩],[1,2]⟩ rfl rfl HWE.out.1 HWE.out.2 HO1.out HO2.out (fun q e e2=>by simp [Value.ownBlock] at e e2;omega) HBN.out HA3.out.size HTL.out ?_;intro a9 c9 w9 hok9 hg9;have HMN:Hid (type_of% (HB1.out _ (KC+1000) w9 (.slice a9 (m.ks.length+1) c9) _ (fr_below HA3.out) ((HM7.out.below HA3.out).cu.mono (by omega)) hok9 hg9 (by decide))):=HB1.out _ (KC+1000) w9 (.slice a9 (m.ks.length+1) c9) _ (fr_below HA3.out) ((HM7.out.below HA3.out).cu.mono (by omega)) hok9 hg9 (by decide);obtain ⟨hl9,⟨z0,z1,z2,z3,z4,z5⟩,g0,g1,g2,g3,g4,g5⟩:=wr6 (HM7.out.keptK HA3.out hg9);clear hok9 hg9)
     go_meet
     case rel=>exact ⟨_,_,_,HMN.out.lower (by omega) (by omega)⟩
    ·
     go_wp2_with fail
     refine (Cu.raw_any w7 b (KC+402) HM7.out.cu (by omega)).mono ?_
     rintro e w8 ⟨z,rfl,_,_,hg8,hc8⟩
     have HM8:Hid (Ms w w8 b X2 X5 (KC+404) 4000 m (.slice ak m.ks.length ck) (.slice ax m.ts.length ct)):=HM7.out.step hg8 (hc8.mono (by omega))
     clear hg8 hc8
     obtain ⟨hl5,⟨x0,x1,x2,x3,x4,x5⟩,f0,f1,f2,f3,f4,f5⟩:=wr6 HM8.out.b5
     go_wp2_with fail
     go_meet
     case rel=>exact ⟨⟨z,m.c,m.prior,m.base,m.ks,m.ts⟩,_,_,(HM8.out.num (m':=⟨z,m.c,m.prior,m.base,m.ks,m.ts⟩) (o:=0) (by omega) (by simp [mc]) rfl rfl).lower (by omega) (by omega)⟩
    ·
     obtain ⟨hl5,⟨x0,x1,x2,x3,x4,x5⟩,f0,f1,f2,f3,f4,f5⟩:=wr6 HM7.out.b5
     by_cases hks:0<m.ks.length
     ·
      have hks0:(0:Int)<(m.ks.length:Int):=by omega
      go_wp2_with fail
      obtain ⟨g,cv,a0,c0,n0,e0,en,k1,kf,hgl,hbg,hg5,hne,hnz,hown,hput⟩:=HM7.out.forV hks
      injection e0 with e0 _ e1
      subst e0
      subst e1
      have HOWN:Hid (type_of% hown):=hown
      have HPUT:Hid (type_of% hput):=hput
      have HNE:Hid (type_of% hne):=hne
      have HEN:Hid (type_of% en):=en
      clear hown hput hne en x0 x1 x2 x3 x4 x5 f0 f1 f2 f3 f4 f5 hl5
      have st:Below w7.heap.size w7 w7.drew:=Tm.below_drew w7
      have MD:Ms w w7.drew b X2 X5 (KC+402) 4000 m (.slice (some ⟨g,0,none⟩) m.ks.length ck) (.slice ax m.ts.length ct):=HM7.out.below st
      have HMD:Hid (type_of% MD):=MD
      have hS:w7.drew.cell? ⟨X5,4,none⟩=some (.slice (some ⟨g,0,none⟩) m.ks.length ck)∧w7.drew.cell? ⟨g,1,none⟩=some (.slice a0 n0 c0):=⟨(wr6 MD.b5).2.1.2.2.2.2.1,(World.cell?_of_block (st.block g hgl)).trans k1⟩
      have hgf:w7.drew.heap.size=w7.heap.size:=rfl
      have HK1:Hid (type_of% k1):=k1
      have HKF:Hid (type_of% kf):=kf
      clear MD hgf k1 kf
      refine Hd.start (fun X=>X.cell? ⟨X5,4,none⟩=some (.slice (some ⟨g,0,none⟩) m.ks.length ck)∧X.cell? ⟨g,1,none⟩=some (.slice a0 n0 c0)) 13 (by kernel_rfl) ?_
      generalize w7.drew=w0 at st HMD hS ⊢
      refine Hd.After.pureD (i:=0) (some 33) (.pointer (some ⟨X5,4,none⟩)) rfl rfl (by kernel_rfl) (by decide) (by kernel_rfl) (by kernel_rfl) (fun _ _ _ h=>h) (hS) (Or.inl ⟨by rfl,?_⟩) ?_
      ·
       intro X;go_simp;try with_reducible rfl
      (first | simp only [Act.put,List.setIfInBounds_toArray,List.set_cons_zero,List.set_cons_succ] | skip)
      refine Hd.After.takeD (i:=1) (some 34) (.slice (some ⟨g,0,none⟩) m.ks.length ck) rfl rfl (by kernel_rfl) (by kernel_rfl) (by kernel_rfl) (by kernel_rfl) (by kernel_rfl) (fun _ _ _ h=>h) (hS) (Or.inl ⟨by rfl,?_⟩) ?_
      ·
       rintro X ⟨s0,s1⟩;go_simp;try with_reducible rfl
      (first | simp only [Act.put,List.setIfInBounds_toArray,List.set_cons_zero,List.set_cons_succ] | skip)
      refine Hd.After.pureD (i:=2) (some 35) (.pointer (some ⟨X5,4,none⟩)) rfl rfl (by kernel_rfl) (by decide) (by kernel_rfl) (by kernel_rfl) (fun _ _ _ h=>h) (hS) (Or.inl ⟨by rfl,?_⟩) ?_
      ·
       intro X;go_simp;try with_reducible rfl
      (first | simp only [Act.put,List.setIfInBounds_toArray,List.set_cons_zero,List.set_cons_succ] | skip)
      refine Hd.After.takeD (i:=3) (some 36) (.slice (some ⟨g,0,none⟩) m.ks.length ck) rfl rfl (by kernel_rfl) (by kernel_rfl) (by kernel_rfl) (by kernel_rfl) (by kernel_rfl) (fun _ _ _ h=>h) (hS) (Or.inl ⟨by rfl,?_⟩) ?_
      ·
       rintro X ⟨s0,s1⟩;go_simp;try with_reducible rfl
      (first | simp only [Act.put,List.setIfInBounds_toArray,List.set_cons_zero,List.set_cons_succ] | skip)
      refine Hd.After.pureD (i:=4) (some 37) (.pointer (some ⟨g,0,none⟩)) rfl rfl (by kernel_rfl) (by decide) (by kernel_rfl) (by kernel_rfl) (fun _ _ _ h=>h) (hS) (Or.inl ⟨by rfl,?_⟩) ?_
      ·
       intro X;go_simp;try with_reducible rfl
      (first | simp only [Act.put,List.setIfInBounds_toArray,List.set_cons_zero,List.set_cons_succ] | skip)
      refine Hd.After.pureD (i:=5) (some 38) (.pointer (some ⟨g,1,none⟩)) rfl rfl (by kernel_rfl) (by decide) (by kernel_rfl) (by kernel_rfl) (fun _ _ _ h=>h) (hS) (Or.inl ⟨by rfl,?_⟩) ?_
      ·
       intro X;go_simp;try with_reducible rfl
      (first | simp only [Act.put,List.setIfInBounds_toArray,List.set_cons_zero,List.set_cons_succ] | skip)
      refine Hd.After.takeD (i:=6) (some 39) (.slice a0 n0 c0) rfl rfl (by kernel_rfl) (by kernel_rfl) (by kernel_rfl) (by kernel_rfl) (by kernel_rfl) (fun _ _ _ h=>h) (hS) (Or.inl ⟨by rfl,?_⟩) ?_
      ·
       rintro X ⟨s0,s1⟩;go_simp;try with_reducible rfl
      (first | simp only [Act.put,List.setIfInBounds_toArray,List.set_cons_zero,List.set_cons_succ] | skip)
      refine Hd.After.pureD (i:=7) (some 40) (.pointer (some ⟨b,0,none⟩)) rfl rfl (by kernel_rfl) (by decide) (by kernel_rfl) (by kernel_rfl) (fun _ _ _ h=>h) (hS) (Or.inl ⟨by rfl,?_⟩) ?_
      ·
       intro X;go_simp;try with_reducible rfl
      (first | simp only [Act.put,List.setIfInBounds_toArray,List.set_cons_zero,List.set_cons_succ] | skip)
      refine Hd.After.one (i:=8) (by kernel_rfl) rfl rfl ?_
      intro K hK
      go_simp
      go_wp2_with (go_at_call 44;refine (Cu.raw_any w0 b (KC+402) HMD.out.cu (by omega)).mono ?_;rintro e w8 ⟨z,rfl,_,_,hg8,hc8⟩)
      have HM8:Hid (Ms w w8 b X2 X5 (KC+404) 4000 m (.slice (some ⟨g,0,none⟩) m.ks.length ck) (.slice ax m.ts.length ct)):=HMD.out.step hg8 (hc8.mono (by omega))
      have HF8:Hid (Fr (fun q=>q=b) w7 w8):=(fr_below st).trans (fr_grown hg8 rfl)
      have hS8:w8.cell? ⟨X5,4,none⟩=some (.slice (some ⟨g,0,none⟩) m.ks.length ck)∧w8.cell? ⟨g,1,none⟩=some (.slice a0 n0 c0):=⟨(wr6 HM8.out.b5).2.1.2.2.2.2.1,(World.cell?_of_block (HF8.out.block g hgl (by omega))).trans HK1.out⟩
      clear hg8 hc8
      refine hK _ _ (fun _=>hS8) ?_
      clear hK K
      (first | simp only [Act.put,List.setIfInBounds_toArray,List.set_cons_zero,List.set_cons_succ] | skip)
      have hA:Below w8.heap.size w8 (w8.alloc (.cells #[.int .i64 z] 3)):=(Below.refl _ _).alloc (Nat.le_refl _) _
      have HFA:Hid (Fr (fun q=>q=b) w7 (w8.alloc (.cells #[.int .i64 z] 3))):=HF8.out.trans (fr_below hA)
      have hS9:(w8.alloc (.cells #[.int .i64 z] 3)).cell? ⟨X5,4,none⟩=some (.slice (some ⟨g,0,none⟩) m.ks.length ck)∧(w8.alloc (.cells #[.int .i64 z] 3)).cell? ⟨g,1,none⟩=some (.slice a0 n0 c0):=⟨(wr6 (HM8.out.below hA).b5).2.1.2.2.2.2.1,(World.cell?_of_block (HFA.out.block g hgl (by omega))).trans HK1.out⟩
      refine Hd.After.one (i:=9) (by kernel_rfl) rfl rfl ?_
      intro K hK
      go_simp
      refine hK _ _ (fun _=>hS9) ?_
      clear hK K
      (first | simp only [Act.put,List.setIfInBounds_toArray,List.set_cons_zero,List.set_cons_succ] | skip)
      refine Hd.After.one (i:=10) (by kernel_rfl) rfl rfl ?_
      intro K hK
      refine Sn.wp_snocI _ _ rfl (some 43) rfl 0 (.slice a0 n0 c0) m.ks[0].vs w8.heap.size z rfl rfl (by simp) (HOWN.out _ HFA.out) (Nat.zero_le _) (by rw [HEN.out];omega) ?_
      intro g9 c9 w9 hown9 hg9 hat9
      rw [HEN.out] at hown9 ⊢
      have HU:Hid ((Value.slice (some ⟨g9,0,none⟩) (n0+1) c9).ownBlock=(Value.slice a0 n0 c0).ownBlock ∨ ∃ F,(Value.slice (some ⟨g9,0,none⟩) (n0+1) c9).ownBlock=some F∧(w8.alloc (.cells #[.int .i64 z] 3)).heap.size≤F):=by
       show _ ∨ _
       rcases hat9 with e | e
       ·
        exact .inl e.symm
       ·
        exact .inr ⟨g9,rfl,e⟩
      have HMN:Hid (type_of% (HPUT.out _ (KC+1000) w9 (.slice (some ⟨g9,0,none⟩) (n0+1) c9) z HFA.out ((HM8.out.below hA).cu.mono (by omega)) hown9 hg9 HU.out)):=HPUT.out _ (KC+1000) w9 (.slice (some ⟨g9,0,none⟩) (n0+1) c9) z HFA.out ((HM8.out.below hA).cu.mono (by omega)) hown9 hg9 HU.out
      have hb9:=hg9.block g (Nat.lt_of_lt_of_le hgl HFA.out.size) (fun e=>(HNE.out g e.symm).2.2 rfl)
      have hx9:=hg9.block X5 (HM8.out.below hA).b5.1 (fun e=>(HNE.out X5 e.symm).2.1 rfl)
      have z4:w9.cell? ⟨X5,4,none⟩=some (.slice (some ⟨g,0,none⟩) m.ks.length ck):=(World.cell?_of_block hx9).trans hS9.1
      have k9:w9.cell? ⟨g,1,none⟩=some (.slice a0 n0 c0):=(World.cell?_of_block hb9).trans hS9.2
      have kf9:w9.frozen? ⟨g,1,none⟩=false:=(World.frozen?_of_block (hb9.trans (HFA.out.block g hgl (by omega)))).trans HKF.out
      clear hown9 hg9 hat9 hb9 hx9
      refine hK _ _ (fun _=>⟨z4,k9⟩) ?_
      clear hK K
      (first | simp only [Act.put,List.setIfInBounds_toArray,List.set_cons_zero,List.set_cons_succ] | skip)
      refine Hd.After.pureD (i:=11) (some 44) (.pointer (some ⟨g,0,none⟩)) rfl rfl (by kernel_rfl) (by decide) (by kernel_rfl) (by kernel_rfl) (fun _ _ _ h=>h) (⟨z4,k9⟩) (Or.inl ⟨by rfl,?_⟩) ?_
      ·
       intro X;go_simp;try with_reducible rfl
      (first | simp only [Act.put,List.setIfInBounds_toArray,List.set_cons_zero,List.set_cons_succ] | skip)
      refine Hd.After.pureD (i:=12) (some 45) (.pointer (some ⟨g,1,none⟩)) rfl rfl (by kernel_rfl) (by decide) (by kernel_rfl) (by kernel_rfl) (fun _ _ _ h=>h) (⟨z4,k9⟩) (Or.inl ⟨by rfl,?_⟩) ?_
      ·
       intro X;go_simp;try with_reducible rfl
      (first | simp only [Act.put,List.setIfInBounds_toArray,List.set_cons_zero,List.set_cons_succ] | skip)
      refine Hd.After.one (i:=13) (by kernel_rfl) rfl rfl ?_
      intro K hK
      go_simp
      refine hK _ _ (fun h=>by cases h) ?_
      clear hK K
      refine Hd.After.done (by kernel_rfl) ?_ _
      go_wp2_with fail
      go_meet
      case rel=>exact ⟨_,_,_,HMN.out.lower (by omega) (by omega)⟩
     ·
      have hks0:¬ (0:Int)<(m.ks.length:Int):=by omega
      go_wp2_with fail
      go_meet
      case rel=>exact ⟨_,_,_,HM7.out.lower (by omega) (by omega)⟩
  case rest =>
   clear HM6
   obtain ⟨m,vk,vt,ms⟩:=hcut
   obtain ⟨ak,ck,ax,ct,rfl,rfl,-⟩:=ms.om.rm
   have HMS:Hid (type_of% ms):=ms
   clear ms
   obtain ⟨hl2,⟨r0,r1,r2,r3,r4,r5⟩,e0,e1,e2,e3,e4,e5⟩:=wr6 HMS.out.b2
   obtain ⟨hl5,⟨x0,x1,x2,x3,x4,x5⟩,f0,f1,f2,f3,f4,f5⟩:=wr6 HMS.out.b5
   have h25w:=HMS.out.x5
   go_wp2_with fail
   refine bodyPost_ret (v:=.agg #[.int .i64 m.n,.int .i64 m.c,.int .i64 m.prior,.int .i64 m.base,.slice ak m.ks.length ck,.slice ax m.ts.length ct]) (by rw [Tb.results_cell rfl];go_simp) rfl ⟨m,_,_,rfl,HMS.out.sz,?_,?_,?_⟩
   ·
    have hS:=set6 wc X2 (.int .i64 m.n) (.int .i64 m.c) (.int .i64 m.prior) (.int .i64 m.base) (.slice ak m.ks.length ck) (.slice ax m.ts.length ct)
    exact ((HMS.out.om.fr hS (fun q hq e=>by omega)).bound).mono (fun q hq=>⟨by have:=HX2.out;omega,hq.2⟩)
   ·
    exact fr_out HMS.out.gr (set6 wc X2 _ _ _ _ _ _) (fun q e=>by omega) HX2.out
   ·
    exact curF HMS.out.cu (set6 wc X2 _ _ _ _ _ _) (fun q e=>by have:=HMS.out.bl;omega)
end Go.Proofs.YtaojoamldoofpaaGreatDoor.Dm
namespace Go.Proofs.YtaojoamldoofpaaGreatDoor.Sw
open Go.RowKit
open Li (ret_bool ret_int below_none)
open Tr Tm Ad
def allok (ts:List T):Bool:=ts.all tok
theorem allok_no {ts:List T} {k:Nat} (hk:k<ts.length) (h:tok ts[k]=false):allok ts=false:=by
 cases e:allok ts with
 | false=>rfl
 | true =>
  unfold allok at e
  rw [List.all_eq_true] at e
  rw [e _ (List.getElem_mem hk)] at h
  cases h
theorem allok_all {ts:List T} (h:∀ j (hj:j<ts.length),tok ts[j]=true):allok ts=true:=by
 unfold allok
 rw [List.all_eq_true]
 intro t ht
 obtain ⟨j,hj,rfl⟩:=List.getElem_of_mem ht
 exact h j hj
end Go.Proofs.YtaojoamldoofpaaGreatDoor.Sw
