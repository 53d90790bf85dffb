/-
  Contracts that the proof leans on, put together in the order in which they build.
-/
import Derived.Test.YtaojoamldoofpaaGreatDoorPart15
import Derived.Test.YtaojoamldoofpaaGreatDoorPart6
import Derived.Test.YtaojoamldoofpaaGreatDoorPart1
import Derived.Test.YtaojoamldoofpaaGreatDoorPart16
set_option linter.unusedVariables false
namespace Go.Proofs.YtaojoamldoofpaaGreatDoor.Dc
open Go.RowKit
open Oi
open Sv (Wr)
set_option maxRecDepth 40000
def mkA (b H:Nat) (v:Nat→Value):Act:=⟨#[.pointer (some ⟨b,0,none⟩),undef,.pointer (some ⟨H,0,none⟩),v 3,v 4,v 5,v 6,v 7,v 8,v 9,v 10,v 11,v 12,v 13,v 14,v 15,v 16,v 17,v 18,v 19,v 20,v 21,v 22,v 23,v 24,v 25,v 26,v 27,v 28,v 29,v 30,undef,undef,undef,undef,undef,undef,undef,undef,undef,undef,undef,undef,undef,undef,undef,undef,undef,undef,undef,undef,undef,undef,undef,undef,undef,undef,undef,undef,undef,undef,undef,undef,undef,undef,undef,undef,undef,undef,undef,undef,undef,undef,undef,undef,undef,undef,undef,undef,undef,undef,undef,undef,undef],[]⟩
def psi (b H:Nat):Nat→Value→World→Prop
 | 0,x,_=>x=.pointer (some ⟨b,0,none⟩)
 | 1,x,_=>∃ y,x=.int .i64 y
 | 2,x,_=>∃ y,x=.int .i64 y∧0≤y∧y<3
 | 3,x,w=>∃ g,x=.slice (some ⟨g,0,none⟩) 3 3∧¬ g=b∧g<w.heap.size∧∀ t:Nat,t<3→∃ z,w.cell? ⟨g,t,none⟩=some (.int .i64 z)
 | 4,x,w=>∃ g t z,x=.pointer (some ⟨g,t,none⟩)∧¬ g=b∧g<w.heap.size∧w.cell? ⟨g,t,none⟩=some (.int .i64 z)
 | 5,x,_=>∃ c:Cf.C,x=.agg #[.int .i64 c.trees,.int .i64 c.depth,.int .i64 c.most,.int .i64 c.rate,.int .i64 c.l2,.int .i64 c.prior,.int .i64 c.seed]
 | 6,x,w=>∃ g,x=.pointer (some ⟨g,0,none⟩)∧¬ g=b∧H<g∧Wr w g 0 [.int .i64 0,.int .i64 0,.int .i64 0,.int .i64 0,.int .i64 0,.int .i64 0,.int .i64 0]
 | _,_,_=>True
def Rl (b:Nat) (w w':World):Prop:=w.heap.size≤w'.heap.size∧∀ k,k<w.heap.size→¬ k=b→w'.heap[k]? = w.heap[k]?
theorem rl_refl (b:Nat) (w:World):Rl b w w:=⟨Nat.le_refl _,fun _ _ _=>rfl⟩
theorem rl_grown {b:Nat} {w w':World} (h:w.grownBy w' (some b)):Rl b w w':=⟨h.size,fun k hk hn=>h.block k hk (fun e=>hn (by injection e))⟩
theorem rl_alloc (b:Nat) (w:World) (o:Obj):Rl b w (w.alloc o):=⟨by simp,fun k hk _=>Below.heap_alloc _ _ _ hk⟩
theorem psi_rl {b H:Nat} {w w':World} (h:Rl b w w'):∀ {c:Nat} {x:Value},psi b H c x w→psi b H c x w'
 | 0,_,hx=>hx
 | 1,_,hx=>hx
 | 2,_,hx=>hx
 | 3, _, ⟨g, e, hb, hl, hc⟩ => ⟨g, e, hb, Nat.lt_of_lt_of_le hl h.1, fun t ht => by
   obtain ⟨z,hz⟩:=hc t ht
   exact ⟨z,by rw [World.cell?_of_block (w:=w) (a:=⟨g,t,none⟩) (h.2 g hl hb)];exact hz⟩⟩
 | 4,_,⟨g,t,z,e,hb,hl,hc⟩=>⟨g,t,z,e,hb,Nat.lt_of_lt_of_le hl h.1,by rw [World.cell?_of_block (w:=w) (a:=⟨g,t,none⟩) (h.2 g hl hb)];exact hc⟩
 | 5,_,hx=>hx
 | 6,_,⟨g,e,hb,hH,hw⟩=>⟨g,e,hb,hH,hw.keptAt h.1 (h.2 g hw.1 hb)⟩
 | _+7,_,_=>trivial
def code (i:Nat):Nat:=([0,1,0,1,0,1,1,3,0,2,4,1,3,0,2,4,1,3,0,2,4,1,0,1,1,1,5,6]:List Nat).getD i 7
def dst (i:Nat):Nat:=([4,5,6,7,8,9,10,11,12,13,14,15,16,17,18,19,20,21,22,23,24,25,26,27,28,29,30,3]:List Nat).getD i 1000
theorem dst_inj:∀ i,i<28→∀ j,j<28→dst i=dst j→i=j:=by decide
def Inv (b H:Nat) (K:Int) (W:World) (l:Array Bool) (a:Act) (w:World):Prop :=
 (l.getD 28 false=true∧(∀ i,i<29→l.getD i false=true)∧∃ v g,∃ c:Cf.C,a=mkA b H v∧v 3=.pointer (some ⟨g,0,none⟩)∧¬ g=b∧H<g∧Wr w g 0 c.cells∧W.grownBy w (some b)∧Cu.Cur w b (K+29)) ∨
 (l.getD 28 false=false∧∃ v,a=mkA b H v∧W.grownBy w (some b)∧Cu.Cur w b (K+cnt l)∧∀ i,i<28→l.getD i false=true→psi b H (code i) (v (dst i)) w)
theorem inv_put {b H:Nat} {K:Int} {W w w':World} {l:Array Bool} {v:Nat→Value} {j:Nat} {x:Value} (hj:j<28) (hjf:l.getD j true=false) (h28:l.getD 28 false=false) (hv:∀ i,i<28→l.getD i false=true→psi b H (code i) (v (dst i)) w)
  (hR:Rl b w w') (hg:W.grownBy w' (some b)) (hc:Cu.Cur w' b (K+cnt l+1)) (hx:psi b H (code j) x w'):Inv b H K W (l.setIfInBounds j true) (mkA b H (upd v (dst j) x)) w':=by
 refine .inr ⟨by rw [getD_set_ne false (by omega)];exact h28,_,rfl,hg,by rw [cnt_set hjf];exact hc.mono (by omega),fun i hi hd=>?_⟩
 by_cases e:i=j
 ·
  subst e;rw [upd_same];exact hx
 ·
  rw [upd_ne (fun h=>e (dst_inj i hi j hj h))]
  exact psi_rl hR (hv i hi (done_set hd e))
theorem act_eq {b H:Nat} {K:Int} {W w:World} {l:Array Bool} {a a':Act} (h:Inv b H K W l a w) (e:a=a'):Inv b H K W l a' w:=e ▸ h
theorem rep_false (n i:Nat):(Array.replicate n false).getD i false=false:=by
 rw [Array.getD_eq_getD_getElem?,Array.getElem?_replicate]
 split <;> rfl
theorem lt29 {j:Nat} (h:j<29):j=0 ∨ j=1 ∨ j=2 ∨ j=3 ∨ j=4 ∨ j=5 ∨ j=6 ∨ j=7 ∨ j=8 ∨ j=9 ∨ j=10 ∨ j=11 ∨ j=12 ∨ j=13 ∨ j=14 ∨ j=15 ∨ j=16 ∨ j=17 ∨ j=18 ∨ j=19 ∨ j=20 ∨ j=21 ∨ j=22 ∨ j=23 ∨ j=24 ∨ j=25 ∨ j=26 ∨ j=27 ∨ j=28:=by omega
theorem lt28 {j:Nat} (h:j<28):j=0 ∨ j=1 ∨ j=2 ∨ j=3 ∨ j=4 ∨ j=5 ∨ j=6 ∨ j=7 ∨ j=8 ∨ j=9 ∨ j=10 ∨ j=11 ∨ j=12 ∨ j=13 ∨ j=14 ∨ j=15 ∨ j=16 ∨ j=17 ∨ j=18 ∨ j=19 ∨ j=20 ∨ j=21 ∨ j=22 ∨ j=23 ∨ j=24 ∨ j=25 ∨ j=26 ∨ j=27:=by omega
theorem tab3 (w:World) (x y z:Int) (T:TypeId) (t:Nat) (ht:t<3):∃ u,(w.alloc (.cells #[.int .i64 x,.int .i64 y,.int .i64 z] T)).cell? ⟨w.heap.size,t,none⟩=some (.int .i64 u):=by
 have:t=0 ∨ t=1 ∨ t=2:=by omega
 rcases this with rfl | rfl | rfl
 ·
  exact ⟨x,by simp [World.cell?_alloc_new]⟩
 ·
  exact ⟨y,by simp [World.cell?_alloc_new]⟩
 ·
  exact ⟨z,by simp [World.cell?_alloc_new]⟩
theorem st7 {W w:World} {b g:Nat} {x0 x1 x2 x3 x4 x5 x6:Value} (h:W.grownBy w (some b)) (hg:W.heap.size≤g):W.grownBy (((((((w.setCell ⟨g,0,none⟩ x0).setCell ⟨g,1,none⟩ x1).setCell ⟨g,2,none⟩ x2).setCell ⟨g,3,none⟩ x3).setCell ⟨g,4,none⟩ x4).setCell ⟨g,5,none⟩ x5).setCell ⟨g,6,none⟩ x6) (some b):=by
 have one:∀ {w:World} (o:Nat) (x:Value),W.grownBy w (some b)→W.grownBy (w.setCell ⟨g,o,none⟩ x) (some b):=fun {w} o x h =>
  ⟨h.os,h.tape,h.output,by simpa [World.setCell] using h.size,fun k hk hn=>(Below.heap_setCell _ _ _ _ (fun e=>by have:k=g:=e;omega)).trans (h.block k hk hn)⟩
 exact one 6 _ (one 5 _ (one 4 _ (one 3 _ (one 2 _ (one 1 _ (one 0 _ h))))))
theorem cur7 {w:World} {b g:Nat} {K:Int} {x0 x1 x2 x3 x4 x5 x6:Value} (h:Cu.Cur w b K) (hbg:b<g):Cu.Cur (((((((w.setCell ⟨g,0,none⟩ x0).setCell ⟨g,1,none⟩ x1).setCell ⟨g,2,none⟩ x2).setCell ⟨g,3,none⟩ x3).setCell ⟨g,4,none⟩ x4).setCell ⟨g,5,none⟩ x5).setCell ⟨g,6,none⟩ x6) b K:=by
 have one:∀ {w:World} (o:Nat) (x:Value),Cu.Cur w b K→Cu.Cur (w.setCell ⟨g,o,none⟩ x) b K:=fun {w} o x h =>
  h.keptB (by simp [World.setCell]) (fun k hk=>Below.heap_setCell _ _ _ _ (fun e=>by have:k=g:=e;omega))
 exact one 6 _ (one 5 _ (one 4 _ (one 3 _ (one 2 _ (one 1 _ (one 0 _ h))))))
theorem grown_set {W w:World} {b g o:Nat} {x:Value} (h:W.grownBy w (some b)) (hg:W.heap.size≤g):W.grownBy (w.setCell ⟨g,o,none⟩ x) (some b) :=
 ⟨h.os,h.tape,h.output,by simpa [World.setCell] using h.size,fun k hk hn=>(Below.heap_setCell _ _ _ _ (fun e=>by have:k=g:=e;omega)).trans (h.block k hk hn)⟩
theorem cur_set {w:World} {b g o:Nat} {K:Int} {x:Value} (h:Cu.Cur w b K) (hbg:b<g):Cu.Cur (w.setCell ⟨g,o,none⟩ x) b K :=
 h.keptB (by simp [World.setCell]) (fun k hk=>Below.heap_setCell _ _ _ _ (fun e=>by have:k=g:=e;omega))
theorem wr7 {w:World} {g:Nat} {x0 x1 x2 x3 x4 x5 x6:Value} (h:Wr w g 0 [x0,x1,x2,x3,x4,x5,x6]):g<w.heap.size∧(w.cell? ⟨g,0,none⟩=some x0∧w.cell? ⟨g,1,none⟩=some x1∧w.cell? ⟨g,2,none⟩=some x2∧w.cell? ⟨g,3,none⟩=some x3∧w.cell? ⟨g,4,none⟩=some x4∧w.cell? ⟨g,5,none⟩=some x5∧w.cell? ⟨g,6,none⟩=some x6)∧(w.frozen? ⟨g,0,none⟩=false∧w.frozen? ⟨g,1,none⟩=false∧w.frozen? ⟨g,2,none⟩=false∧w.frozen? ⟨g,3,none⟩=false∧w.frozen? ⟨g,4,none⟩=false∧w.frozen? ⟨g,5,none⟩=false∧w.frozen? ⟨g,6,none⟩=false):=by
 have c:=fun j hj=>(h.2 j hj).1
 have f:=fun j hj=>(h.2 j hj).2
 simp only [Nat.zero_add] at c f
 exact ⟨h.1,⟨c 0 (by simp),c 1 (by simp),c 2 (by simp),c 3 (by simp),c 4 (by simp),c 5 (by simp),c 6 (by simp)⟩,f 0 (by simp),f 1 (by simp),f 2 (by simp),f 3 (by simp),f 4 (by simp),f 5 (by simp),f 6 (by simp)⟩
theorem wr_cur {w w1:World} {b g:Nat} {vs:List Value} (h:Wr w g 0 vs) (hg:w.grownBy w1 (some b)) (hn:¬ g=b):Wr w1 g 0 vs:=h.keptAt hg.size (hg.block g h.1 (fun e=>hn (by injection e)))
set_option maxHeartbeats 40000000 in
theorem conf_any (w:World) (b:Nat) (K:Int) (hc:Cu.Cur w b K) (hK:K≤10000000000000) :
  Calls Tryz.prog 42 #[.pointer (some ⟨b,0,none⟩)] w fun e w'=>∃ c:Cf.C,e=.returned (.agg #[.int .i64 c.trees,.int .i64 c.depth,.int .i64 c.most,.int .i64 c.rate,.int .i64 c.l2,.int .i64 c.prior,.int .i64 c.seed])∧w.grownBy w' (some b)∧Cu.Cur w' b (K+100):=by
 have hbw:=hc.lt
 go_enter Tryz.func42,Tryz.ntmps42
 go_wp2_with fail
 rename_i K1 hK1
 have HK1:Hid (type_of% hK1):=hK1
 clear hK1
 obtain ⟨W,hW,hsz,hB,bx⟩:=Sv.new1 w [.int .i64 0,.int .i64 0,.int .i64 0,.int .i64 0,.int .i64 0,.int .i64 0,.int .i64 0] 82
 rw [hW]
 have hcW:Cu.Cur W b K:=by rw [← hW];exact hc.alloc _
 have hgW:w.grownBy W (some b):=by rw [← hW];exact Cu.grown_alloc (Cu.grown_refl _ _) _
 clear hW
 obtain ⟨H,hH⟩:∃ H,w.heap.size=H:=⟨_,rfl⟩
 rw [hH] at hsz bx hbw ⊢
 have HH:Hid (w.heap.size=H):=hH
 have hbH:¬ H=b:=by omega
 clear hH
 refine Oi.start (Inv b H K W) (by kernel_rfl) ?_ ?_ ?_
 ·
  refine .inr ⟨by rfl,fun _=>undef,rfl,⟨rfl,rfl,rfl,Nat.le_refl _,fun _ _ _=>rfl⟩,hcW.drew.mono (by omega),fun i hi hd=>?_⟩
  exfalso
  rw [rep_false] at hd
  cases hd
 ·
  intro l a w1 j hs hI hj
  have hlt:=ready_lt hj
  have hjf:=(mem_ready.1 hj).1
  have hlt:j<29:=hlt
  have hcl:cnt l≤29:=by have:=cnt_le l;rw [hs] at this;exact this
  rcases hI with ⟨_,hall,_⟩ | ⟨h28,v,rfl,hg,hcu,hv⟩
  ·
   exfalso
   have h1:=hall j hlt
   obtain ⟨h2,h3⟩:=getD_false hjf
   rw [Array.getD_eq_getD_getElem?,h3] at h1
   simp at h1
  have hltw:=hcu.lt
  have hWw:=hg.size
  rcases lt29 hlt with rfl | rfl | rfl | rfl | rfl | rfl | rfl | rfl | rfl | rfl | rfl | rfl | rfl | rfl | rfl | rfl | rfl | rfl | rfl | rfl | rfl | rfl | rfl | rfl | rfl | rfl | rfl | rfl | rfl
  ·
   refine op_step rfl rfl ?_
   intro K2 hK2
   unfold mkA
   go_simp
   refine hK2 _ _ ?_
   refine act_eq (inv_put (j:=0) (x:=.pointer (some ⟨b,0,none⟩)) (by omega) hjf h28 hv (rl_refl _ _) hg (hcu.mono (by omega)) (show psi b H 0 _ _ from rfl)) ?_
   show mkA b H (upd v 4 _)=_
   first | rfl | simp [mkA,upd]
  ·
   have D0:=hv 0 (by omega) (dep hj (by kernel_rfl))
   change psi b H 0 (v 4) w1 at D0
   have e4:v 4=.pointer (some ⟨b,0,none⟩):=D0
   refine op_step rfl rfl ?_
   intro K2 hK2
   unfold mkA
   go_simp
   go_wp2_with (go_at_call 20;refine (Cu.pick_any _ _ _ hcu (by omega) _ (by omega)).mono ?_;rintro e w2 ⟨y,rfl,y0,y1,hg2,hz2,hc2⟩)
   refine act_eq (inv_put (j:=1) (x:=.int .i64 y) (by omega) hjf h28 hv (rl_grown hg2) (Cu.grown_trans hg hg2) (hc2.mono (by omega)) (show psi b H 1 _ _ from ⟨y,rfl⟩)) ?_
   show mkA b H (upd v 5 _)=_
   first | rfl | simp [mkA,upd,e4]
  ·
   refine op_step rfl rfl ?_
   intro K2 hK2
   unfold mkA
   go_simp
   refine hK2 _ _ ?_
   refine act_eq (inv_put (j:=2) (x:=.pointer (some ⟨b,0,none⟩)) (by omega) hjf h28 hv (rl_refl _ _) hg (hcu.mono (by omega)) (show psi b H 0 _ _ from rfl)) ?_
   show mkA b H (upd v 6 _)=_
   first | rfl | simp [mkA,upd]
  ·
   have D2:=hv 2 (by omega) (dep hj (by kernel_rfl))
   change psi b H 0 (v 6) w1 at D2
   have e6:v 6=.pointer (some ⟨b,0,none⟩):=D2
   refine op_step rfl rfl ?_
   intro K2 hK2
   unfold mkA
   go_simp
   go_wp2_with (go_at_call 20;refine (Cu.pick_any _ _ _ hcu (by omega) _ (by omega)).mono ?_;rintro e w2 ⟨y,rfl,y0,y1,hg2,hz2,hc2⟩)
   refine act_eq (inv_put (j:=3) (x:=.int .i64 y) (by omega) hjf h28 hv (rl_grown hg2) (Cu.grown_trans hg hg2) (hc2.mono (by omega)) (show psi b H 1 _ _ from ⟨y,rfl⟩)) ?_
   show mkA b H (upd v 7 _)=_
   first | rfl | simp [mkA,upd,e6]
  ·
   refine op_step rfl rfl ?_
   intro K2 hK2
   unfold mkA
   go_simp
   refine hK2 _ _ ?_
   refine act_eq (inv_put (j:=4) (x:=.pointer (some ⟨b,0,none⟩)) (by omega) hjf h28 hv (rl_refl _ _) hg (hcu.mono (by omega)) (show psi b H 0 _ _ from rfl)) ?_
   show mkA b H (upd v 8 _)=_
   first | rfl | simp [mkA,upd]
  ·
   have D4:=hv 4 (by omega) (dep hj (by kernel_rfl))
   change psi b H 0 (v 8) w1 at D4
   have e8:v 8=.pointer (some ⟨b,0,none⟩):=D4
   refine op_step rfl rfl ?_
   intro K2 hK2
   unfold mkA
   go_simp
   go_wp2_with (go_at_call 20;refine (Cu.pick_any _ _ _ hcu (by omega) _ (by omega)).mono ?_;rintro e w2 ⟨y,rfl,y0,y1,hg2,hz2,hc2⟩)
   refine act_eq (inv_put (j:=5) (x:=.int .i64 y) (by omega) hjf h28 hv (rl_grown hg2) (Cu.grown_trans hg hg2) (hc2.mono (by omega)) (show psi b H 1 _ _ from ⟨y,rfl⟩)) ?_
   show mkA b H (upd v 9 _)=_
   first | rfl | simp [mkA,upd,e8]
  ·
   have D5:=hv 5 (by omega) (dep hj (by kernel_rfl))
   change psi b H 1 (v 9) w1 at D5
   obtain ⟨y9,e9⟩:=D5
   refine op_step rfl rfl ?_
   intro K2 hK2
   unfold mkA
   go_simp
   refine hK2 _ _ ?_
   refine act_eq (inv_put (j:=6) (x:=.int .i64 (IntKind.i64.wrap (1+y9))) (by omega) hjf h28 hv (rl_refl _ _) hg (hcu.mono (by omega)) (show psi b H 1 _ _ from ⟨_,rfl⟩)) ?_
   show mkA b H (upd v 10 _)=_
   first | rfl | simp [mkA,upd,e9]
  ·
   refine op_step rfl rfl ?_
   intro K2 hK2
   unfold mkA
   go_simp
   refine hK2 _ _ ?_
   refine act_eq (inv_put (j:=7) (x:=.slice (some ⟨w1.heap.size,0,none⟩) 3 3) (by omega) hjf h28 hv (rl_alloc _ _ _) (Cu.grown_alloc hg _) ((hcu.alloc _).mono (by omega)) (show psi b H 3 _ _ from ⟨w1.heap.size,rfl,by omega,by simp,fun t ht=>tab3 w1 _ _ _ _ t ht⟩)) ?_
   show mkA b H (upd v 11 _)=_
   first | rfl | simp [mkA,upd]
  ·
   refine op_step rfl rfl ?_
   intro K2 hK2
   unfold mkA
   go_simp
   refine hK2 _ _ ?_
   refine act_eq (inv_put (j:=8) (x:=.pointer (some ⟨b,0,none⟩)) (by omega) hjf h28 hv (rl_refl _ _) hg (hcu.mono (by omega)) (show psi b H 0 _ _ from rfl)) ?_
   show mkA b H (upd v 12 _)=_
   first | rfl | simp [mkA,upd]
  ·
   have D8:=hv 8 (by omega) (dep hj (by kernel_rfl))
   change psi b H 0 (v 12) w1 at D8
   have e12:v 12=.pointer (some ⟨b,0,none⟩):=D8
   refine op_step rfl rfl ?_
   intro K2 hK2
   unfold mkA
   go_simp
   go_wp2_with (go_at_call 20;refine (Cu.pick_any _ _ _ hcu (by omega) _ (by omega)).mono ?_;rintro e w2 ⟨y,rfl,y0,y1,hg2,hz2,hc2⟩)
   refine act_eq (inv_put (j:=9) (x:=.int .i64 y) (by omega) hjf h28 hv (rl_grown hg2) (Cu.grown_trans hg hg2) (hc2.mono (by omega)) (show psi b H 2 _ _ from ⟨y,rfl,y0,y1 (by omega)⟩)) ?_
   show mkA b H (upd v 13 _)=_
   first | rfl | simp [mkA,upd,e12]
  ·
   have D7:=hv 7 (by omega) (dep hj (by kernel_rfl))
   change psi b H 3 (v 11) w1 at D7
   obtain ⟨g11,e11,n11,s11,c11⟩:=D7
   have D9:=hv 9 (by omega) (dep hj (by kernel_rfl))
   change psi b H 2 (v 13) w1 at D9
   obtain ⟨y13,e13,l13,u13⟩:=D9
   refine op_step rfl rfl ?_
   intro K2 hK2
   unfold mkA
   obtain ⟨z,hz⟩:=c11 y13.toNat (by omega)
   go_simp
   refine hK2 _ _ ?_
   refine act_eq (inv_put (j:=10) (x:=.pointer (some ⟨g11,y13.toNat,none⟩)) (by omega) hjf h28 hv (rl_refl _ _) hg (hcu.mono (by omega)) (show psi b H 4 _ _ from ⟨g11,y13.toNat,z,rfl,n11,s11,hz⟩)) ?_
   show mkA b H (upd v 14 _)=_
   first | rfl | simp [mkA,upd,e11,e13]
  ·
   have D10:=hv 10 (by omega) (dep hj (by kernel_rfl))
   change psi b H 4 (v 14) w1 at D10
   obtain ⟨g14,t14,z14,e14,n14,s14,c14⟩:=D10
   refine op_step rfl rfl ?_
   intro K2 hK2
   unfold mkA
   go_simp
   refine hK2 _ _ ?_
   refine act_eq (inv_put (j:=11) (x:=.int .i64 z14) (by omega) hjf h28 hv (rl_refl _ _) hg (hcu.mono (by omega)) (show psi b H 1 _ _ from ⟨z14,rfl⟩)) ?_
   show mkA b H (upd v 15 _)=_
   first | rfl | simp [mkA,upd,e14]
  ·
   refine op_step rfl rfl ?_
   intro K2 hK2
   unfold mkA
   go_simp
   refine hK2 _ _ ?_
   refine act_eq (inv_put (j:=12) (x:=.slice (some ⟨w1.heap.size,0,none⟩) 3 3) (by omega) hjf h28 hv (rl_alloc _ _ _) (Cu.grown_alloc hg _) ((hcu.alloc _).mono (by omega)) (show psi b H 3 _ _ from ⟨w1.heap.size,rfl,by omega,by simp,fun t ht=>tab3 w1 _ _ _ _ t ht⟩)) ?_
   show mkA b H (upd v 16 _)=_
   first | rfl | simp [mkA,upd]
  ·
   refine op_step rfl rfl ?_
   intro K2 hK2
   unfold mkA
   go_simp
   refine hK2 _ _ ?_
   refine act_eq (inv_put (j:=13) (x:=.pointer (some ⟨b,0,none⟩)) (by omega) hjf h28 hv (rl_refl _ _) hg (hcu.mono (by omega)) (show psi b H 0 _ _ from rfl)) ?_
   show mkA b H (upd v 17 _)=_
   first | rfl | simp [mkA,upd]
  ·
   have D13:=hv 13 (by omega) (dep hj (by kernel_rfl))
   change psi b H 0 (v 17) w1 at D13
   have e17:v 17=.pointer (some ⟨b,0,none⟩):=D13
   refine op_step rfl rfl ?_
   intro K2 hK2
   unfold mkA
   go_simp
   go_wp2_with (go_at_call 20;refine (Cu.pick_any _ _ _ hcu (by omega) _ (by omega)).mono ?_;rintro e w2 ⟨y,rfl,y0,y1,hg2,hz2,hc2⟩)
   refine act_eq (inv_put (j:=14) (x:=.int .i64 y) (by omega) hjf h28 hv (rl_grown hg2) (Cu.grown_trans hg hg2) (hc2.mono (by omega)) (show psi b H 2 _ _ from ⟨y,rfl,y0,y1 (by omega)⟩)) ?_
   show mkA b H (upd v 18 _)=_
   first | rfl | simp [mkA,upd,e17]
  ·
   have D12:=hv 12 (by omega) (dep hj (by kernel_rfl))
   change psi b H 3 (v 16) w1 at D12
   obtain ⟨g16,e16,n16,s16,c16⟩:=D12
   have D14:=hv 14 (by omega) (dep hj (by kernel_rfl))
   change psi b H 2 (v 18) w1 at D14
   obtain ⟨y18,e18,l18,u18⟩:=D14
   refine op_step rfl rfl ?_
   intro K2 hK2
   unfold mkA
   obtain ⟨z,hz⟩:=c16 y18.toNat (by omega)
   go_simp
   refine hK2 _ _ ?_
   refine act_eq (inv_put (j:=15) (x:=.pointer (some ⟨g16,y18.toNat,none⟩)) (by omega) hjf h28 hv (rl_refl _ _) hg (hcu.mono (by omega)) (show psi b H 4 _ _ from ⟨g16,y18.toNat,z,rfl,n16,s16,hz⟩)) ?_
   show mkA b H (upd v 19 _)=_
   first | rfl | simp [mkA,upd,e16,e18]
  ·
   have D15:=hv 15 (by omega) (dep hj (by kernel_rfl))
   change psi b H 4 (v 19) w1 at D15
   obtain ⟨g19,t19,z19,e19,n19,s19,c19⟩:=D15
   refine op_step rfl rfl ?_
   intro K2 hK2
   unfold mkA
   go_simp
   refine hK2 _ _ ?_
   refine act_eq (inv_put (j:=16) (x:=.int .i64 z19) (by omega) hjf h28 hv (rl_refl _ _) hg (hcu.mono (by omega)) (show psi b H 1 _ _ from ⟨z19,rfl⟩)) ?_
   show mkA b H (upd v 20 _)=_
   first | rfl | simp [mkA,upd,e19]
  ·
   refine op_step rfl rfl ?_
   intro K2 hK2
   unfold mkA
   go_simp
   refine hK2 _ _ ?_
   refine act_eq (inv_put (j:=17) (x:=.slice (some ⟨w1.heap.size,0,none⟩) 3 3) (by omega) hjf h28 hv (rl_alloc _ _ _) (Cu.grown_alloc hg _) ((hcu.alloc _).mono (by omega)) (show psi b H 3 _ _ from ⟨w1.heap.size,rfl,by omega,by simp,fun t ht=>tab3 w1 _ _ _ _ t ht⟩)) ?_
   show mkA b H (upd v 21 _)=_
   first | rfl | simp [mkA,upd]
  ·
   refine op_step rfl rfl ?_
   intro K2 hK2
   unfold mkA
   go_simp
   refine hK2 _ _ ?_
   refine act_eq (inv_put (j:=18) (x:=.pointer (some ⟨b,0,none⟩)) (by omega) hjf h28 hv (rl_refl _ _) hg (hcu.mono (by omega)) (show psi b H 0 _ _ from rfl)) ?_
   show mkA b H (upd v 22 _)=_
   first | rfl | simp [mkA,upd]
  ·
   have D18:=hv 18 (by omega) (dep hj (by kernel_rfl))
   change psi b H 0 (v 22) w1 at D18
   have e22:v 22=.pointer (some ⟨b,0,none⟩):=D18
   refine op_step rfl rfl ?_
   intro K2 hK2
   unfold mkA
   go_simp
   go_wp2_with (go_at_call 20;refine (Cu.pick_any _ _ _ hcu (by omega) _ (by omega)).mono ?_;rintro e w2 ⟨y,rfl,y0,y1,hg2,hz2,hc2⟩)
   refine act_eq (inv_put (j:=19) (x:=.int .i64 y) (by omega) hjf h28 hv (rl_grown hg2) (Cu.grown_trans hg hg2) (hc2.mono (by omega)) (show psi b H 2 _ _ from ⟨y,rfl,y0,y1 (by omega)⟩)) ?_
   show mkA b H (upd v 23 _)=_
   first | rfl | simp [mkA,upd,e22]
  ·
   have D17:=hv 17 (by omega) (dep hj (by kernel_rfl))
   change psi b H 3 (v 21) w1 at D17
   obtain ⟨g21,e21,n21,s21,c21⟩:=D17
   have D19:=hv 19 (by omega) (dep hj (by kernel_rfl))
   change psi b H 2 (v 23) w1 at D19
   obtain ⟨y23,e23,l23,u23⟩:=D19
   refine op_step rfl rfl ?_
   intro K2 hK2
   unfold mkA
   obtain ⟨z,hz⟩:=c21 y23.toNat (by omega)
   go_simp
   refine hK2 _ _ ?_
   refine act_eq (inv_put (j:=20) (x:=.pointer (some ⟨g21,y23.toNat,none⟩)) (by omega) hjf h28 hv (rl_refl _ _) hg (hcu.mono (by omega)) (show psi b H 4 _ _ from ⟨g21,y23.toNat,z,rfl,n21,s21,hz⟩)) ?_
   show mkA b H (upd v 24 _)=_
   first | rfl | simp [mkA,upd,e21,e23]
  ·
   have D20:=hv 20 (by omega) (dep hj (by kernel_rfl))
   change psi b H 4 (v 24) w1 at D20
   obtain ⟨g24,t24,z24,e24,n24,s24,c24⟩:=D20
   refine op_step rfl rfl ?_
   intro K2 hK2
   unfold mkA
   go_simp
   refine hK2 _ _ ?_
   refine act_eq (inv_put (j:=21) (x:=.int .i64 z24) (by omega) hjf h28 hv (rl_refl _ _) hg (hcu.mono (by omega)) (show psi b H 1 _ _ from ⟨z24,rfl⟩)) ?_
   show mkA b H (upd v 25 _)=_
   first | rfl | simp [mkA,upd,e24]
  ·
   refine op_step rfl rfl ?_
   intro K2 hK2
   unfold mkA
   go_simp
   refine hK2 _ _ ?_
   refine act_eq (inv_put (j:=22) (x:=.pointer (some ⟨b,0,none⟩)) (by omega) hjf h28 hv (rl_refl _ _) hg (hcu.mono (by omega)) (show psi b H 0 _ _ from rfl)) ?_
   show mkA b H (upd v 26 _)=_
   first | rfl | simp [mkA,upd]
  ·
   have D22:=hv 22 (by omega) (dep hj (by kernel_rfl))
   change psi b H 0 (v 26) w1 at D22
   have e26:v 26=.pointer (some ⟨b,0,none⟩):=D22
   refine op_step rfl rfl ?_
   intro K2 hK2
   unfold mkA
   go_simp
   go_wp2_with (go_at_call 20;refine (Cu.pick_any _ _ _ hcu (by omega) _ (by omega)).mono ?_;rintro e w2 ⟨y,rfl,y0,y1,hg2,hz2,hc2⟩)
   refine act_eq (inv_put (j:=23) (x:=.int .i64 y) (by omega) hjf h28 hv (rl_grown hg2) (Cu.grown_trans hg hg2) (hc2.mono (by omega)) (show psi b H 1 _ _ from ⟨y,rfl⟩)) ?_
   show mkA b H (upd v 27 _)=_
   first | rfl | simp [mkA,upd,e26]
  ·
   have D23:=hv 23 (by omega) (dep hj (by kernel_rfl))
   change psi b H 1 (v 27) w1 at D23
   obtain ⟨y27,e27⟩:=D23
   refine op_step rfl rfl ?_
   intro K2 hK2
   unfold mkA
   go_simp
   refine hK2 _ _ ?_
   refine act_eq (inv_put (j:=24) (x:=.int .i64 (IntKind.i64.wrap (y27 * 101))) (by omega) hjf h28 hv (rl_refl _ _) hg (hcu.mono (by omega)) (show psi b H 1 _ _ from ⟨_,rfl⟩)) ?_
   show mkA b H (upd v 28 _)=_
   first | rfl | simp [mkA,upd,e27]
  ·
   have D24:=hv 24 (by omega) (dep hj (by kernel_rfl))
   change psi b H 1 (v 28) w1 at D24
   obtain ⟨y28,e28⟩:=D24
   refine op_step rfl rfl ?_
   intro K2 hK2
   unfold mkA
   go_simp
   refine hK2 _ _ ?_
   refine act_eq (inv_put (j:=25) (x:=.int .i64 (IntKind.i64.wrap (1+y28))) (by omega) hjf h28 hv (rl_refl _ _) hg (hcu.mono (by omega)) (show psi b H 1 _ _ from ⟨_,rfl⟩)) ?_
   show mkA b H (upd v 29 _)=_
   first | rfl | simp [mkA,upd,e28]
  ·
   have D1:=hv 1 (by omega) (dep hj (by kernel_rfl))
   change psi b H 1 (v 5) w1 at D1
   obtain ⟨y5,e5⟩:=D1
   have D3:=hv 3 (by omega) (dep hj (by kernel_rfl))
   change psi b H 1 (v 7) w1 at D3
   obtain ⟨y7,e7⟩:=D3
   have D6:=hv 6 (by omega) (dep hj (by kernel_rfl))
   change psi b H 1 (v 10) w1 at D6
   obtain ⟨y10,e10⟩:=D6
   have D11:=hv 11 (by omega) (dep hj (by kernel_rfl))
   change psi b H 1 (v 15) w1 at D11
   obtain ⟨y15,e15⟩:=D11
   have D16:=hv 16 (by omega) (dep hj (by kernel_rfl))
   change psi b H 1 (v 20) w1 at D16
   obtain ⟨y20,e20⟩:=D16
   have D21:=hv 21 (by omega) (dep hj (by kernel_rfl))
   change psi b H 1 (v 25) w1 at D21
   obtain ⟨y25,e25⟩:=D21
   have D25:=hv 25 (by omega) (dep hj (by kernel_rfl))
   change psi b H 1 (v 29) w1 at D25
   obtain ⟨y29,e29⟩:=D25
   refine op_step rfl rfl ?_
   intro K2 hK2
   unfold mkA
   go_simp
   refine hK2 _ _ ?_
   refine act_eq (inv_put (j:=26) (x:=.agg #[.int .i64 y5,.int .i64 y7,.int .i64 y10,.int .i64 y15,.int .i64 y20,.int .i64 y25,.int .i64 y29]) (by omega) hjf h28 hv (rl_refl _ _) hg (hcu.mono (by omega)) (show psi b H 5 _ _ from ⟨⟨y5,y7,y10,y15,y20,y25,y29⟩,rfl⟩)) ?_
   show mkA b H (upd v 30 _)=_
   first | rfl | simp [mkA,upd,e5,e7,e10,e15,e20,e25,e29]
  ·
   refine op_step rfl rfl ?_
   intro K2 hK2
   unfold mkA
   go_simp
   refine hK2 _ _ ?_
   refine act_eq (inv_put (j:=27) (x:=.pointer (some ⟨w1.heap.size,0,none⟩)) (by omega) hjf h28 hv (rl_alloc _ _ _) (Cu.grown_alloc hg _) ((hcu.alloc _).mono (by omega)) (show psi b H 6 _ _ from ⟨w1.heap.size,rfl,by omega,by omega,Sv.wr_new w1 [.int .i64 0,.int .i64 0,.int .i64 0,.int .i64 0,.int .i64 0,.int .i64 0,.int .i64 0] _⟩)) ?_
   show mkA b H (upd v 3 _)=_
   first | rfl | simp [mkA,upd]
  ·
   have hall:∀ i,i<28→l.getD i false=true:=by
    intro i hi
    rcases lt28 hi with rfl | rfl | rfl | rfl | rfl | rfl | rfl | rfl | rfl | rfl | rfl | rfl | rfl | rfl | rfl | rfl | rfl | rfl | rfl | rfl | rfl | rfl | rfl | rfl | rfl | rfl | rfl | rfl
    all_goals exact dep hj (by kernel_rfl)
   have D26:=hv 26 (by omega) (dep hj (by kernel_rfl))
   change psi b H 5 (v 30) w1 at D26
   obtain ⟨cc,e30⟩:=D26
   have D27:=hv 27 (by omega) (dep hj (by kernel_rfl))
   change psi b H 6 (v 3) w1 at D27
   obtain ⟨g3,e3,n3,h3,wr3⟩:=D27
   obtain ⟨hgl,hcs⟩:=id wr3
   obtain ⟨q0,f0⟩:=hcs 0 (by simp)
   obtain ⟨q1,f1⟩:=hcs 1 (by simp)
   obtain ⟨q2,f2⟩:=hcs 2 (by simp)
   obtain ⟨q3,f3⟩:=hcs 3 (by simp)
   obtain ⟨q4,f4⟩:=hcs 4 (by simp)
   obtain ⟨q5,f5⟩:=hcs 5 (by simp)
   obtain ⟨q6,f6⟩:=hcs 6 (by simp)
   simp only [Nat.zero_add,List.getElem_cons_zero,List.getElem_cons_succ] at q0 f0 q1 f1 q2 f2 q3 f3 q4 f4 q5 f5 q6 f6
   have hw7:=((((((wr3.set 0 (by simp) (.int .i64 cc.trees)).set 1 (by simp) (.int .i64 cc.depth)).set 2 (by simp) (.int .i64 cc.most)).set 3 (by simp) (.int .i64 cc.rate)).set 4 (by simp) (.int .i64 cc.l2)).set 5 (by simp) (.int .i64 cc.prior)).set 6 (by simp) (.int .i64 cc.seed)
   simp only [Nat.zero_add] at hw7
   clear hcs
   refine op_step rfl rfl ?_
   intro K2 hK2
   unfold mkA
   go_simp
   refine hK2 _ _ ?_
   refine .inl ⟨by rw [Array.getD_eq_getD_getElem?,Array.getElem?_setIfInBounds_self_of_lt (by omega)];rfl,fun i hi=>?_,v,g3,cc,by first | rfl | simp [mkA,e3,e30],e3,n3,h3,by simpa [Cf.C.cells] using hw7,?_,?_⟩
   ·
    by_cases e:i=28
    ·
     subst e;rw [Array.getD_eq_getD_getElem?,Array.getElem?_setIfInBounds_self_of_lt (by omega)];rfl
    ·
     exact set_done (hall i (by omega))
   ·
    exact st7 hg (by omega)
   ·
    exact (cur7 hcu (by omega)).mono (by omega)
 ·
  intro l a w1 hs hI hr
  have hall:=all_done (by kernel_rfl) hs hr
  rcases hI with ⟨_,_,v,g,c,rfl,e3,hgb,hHg,hw,hg,hcu⟩ | ⟨h28,_⟩
  rotate_left
  ·
   exfalso
   have:=hall 28 (show 28<29 by omega)
   rw [h28] at this;cases this
  have hH1:=wr_cur bx hg hbH
  have hg1:w.grownBy w1 (some b):=Cu.grown_trans hgW hg
  have hK1:=HK1.out
  clear HK1 hall bx hg hgW hcW hs hr
  unfold Cf.C.cells at hw
  have hgl:=hw.1
  have hwH:=HH.out
  unfold mkA
  rw [e3]
  clear e3
  go_wp2_with fail
  refine (Cu.once_any _ _ _ hcu (by omega) _ (by omega) (by omega)).mono ?_
  rintro e w2 ⟨x,rfl,hg2,hz2,hc2⟩
  have hw:=wr_cur hw hg2 hgb
  have hH1:=wr_cur hH1 hg2 hbH
  have hg1:=Cu.grown_trans hg1 hg2
  have hcu:=hc2
  clear hg2 hz2 hc2
  cases x
  ·
   clear hwH
   obtain ⟨hgl,⟨q0,q1,q2,q3,q4,q5,q6⟩,_⟩:=wr7 hw
   obtain ⟨hHl,⟨r0,r1,r2,r3,r4,r5,r6⟩,f0,f1,f2,f3,f4,f5,f6⟩:=wr7 hH1
   have hgH:¬ g=H:=by omega
   have hHg:¬ H=g:=by omega
   have HF:Hid (∀ x0 x1 x2 x3 x4 x5 x6:Value,w.grownBy (((((((w2.setCell ⟨H,0,none⟩ x0).setCell ⟨H,1,none⟩ x1).setCell ⟨H,2,none⟩ x2).setCell ⟨H,3,none⟩ x3).setCell ⟨H,4,none⟩ x4).setCell ⟨H,5,none⟩ x5).setCell ⟨H,6,none⟩ x6) (some b)):=fun _ _ _ _ _ _ _=>st7 hg1 (by have:=HH.out;omega)
   have HC:Hid (∀ x0 x1 x2 x3 x4 x5 x6:Value,Cu.Cur (((((((w2.setCell ⟨H,0,none⟩ x0).setCell ⟨H,1,none⟩ x1).setCell ⟨H,2,none⟩ x2).setCell ⟨H,3,none⟩ x3).setCell ⟨H,4,none⟩ x4).setCell ⟨H,5,none⟩ x5).setCell ⟨H,6,none⟩ x6) b (K+100)):=fun _ _ _ _ _ _ _=>(cur7 hcu (by omega)).mono (by omega)
   clear hw hH1 hg1 hcu
   go_wp2
   refine bodyPost_ret (v:=.agg #[.int .i64 c.trees,.int .i64 c.depth,.int .i64 c.most,.int .i64 c.rate,.int .i64 c.l2,.int .i64 c.prior,.int .i64 c.seed]) (by rw [Cf.results_cell rfl];go_simp) rfl ?_
   exact ⟨⟨c.trees,c.depth,c.most,c.rate,c.l2,c.prior,c.seed⟩,rfl,HF.out _ _ _ _ _ _ _,HC.out _ _ _ _ _ _ _⟩
  ·
   go_wp2_with fail
   refine (Cu.pick_any _ _ _ hcu (by omega) _ (by omega)).mono ?_
   rintro e w3 ⟨y,rfl,y0,y1,hg3,hz3,hc3⟩
   have hw:=wr_cur hw hg3 hgb
   have hH1:=wr_cur hH1 hg3 hbH
   have hg1:=Cu.grown_trans hg1 hg3
   have hcu:=hc3
   have y2:=y1 (by omega)
   clear hg3 hz3 hc3 y1
   have y7:y=0 ∨ y=1 ∨ y=2 ∨ y=3 ∨ y=4 ∨ y=5 ∨ y=6:=by omega
   clear y0 y2
   rcases y7 with rfl | rfl | rfl | rfl | rfl | rfl | rfl
   ·
    go_wp2_with fail
    refine (Cu.raw_any _ _ _ hcu (by omega)).mono ?_
    rintro e w4 ⟨r,rfl,_,_,hg4,hc4⟩
    have hw:=wr_cur hw hg4 hgb
    have hH1:=wr_cur hH1 hg4 hbH
    have hg1:=Cu.grown_trans hg1 hg4
    have hcu:=hc4
    have hlt4:=hcu.lt
    clear hg4 hc4
    go_wp2_with fail
    refine (Cu.pick_any _ _ _ (hcu.alloc _) (by omega) _ (by omega)).mono ?_
    rintro e w5 ⟨z,rfl,z0,z1,hg5,hz5,hc5⟩
    have z2:=z1 (by omega)
    obtain ⟨u,hu⟩:=tab3 w4 r 12 13 3 z.toNat (by omega)
    have hu5:w5.cell? ⟨w4.heap.size,z.toNat,none⟩=some (.int .i64 u):=hg5.cell (a:=⟨w4.heap.size,z.toNat,none⟩) hu (by simp;omega)
    have hw:=wr_cur (hw.alloc _) hg5 hgb
    have hH1:=wr_cur (hH1.alloc _) hg5 hbH
    have hg1:=Cu.grown_trans (Cu.grown_alloc hg1 _) hg5
    have hcu:=hc5
    have hlt5:w4.heap.size<w5.heap.size:=by have:=hg5.size;simp at this;omega
    clear hg5 hz5 hc5 z1 hu
    obtain ⟨hgl,⟨q0,q1,q2,q3,q4,q5,q6⟩,k0,k1,k2,k3,k4,k5,k6⟩:=wr7 hw
    obtain ⟨hHl,⟨r0,r1,r2,r3,r4,r5,r6⟩,f0,f1,f2,f3,f4,f5,f6⟩:=wr7 hH1
    have hgH:¬ g=H:=by omega
    have hHg2:¬ H=g:=by omega
    have hg1:=grown_set (g:=g) (o:=0) (x:=.int .i64 u) hg1 (by omega)
    have hcu:=cur_set (g:=g) (o:=0) (x:=.int .i64 u) hcu (by omega)
    have HF:Hid (∀ x0 x1 x2 x3 x4 x5 x6:Value,w.grownBy ((((((((w5.setCell ⟨g,0,none⟩ (.int .i64 u)).setCell ⟨H,0,none⟩ x0).setCell ⟨H,1,none⟩ x1).setCell ⟨H,2,none⟩ x2).setCell ⟨H,3,none⟩ x3).setCell ⟨H,4,none⟩ x4).setCell ⟨H,5,none⟩ x5).setCell ⟨H,6,none⟩ x6) (some b)):=fun _ _ _ _ _ _ _=>st7 hg1 (by have:=HH.out;omega)
    have HC:Hid (∀ x0 x1 x2 x3 x4 x5 x6:Value,Cu.Cur ((((((((w5.setCell ⟨g,0,none⟩ (.int .i64 u)).setCell ⟨H,0,none⟩ x0).setCell ⟨H,1,none⟩ x1).setCell ⟨H,2,none⟩ x2).setCell ⟨H,3,none⟩ x3).setCell ⟨H,4,none⟩ x4).setCell ⟨H,5,none⟩ x5).setCell ⟨H,6,none⟩ x6) b (K+100)):=fun _ _ _ _ _ _ _=>(cur7 hcu (by omega)).mono (by omega)
    clear hw hH1 hg1 hcu hwH
    go_wp2
    refine bodyPost_ret (v:=.agg #[.int .i64 u,.int .i64 c.depth,.int .i64 c.most,.int .i64 c.rate,.int .i64 c.l2,.int .i64 c.prior,.int .i64 c.seed]) (by rw [Cf.results_cell rfl];go_simp) rfl ?_
    exact ⟨⟨u,c.depth,c.most,c.rate,c.l2,c.prior,c.seed⟩,rfl,HF.out _ _ _ _ _ _ _,HC.out _ _ _ _ _ _ _⟩
   ·
    go_wp2_with fail
    refine (Cu.raw_any _ _ _ hcu (by omega)).mono ?_
    rintro e w4 ⟨r,rfl,_,_,hg4,hc4⟩
    have hw:=wr_cur hw hg4 hgb
    have hH1:=wr_cur hH1 hg4 hbH
    have hg1:=Cu.grown_trans hg1 hg4
    have hcu:=hc4
    have hlt4:=hcu.lt
    clear hg4 hc4
    go_wp2_with fail
    refine (Cu.pick_any _ _ _ (hcu.alloc _) (by omega) _ (by omega)).mono ?_
    rintro e w5 ⟨z,rfl,z0,z1,hg5,hz5,hc5⟩
    have z2:=z1 (by omega)
    obtain ⟨u,hu⟩:=tab3 w4 r 4 5 3 z.toNat (by omega)
    have hu5:w5.cell? ⟨w4.heap.size,z.toNat,none⟩=some (.int .i64 u):=hg5.cell (a:=⟨w4.heap.size,z.toNat,none⟩) hu (by simp;omega)
    have hw:=wr_cur (hw.alloc _) hg5 hgb
    have hH1:=wr_cur (hH1.alloc _) hg5 hbH
    have hg1:=Cu.grown_trans (Cu.grown_alloc hg1 _) hg5
    have hcu:=hc5
    have hlt5:w4.heap.size<w5.heap.size:=by have:=hg5.size;simp at this;omega
    clear hg5 hz5 hc5 z1 hu
    obtain ⟨hgl,⟨q0,q1,q2,q3,q4,q5,q6⟩,k0,k1,k2,k3,k4,k5,k6⟩:=wr7 hw
    obtain ⟨hHl,⟨r0,r1,r2,r3,r4,r5,r6⟩,f0,f1,f2,f3,f4,f5,f6⟩:=wr7 hH1
    have hgH:¬ g=H:=by omega
    have hHg2:¬ H=g:=by omega
    have hg1:=grown_set (g:=g) (o:=1) (x:=.int .i64 u) hg1 (by omega)
    have hcu:=cur_set (g:=g) (o:=1) (x:=.int .i64 u) hcu (by omega)
    have HF:Hid (∀ x0 x1 x2 x3 x4 x5 x6:Value,w.grownBy ((((((((w5.setCell ⟨g,1,none⟩ (.int .i64 u)).setCell ⟨H,0,none⟩ x0).setCell ⟨H,1,none⟩ x1).setCell ⟨H,2,none⟩ x2).setCell ⟨H,3,none⟩ x3).setCell ⟨H,4,none⟩ x4).setCell ⟨H,5,none⟩ x5).setCell ⟨H,6,none⟩ x6) (some b)):=fun _ _ _ _ _ _ _=>st7 hg1 (by have:=HH.out;omega)
    have HC:Hid (∀ x0 x1 x2 x3 x4 x5 x6:Value,Cu.Cur ((((((((w5.setCell ⟨g,1,none⟩ (.int .i64 u)).setCell ⟨H,0,none⟩ x0).setCell ⟨H,1,none⟩ x1).setCell ⟨H,2,none⟩ x2).setCell ⟨H,3,none⟩ x3).setCell ⟨H,4,none⟩ x4).setCell ⟨H,5,none⟩ x5).setCell ⟨H,6,none⟩ x6) b (K+100)):=fun _ _ _ _ _ _ _=>(cur7 hcu (by omega)).mono (by omega)
    clear hw hH1 hg1 hcu hwH
    go_wp2
    refine bodyPost_ret (v:=.agg #[.int .i64 c.trees,.int .i64 u,.int .i64 c.most,.int .i64 c.rate,.int .i64 c.l2,.int .i64 c.prior,.int .i64 c.seed]) (by rw [Cf.results_cell rfl];go_simp) rfl ?_
    exact ⟨⟨c.trees,u,c.most,c.rate,c.l2,c.prior,c.seed⟩,rfl,HF.out _ _ _ _ _ _ _,HC.out _ _ _ _ _ _ _⟩
   ·
    go_wp2_with fail
    refine (Cu.raw_any _ _ _ hcu (by omega)).mono ?_
    rintro e w4 ⟨r,rfl,_,_,hg4,hc4⟩
    have hw:=wr_cur hw hg4 hgb
    have hH1:=wr_cur hH1 hg4 hbH
    have hg1:=Cu.grown_trans hg1 hg4
    have hcu:=hc4
    have hlt4:=hcu.lt
    clear hg4 hc4
    go_wp2_with fail
    refine (Cu.pick_any _ _ _ (hcu.alloc _) (by omega) _ (by omega)).mono ?_
    rintro e w5 ⟨z,rfl,z0,z1,hg5,hz5,hc5⟩
    have z2:=z1 (by omega)
    obtain ⟨u,hu⟩:=tab3 w4 r 0 12 3 z.toNat (by omega)
    have hu5:w5.cell? ⟨w4.heap.size,z.toNat,none⟩=some (.int .i64 u):=hg5.cell (a:=⟨w4.heap.size,z.toNat,none⟩) hu (by simp;omega)
    have hw:=wr_cur (hw.alloc _) hg5 hgb
    have hH1:=wr_cur (hH1.alloc _) hg5 hbH
    have hg1:=Cu.grown_trans (Cu.grown_alloc hg1 _) hg5
    have hcu:=hc5
    have hlt5:w4.heap.size<w5.heap.size:=by have:=hg5.size;simp at this;omega
    clear hg5 hz5 hc5 z1 hu
    obtain ⟨hgl,⟨q0,q1,q2,q3,q4,q5,q6⟩,k0,k1,k2,k3,k4,k5,k6⟩:=wr7 hw
    obtain ⟨hHl,⟨r0,r1,r2,r3,r4,r5,r6⟩,f0,f1,f2,f3,f4,f5,f6⟩:=wr7 hH1
    have hgH:¬ g=H:=by omega
    have hHg2:¬ H=g:=by omega
    have hg1:=grown_set (g:=g) (o:=2) (x:=.int .i64 u) hg1 (by omega)
    have hcu:=cur_set (g:=g) (o:=2) (x:=.int .i64 u) hcu (by omega)
    have HF:Hid (∀ x0 x1 x2 x3 x4 x5 x6:Value,w.grownBy ((((((((w5.setCell ⟨g,2,none⟩ (.int .i64 u)).setCell ⟨H,0,none⟩ x0).setCell ⟨H,1,none⟩ x1).setCell ⟨H,2,none⟩ x2).setCell ⟨H,3,none⟩ x3).setCell ⟨H,4,none⟩ x4).setCell ⟨H,5,none⟩ x5).setCell ⟨H,6,none⟩ x6) (some b)):=fun _ _ _ _ _ _ _=>st7 hg1 (by have:=HH.out;omega)
    have HC:Hid (∀ x0 x1 x2 x3 x4 x5 x6:Value,Cu.Cur ((((((((w5.setCell ⟨g,2,none⟩ (.int .i64 u)).setCell ⟨H,0,none⟩ x0).setCell ⟨H,1,none⟩ x1).setCell ⟨H,2,none⟩ x2).setCell ⟨H,3,none⟩ x3).setCell ⟨H,4,none⟩ x4).setCell ⟨H,5,none⟩ x5).setCell ⟨H,6,none⟩ x6) b (K+100)):=fun _ _ _ _ _ _ _=>(cur7 hcu (by omega)).mono (by omega)
    clear hw hH1 hg1 hcu hwH
    go_wp2
    refine bodyPost_ret (v:=.agg #[.int .i64 c.trees,.int .i64 c.depth,.int .i64 u,.int .i64 c.rate,.int .i64 c.l2,.int .i64 c.prior,.int .i64 c.seed]) (by rw [Cf.results_cell rfl];go_simp) rfl ?_
    exact ⟨⟨c.trees,c.depth,u,c.rate,c.l2,c.prior,c.seed⟩,rfl,HF.out _ _ _ _ _ _ _,HC.out _ _ _ _ _ _ _⟩
   ·
    go_wp2_with fail
    refine (Cu.raw_any _ _ _ hcu (by omega)).mono ?_
    rintro e w4 ⟨r,rfl,_,_,hg4,hc4⟩
    have hw:=wr_cur hw hg4 hgb
    have hH1:=wr_cur hH1 hg4 hbH
    have hg1:=Cu.grown_trans hg1 hg4
    have hcu:=hc4
    have hlt4:=hcu.lt
    clear hg4 hc4
    obtain ⟨hgl,⟨q0,q1,q2,q3,q4,q5,q6⟩,k0,k1,k2,k3,k4,k5,k6⟩:=wr7 hw
    obtain ⟨hHl,⟨r0,r1,r2,r3,r4,r5,r6⟩,f0,f1,f2,f3,f4,f5,f6⟩:=wr7 hH1
    have hgH:¬ g=H:=by omega
    have hHg2:¬ H=g:=by omega
    have hg1:=grown_set (g:=g) (o:=3) (x:=.int .i64 r) hg1 (by omega)
    have hcu:=cur_set (g:=g) (o:=3) (x:=.int .i64 r) hcu (by omega)
    have HF:Hid (∀ x0 x1 x2 x3 x4 x5 x6:Value,w.grownBy ((((((((w4.setCell ⟨g,3,none⟩ (.int .i64 r)).setCell ⟨H,0,none⟩ x0).setCell ⟨H,1,none⟩ x1).setCell ⟨H,2,none⟩ x2).setCell ⟨H,3,none⟩ x3).setCell ⟨H,4,none⟩ x4).setCell ⟨H,5,none⟩ x5).setCell ⟨H,6,none⟩ x6) (some b)):=fun _ _ _ _ _ _ _=>st7 hg1 (by have:=HH.out;omega)
    have HC:Hid (∀ x0 x1 x2 x3 x4 x5 x6:Value,Cu.Cur ((((((((w4.setCell ⟨g,3,none⟩ (.int .i64 r)).setCell ⟨H,0,none⟩ x0).setCell ⟨H,1,none⟩ x1).setCell ⟨H,2,none⟩ x2).setCell ⟨H,3,none⟩ x3).setCell ⟨H,4,none⟩ x4).setCell ⟨H,5,none⟩ x5).setCell ⟨H,6,none⟩ x6) b (K+100)):=fun _ _ _ _ _ _ _=>(cur7 hcu (by omega)).mono (by omega)
    clear hw hH1 hg1 hcu hwH
    go_wp2
    refine bodyPost_ret (v:=.agg #[.int .i64 c.trees,.int .i64 c.depth,.int .i64 c.most,.int .i64 r,.int .i64 c.l2,.int .i64 c.prior,.int .i64 c.seed]) (by rw [Cf.results_cell rfl];go_simp) rfl ?_
    exact ⟨⟨c.trees,c.depth,c.most,r,c.l2,c.prior,c.seed⟩,rfl,HF.out _ _ _ _ _ _ _,HC.out _ _ _ _ _ _ _⟩
   ·
    go_wp2_with fail
    refine (Cu.raw_any _ _ _ hcu (by omega)).mono ?_
    rintro e w4 ⟨r,rfl,_,_,hg4,hc4⟩
    have hw:=wr_cur hw hg4 hgb
    have hH1:=wr_cur hH1 hg4 hbH
    have hg1:=Cu.grown_trans hg1 hg4
    have hcu:=hc4
    have hlt4:=hcu.lt
    clear hg4 hc4
    obtain ⟨hgl,⟨q0,q1,q2,q3,q4,q5,q6⟩,k0,k1,k2,k3,k4,k5,k6⟩:=wr7 hw
    obtain ⟨hHl,⟨r0,r1,r2,r3,r4,r5,r6⟩,f0,f1,f2,f3,f4,f5,f6⟩:=wr7 hH1
    have hgH:¬ g=H:=by omega
    have hHg2:¬ H=g:=by omega
    have hg1:=grown_set (g:=g) (o:=4) (x:=.int .i64 r) hg1 (by omega)
    have hcu:=cur_set (g:=g) (o:=4) (x:=.int .i64 r) hcu (by omega)
    have HF:Hid (∀ x0 x1 x2 x3 x4 x5 x6:Value,w.grownBy ((((((((w4.setCell ⟨g,4,none⟩ (.int .i64 r)).setCell ⟨H,0,none⟩ x0).setCell ⟨H,1,none⟩ x1).setCell ⟨H,2,none⟩ x2).setCell ⟨H,3,none⟩ x3).setCell ⟨H,4,none⟩ x4).setCell ⟨H,5,none⟩ x5).setCell ⟨H,6,none⟩ x6) (some b)):=fun _ _ _ _ _ _ _=>st7 hg1 (by have:=HH.out;omega)
    have HC:Hid (∀ x0 x1 x2 x3 x4 x5 x6:Value,Cu.Cur ((((((((w4.setCell ⟨g,4,none⟩ (.int .i64 r)).setCell ⟨H,0,none⟩ x0).setCell ⟨H,1,none⟩ x1).setCell ⟨H,2,none⟩ x2).setCell ⟨H,3,none⟩ x3).setCell ⟨H,4,none⟩ x4).setCell ⟨H,5,none⟩ x5).setCell ⟨H,6,none⟩ x6) b (K+100)):=fun _ _ _ _ _ _ _=>(cur7 hcu (by omega)).mono (by omega)
    clear hw hH1 hg1 hcu hwH
    go_wp2
    refine bodyPost_ret (v:=.agg #[.int .i64 c.trees,.int .i64 c.depth,.int .i64 c.most,.int .i64 c.rate,.int .i64 r,.int .i64 c.prior,.int .i64 c.seed]) (by rw [Cf.results_cell rfl];go_simp) rfl ?_
    exact ⟨⟨c.trees,c.depth,c.most,c.rate,r,c.prior,c.seed⟩,rfl,HF.out _ _ _ _ _ _ _,HC.out _ _ _ _ _ _ _⟩
   ·
    go_wp2_with fail
    refine (Cu.raw_any _ _ _ hcu (by omega)).mono ?_
    rintro e w4 ⟨r,rfl,_,_,hg4,hc4⟩
    have hw:=wr_cur hw hg4 hgb
    have hH1:=wr_cur hH1 hg4 hbH
    have hg1:=Cu.grown_trans hg1 hg4
    have hcu:=hc4
    have hlt4:=hcu.lt
    clear hg4 hc4
    obtain ⟨hgl,⟨q0,q1,q2,q3,q4,q5,q6⟩,k0,k1,k2,k3,k4,k5,k6⟩:=wr7 hw
    obtain ⟨hHl,⟨r0,r1,r2,r3,r4,r5,r6⟩,f0,f1,f2,f3,f4,f5,f6⟩:=wr7 hH1
    have hgH:¬ g=H:=by omega
    have hHg2:¬ H=g:=by omega
    have hg1:=grown_set (g:=g) (o:=5) (x:=.int .i64 r) hg1 (by omega)
    have hcu:=cur_set (g:=g) (o:=5) (x:=.int .i64 r) hcu (by omega)
    have HF:Hid (∀ x0 x1 x2 x3 x4 x5 x6:Value,w.grownBy ((((((((w4.setCell ⟨g,5,none⟩ (.int .i64 r)).setCell ⟨H,0,none⟩ x0).setCell ⟨H,1,none⟩ x1).setCell ⟨H,2,none⟩ x2).setCell ⟨H,3,none⟩ x3).setCell ⟨H,4,none⟩ x4).setCell ⟨H,5,none⟩ x5).setCell ⟨H,6,none⟩ x6) (some b)):=fun _ _ _ _ _ _ _=>st7 hg1 (by have:=HH.out;omega)
    have HC:Hid (∀ x0 x1 x2 x3 x4 x5 x6:Value,Cu.Cur ((((((((w4.setCell ⟨g,5,none⟩ (.int .i64 r)).setCell ⟨H,0,none⟩ x0).setCell ⟨H,1,none⟩ x1).setCell ⟨H,2,none⟩ x2).setCell ⟨H,3,none⟩ x3).setCell ⟨H,4,none⟩ x4).setCell ⟨H,5,none⟩ x5).setCell ⟨H,6,none⟩ x6) b (K+100)):=fun _ _ _ _ _ _ _=>(cur7 hcu (by omega)).mono (by omega)
    clear hw hH1 hg1 hcu hwH
    go_wp2
    refine bodyPost_ret (v:=.agg #[.int .i64 c.trees,.int .i64 c.depth,.int .i64 c.most,.int .i64 c.rate,.int .i64 c.l2,.int .i64 r,.int .i64 c.seed]) (by rw [Cf.results_cell rfl];go_simp) rfl ?_
    exact ⟨⟨c.trees,c.depth,c.most,c.rate,c.l2,r,c.seed⟩,rfl,HF.out _ _ _ _ _ _ _,HC.out _ _ _ _ _ _ _⟩
   ·
    go_wp2_with fail
    refine (Cu.raw_any _ _ _ hcu (by omega)).mono ?_
    rintro e w4 ⟨r,rfl,_,_,hg4,hc4⟩
    have hw:=wr_cur hw hg4 hgb
    have hH1:=wr_cur hH1 hg4 hbH
    have hg1:=Cu.grown_trans hg1 hg4
    have hcu:=hc4
    have hlt4:=hcu.lt
    clear hg4 hc4
    obtain ⟨hgl,⟨q0,q1,q2,q3,q4,q5,q6⟩,k0,k1,k2,k3,k4,k5,k6⟩:=wr7 hw
    obtain ⟨hHl,⟨r0,r1,r2,r3,r4,r5,r6⟩,f0,f1,f2,f3,f4,f5,f6⟩:=wr7 hH1
    have hgH:¬ g=H:=by omega
    have hHg2:¬ H=g:=by omega
    have hg1:=grown_set (g:=g) (o:=6) (x:=.int .i64 r) hg1 (by omega)
    have hcu:=cur_set (g:=g) (o:=6) (x:=.int .i64 r) hcu (by omega)
    have HF:Hid (∀ x0 x1 x2 x3 x4 x5 x6:Value,w.grownBy ((((((((w4.setCell ⟨g,6,none⟩ (.int .i64 r)).setCell ⟨H,0,none⟩ x0).setCell ⟨H,1,none⟩ x1).setCell ⟨H,2,none⟩ x2).setCell ⟨H,3,none⟩ x3).setCell ⟨H,4,none⟩ x4).setCell ⟨H,5,none⟩ x5).setCell ⟨H,6,none⟩ x6) (some b)):=fun _ _ _ _ _ _ _=>st7 hg1 (by have:=HH.out;omega)
    have HC:Hid (∀ x0 x1 x2 x3 x4 x5 x6:Value,Cu.Cur ((((((((w4.setCell ⟨g,6,none⟩ (.int .i64 r)).setCell ⟨H,0,none⟩ x0).setCell ⟨H,1,none⟩ x1).setCell ⟨H,2,none⟩ x2).setCell ⟨H,3,none⟩ x3).setCell ⟨H,4,none⟩ x4).setCell ⟨H,5,none⟩ x5).setCell ⟨H,6,none⟩ x6) b (K+100)):=fun _ _ _ _ _ _ _=>(cur7 hcu (by omega)).mono (by omega)
    clear hw hH1 hg1 hcu hwH
    go_wp2
    refine bodyPost_ret (v:=.agg #[.int .i64 c.trees,.int .i64 c.depth,.int .i64 c.most,.int .i64 c.rate,.int .i64 c.l2,.int .i64 c.prior,.int .i64 r]) (by rw [Cf.results_cell rfl];go_simp) rfl ?_
    exact ⟨⟨c.trees,c.depth,c.most,c.rate,c.l2,c.prior,r⟩,rfl,HF.out _ _ _ _ _ _ _,HC.out _ _ _ _ _ _ _⟩
end Go.Proofs.YtaojoamldoofpaaGreatDoor.Dc
