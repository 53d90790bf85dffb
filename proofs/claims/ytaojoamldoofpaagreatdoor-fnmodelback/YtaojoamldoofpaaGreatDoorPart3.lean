/-
  Contracts that the proof leans on, put together in the order in which they build.
-/
import Derived.Test.YtaojoamldoofpaaGreatDoorPart2
import Derived.Deep.CutRange
import Derived.Test.YtaojoamldoofpaaGreatDoorPart1
import Derived.ProofKit
import Derived.ChangeSame
import Derived.Deep.Strs
import Derived.Deep.Slices
import Derived.ChangeMaps5
import Derived.Deep.RegionHeld3
set_option linter.unusedVariables false
namespace Go.Proofs.YtaojoamldoofpaaGreatDoor.Sw7
open Go.RowKit
open Li (ret_bool ret_int below_none IsL btw iv)
open Tm (IsP pv pv_length)
open Se Sv
theorem c5' {w:World} {b:Nat} {v0 v1 v2 v3 v4:Value} (h:Wr w b 0 [v0,v1,v2,v3,v4]):w.cell? ⟨b,0,none⟩=some v0∧w.cell? ⟨b,1,none⟩=some v1∧w.cell? ⟨b,2,none⟩=some v2∧w.cell? ⟨b,3,none⟩=some v3∧w.cell? ⟨b,4,none⟩=some v4:=(wr5 h).2.1
theorem SP.init {w wx:World} {bo lo hi:Nat} {vg:Value} {lv2 l2 f b:Int} {xs:List (List Int)} {gs:List Int} {RA:List Value} (V:Nat→Value) (bl:Nat→Nat) (bv:Wr wx bo 0 [.slice none 0 0,vg,.slice none 0 0,.int .i64 lv2,.int .i64 l2]) (og:OwI wx (fun q=>lo≤q∧q<hi) vg gs) (ba:Wr wx w.heap.size 0 RA) (bs:Wr wx (w.heap.size+1) 0 [.int .i64 f,.int .i64 b]) (br:Wr wx (w.heap.size+1+1) 0 zr5') (bel:Below w.heap.size w wx)
  (ge:w.heap.size+3≤bo∧w.heap.size+3≤lo∧hi≤wx.heap.size) (bg:¬ (lo≤bo∧bo<hi)):SP w wx bo lo hi (.slice none 0 0) vg (.slice none 0 0) lv2 l2 f b [] V bl xs 0 [] gs RA :=
 ⟨bv,World.ownsRow_nil _ _ _ _,Li.Own.nil _ _,og,ba,bs,br,bel,ge,fun q e=>by simp [Value.ownBlock] at e,fun q e=>by simp [Value.ownBlock] at e,bg,fun i _ h=>by omega,fun i j _ h=>by omega⟩
theorem SP.initNew {w w3:World} {lo hi:Nat} {vg:Value} {lv2 l2 f b:Int} {xs:List (List Int)} {gs:List Int} {RA:List Value} (V:Nat→Value) (bl:Nat→Nat) (og:OwI w3 (fun q=>lo≤q∧q<hi) vg gs) (ba:Wr w3 w.heap.size 0 RA) (bs:Wr w3 (w.heap.size+1) 0 [.int .i64 f,.int .i64 b]) (br:Wr w3 (w.heap.size+1+1) 0 zr5') (bel:Below w.heap.size w w3)
  (ge:w.heap.size+3≤w3.heap.size∧w.heap.size+3≤lo∧hi≤w3.heap.size):SP w (w3.alloc (.cells #[.slice none 0 0,vg,.slice none 0 0,.int .i64 lv2,.int .i64 l2] 151)) w3.heap.size lo hi (.slice none 0 0) vg (.slice none 0 0) lv2 l2 f b [] V bl xs 0 [] gs RA :=
 SP.init V bl (wr_new w3 [.slice none 0 0,vg,.slice none 0 0,.int .i64 lv2,.int .i64 l2] 151) (og.below ((Below.refl _ _).alloc (Nat.le_refl _) _)) (ba.alloc _) (bs.alloc _) (br.alloc _) (bel.alloc bel.size _) ⟨ge.1,ge.2.1,by rw [Sv.size_alloc];omega⟩ (by omega)
theorem SP.initSet {w w3:World} {bo lo hi:Nat} {vg:Value} {lv2 l2 f b:Int} {xs:List (List Int)} {gs:List Int} {RA:List Value} (V:Nat→Value) (bl:Nat→Nat) (bv:Wr w3 bo 0 zr5') (og:OwI w3 (fun q=>lo≤q∧q<hi) vg gs) (ba:Wr w3 w.heap.size 0 RA) (bs:Wr w3 (w.heap.size+1) 0 [.int .i64 f,.int .i64 b]) (br:Wr w3 (w.heap.size+1+1) 0 zr5') (bel:Below w.heap.size w w3)
  (ge:w.heap.size+3≤bo∧w.heap.size+3≤lo∧hi≤w3.heap.size) (bg:¬ (lo≤bo∧bo<hi)):SP w (((((w3.setCell ⟨bo,0,none⟩ (.slice none 0 0)).setCell ⟨bo,1,none⟩ vg).setCell ⟨bo,2,none⟩ (.slice none 0 0)).setCell ⟨bo,3,none⟩ (.int .i64 lv2)).setCell ⟨bo,4,none⟩ (.int .i64 l2)) bo lo hi (.slice none 0 0) vg (.slice none 0 0) lv2 l2 f b [] V bl xs 0 [] gs RA:=by
 have hfr:∀ (A:World) (o:Nat) (v:Value),Fr (fun k=>k=bo) A (A.setCell ⟨bo,o,none⟩ v):=fun A o v=>fr_grown (Li.grown_set A bo o v) rfl
 have hF:Fr (fun k=>k=bo) w3 (((((w3.setCell ⟨bo,0,none⟩ (.slice none 0 0)).setCell ⟨bo,1,none⟩ vg).setCell ⟨bo,2,none⟩ (.slice none 0 0)).setCell ⟨bo,3,none⟩ (.int .i64 lv2)).setCell ⟨bo,4,none⟩ (.int .i64 l2)):=by
  iterate 5 refine Fr.trans ?_ (hfr _ _ _)
  exact Fr.refl _ _
 refine SP.init V bl ?_ (og.fr hF (fun k hk e=>by subst e;exact bg hk)) (ba.fr hF (by omega)) (bs.fr hF (by omega)) (br.fr hF (by omega)) (bel.trans (hF.bel (fun k hk=>by omega) bel.size)) ⟨ge.1,ge.2.1,Nat.le_trans ge.2.2 hF.size⟩ bg
 have h0:=bv.set 0 (by simp [zr5']) (.slice none 0 0)
 have h1:=h0.set 1 (by simp [zr5']) vg
 have h2:=h1.set 2 (by simp [zr5']) (.slice none 0 0)
 have h3:=h2.set 3 (by simp [zr5']) (.int .i64 lv2)
 have h4:=h3.set 4 (by simp [zr5']) (.int .i64 l2)
 simpa [zr5'] using h4
theorem asZ {w:World} {b:Nat} (h:Wr w b 0 [.slice none 0 0,.slice none 0 0,.slice none 0 0,.int .i64 0,.int .i64 0]):Wr w b 0 zr5':=h
theorem wrGb {X w3:World} {T:TypeId} (hg:((X.alloc (.cells #[] T)).alloc (.cells #[.slice none 0 0,.slice none 0 0,.slice none 0 0,.int .i64 0,.int .i64 0] 151)).drew.grownBy w3 (some X.heap.size)):Wr w3 (X.heap.size+1) 0 [.slice none 0 0,.slice none 0 0,.slice none 0 0,.int .i64 0,.int .i64 0]:=by
 have h:=wr_new (X.alloc (.cells #[] T)) [.slice none 0 0,.slice none 0 0,.slice none 0 0,.int .i64 0,.int .i64 0] 151
 rw [Sv.size_alloc] at h
 exact Wr.keptAt (w:=((X.alloc (.cells #[] T)).alloc (.cells #[.slice none 0 0,.slice none 0 0,.slice none 0 0,.int .i64 0,.int .i64 0] 151)).drew) h hg.size (hg.block _ h.1 (by simp))
theorem wrGc {X w3:World} {T:TypeId} (hg:((X.alloc (.cells #[.slice none 0 0,.slice none 0 0,.slice none 0 0,.int .i64 0,.int .i64 0] 151)).alloc (.cells #[] T)).drew.grownBy w3 (some (X.heap.size+1))):Wr w3 X.heap.size 0 [.slice none 0 0,.slice none 0 0,.slice none 0 0,.int .i64 0,.int .i64 0]:=by
 have h:=(wr_new X [.slice none 0 0,.slice none 0 0,.slice none 0 0,.int .i64 0,.int .i64 0] 151).alloc (.cells #[] T)
 exact Wr.keptAt (w:=((X.alloc (.cells #[.slice none 0 0,.slice none 0 0,.slice none 0 0,.int .i64 0,.int .i64 0] 151)).alloc (.cells #[] T)).drew) h hg.size (hg.block _ h.1 (by simp))
theorem bvG {w wx w3:World} {bo lo hi:Nat} {vx vg vi:Value} {lv2 l2 f b:Int} {cx:List Value} {V:Nat→Value} {bl:Nat→Nat} {xs:List (List Int)} {k:Nat} {ids gs:List Int} {RA:List Value} (h:SP w wx bo lo hi vx vg vi lv2 l2 f b cx V bl xs k ids gs RA) (hg:wx.grownBy w3 vi.ownBlock):Wr w3 bo 0 [vx,vg,vi,.int .i64 lv2,.int .i64 l2] :=
 h.bv.keptAt hg.size (hg.block bo h.bv.1 (fun e=>(h.bi bo e.symm).1 rfl))
theorem bvX {w wx w3 w4:World} {bo lo hi:Nat} {vx vg vi:Value} {lv2 l2 f b:Int} {cx:List Value} {V:Nat→Value} {bl:Nat→Nat} {xs:List (List Int)} {k:Nat} {ids gs:List Int} {RA:List Value} (h:SP w wx bo lo hi vx vg vi lv2 l2 f b cx V bl xs k ids gs RA) (hb:Below wx.heap.size wx w4) (hg:w4.grownBy w3 vx.ownBlock):Wr w3 bo 0 [vx,vg,vi,.int .i64 lv2,.int .i64 l2] :=
 (h.bv.below hb).keptAt hg.size (hg.block bo (h.bv.below hb).1 (fun e=>(h.bx bo e.symm).1 rfl))
theorem baX {w wx w3 w4:World} {bo lo hi:Nat} {vx vg vi:Value} {lv2 l2 f b:Int} {cx:List Value} {V:Nat→Value} {bl:Nat→Nat} {xs:List (List Int)} {k:Nat} {ids gs:List Int} {RA:List Value} (h:SP w wx bo lo hi vx vg vi lv2 l2 f b cx V bl xs k ids gs RA) (hb:Below wx.heap.size wx w4) (hg:w4.grownBy w3 vx.ownBlock):Wr w3 w.heap.size 0 RA∧Below w.heap.size w w3:=by
 refine ⟨(h.ba.below hb).keptAt hg.size (hg.block _ (h.ba.below hb).1 (fun e=>by have:=(World.ownsRow.lt h.ox _ e.symm).1;omega)),?_⟩
 have h4:=h.below hb
 exact Ai.below_app h4.bel h4.bel.size hg (fun q e=>by have:=(World.ownsRow.lt h.ox q e).1;omega)
theorem rowS {w:World} {base s n:Nat} {t:TypeId} {v:Value} {vs:List Value} (h:w.ownsRow base t s v n vs):∃ a c,v=.slice a n c:=by
 rcases h.2 with ⟨e,h0⟩ | ⟨g,cap,cur,e,_⟩
 ·
  subst h0;exact ⟨none,0,e⟩
 ·
  exact ⟨_,cap,e⟩
theorem own6 {w:World} {base g cap:Nat} {xs:List Int} (hl:xs.length=6) (h:w.ownsRow base 3 1 (.slice (some ⟨g,0,none⟩) (0+6) cap) (0+6) ([] ++ iv xs)):Li.Own w base (.slice (some ⟨g,0,none⟩) 6 cap) xs:=by
 unfold Li.Own
 rw [hl]
 exact h
theorem news1 (w:World) (v:Value) (T:TypeId):∀ j u,([v]:List Value)[j]? = some u→(w.alloc (.cells #[v] T)).cell? ((⟨w.heap.size,0,none⟩:Addr).add j)=some u:=by
 intro j u hj
 match j,hj with
 | 0,hj=>simp at hj;subst hj;simp [Addr.add]
theorem one1 (v:Value) (hv:v.oneCell'=true):∀ u ∈ ([v]:List Value),u.oneCell'=true:=by
 intro u hu;simp at hu;subst hu;exact hv
theorem ownE2 (X:World) (o:Obj) (H:Nat) (hH:X.heap.size+1=H:=by simp):Li.Own ((X.alloc o).alloc (.cells #[] 3)) X.heap.size (.slice (some ⟨H,0,none⟩) 0 0) []:=by
 subst hH
 have:=Ai.own_empty (X.alloc o) X.heap.size (by simp)
 rwa [Sv.size_alloc] at this
theorem qA1 (w:World) (o:Obj):Below w.heap.size w (w.alloc o).drew:=((Below.refl _ w).alloc (Nat.le_refl _) o).drew
theorem qA2 (w:World) (o o':Obj):Below w.heap.size w ((w.alloc o).alloc o').drew:=(((Below.refl _ w).alloc (Nat.le_refl _) o).alloc (by simp) o').drew
set_option maxRecDepth 100000 in
set_option maxHeartbeats 20000000 in
theorem sasked1 (w:World) (a0 a1 a2:Option Addr) (c0 c1 c2:Nat) (r:R) (f b:Int) (h:Rd w a0 a1 a2 r) (hne:can r f=true→¬ r.g.length=0) :
  Calls Tryz.prog 133 #[.agg #[.slice a0 r.x.length c0,.slice a1 r.g.length c1,.slice a2 r.ids.length c2,.int .i64 r.lv,.int .i64 r.l2],.agg #[.int .i64 f,.int .i64 b]] w fun e w'=>∃ v0 v1 v2,e=.returned (.agg #[v0,v1,v2,.int .i64 (asked r f b).lv,.int .i64 (asked r f b).l2])∧OwR w' (fun k=>w.heap.size≤k∧k<w'.heap.size) v0 v1 v2 (asked r f b)∧Below w.heap.size w w':=by
 go_enter Tryz.func133,Tryz.ntmps133
 go_wp2_with fail
 obtain ⟨W,hW,hsz,hB,bx,bs,br⟩:=new3 w [.slice a0 r.x.length c0,.slice a1 r.g.length c1,.slice a2 r.ids.length c2,.int .i64 r.lv,.int .i64 r.l2] [.int .i64 f,.int .i64 b] [.slice none 0 0,.slice none 0 0,.slice none 0 0,.int .i64 0,.int .i64 0] 151 58 151
 rw [hW]
 clear hW
 refine (srows _ _ _ _ _ _ _ r (h.below hB)).mono ?_
 rintro e w1 ⟨rfl,hb⟩
 have bx:=bx.below hb
 have bs:=bs.below hb
 have br:=br.below hb
 have hB:=hB.trans (hb.mono hB.size)
 have hS:w.heap.size+3≤w1.heap.size:=by have:=hb.size;omega
 clear hb hsz
 obtain ⟨lv,hlv⟩:∃ x,r.lv=x:=⟨_,rfl⟩
 rw [hlv] at bx
 obtain ⟨_,⟨x0,x1,x2,x3,x4⟩,_⟩:=wr5 bx
 obtain ⟨_,⟨y0,y1⟩,_⟩:=wr2 bs
 cases hc:can r f with
 | false =>
  have HR:Hid (asked r f b=⟨[],[],[],0,0⟩):=asked_no b hc
  obtain ⟨_,⟨u0,u1,u2,u3,u4⟩,g0,g1,g2,g3,g4⟩:=wr5 br
  have HE:Hid (OwR w1 (fun _=>False) (.slice none 0 0) (.slice none 0 0) (.slice none 0 0) ⟨[],[],[],0,0⟩):=⟨fun _=>False,fun _=>False,fun _=>False,⟨none,0,rfl,.inl rfl⟩,⟨none,0,rfl,.inl rfl⟩,⟨none,0,rfl,.inl rfl⟩,fun k e=>e.elim,fun k e=>e.elim,fun k e=>e.elim⟩
  have hcc:(rok r && decide (r.lv≤8) && btw f 0 5)=false:=hc
  rw [hlv] at hcc
  clear hc
  cases hv:rok r with
  | false =>
   clear hcc
   go_wp2_with fail
   refine bodyPost_ret (v:=.agg #[.slice none 0 0,.slice none 0 0,.slice none 0 0,.int .i64 0,.int .i64 0]) (by rw [Tm.results_cell rfl];go_simp) rfl ⟨.slice none 0 0,.slice none 0 0,.slice none 0 0,by rw [HR.out],?_,?_⟩
   ·
    rw [HR.out]
    exact ⟨fun _=>False,fun _=>False,fun _=>False,⟨none,0,rfl,.inl rfl⟩,⟨none,0,rfl,.inl rfl⟩,⟨none,0,rfl,.inl rfl⟩,fun k e=>e.elim,fun k e=>e.elim,fun k e=>e.elim⟩
   ·
    iterate 5 refine Below.setCell ?_ (by simp;try omega) _
    exact hB
  | true =>
   rw [hv] at hcc
   by_cases h8:lv≤8
   ·
    have hd:decide (8<lv)=false:=by simp;omega
    have hf5:btw f 0 5=false:=by simpa [h8] using hcc
    clear hcc
    go_wp2_with (go_at_call 33;refine (Li.between_any _ _ _ _).mono ?_;rintro e w' ⟨rfl,hw⟩;subst w';rw [hf5])
    refine bodyPost_ret (v:=.agg #[.slice none 0 0,.slice none 0 0,.slice none 0 0,.int .i64 0,.int .i64 0]) (by rw [Tm.results_cell rfl];go_simp) rfl ⟨.slice none 0 0,.slice none 0 0,.slice none 0 0,by rw [HR.out],?_,?_⟩
    ·
     rw [HR.out]
     exact ⟨fun _=>False,fun _=>False,fun _=>False,⟨none,0,rfl,.inl rfl⟩,⟨none,0,rfl,.inl rfl⟩,⟨none,0,rfl,.inl rfl⟩,fun k e=>e.elim,fun k e=>e.elim,fun k e=>e.elim⟩
    ·
     iterate 5 refine Below.setCell ?_ (by simp;try omega) _
     exact hB
   ·
    have hd:decide (8<lv)=true:=by simp;omega
    clear hcc
    go_wp2_with fail
    refine bodyPost_ret (v:=.agg #[.slice none 0 0,.slice none 0 0,.slice none 0 0,.int .i64 0,.int .i64 0]) (by rw [Tm.results_cell rfl];go_simp) rfl ⟨.slice none 0 0,.slice none 0 0,.slice none 0 0,by rw [HR.out],?_,?_⟩
    ·
     rw [HR.out]
     exact ⟨fun _=>False,fun _=>False,fun _=>False,⟨none,0,rfl,.inl rfl⟩,⟨none,0,rfl,.inl rfl⟩,⟨none,0,rfl,.inl rfl⟩,fun k e=>e.elim,fun k e=>e.elim,fun k e=>e.elim⟩
    ·
     iterate 5 refine Below.setCell ?_ (by simp;try omega) _
     exact hB
 | true =>
  have HC:Hid (can r f=true):=hc
  have HK:Hid (ROk r):=(can_iff.1 hc).1
  have HF:Hid (0≤f∧f≤5):=(can_iff.1 hc).2.2
  have HS2:Hid (r.g.length=r.x.length):=HK.out.1.2.1
  have HS3:Hid (r.ids.length=r.x.length):=HK.out.1.2.2.1
  have hgn:r.g.length≤40:=by rw [HS2.out];exact HK.out.1.1
  have hl8:1≤lv∧lv≤8:=by have h1:=(can_iff.1 hc).2.1;have h2:=HK.out.1.2.2.2.1;omega
  have hv:rok r=true:=rok_iff.2 HK.out
  have hd:decide (8<lv)=false:=by simp;omega
  have hf5:btw f 0 5=true:=by have:=HF.out;simp [btw];omega
  rw [hv]
  clear hc hv
  go_wp2_with (go_at_call 33;refine (Li.between_any _ _ _ _).mono ?_;rintro e w' ⟨rfl,hw⟩;subst w';rw [hf5])
  have HN0:Hid (¬ r.g.length=0):=hne HC.out
  clear hne
  have hw2:IntKind.i64.wrap (2 * lv)=2 * lv:=by simp [IntKind.wrap,IntKind.bits,IntKind.signed];omega
  have HBX:Hid (type_of% bx):=bx
  have HBS:Hid (type_of% bs):=bs
  have HBR:Hid (type_of% br):=br
  have HHB:Hid (type_of% hB):=hB
  have HI:Hid (IsL w1 a1 r.g):=(h.below hB).2.1
  have nw1:¬ w.heap.size=w1.heap.size+1:=by omega
  have nw2:¬ w1.heap.size+1=w.heap.size:=by omega
  have nw3:¬ w.heap.size=w1.heap.size:=by omega
  have nw4:¬ w1.heap.size=w.heap.size:=by omega
  clear bx bs br hB y0 y1 x0 x2
  go_cut [5] from 23 (fun s5 wx=>∃ bo lo hi ag cg,s5=.pointer (some ⟨bo,0,none⟩)∧SP w wx bo lo hi (.slice none 0 0) (.slice ag r.g.length cg) (.slice none 0 0) (2 * lv) r.l2 f b [] (fun _=>undef) (fun _=>0) r.x 0 [] r.g [.slice a0 r.x.length c0,.slice a1 r.g.length c1,.slice a2 r.ids.length c2,.int .i64 lv,.int .i64 r.l2])
  case first =>
   obtain ⟨j0,hj,hy0,hy1,hy2⟩:=info_parts Li.info_int
   by_cases h0:r.g.length=0
   ·
    exact absurd h0 HN0.out
   ·
    have h0:0<r.g.length:=by omega
    obtain ⟨gb,go,rfl,_,_⟩:=isl_pos HI.out h0
    go_region_held3 (fun w'=>w'.cell? ⟨w.heap.size,1,none⟩=some (.slice (some ⟨gb,go,none⟩) r.g.length c1)∧w'.cell? ⟨w.heap.size,3,none⟩=some (.int .i64 lv)∧w'.cell? ⟨w.heap.size,4,none⟩=some (.int .i64 r.l2)) (first | (with_reducible exact ⟨z1,z3,z4⟩) | go_keep) (first
     | (refine step_append_lies _ rfl _ _ 45 rfl w1.heap.size 3 j0 (.int .i64 0) 1 8 Tryz.underlying45 hj hy0 hy1 hy2 rfl (by decide) (.slice (some ⟨_,0,none⟩) 0 0) 0 [] rfl (by first | exact Ai.own_empty w1 w1.heap.size (Nat.le_refl _) | exact World.ownsRow.alloc (Ai.own_empty w1 w1.heap.size (Nat.le_refl _)) _ | exact ownE2 w1 _ _) ⟨gb,go,none⟩ r.g.length c1 (iv r.g) rfl (by rw [Li.iv_length];omega) (by first | exact Ai.news_i (HI.out.below (qA1 w1 _)) | exact Ai.news_i (HI.out.below (qA2 w1 _ _))) (Li.iv_one _) h0 (by unfold maxLen;omega) (by omega) (by first | omega | (simp;done) | (simp;omega)) _ rfl ?_;intro g cap w3 hown hgrow hp hglt;have HB3:Hid (Below w1.heap.size w1 w3):=(by first | exact Ai.below_app (qA1 w1 _) (by simp) hgrow (by intro k hk;simp [Value.ownBlock] at hk;omega) | exact Ai.below_app (qA2 w1 _ _) (by simp;omega) hgrow (by intro k hk;simp [Value.ownBlock] at hk;omega));have HOG:Hid (Li.Own w3 w1.heap.size (.slice (some ⟨g,0,none⟩) r.g.length cap) r.g):=(by first | exact hown | (rw [Nat.zero_add,List.nil_append] at hown;exact hown) | (rw [Nat.zero_add] at hown;exact hown));(first | (have bvv:=wrGb hgrow;have kv:=wr5 bvv;obtain ⟨_,⟨k0,k1,k2,k3,k4⟩,l0,l1,l2,l3,l4⟩:=kv) | (have bvv:=wrGc hgrow;have kv:=wr5 bvv;obtain ⟨_,⟨k0,k1,k2,k3,k4⟩,l0,l1,l2,l3,l4⟩:=kv) | skip);obtain ⟨z0,z1,z2,z3,z4⟩:=c5' (HBX.out.below HB3.out);have HP:Hid (type_of% hp):=hp;clear hown hgrow hp))
    all_goals
     have hg3:=HOG.out.ge g rfl
     have og3:OwI w3 (fun q=>g≤q∧q<g+1) (.slice (some ⟨g,0,none⟩) r.g.length cap) r.g:=owi_of HOG.out rfl ⟨Nat.le_refl _,by omega⟩
     have hp3:=HP.out
     have ba3:=HBX.out.below HB3.out
     have bs3:=HBS.out.below HB3.out
     have br3:Wr w3 (w.heap.size+1+1) 0 zr5':=HBR.out.below HB3.out
     have bel3:=HHB.out.trans (HB3.out.mono HHB.out.size)
     have hs3:=HB3.out.size
     simp [Value.ownBlock] at hp3
     have HG:Hid (type_of% og3):=og3
     go_wp2_with fail
     go_meet
     case rel =>
      first
       | (with_reducible exact ⟨_,_,_,_,_,rfl,SP.initNew _ _ og3 ba3 bs3 br3 bel3 ⟨by omega,by omega,by omega⟩⟩)
       | (with_reducible exact ⟨_,_,_,_,_,rfl,SP.initSet _ _ (asZ bvv) og3 ba3 bs3 br3 bel3 ⟨by omega,by omega,by omega⟩ (by omega)⟩)
  case rest =>
   obtain ⟨bo,lo,hi,ag,cg,rfl,sp⟩:=hcut
   obtain ⟨i0,hi0,hz0,hz1,hz2⟩:=info_parts info_vec
   obtain ⟨j0,hj,hy0,hy1,hy2⟩:=info_parts Li.info_int
   clear HBX HBS HBR HHB HI x1 x3 x4 hS nw1 nw2 nw3 nw4 hw2
   have hx40:r.x.length≤40:=HK.out.1.1
   go_wp2
   go_loopw [6] (fun i wr=>∃ k:Nat,k≤r.x.length∧i=.int .i64 k∧∃ vx vi cx V bl ids,SP w wr bo lo hi vx (.slice ag r.g.length cg) vi (2 * lv) r.l2 f b cx V bl r.x k ids r.g [.slice a0 r.x.length c0,.slice a1 r.g.length c1,.slice a2 r.ids.length c2,.int .i64 lv,.int .i64 r.l2]∧cx.length=k∧ids=(idsA r f b).take k) (fun i _=>r.x.length-(intOf i).toNat)
   case atStart=>exact ⟨0,Nat.zero_le _,rfl,_,_,_,_,_,_,sp,rfl,by simp⟩
   case round =>
    obtain ⟨k,hk,rfl,vx,vi,cx,V,bl,ids,sp,hcl,hids⟩:=hrel
    obtain ⟨e0,e1,e2,e3,e4⟩:=c5' sp.ba
    by_cases hlt:k<r.x.length
    ·
     obtain ⟨xb,xo,gb,go,ib,io,a',c',ea0,ea1,ea2,⟨hl0,hl1,hl2⟩,hx0,hxl0,_,hii0⟩:=rd_row h HS2.out HS3.out k hlt
     have hx:=(sp.bel.cell (p:=⟨xb,xo+k,none⟩) (by exact hl0)).trans hx0
     have hii:=(sp.bel.cell (p:=⟨ib,io+k,none⟩) (by exact hl2)).trans hii0
     have hxl:=hxl0.below sp.bel
     have hl0':xb<wr.heap.size:=Nat.lt_of_lt_of_le hl0 sp.bel.size
     have hl2':ib<wr.heap.size:=Nat.lt_of_lt_of_le hl2 sp.bel.size
     subst ea0
     subst ea2
     obtain ⟨hx6,_,hid⟩:=HK.out.2 k hlt
     have hfx:=HF.out
     obtain ⟨rb,ro,ea',hrb,hrc⟩:=isl_pos hxl (k:=f.toNat) (by rw [hx6];omega)
     subst ea'
     have hrf:=hrc f.toNat (by rw [hx6];omega)
     have HXK:Hid (r.x.getD k []=r.x[k]):=by show _=_;simp [List.getD_eq_getElem?_getD,hlt]
     have HK6:Hid (r.x[k].length=6):=by show _=_;rw [← HXK.out];exact hx6
     obtain ⟨VV,hVV⟩:∃ v,(r.x.getD k [])[f.toNat]'(by rw [hx6];omega)=v:=⟨_,rfl⟩
     rw [hVV] at hrf
     have HVV:Hid ((r.x.getD k []).getD f.toNat 0=VV):=by show _=_;rw [← hVV,List.getD_eq_getElem?_getD,List.getElem?_eq_getElem (by rw [hx6];omega),Option.getD_some]
     have HID:Hid (idA r f b k=if b<(r.x.getD k []).getD f.toNat 0 then r.ids.getD k 0+r.lv else r.ids.getD k 0):=rfl
     rw [HVV.out,hlv] at HID
     obtain ⟨I,hI⟩:∃ I,r.ids.getD k 0=I:=⟨_,rfl⟩
     rw [hI] at hii hid HID
     rw [hx6] at hx hx0
     have HX0:Hid (w.cell? ⟨xb,xo+k,none⟩=some (.slice (some ⟨rb,ro,none⟩) 6 c')):=hx0
     have HI0:Hid (IsL w (some ⟨rb,ro,none⟩) r.x[k]):=by have:=hxl0;rw [HXK.out] at this;exact this
     clear hx0 hxl0 hii0
     have HIA:Hid (IsL wr (some ⟨rb,ro,none⟩) r.x[k]):=by have:=hxl;rw [HXK.out] at this;exact this
     have HSP:Hid (type_of% sp):=sp
     have HCL:Hid (cx.length=k):=hcl
     have HIDS:Hid (ids=(idsA r f b).take k):=hids
     have HHX:Hid (wr.cell? ⟨xb,xo+k,none⟩=some (.slice (some ⟨rb,ro,none⟩) 6 c')):=hx
     obtain ⟨_,⟨y0,y1⟩,_⟩:=wr2 sp.bs
     have hkx:(k:Int)<(r.x.length:Int):=by omega
     have hk00:(0:Int)≤(k:Int):=by omega
     have hki:(k:Int)<(r.ids.length:Int):=by rw [HS3.out];omega
     have hf6:f<6:=by omega
     have hf0:0≤f:=hfx.1
     have hil:ids.length=k:=by rw [hids,List.length_take,idsA_length];omega
     have HILN:Hid (ids.length=k):=hil
     have hik40:ids.length≤40:=by omega
     have hbsz:=sp.bel.size
     clear hxl hrc hVV hI sp hcl hids hil ea1 hx6
     by_cases hbv:b<VV
     ·
      have HR:Hid (idA r f b k=I+lv):=by show _=_;rw [HID.out,if_pos hbv]
      clear HID
      go_wp2
      go_quiet (fail)
      obtain ⟨W2,hW2⟩:∃ W2,wr.drewN nq=W2:=⟨_,rfl⟩
      have SPW:Hid (SP w W2 bo lo hi vx (.slice ag r.g.length cg) vi (2 * lv) r.l2 f b cx V bl r.x k ids r.g [.slice (some ⟨xb,xo,none⟩) r.x.length c0,.slice a1 r.g.length c1,.slice (some ⟨ib,io,none⟩) r.ids.length c2,.int .i64 lv,.int .i64 r.l2]):=by show SP _ _ _ _ _ _ _ _ _ _ _ _ _ _ _ _ _ _ _ _;rw [← hW2];exact HSP.out.below (Tm.below_drewN' _ _)
      have HX2:Hid (W2.cell? ⟨xb,xo+k,none⟩=some (.slice (some ⟨rb,ro,none⟩) 6 c')):=by show _=_;rw [← hW2];exact HHX.out
      have HI2:Hid (IsL W2 (some ⟨rb,ro,none⟩) r.x[k]):=by show IsL _ _ _;rw [← hW2];exact HIA.out
      have HL0:Hid (xb<w.heap.size):=hl0
      have HS2:Hid (w.heap.size+3≤W2.heap.size):=by show _≤_;have h1:=SPW.out.ge;have h2:=SPW.out.bv.1;omega
      rw [hW2]
      clear hW2 HSP HHX HIA e0 e1 e2 e3 e4 y0 y1 hx hii hrf
      obtain ⟨_,⟨d0,d1,d2,d3,d4⟩,_⟩:=wr5 SPW.out.bv
      obtain ⟨e0,e1,e2,e3,e4⟩:=c5' SPW.out.ba
      go_wp2_with (at_builtin;refine wpList_append_lies _ rfl _ _ 45 rfl (w.heap.size+3) 3 j0 (.int .i64 0) 1 8 Tryz.underlying45 hj hy0 hy1 hy2 rfl (by decide) vi ids.length (iv ids) rfl (SPW.out.below ((Below.refl _ W2).alloc (Nat.le_refl _) (.cells #[.int .i64 (I+lv)] 3))).oi ⟨W2.heap.size,0,none⟩ 1 1 [.int .i64 (I+lv)] rfl rfl (Ai.one_cell W2 3 (I+lv)) (Ai.one_one _) (by omega) (by unfold maxLen;omega) (by omega) (by have:=HS2.out;simp;omega) (W2.heap.size+1) (by simp) ?_;intro g cap w3 hown hgrow hp hglt;have SP3:Hid (SP w (w3.setCell ⟨bo,2,none⟩ (.slice (some ⟨g,0,none⟩) (ids.length+1) cap)) bo lo hi vx (.slice ag r.g.length cg) (.slice (some ⟨g,0,none⟩) (ids.length+1) cap) (2 * lv) r.l2 f b cx V bl r.x k (ids ++ [I+lv]) r.g [.slice (some ⟨xb,xo,none⟩) r.x.length c0,.slice a1 r.g.length c1,.slice (some ⟨ib,io,none⟩) r.ids.length c2,.int .i64 lv,.int .i64 r.l2]):=(SPW.out.below ((Below.refl _ W2).alloc (Nat.le_refl _) (.cells #[.int .i64 (I+lv)] 3))).addI (Ai.own_snoc rfl hown) hgrow (by rw [Sv.size_alloc];exact hp);obtain ⟨_,⟨m0,m1,m2,m3,m4⟩,mf0,mf1,mf2,mf3,mf4⟩:=wr5 (bvG (SPW.out.below ((Below.refl _ W2).alloc (Nat.le_refl _) (.cells #[.int .i64 (I+lv)] 3))) hgrow);clear hown hgrow hp)
      obtain ⟨W5,hW5⟩:∃ W5,w3.setCell ⟨bo,2,none⟩ (.slice (some ⟨g,0,none⟩) (ids.length+1) cap)=W5:=⟨_,rfl⟩
      rw [hW5] at SP3 ⊢
      clear hW5 m0 m1 m2 m3 m4 mf0 mf1 mf2 mf3 mf4 hglt d0 d1 d2 d3 d4 e0 e1 e2 e3 e4 SPW HX2 HI2
      have sp5:=SP3.out
      obtain ⟨_,⟨d0,d1,d2,d3,d4⟩,_⟩:=wr5 sp5.bv
      obtain ⟨e0,e1,e2,e3,e4⟩:=c5' sp5.ba
      have hxk:=(sp5.bel.cell (p:=⟨xb,xo+k,none⟩) (by exact HL0.out)).trans HX0.out
      have HRL:Hid (IsL W5 (some ⟨rb,ro,none⟩) r.x[k]):=HI0.out.below sp5.bel
      have hxw:xb<W5.heap.size:=Nat.lt_of_lt_of_le HL0.out sp5.bel.size
      have hww:w.heap.size<W5.heap.size:=sp5.ba.1
      have hbw:bo<W5.heap.size:=sp5.bv.1
      have nb1:¬ w.heap.size=bo:=by have:=sp5.ge.1;omega
      have nb2:¬ bo=w.heap.size:=by have:=sp5.ge.1;omega
      have nb3:¬ xb=bo:=by have:=sp5.ge.1;have:=HL0.out;omega
      have nb4:¬ bo=xb:=by have:=sp5.ge.1;have:=HL0.out;omega
      clear sp5 d1 d2 d3 d4 e1 e2 e3 e4
      have hS:=(show W5.drew.cell? ⟨bo,0,none⟩=some vx∧W5.drew.cell? ⟨w.heap.size,0,none⟩=some (.slice (some ⟨xb,xo,none⟩) r.x.length c0)∧W5.drew.cell? ⟨xb,xo+k,none⟩=some (.slice (some ⟨rb,ro,none⟩) 6 c') from ⟨d0,e0,hxk⟩)
      have HSX:Hid (∀ X:World,Below W5.heap.size W5 X→X.cell? ⟨bo,0,none⟩=some vx∧X.cell? ⟨w.heap.size,0,none⟩=some (.slice (some ⟨xb,xo,none⟩) r.x.length c0)∧X.cell? ⟨xb,xo+k,none⟩=some (.slice (some ⟨rb,ro,none⟩) 6 c')):=fun X hX=>by have s:=SP3.out.below hX;exact ⟨(wr5 s.bv).2.1.1,(c5' s.ba).1,(s.bel.cell (p:=⟨xb,xo+k,none⟩) (by exact HL0.out)).trans HX0.out⟩
      have HQ2:Hid (Below W5.heap.size W5 (W5.drew.alloc (.cells #[] 3))):=(Tm.below_drew W5).alloc (Nat.le_refl _) _
      refine Hd.start (fun w'=>w'.cell? ⟨bo,0,none⟩=some vx∧w'.cell? ⟨w.heap.size,0,none⟩=some (.slice (some ⟨xb,xo,none⟩) r.x.length c0)∧w'.cell? ⟨xb,xo+k,none⟩=some (.slice (some ⟨rb,ro,none⟩) 6 c')) 14 (by kernel_rfl) ?_
      refine Hd.After.pure (i:=0) (.pointer (some ⟨bo,0,none⟩)) rfl (by kernel_rfl) (by decide) (by kernel_rfl) (by kernel_rfl) (fun _ _ _ h=>h) hS (Or.inl ⟨by rfl,?_⟩) ?_
      ·
       intro W;go_simp
      (first | simp only [Act.put] | skip)
      refine Hd.After.take (i:=1) (vx) rfl (by kernel_rfl) (by kernel_rfl) (by kernel_rfl) (by kernel_rfl) (by kernel_rfl) (fun _ _ _ h=>h) hS (Or.inl ⟨by rfl,?_⟩) ?_
      ·
       rintro W ⟨hW1,hW2,hW3⟩;go_simp
      (first | simp only [Act.put] | skip)
      refine Hd.After.pure (i:=3) (.pointer (some ⟨w.heap.size,0,none⟩)) rfl (by kernel_rfl) (by decide) (by kernel_rfl) (by kernel_rfl) (fun _ _ _ h=>h) hS (Or.inl ⟨by rfl,?_⟩) ?_
      ·
       intro W;go_simp
      (first | simp only [Act.put] | skip)
      refine Hd.After.take (i:=4) (.slice (some ⟨xb,xo,none⟩) r.x.length c0) rfl (by kernel_rfl) (by kernel_rfl) (by kernel_rfl) (by kernel_rfl) (by kernel_rfl) (fun _ _ _ h=>h) hS (Or.inl ⟨by rfl,?_⟩) ?_
      ·
       rintro W ⟨hW1,hW2,hW3⟩;go_simp
      (first | simp only [Act.put] | skip)
      refine Hd.After.pure (i:=5) (.int .i64 k) rfl (by kernel_rfl) (by decide) (by kernel_rfl) (by kernel_rfl) (fun _ _ _ h=>h) hS (Or.inl ⟨by rfl,?_⟩) ?_
      ·
       intro W;go_simp
      (first | simp only [Act.put] | skip)
      refine Hd.After.pure (i:=6) (.pointer (some ⟨xb,xo+k,none⟩)) rfl (by kernel_rfl) (by decide) (by kernel_rfl) (by kernel_rfl) (fun _ _ _ h=>h) hS (Or.inl ⟨by rfl,?_⟩) ?_
      ·
       intro W;go_simp
      (first | simp only [Act.put] | skip)
      refine Hd.After.pure (i:=7) (.pointer (some ⟨xb,xo+k,none⟩)) rfl (by kernel_rfl) (by decide) (by kernel_rfl) (by kernel_rfl) (fun _ _ _ h=>h) hS (Or.inl ⟨by rfl,?_⟩) ?_
      ·
       intro W;go_simp
      (first | simp only [Act.put] | skip)
      refine Hd.After.take (i:=8) (.slice (some ⟨rb,ro,none⟩) 6 c') rfl (by kernel_rfl) (by kernel_rfl) (by kernel_rfl) (by kernel_rfl) (by kernel_rfl) (fun _ _ _ h=>h) hS (Or.inl ⟨by rfl,?_⟩) ?_
      ·
       rintro W ⟨hW1,hW2,hW3⟩;go_simp
      (first | simp only [Act.put] | skip)
      refine Hd.After.one (i:=2) (by kernel_rfl) rfl rfl ?_
      intro K2 hK2
      go_simp
      refine hK2 _ _ (fun _=>HSX.out _ HQ2.out) ?_
      clear hK2 K2
      (first | simp only [Act.put] | skip)
      refine Hd.After.one (i:=9) (by kernel_rfl) rfl rfl ?_
      intro K9 hK9
      refine wp_append_lies _ _ _ 45 rfl W5.heap.size 3 j0 (.int .i64 0) 1 8 Tryz.underlying45 hj hy0 hy1 hy2 rfl (by decide) (.slice (some ⟨W5.heap.size,0,none⟩) 0 0) 0 [] rfl (by exact Ai.own_empty W5 W5.heap.size (Nat.le_refl _)) ⟨rb,ro,none⟩ 6 c' (iv r.x[k]) rfl (by rw [Li.iv_length,HK6.out]) (by exact Ai.news_i (HRL.out.below HQ2.out)) (Li.iv_one _) (by omega) (by unfold maxLen;omega) (by omega) (by simp) _ rfl ?_
      intro g1 cap1 w6 hown1 hgrow1 hp1 hglt1
      have HB6:Hid (Below W5.heap.size W5 w6):=Ai.below_app HQ2.out (by simp) hgrow1 (by intro q hq;simp [Value.ownBlock] at hq;omega)
      have HO1:Hid (OwI w6 (fun q=>q=g1) (.slice (some ⟨g1,0,none⟩) 6 cap1) r.x[k]):=owi_of (own6 HK6.out hown1) HK6.out rfl
      have HP1:Hid (W5.heap.size≤g1∧g1<w6.heap.size):=⟨by simp [Value.ownBlock] at hp1;omega,hglt1⟩
      have HA6:Hid (Below W5.heap.size W5 (w6.alloc (.cells #[.slice (some ⟨g1,0,none⟩) 6 cap1] 139))):=HB6.out.alloc HB6.out.size _
      have hS6:=HSX.out _ HB6.out
      refine hK9 _ _ (fun _=>hS6) ?_
      clear hK9 K9 hown1 hgrow1 hp1 hglt1
      (first | simp only [Act.put] | skip)
      refine Hd.After.pure (i:=10) (.agg #[.slice (some ⟨g1,0,none⟩) 6 cap1]) rfl (by kernel_rfl) (by decide) (by kernel_rfl) (by kernel_rfl) (fun _ _ _ h=>h) hS6 (Or.inl ⟨by rfl,?_⟩) ?_
      ·
       intro W;go_simp
      (first | simp only [Act.put] | skip)
      refine Hd.After.one (i:=11) (by kernel_rfl) rfl rfl ?_
      intro K11 hK11
      go_simp
      refine hK11 _ _ (fun _=>HSX.out _ HA6.out) ?_
      clear hK11 K11
      (first | simp only [Act.put] | skip)
      refine Hd.After.one (i:=12) (by kernel_rfl) rfl rfl ?_
      intro K12 hK12
      refine wp_append_lies _ _ _ 116 rfl (w.heap.size+3) 139 i0 (.agg #[.slice none 0 0]) 1 24 Tryz.underlying116 hi0 hz0 hz1 hz2 rfl (by decide) vx k cx rfl (row_below SP3.out.ox HA6.out) ⟨w6.heap.size,0,none⟩ 1 1 [.slice (some ⟨g1,0,none⟩) 6 cap1] rfl rfl (news1 w6 _ _) (one1 _ rfl) (by omega) (by unfold maxLen;omega) (by omega) (by have:=SP3.out.ge;have:=SP3.out.bv.1;have:=HB6.out.size;simp;omega) (w6.heap.size+1) (by simp) ?_
      intro g2 cap2 w7 hown2 hgrow2 hp2 hglt2
      have SP7:Hid _:=SP3.out.addX hlt HCL.out HA6.out (HO1.out.below ((Below.refl _ w6).alloc (Nat.le_refl _) _)) HP1.out.1 (by have:=HP1.out.2;simp;omega) hown2 hgrow2 (by rw [Sv.size_alloc];exact hp2)
      obtain ⟨mb,⟨m0,m1,m2,m3,m4⟩,mf0,mf1,mf2,mf3,mf4⟩:=wr5 (bvX SP3.out HA6.out hgrow2)
      obtain ⟨hba7,hbl7⟩:=baX SP3.out HA6.out hgrow2
      have hS7:=(show w7.cell? ⟨bo,0,none⟩=some vx∧w7.cell? ⟨w.heap.size,0,none⟩=some (.slice (some ⟨xb,xo,none⟩) r.x.length c0)∧w7.cell? ⟨xb,xo+k,none⟩=some (.slice (some ⟨rb,ro,none⟩) 6 c') from ⟨m0,(c5' hba7).1,(hbl7.cell (p:=⟨xb,xo+k,none⟩) (by exact HL0.out)).trans HX0.out⟩)
      refine hK12 _ _ (fun _=>hS7) ?_
      clear hK12 K12 hown2 hgrow2 hp2 hglt2 hba7 hbl7 m1 m2 m3 m4 mf1 mf2 mf3 mf4
      (first | simp only [Act.put] | skip)
      refine Hd.After.pure (i:=13) (.pointer (some ⟨bo,0,none⟩)) rfl (by kernel_rfl) (by decide) (by kernel_rfl) (by kernel_rfl) (fun _ _ _ h=>h) hS7 (Or.inl ⟨by rfl,?_⟩) ?_
      ·
       intro W;go_simp
      (first | simp only [Act.put] | skip)
      refine Hd.After.one (i:=14) (by kernel_rfl) rfl rfl ?_
      intro K14 hK14
      go_simp
      refine hK14 _ _ (fun h=>by cases h) ?_
      clear hK14 K14
      refine Hd.After.done (by kernel_rfl) ?_ _
      have HIN:Hid (ids ++ [I+lv]=(idsA r f b).take (k+1)):=by
       show _=_
       rw [HIDS.out,List.take_add_one,List.getElem?_eq_getElem (by rw [idsA_length];exact hlt),idsA_at,HR.out];rfl
      have HC1:Hid ((cx ++ [Value.slice (some ⟨g1,0,none⟩) 6 cap1]).length=k+1):=by show _=_;rw [List.length_append,HCL.out];rfl
      have HLT:Hid (k<r.x.length):=hlt
      clear hS hS6 hS7 HSX HQ2 HB6 HO1 HP1 HA6 SP3 m0 mf0 mb d0 e0 hxk
      go_wp2
      go_roundw
      case rel=>exact ⟨k+1,HLT.out,by go_num,_,_,_,_,_,_,SP7.out,HC1.out,HIN.out⟩
      case measure=>have:=HLT.out;simp [intOf];omega
     ·
      have HR:Hid (idA r f b k=I):=by show _=_;rw [HID.out,if_neg hbv]
      clear HID
      go_wp2
      go_quiet (fail)
      obtain ⟨W2,hW2⟩:∃ W2,wr.drewN nq=W2:=⟨_,rfl⟩
      have SPW:Hid (SP w W2 bo lo hi vx (.slice ag r.g.length cg) vi (2 * lv) r.l2 f b cx V bl r.x k ids r.g [.slice (some ⟨xb,xo,none⟩) r.x.length c0,.slice a1 r.g.length c1,.slice (some ⟨ib,io,none⟩) r.ids.length c2,.int .i64 lv,.int .i64 r.l2]):=by show SP _ _ _ _ _ _ _ _ _ _ _ _ _ _ _ _ _ _ _ _;rw [← hW2];exact HSP.out.below (Tm.below_drewN' _ _)
      have HX2:Hid (W2.cell? ⟨xb,xo+k,none⟩=some (.slice (some ⟨rb,ro,none⟩) 6 c')):=by show _=_;rw [← hW2];exact HHX.out
      have HI2:Hid (IsL W2 (some ⟨rb,ro,none⟩) r.x[k]):=by show IsL _ _ _;rw [← hW2];exact HIA.out
      have HL0:Hid (xb<w.heap.size):=hl0
      have HS2:Hid (w.heap.size+3≤W2.heap.size):=by show _≤_;have h1:=SPW.out.ge;have h2:=SPW.out.bv.1;omega
      rw [hW2]
      clear hW2 HSP HHX HIA e0 e1 e2 e3 e4 y0 y1 hx hii hrf
      obtain ⟨_,⟨d0,d1,d2,d3,d4⟩,_⟩:=wr5 SPW.out.bv
      obtain ⟨e0,e1,e2,e3,e4⟩:=c5' SPW.out.ba
      go_wp2_with (at_builtin;refine wpList_append_lies _ rfl _ _ 45 rfl (w.heap.size+3) 3 j0 (.int .i64 0) 1 8 Tryz.underlying45 hj hy0 hy1 hy2 rfl (by decide) vi ids.length (iv ids) rfl (SPW.out.below ((Below.refl _ W2).alloc (Nat.le_refl _) (.cells #[.int .i64 (I)] 3))).oi ⟨W2.heap.size,0,none⟩ 1 1 [.int .i64 (I)] rfl rfl (Ai.one_cell W2 3 (I)) (Ai.one_one _) (by omega) (by unfold maxLen;omega) (by omega) (by have:=HS2.out;simp;omega) (W2.heap.size+1) (by simp) ?_;intro g cap w3 hown hgrow hp hglt;have SP3:Hid (SP w (w3.setCell ⟨bo,2,none⟩ (.slice (some ⟨g,0,none⟩) (ids.length+1) cap)) bo lo hi vx (.slice ag r.g.length cg) (.slice (some ⟨g,0,none⟩) (ids.length+1) cap) (2 * lv) r.l2 f b cx V bl r.x k (ids ++ [I]) r.g [.slice (some ⟨xb,xo,none⟩) r.x.length c0,.slice a1 r.g.length c1,.slice (some ⟨ib,io,none⟩) r.ids.length c2,.int .i64 lv,.int .i64 r.l2]):=(SPW.out.below ((Below.refl _ W2).alloc (Nat.le_refl _) (.cells #[.int .i64 (I)] 3))).addI (Ai.own_snoc rfl hown) hgrow (by rw [Sv.size_alloc];exact hp);obtain ⟨_,⟨m0,m1,m2,m3,m4⟩,mf0,mf1,mf2,mf3,mf4⟩:=wr5 (bvG (SPW.out.below ((Below.refl _ W2).alloc (Nat.le_refl _) (.cells #[.int .i64 (I)] 3))) hgrow);clear hown hgrow hp)
      obtain ⟨W5,hW5⟩:∃ W5,w3.setCell ⟨bo,2,none⟩ (.slice (some ⟨g,0,none⟩) (ids.length+1) cap)=W5:=⟨_,rfl⟩
      rw [hW5] at SP3 ⊢
      clear hW5 m0 m1 m2 m3 m4 mf0 mf1 mf2 mf3 mf4 hglt d0 d1 d2 d3 d4 e0 e1 e2 e3 e4 SPW HX2 HI2
      have sp5:=SP3.out
      obtain ⟨_,⟨d0,d1,d2,d3,d4⟩,_⟩:=wr5 sp5.bv
      obtain ⟨e0,e1,e2,e3,e4⟩:=c5' sp5.ba
      have hxk:=(sp5.bel.cell (p:=⟨xb,xo+k,none⟩) (by exact HL0.out)).trans HX0.out
      have HRL:Hid (IsL W5 (some ⟨rb,ro,none⟩) r.x[k]):=HI0.out.below sp5.bel
      have hxw:xb<W5.heap.size:=Nat.lt_of_lt_of_le HL0.out sp5.bel.size
      have hww:w.heap.size<W5.heap.size:=sp5.ba.1
      have hbw:bo<W5.heap.size:=sp5.bv.1
      have nb1:¬ w.heap.size=bo:=by have:=sp5.ge.1;omega
      have nb2:¬ bo=w.heap.size:=by have:=sp5.ge.1;omega
      have nb3:¬ xb=bo:=by have:=sp5.ge.1;have:=HL0.out;omega
      have nb4:¬ bo=xb:=by have:=sp5.ge.1;have:=HL0.out;omega
      clear sp5 d1 d2 d3 d4 e1 e2 e3 e4
      have hS:=(show W5.drew.cell? ⟨bo,0,none⟩=some vx∧W5.drew.cell? ⟨w.heap.size,0,none⟩=some (.slice (some ⟨xb,xo,none⟩) r.x.length c0)∧W5.drew.cell? ⟨xb,xo+k,none⟩=some (.slice (some ⟨rb,ro,none⟩) 6 c') from ⟨d0,e0,hxk⟩)
      have HSX:Hid (∀ X:World,Below W5.heap.size W5 X→X.cell? ⟨bo,0,none⟩=some vx∧X.cell? ⟨w.heap.size,0,none⟩=some (.slice (some ⟨xb,xo,none⟩) r.x.length c0)∧X.cell? ⟨xb,xo+k,none⟩=some (.slice (some ⟨rb,ro,none⟩) 6 c')):=fun X hX=>by have s:=SP3.out.below hX;exact ⟨(wr5 s.bv).2.1.1,(c5' s.ba).1,(s.bel.cell (p:=⟨xb,xo+k,none⟩) (by exact HL0.out)).trans HX0.out⟩
      have HQ2:Hid (Below W5.heap.size W5 (W5.drew.alloc (.cells #[] 3))):=(Tm.below_drew W5).alloc (Nat.le_refl _) _
      refine Hd.start (fun w'=>w'.cell? ⟨bo,0,none⟩=some vx∧w'.cell? ⟨w.heap.size,0,none⟩=some (.slice (some ⟨xb,xo,none⟩) r.x.length c0)∧w'.cell? ⟨xb,xo+k,none⟩=some (.slice (some ⟨rb,ro,none⟩) 6 c')) 14 (by kernel_rfl) ?_
      refine Hd.After.pure (i:=0) (.pointer (some ⟨bo,0,none⟩)) rfl (by kernel_rfl) (by decide) (by kernel_rfl) (by kernel_rfl) (fun _ _ _ h=>h) hS (Or.inl ⟨by rfl,?_⟩) ?_
      ·
       intro W;go_simp
      (first | simp only [Act.put] | skip)
      refine Hd.After.take (i:=1) (vx) rfl (by kernel_rfl) (by kernel_rfl) (by kernel_rfl) (by kernel_rfl) (by kernel_rfl) (fun _ _ _ h=>h) hS (Or.inl ⟨by rfl,?_⟩) ?_
      ·
       rintro W ⟨hW1,hW2,hW3⟩;go_simp
      (first | simp only [Act.put] | skip)
      refine Hd.After.pure (i:=3) (.pointer (some ⟨w.heap.size,0,none⟩)) rfl (by kernel_rfl) (by decide) (by kernel_rfl) (by kernel_rfl) (fun _ _ _ h=>h) hS (Or.inl ⟨by rfl,?_⟩) ?_
      ·
       intro W;go_simp
      (first | simp only [Act.put] | skip)
      refine Hd.After.take (i:=4) (.slice (some ⟨xb,xo,none⟩) r.x.length c0) rfl (by kernel_rfl) (by kernel_rfl) (by kernel_rfl) (by kernel_rfl) (by kernel_rfl) (fun _ _ _ h=>h) hS (Or.inl ⟨by rfl,?_⟩) ?_
      ·
       rintro W ⟨hW1,hW2,hW3⟩;go_simp
      (first | simp only [Act.put] | skip)
      refine Hd.After.pure (i:=5) (.int .i64 k) rfl (by kernel_rfl) (by decide) (by kernel_rfl) (by kernel_rfl) (fun _ _ _ h=>h) hS (Or.inl ⟨by rfl,?_⟩) ?_
      ·
       intro W;go_simp
      (first | simp only [Act.put] | skip)
      refine Hd.After.pure (i:=6) (.pointer (some ⟨xb,xo+k,none⟩)) rfl (by kernel_rfl) (by decide) (by kernel_rfl) (by kernel_rfl) (fun _ _ _ h=>h) hS (Or.inl ⟨by rfl,?_⟩) ?_
      ·
       intro W;go_simp
      (first | simp only [Act.put] | skip)
      refine Hd.After.pure (i:=7) (.pointer (some ⟨xb,xo+k,none⟩)) rfl (by kernel_rfl) (by decide) (by kernel_rfl) (by kernel_rfl) (fun _ _ _ h=>h) hS (Or.inl ⟨by rfl,?_⟩) ?_
      ·
       intro W;go_simp
      (first | simp only [Act.put] | skip)
      refine Hd.After.take (i:=8) (.slice (some ⟨rb,ro,none⟩) 6 c') rfl (by kernel_rfl) (by kernel_rfl) (by kernel_rfl) (by kernel_rfl) (by kernel_rfl) (fun _ _ _ h=>h) hS (Or.inl ⟨by rfl,?_⟩) ?_
      ·
       rintro W ⟨hW1,hW2,hW3⟩;go_simp
      (first | simp only [Act.put] | skip)
      refine Hd.After.one (i:=2) (by kernel_rfl) rfl rfl ?_
      intro K2 hK2
      go_simp
      refine hK2 _ _ (fun _=>HSX.out _ HQ2.out) ?_
      clear hK2 K2
      (first | simp only [Act.put] | skip)
      refine Hd.After.one (i:=9) (by kernel_rfl) rfl rfl ?_
      intro K9 hK9
      refine wp_append_lies _ _ _ 45 rfl W5.heap.size 3 j0 (.int .i64 0) 1 8 Tryz.underlying45 hj hy0 hy1 hy2 rfl (by decide) (.slice (some ⟨W5.heap.size,0,none⟩) 0 0) 0 [] rfl (by exact Ai.own_empty W5 W5.heap.size (Nat.le_refl _)) ⟨rb,ro,none⟩ 6 c' (iv r.x[k]) rfl (by rw [Li.iv_length,HK6.out]) (by exact Ai.news_i (HRL.out.below HQ2.out)) (Li.iv_one _) (by omega) (by unfold maxLen;omega) (by omega) (by simp) _ rfl ?_
      intro g1 cap1 w6 hown1 hgrow1 hp1 hglt1
      have HB6:Hid (Below W5.heap.size W5 w6):=Ai.below_app HQ2.out (by simp) hgrow1 (by intro q hq;simp [Value.ownBlock] at hq;omega)
      have HO1:Hid (OwI w6 (fun q=>q=g1) (.slice (some ⟨g1,0,none⟩) 6 cap1) r.x[k]):=owi_of (own6 HK6.out hown1) HK6.out rfl
      have HP1:Hid (W5.heap.size≤g1∧g1<w6.heap.size):=⟨by simp [Value.ownBlock] at hp1;omega,hglt1⟩
      have HA6:Hid (Below W5.heap.size W5 (w6.alloc (.cells #[.slice (some ⟨g1,0,none⟩) 6 cap1] 139))):=HB6.out.alloc HB6.out.size _
      have hS6:=HSX.out _ HB6.out
      refine hK9 _ _ (fun _=>hS6) ?_
      clear hK9 K9 hown1 hgrow1 hp1 hglt1
      (first | simp only [Act.put] | skip)
      refine Hd.After.pure (i:=10) (.agg #[.slice (some ⟨g1,0,none⟩) 6 cap1]) rfl (by kernel_rfl) (by decide) (by kernel_rfl) (by kernel_rfl) (fun _ _ _ h=>h) hS6 (Or.inl ⟨by rfl,?_⟩) ?_
      ·
       intro W;go_simp
      (first | simp only [Act.put] | skip)
      refine Hd.After.one (i:=11) (by kernel_rfl) rfl rfl ?_
      intro K11 hK11
      go_simp
      refine hK11 _ _ (fun _=>HSX.out _ HA6.out) ?_
      clear hK11 K11
      (first | simp only [Act.put] | skip)
      refine Hd.After.one (i:=12) (by kernel_rfl) rfl rfl ?_
      intro K12 hK12
      refine wp_append_lies _ _ _ 116 rfl (w.heap.size+3) 139 i0 (.agg #[.slice none 0 0]) 1 24 Tryz.underlying116 hi0 hz0 hz1 hz2 rfl (by decide) vx k cx rfl (row_below SP3.out.ox HA6.out) ⟨w6.heap.size,0,none⟩ 1 1 [.slice (some ⟨g1,0,none⟩) 6 cap1] rfl rfl (news1 w6 _ _) (one1 _ rfl) (by omega) (by unfold maxLen;omega) (by omega) (by have:=SP3.out.ge;have:=SP3.out.bv.1;have:=HB6.out.size;simp;omega) (w6.heap.size+1) (by simp) ?_
      intro g2 cap2 w7 hown2 hgrow2 hp2 hglt2
      have SP7:Hid _:=SP3.out.addX hlt HCL.out HA6.out (HO1.out.below ((Below.refl _ w6).alloc (Nat.le_refl _) _)) HP1.out.1 (by have:=HP1.out.2;simp;omega) hown2 hgrow2 (by rw [Sv.size_alloc];exact hp2)
      obtain ⟨mb,⟨m0,m1,m2,m3,m4⟩,mf0,mf1,mf2,mf3,mf4⟩:=wr5 (bvX SP3.out HA6.out hgrow2)
      obtain ⟨hba7,hbl7⟩:=baX SP3.out HA6.out hgrow2
      have hS7:=(show w7.cell? ⟨bo,0,none⟩=some vx∧w7.cell? ⟨w.heap.size,0,none⟩=some (.slice (some ⟨xb,xo,none⟩) r.x.length c0)∧w7.cell? ⟨xb,xo+k,none⟩=some (.slice (some ⟨rb,ro,none⟩) 6 c') from ⟨m0,(c5' hba7).1,(hbl7.cell (p:=⟨xb,xo+k,none⟩) (by exact HL0.out)).trans HX0.out⟩)
      refine hK12 _ _ (fun _=>hS7) ?_
      clear hK12 K12 hown2 hgrow2 hp2 hglt2 hba7 hbl7 m1 m2 m3 m4 mf1 mf2 mf3 mf4
      (first | simp only [Act.put] | skip)
      refine Hd.After.pure (i:=13) (.pointer (some ⟨bo,0,none⟩)) rfl (by kernel_rfl) (by decide) (by kernel_rfl) (by kernel_rfl) (fun _ _ _ h=>h) hS7 (Or.inl ⟨by rfl,?_⟩) ?_
      ·
       intro W;go_simp
      (first | simp only [Act.put] | skip)
      refine Hd.After.one (i:=14) (by kernel_rfl) rfl rfl ?_
      intro K14 hK14
      go_simp
      refine hK14 _ _ (fun h=>by cases h) ?_
      clear hK14 K14
      refine Hd.After.done (by kernel_rfl) ?_ _
      have HIN:Hid (ids ++ [I]=(idsA r f b).take (k+1)):=by
       show _=_
       rw [HIDS.out,List.take_add_one,List.getElem?_eq_getElem (by rw [idsA_length];exact hlt),idsA_at,HR.out];rfl
      have HC1:Hid ((cx ++ [Value.slice (some ⟨g1,0,none⟩) 6 cap1]).length=k+1):=by show _=_;rw [List.length_append,HCL.out];rfl
      have HLT:Hid (k<r.x.length):=hlt
      clear hS hS6 hS7 HSX HQ2 HB6 HO1 HP1 HA6 SP3 m0 mf0 mb d0 e0 hxk
      go_wp2
      go_roundw
      case rel=>exact ⟨k+1,HLT.out,by go_num,_,_,_,_,_,_,SP7.out,HC1.out,HIN.out⟩
      case measure=>have:=HLT.out;simp [intOf];omega
    ·
     obtain rfl:k=r.x.length:=by omega
     have HR:Hid (asked r f b=⟨r.x,r.g,idsA r f b,2 * r.lv,r.l2⟩):=asked_ok b HC.out
     have hids2:ids=idsA r f b:=by rw [hids,List.take_of_length_le (by rw [idsA_length];omega)]
     obtain ⟨av,cv,rfl⟩:∃ av cv,vx=.slice av r.x.length cv:=rowS sp.ox
     obtain ⟨ai,ci,rfl,_⟩:=sp.oi.isl
     obtain ⟨_,⟨d0,d1,d2,d3,d4⟩,_⟩:=wr5 sp.bv
     obtain ⟨_,⟨u0,u1,u2,u3,u4⟩,f0,f1,f2,f3,f4⟩:=wr5 sp.br
     have HM:Hid (type_of% sp):=sp
     have HCL:Hid (cx.length=r.x.length):=hcl
     have HIDS:Hid (ids=idsA r f b):=hids2
     clear sp hcl hids hids2
     go_wp2
     refine bodyPost_ret (v:=.agg #[.slice av r.x.length cv,.slice ag r.g.length cg,.slice ai ids.length ci,.int .i64 (2 * lv),.int .i64 r.l2]) (by rw [Tm.results_cell rfl];go_simp) rfl ⟨_,_,_,by rw [HR.out,← hlv],?_,?_⟩
     ·
      have hfr:∀ (A:World) (o:Nat) (v:Value),Fr (fun q=>q=w.heap.size+1+1) A (A.setCell ⟨w.heap.size+1+1,o,none⟩ v):=fun A o v=>fr_grown (Li.grown_set A _ o v) rfl
      have hown:=HM.out.own HCL.out (2 * r.lv) r.l2
      rw [HR.out]
      have hown':OwR wr (fun q=>w.heap.size+3≤q∧q<wr.heap.size) (.slice av r.x.length cv) (.slice ag r.g.length cg) (.slice ai ids.length ci) ⟨r.x,r.g,idsA r f b,2 * r.lv,r.l2⟩:=by rw [← HIDS.out];exact hown
      refine (hown'.fr (B':=fun q=>q=w.heap.size+1+1) ?_ (fun q hq e=>by omega)).mono (fun q hq=>⟨by omega,by simpa [World.setCell] using hq.2⟩)
      iterate 5 refine Fr.trans ?_ (hfr _ _ _)
      exact Fr.refl _ _
     ·
      have hB:=HM.out.bel
      iterate 5 refine Below.setCell ?_ (by simp;try omega) _
      exact hB
theorem sh1 (X:World) (T U:TypeId) (vs:List Value):∃ W,((X.alloc (.cells #[] T)).alloc (.cells vs.toArray U)).drew=W∧Below X.heap.size X W∧Wr W (X.heap.size+1) 0 vs:=by
 refine ⟨_,rfl,qA2 X _ _,?_⟩
 have:=wr_new (X.alloc (.cells #[] T)) vs U
 rw [Sv.size_alloc] at this
 exact this
theorem sh2 (X:World) (T U:TypeId) (vs:List Value):∃ W,((X.alloc (.cells vs.toArray U)).alloc (.cells #[] T)).drew=W∧Below X.heap.size X W∧Wr W X.heap.size 0 vs :=
 ⟨_,rfl,qA2 X _ _,(wr_new X vs U).alloc _⟩
theorem mtR (w:World) (B:Nat→Prop) (a0 a1 a2:Option Addr) (c0 c1 c2:Nat) (lv l2:Int):OwR w B (.slice a0 0 c0) (.slice a1 0 c1) (.slice a2 0 c2) ⟨[],[],[],lv,l2⟩ :=
 ⟨fun _=>False,fun _=>False,fun _=>False,⟨_,_,rfl,.inl rfl⟩,⟨_,_,rfl,.inl rfl⟩,⟨_,_,rfl,.inl rfl⟩,fun k e=>e.elim,fun k e=>e.elim,fun k e=>e.elim⟩
set_option maxRecDepth 100000 in
set_option maxHeartbeats 20000000 in
theorem sasked0 (w:World) (a0 a1 a2:Option Addr) (c0 c1 c2:Nat) (lv l2 f b:Int) (hc:can ⟨[],[],[],lv,l2⟩ f=true) :
    Calls Tryz.prog 133 #[.agg #[.slice a0 0 c0,.slice a1 0 c1,.slice a2 0 c2,.int .i64 lv,.int .i64 l2],.agg #[.int .i64 f,.int .i64 b]] w fun e w'=>∃ v0 v1 v2,e=.returned (.agg #[v0,v1,v2,.int .i64 (2 * lv),.int .i64 l2])∧OwR w' (fun k=>w.heap.size≤k∧k<w'.heap.size) v0 v1 v2 ⟨[],[],[],2 * lv,l2⟩∧Below w.heap.size w w':=by
  obtain ⟨hrk,h8,f0,f5⟩:=can_iff.1 hc
  have hlv1:1≤lv:=hrk.1.2.2.2.1.1
  have hlv8:lv≤8:=h8
  have hv:rok ⟨[],[],[],lv,l2⟩=true:=rok_iff.2 hrk
  have hd:decide (8<lv)=false:=by simp;omega
  have hf5:btw f 0 5=true:=by simp [btw];omega
  have hw2:IntKind.i64.wrap (2 * lv)=2 * lv:=by simp [IntKind.wrap,IntKind.bits,IntKind.signed];omega
  go_enter Tryz.func133,Tryz.ntmps133
  go_wp2_with fail
  obtain ⟨W,hW,hsz,hB,bx,bs,br⟩:=new3 w [.slice a0 0 c0,.slice a1 0 c1,.slice a2 0 c2,.int .i64 lv,.int .i64 l2] [.int .i64 f,.int .i64 b] [.slice none 0 0,.slice none 0 0,.slice none 0 0,.int .i64 0,.int .i64 0] 151 58 151
  rw [hW]
  clear hW
  refine (srows W a0 a1 a2 c0 c1 c2 ⟨[],[],[],lv,l2⟩ ⟨.inl rfl,.inl rfl,.inl rfl⟩).mono ?_
  rintro e w1 ⟨rfl,hb⟩
  rw [hv]
  have bx:=bx.below hb
  have bs:=bs.below hb
  have br:=br.below hb
  have hB:=hB.trans (hb.mono hB.size)
  have hS:w.heap.size+3≤w1.heap.size:=by have:=hb.size;omega
  have hS1:w.heap.size<w1.heap.size:=by omega
  have hS2:w.heap.size<w1.heap.size+1:=by omega
  have hS3:w.heap.size+1+1<w1.heap.size:=by omega
  have hS4:w.heap.size+1+1<w1.heap.size+1:=by omega
  have nw1:¬ w.heap.size=w1.heap.size+1:=by omega
  have nw2:¬ w1.heap.size+1=w.heap.size:=by omega
  have nw3:¬ w.heap.size=w1.heap.size:=by omega
  have nw4:¬ w1.heap.size=w.heap.size:=by omega
  obtain ⟨_,⟨x0,x1,x2,x3,x4⟩,_⟩:=wr5 bx
  obtain ⟨_,⟨y0,y1⟩,_⟩:=wr2 bs
  have HBX:Hid (type_of% bx):=bx
  have HBR:Hid (type_of% br):=br
  have HB:Hid (type_of% hB):=hB
  have HS:Hid (w.heap.size+3≤w1.heap.size):=hS
  clear hb hsz bx bs br hB hv hrk hc
  go_wp2_with (go_at_call 33;refine (Li.between_any _ _ _ _).mono ?_;rintro e w' ⟨rfl,hw⟩;subst w';rw [hf5])
  clear y0 y1 x0 x2
  cases a1 with
  | none =>
    go_region_held3 (fun w'=>w'.cell? ⟨w.heap.size,1,none⟩=some (.slice none 0 c1)∧w'.cell? ⟨w.heap.size,3,none⟩=some (.int .i64 lv)∧w'.cell? ⟨w.heap.size,4,none⟩=some (.int .i64 l2)) (go_keep) (fail)
    all_goals
      first
        | (obtain ⟨W3, hW3, hb3, bv3⟩ := sh1 w1 3 151 [.slice none 0 0, .slice (some ⟨w1.heap.size, 0, none⟩) 0 0, .slice none 0 0, .int .i64 (2 * lv), .int .i64 l2]
           rw [hW3]
           have hB3:=HB.out.trans (hb3.mono HB.out.size)
           obtain ⟨_,⟨q0,q1,q2,q3,q4⟩,_⟩:=wr5 (HBX.out.below hb3)
           obtain ⟨_,⟨u0,u1,u2,u3,u4⟩,g0,g1,g2,g3,g4⟩:=wr5 (HBR.out.below hb3)
           obtain ⟨_,⟨d0,d1,d2,d3,d4⟩,_⟩:=wr5 bv3
           clear hW3 x1 x3 x4 hb3 bv3 hw2
           go_wp2
           go_loop [6] (fun i=>i=.int .i64 0) (fun _=>0)
           case atStart=>rfl
           case round =>
             subst hrel
             go_wp2
             refine bodyPost_ret (v:=.agg #[.slice none 0 0,.slice (some ⟨w1.heap.size,0,none⟩) 0 0,.slice none 0 0,.int .i64 (2 * lv),.int .i64 l2]) (by rw [Tm.results_cell rfl];go_simp) rfl ⟨_,_,_,rfl,mtR _ _ _ _ _ _ _ _ _ _,?_⟩
             iterate 5 refine Below.setCell ?_ (by simp;try omega) _
             exact hB3)
        | (obtain ⟨W3, hW3, hb3, bv3⟩ := sh2 w1 3 151 [.slice none 0 0, .slice (some ⟨w1.heap.size + 1, 0, none⟩) 0 0, .slice none 0 0, .int .i64 (2 * lv), .int .i64 l2]
           rw [hW3]
           have hB3:=HB.out.trans (hb3.mono HB.out.size)
           obtain ⟨_,⟨q0,q1,q2,q3,q4⟩,_⟩:=wr5 (HBX.out.below hb3)
           obtain ⟨_,⟨u0,u1,u2,u3,u4⟩,g0,g1,g2,g3,g4⟩:=wr5 (HBR.out.below hb3)
           obtain ⟨_,⟨d0,d1,d2,d3,d4⟩,_⟩:=wr5 bv3
           clear hW3 x1 x3 x4 hb3 bv3 hw2
           go_wp2
           go_loop [6] (fun i=>i=.int .i64 0) (fun _=>0)
           case atStart=>rfl
           case round =>
             subst hrel
             go_wp2
             refine bodyPost_ret (v:=.agg #[.slice none 0 0,.slice (some ⟨w1.heap.size+1,0,none⟩) 0 0,.slice none 0 0,.int .i64 (2 * lv),.int .i64 l2]) (by rw [Tm.results_cell rfl];go_simp) rfl ⟨_,_,_,rfl,mtR _ _ _ _ _ _ _ _ _ _,?_⟩
             iterate 5 refine Below.setCell ?_ (by simp;try omega) _
             exact hB3)
  | some ad =>
    go_region_held3 (fun w'=>w'.cell? ⟨w.heap.size,1,none⟩=some (.slice (some ad) 0 c1)∧w'.cell? ⟨w.heap.size,3,none⟩=some (.int .i64 lv)∧w'.cell? ⟨w.heap.size,4,none⟩=some (.int .i64 l2)) (go_keep) (fail)
    all_goals
      first
        | (obtain ⟨W3, hW3, hb3, bv3⟩ := sh1 w1 3 151 [.slice none 0 0, .slice (some ⟨w1.heap.size, 0, none⟩) 0 0, .slice none 0 0, .int .i64 (2 * lv), .int .i64 l2]
           rw [hW3]
           have hB3:=HB.out.trans (hb3.mono HB.out.size)
           obtain ⟨_,⟨q0,q1,q2,q3,q4⟩,_⟩:=wr5 (HBX.out.below hb3)
           obtain ⟨_,⟨u0,u1,u2,u3,u4⟩,g0,g1,g2,g3,g4⟩:=wr5 (HBR.out.below hb3)
           obtain ⟨_,⟨d0,d1,d2,d3,d4⟩,_⟩:=wr5 bv3
           clear hW3 x1 x3 x4 hb3 bv3 hw2
           go_wp2
           go_loop [6] (fun i=>i=.int .i64 0) (fun _=>0)
           case atStart=>rfl
           case round =>
             subst hrel
             go_wp2
             refine bodyPost_ret (v:=.agg #[.slice none 0 0,.slice (some ⟨w1.heap.size,0,none⟩) 0 0,.slice none 0 0,.int .i64 (2 * lv),.int .i64 l2]) (by rw [Tm.results_cell rfl];go_simp) rfl ⟨_,_,_,rfl,mtR _ _ _ _ _ _ _ _ _ _,?_⟩
             iterate 5 refine Below.setCell ?_ (by simp;try omega) _
             exact hB3)
        | (obtain ⟨W3, hW3, hb3, bv3⟩ := sh2 w1 3 151 [.slice none 0 0, .slice (some ⟨w1.heap.size + 1, 0, none⟩) 0 0, .slice none 0 0, .int .i64 (2 * lv), .int .i64 l2]
           rw [hW3]
           have hB3:=HB.out.trans (hb3.mono HB.out.size)
           obtain ⟨_,⟨q0,q1,q2,q3,q4⟩,_⟩:=wr5 (HBX.out.below hb3)
           obtain ⟨_,⟨u0,u1,u2,u3,u4⟩,g0,g1,g2,g3,g4⟩:=wr5 (HBR.out.below hb3)
           obtain ⟨_,⟨d0,d1,d2,d3,d4⟩,_⟩:=wr5 bv3
           clear hW3 x1 x3 x4 hb3 bv3 hw2
           go_wp2
           go_loop [6] (fun i=>i=.int .i64 0) (fun _=>0)
           case atStart=>rfl
           case round =>
             subst hrel
             go_wp2
             refine bodyPost_ret (v:=.agg #[.slice none 0 0,.slice (some ⟨w1.heap.size+1,0,none⟩) 0 0,.slice none 0 0,.int .i64 (2 * lv),.int .i64 l2]) (by rw [Tm.results_cell rfl];go_simp) rfl ⟨_,_,_,rfl,mtR _ _ _ _ _ _ _ _ _ _,?_⟩
             iterate 5 refine Below.setCell ?_ (by simp;try omega) _
             exact hB3)
theorem sasked (w:World) (a0 a1 a2:Option Addr) (c0 c1 c2:Nat) (r:R) (f b:Int) (h:Rd w a0 a1 a2 r) :
  Calls Tryz.prog 133 #[.agg #[.slice a0 r.x.length c0,.slice a1 r.g.length c1,.slice a2 r.ids.length c2,.int .i64 r.lv,.int .i64 r.l2],.agg #[.int .i64 f,.int .i64 b]] w fun e w'=>∃ v0 v1 v2,e=.returned (.agg #[v0,v1,v2,.int .i64 (asked r f b).lv,.int .i64 (asked r f b).l2])∧OwR w' (fun k=>w.heap.size≤k∧k<w'.heap.size) v0 v1 v2 (asked r f b)∧Below w.heap.size w w':=by
 by_cases h0:can r f=true∧r.g.length=0
 ·
  obtain ⟨hc,hg⟩:=h0
  obtain ⟨⟨⟨_,s2,s3,_⟩,_⟩,_⟩:=can_iff.1 hc
  obtain ⟨x,g,ids,lv,l2⟩:=r
  simp only at hg s2 s3
  obtain rfl:g=[]:=List.length_eq_zero_iff.1 hg
  obtain rfl:x=[]:=List.length_eq_zero_iff.1 (by simpa using s2.symm)
  obtain rfl:ids=[]:=List.length_eq_zero_iff.1 (by simpa using s3)
  have e:asked ⟨[],[],[],lv,l2⟩ f b=⟨[],[],[],2 * lv,l2⟩:=by rw [asked_ok b hc];rfl
  rw [e]
  exact sasked0 w a0 a1 a2 c0 c1 c2 lv l2 f b hc
 ·
  exact sasked1 w a0 a1 a2 c0 c1 c2 r f b h (fun hc hg=>h0 ⟨hc,hg⟩)
end Go.Proofs.YtaojoamldoofpaaGreatDoor.Sw7
namespace Go.Proofs.YtaojoamldoofpaaGreatDoor.Op
open Go.ChangeShapes Go.WideShapes Go.Deep Go.RowKit
open Tb
set_option maxRecDepth 10000
section
variable {H:Type} {enc:TypeId × Value→H} {W:World}
end
end Go.Proofs.YtaojoamldoofpaaGreatDoor.Op
namespace Go.Proofs.YtaojoamldoofpaaGreatDoor.Op
open Go.ChangeShapes Go.WideShapes Go.Deep Go.RowKit
open Tm (IsP)
open Sv
open Se (R)
set_option maxRecDepth 10000
section
variable {H:Type} {enc:TypeId × Value→H} {W:World}
end
end Go.Proofs.YtaojoamldoofpaaGreatDoor.Op
namespace Go.Proofs.YtaojoamldoofpaaGreatDoor.Sv
set_option maxRecDepth 100000
open Go.RowKit
open Se (R)
open Tm (IsP)
end Go.Proofs.YtaojoamldoofpaaGreatDoor.Sv
namespace Go.Proofs.YtaojoamldoofpaaGreatDoor.Sw7
open Se
theorem cells_le (r:R):(cells r).length≤16:=by
 cases hv:rok r with
 | false=>rw [cells_no hv];simp
 | true=>rw [cells_ok hv,tally_length,none0_length];have:=(rok_iff.1 hv).1.2.2.2.1;omega
end Go.Proofs.YtaojoamldoofpaaGreatDoor.Sw7
namespace Go.Proofs.YtaojoamldoofpaaGreatDoor.Sw7
set_option maxRecDepth 100000
open Go.RowKit
open Li (ret_bool ret_int below_none IsL btw)
open Tm (IsP pv pv_length)
open Se Sv
set_option maxHeartbeats 4000000 in
theorem sgain (w:World) (a0 a1 a2:Option Addr) (c0 c1 c2:Nat) (r:R) (f b:Int) (h:Rd w a0 a1 a2 r) :
  Calls Tryz.prog 155 #[.agg #[.slice a0 r.x.length c0,.slice a1 r.g.length c1,.slice a2 r.ids.length c2,.int .i64 r.lv,.int .i64 r.l2],.agg #[.int .i64 f,.int .i64 b]] w fun e w'=>e=.returned (.int .i64 (gain r f b))∧Below w.heap.size w w':=by
 go_enter Tryz.func155,Tryz.ntmps155
 go_wp2_with fail
 obtain ⟨W,hW,hsz,hB,bx,bs⟩:=new2 w [.slice a0 r.x.length c0,.slice a1 r.g.length c1,.slice a2 r.ids.length c2,.int .i64 r.lv,.int .i64 r.l2] [.int .i64 f,.int .i64 b] 151 58
 rw [hW]
 clear hW hsz bx bs
 refine (sasked _ _ _ _ _ _ _ r f b (h.below hB)).mono ?_
 rintro e w1 ⟨v0,v1,v2,rfl,ho,hb⟩
 have hB:=hB.trans (hb.mono hB.size)
 obtain ⟨q,hq⟩:∃ q,asked r f b=q:=⟨_,rfl⟩
 have HG:Hid (gain r f b=score (cells q) q.l2):=by show _=_;rw [← hq];rfl
 rw [hq] at ho ⊢
 obtain ⟨d0,k0,d1,k1,d2,k2,rfl,rfl,rfl,hr⟩:=ho.rd
 clear hb ho hq h
 go_wp2
 obtain ⟨W2,hW2,hsz2,hb2,bq⟩:=new1 w1 [.slice d0 q.x.length k0,.slice d1 q.g.length k1,.slice d2 q.ids.length k2,.int .i64 q.lv,.int .i64 q.l2] 151
 rw [hW2]
 have hB:=hB.trans (hb2.mono hB.size)
 have HR:Hid (Rd W2 d0 d1 d2 q):=hr.below hb2
 obtain ⟨_,⟨x0,x1,x2,x3,x4⟩,_⟩:=wr5 bq
 have HQ:Hid (type_of% bq):=bq
 have HB:Hid (type_of% hB):=hB
 clear hW2 hsz2 hb2 bq hB hr
 go_region_held3 (fun w'=>w'.cell? ⟨w1.heap.size,0,none⟩=some (.slice d0 q.x.length k0)∧w'.cell? ⟨w1.heap.size,1,none⟩=some (.slice d1 q.g.length k1)∧w'.cell? ⟨w1.heap.size,2,none⟩=some (.slice d2 q.ids.length k2)∧w'.cell? ⟨w1.heap.size,3,none⟩=some (.int .i64 q.lv)∧w'.cell? ⟨w1.heap.size,4,none⟩=some (.int .i64 q.l2)) (go_keep) (first
  | (go_at_call 132;refine (scellsof W2.drew _ _ _ _ _ _ q HR.out.drew).mono ?_;rintro e w2 ⟨v,rfl,oc,hb⟩;have HY:Hid (Below W2.heap.size W2 w2):=(Tm.below_drew _).trans hb;obtain ⟨ac,cc,rfl,hp⟩:=oc.isp;have HP:Hid (IsP w2 ac (cells q)):=hp;have hcl:=cells_le q;obtain ⟨_,⟨z0,z1,z2,z3,z4⟩,_⟩:=wr5 (HQ.out.below HY.out);clear hb oc hp)
  | (go_at_call 131;refine (sscore _ _ _ (cells q) q.l2 HP.out (by omega)).mono ?_;rintro e w3 ⟨rfl,hb⟩;have HZ:Hid (Below w2.heap.size w2 w3):=hb;obtain ⟨_,⟨t0,t1,t2,t3,t4⟩,_⟩:=wr5 ((HQ.out.below HY.out).below hb);clear hb))
 all_goals
  have hBB:=(HB.out.trans (HY.out.mono HB.out.size))
  have hB2:=hBB.trans (HZ.out.mono hBB.size)
  go_wp2
  go_ret
  exact ⟨ret_int HG.out.symm,hB2⟩
end Go.Proofs.YtaojoamldoofpaaGreatDoor.Sw7
