/-
  Contracts that the proof leans on, put together in the order in which they build.
-/
import Derived.Test.YtaojoamldoofpaaGreatDoorPart6
import Derived.Test.YtaojoamldoofpaaGreatDoorPart1
import Derived.Maps.AppendAt
import Derived.Test.YtaojoamldoofpaaGreatDoorPart5
import Derived.Deep.DeepMust
import Derived.Laws.IdiomStrings
import Derived.Lib.ItoaNum
import Derived.Deep.RegionWith
import Derived.Lib.ConvBytes
set_option linter.unusedVariables false
namespace Go.Proofs.YtaojoamldoofpaaGreatDoor.Tw
open Go.RowKit
open Li (ret_bool ret_int below_none)
open Tr Tm Bo Bw
theorem isl_pos {w:World} {a:Option Addr} {xs:List Int} {k:Nat} (h:Li.IsL w a xs) (hk:k<xs.length):∃ b off,a=some ⟨b,off,none⟩∧b<w.heap.size∧∀ j (hj:j<xs.length),w.cell? ⟨b,off+j,none⟩=some (.int .i64 xs[j]):=by
 rcases h with h0 | h
 ·
  rw [h0] at hk;simp at hk
 ·
  exact h
set_option maxHeartbeats 2000000 in
theorem sleaf (w:World) (a a' ax:Option Addr) (c c' cx:Nat) (t:T) (x:List Int) (hp:IsP w a t.sp) (hx:Li.IsL w a' t.lv) (hy:Li.IsL w ax x) (hl:t.sp.length+t.lv.length≤1048576) (hl':x.length≤1048576) :
  Calls Tryz.prog 135 #[.agg #[.slice a t.sp.length c,.slice a' t.lv.length c'],.slice ax x.length cx] w fun e w'=>e=.returned (.int .i64 (leafOf t x))∧Below w.heap.size w w':=by
 go_enter Tryz.func135,Tryz.ntmps135
 go_wp2_with fail
 obtain ⟨W,hW,hsz,hB,bx⟩:=boxes1 w (.slice a t.sp.length c) (.slice a' t.lv.length c') 56
 rw [hW]
 clear hW
 refine (stok _ _ _ _ _ t (hp.below hB) (hx.below hB) hl).mono ?_
 rintro e w1 ⟨rfl,hB1⟩
 have bx:=bx.below hB1
 have hB:=hB.trans (hB1.mono hB.size)
 clear hB1 hsz
 obtain ⟨hbl,⟨cx0,cx1⟩,_⟩:=bx
 have hp:=hp.below hB
 have hy:=hy.below hB
 cases ht:tok t with
 | false =>
  have HR:Hid (leafOf t x=0):=leafOf_no (askb_tok ht)
  go_wp2
  go_ret
  exact ⟨by rw [HR.out];rfl,hB⟩
 | true =>
  by_cases h6:x.length=6
  ·
   have h6':((x.length:Int) != 6)=false:=by simp;omega
   have HR:Hid (leafOf t x=lf (yes t.sp x) t.sp.length):=leafOf_yes (askb_iff.2 ⟨ht,h6⟩)
   have H6:Hid (x.length=6):=h6
   have HT:Hid (tok t=true):=ht
   have h4:=(tok_iff.1 ht).1.1
   clear h6 ht
   go_wp2
   go_loopw [5,6] (fun q i wr=>∃ k:Nat,k≤t.sp.length∧i=.int .i64 k∧q=.int .i64 (lf (yes t.sp x) k)∧∃ n,wr=w1.drewN n) (fun _ i _=>t.sp.length-(intOf i).toNat)
   case atStart=>exact ⟨0,Nat.zero_le _,rfl,rfl,0,rfl⟩
   case round =>
    obtain ⟨k,hk,rfl,rfl,n,hw⟩:=hrel
    have HW:Hid (wr=w1.drewN n):=hw
    have hBr:Below w.heap.size w wr:=by rw [hw];exact hB.trans ((Tm.below_drewN' _ _).mono hB.size)
    have cx0:wr.cell? ⟨w.heap.size,0,none⟩=some (.slice a t.sp.length c):=by rw [hw];exact cx0
    have hbl:w.heap.size<wr.heap.size:=by rw [hw];exact hbl
    have hp:IsP wr a t.sp:=by rw [hw];exact hp.drewN n
    have hy:Li.IsL wr ax x:=by rw [hw];exact hy.drewN n
    clear hw
    by_cases hlt:k<t.sp.length
    ·
     rcases hp with h0 | ⟨b,off,rfl,hb,hc⟩
     ·
      rw [h0] at hlt;simp at hlt
     rcases hy with h0 | ⟨yb,yo,rfl,hyb,hyc⟩
     ·
      have:=H6.out;rw [h0] at this;simp at this
     obtain ⟨cy0,cy1⟩:=hc k hlt
     have hF:=(spok_iff.1 (tok_sp HT.out k hlt)).1
     have hFl:t.sp[k].1.toNat<x.length:=by have:=H6.out;omega
     have hcz:=hyc t.sp[k].1.toNat hFl
     have HY:Hid (yes t.sp x k=decide (t.sp[k].2<x[t.sp[k].1.toNat])):=yes_at hlt hFl
     have hl1:=lf_lt (yes t.sp x) k
     have hpk:2 ^ k≤8:=Nat.pow_le_pow_right (n:=2) (j:=3) (by decide) (by omega)
     have hL8:lf (yes t.sp x) k≤8:=Nat.le_trans (Nat.le_of_lt hl1) hpk
     have hpw:=pow_d k (by omega)
     have HLy:yes t.sp x k=true→Hid (lf (yes t.sp x) (k+1)=lf (yes t.sp x) k+2 ^ k):=fun h=>lf_yes h
     have HLn:yes t.sp x k=false→Hid (lf (yes t.sp x) (k+1)=lf (yes t.sp x) k):=fun h=>lf_no h
     obtain ⟨p,hp2⟩:∃ p,2 ^ k=p:=⟨_,rfl⟩
     rw [hp2] at hpw hl1 hpk
     have hpv:Value.int .i64 (wrap64 (2 ^ k))=.int .i64 (p:Int):=by rw [hpw]
     clear hpw
     obtain ⟨L,hL⟩:∃ L,lf (yes t.sp x) k=L:=⟨_,rfl⟩
     rw [hL] at hl1 hL8 ⊢
     obtain ⟨v,hv⟩:∃ v,x[t.sp[k].1.toNat]=v:=⟨_,rfl⟩
     rw [hv] at hcz HY
     obtain ⟨f,hf⟩:∃ f,t.sp[k].1=f:=⟨_,rfl⟩
     obtain ⟨g,hg⟩:∃ g,t.sp[k].2=g:=⟨_,rfl⟩
     rw [hf] at cy0 hF hcz hFl
     rw [hg] at cy1 HY
     have hF0:0≤f:=hF.1
     have hF1:f<(x.length:Int):=by omega
     have HL:Hid (lf (yes t.sp x) k=L∧2 ^ k=p):=⟨hL,hp2⟩
     clear hc hyc hv hf hg hF hFl hp2 hL
     by_cases hgt:g<v
     ·
      have HN:Hid (lf (yes t.sp x) (k+1)=L+p):=by
       have h1:=(HLy (by rw [HY.out];simpa using hgt)).out
       rw [HL.out.1,HL.out.2] at h1;exact h1
      clear HLy HLn
      go_wp2
      go_quiet (fail)
      go_wp2
      go_roundw
      case rel=>exact ⟨k+1,by omega,by go_num,by rw [HN.out];go_num,_,by rw [HW.out,World.drewN_drewN]⟩
      case measure=>simp [intOf];omega
     ·
      have HN:Hid (lf (yes t.sp x) (k+1)=L):=by
       have h1:=(HLn (by rw [HY.out];simpa using hgt)).out
       rw [HL.out.1] at h1;exact h1
      clear HLy HLn
      go_wp2
      go_quiet (fail)
      go_wp2
      go_roundw
      case rel=>exact ⟨k+1,by omega,by go_num,by rw [HN.out],_,by rw [HW.out,World.drewN_drewN]⟩
      case measure=>simp [intOf];omega
    ·
     obtain rfl:k=t.sp.length:=by omega
     go_wp2
     go_ret
     exact ⟨by rw [HR.out];rfl,hBr⟩
  ·
   have h6':((x.length:Int) != 6)=true:=by simp;omega
   have HR:Hid (leafOf t x=0):=leafOf_no (askb_len h6)
   clear h6
   go_wp2
   go_ret
   exact ⟨by rw [HR.out];rfl,hB⟩
set_option maxHeartbeats 2000000 in
theorem seval (w:World) (a a' ax:Option Addr) (c c' cx:Nat) (t:T) (x:List Int) (hp:IsP w a t.sp) (hx:Li.IsL w a' t.lv) (hy:Li.IsL w ax x) (hl:t.sp.length+t.lv.length≤1048576) (hl':x.length≤1048576) :
  Calls Tryz.prog 104 #[.agg #[.slice a t.sp.length c,.slice a' t.lv.length c'],.slice ax x.length cx] w fun e w'=>e=.returned (.int .i64 (eval t x))∧Below w.heap.size w w':=by
 go_enter Tryz.func104,Tryz.ntmps104
 go_wp2_with fail
 obtain ⟨W,hW,hsz,hB,bx⟩:=boxes1 w (.slice a t.sp.length c) (.slice a' t.lv.length c') 56
 rw [hW]
 clear hW
 refine (stok _ _ _ _ _ t (hp.below hB) (hx.below hB) hl).mono ?_
 rintro e w1 ⟨rfl,hB1⟩
 have bx:=bx.below hB1
 have hB:=hB.trans (hB1.mono hB.size)
 clear hB1 hsz
 have bx':=bx
 obtain ⟨hbl,⟨cx0,cx1⟩,_⟩:=bx
 have hp:=hp.below hB
 have hx:=hx.below hB
 have hy:=hy.below hB
 cases ht:tok t with
 | false =>
  have HR:Hid (eval t x=0):=eval_no (askb_tok ht)
  go_wp2
  go_ret
  exact ⟨by rw [HR.out];rfl,hB⟩
 | true =>
  by_cases h6:x.length=6
  ·
   have h6':((x.length:Int) != 6)=false:=by simp;omega
   have hle:=leaf_le t x ht
   have HR:Hid (eval t x=t.lv[leafOf t x]'hle):=by
    show _=_
    have ha:=askb_iff.2 ⟨ht,h6⟩
    rw [eval_at ha]
    congr 1
    exact (leafOf_yes ha).symm
   clear h6 ht
   go_wp2
   go_region_with (go_at_call 135;refine (sleaf _ _ _ _ _ _ _ t x (by exact hp) (by exact hx) (by exact hy) hl hl').mono ?_;rintro e w2 ⟨rfl,hB2⟩;have bx2:=Box2.below (by exact bx') hB2;obtain ⟨hbl2,⟨cz0,cz1⟩,_⟩:=bx2;have hx2:=Li.IsL.below (by exact hx) hB2;obtain ⟨b2,off2,e2,hb2,hc2⟩:=isl_pos hx2 hle;subst e2;have hcl:=hc2 _ hle;clear hc2)
   all_goals go_wp2
   all_goals go_ret
   all_goals exact ⟨by rw [HR.out];rfl,by first | exact hB.trans (hB2.mono hB.size) | exact (hB.trans (hB2.mono hB.size)).drew | exact hB.drew.trans (hB2.mono hB.size) | exact (hB.drew.trans (hB2.mono hB.size)).drew⟩
  ·
   have h6':((x.length:Int) != 6)=true:=by simp;omega
   have HR:Hid (eval t x=0):=eval_no (askb_len h6)
   clear h6
   go_wp2
   go_ret
   exact ⟨by rw [HR.out];rfl,hB⟩
end Go.Proofs.YtaojoamldoofpaaGreatDoor.Tw
namespace Go.Proofs.YtaojoamldoofpaaGreatDoor.Sn
set_option maxRecDepth 100000
open Go.RowKit
open Li (iv Own iv_append)
theorem run_snoc1 (w:World) (t ty e:TypeId) (i:TypeInfo) (z:Value) (bytes:Nat) (ht:Tryz.prog.underlying t=some (.slice e)) (hi:Tryz.prog.info? e=some i) (hz:i.zero=some z) (hsize:i.size=1) (hby:i.bytes=bytes) (hzs:z.cells.size=1) (hbb:bytes≤1000)
  (base:Nat) (v:Value) (n:Nat) (cs:List Value) (E:Nat) (u:Value) (hu:u.oneCell'=true) (e0:w.cell? ⟨E,0,none⟩=some u) (hown:w.ownsRow base e 1 v n cs) (hb:base≤w.heap.size) (hl:n≤1048576) :
  ∃ g c w5,(Builtin.append_ #[t,t] ty #[v,.slice (some ⟨E,0,none⟩) 1 1]).run Tryz.prog w=.ok (.slice (some ⟨g,0,none⟩) (n+1) c) w5∧w5.ownsRow base e 1 (.slice (some ⟨g,0,none⟩) (n+1) c) (n+1) (cs ++ [u])∧w.grownBy w5 v.ownBlock∧(v.ownBlock=some g ∨ w.heap.size≤g):=by
 have hm:(n+1) * bytes≤140737488355328:=Nat.le_trans (Nat.mul_le_mul (show n+1≤1048577 by omega) hbb) (by omega)
 obtain ⟨v',w',hr,h2,h3,hnil,h5⟩:=run_append_own_at (P:=Tryz.prog) (w:=w) base t ty e i z 1 bytes ht hi hz hsize hby hzs (by omega) v n cs hown ⟨E,0,none⟩ 1 1 [u] rfl (by
  intro j x hj
  rw [Go.WideShapes.add_plain,Nat.zero_add]
  match j,hj with
  | 0,hj=>simp at hj;subst hj;exact e0) (by intro x hx;simp at hx;subst hx;exact hu) (by unfold maxLen;omega) hm hb
 have h2':=h2
 rcases h2.2 with ⟨rfl,h0⟩ | ⟨g,cap,cur,rfl,hb',hh,_⟩
 ·
  omega
 ·
  refine ⟨g,cap,w',hr,h2',h3,?_⟩
  have e:(Value.slice (some ⟨g,0,none⟩) (n+1) cap).ownBlock=some g:=rfl
  rw [e] at h5
  rcases h5 with h5 | h5
  ·
   exact .inl h5.symm
  ·
   exact .inr (by cases h5;exact Nat.le_refl _)
theorem wp_snoc1 {o:Oper} {a:Act} {w:World} {K:Act→World→Prop} {Q:Exit→Act→World→Prop} (s x:Operand) (t:TypeId) (ho:o.op=.call { callee:=.builtin .append,args:=#[s,x],argTypes:=#[t,t] }) (e:TypeId) (i:TypeInfo) (z:Value) (bytes:Nat) (ht:Tryz.prog.underlying t=some (.slice e)) (hi:Tryz.prog.info? e=some i) (hz:i.zero=some z) (hsize:i.size=1) (hby:i.bytes=bytes) (hzs:z.cells.size=1) (hbb:bytes≤1000)
  (dt:Option Tmp) (hd:o.dst=dt) (base:Nat) (v:Value) (n:Nat) (cs:List Value) (E:Nat) (u:Value) (hs:a.eval s=v) (hx:a.eval x=.slice (some ⟨E,0,none⟩) 1 1) (hu:u.oneCell'=true) (e0:w.cell? ⟨E,0,none⟩=some u) (hown:w.ownsRow base e 1 v n cs) (hb:base≤w.heap.size) (hl:n≤1048576)
  (hq:∀ g c w5,w5.ownsRow base e 1 (.slice (some ⟨g,0,none⟩) (n+1) c) (n+1) (cs ++ [u])→w.grownBy w5 v.ownBlock→(v.ownBlock=some g ∨ w.heap.size≤g)→K (a.put dt (.slice (some ⟨g,0,none⟩) (n+1) c)) w5):o.wp Tryz.prog a w K Q:=by
 subst hd
 obtain ⟨g,c,w5,hr,h2,h3,h4⟩:=run_snoc1 w t o.type e i z bytes ht hi hz hsize hby hzs hbb base v n cs E u hu e0 hown hb hl
 unfold Oper.wp execOp
 simp only [ho,resolve,invoke,builtin,Sem.run_bind,Sem.run_pure,Result.andThen_ok,List.map_toArray,List.map_cons,List.map_nil,hs,hx,hr]
 exact hq g c w5 h2 h3 h4
theorem wp_snocI {o:Oper} {a:Act} {w:World} {K:Act→World→Prop} {Q:Exit→Act→World→Prop} (s x:Operand) (ho:o.op=.call { callee:=.builtin .append,args:=#[s,x],argTypes:=#[45,45] })
  (dt:Option Tmp) (hd:o.dst=dt) (base:Nat) (v:Value) (xs:List Int) (E:Nat) (y:Int) (hs:a.eval s=v) (hx:a.eval x=.slice (some ⟨E,0,none⟩) 1 1) (e0:w.cell? ⟨E,0,none⟩=some (.int .i64 y)) (hown:Own w base v xs) (hb:base≤w.heap.size) (hl:xs.length≤1048576)
  (hq:∀ g c w5,Own w5 base (.slice (some ⟨g,0,none⟩) (xs.length+1) c) (xs ++ [y])→w.grownBy w5 v.ownBlock→(v.ownBlock=some g ∨ w.heap.size≤g)→K (a.put dt (.slice (some ⟨g,0,none⟩) (xs.length+1) c)) w5):o.wp Tryz.prog a w K Q:=by
 obtain ⟨i0,hi,hz0,hz1,hz2⟩:=info_parts Li.info_int
 refine wp_snoc1 s x 45 ho 3 i0 (.int .i64 0) 8 Tryz.underlying45 hi hz0 hz1 hz2 rfl (by omega) dt hd base v xs.length (iv xs) E (.int .i64 y) hs hx rfl e0 hown hb hl (fun g c w5 h1 h2 h3=>hq g c w5 ?_ h2 h3)
 unfold Own
 rw [← iv_append,List.length_append]
 exact h1
theorem wpl_snocI {ops:Array Oper} {rest:List Oper} {o:Oper} {a:Act} {w:World} {Q:Exit→Act→World→Prop} (hgd:o.guard=none) (s x:Operand) (ho:o.op=.call { callee:=.builtin .append,args:=#[s,x],argTypes:=#[45,45] })
  (base:Nat) (v:Value) (xs:List Int) (E:Nat) (y:Int) (hs:a.eval s=v) (hx:a.eval x=.slice (some ⟨E,0,none⟩) 1 1) (e0:w.cell? ⟨E,0,none⟩=some (.int .i64 y)) (hown:Own w base v xs) (hb:base≤w.heap.size) (hl:xs.length≤1048576)
  (hq:∀ g c w5,Own w5 base (.slice (some ⟨g,0,none⟩) (xs.length+1) c) (xs ++ [y])→w.grownBy w5 v.ownBlock→(v.ownBlock=some g ∨ w.heap.size≤g)→wpList Tryz.prog ops Q rest (a.put o.dst (.slice (some ⟨g,0,none⟩) (xs.length+1) c)) w5):wpList Tryz.prog ops Q (o :: rest) a w :=
 wpList_plain hgd fun K hK=>wp_snocI s x ho _ rfl base v xs E y hs hx e0 hown hb hl fun g c w5 h1 h2 h3=>hK _ _ (hq g c w5 h1 h2 h3)
theorem info_vec':(Tryz.prog.info? 139).map (fun i=>(i.zero,i.size,i.bytes))=some (some (.agg #[.slice none 0 0]),1,24):=by kernel_rfl
theorem wpl_snocV {ops:Array Oper} {rest:List Oper} {o:Oper} {a:Act} {w:World} {Q:Exit→Act→World→Prop} (hgd:o.guard=none) (s x:Operand) (ho:o.op=.call { callee:=.builtin .append,args:=#[s,x],argTypes:=#[116,116] })
  (base:Nat) (v:Value) (n:Nat) (cs:List Value) (E:Nat) (u:Value) (hs:a.eval s=v) (hx:a.eval x=.slice (some ⟨E,0,none⟩) 1 1) (hu:u.oneCell'=true) (e0:w.cell? ⟨E,0,none⟩=some u) (hown:w.ownsRow base 139 1 v n cs) (hb:base≤w.heap.size) (hl:n≤1048576)
  (hq:∀ g c w5,w5.ownsRow base 139 1 (.slice (some ⟨g,0,none⟩) (n+1) c) (n+1) (cs ++ [u])→w.grownBy w5 v.ownBlock→(v.ownBlock=some g ∨ w.heap.size≤g)→wpList Tryz.prog ops Q rest (a.put o.dst (.slice (some ⟨g,0,none⟩) (n+1) c)) w5):wpList Tryz.prog ops Q (o :: rest) a w:=by
 obtain ⟨i0,hi,hz0,hz1,hz2⟩:=info_parts info_vec'
 exact wpList_plain hgd fun K hK=>wp_snoc1 s x 116 ho 139 i0 (.agg #[.slice none 0 0]) 24 Tryz.underlying116 hi hz0 hz1 hz2 rfl (by omega) _ rfl base v n cs E u hs hx hu e0 hown hb hl fun g c w5 h1 h2 h3=>hK _ _ (hq g c w5 h1 h2 h3)
end Go.Proofs.YtaojoamldoofpaaGreatDoor.Sn
namespace Go.Proofs.YtaojoamldoofpaaGreatDoor.Tn
set_option maxRecDepth 100000
open Go.RowKit
open Li (ret_bool ret_int below_none IsL btw Own)
open Se Sv
open Sw7 (row_fr row_below)
open Bo (fok aok bor)
def col (x:List (List Int)) (f:Nat):List Int:=x.map (fun v=>v.getD f 0)
def bors (x:List (List Int)) (most:Int) (k:Nat):List (List Int):=(List.range k).map (fun f=>bor (col x f) most)
def vok (v:List Int):Bool:=decide (v.length=6) && aok v
def tnok (x:List (List Int)) (ls:List Int) (c:Cf.C):Bool:=Cf.cok c && (decide (ls.length≤40) && ls.all Tk.lok) && decide (x.length=ls.length) && x.all vok
def rowsOf (x:List (List Int)) (ls ps:List Int) (l2:Int):R:=⟨x,Gd.grs ls ps,List.replicate x.length 0,1,l2⟩
def nextT (x:List (List Int)) (ls:List Int) (c:Cf.C) (ps:List Int):Tr.T:=(Gt.grow (rowsOf x ls ps c.l2) (bors x c.most 6) c.depth c.rate).1
def nextP (x:List (List Int)) (t:Tr.T) (ps:List Int) (k:Nat):List Int:=ps.mapIdx (fun i p=>if i<k then Ad.fadd p (Tr.eval t (x.getD i [])) else p)
def boost (x:List (List Int)) (ls:List Int) (c:Cf.C):Nat→List Tr.T × List Int
 | 0=>([],List.replicate ls.length (Ba.base ls))
 | k+1=>((boost x ls c k).1 ++ [nextT x ls c (boost x ls c k).2],nextP x (nextT x ls c (boost x ls c k).2) (boost x ls c k).2 ls.length)
def train (x:List (List Int)) (ls:List Int) (c:Cf.C):List Tr.T × Int × Bool:=if tnok x ls c=true then ((boost x ls c c.trees.toNat).1,Ba.base ls,true) else ([],0,false)
theorem train_no {x:List (List Int)} {ls:List Int} {c:Cf.C} (h:tnok x ls c=false):train x ls c=([],0,false):=if_neg (by simp [h])
theorem train_ok {x:List (List Int)} {ls:List Int} {c:Cf.C} (h:tnok x ls c=true):train x ls c=((boost x ls c c.trees.toNat).1,Ba.base ls,true):=if_pos h
theorem nextP_length (x:List (List Int)) (t:Tr.T) (ps:List Int) (k:Nat):(nextP x t ps k).length=ps.length:=by simp [nextP]
theorem nextP_zero (x:List (List Int)) (t:Tr.T) (ps:List Int):nextP x t ps 0=ps:=by
 unfold nextP
 apply List.ext_getElem <;> simp
theorem nextP_set (x:List (List Int)) (t:Tr.T) (ps:List Int) (k:Nat) (hk:k<ps.length):(nextP x t ps k).set k (Ad.fadd ps[k] (Tr.eval t (x.getD k [])))=nextP x t ps (k+1):=by
 apply List.ext_getElem
 ·
  simp [nextP]
 ·
  intro i h1 h2
  rw [List.getElem_set]
  simp only [nextP,List.getElem_mapIdx]
  by_cases e:k=i
  ·
   subst e;simp
  ·
   rw [if_neg e]
   by_cases h:i<k
   ·
    rw [if_pos h,if_pos (by omega)]
   ·
    rw [if_neg h,if_neg (by omega)]
theorem nextP_get (x:List (List Int)) (t:Tr.T) (ps:List Int) (k:Nat) (hk:k<ps.length) (h:k<(nextP x t ps k).length):(nextP x t ps k)[k]=ps[k]:=by
 simp [nextP]
theorem boost_trees (x:List (List Int)) (ls:List Int) (c:Cf.C) (k:Nat):(boost x ls c k).1.length=k:=by
 induction k with
 | zero=>simp [boost]
 | succ k ih=>simp [boost,ih]
theorem bors_succ (x:List (List Int)) (most:Int) (k:Nat):bors x most (k+1)=bors x most k ++ [bor (col x k) most]:=by
 simp [bors,List.range_succ]
theorem bors_length (x:List (List Int)) (most:Int) (k:Nat):(bors x most k).length=k:=by simp [bors]
theorem col_take (x:List (List Int)) (f i:Nat) (h:i<x.length):(col x f).take (i+1)=(col x f).take i ++ [(x.getD i []).getD f 0]:=by
 have hc:i<(col x f).length:=by simpa [col] using h
 rw [List.take_succ_eq_append_getElem hc]
 congr 2
 simp [col,List.getD_eq_getElem?_getD,List.getElem?_eq_getElem h]
theorem col_length (x:List (List Int)) (f:Nat):(col x f).length=x.length:=by simp [col]
theorem vok_bad {x:List (List Int)} {i:Nat} (hi:i<x.length) (h:(x.getD i []).length=6→∃ f,f<6∧fok ((x.getD i []).getD f 0)=false):x.all vok=false:=by
 rw [List.all_eq_false]
 refine ⟨x.getD i [],by rw [List.getD_eq_getElem?_getD,List.getElem?_eq_getElem hi];exact List.getElem_mem hi,?_⟩
 intro hv
 simp only [vok,Bool.and_eq_true,decide_eq_true_iff] at hv
 obtain ⟨f,hf,hb⟩:=h hv.1
 have:=Bo.aok_at hv.2 f (by omega)
 rw [List.getD_eq_getElem?_getD,List.getElem?_eq_getElem (by omega),Option.getD_some] at hb
 rw [hb] at this
 cases this
theorem vok_all {x:List (List Int)} (h:∀ f,f<6→∀ i,i<x.length→(x.getD i []).length=6∧fok ((x.getD i []).getD f 0)=true):x.all vok=true:=by
 rw [List.all_eq_true]
 intro v hv
 obtain ⟨i,hi,rfl⟩:=List.getElem_of_mem hv
 have e:x.getD i []=x[i]:=by rw [List.getD_eq_getElem?_getD,List.getElem?_eq_getElem hi];rfl
 have h6:=(h 0 (by omega) i hi).1
 rw [e] at h6
 simp only [vok,Bool.and_eq_true,decide_eq_true_iff]
 refine ⟨h6,Bo.aok_to (fun f hf=>?_)⟩
 have:=(h f (by omega) i hi).2
 rw [e,List.getD_eq_getElem?_getD,List.getElem?_eq_getElem hf] at this
 exact this
structure VL (w:World) (lo:Nat) (v:Value) (cs:List Value) (xs:List (List Int)):Prop where
 ox:w.ownsRow lo 139 1 v xs.length cs
 cl:cs.length=xs.length
 nest:∀ i (hi:i<cs.length) (hi':i<xs.length),Own w lo cs[i] xs[i]∧∀ q,cs[i].ownBlock=some q→¬ v.ownBlock=some q
section
variable {w w1:World} {lo:Nat} {v:Value} {cs:List Value} {xs:List (List Int)}
theorem VL.fr {B:Nat→Prop} (h:VL w lo v cs xs) (hf:Fr B w w1) (hB:∀ q,lo≤q→q<w.heap.size→¬ B q):VL w1 lo v cs xs:=by
 have hb:∀ {s n:Nat} {t:TypeId} {u:Value} {us:List Value},w.ownsRow lo t s u n us→w1.ownsRow lo t s u n us:=fun ho=>row_fr ho hf (fun q e=>hB q (World.ownsRow.lt ho q e).1 (World.ownsRow.lt ho q e).2)
 exact ⟨hb h.ox,h.cl,fun i hi hi'=>⟨hb (h.nest i hi hi').1,(h.nest i hi hi').2⟩⟩
theorem VL.below (h:VL w lo v cs xs) (hb:Below w.heap.size w w1):VL w1 lo v cs xs:=h.fr (fr_below (B:=fun _=>False) hb) (fun _ _ _ e=>e)
theorem VL.made (hb:lo≤w.heap.size):VL (w.alloc (.cells #[] 139)) lo (.slice (some ⟨w.heap.size,0,none⟩) 0 0) [] [] :=
 ⟨World.ownsRow_made w #[] 0 hb (by unfold maxLen;omega) (by simp),rfl,fun i hi=>by simp at hi⟩
theorem VL.push {g n c:Nat} {v1:Value} {x1:List Int} (h:VL w lo v cs xs) (o1:Own w lo v1 x1) (h1:∀ q,v1.ownBlock=some q→¬ v.ownBlock=some q) (hown:w1.ownsRow lo 139 1 (.slice (some ⟨g,0,none⟩) n c) (xs.length+1) (cs ++ [v1])) (hg:w.grownBy w1 v.ownBlock) (hp:v.ownBlock=some g ∨ w.heap.size≤g):VL w1 lo (.slice (some ⟨g,0,none⟩) n c) (cs ++ [v1]) (xs ++ [x1]):=by
 have hcl:=h.cl
 have hF:Fr (fun q=>v.ownBlock=some q) w w1:=⟨hg.os,hg.tape,hg.output,hg.size,fun q hq hn=>hg.block q hq (fun e=>hn e.symm)⟩
 have hnew:∀ {s n':Nat} {t:TypeId} {u:Value} {us:List Value},w.ownsRow lo t s u n' us→(∀ q,u.ownBlock=some q→¬ v.ownBlock=some q)→∀ q,u.ownBlock=some q→¬ Value.ownBlock (.slice (some ⟨g,0,none⟩) n c)=some q:=fun ho hd q e e'=>by
  simp [Value.ownBlock] at e'
  subst e'
  rcases hp with e' | e'
  ·
   exact hd g e e'
  ·
   have:=(World.ownsRow.lt ho g e).2;omega
 refine ⟨by rw [List.length_append];exact hown,by simp [hcl],fun i hi hi'=>?_⟩
 by_cases e:i<cs.length
 ·
  obtain ⟨n1,n2⟩:=h.nest i e (by omega)
  rw [List.getElem_append_left e,List.getElem_append_left (by omega)]
  exact ⟨row_fr n1 hF n2,hnew n1 n2⟩
 ·
  have e2:i=cs.length:=by simp at hi;omega
  subst e2
  have ex:(xs ++ [x1])[cs.length]=x1:=by simp [hcl]
  have ec:(cs ++ [v1])[cs.length]=v1:=by simp
  rw [ex,ec]
  exact ⟨row_fr o1 hF h1,hnew o1 h1⟩
theorem VL.isv (h:VL w lo v cs xs):∃ a c,v=.slice a xs.length c∧IsV w a xs:=by
 have hcl:=h.cl
 have ho:=h.ox
 rcases h.ox.2 with ⟨e,h0⟩ | ⟨g,cap,cur,e,hb,hh,r⟩
 ·
  obtain rfl:=List.length_eq_zero_iff.1 h0
  exact ⟨none,0,e,.inl rfl⟩
 ·
  subst e
  refine ⟨_,cap,rfl,.inr ⟨g,0,rfl,(World.ownsRow.lt ho g rfl).2,fun j hj=>?_⟩⟩
  obtain ⟨n1,_⟩:=h.nest j (by omega) hj
  obtain ⟨a',c',e',i'⟩:=n1.isl
  exact ⟨a',c',by rw [Nat.zero_add,World.ownsRow.cellAt ho j (by omega),List.getElem?_eq_getElem (by omega),e'],i'⟩
end
end Go.Proofs.YtaojoamldoofpaaGreatDoor.Tn
namespace Go.Proofs.YtaojoamldoofpaaGreatDoor.Mk
set_option maxRecDepth 100000
open Go.RowKit
open Tb
open Li (ret_bool grown_trans grown_set below_none)
end Go.Proofs.YtaojoamldoofpaaGreatDoor.Mk
namespace Go.Proofs.YtaojoamldoofpaaGreatDoor.Tb
open Go.RowKit
open Li (ret_bool ret_int below_none)
structure Row where
 nums:List Int
 cats:List ByteArray
 label:Int
def RowIs (w:World) (v0 v1 v2:Value) (r:Row):Prop :=
 ∃ a0 c0 a1 c1,v0=.slice a0 r.nums.length c0∧v1=.slice a1 r.cats.length c1∧v2=.int .i64 r.label∧Li.IsL w a0 r.nums∧Ls.IsS w a1 r.cats
def Row.fits (r:Row):Prop:=r.nums.length≤9223372036854775807∧r.cats.length≤9223372036854775807∧Fits r.cats
def Row.sz (r:Row):Nat:=r.nums.length+(r.cats.length+lets r.cats)
theorem RowIs.below {w w1:World} {v0 v1 v2:Value} {r:Row} (h:RowIs w v0 v1 v2 r) (hB:Below w.heap.size w w1):RowIs w1 v0 v1 v2 r:=by
 obtain ⟨a0,c0,a1,c1,e0,e1,e2,h0,h1⟩:=h
 exact ⟨a0,c0,a1,c1,e0,e1,e2,h0.below hB,h1.below hB⟩
theorem grown_set' (w:World) (b o:Nat) (v:Value):w.grownBy (w.setCell ⟨b,o,none⟩ v) (some b):=Li.grown_set w b o v
theorem own_off {w w1:World} {B b:Nat} {v:Value} {xs:List Int} (h:Li.Own w B v xs) (hg:w.grownBy w1 (some b)) (hb:b<B):Li.Own w1 B v xs:=by
 refine h.kept hg ?_
 cases e:v.ownBlock with
 | none=>exact .inl rfl
 | some k=>exact .inr (by have:=(h.ge k e).1;simp;omega)
theorem sown_off {w w1:World} {B b:Nat} {v:Value} {xs:List ByteArray} (h:Ls.Own w B v xs) (hg:w.grownBy w1 (some b)) (hb:b<B):Ls.Own w1 B v xs:=by
 refine h.kept hg ?_
 cases e:v.ownBlock with
 | none=>exact .inl rfl
 | some k=>exact .inr (by have:=(h.ge k e).1;simp;omega)
def Box3 (w:World) (b:Nat) (v0 v1 v2:Value):Prop :=
 b<w.heap.size∧(w.cell? ⟨b,0,none⟩=some v0∧w.cell? ⟨b,1,none⟩=some v1∧w.cell? ⟨b,2,none⟩=some v2)∧w.frozen? ⟨b,0,none⟩=false∧w.frozen? ⟨b,1,none⟩=false∧w.frozen? ⟨b,2,none⟩=false
theorem Box3.keptAt {w w1:World} {b:Nat} {v0 v1 v2:Value} (h:Box3 w b v0 v1 v2) (hs:w.heap.size≤w1.heap.size) (hb:w1.heap[b]? = w.heap[b]?):Box3 w1 b v0 v1 v2:=by
 obtain ⟨hlt,⟨c0,c1,c2⟩,f0,f1,f2⟩:=h
 refine ⟨by omega,⟨?_,?_,?_⟩,?_,?_,?_⟩
 ·
  rw [World.cell?_of_block (w:=w) (a:=⟨b,0,none⟩) hb];exact c0
 ·
  rw [World.cell?_of_block (w:=w) (a:=⟨b,1,none⟩) hb];exact c1
 ·
  rw [World.cell?_of_block (w:=w) (a:=⟨b,2,none⟩) hb];exact c2
 ·
  rw [World.frozen?_of_block (w:=w) (a:=⟨b,0,none⟩) hb];exact f0
 ·
  rw [World.frozen?_of_block (w:=w) (a:=⟨b,1,none⟩) hb];exact f1
 ·
  rw [World.frozen?_of_block (w:=w) (a:=⟨b,2,none⟩) hb];exact f2
theorem Box3.below {w w1:World} {b:Nat} {v0 v1 v2:Value} (h:Box3 w b v0 v1 v2) (hB:Below w.heap.size w w1):Box3 w1 b v0 v1 v2:=h.keptAt hB.size (hB.block b h.1)
theorem Box3.setOther {w:World} {b g o:Nat} {v0 v1 v2 v:Value} (h:Box3 w b v0 v1 v2) (hne:¬ b=g):Box3 (w.setCell ⟨g,o,none⟩ v) b v0 v1 v2 :=
 h.keptAt (by simp [World.setCell]) (Below.heap_setCell _ _ _ _ (fun e=>hne (by simpa using e)))
theorem Box3.set0 {w:World} {b:Nat} {v0 v1 v2:Value} (h:Box3 w b v0 v1 v2) (v:Value):Box3 (w.setCell ⟨b,0,none⟩ v) b v v1 v2:=by
 obtain ⟨hlt,⟨c0,c1,c2⟩,f0,f1,f2⟩:=h
 refine ⟨by simpa [World.setCell] using hlt,⟨World.cell?_setCell_same _ _ _ c0,?_,?_⟩,?_,?_,?_⟩
 ·
  rw [World.cell?_setCell_other _ _ _ _ (by simp)];exact c1
 ·
  rw [World.cell?_setCell_other _ _ _ _ (by simp)];exact c2
 all_goals (rw [World.frozen?_setCell];assumption)
theorem Box3.set1 {w:World} {b:Nat} {v0 v1 v2:Value} (h:Box3 w b v0 v1 v2) (v:Value):Box3 (w.setCell ⟨b,1,none⟩ v) b v0 v v2:=by
 obtain ⟨hlt,⟨c0,c1,c2⟩,f0,f1,f2⟩:=h
 refine ⟨by simpa [World.setCell] using hlt,⟨?_,World.cell?_setCell_same _ _ _ c1,?_⟩,?_,?_,?_⟩
 ·
  rw [World.cell?_setCell_other _ _ _ _ (by simp)];exact c0
 ·
  rw [World.cell?_setCell_other _ _ _ _ (by simp)];exact c2
 all_goals (rw [World.frozen?_setCell];assumption)
theorem box3_new (w:World) (v0 v1 v2:Value) (T:TypeId):Box3 (w.alloc (.cells #[v0,v1,v2] T)) w.heap.size v0 v1 v2 :=
 ⟨by simp,⟨by simp [World.cell?_alloc_new],by simp [World.cell?_alloc_new],by simp [World.cell?_alloc_new]⟩,by simp,by simp,by simp⟩
theorem Box3.alloc {w:World} {b:Nat} {v0 v1 v2:Value} (h:Box3 w b v0 v1 v2) (o:Obj):Box3 (w.alloc o) b v0 v1 v2:=h.below ((Below.refl _ _).alloc (Nat.le_refl _) _)
theorem size_alloc (w:World) (o:Obj):(w.alloc o).heap.size=w.heap.size+1:=by simp
theorem results_cell {fn:Func} {p:Tmp} {ty:TypeId} (h:fn.results=#[.cell p ty]) (tmps:Array Value) (P:Program) (w:World) :
  (results fn tmps).run P w=((asAddr (tmps.getD p undef)).run P w).andThen fun a w₁=>(loadVar ty a).run P w₁:=by
 simp only [results,h]
 simp [Sem.run_bind,Result.andThen]
def IsR (w:World) (a:Option Addr) (rs:List Row):Prop :=
 rs=[] ∨ ∃ b off,a=some ⟨b,off,none⟩∧b<w.heap.size∧∀ j (hj:j<rs.length),∃ v0 v1 v2,(w.cell? ⟨b,off+j * 3,none⟩=some v0∧w.cell? ⟨b,off+j * 3+1,none⟩=some v1∧w.cell? ⟨b,off+j * 3+2,none⟩=some v2)∧RowIs w v0 v1 v2 rs[j]
theorem IsR.below {w w1:World} {a:Option Addr} {rs:List Row} (h:IsR w a rs) (hB:Below w.heap.size w w1):IsR w1 a rs:=by
 rcases h with h | ⟨b,off,rfl,hb,hc⟩
 ·
  exact .inl h
 ·
  refine .inr ⟨b,off,rfl,Nat.lt_of_lt_of_le hb hB.size,fun j hj=>?_⟩
  obtain ⟨v0,v1,v2,⟨c0,c1,c2⟩,hr⟩:=hc j hj
  exact ⟨v0,v1,v2,⟨(hB.cell (by exact hb)).trans c0,(hB.cell (by exact hb)).trans c1,(hB.cell (by exact hb)).trans c2⟩,hr.below hB⟩
def szR:List Row→Nat
 | []=>0
 | r :: rs=>r.sz+szR rs
theorem szR_take (rs:List Row) (k:Nat) (h:k<rs.length):szR (rs.take (k+1))=szR (rs.take k)+rs[k].sz:=by
 induction rs generalizing k with
 | nil=>simp at h
 | cons s r ih =>
  cases k with
  | zero=>simp [szR]
  | succ k =>
   simp only [List.take_succ_cons,szR,List.getElem_cons_succ]
   rw [ih k (by simpa using h)]
   omega
theorem szR_le (rs:List Row) (k:Nat):szR (rs.take k)≤szR rs:=by
 induction rs generalizing k with
 | nil=>simp
 | cons s r ih =>
  cases k with
  | zero=>simp [szR]
  | succ k=>simp only [List.take_succ_cons,szR];have:=ih k;omega
theorem szR_at (rs:List Row) (k:Nat) (h:k<rs.length):rs[k].sz≤szR rs:=by
 have h1:=szR_take rs k h
 have h2:=szR_le rs (k+1)
 omega
theorem info_smp:(Tryz.prog.info? 114).map (fun i=>(i.zero,i.size,i.bytes))=some (some (.agg #[.slice none 0 0,.slice none 0 0,.int .i64 0]),3,56):=by kernel_rfl
def apart (u v:Value):Prop:=u.ownBlock=none ∨ u.ownBlock≠v.ownBlock
theorem apart_of {u v:Value} (h:∀ k,u.ownBlock=some k→v.ownBlock=some k→False):apart u v:=by
 cases e:u.ownBlock with
 | none=>exact .inl e
 | some k=>exact .inr fun e'=>h k e (by rw [← e',e])
def Sp (V0 V1:Nat→Value) (g k:Nat):Prop :=
 (∀ i,i<k→(V0 i).ownBlock≠some g∧(V1 i).ownBlock≠some g) ∧
 ∀ i j,i<k→j<k→(i≠j→apart (V0 i) (V0 j)∧apart (V1 i) (V1 j))∧apart (V0 i) (V1 j)
def Nest (w:World) (B g:Nat) (V0 V1:Nat→Value) (xs:List Value) (rs:List Row) (k:Nat):Prop :=
 (∀ i (hi:i<rs.length),i<k→(xs[i * 3]? = some (V0 i)∧xs[i * 3+1]? = some (V1 i)∧xs[i * 3+2]? = some (.int .i64 rs[i].label))∧Li.Own w B (V0 i) rs[i].nums∧Ls.Own w B (V1 i) rs[i].cats)∧Sp V0 V1 g k
theorem nest_zero (w:World) (B g:Nat) (V0 V1:Nat→Value) (xs:List Value) (rs:List Row):Nest w B g V0 V1 xs rs 0 :=
 ⟨fun _ _ h=>by omega,fun _ h=>by omega,fun _ _ h=>by omega⟩
def upd (V:Nat→Value) (k:Nat) (u:Value):Nat→Value:=fun i=>if i=k then u else V i
theorem upd_at (V:Nat→Value) (k:Nat) (u:Value):upd V k u k=u:=if_pos rfl
theorem upd_off {V:Nat→Value} {k i:Nat} (u:Value) (h:i≠k):upd V k u i=V i:=if_neg h
theorem ownsRow_at {w w1:World} {base:Nat} {e:TypeId} {size:Nat} {v:Value} {n:Nat} {xs:List Value} (h:w.ownsRow base e size v n xs) (hk:∀ k,v.ownBlock=some k→w1.heap[k]? = w.heap[k]?):w1.ownsRow base e size v n xs:=by
 refine ⟨h.1,?_⟩
 rcases h.2 with h | ⟨g,cap,cur,rfl,hb,hh,r⟩
 ·
  exact .inl h
 ·
  exact .inr ⟨g,cap,cur,rfl,hb,by rw [hk g rfl];exact hh,r⟩
def OwnT (w:World) (lo hi:Nat) (v:Value) (rs:List Row):Prop :=
 ∃ g xs V0 V1,(∀ k,v.ownBlock=some k→k=g∧k<hi)∧w.ownsRow lo 114 3 v rs.length xs∧Nest w lo g V0 V1 xs rs rs.length ∧
  ∀ i,i<rs.length→(∀ b,(V0 i).ownBlock=some b→b<hi)∧(∀ b,(V1 i).ownBlock=some b→b<hi)
theorem OwnT.isr {w:World} {lo hi:Nat} {v:Value} {rs:List Row} (h:OwnT w lo hi v rs):∃ a cap,v=.slice a rs.length cap∧IsR w a rs:=by
 obtain ⟨g,xs,V0,V1,hg,hown,⟨hn,_⟩,_⟩:=h
 have hown':=hown
 rcases hown.2 with ⟨rfl,h0⟩ | ⟨g',cap,cur,rfl,hb,hh,_⟩
 ·
  exact ⟨none,0,by rw [h0],.inl (List.length_eq_zero_iff.1 h0)⟩
 ·
  obtain ⟨rfl,_⟩:=hg g' rfl
  have hlt:g'<w.heap.size:=(Array.getElem?_eq_some_iff.1 hh).1
  refine ⟨_,cap,rfl,.inr ⟨g',0,rfl,hlt,fun j hj=>?_⟩⟩
  obtain ⟨⟨c0,c1,c2⟩,o0,o1⟩:=hn j hj hj
  refine ⟨V0 j,V1 j,.int .i64 rs[j].label,⟨?_,?_,?_⟩,?_⟩
  ·
   rw [Nat.zero_add,World.ownsRow.cellAt hown' _ (by omega),c0]
  ·
   rw [Nat.zero_add,World.ownsRow.cellAt hown' _ (by omega),c1]
  ·
   rw [Nat.zero_add,World.ownsRow.cellAt hown' _ (by omega),c2]
  ·
   obtain ⟨a0,q0,e0,i0⟩:=o0.isl
   obtain ⟨a1,q1,e1,i1⟩:=o1.iss
   exact ⟨a0,q0,a1,q1,e0,e1,rfl,i0,i1⟩
theorem OwnT.keptAt {w w1:World} {lo hi:Nat} {v:Value} {rs:List Row} (h:OwnT w lo hi v rs) (hk:∀ k,lo≤k→k<hi→k<w.heap.size→w1.heap[k]? = w.heap[k]?):OwnT w1 lo hi v rs:=by
 obtain ⟨g,xs,V0,V1,hg,hown,⟨hn,hs⟩,hv⟩:=h
 refine ⟨g,xs,V0,V1,hg,ownsRow_at hown (fun k e=>hk k (World.ownsRow.lt hown k e).1 (hg k e).2 (World.ownsRow.lt hown k e).2),⟨fun i hi' hik=>?_,hs⟩,hv⟩
 obtain ⟨hc,o0,o1⟩:=hn i hi' hik
 exact ⟨hc,ownsRow_at o0 (fun k e=>hk k (o0.ge k e).1 ((hv i hi').1 k e) (o0.ge k e).2),ownsRow_at o1 (fun k e=>hk k (o1.ge k e).1 ((hv i hi').2 k e) (o1.ge k e).2)⟩
theorem OwnT.below {w w1:World} {lo hi:Nat} {v:Value} {rs:List Row} (h:OwnT w lo hi v rs) (hB:Below w.heap.size w w1):OwnT w1 lo hi v rs :=
 h.keptAt fun k _ _ hk=>hB.block k hk
theorem OwnT.off {w w1:World} {lo hi b:Nat} {v:Value} {rs:List Row} (h:OwnT w lo hi v rs) (hg:w.grownBy w1 (some b)) (hb:b<lo ∨ hi≤b):OwnT w1 lo hi v rs :=
 h.keptAt fun k h1 h2 hk=>hg.block k hk (by simp;omega)
theorem OwnT.mono {w:World} {lo lo' hi hi':Nat} {v:Value} {rs:List Row} (h:OwnT w lo hi v rs) (hl:lo'≤lo) (hh:hi≤hi'):OwnT w lo' hi' v rs:=by
 obtain ⟨g,xs,V0,V1,hg,hown,⟨hn,hs⟩,hv⟩:=h
 refine ⟨g,xs,V0,V1,fun k e=>⟨(hg k e).1,by have:=(hg k e).2;omega⟩,?_,⟨fun i hi' hik=>?_,hs⟩,fun i hi'=>⟨fun b e=>by have:=(hv i hi').1 b e;omega,fun b e=>by have:=(hv i hi').2 b e;omega⟩⟩
 ·
  refine ⟨hown.1,?_⟩
  rcases hown.2 with h | ⟨g',cap,cur,e,hb',r⟩
  ·
   exact .inl h
  ·
   exact .inr ⟨g',cap,cur,e,by omega,r⟩
 ·
  obtain ⟨hc,o0,o1⟩:=hn i hi' hik
  exact ⟨hc,o0.mono hl,o1.mono hl⟩
theorem OwnT.nil (w:World) (lo hi:Nat):OwnT w lo hi (.slice none 0 0) [] :=
 ⟨0,[],fun _=>undef,fun _=>undef,fun k e=>by simp [Value.ownBlock] at e,World.ownsRow_nil _ _ _ _,nest_zero _ _ _ _ _ _ _,fun i h=>by simp at h⟩
end Go.Proofs.YtaojoamldoofpaaGreatDoor.Tb
namespace Go.Proofs.YtaojoamldoofpaaGreatDoor.Tk
set_option maxRecDepth 20000
open Go.RowKit
open Tb
open Li (ret_bool btw between_any)
def fok (x:Int):Bool:=decide (-1000000000≤x∧x≤1000000000)
def sok (n c:Int):Bool:=decide ((0≤n∧n≤3)∧(0≤c∧c≤2))
def wbyte (c:UInt8):Bool:=decide ((97≤c.toNat∧c.toNat≤122) ∨ (48≤c.toNat∧c.toNat≤57) ∨ c.toNat=95)
def wlen (s:ByteArray):Bool:=decide (1≤s.size∧s.size≤12)
def wok (s:ByteArray):Bool:=wlen s && s.data.toList.all wbyte
theorem sok_iff {n c:Int} : sok n c=true↔(0≤n∧n≤3)∧(0≤c∧c≤2):=by simp [sok]
set_option maxHeartbeats 400000 in
theorem ok_any (x:Int) (w:World) :
  Calls Tryz.prog 65 #[.int .i64 x] w fun e w'=>e=.returned (.bool (fok x))∧w'=w:=by
 by_cases h1 : -1000000000≤x <;> by_cases h2:x≤1000000000
 all_goals
  go_enter Tryz.func65,Tryz.ntmps65
  go_wp2
  go_ret
  refine ⟨ret_bool ?_,rfl⟩
  simp [fok,h1,h2]
set_option maxHeartbeats 400000 in
theorem iok_any (x:Int) (w:World) :
  Calls Tryz.prog 37 #[.int .i64 x] w fun e w'=>e=.returned (.bool (fok x))∧w'=w:=by
 go_enter Tryz.func37,Tryz.ntmps37
 go_wp2_with (go_at_call 65;refine (ok_any _ _).mono ?_;rintro e w' ⟨rfl,rfl⟩)
 go_ret
 exact ⟨rfl,rfl⟩
set_option maxHeartbeats 400000 in
theorem sok_any (x:Int) (w:World) :
  Calls Tryz.prog 54 #[.int .i64 x] w fun e w'=>e=.returned (.bool (fok x))∧w'=w:=by
 go_enter Tryz.func54,Tryz.ntmps54
 go_wp2_with (go_at_call 33;refine (between_any _ _ _ _).mono ?_;rintro e w' ⟨rfl,rfl⟩)
 go_ret
 exact ⟨rfl,rfl⟩
set_option maxHeartbeats 1000000 in
theorem isch (w:World) (n c:Int) :
  Calls Tryz.prog 35 #[.agg #[.int .i64 n,.int .i64 c]] w fun e w'=>e=.returned (.bool (sok n c))∧Below w.heap.size w w':=by
 by_cases h1:0≤n
 ·
  by_cases h2:n≤3
  ·
   by_cases h3:0≤c
   ·
    by_cases h4:c≤2
    all_goals
     go_enter Tryz.func35,Tryz.ntmps35
     go_wp2
     go_ret
     exact ⟨ret_bool (by unfold sok;first | exact (decide_eq_true (by omega)).symm | exact (decide_eq_false (by omega)).symm),by first | exact (Below.refl _ _).alloc (Nat.le_refl _) _ | exact Go.below_drewN ((Below.refl _ _).alloc (Nat.le_refl _) _) _⟩
   ·
    go_enter Tryz.func35,Tryz.ntmps35
    go_wp2
    go_ret
    exact ⟨ret_bool (by unfold sok;first | exact (decide_eq_true (by omega)).symm | exact (decide_eq_false (by omega)).symm),by first | exact (Below.refl _ _).alloc (Nat.le_refl _) _ | exact Go.below_drewN ((Below.refl _ _).alloc (Nat.le_refl _) _) _⟩
  ·
   go_enter Tryz.func35,Tryz.ntmps35
   go_wp2
   go_ret
   exact ⟨ret_bool (by unfold sok;first | exact (decide_eq_true (by omega)).symm | exact (decide_eq_false (by omega)).symm),by first | exact (Below.refl _ _).alloc (Nat.le_refl _) _ | exact Go.below_drewN ((Below.refl _ _).alloc (Nat.le_refl _) _) _⟩
 ·
  go_enter Tryz.func35,Tryz.ntmps35
  go_wp2
  go_ret
  exact ⟨ret_bool (by unfold sok;first | exact (decide_eq_true (by omega)).symm | exact (decide_eq_false (by omega)).symm),by first | exact (Below.refl _ _).alloc (Nat.le_refl _) _ | exact Go.below_drewN ((Below.refl _ _).alloc (Nat.le_refl _) _) _⟩
theorem sok_btw (n c:Int):sok n c=(btw n 0 3 && btw c 0 2):=by simp [sok,btw]
set_option maxHeartbeats 1000000 in
theorem ssch (w:World) (n c:Int) :
  Calls Tryz.prog 53 #[.agg #[.int .i64 n,.int .i64 c]] w fun e w'=>e=.returned (.bool (sok n c))∧Below w.heap.size w w':=by
 cases h1:btw n 0 3
 ·
  go_enter Tryz.func53,Tryz.ntmps53
  go_wp2_with (go_at_call 33;refine (between_any _ _ _ _).mono ?_;rintro e w' ⟨rfl,rfl⟩)
  go_ret
  exact ⟨ret_bool (by rw [sok_btw,h1];rfl),(Below.refl _ _).alloc (Nat.le_refl _) _⟩
 ·
  go_enter Tryz.func53,Tryz.ntmps53
  go_wp2_with (go_at_call 33;refine (between_any _ _ _ _).mono ?_;rintro e w' ⟨rfl,rfl⟩)
  go_ret
  exact ⟨ret_bool (by rw [sok_btw,h1];rfl),(Below.refl _ _).alloc (Nat.le_refl _) _⟩
set_option maxHeartbeats 1000000 in
theorem iwbyte (w:World) (c:UInt8) :
  Calls Tryz.prog 179 #[.int .u8 (c.toNat:Int)] w fun e w'=>e=.returned (.bool (wbyte c))∧w'=w:=by
 by_cases h1:97≤(c.toNat:Int) <;> by_cases h2:(c.toNat:Int)≤122 <;> by_cases h3:48≤(c.toNat:Int) <;> by_cases h4:(c.toNat:Int)≤57 <;> by_cases h5:(c.toNat:Int)=95
 all_goals first | (exfalso;omega) | skip
 all_goals
  go_enter Tryz.func179,Tryz.ntmps179
  go_wp2
  go_ret
  refine ⟨ret_bool ?_,rfl⟩
  unfold wbyte
  first | exact (decide_eq_true (by omega)).symm | exact (decide_eq_false (by omega)).symm | (refine Eq.trans (b:=false) (beq_eq_false_iff_ne.2 (by omega)) ?_;exact (decide_eq_false (by omega)).symm)
theorem take_snoc (s:ByteArray) (k:Nat) (h:k<s.size):s.data.toList.take (k+1)=s.data.toList.take k ++ [s[k]]:=by
 rw [List.take_succ_eq_append_getElem (by simpa using h)];rfl
theorem all_snoc (s:ByteArray) (k:Nat) (h:k<s.size) (ha:(s.data.toList.take k).all wbyte=true) (hb:wbyte s[k]=true):(s.data.toList.take (k+1)).all wbyte=true:=by
 rw [take_snoc s k h];simp only [List.all_append,ha,List.all_cons,hb,List.all_nil,Bool.and_true]
theorem all_no (s:ByteArray) (k:Nat) (h:k<s.size) (hb:wbyte s[k]=false):s.data.toList.all wbyte=false:=by
 have hm:s[k] ∈ s.data.toList:=by
  have:s[k]=s.data.toList[k]'(by simpa using h):=rfl
  rw [this];exact List.getElem_mem _
 cases e:s.data.toList.all wbyte
 ·
  rfl
 ·
  have:=List.all_eq_true.1 e _ hm
  rw [hb] at this;cases this
theorem all_end (s:ByteArray) (ha:(s.data.toList.take s.size).all wbyte=true):s.data.toList.all wbyte=true:=by
 rwa [List.take_of_length_le (by simp)] at ha
theorem wok_no {s:ByteArray} (h:wlen s=false):wok s=false:=by unfold wok;rw [h];rfl
theorem wok_yes {s:ByteArray} (h:wlen s=true):wok s=s.data.toList.all wbyte:=by unfold wok;rw [h];rfl
theorem wlen_btw (s:ByteArray):btw (s.size:Int) 1 12=wlen s:=by
 unfold btw wlen
 rw [Bool.eq_iff_iff]
 simp only [decide_eq_true_eq]
 omega
theorem btw_az (c:UInt8) (lo hi:Int):btw (wrap64 (c.toNat:Int)) lo hi=decide (lo≤(c.toNat:Int)∧(c.toNat:Int)≤hi):=by
 have:c.toNat<256:=c.toNat_lt
 rw [show wrap64 (c.toNat:Int)=(c.toNat:Int) by unfold wrap64;omega]
 rfl
set_option maxHeartbeats 1000000 in
theorem sword (w:World) (s:ByteArray) (hs:s.size≤9223372036854775807) :
  Calls Tryz.prog 152 #[.string s] w fun e w'=>e=.returned (.bool (wok s))∧∃ n,w'=w.drewN n:=by
 cases hw:wlen s
 ·
  have HW:Hid (wok s=false):=wok_no hw
  have hb:btw (s.size:Int) 1 12=false:=(wlen_btw s).trans hw
  clear hw
  go_enter Tryz.func152,Tryz.ntmps152
  go_wp2_with (go_at_call 33;refine (between_any _ _ _ _).mono ?_;rintro e w' ⟨rfl,hw'⟩;subst w')
  go_ret
  exact ⟨by rw [HW.out];rfl,0,rfl⟩
 ·
  have HW:Hid (wok s=s.data.toList.all wbyte):=wok_yes hw
  have hb:btw (s.size:Int) 1 12=true:=(wlen_btw s).trans hw
  clear hw
  go_enter Tryz.func152,Tryz.ntmps152
  go_wp2_with (go_at_call 33;refine (between_any _ _ _ _).mono ?_;rintro e w' ⟨rfl,hw'⟩;subst w')
  go_loopw [3] (fun i wr=>∃ k:Nat,k≤s.size∧i=.int .i64 k∧(s.data.toList.take k).all wbyte=true∧∃ n,wr=w.drewN n) (fun i _=>s.size-(intOf i).toNat)
  case atStart=>exact ⟨0,Nat.zero_le _,rfl,rfl,0,rfl⟩
  case round =>
   obtain ⟨k,hk,rfl,ha,n,rfl⟩:=hrel
   have HA:Hid ((s.data.toList.take k).all wbyte=true):=ha
   clear ha
   by_cases hlt:k<s.size
   ·
    cases hq:wbyte s[k]
    ·
     have HQ:Hid (s.data.toList.all wbyte=false):=all_no s k hlt hq
     have h1:btw (wrap64 (s[k].toNat:Int)) 97 122=false:=by rw [btw_az];unfold wbyte at hq;have:=of_decide_eq_false hq;exact decide_eq_false (by omega)
     have h2:btw (wrap64 (s[k].toNat:Int)) 48 57=false:=by rw [btw_az];unfold wbyte at hq;have:=of_decide_eq_false hq;exact decide_eq_false (by omega)
     have h3:((s[k].toNat:Int) != 95)=true:=by unfold wbyte at hq;have:=of_decide_eq_false hq;exact bne_iff_ne.2 (by omega)
     clear hq
     go_wp2_with (go_at_call 33;refine (between_any _ _ _ _).mono ?_;rintro e w' ⟨rfl,hw'⟩;subst w')
     go_ret
     exact ⟨by rw [HW.out,HQ.out];rfl,_,rfl⟩
    ·
     have HN:Hid ((s.data.toList.take (k+1)).all wbyte=true):=all_snoc s k hlt HA.out hq
     unfold wbyte at hq
     have hq:=of_decide_eq_true hq
     by_cases c1:97≤s[k].toNat∧s[k].toNat≤122
     ·
      have h1:btw (wrap64 (s[k].toNat:Int)) 97 122=true:=by rw [btw_az];exact decide_eq_true (by omega)
      clear hq c1
      go_wp2_with (go_at_call 33;refine (between_any _ _ _ _).mono ?_;rintro e w' ⟨rfl,hw'⟩;subst w')
      go_roundw
      case rel=>exact ⟨k+1,by omega,by go_num,HN.out,_,rfl⟩
      case measure=>simp [intOf];omega
     ·
      have h1:btw (wrap64 (s[k].toNat:Int)) 97 122=false:=by rw [btw_az];exact decide_eq_false (by omega)
      by_cases c2:48≤s[k].toNat∧s[k].toNat≤57
      ·
       have h2:btw (wrap64 (s[k].toNat:Int)) 48 57=true:=by rw [btw_az];exact decide_eq_true (by omega)
       clear hq c1 c2
       go_wp2_with (go_at_call 33;refine (between_any _ _ _ _).mono ?_;rintro e w' ⟨rfl,hw'⟩;subst w')
       go_roundw
       case rel=>exact ⟨k+1,by omega,by go_num,HN.out,_,rfl⟩
       case measure=>simp [intOf];omega
      ·
       have h2:btw (wrap64 (s[k].toNat:Int)) 48 57=false:=by rw [btw_az];exact decide_eq_false (by omega)
       have h3:((s[k].toNat:Int) != 95)=false:=bne_eq_false_iff_eq.2 (by omega)
       clear hq c1 c2
       go_wp2_with (go_at_call 33;refine (between_any _ _ _ _).mono ?_;rintro e w' ⟨rfl,hw'⟩;subst w')
       go_roundw
       case rel=>exact ⟨k+1,by omega,by go_num,HN.out,_,rfl⟩
       case measure=>simp [intOf];omega
   ·
    go_wp2
    go_ret
    exact ⟨by rw [HW.out,all_end s (by have:=HA.out;rwa [show k=s.size by omega] at this)];rfl,_,rfl⟩
theorem bytes_below (w:World) (e:TypeId) (s:ByteArray):Below w.heap.size w (Lib.bytesWorld w e s) :=
 ⟨rfl,rfl,rfl,by rw [Lib.bytesWorld_size];omega,fun k hk=>Lib.bytesWorld_at_old w e s k hk⟩
set_option maxHeartbeats 1000000 in
theorem iword (w:World) (s:ByteArray) (hs:s.size≤9223372036854775807) :
  Calls Tryz.prog 168 #[.string s] w fun e w'=>e=.returned (.bool (wok s))∧Below w.heap.size w w':=by
 cases hw:wlen s
 ·
  have HW:Hid (wok s=false):=wok_no hw
  by_cases h1:(s.size:Int)<1
  ·
   clear hw
   go_enter Tryz.func168,Tryz.ntmps168
   go_wp2
   go_ret
   exact ⟨by rw [HW.out];rfl,Below.refl _ _⟩
  ·
   have h2:12<(s.size:Int):=by unfold wlen at hw;have:=of_decide_eq_false hw;omega
   clear hw
   go_enter Tryz.func168,Tryz.ntmps168
   go_wp2
   go_ret
   exact ⟨by rw [HW.out];rfl,Below.refl _ _⟩
 ·
  have HW:Hid (wok s=s.data.toList.all wbyte):=wok_yes hw
  have h1:¬ (s.size:Int)<1:=by unfold wlen at hw;have:=of_decide_eq_true hw;omega
  have h2:¬ 12<(s.size:Int):=by unfold wlen at hw;have:=of_decide_eq_true hw;omega
  clear hw
  have hcv:=Lib.run_convert_string_bytes (P:=Tryz.prog) w 9 22 5 s Tryz.underlying9 Tryz.underlying22 Tryz.underlying5
  obtain ⟨W,hW,hB,hc⟩:∃ W,Lib.bytesWorld w 5 s=W∧Below w.heap.size w W∧∀ j (hj:j<s.size),W.cell? ⟨w.heap.size,j,none⟩=some (.int .u8 (s[j].toNat:Int)) :=
   ⟨_,rfl,bytes_below _ _ _,fun j hj=>by rw [Lib.bytesWorld_cell w _ s j hj];simp [List.getD,hj];rfl⟩
  obtain ⟨cap,hcap⟩:∃ cap,grownCap w s.size 0 5=cap:=⟨_,rfl⟩
  rw [hW,hcap] at hcv
  clear hW hcap
  go_enter Tryz.func168,Tryz.ntmps168
  go_wp2
  go_loop [16] (fun i=>∃ k:Nat,k≤s.size∧i=.int .i64 k∧(s.data.toList.take k).all wbyte=true) (fun i=>s.size-(intOf i).toNat)
  case atStart=>exact ⟨0,Nat.zero_le _,rfl,rfl⟩
  case round =>
   obtain ⟨k,hk,rfl,ha⟩:=hrel
   have HA:Hid ((s.data.toList.take k).all wbyte=true):=ha
   clear ha
   by_cases hlt:k<s.size
   ·
    have hck:=hc k hlt
    cases hq:wbyte s[k]
    ·
     have HQ:Hid (s.data.toList.all wbyte=false):=all_no s k hlt hq
     go_wp2_with (go_at_call 179;refine (iwbyte _ _).mono ?_;rintro e w' ⟨rfl,hw'⟩;subst w')
     go_ret
     exact ⟨by rw [HW.out,HQ.out];rfl,hB⟩
    ·
     have HN:Hid ((s.data.toList.take (k+1)).all wbyte=true):=all_snoc s k hlt HA.out hq
     go_wp2_with (go_at_call 179;refine (iwbyte _ _).mono ?_;rintro e w' ⟨rfl,hw'⟩;subst w')
     go_round
     case rel=>exact ⟨k+1,by omega,by go_num,HN.out⟩
     case measure=>simp [intOf];omega
   ·
    go_wp2
    go_ret
    exact ⟨by rw [HW.out,all_end s (by have:=HA.out;rwa [show k=s.size by omega] at this)];rfl,hB⟩
end Go.Proofs.YtaojoamldoofpaaGreatDoor.Tk
