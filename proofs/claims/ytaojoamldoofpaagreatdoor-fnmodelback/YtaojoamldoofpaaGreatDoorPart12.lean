/-
  Contracts that the proof leans on, put together in the order in which they build.
-/
import Derived.Test.YtaojoamldoofpaaGreatDoorPart11
import Derived.Test.YtaojoamldoofpaaGreatDoorPart8
import Derived.Test.YtaojoamldoofpaaGreatDoorPart1
import Derived.Deep.DeepMust
import Derived.Maps.AppendAt
import Derived.Deep.RegionLaw
import Derived.Deep.AppendLies
import Derived.Test.YtaojoamldoofpaaGreatDoorPart4
import Derived.WalkKit
import Derived.Deep.QuietTactic
import Derived.Deep.RegionWith
import Derived.BigQuiet
import Derived.Below
import Derived.Maps.OwnSet
import Derived.Test.YtaojoamldoofpaaGreatDoorRows
import Derived.Test.YtaojoamldoofpaaGreatDoorPart6
set_option linter.unusedVariables false
namespace Go.Proofs.YtaojoamldoofpaaGreatDoor.Pa
open Go.RowKit
open Wd
open Li (below_none)
theorem pr_size (a b:ByteArray):(pr a b).size=a.size+1+b.size:=by
 unfold pr;simp [ByteArray.size_append];rfl
theorem paired_no {xs ys:List ByteArray} (h:¬ xs.length=ys.length):paired xs ys=[]:=by unfold paired;rw [if_neg h]
theorem paired_yes {xs ys:List ByteArray} (h:xs.length=ys.length):paired xs ys=List.zipWith pr xs ys:=by unfold paired;rw [if_pos h]
theorem paired_len {xs ys:List ByteArray} (h:xs.length=ys.length):(paired xs ys).length=xs.length:=by rw [paired_yes h];simp;omega
theorem paired_get {xs ys:List ByteArray} (h:xs.length=ys.length) (k:Nat) (hk:k<(paired xs ys).length):(paired xs ys)[k]=pr (xs[k]'(by rw [paired_len h] at hk;exact hk)) (ys[k]'(by rw [paired_len h] at hk;omega)):=by
 simp [paired_yes h]
set_option maxHeartbeats 2000000 in
theorem ipair (w:World) (a b:Option Addr) (ca cb:Nat) (xs ys:List ByteArray) (hx:Ls.IsS w a xs) (hy:Ls.IsS w b ys) (hl:xs.length≤1048576) (hl':ys.length≤1048576) (hz:∀ j (h:j<xs.length),xs[j].size≤1048576) (hz':∀ j (h:j<ys.length),ys[j].size≤1048576) :
  Calls Tryz.prog 89 #[.slice a xs.length ca,.slice b ys.length cb] w fun e w'=>∃ v,e=.returned v∧Ls.Own w' w.heap.size v (paired xs ys)∧Below w.heap.size w w':=by
 by_cases he:xs.length=ys.length
 rotate_left
 ·
  rw [paired_no he]
  have he':((xs.length:Int) != (ys.length:Int))=true:=by simp;omega
  go_enter Tryz.func89,Tryz.ntmps89
  go_wp2
  go_ret
  exact ⟨_,rfl,Ls.Own.nil _ _,Below.refl _ _⟩
 have he':((xs.length:Int) != (ys.length:Int))=false:=by simp;omega
 have hpl:=paired_len he
 have HPL:Hid ((paired xs ys).length=xs.length):=hpl
 have HE:Hid (xs.length=ys.length):=he
 clear he hpl
 obtain ⟨i0,hi,hz0,hz1,hz2⟩:=info_parts Ls.info_str
 go_enter Tryz.func89,Tryz.ntmps89
 go_wp2_with (at_make;refine wpList_make_full _ rfl _ _ 44 rfl w.heap.size 9 i0 (.string ⟨#[]⟩) 1 Tryz.underlying44 hi hz0 hz1 _ _ _ _ xs.length rfl rfl (by omega) (by omega) (by rw [hz2];omega) (by unfold maxLen;omega) (Nat.le_refl _) ?_;intro w1 hown hgrow)
 have hown':=Ls.own_made hown
 have hB1:=below_none hgrow
 clear hown hgrow
 go_loopw [18] (fun i wr=>∃ k:Nat,k≤xs.length∧i=.int .i64 k∧∃ l:List ByteArray,l.length=xs.length∧Ls.Like l (paired xs ys) k∧Ls.Own wr w.heap.size (.slice (some ⟨w.heap.size,0,none⟩) xs.length xs.length) l∧Below w.heap.size w wr) (fun i _=>xs.length-(intOf i).toNat)
 case atStart=>exact ⟨0,Nat.zero_le _,rfl,_,by simp,fun j hj=>by omega,hown',hB1⟩
 case round =>
  obtain ⟨k,hk,rfl,l,hll,hlike,hown,hB⟩:=hrel
  by_cases hlt:k<xs.length
  ·
   have hly:k<ys.length:=by have:=HE.out;omega
   rcases hx with rfl | ⟨xb,xo,rfl,hxb,hxc⟩
   ·
    simp at hlt
   rcases hy with rfl | ⟨yb,yo,rfl,hyb,hyc⟩
   ·
    simp at hly
   have hcx:wr.cell? ⟨xb,xo+k,none⟩=some (.string xs[k]):=(hB.cell (by exact hxb)).trans (hxc k hlt)
   have hcy:wr.cell? ⟨yb,yo+k,none⟩=some (.string ys[k]):=(hB.cell (by exact hyb)).trans (hyc k hly)
   obtain ⟨cv,hcl⟩:∃ cv,wr.cell? ⟨w.heap.size,k,none⟩=some (.string cv):=⟨_,hown.cell hll k (by omega)⟩
   have hcf:=hown.frozen hll k
   have HO:Hid (Ls.Own wr w.heap.size (.slice (some ⟨w.heap.size,0,none⟩) xs.length xs.length) l):=hown
   have hkp:k<(paired xs ys).length:=by rw [HPL.out];exact hlt
   have HL:Hid (Ls.Like (l.set k (pr xs[k] ys[k])) (paired xs ys) (k+1)):=by
    have:=Ls.like_set hlike hkp (by rw [HPL.out];exact hll)
    rwa [paired_get HE.out] at this
   have z1:=hz k hlt
   have z2:=hz' k hly
   have HLL:Hid (l.length=xs.length):=hll
   obtain ⟨x,ex⟩:∃ x,xs[k]=x:=⟨_,rfl⟩
   obtain ⟨y,ey⟩:∃ y,ys[k]=y:=⟨_,rfl⟩
   rw [ex] at hcx z1 HL
   rw [ey] at hcy z2 HL
   clear hown hlike hxc hyc ex ey hz hz' hll
   go_wp2
   go_roundw
   case rel=>exact ⟨k+1,by omega,by go_num,l.set k (pr x y),by simpa using HLL.out,HL.out,HO.out.set HLL.out k _,hB.setCell (p:=⟨w.heap.size,k,none⟩) (Nat.le_refl _) _⟩
   case measure=>simp [intOf];omega
  ·
   obtain rfl:k=xs.length:=by omega
   have HO:Hid (Ls.Own wr w.heap.size (.slice (some ⟨w.heap.size,0,none⟩) xs.length xs.length) (paired xs ys)):=by
    have e:=Ls.like_all (xs:=paired xs ys) (by rw [HPL.out];exact hlike) (by rw [HPL.out];exact hll)
    rw [← e];exact hown
   clear hown hlike hll
   go_wp2
   go_ret
   exact ⟨_,rfl,HO.out,hB⟩
set_option maxHeartbeats 4000000 in
theorem spair (w:World) (a b:Option Addr) (ca cb:Nat) (xs ys:List ByteArray) (hx:Ls.IsS w a xs) (hy:Ls.IsS w b ys) (hl:xs.length≤1048576) (hl':ys.length≤1048576) (hz:∀ j (h:j<xs.length),xs[j].size≤1048576) (hz':∀ j (h:j<ys.length),ys[j].size≤1048576) :
    Calls Tryz.prog 120 #[.slice a xs.length ca,.slice b ys.length cb] w fun e w'=>∃ v,e=.returned v∧Ls.Own w' w.heap.size v (paired xs ys)∧Below w.heap.size w w':=by
  by_cases he:xs.length=ys.length
  rotate_left
  · rw [paired_no he]
    have he':((xs.length:Int) == (ys.length:Int))=false:=by simp;omega
    have ho:=Ap.sown_empty w w.heap.size (Nat.le_refl _)
    have hB:Below w.heap.size w (w.alloc (.cells #[] 9)):=(Below.refl _ _).alloc (Nat.le_refl _) _
    by_cases h0:0<xs.length
    · go_enter Tryz.func120, Tryz.ntmps120
      go_wp2
      refine wp_loop_rounds 1 ?_
      rw [rounds_succ]
      go_wp2
      go_ret
      exact ⟨_,rfl,ho,hB⟩
    · have h0' : xs.length = 0 := by omega
      rw [h0'] at he' ⊢
      clear h0 h0'
      go_enter Tryz.func120,Tryz.ntmps120
      go_wp2
      refine wp_loop_rounds 1 ?_
      rw [rounds_succ]
      go_wp2
      go_ret
      exact ⟨_,rfl,ho,hB⟩
  have he':((xs.length:Int) == (ys.length:Int))=true:=by simp;omega
  have hpl:=paired_len he
  have HPL:Hid ((paired xs ys).length=xs.length):=hpl
  have HE:Hid (xs.length=ys.length):=he
  clear he hpl
  obtain ⟨i0,hi,hz0,hz1,hz2⟩:=info_parts Ls.info_str
  have ho:=Ap.sown_empty w w.heap.size (Nat.le_refl _)
  have hB1:Below w.heap.size w (w.alloc (.cells #[] 9)):=(Below.refl _ _).alloc (Nat.le_refl _) _
  go_enter Tryz.func120,Tryz.ntmps120
  go_wp2
  go_loopw [5,6] (fun v i wr=>∃ k:Nat,k≤xs.length∧i=.int .i64 k∧Ls.Own wr w.heap.size v ((paired xs ys).take k)∧Below w.heap.size w wr) (fun _ i _=>xs.length-(intOf i).toNat)
  case atStart=>exact ⟨0,Nat.zero_le _,rfl,by simpa using ho,hB1⟩
  case round =>
    obtain ⟨k,hk,rfl,hown,hB⟩:=hrel
    clear ho hB1
    by_cases hlt:k<xs.length
    · have hly : k < ys.length := by have := HE.out; omega
      have hkp:k<(paired xs ys).length:=by rw [HPL.out];exact hlt
      have HT:Hid ((paired xs ys).take (k+1)=(paired xs ys).take k ++ [pr xs[k] ys[k]]):=by show _=_;rw [List.take_succ_eq_append_getElem hkp,paired_get HE.out]
      have htl:((paired xs ys).take k).length=k:=by rw [List.length_take,HPL.out];omega
      rcases hx.below hB with rfl | ⟨xb,xo,rfl,hxb,hxc⟩
      · simp at hlt
      rcases hy.below hB with rfl | ⟨yb,yo,rfl,hyb,hyc⟩
      · simp at hly
      have hcx:=hxc k hlt
      have hcy:=hyc k hly
      have z1:=hz k hlt
      have z2:=hz' k hly
      obtain ⟨x,ex⟩:∃ x,xs[k]=x:=⟨_,rfl⟩
      obtain ⟨y,ey⟩:∃ y,ys[k]=y:=⟨_,rfl⟩
      rw [ex] at hcx z1 HT
      rw [ey] at hcy z2 HT
      obtain ⟨m,hm⟩:∃ m,(paired xs ys).take k=m:=⟨_,rfl⟩
      rw [hm] at hown HT htl
      have HM:Hid (m.length=k):=htl
      clear hxc hyc ex ey hz hz' hm htl
      have hBs:=hB.size
      have c1:¬ 9223372036854775807<x.size+1:=by omega
      have c2:¬ 9223372036854775807<x.size+1+y.size:=by omega
      go_wp2_with fail
      go_region_law (refine step_append_lies _ rfl _ _ 44 rfl w.heap.size 9 i0 (.string ⟨#[]⟩) 1 16 Tryz.underlying44 hi hz0 hz1 hz2 rfl (by decide) u5 m.length (Ls.sv m) rfl (World.ownsRow.alloc (w := World.drew _) hown _) _ 1 1 [.string (pr x y)] rfl rfl (Ap.one_at rfl (by simp)) (Ap.one_one _ rfl) (by decide) (by have := HM.out; unfold maxLen; omega) (by have := HM.out; omega) (by simp; omega) _ rfl ?_
                     intro g cap w5 hown5 hgrow hpos hglt)
      all_goals
        have ho5:=Ap.sown_snoc rfl hown5
        have hB5:Below w.heap.size w w5:=Ap.below_app (hB.alloc hBs _) (by simp;omega) (Ap.grown_undrew hgrow) (fun k hk=>(hown.ge k hk).1)
        clear hown5 hgrow hpos
        go_wp2
        go_roundw
        case rel=>exact ⟨k+1,by omega,by go_num,by rw [HT.out];have:=HM.out;simpa using ho5,hB5⟩
        case measure=>simp [intOf];omega
    · obtain rfl : k = xs.length := by omega
      have HO:Hid (Ls.Own wr w.heap.size u5 (paired xs ys)):=by
        have:(paired xs ys).take xs.length=paired xs ys:=List.take_of_length_le (by rw [HPL.out];exact Nat.le_refl _)
        rw [← this];exact hown
      clear hown
      go_wp2
      go_ret
      exact ⟨_,rfl,HO.out,hB⟩
end Go.Proofs.YtaojoamldoofpaaGreatDoor.Pa
namespace Go.Proofs.YtaojoamldoofpaaGreatDoor.Wc
set_option maxRecDepth 20000
open Go.RowKit
open Tb
open Tk
open Co
open Wd (paired)
open Li (below_none)
theorem row_below {w w1:World} {base n:Nat} {T:TypeId} {v:Value} {vs:List Value} (h:w.ownsRow base T 1 v n vs) (hb:Below w.heap.size w w1):w1.ownsRow base T 1 v n vs :=
 World.ownsRow.kept (row:=none) h ⟨hb.os,hb.tape,hb.output,hb.size,fun k hk _=>hb.block k hk⟩ (by cases hv:v.ownBlock <;> simp)
theorem row_mono {w:World} {base base' n:Nat} {T:TypeId} {v:Value} {vs:List Value} (h:w.ownsRow base T 1 v n vs) (hb:base'≤base):w.ownsRow base' T 1 v n vs:=by
 refine ⟨h.1,?_⟩
 rcases h.2 with h | ⟨g,cap,cur,e,hb',r⟩
 ·
  exact .inl h
 ·
  exact .inr ⟨g,cap,cur,e,by omega,r⟩
def El (w:World) (lo:Nat) (B:Option Nat) (u:Value) (xs:List ByteArray):Prop:=∃ a cap,u=.slice a xs.length cap∧Ls.IsS w a xs∧∀ ad,a=some ad→(lo≤ad.block∧ad.block<w.heap.size)∧some ad.block≠B
theorem El.grown {w w1:World} {lo:Nat} {B B':Option Nat} {u:Value} {xs:List ByteArray} (h:El w lo B u xs) (hg:w.grownBy w1 B) (hB:B'=B ∨ B'=some w.heap.size):El w1 lo B' u xs:=by
 obtain ⟨a,cap,e,hi,hb⟩:=h
 refine ⟨a,cap,e,hi.keptAt hg.size (fun x hx hl=>hg.block _ hl (hb x hx).2),fun ad hd=>⟨⟨(hb ad hd).1.1,Nat.lt_of_lt_of_le (hb ad hd).1.2 hg.size⟩,?_⟩⟩
 rcases hB with rfl | rfl
 ·
  exact (hb ad hd).2
 ·
  intro e';injection e' with e';have:=(hb ad hd).1;omega
theorem El.below {w w1:World} {lo:Nat} {B:Option Nat} {u:Value} {xs:List ByteArray} (h:El w lo B u xs) (hb:Below w.heap.size w w1):El w1 lo B u xs:=by
 obtain ⟨a,cap,e,hi,hd⟩:=h
 exact ⟨a,cap,e,hi.below hb,fun ad h=>⟨⟨(hd ad h).1.1,Nat.lt_of_lt_of_le (hd ad h).1.2 hb.size⟩,(hd ad h).2⟩⟩
theorem El.mono {w:World} {lo lo':Nat} {B:Option Nat} {u:Value} {xs:List ByteArray} (h:El w lo B u xs) (hl:lo'≤lo):El w lo' B u xs:=by
 obtain ⟨a,cap,e,hi,hd⟩:=h
 exact ⟨a,cap,e,hi,fun ad h=>⟨⟨Nat.le_trans hl (hd ad h).1.1,(hd ad h).1.2⟩,(hd ad h).2⟩⟩
theorem el_own {w:World} {base lo:Nat} {u:Value} {xs:List ByteArray} {B:Option Nat} (h:Ls.Own w base u xs) (hB:∀ k,B=some k→k<base) (hlo:lo≤base):El w lo B u xs:=by
 obtain ⟨a,cap,e,hi⟩:=h.iss
 refine ⟨a,cap,e,hi,fun ad hd=>?_⟩
 subst hd
 have:=h.ge ad.block (by rw [e];rfl)
 refine ⟨⟨by omega,this.2⟩,fun e'=>?_⟩
 have:=hB _ e'.symm
 omega
structure OC (T:TypeId) (w:World) (base:Nat) (v:Value) (cs:List (List ByteArray)):Prop where
 ex:∃ vs:List Value,vs.length=cs.length∧w.ownsRow base T 1 v cs.length vs∧∀ j (h:j<cs.length) (h':j<vs.length),El w base v.ownBlock vs[j] cs[j]
variable {T:TypeId} {w w1:World} {base:Nat} {v:Value} {cs:List (List ByteArray)}
theorem OC.below (h:OC T w base v cs) (hb:Below w.heap.size w w1):OC T w1 base v cs:=by
 obtain ⟨vs,hl,ho,he⟩:=h.ex
 exact ⟨vs,hl,row_below ho hb,fun j h h'=>(he j h h').below hb⟩
theorem OC.mono {base':Nat} (h:OC T w base v cs) (hb:base'≤base):OC T w base' v cs:=by
 obtain ⟨vs,hl,ho,he⟩:=h.ex
 exact ⟨vs,hl,row_mono ho hb,fun j h h'=>(he j h h').mono hb⟩
theorem OC.nil (T:TypeId) (w:World) (base:Nat):OC T w base (.slice none 0 0) []:=⟨[],rfl,World.ownsRow_nil _ _ _ _,fun j h=>by simp at h⟩
theorem OC.lt (h:OC T w base v cs):∀ k,v.ownBlock=some k→base≤k∧k<w.heap.size:=by
 obtain ⟨vs,hl,ho,he⟩:=h.ex
 exact World.ownsRow.lt ho
theorem oc_snoc {v5 u:Value} {xs:List ByteArray} {vs:List Value} (hl:vs.length=cs.length) (he:∀ j (h:j<cs.length) (h':j<vs.length),El w base v.ownBlock vs[j] cs[j]) (hu:El w base v.ownBlock u xs)
  (ho:w1.ownsRow base T 1 v5 (cs.length+1) (vs ++ [u])) (hg:w.grownBy w1 v.ownBlock) (hloc:v5.ownBlock=v.ownBlock ∨ v5.ownBlock=some w.heap.size):OC T w1 base v5 (cs ++ [xs]):=by
 refine ⟨vs ++ [u],by simp [hl],by simpa using ho,fun j h h'=>?_⟩
 by_cases hj:j<cs.length
 ·
  rw [List.getElem_append_left (by omega),List.getElem_append_left hj]
  exact (he j hj (by omega)).grown hg hloc
 ·
  have e1:j=cs.length:=by simp at h;omega
  subst e1
  rw [List.getElem_append_right (by omega),List.getElem_append_right (by omega)]
  simp only [hl,Nat.sub_self,List.getElem_cons_zero]
  exact hu.grown hg hloc
def IsC (w:World) (a:Option Addr) (cs:List (List ByteArray)):Prop :=
 cs=[] ∨ ∃ b off,a=some ⟨b,off,none⟩∧b<w.heap.size∧∀ j (hj:j<cs.length),∃ a' c',w.cell? ⟨b,off+j,none⟩=some (.slice a' cs[j].length c')∧Ls.IsS w a' cs[j]
theorem OC.isc (h:OC T w base v cs):∃ a cap,v=.slice a cs.length cap∧IsC w a cs:=by
 obtain ⟨vs,hl,ho,he⟩:=h.ex
 have h':=ho
 rcases ho.2 with ⟨rfl,h0⟩ | ⟨g,cap,cur,rfl,hb,hh,_⟩
 ·
  obtain rfl:=List.length_eq_zero_iff.1 h0
  exact ⟨none,0,rfl,.inl rfl⟩
 ·
  refine ⟨_,cap,rfl,.inr ⟨g,0,rfl,(Array.getElem?_eq_some_iff.1 hh).1,fun j hj=>?_⟩⟩
  obtain ⟨a,c,e,hi,_⟩:=he j hj (by omega)
  refine ⟨a,c,?_,hi⟩
  rw [Nat.zero_add,World.ownsRow.cellAt h' j (by omega),List.getElem?_eq_getElem (by omega),e]
def IsCb (w:World) (lo:Nat) (a:Option Addr) (cs:List (List ByteArray)):Prop :=
 cs=[] ∨ ∃ b off,a=some ⟨b,off,none⟩∧(lo≤b∧b<w.heap.size)∧∀ j (hj:j<cs.length),∃ a' c',w.cell? ⟨b,off+j,none⟩=some (.slice a' cs[j].length c')∧Ls.IsS w a' cs[j]∧∀ ad,a'=some ad→lo≤ad.block∧ad.block<w.heap.size
theorem IsCb.same {lo:Nat} {a:Option Addr} (h:IsCb w lo a cs) (hs:w.heap.size≤w1.heap.size) (hk:∀ y,lo≤y→y<w.heap.size→w1.heap[y]? = w.heap[y]?):IsCb w1 lo a cs:=by
 rcases h with h | ⟨b,off,rfl,hb,hc⟩
 ·
  exact .inl h
 ·
  refine .inr ⟨b,off,rfl,⟨hb.1,by omega⟩,fun j hj=>?_⟩
  obtain ⟨a',c',hx,hi,hd⟩:=hc j hj
  refine ⟨a',c',?_,hi.keptAt hs (fun x hx hl=>hk _ (hd x hx).1 hl),fun ad h=>⟨(hd ad h).1,by have:=(hd ad h).2;omega⟩⟩
  rw [World.cell?_of_block (w:=w) (a:=⟨b,off+j,none⟩) (hk b hb.1 hb.2)];exact hx
theorem OC.iscb (h:OC T w base v cs):∃ a cap,v=.slice a cs.length cap∧IsCb w base a cs:=by
 obtain ⟨vs,hl,ho,he⟩:=h.ex
 have h':=ho
 rcases ho.2 with ⟨rfl,h0⟩ | ⟨g,cap,cur,rfl,hb,hh,_⟩
 ·
  obtain rfl:=List.length_eq_zero_iff.1 h0
  exact ⟨none,0,rfl,.inl rfl⟩
 ·
  refine ⟨_,cap,rfl,.inr ⟨g,0,rfl,⟨hb,(Array.getElem?_eq_some_iff.1 hh).1⟩,fun j hj=>?_⟩⟩
  obtain ⟨a,c,e,hi,hd⟩:=he j hj (by omega)
  refine ⟨a,c,?_,hi,fun ad h=>(hd ad h).1⟩
  rw [Nat.zero_add,World.ownsRow.cellAt h' j (by omega),List.getElem?_eq_getElem (by omega),e]
def cats (k:Nat) (rs:List Row):List (List ByteArray):=(List.range k).map (cat rs)
def wcols (c:Int) (rs:List Row):List (List ByteArray):=if c=2 then cats 2 rs ++ [paired (cat rs 0) (cat rs 1)] else cats c.toNat rs
theorem cats_length (k:Nat) (rs:List Row):(cats k rs).length=k:=by simp [cats]
theorem cats_snoc (k:Nat) (rs:List Row):cats (k+1) rs=cats k rs ++ [cat rs k]:=by simp [cats,List.range_succ]
theorem cats_get (k:Nat) (rs:List Row) (j:Nat) (h:j<(cats k rs).length):(cats k rs)[j]=cat rs j:=by simp [cats]
theorem tok_c {n c:Int} {rs:List Row} (h:tok n c rs=true):(0≤n∧n≤3)∧(0≤c∧c≤2)∧rs.length≤40:=by
 obtain ⟨h1,h2,_⟩:=tok_iff.1 h
 have:(0≤n∧n≤3)∧(0≤c∧c≤2):=by simpa [sok] using h1
 exact ⟨this.1,this.2,h2⟩
theorem words_yes {n c:Int} {rs:List Row} (h:tok n c rs=true) (k:Nat) (hk:(k:Int)<c):words n c rs k=cat rs k:=by
 unfold words
 rw [if_pos ⟨h,by omega,hk⟩]
 simp
theorem tok_word {n c:Int} {rs:List Row} (h:tok n c rs=true) (p j:Nat) (hp:(p:Int)<c) (hj:j<(cat rs p).length):(cat rs p)[j].size≤12:=by
 have hj':j<rs.length:=by simpa [cat] using hj
 have hc:=(tok_nums h j hj').2
 have hp':p<rs[j].cats.length:=by omega
 rw [cat_get rs p j hj' hp']
 have h2:=(tok_iff.1 h).2.2
 have h3:=rok_iff.1 (List.all_eq_true.1 h2 _ (List.getElem_mem hj'))
 have h4:cok rs[j].cats=true:=h3.2.2.2.2.1
 have h5:=List.all_eq_true.1 h4 _ (List.getElem_mem hp')
 unfold wok wlen at h5
 simp at h5
 exact h5.1.2
theorem info_strs:(Tryz.prog.info? 44).map (fun i=>(i.zero,i.size,i.bytes))=some (some (.slice none 0 0),1,24):=by kernel_rfl
theorem info_col:(Tryz.prog.info? 145).map (fun i=>(i.zero,i.size,i.bytes))=some (some (.agg #[.slice none 0 0]),1,24):=by kernel_rfl
theorem one_cell (w:World) (T:TypeId) (x:Value):∀ j u,([x]:List Value)[j]? = some u→(w.alloc (.cells #[x] T)).cell? ((⟨w.heap.size,0,none⟩:Addr).add j)=some u:=by
 intro j u hj
 match j,hj with
 | 0,hj=>simp at hj;subst hj;simp [Addr.add]
theorem one_at {w:World} {T:TypeId} {x:Value} {H:Nat} (h:w.heap.size=H):∀ j u,([x]:List Value)[j]? = some u→(w.alloc (.cells #[x] T)).cell? ((⟨H,0,none⟩:Addr).add j)=some u:=by
 subst h;exact one_cell w T x
theorem one_one {a:Option Addr} {n c:Nat} : ∀ u ∈ ([.slice a n c]:List Value),u.oneCell'=true:=by
 intro u hu;simp at hu;subst hu;rfl
set_option maxHeartbeats 4000000 in
theorem iwc (w:World) (n c:Int) (a:Option Addr) (cap:Nat) (rs:List Row) (hx:IsR w a rs) (hl:rs.length+szR rs≤1048576) (ht:tok n c rs=true) :
    Calls Tryz.prog 67 #[.agg #[.int .i64 n,.int .i64 c,.slice a rs.length cap]] w fun e w'=>∃ v,e=.returned v∧OC 44 w' w.heap.size v (wcols c rs)∧Below w.heap.size w w':=by
  obtain ⟨⟨n0,n3⟩,⟨c0,c2⟩,h40⟩:=tok_c ht
  obtain ⟨cn,rfl⟩:∃ cn:Nat,c=(cn:Int):=⟨c.toNat,by omega⟩
  have HT:Hid (tok n (cn:Int) rs=true):=ht
  have HW2:Hid (∀ k,k<cn→words n (cn:Int) rs (k:Int)=cat rs k):=fun k hk=>words_yes ht k (by omega)
  have HC:Hid (∀ p j (hj:j<(cat rs p).length),p<cn→(cat rs p)[j].size≤12):=fun p j hj hp=>tok_word ht p j (by omega) hj
  have HE:Hid (¬ cn=2→wcols (cn:Int) rs=cats cn rs):=fun h=>by unfold wcols;rw [if_neg (by omega)];simp
  have HE2:Hid (cn=2→wcols (cn:Int) rs=cats 2 rs ++ [paired (cat rs 0) (cat rs 1)]):=fun h=>by unfold wcols;rw [if_pos (by omega)]
  clear ht
  obtain ⟨i0,hi,hz0,hz1,hz2⟩:=info_parts info_strs
  go_enter Tryz.func67,Tryz.ntmps67
  obtain ⟨W,hW,hsz,hB,bx⟩:=box3_new' w (.int .i64 n) (.int .i64 (cn:Int)) (.slice a rs.length cap) 79
  have HW:Hid (w.alloc (.cells #[.int .i64 n,.int .i64 (cn:Int),.slice a rs.length cap] 79)=W):=hW
  clear hW
  go_wp2
  rw [HW.out]
  clear HW
  have hszW:w.heap.size<W.heap.size:=by omega
  clear hsz
  go_loopw [3,8] (fun v i wr=>∃ k:Nat,k≤cn∧i=.int .i64 k∧OC 44 wr W.heap.size v (cats k rs)∧Below W.heap.size W wr) (fun _ i _=>cn-(intOf i).toNat)
  case atStart=>exact ⟨0,Nat.zero_le _,rfl,OC.nil _ _ _,Below.refl _ _⟩
  case round =>
    obtain ⟨k,hk,rfl,oc,hBr⟩:=hrel
    have bxr:=bx.below hBr
    obtain ⟨hbx,⟨cx0,cx1,cx2⟩,_⟩:=id bxr
    have hxr:=(hx.below hB).below hBr
    have hsr:=hBr.size
    by_cases hlt:k<cn
    · go_wp2_with fail
      refine (iwords _ _ _ _ _ rs _ hxr hl).mono ?_
      rintro e w1 ⟨u,rfl,ou,hb⟩
      rw [HW2.out k hlt] at ou
      have oc1:=oc.below hb
      have hul:=el_own (B:=u3.ownBlock) (lo:=W.heap.size) ou (fun j hj=>(oc.lt j hj).2) hsr
      have hBr:=hBr.trans (hb.mono hBr.size)
      have hs1:=hBr.size
      clear hb cx0 cx1 cx2 bxr hxr hbx oc
      obtain ⟨vs,hvl,ho,he⟩:=oc1.ex
      have hcl:=cats_length k rs
      obtain ⟨ua,uc,rfl,_⟩:=id hul
      have hBa:Below w1.heap.size w1 (w1.alloc (.cells #[.slice ua (cat rs k).length uc] 44)):=(Below.refl _ _).alloc (Nat.le_refl _) _
      have HCL:Hid ((cats k rs).length=k):=hcl
      have hcl3:(cats k rs).length≤2:=by omega
      clear hcl
      go_wp2_with (at_builtin;refine wpList_append_own_at _ rfl _ _ 108 rfl W.heap.size 44 i0 (.slice none 0 0) 1 24 Tryz.underlying108 hi hz0 hz1 hz2 rfl (by decide) _ _ _ rfl (row_below ho hBa) ⟨w1.heap.size,0,none⟩ 1 1 [.slice ua (cat rs k).length uc] rfl rfl (one_cell _ _ _) one_one (by unfold maxLen;omega) (by omega) (by simp;omega) ?_;intro v3 w3 hown3 hgrow3 hnn3 hloc3)
      have oc3:=oc_snoc hvl (fun j h h'=>(he j h h').below hBa) (hul.below hBa) hown3 hgrow3 hloc3
      rw [← cats_snoc] at oc3
      have hB3:Below W.heap.size W w3:=hBr.trans (by
        have hh:Below W.heap.size (w1.alloc (.cells #[.slice ua (cat rs k).length uc] 44)) w3:=⟨hgrow3.os,hgrow3.tape,hgrow3.output,hgrow3.size,fun q hq=>hgrow3.block q (by simp;omega) (fun e=>by have:=(oc1.lt q e.symm).1;omega)⟩
        exact (hBa.mono hs1).trans hh)
      clear hown3 hgrow3 hnn3 hloc3 hBa ho he hul oc1 hBr ou
      go_wp2
      go_roundw
      case rel=>exact ⟨k+1,by omega,by go_num,oc3,hB3⟩
      case measure=>simp [intOf];omega
    · obtain rfl : k = cn := by omega
      obtain ⟨av,cv,rfl,ic⟩:=oc.isc
      have hcl:=cats_length k rs
      by_cases h2:k=2
      rotate_left
      · have hne : (((cats k rs).length : Int) == 2) = false := by rw [beq_eq_false_iff_ne, hcl]; omega
        have HR:Hid (wcols (k:Int) rs=cats k rs):=HE.out h2
        clear hcl h2
        go_wp2
        go_ret
        exact ⟨_,rfl,by rw [HR.out];exact oc.mono (by omega),hB.trans (hBr.mono hB.size)⟩
      · subst h2
        have hne:(((cats 2 rs).length:Int) == 2)=true:=by rw [beq_iff_eq,hcl];rfl
        have HR:Hid (wcols ((2:Nat):Int) rs=cats 2 rs ++ [paired (cat rs 0) (cat rs 1)]):=HE2.out rfl
        have HCL:Hid ((cats 2 rs).length=2):=hcl
        rcases ic with h0 | ⟨cb,co,rfl,hcb,hcc⟩
        · rw [h0] at hcl;simp at hcl
        obtain ⟨a0,q0,d0,i_0⟩:=hcc 0 (by omega)
        obtain ⟨a1,q1,d1,i_1⟩:=hcc 1 (by omega)
        rw [cats_get] at d0 d1 i_0 i_1
        rw [Nat.add_zero] at d0
        have hlt2:(0:Int)<((cats 2 rs).length:Int):=by omega
        have hlt3:(1:Int)<((cats 2 rs).length:Int):=by omega
        have hln2:0<(cats 2 rs).length:=by omega
        have hln3:1<(cats 2 rs).length:=by omega
        have hz0':∀ j (h:j<(cat rs 0).length),(cat rs 0)[j].size≤1048576:=fun j h=>by have:=HC.out 0 j h (by omega);omega
        have hz1':∀ j (h:j<(cat rs 1).length),(cat rs 1)[j].size≤1048576:=fun j h=>by have:=HC.out 1 j h (by omega);omega
        have hl0:(cat rs 0).length≤1048576:=by rw [cat_length];omega
        have hl1:(cat rs 1).length≤1048576:=by rw [cat_length];omega
        have hcl3:(cats 2 rs).length≤2:=by omega
        clear hcl hcc
        go_wp2
        go_region_law (first
          | (refine step_append_lies _ rfl _ _ 108 rfl W.heap.size 44 i0 (.slice none 0 0) 1 24 Tryz.underlying108 hi hz0 hz1 hz2 rfl (by decide) _ (cats 2 rs).length vs rfl (by first | exact row_below ho ((Below.refl _ _).alloc (Nat.le_refl _) _) | exact row_below ho ((Below.refl _ _).drew.alloc (Nat.le_refl _) _)) _ 1 1 [.slice ua _ uc] rfl rfl (one_at (by first | rfl | simp)) one_one (by decide) (by unfold maxLen; omega) (by omega) (by simp; omega) _ rfl ?_
             intro g cap' w6 hown' hgrow hpos hglt
             have oc6:=oc_snoc hvl (fun j h h'=>(he j h h').below ((Below.refl _ _).alloc (Nat.le_refl _) _)) (hul.below ((Below.refl _ _).alloc (Nat.le_refl _) _)) hown' hgrow (Or.elim hpos (fun e=>.inl e.symm) (fun e=>.inr (by rw [e];rfl)))
             have hB6:Below W.heap.size W w6:=hBp.trans (by
               have hh:=(Below.refl w1.heap.size w1).alloc (Nat.le_refl _) (.cells #[.slice ua (paired (cat rs 0) (cat rs 1)).length uc] 44)
               exact (hh.mono hs1).trans ⟨hgrow.os,hgrow.tape,hgrow.output,hgrow.size,fun q hq=>hgrow.block q (by simp;omega) (fun e=>by have:=(oc1.lt q e.symm).1;omega)⟩)
             clear hown' hgrow hpos hglt)
          | (go_simp
             go_wp2_with (go_at_call 89
                          refine (Pa.ipair _ _ _ _ _ (cat rs 0) (cat rs 1) (by exact i_0) (by exact i_1) hl0 hl1 hz0' hz1').mono ?_
                          rintro e w1 ⟨u,rfl,ou,hb⟩
                          have hb:Below wr.heap.size wr w1:=((Below.refl wr.heap.size wr).drew).trans hb
                          have oc1:=oc.below hb
                          have hul:=el_own (lo:=W.heap.size) (B:=(Value.slice (some ⟨cb,co,none⟩) (cats 2 rs).length cv).ownBlock) ou (fun j hj=>(oc.lt j hj).2) hsr
                          have hBp:=hBr.trans (hb.mono hBr.size)
                          have hs1:=hBp.size
                          obtain ⟨vs,hvl,ho,he⟩:=oc1.ex
                          obtain ⟨ua,uc,rfl,_⟩:=id hul
                          clear hb)))
        all_goals
          clear oc oc1 ho he hul
          go_wp2
          go_ret
          exact ⟨_,rfl,by rw [HR.out];exact oc6.mono (by omega),hB.trans (hB6.mono hB.size)⟩
set_option maxHeartbeats 4000000 in
theorem swc (w:World) (n c:Int) (a:Option Addr) (cap:Nat) (rs:List Row) (hx:IsR w a rs) (hl:rs.length+szR rs≤1048576) (ht:tok n c rs=true) :
    Calls Tryz.prog 95 #[.agg #[.int .i64 n,.int .i64 c,.slice a rs.length cap]] w fun e w'=>∃ v,e=.returned v∧OC 145 w' w.heap.size v (wcols c rs)∧Below w.heap.size w w':=by
  obtain ⟨⟨n0,n3⟩,⟨c0,c2⟩,h40⟩:=tok_c ht
  obtain ⟨cn,rfl⟩:∃ cn:Nat,c=(cn:Int):=⟨c.toNat,by omega⟩
  have HT:Hid (tok n (cn:Int) rs=true):=ht
  have HW2:Hid (∀ k,k<cn→words n (cn:Int) rs (k:Int)=cat rs k):=fun k hk=>words_yes ht k (by omega)
  have HC:Hid (∀ p j (hj:j<(cat rs p).length),p<cn→(cat rs p)[j].size≤12):=fun p j hj hp=>tok_word ht p j (by omega) hj
  have HE:Hid (¬ cn=2→wcols (cn:Int) rs=cats cn rs):=fun h=>by unfold wcols;rw [if_neg (by omega)];simp
  have HE2:Hid (cn=2→wcols (cn:Int) rs=cats 2 rs ++ [paired (cat rs 0) (cat rs 1)]):=fun h=>by unfold wcols;rw [if_pos (by omega)]
  clear ht
  obtain ⟨i0,hi,hz0,hz1,hz2⟩:=info_parts info_col
  go_enter Tryz.func95,Tryz.ntmps95
  go_wp2
  obtain ⟨W,hW,hsz,hB,bx⟩:=box3_new' w (.int .i64 n) (.int .i64 (cn:Int)) (.slice a rs.length cap) 79
  rw [hW]
  clear hW
  obtain ⟨W2,hW2⟩:∃ W2,W.alloc (.cells #[] 145)=W2:=⟨_,rfl⟩
  have hb2:Below W.heap.size W W2:=by rw [← hW2];exact (Below.refl _ _).alloc (Nat.le_refl _) _
  have st:OC 145 W2 W.heap.size (.slice (some ⟨w.heap.size+1,0,none⟩) 0 0) []:=⟨[],rfl,by rw [← hW2,← hsz];exact World.ownsRow_made W #[] 0 (Nat.le_refl _) (by unfold maxLen;omega) (by simp),fun j h=>by simp at h⟩
  try rw [hW2]
  clear hW2
  have hszW:w.heap.size<W.heap.size:=by omega
  clear hsz
  go_loopw [3,4] (fun v i wr=>∃ k:Nat,k≤cn∧i=.int .i64 k∧OC 145 wr W.heap.size v (cats k rs)∧Below W.heap.size W wr) (fun _ i _=>cn-(intOf i).toNat)
  case atStart=>exact ⟨0,Nat.zero_le _,rfl,st,hb2⟩
  case round =>
    obtain ⟨k,hk,rfl,oc,hBr⟩:=hrel
    have bxr:=bx.below hBr
    obtain ⟨hbx,⟨cx0,cx1,cx2⟩,_⟩:=id bxr
    have hxr:=(hx.below hB).below hBr
    have hsr:=hBr.size
    by_cases hlt:k<cn
    · go_wp2_with fail
      refine (swords _ _ _ _ _ rs _ hxr hl ⟨by omega,by omega⟩).mono ?_
      rintro e w1 ⟨u,rfl,ou,hb⟩
      rw [HW2.out k hlt] at ou
      have oc1:=oc.below hb
      have hul:=el_own (B:=u3.ownBlock) (lo:=W.heap.size) ou (fun j hj=>(oc.lt j hj).2) hsr
      have hBr:=hBr.trans (hb.mono hBr.size)
      have hs1:=hBr.size
      clear hb cx0 cx1 cx2 bxr hxr hbx oc
      obtain ⟨vs,hvl,ho,he⟩:=oc1.ex
      have hcl:=cats_length k rs
      obtain ⟨ua,uc,rfl,_⟩:=id hul
      have hBa:Below w1.heap.size w1 (w1.alloc (.cells #[.slice ua (cat rs k).length uc] 145)):=(Below.refl _ _).alloc (Nat.le_refl _) _
      have HCL:Hid ((cats k rs).length=k):=hcl
      have hcl3:(cats k rs).length≤2:=by omega
      clear hcl
      go_wp2_with (at_builtin;refine wpList_append_own_at _ rfl _ _ 141 rfl W.heap.size 145 i0 (.agg #[.slice none 0 0]) 1 24 Tryz.underlying141 hi hz0 hz1 hz2 rfl (by decide) _ _ _ rfl (row_below ho hBa) ⟨w1.heap.size,0,none⟩ 1 1 [.slice ua (cat rs k).length uc] rfl rfl (one_cell _ _ _) one_one (by unfold maxLen;omega) (by omega) (by simp;omega) ?_;intro v3 w3 hown3 hgrow3 hnn3 hloc3)
      have oc3:=oc_snoc hvl (fun j h h'=>(he j h h').below hBa) (hul.below hBa) hown3 hgrow3 hloc3
      rw [← cats_snoc] at oc3
      have hB3:Below W.heap.size W w3:=hBr.trans (by
        have hh:Below W.heap.size (w1.alloc (.cells #[.slice ua (cat rs k).length uc] 145)) w3:=⟨hgrow3.os,hgrow3.tape,hgrow3.output,hgrow3.size,fun q hq=>hgrow3.block q (by simp;omega) (fun e=>by have:=(oc1.lt q e.symm).1;omega)⟩
        exact (hBa.mono hs1).trans hh)
      clear hown3 hgrow3 hnn3 hloc3 hBa ho he hul oc1 hBr ou
      go_wp2
      go_roundw
      case rel=>exact ⟨k+1,by omega,by go_num,oc3,hB3⟩
      case measure=>simp [intOf];omega
    · obtain rfl : k = cn := by omega
      obtain ⟨av,cv,rfl,ic⟩:=oc.isc
      have hcl:=cats_length k rs
      by_cases h2:k=2
      rotate_left
      · have hne : ((k : Int) == 2) = false := by rw [beq_eq_false_iff_ne]; omega
        have HR:Hid (wcols (k:Int) rs=cats k rs):=HE.out h2
        clear hcl h2
        go_wp2
        go_ret
        exact ⟨_,rfl,by rw [HR.out];exact oc.mono (by omega),hB.trans (hBr.mono hB.size)⟩
      · subst h2
        have HR:Hid (wcols ((2:Nat):Int) rs=cats 2 rs ++ [paired (cat rs 0) (cat rs 1)]):=HE2.out rfl
        have HCL:Hid ((cats 2 rs).length=2):=hcl
        rcases ic with h0 | ⟨cb,co,rfl,hcb,hcc⟩
        · rw [h0] at hcl;simp at hcl
        obtain ⟨a0,q0,d0,i_0⟩:=hcc 0 (by omega)
        obtain ⟨a1,q1,d1,i_1⟩:=hcc 1 (by omega)
        rw [cats_get] at d0 d1 i_0 i_1
        rw [Nat.add_zero] at d0
        have hlt2:(0:Int)<((cats 2 rs).length:Int):=by omega
        have hlt3:(1:Int)<((cats 2 rs).length:Int):=by omega
        have hln2:0<(cats 2 rs).length:=by omega
        have hln3:1<(cats 2 rs).length:=by omega
        have hz0':∀ j (h:j<(cat rs 0).length),(cat rs 0)[j].size≤1048576:=fun j h=>by have:=HC.out 0 j h (by omega);omega
        have hz1':∀ j (h:j<(cat rs 1).length),(cat rs 1)[j].size≤1048576:=fun j h=>by have:=HC.out 1 j h (by omega);omega
        have hl0:(cat rs 0).length≤1048576:=by rw [cat_length];omega
        have hl1:(cat rs 1).length≤1048576:=by rw [cat_length];omega
        have hcl3:(cats 2 rs).length≤2:=by omega
        clear hcl hcc
        go_wp2
        go_region_law (first
          | (refine step_append_lies _ rfl _ _ 141 rfl W.heap.size 145 i0 (.agg #[.slice none 0 0]) 1 24 Tryz.underlying141 hi hz0 hz1 hz2 rfl (by decide) _ (cats 2 rs).length vs rfl (by first | exact row_below ho ((Below.refl _ _).alloc (Nat.le_refl _) _) | exact row_below ho ((Below.refl _ _).drew.alloc (Nat.le_refl _) _)) _ 1 1 [.slice ua _ uc] rfl rfl (one_at (by first | rfl | simp)) one_one (by decide) (by unfold maxLen; omega) (by omega) (by simp; omega) _ rfl ?_
             intro g cap' w6 hown' hgrow hpos hglt
             have oc6:=oc_snoc hvl (fun j h h'=>(he j h h').below ((Below.refl _ _).alloc (Nat.le_refl _) _)) (hul.below ((Below.refl _ _).alloc (Nat.le_refl _) _)) hown' hgrow (Or.elim hpos (fun e=>.inl e.symm) (fun e=>.inr (by rw [e];rfl)))
             have hB6:Below W.heap.size W w6:=hBp.trans (by
               have hh:=(Below.refl w1.heap.size w1).alloc (Nat.le_refl _) (.cells #[.slice ua (paired (cat rs 0) (cat rs 1)).length uc] 145)
               exact (hh.mono hs1).trans ⟨hgrow.os,hgrow.tape,hgrow.output,hgrow.size,fun q hq=>hgrow.block q (by simp;omega) (fun e=>by have:=(oc1.lt q e.symm).1;omega)⟩)
             clear hown' hgrow hpos hglt)
          | (go_simp
             go_wp2_with (go_at_call 120
                          refine (Pa.spair _ _ _ _ _ (cat rs 0) (cat rs 1) (by exact i_0) (by exact i_1) hl0 hl1 hz0' hz1').mono ?_
                          rintro e w1 ⟨u,rfl,ou,hb⟩
                          have hb:Below wr.heap.size wr w1:=((Below.refl wr.heap.size wr).drew).trans hb
                          have oc1:=oc.below hb
                          have hul:=el_own (lo:=W.heap.size) (B:=(Value.slice (some ⟨cb,co,none⟩) (cats 2 rs).length cv).ownBlock) ou (fun j hj=>(oc.lt j hj).2) hsr
                          have hBp:=hBr.trans (hb.mono hBr.size)
                          have hs1:=hBp.size
                          obtain ⟨vs,hvl,ho,he⟩:=oc1.ex
                          obtain ⟨ua,uc,rfl,_⟩:=id hul
                          clear hb)))
        all_goals
          clear oc oc1 ho he hul
          go_wp2
          go_ret
          exact ⟨_,rfl,by rw [HR.out];exact oc6.mono (by omega),hB.trans (hB6.mono hB.size)⟩
end Go.Proofs.YtaojoamldoofpaaGreatDoor.Wc
namespace Go.Proofs.YtaojoamldoofpaaGreatDoor.Ta
open Go.RowKit Go.Maps
open Go.WideMaps (keyOf_string_mk)
open Wd
open Li (below_none grown_trans)
end Go.Proofs.YtaojoamldoofpaaGreatDoor.Ta
namespace Go.Proofs.YtaojoamldoofpaaGreatDoor.Pe
def Gd (xs:List Int) (i:Nat):Prop:=∀ j (hj:j<xs.length),j<i→0≤xs[j]∧xs[j]<(xs.length:Int)∧∀ k (hk:k<j),¬ xs[k]=xs[j]
def POk (xs:List Int):Prop:=xs.length≤60∧Gd xs xs.length
noncomputable def pok (xs:List Int):Bool:=@decide (POk xs) (Classical.propDecidable _)
theorem pok_true {xs:List Int} (h:POk xs):pok xs=true:=by simp [pok,h]
theorem pok_false {xs:List Int} (h:¬ POk xs):pok xs=false:=by simp [pok,h]
theorem pok_iff {xs:List Int} : pok xs=true↔POk xs:=by simp [pok]
theorem good_zero (xs:List Int):Gd xs 0:=fun _ _ h=>by omega
theorem good_succ {xs:List Int} {i:Nat} (h:Gd xs i) (hi:i<xs.length) (h0:0≤xs[i]) (h1:xs[i]<(xs.length:Int)) (h2:∀ k (hk:k<i),¬ xs[k]=xs[i]):Gd xs (i+1):=by
 intro j hj hj'
 by_cases e:j=i
 ·
  subst e;exact ⟨h0,h1,h2⟩
 ·
  exact h j hj (by omega)
theorem pok_all {xs:List Int} (hl:xs.length≤60) (h:Gd xs xs.length):pok xs=true:=pok_true ⟨hl,h⟩
theorem pok_long {xs:List Int} (hl:¬ xs.length≤60):pok xs=false:=pok_false fun h=>hl h.1
theorem pok_range {xs:List Int} {i:Nat} (hi:i<xs.length) (h:¬ (0≤xs[i]∧xs[i]<(xs.length:Int))):pok xs=false :=
 pok_false fun hp=>h ⟨(hp.2 i hi hi).1,(hp.2 i hi hi).2.1⟩
theorem pok_twice {xs:List Int} {i k:Nat} (hi:i<xs.length) (hk:k<i) (h:xs[k]=xs[i]):pok xs=false :=
 pok_false fun hp=>(hp.2 i hi hi).2.2 k hk h
theorem POk.rng {xs:List Int} (h:POk xs) (j:Nat) (hj:j<xs.length):0≤xs[j]∧xs[j]<(xs.length:Int):=⟨(h.2 j hj hj).1,(h.2 j hj hj).2.1⟩
theorem POk.inj {xs:List Int} (h:POk xs) (i j:Nat) (hi:i<xs.length) (hj:j<xs.length) (e:xs[i]=xs[j]):i=j:=by
 rcases Nat.lt_trichotomy i j with hlt | rfl | hlt
 ·
  exact absurd e ((h.2 j hj hj).2.2 i hlt)
 ·
  rfl
 ·
  exact absurd e.symm ((h.2 i hi hi).2.2 j hlt)
theorem pok_of {xs:List Int} (hl:xs.length≤60) (hr:∀ j (hj:j<xs.length),0≤xs[j]∧xs[j]<(xs.length:Int)) (hi:∀ i j (hi:i<xs.length) (hj:j<xs.length),xs[i]=xs[j]→i=j):POk xs :=
 ⟨hl,fun j hj _=>⟨(hr j hj).1,(hr j hj).2,fun k hk e=>by have:=hi k j (by omega) hj e;omega⟩⟩
theorem few_of:∀ (n:Nat) (l:List Nat),l.Nodup→(∀ x ∈ l,x<n)→l.length≤n
 | 0,l,_,h=>by
  cases l with
  | nil=>simp
  | cons a r=>exact absurd (h a (by simp)) (by omega)
 | n+1,l,hd,h=>by
  have:=few_of n (l.erase n) (hd.erase n) (fun x hx=>by
   have h1:=(List.Nodup.mem_erase_iff hd).1 hx
   have h2:=h x h1.2
   have:=h1.1
   omega)
  rw [List.length_erase] at this
  split at this <;> omega
theorem POk.nat {xs:List Int} (h:POk xs):(xs.map Int.toNat).Nodup∧∀ x ∈ xs.map Int.toNat,x<xs.length:=by
 constructor
 ·
  unfold List.Nodup
  rw [List.pairwise_iff_getElem]
  intro i j hi hj hij e
  simp at hi hj e
  have:=h.inj i j hi hj (by have:=h.rng i hi;have:=h.rng j hj;omega)
  omega
 ·
  intro x hx
  obtain ⟨y,hy,rfl⟩:=List.mem_map.1 hx
  obtain ⟨j,hj,rfl⟩:=List.getElem_of_mem hy
  have:=h.rng j hj
  omega
theorem POk.onto {xs:List Int} (h:POk xs) (v:Nat) (hv:v<xs.length):∃ j,∃ hj:j<xs.length,xs[j]=(v:Int):=by
 have hm:v ∈ xs.map Int.toNat:=by
  apply Classical.byContradiction
  intro hn
  have:=few_of xs.length (v :: xs.map Int.toNat) (List.nodup_cons.2 ⟨hn,h.nat.1⟩) (fun x hx=>by
   rcases List.mem_cons.1 hx with rfl | hx
   ·
    exact hv
   ·
    exact h.nat.2 x hx)
  simp at this
  omega
 obtain ⟨y,hy,e⟩:=List.mem_map.1 hm
 obtain ⟨j,hj,rfl⟩:=List.getElem_of_mem hy
 exact ⟨j,hj,by have:=h.rng j hj;omega⟩
end Go.Proofs.YtaojoamldoofpaaGreatDoor.Pe
namespace Go.Proofs.YtaojoamldoofpaaGreatDoor.Pw
open Go.RowKit
open Li Pe
set_option maxHeartbeats 1000000 in
theorem spok_long (w:World) (a:Option Addr) (n cap:Nat) (h:60<n) (hn:n≤10000000) :
  Calls Tryz.prog 122 #[.slice a n cap] w fun e w'=>e=.returned (.bool false)∧w'=w:=by
 go_enter Tryz.func122,Tryz.ntmps122
 go_wp2
 go_ret
 exact ⟨rfl,rfl⟩
set_option maxHeartbeats 2000000 in
theorem spok_walk (w:World) (a:Option Addr) (cap:Nat) (xs:List Int) (hx:IsL w a xs) (h60:xs.length≤60) :
  Calls Tryz.prog 122 #[.slice a xs.length cap] w fun e w'=>e=.returned (.bool (pok xs))∧∃ n,w'=w.drewN n:=by
 have hd:decide (60<(xs.length:Int))=false:=by simp;omega
 go_enter Tryz.func122,Tryz.ntmps122
 go_wp2
 go_loopw [3] (fun i wr=>∃ k:Nat,k≤xs.length∧i=.int .i64 k∧Gd xs k∧∃ n,wr=w.drewN n) (fun i _=>xs.length-(intOf i).toNat)
 case atStart=>exact ⟨0,Nat.zero_le _,rfl,good_zero _,0,rfl⟩
 case round =>
  obtain ⟨k,hk,rfl,hgood,n,rfl⟩:=hrel
  by_cases hlt:k<xs.length
  ·
   rcases hx with rfl | ⟨b,off,rfl,hb,hc⟩
   ·
    simp at hlt
   ·
    have hcx:=hc k hlt
    have HC:Hid (∀ j (hj:j<xs.length),w.cell? ⟨b,off+j,none⟩=some (.int .i64 xs[j])):=hc
    have HG:Hid (Gd xs k):=hgood
    obtain ⟨x,hx⟩:∃ x,xs[k]=x:=⟨_,rfl⟩
    rw [hx] at hcx
    have HX:Hid (xs[k]=x):=hx
    clear hc hgood hx
    by_cases hr:0≤x∧x≤(xs.length:Int)-1
    ·
     have hbt:btw x 0 ((xs.length:Int)-1)=true:=by simpa [btw] using hr
     obtain ⟨r0,r1⟩:=hr
     go_wp2_with (go_at_call 33;refine (between_any _ _ _ _).mono ?_;rintro e w' ⟨rfl,hw⟩;subst w')
     go_loopw [4] (fun j wr=>∃ m:Nat,m≤k∧j=.int .i64 m∧(∀ t (ht:t<m) (hl:t<xs.length),¬ xs[t]=x)∧∃ n,wr=w.drewN n) (fun j _=>k-(intOf j).toNat)
     case atStart=>exact ⟨0,Nat.zero_le _,rfl,fun t ht=>by omega,_,rfl⟩
     case round =>
      obtain ⟨m,hm,rfl,hno,n',rfl⟩:=hrel
      have HN:Hid (∀ t (ht:t<m) (hl:t<xs.length),¬ xs[t]=x):=hno
      clear hno
      by_cases hmk:m<k
      ·
       have hmx:m<xs.length:=by omega
       have hcm:=HC.out m hmx
       obtain ⟨y,hy⟩:∃ y,xs[m]=y:=⟨_,rfl⟩
       rw [hy] at hcm
       have HY:Hid (xs[m]=y):=hy
       clear hy
       by_cases he:y=x
       ·
        have he':(y == x)=true:=by simpa using he
        have HE:Hid (y=x):=he
        clear he
        go_wp2
        go_quiet (fail)
        go_wp2
        go_ret
        exact ⟨by rw [pok_twice hlt hmk (by rw [HY.out,HE.out,HX.out])];rfl,_,World.drewN_drewN _ _ _⟩
       ·
        have he':(y == x)=false:=by simpa using he
        have HE:Hid (¬ y=x):=he
        clear he
        go_wp2
        go_quiet (fail)
        go_wp2
        go_roundw
        case rel =>
         refine ⟨m+1,by omega,by go_num,fun t ht hl=>?_,_,rfl⟩
         by_cases htm:t=m
         ·
          subst htm;rw [HY.out];exact HE.out
         ·
          exact HN.out t (by omega) hl
        case measure=>simp [intOf];omega
      ·
       obtain rfl:m=k:=by omega
       go_wp2
       go_roundw
       case rel=>exact ⟨m+1,by omega,by go_num,good_succ HG.out hlt (by rw [HX.out];omega) (by rw [HX.out];omega) (fun t ht=>by rw [HX.out];exact HN.out t ht (by omega)),_,rfl⟩
       case measure=>simp [intOf];omega
    ·
     have hbt:btw x 0 ((xs.length:Int)-1)=false:=by simp [btw];omega
     have HR:Hid (pok xs=false):=pok_range hlt (by rw [HX.out];omega)
     go_wp2_with (go_at_call 33;refine (between_any _ _ _ _).mono ?_;rintro e w' ⟨rfl,hw⟩;subst w')
     go_ret
     exact ⟨by rw [HR.out];rfl,_,rfl⟩
  ·
   obtain rfl:k=xs.length:=by omega
   have HR:Hid (pok xs=true):=pok_all h60 hgood
   go_wp2
   go_ret
   exact ⟨by rw [HR.out];rfl,_,rfl⟩
theorem spok_any (w:World) (a:Option Addr) (cap:Nat) (xs:List Int) (hx:IsL w a xs) (hl:xs.length≤10000000) :
  Calls Tryz.prog 122 #[.slice a xs.length cap] w fun e w'=>e=.returned (.bool (pok xs))∧∃ n,w'=w.drewN n:=by
 by_cases h60:xs.length≤60
 ·
  exact spok_walk w a cap xs hx h60
 ·
  refine (spok_long w a _ cap (by omega) hl).mono ?_
  rintro e w' ⟨rfl,rfl⟩
  exact ⟨by rw [pok_long h60],0,rfl⟩
end Go.Proofs.YtaojoamldoofpaaGreatDoor.Pw
namespace Go.Proofs.YtaojoamldoofpaaGreatDoor.Ct
open Go.RowKit
open Wd
open Tk (lok)
open Pe (pok POk pok_iff)
open Li (ret_bool ret_int below_none btw)
def rgt (n:Nat) (ls:List Int) (p:Int):Bool:=decide (n≤40∧ls.length=n∧-1000000≤p∧p≤1000000) && ls.all lok
theorem rgt_no {n:Nat} {ls:List Int} {p:Int} (h:¬ (n≤40∧ls.length=n∧-1000000≤p∧p≤1000000)):rgt n ls p=false:=by unfold rgt;rw [decide_eq_false h];rfl
theorem rgt_lab {n:Nat} {ls:List Int} {p:Int} (h:ls.all lok=false):rgt n ls p=false:=by unfold rgt;rw [h];simp
theorem rgt_yes {n:Nat} {ls:List Int} {p:Int} (h:n≤40∧ls.length=n∧-1000000≤p∧p≤1000000) (h':ls.all lok=true):rgt n ls p=true:=by unfold rgt;rw [decide_eq_true h,h'];rfl
theorem rgt_iff {n:Nat} {ls:List Int} {p:Int} : rgt n ls p=true↔(n≤40∧ls.length=n∧-1000000≤p∧p≤1000000)∧ls.all lok=true:=by unfold rgt;simp
theorem rgt_sml {n:Nat} {ls:List Int} {p:Int} (h:rgt n ls p=true):Sml ls:=by
 refine sml_of fun x hx=>?_
 have:=List.all_eq_true.1 (rgt_iff.1 h).2 x hx
 simpa [lok] using this
theorem pre_snoc {α:Type} (p:α→Bool) (xs:List α) (k:Nat) (h:k<xs.length) (ha:(xs.take k).all p=true) (hb:p xs[k]=true):(xs.take (k+1)).all p=true:=by
 rw [List.take_succ_eq_append_getElem h,List.all_append,ha];simp [hb]
theorem pre_no {α:Type} (p:α→Bool) (xs:List α) (k:Nat) (h:k<xs.length) (hb:p xs[k]=false):xs.all p=false:=by
 rw [List.all_eq_false]
 exact ⟨xs[k],List.getElem_mem h,by simp [hb]⟩
theorem pre_end {α:Type} (p:α→Bool) (xs:List α) (k:Nat) (h:¬ k<xs.length) (ha:(xs.take k).all p=true):xs.all p=true:=by
 rwa [List.take_of_length_le (by omega)] at ha
set_option maxHeartbeats 2000000 in
theorem slok (w:World) (aw al:Option Addr) (n cw cl:Nat) (ls:List Int) (p:Int) (hl:Li.IsL w al ls) (hn:n≤1048576) (hll:ls.length≤1048577) :
  Calls Tryz.prog 121 #[.slice aw n cw,.slice al ls.length cl,.int .i64 p] w fun e w'=>e=.returned (.bool (rgt n ls p))∧w'=w:=by
 by_cases h1:40<n
 ·
  rw [rgt_no (by omega)]
  go_enter Tryz.func121,Tryz.ntmps121
  go_wp2
  go_ret
  exact ⟨rfl,rfl⟩
 have h1':decide (40<(n:Int))=false:=by simp;omega
 by_cases h2:ls.length=n
 rotate_left
 ·
  rw [rgt_no (by omega)]
  have h2':((ls.length:Int) != (n:Int))=true:=by simp;omega
  go_enter Tryz.func121,Tryz.ntmps121
  go_wp2
  go_ret
  exact ⟨rfl,rfl⟩
 have h2':((ls.length:Int) != (n:Int))=false:=by simp;omega
 have H2:Hid (ls.length=n):=h2
 clear h2
 by_cases h3 : -1000000≤p∧p≤1000000
 rotate_left
 ·
  rw [rgt_no (by omega)]
  have hbt:btw p (-1000000) 1000000=false:=by simp [btw];omega
  go_enter Tryz.func121,Tryz.ntmps121
  go_wp2_with (go_at_call 33;refine (Li.between_any _ _ _ _).mono ?_;rintro e w' ⟨rfl,hw⟩;subst w';rw [hbt])
  go_ret
  exact ⟨rfl,rfl⟩
 have hbt:btw p (-1000000) 1000000=true:=by simp [btw];omega
 go_enter Tryz.func121,Tryz.ntmps121
 go_wp2_with (go_at_call 33;refine (Li.between_any _ _ _ _).mono ?_;rintro e w' ⟨rfl,hw⟩;subst w';rw [hbt])
 go_loop [7] (fun i=>∃ k:Nat,k≤ls.length∧i=.int .i64 k∧(ls.take k).all lok=true) (fun i=>ls.length-(intOf i).toNat)
 case atStart=>exact ⟨0,Nat.zero_le _,rfl,by simp⟩
 case round =>
  obtain ⟨k,hk,rfl,ha⟩:=hrel
  have HA:Hid ((ls.take k).all lok=true):=ha
  clear ha
  by_cases hlt:k<ls.length
  ·
   rcases hl with rfl | ⟨b,off,rfl,hb,hc⟩
   ·
    simp at hlt
   have hcx:=hc k hlt
   clear hc
   cases hv:lok ls[k]
   ·
    have HR:Hid (rgt n ls p=false):=rgt_lab (pre_no lok ls k hlt hv)
    obtain ⟨x,hx⟩:∃ x,ls[k]=x:=⟨_,rfl⟩
    rw [hx] at hcx hv
    clear hx
    go_wp2_with (go_at_call 125;refine (Tk.slab _ _).mono ?_;rintro e w' ⟨rfl,hw⟩;subst w';rw [hv])
    go_ret
    exact ⟨by rw [HR.out];rfl,rfl⟩
   ·
    have HR:Hid ((ls.take (k+1)).all lok=true):=pre_snoc lok ls k hlt HA.out hv
    obtain ⟨x,hx⟩:∃ x,ls[k]=x:=⟨_,rfl⟩
    rw [hx] at hcx hv
    clear hx
    go_wp2_with (go_at_call 125;refine (Tk.slab _ _).mono ?_;rintro e w' ⟨rfl,hw⟩;subst w';rw [hv])
    go_round
    case rel=>exact ⟨k+1,by omega,by go_num,HR.out⟩
    case measure=>simp [intOf];omega
  ·
   have HR:Hid (rgt n ls p=true):=rgt_yes ⟨by omega,H2.out,by omega,by omega⟩ (pre_end lok ls k hlt HA.out)
   go_wp2
   go_ret
   exact ⟨by rw [HR.out];rfl,rfl⟩
noncomputable def ord (n:Nat) (ls ps:List Int) (p:Int):Bool:=rgt n ls p && (decide (ps.length=n) && pok ps)
theorem ord_iff {n:Nat} {ls ps:List Int} {p:Int} : ord n ls ps p=true↔rgt n ls p=true∧ps.length=n∧POk ps:=by unfold ord;simp [pok_iff]
theorem ord_no1 {n:Nat} {ls ps:List Int} {p:Int} (h:rgt n ls p=false):ord n ls ps p=false:=by unfold ord;rw [h];rfl
theorem ord_no2 {n:Nat} {ls ps:List Int} {p:Int} (h:¬ ps.length=n):ord n ls ps p=false:=by unfold ord;rw [decide_eq_false h];simp
theorem ord_no3 {n:Nat} {ls ps:List Int} {p:Int} (h:pok ps=false):ord n ls ps p=false:=by unfold ord;rw [h];simp
theorem ord_yes {n:Nat} {ls ps:List Int} {p:Int} (h1:rgt n ls p=true) (h2:ps.length=n) (h3:pok ps=true):ord n ls ps p=true:=by unfold ord;rw [h1,h3,decide_eq_true h2];rfl
end Go.Proofs.YtaojoamldoofpaaGreatDoor.Ct
namespace Go.Proofs.YtaojoamldoofpaaGreatDoor.Ct
open Go.RowKit
open Wd
open Tk (lok)
open Pe (pok POk pok_iff)
open Li (ret_bool ret_int below_none btw)
def numb (p:Int) (t:Int × Int):Int:=Ar.flo (t.2+p) (t.1+1)
def atNum (ws:List ByteArray) (ls ps:List Int) (k:Nat) (p:Int):Int:=numb p (tal ws ls (ps.take k) (wat ws (lat ps k)))
noncomputable def cOk (ws:List ByteArray) (ls ps:List Int) (k p:Int):Bool:=ord ws.length ls ps p && decide (0≤k∧k<(ps.length:Int))
noncomputable def cNum (ws:List ByteArray) (ls ps:List Int) (k p:Int):Int:=if cOk ws ls ps k p=true then atNum ws ls ps k.toNat p else 0
theorem cOk_no1 {ws:List ByteArray} {ls ps:List Int} {k p:Int} (h:ord ws.length ls ps p=false):cOk ws ls ps k p=false:=by unfold cOk;rw [h];rfl
theorem cOk_no2 {ws:List ByteArray} {ls ps:List Int} {k p:Int} (h:¬ (0≤k∧k<(ps.length:Int))):cOk ws ls ps k p=false:=by unfold cOk;rw [decide_eq_false h];simp
theorem cOk_yes {ws:List ByteArray} {ls ps:List Int} {k p:Int} (h:ord ws.length ls ps p=true) (h':0≤k∧k<(ps.length:Int)):cOk ws ls ps k p=true:=by unfold cOk;rw [h,decide_eq_true h'];rfl
theorem cNum_no {ws:List ByteArray} {ls ps:List Int} {k p:Int} (h:cOk ws ls ps k p=false):cNum ws ls ps k p=0:=by unfold cNum;rw [h];rfl
theorem cNum_yes {ws:List ByteArray} {ls ps:List Int} {k p:Int} (h:cOk ws ls ps k p=true):cNum ws ls ps k p=atNum ws ls ps k.toNat p:=by unfold cNum;rw [if_pos h]
theorem ret_two {a b:Int} {x y:Bool} (h:a=b) (h':x=y):Ending.returned (.tuple #[.int .i64 a,.bool x])=.returned (.tuple #[.int .i64 b,.bool y]):=by rw [h,h']
set_option maxHeartbeats 4000000 in
theorem sat (w:World) (aw al ap:Option Addr) (cw cl cp:Nat) (ws:List ByteArray) (ls ps:List Int) (k p:Int) (hw:Ls.IsS w aw ws) (hl:Li.IsL w al ls) (hp:Li.IsL w ap ps)
  (hwl:ws.length≤1048576) (hll:ls.length≤1048577) (hpl:ps.length≤1048577) :
  Calls Tryz.prog 123 #[.slice aw ws.length cw,.slice al ls.length cl,.slice ap ps.length cp,.int .i64 k,.int .i64 p] w fun e w'=>e=.returned (.tuple #[.int .i64 (cNum ws ls ps k p),.bool (cOk ws ls ps k p)])∧∃ n,w'=w.drewN n:=by
 cases hr:rgt ws.length ls p
 ·
  have hc:cOk ws ls ps k p=false:=cOk_no1 (ord_no1 hr)
  rw [cNum_no hc,hc]
  go_enter Tryz.func123,Tryz.ntmps123
  go_wp2_with (go_at_call 121;refine (slok _ _ _ _ _ _ ls p hl hwl hll).mono ?_;rintro e w' ⟨rfl,hw⟩;subst w';rw [hr])
  go_ret2
  exact ⟨rfl,0,rfl⟩
 by_cases hpn:ps.length=ws.length
 rotate_left
 ·
  have hc:cOk ws ls ps k p=false:=cOk_no1 (ord_no2 hpn)
  have hpn':((ps.length:Int) != (ws.length:Int))=true:=by simp;omega
  rw [cNum_no hc,hc]
  go_enter Tryz.func123,Tryz.ntmps123
  go_wp2_with (go_at_call 121;refine (slok _ _ _ _ _ _ ls p hl hwl hll).mono ?_;rintro e w' ⟨rfl,hw⟩;subst w';rw [hr])
  go_ret2
  exact ⟨rfl,0,rfl⟩
 have hpn':((ps.length:Int) != (ws.length:Int))=false:=by simp;omega
 cases hk:pok ps
 ·
  have hc:cOk ws ls ps k p=false:=cOk_no1 (ord_no3 hk)
  rw [cNum_no hc,hc]
  clear hpn
  go_enter Tryz.func123,Tryz.ntmps123
  go_wp2_with (first
   | (go_at_call 121;refine (slok _ _ _ _ _ _ ls p hl hwl hll).mono ?_;rintro e w' ⟨rfl,hw⟩;subst w';rw [hr])
   | (go_at_call 122;refine (Pw.spok_any _ _ _ ps hp (by omega)).mono ?_;rintro e w' ⟨rfl,nq,hw⟩;subst w';rw [hk]))
  go_ret2
  exact ⟨rfl,_,rfl⟩
 have ho:=ord_yes hr hpn hk
 by_cases hb:0≤k∧k<(ps.length:Int)
 rotate_left
 ·
  have hc:cOk ws ls ps k p=false:=cOk_no2 hb
  rw [cNum_no hc,hc]
  clear hpn
  have hbt:btw k 0 ((ps.length:Int)-1)=false:=by simp [btw];omega
  go_enter Tryz.func123,Tryz.ntmps123
  go_wp2_with (first
   | (go_at_call 121;refine (slok _ _ _ _ _ _ ls p hl hwl hll).mono ?_;rintro e w' ⟨rfl,hw⟩;subst w';rw [hr])
   | (go_at_call 33;refine (Li.between_any _ _ _ _).mono ?_;rintro e w' ⟨rfl,hw⟩;subst w';rw [hbt])
   | (go_at_call 122;refine (Pw.spok_any _ _ _ ps hp (by omega)).mono ?_;rintro e w' ⟨rfl,nq,hw⟩;subst w';rw [hk]))
  go_ret2
  exact ⟨rfl,_,rfl⟩
 have hbt:btw k 0 ((ps.length:Int)-1)=true:=by simp [btw];omega
 have hc:=cOk_yes (k:=k) ho hb
 rw [cNum_yes hc,hc]
 obtain ⟨kn,rfl⟩:∃ kn:Nat,k=(kn:Int):=⟨k.toNat,by omega⟩
 rw [show (kn:Int).toNat=kn by omega]
 have hpk:=pok_iff.1 hk
 have hsm:=rgt_sml hr
 obtain ⟨⟨hn40,hln,p0,p1⟩,_⟩:=rgt_iff.1 hr
 have HPN:Hid (ps.length=ws.length):=hpn
 have HLN:Hid (ls.length=ws.length):=hln
 have hkn:kn<ps.length:=by omega
 have hp40:ps.length≤40:=by omega
 have hrng:=hpk.rng kn hkn
 have hjw:ps[kn].toNat<ws.length:=by omega
 have HRES:Hid (atNum ws ls ps kn p=Ar.flo (tl ws ls (wat ws ps[kn]) (ps.take kn)+p) (tr ws (wat ws ps[kn]) (ps.take kn)+1)):=by
  show atNum ws ls ps kn p=_
  unfold atNum numb tal
  rw [show lat ps (kn:Int)=ps[kn] from by rw [lat_get (by omega)];simp]
 clear hpn hln hc
 rcases hp with rfl | ⟨pb,po,rfl,hpb,hpc⟩
 ·
  simp at hkn
 have hcp:=hpc kn hkn
 rcases hw with rfl | ⟨wb,wo,rfl,hwb,hwc⟩
 ·
  simp at hjw
 have hl0:=hl
 rcases hl with rfl | ⟨lb,lo,rfl,hlb,hlc⟩
 ·
  have:=HLN.out;simp at this;omega
 have hcw:=hwc _ hjw
 rw [← wat_get hjw] at hcw
 have HP:Hid (∀ j (hj:j<ps.length),w.cell? ⟨pb,po+j,none⟩=some (.int .i64 ps[j])):=hpc
 have HW:Hid (∀ j (hj:j<ws.length),w.cell? ⟨wb,wo+j,none⟩=some (.string ws[j])):=hwc
 have HL:Hid (∀ j (hj:j<ls.length),w.cell? ⟨lb,lo+j,none⟩=some (.int .i64 ls[j])):=hlc
 have hpA:Li.IsL w (some ⟨pb,po,none⟩) ps:=.inr ⟨pb,po,rfl,hpb,hpc⟩
 clear hpc hwc hlc
 obtain ⟨x,hx⟩:∃ x,ps[kn]=x:=⟨_,rfl⟩
 rw [hx] at hcp hcw HRES hrng hjw
 clear hx
 go_enter Tryz.func123,Tryz.ntmps123
 go_wp2_with (first
  | (go_at_call 121;refine (slok _ _ _ _ _ _ ls p hl0 hwl hll).mono ?_;rintro e w' ⟨rfl,hw⟩;subst w';rw [hr])
  | (go_at_call 33;refine (Li.between_any _ _ _ _).mono ?_;rintro e w' ⟨rfl,hw⟩;subst w';rw [hbt])
  | (go_at_call 122;refine (Pw.spok_any _ _ _ ps hpA (by omega)).mono ?_;rintro e w' ⟨rfl,nq,hw⟩;subst w';rw [hk]))
 go_loopw [12,13,14] (fun s n i wr=>∃ q:Nat,q≤kn∧i=.int .i64 q∧s=.int .i64 (tl ws ls (wat ws x) (ps.take q)+p)∧n=.int .i64 (tr ws (wat ws x) (ps.take q)+1)∧∃ m,wr=w.drewN m) (fun _ _ i _=>kn-(intOf i).toNat)
 case atStart=>exact ⟨0,Nat.zero_le _,rfl,by simp [tl],by simp [tr],_,rfl⟩
 case round =>
  obtain ⟨q,hq,rfl,rfl,rfl,m,rfl⟩:=hrel
  by_cases hlt:q<kn
  ·
   have hqp:q<ps.length:=by omega
   have hrq:=hpk.rng q hqp
   have hcq:=HP.out q hqp
   have hjq:ps[q].toNat<ws.length:=by have:=HPN.out;omega
   have hjl:ps[q].toNat<ls.length:=by have:=HPN.out;have:=HLN.out;omega
   have hcqw:=HW.out _ hjq
   have hcql:=HL.out _ hjl
   rw [← wat_get hjq] at hcqw
   rw [← lat_get hjl] at hcql
   have HT1:Hid (tr ws (wat ws x) (ps.take (q+1))=tr ws (wat ws x) (ps.take q)+(if wat ws ps[q]=wat ws x then 1 else 0)):=by show _=_;rw [List.take_succ_eq_append_getElem hqp,tr_snoc]
   have HT2:Hid (tl ws ls (wat ws x) (ps.take (q+1))=tl ws ls (wat ws x) (ps.take q)+(if wat ws ps[q]=wat ws x then lat ls ps[q] else 0)):=by show _=_;rw [List.take_succ_eq_append_getElem hqp,tl_snoc]
   have hb1:=tr_bd ws (wat ws x) (ps.take q)
   have hb2:=tl_bd (ws:=ws) hsm (wat ws x) (ps.take q)
   have hb3:(ps.take q).length≤40:=by simp;omega
   have hb4:=hsm ps[q]
   obtain ⟨y,hy⟩:∃ y,ps[q]=y:=⟨_,rfl⟩
   rw [hy] at hrq hcq hcqw hcql HT1 HT2 hb4 hjq hjl
   clear hy
   obtain ⟨R,hR⟩:∃ R,tr ws (wat ws x) (ps.take q)=R:=⟨_,rfl⟩
   obtain ⟨L,hL⟩:∃ L,tl ws ls (wat ws x) (ps.take q)=L:=⟨_,rfl⟩
   rw [hR] at hb1 hb2 HT1 ⊢
   rw [hL] at hb2 HT2 ⊢
   clear hR hL
   obtain ⟨l,hl⟩:∃ l,lat ls y=l:=⟨_,rfl⟩
   rw [hl] at hcql hb4 HT2
   clear hl
   by_cases he:wat ws y=wat ws x
   ·
    have he':((wat ws y).toList == (wat ws x).toList)=true:=Ls.tl_eq he
    rw [if_pos he] at HT1 HT2
    clear he
    go_wp2
    go_quiet (fail)
    go_wp2
    go_roundw
    case rel=>exact ⟨q+1,by omega,by go_num,by rw [HT2.out] <;> go_num,by rw [HT1.out] <;> go_num,_,rfl⟩
    case measure=>simp [intOf];omega
   ·
    have he':((wat ws y).toList == (wat ws x).toList)=false:=Ls.tl_ne he
    rw [if_neg he] at HT1 HT2
    clear he
    go_wp2
    go_quiet (fail)
    go_wp2
    go_roundw
    case rel=>exact ⟨q+1,by omega,by go_num,by rw [HT2.out] <;> go_num,by rw [HT1.out] <;> go_num,_,rfl⟩
    case measure=>simp [intOf];omega
  ·
   obtain rfl:q=kn:=by omega
   have hb1:=tr_bd ws (wat ws x) (ps.take q)
   go_wp2_with (go_at_call 124;refine (Ar.floor_any _ _ _ (by omega)).mono ?_;rintro e w' ⟨rfl,hw⟩;subst w')
   go_ret2
   exact ⟨ret_two HRES.out.symm rfl,_,rfl⟩
end Go.Proofs.YtaojoamldoofpaaGreatDoor.Ct
