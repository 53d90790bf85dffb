/-
  Contracts that the proof leans on, put together in the order in which they build.
-/
import Derived.Test.YtaojoamldoofpaaGreatDoorPart12
import Derived.Test.YtaojoamldoofpaaGreatDoorRows
import Derived.WalkKit
import Derived.Deep.QuietTactic
import Derived.BigQuiet
import Derived.Below
import Derived.OpenShut
import Derived.Test.YtaojoamldoofpaaGreatDoorPart1
import Derived.Test.YtaojoamldoofpaaGreatDoorPart6
import Derived.Deep.RegionHeld3
import Derived.Deep.RegionHeldLaw
set_option linter.unusedVariables false
namespace Go.Proofs.YtaojoamldoofpaaGreatDoor.Ct
open Go.RowKit
open Wd
open Tk (lok)
open Pe (pok POk pok_iff)
open Li (ret_bool ret_int below_none btw)
def Some_ (ws:List ByteArray) (ls ps:List Int) (p:Int) (lo hi:Nat) (o:List Int):Prop :=
 o.length=ws.length∧∀ q (hq:q<ps.length),lo≤q→q<hi→o[ps[q].toNat]? = some (atNum ws ls ps q p)
theorem some_none (ws:List ByteArray) (ls ps:List Int) (p:Int) (lo:Nat) (o:List Int) (h:o.length=ws.length):Some_ ws ls ps p lo lo o:=⟨h,fun q hq h1 h2=>by omega⟩
theorem set_num {Q:Nat→Prop} {ws:List ByteArray} {ls ps:List Int} {p:Int} {o:List Int} {k:Nat} (hp:POk ps) (hl:ps.length=ws.length) (hk:k<ps.length) (ho:o.length=ws.length)
  (h:∀ q (hq:q<ps.length),¬ q=k→Q q→o[ps[q].toNat]? = some (atNum ws ls ps q p)) :
  ∀ q (hq:q<ps.length),(Q q ∨ q=k)→(o.set ps[k].toNat (atNum ws ls ps k p))[ps[q].toNat]? = some (atNum ws ls ps q p):=by
 intro q hq hQ
 have hr:=hp.rng k hk
 rw [List.getElem?_set]
 by_cases e:q=k
 ·
  subst e
  rw [if_pos rfl,if_pos (by omega)]
 ·
  have hr':=hp.rng q hq
  rw [if_neg (fun h'=>e (hp.inj q k hq hk (by omega)))]
  exact h q hq e (hQ.resolve_right e)
theorem some_up {ws:List ByteArray} {ls ps:List Int} {p:Int} {o:List Int} {k:Nat} (hp:POk ps) (hl:ps.length=ws.length) (hk:k<ps.length) (h:Some_ ws ls ps p 0 k o):Some_ ws ls ps p 0 (k+1) (o.set ps[k].toNat (atNum ws ls ps k p)):=by
 refine ⟨by simpa using h.1,fun q hq h1 h2=>?_⟩
 exact set_num (Q:=fun q=>q<k) hp hl hk h.1 (fun q hq _ hQ=>h.2 q hq (Nat.zero_le _) hQ) q hq (by omega)
theorem some_uniq {ws:List ByteArray} {ls ps:List Int} {p:Int} {o o':List Int} (hp:POk ps) (hl:ps.length=ws.length) (h:Some_ ws ls ps p 0 ps.length o) (h':Some_ ws ls ps p 0 ps.length o'):o=o':=by
 apply List.ext_getElem?
 intro v
 by_cases hv:v<ws.length
 ·
  obtain ⟨j,hj,e⟩:=hp.onto v (by omega)
  have h1:=h.2 j hj (Nat.zero_le _) hj
  have h2:=h'.2 j hj (Nat.zero_le _) hj
  rw [e] at h1 h2
  simp only [Int.toNat_natCast] at h1 h2
  rw [h1,h2]
 ·
  rw [List.getElem?_eq_none (by rw [h.1];omega),List.getElem?_eq_none (by rw [h'.1];omega)]
noncomputable def allN (ws:List ByteArray) (ls ps:List Int) (p:Int):List Int :=
 @dite _ (∃ o,Some_ ws ls ps p 0 ps.length o) (Classical.propDecidable _) (fun h=>h.choose) (fun _=>[])
theorem allN_eq {ws:List ByteArray} {ls ps:List Int} {p:Int} {o:List Int} (hp:POk ps) (hl:ps.length=ws.length) (h:Some_ ws ls ps p 0 ps.length o):o=allN ws ls ps p:=by
 unfold allN
 rw [dif_pos ⟨o,h⟩]
 exact some_uniq hp hl h (Exists.choose_spec (⟨o,h⟩:∃ o,Some_ ws ls ps p 0 ps.length o))
theorem some_ex {ws:List ByteArray} {ls ps:List Int} {p:Int} (hp:POk ps) (hl:ps.length=ws.length):∀ k,k≤ps.length→∃ o,Some_ ws ls ps p 0 k o
 | 0,_=>⟨List.replicate ws.length 0,some_none _ _ _ _ _ _ (by simp)⟩
 | k+1,h=>by
  obtain ⟨o,ho⟩:=some_ex (ls:=ls) (p:=p) hp hl k (by omega)
  exact ⟨_,some_up hp hl (by omega) ho⟩
theorem allN_some {ws:List ByteArray} {ls ps:List Int} {p:Int} (hp:POk ps) (hl:ps.length=ws.length):Some_ ws ls ps p 0 ps.length (allN ws ls ps p):=by
 obtain ⟨o,ho⟩:=some_ex (ls:=ls) (p:=p) hp hl ps.length (Nat.le_refl _)
 rw [← allN_eq hp hl ho];exact ho
noncomputable def cAll (ws:List ByteArray) (ls ps:List Int) (p:Int):List Int:=if ord ws.length ls ps p=true then allN ws ls ps p else []
theorem cAll_no {ws:List ByteArray} {ls ps:List Int} {p:Int} (h:ord ws.length ls ps p=false):cAll ws ls ps p=[]:=by unfold cAll;rw [h];rfl
theorem cAll_yes {ws:List ByteArray} {ls ps:List Int} {p:Int} (h:ord ws.length ls ps p=true):cAll ws ls ps p=allN ws ls ps p:=by unfold cAll;rw [if_pos h]
theorem own_empty (w:World) (base:Nat) (hb:base≤w.heap.size):Li.Own (w.alloc (.cells #[] 3)) base (.slice (some ⟨w.heap.size,0,none⟩) 0 0) [] :=
 World.ownsRow_made w #[] 0 hb (by unfold maxLen;omega) (by simp)
set_option maxHeartbeats 4000000 in
theorem sall (w:World) (aw al ap:Option Addr) (cw cl cp:Nat) (ws:List ByteArray) (ls ps:List Int) (p:Int) (hw:Ls.IsS w aw ws) (hl:Li.IsL w al ls) (hp:Li.IsL w ap ps)
  (hwl:ws.length≤1048576) (hll:ls.length≤1048577) (hpl:ps.length≤1048577) :
  Calls Tryz.prog 96 #[.slice aw ws.length cw,.slice al ls.length cl,.slice ap ps.length cp,.int .i64 p] w fun e w'=>∃ v,e=.returned (.tuple #[v,.bool (ord ws.length ls ps p)])∧Li.Own w' w.heap.size v (cAll ws ls ps p)∧Below w.heap.size w w':=by
 cases hr:rgt ws.length ls p
 ·
  have hc:ord ws.length ls ps p=false:=ord_no1 hr
  rw [cAll_no hc,hc]
  go_enter Tryz.func96,Tryz.ntmps96
  go_wp2_with (go_at_call 121;refine (slok _ _ _ _ _ _ ls p hl hwl hll).mono ?_;rintro e w' ⟨rfl,hw⟩;subst w';rw [hr])
  go_ret2
  exact ⟨_,rfl,own_empty _ _ (Nat.le_refl _),(Below.refl _ _).alloc (Nat.le_refl _) _⟩
 by_cases hpn:ps.length=ws.length
 rotate_left
 ·
  have hc:ord ws.length ls ps p=false:=ord_no2 hpn
  have hpn':((ps.length:Int) != (ws.length:Int))=true:=by simp;omega
  rw [cAll_no hc,hc]
  go_enter Tryz.func96,Tryz.ntmps96
  go_wp2_with (go_at_call 121;refine (slok _ _ _ _ _ _ ls p hl hwl hll).mono ?_;rintro e w' ⟨rfl,hw⟩;subst w';rw [hr])
  go_ret2
  exact ⟨_,rfl,own_empty _ _ (Nat.le_refl _),(Below.refl _ _).alloc (Nat.le_refl _) _⟩
 have hpn':((ps.length:Int) != (ws.length:Int))=false:=by simp;omega
 cases hk:pok ps
 ·
  have hc:ord ws.length ls ps p=false:=ord_no3 hk
  rw [cAll_no hc,hc]
  clear hpn
  go_enter Tryz.func96,Tryz.ntmps96
  go_wp2_with (first
   | (go_at_call 121;refine (slok _ _ _ _ _ _ ls p hl hwl hll).mono ?_;rintro e w' ⟨rfl,hw⟩;subst w';rw [hr])
   | (go_at_call 122;refine (Pw.spok_any _ _ _ ps hp (by omega)).mono ?_;rintro e w' ⟨rfl,nq,hw⟩;subst w';rw [hk]))
  go_ret2
  exact ⟨_,rfl,own_empty (w.drewN nq) _ (Nat.le_refl _),(Go.below_drewN (Below.refl _ _) _).alloc (Nat.le_refl _) _⟩
 have ho:=ord_yes hr hpn hk
 have hpk:=pok_iff.1 hk
 rw [cAll_yes ho,ho]
 obtain ⟨⟨hn40,hln,p0,p1⟩,_⟩:=rgt_iff.1 hr
 have HPN:Hid (ps.length=ws.length):=hpn
 clear hpn hln
 obtain ⟨i0,hi,hz0,hz1,hz2⟩:=info_parts Li.info_int
 go_enter Tryz.func96,Tryz.ntmps96
 go_wp2_with (first
  | (go_at_call 121;refine (slok _ _ _ _ _ _ ls p hl hwl hll).mono ?_;rintro e w' ⟨rfl,hw⟩;subst w';rw [hr])
  | (go_at_call 122;refine (Pw.spok_any _ _ _ ps hp (by omega)).mono ?_;rintro e w' ⟨rfl,nq,hw⟩;subst w';rw [hk])
  | (at_make;refine wpList_make_full _ rfl _ _ 45 rfl w.heap.size 3 i0 (.int .i64 0) 1 Tryz.underlying45 hi hz0 hz1 _ _ _ _ ws.length rfl rfl (by omega) (by omega) (by rw [hz2];omega) (by unfold maxLen;omega) (Nat.le_refl _) ?_;intro w1 hown hgrow))
 have hown':=Li.own_made hown
 have hB1:Below w.heap.size w w1:=(Go.below_drewN (Below.refl _ _) nq).trans (below_none hgrow)
 clear hown hgrow
 go_loopw [11] (fun i wr=>∃ k:Nat,k≤ps.length∧i=.int .i64 k∧∃ o:List Int,Some_ ws ls ps p 0 k o∧o.length=ws.length∧Li.Own wr w.heap.size (.slice (some ⟨w.heap.size,0,none⟩) ws.length ws.length) o∧Below w.heap.size w wr) (fun i _=>ps.length-(intOf i).toNat)
 case atStart=>exact ⟨0,Nat.zero_le _,rfl,_,some_none _ _ _ _ _ _ (by simp),by simp,hown',hB1⟩
 case round =>
  obtain ⟨k,hk',rfl,o,hso,hol,hown,hB⟩:=hrel
  clear hown' hB1
  have HOL:Hid (o.length=ws.length):=hol
  clear hol
  by_cases hlt:k<ps.length
  ·
   have hc:=cOk_yes (k:=(k:Int)) ho ⟨by omega,by omega⟩
   have hn:=cNum_yes hc
   rw [show ((k:Int)).toNat=k by omega] at hn
   have hrng:=hpk.rng k hlt
   have hjw:ps[k].toNat<ws.length:=by have:=HPN.out;omega
   have hnext:=some_up hpk HPN.out hlt hso
   have HN:Hid (Some_ ws ls ps p 0 (k+1) (o.set ps[k].toNat (atNum ws ls ps k p))):=hnext
   clear hnext
   rcases hp.below hB with rfl | ⟨pb,po,rfl,hpb,hpc⟩
   ·
    simp at hlt
   have hcp:=hpc k hlt
   have hpI:Li.IsL wr (some ⟨pb,po,none⟩) ps:=.inr ⟨pb,po,rfl,hpb,hpc⟩
   have hlI:=hl.below hB
   have hwI:=hw.below hB
   obtain ⟨cv,hcl⟩:∃ cv:Int,wr.cell? ⟨w.heap.size,ps[k].toNat,none⟩=some (.int .i64 cv):=⟨_,hown.cell HOL.out ps[k].toNat (by rw [HOL.out];exact hjw)⟩
   have hcf:=hown.frozen HOL.out ps[k].toNat
   have HO:Hid (Li.Own wr w.heap.size (.slice (some ⟨w.heap.size,0,none⟩) ws.length ws.length) o):=hown
   obtain ⟨x,hx⟩:∃ x,ps[k]=x:=⟨_,rfl⟩
   obtain ⟨y,hy⟩:∃ y,atNum ws ls ps k p=y:=⟨_,rfl⟩
   have HX:Hid (ps[k]=x):=hx
   rw [hx,hy] at HN
   rw [hx] at hcp hcl hcf hrng hjw
   rw [hy] at hn
   clear hpc hx hy hso hown
   go_wp2_with (go_at_call 123;refine (sat _ _ _ _ _ _ _ ws ls ps _ p hwI hlI hpI hwl hll hpl).mono ?_;rintro e w' ⟨rfl,nq',hw⟩;subst w';rw [hc,hn])
   go_roundw
   case rel=>exact ⟨k+1,by omega,by go_num,o.set x.toNat y,HN.out,by simpa using HOL.out,(HO.out.drewN nq').set HOL.out _ _,(Go.below_drewN hB nq').setCell (p:=⟨w.heap.size,x.toNat,none⟩) (Nat.le_refl _) _⟩
   case measure=>simp [intOf];omega
  ·
   obtain rfl:k=ps.length:=by omega
   have HE:Hid (Li.Own wr w.heap.size (.slice (some ⟨w.heap.size,0,none⟩) ws.length ws.length) (allN ws ls ps p)):=by have:=allN_eq hpk HPN.out hso;rw [← this];exact hown
   clear hown
   go_wp2
   go_ret2
   exact ⟨_,rfl,HE.out,hB⟩
end Go.Proofs.YtaojoamldoofpaaGreatDoor.Ct
namespace Go.Proofs.YtaojoamldoofpaaGreatDoor.Ct
open Go.RowKit
open Wd
open Tk (lok)
open Li (ret_bool ret_int below_none btw)
theorem idx_get (n k:Nat) (h:k<(idx n).length):(idx n)[k]=(k:Int):=by simp [idx]
def ofNum (ws:List ByteArray) (ls:List Int) (s:ByteArray) (p:Int):Int:=numb p (tal ws ls (idx ws.length) s)
def oNum (ws:List ByteArray) (ls:List Int) (s:ByteArray) (p:Int):Int:=if rgt ws.length ls p=true then ofNum ws ls s p else 0
theorem oNum_no {ws:List ByteArray} {ls:List Int} {s:ByteArray} {p:Int} (h:rgt ws.length ls p=false):oNum ws ls s p=0:=by unfold oNum;rw [h];rfl
theorem oNum_yes {ws:List ByteArray} {ls:List Int} {s:ByteArray} {p:Int} (h:rgt ws.length ls p=true):oNum ws ls s p=ofNum ws ls s p:=by unfold oNum;rw [if_pos h]
set_option maxHeartbeats 4000000 in
theorem sof (w:World) (aw al:Option Addr) (cw cl:Nat) (ws:List ByteArray) (ls:List Int) (s:ByteArray) (p:Int) (hw:Ls.IsS w aw ws) (hl:Li.IsL w al ls)
  (hwl:ws.length≤1048576) (hll:ls.length≤1048577) :
  Calls Tryz.prog 97 #[.slice aw ws.length cw,.slice al ls.length cl,.string s,.int .i64 p] w fun e w'=>e=.returned (.tuple #[.int .i64 (oNum ws ls s p),.bool (rgt ws.length ls p)])∧w'=w:=by
 cases hr:rgt ws.length ls p
 ·
  rw [oNum_no hr]
  go_enter Tryz.func97,Tryz.ntmps97
  go_wp2_with (go_at_call 121;refine (slok _ _ _ _ _ _ ls p hl hwl hll).mono ?_;rintro e w' ⟨rfl,hw⟩;subst w';rw [hr])
  go_ret2
  exact ⟨rfl,rfl⟩
 rw [oNum_yes hr]
 have hsm:=rgt_sml hr
 obtain ⟨⟨hn40,hln,p0,p1⟩,_⟩:=rgt_iff.1 hr
 have HLN:Hid (ls.length=ws.length):=hln
 clear hln
 have HIL:Hid ((idx ws.length).length=ws.length):=idx_len ws.length
 go_enter Tryz.func97,Tryz.ntmps97
 go_wp2_with (go_at_call 121;refine (slok _ _ _ _ _ _ ls p hl hwl hll).mono ?_;rintro e w' ⟨rfl,hw⟩;subst w';rw [hr])
 go_loop [10,11,12] (fun x n i=>∃ q:Nat,q≤ws.length∧i=.int .i64 q∧x=.int .i64 (tl ws ls s ((idx ws.length).take q)+p)∧n=.int .i64 (tr ws s ((idx ws.length).take q)+1)) (fun _ _ i=>ws.length-(intOf i).toNat)
 case atStart=>exact ⟨0,Nat.zero_le _,rfl,by simp [tl],by simp [tr]⟩
 case round =>
  obtain ⟨q,hq,rfl,rfl,rfl⟩:=hrel
  have hb1:=tr_bd ws s ((idx ws.length).take q)
  by_cases hlt:q<ws.length
  ·
   have hki:q<(idx ws.length).length:=by rw [HIL.out];exact hlt
   have hkl:q<ls.length:=by have:=HLN.out;omega
   rcases hw with rfl | ⟨wb,wo,rfl,hwb,hwc⟩
   ·
    simp at hlt
   rcases hl with rfl | ⟨lb,lo,rfl,hlb,hlc⟩
   ·
    simp at hkl
   have hcw:=hwc q hlt
   have hcl:=hlc q hkl
   have ew:ws[q]=wat ws (q:Int):=by rw [wat_get (by omega)];simp
   have el:ls[q]=lat ls (q:Int):=by rw [lat_get (by omega)];simp
   rw [ew] at hcw
   rw [el] at hcl
   have hb4:=hsm (q:Int)
   have HT1:Hid (tr ws s ((idx ws.length).take (q+1))=tr ws s ((idx ws.length).take q)+(if wat ws q=s then 1 else 0)):=by show _=_;rw [List.take_succ_eq_append_getElem hki,tr_snoc,idx_get]
   have HT2:Hid (tl ws ls s ((idx ws.length).take (q+1))=tl ws ls s ((idx ws.length).take q)+(if wat ws q=s then lat ls q else 0)):=by show _=_;rw [List.take_succ_eq_append_getElem hki,tl_snoc,idx_get]
   have hb2:=tl_bd (ws:=ws) hsm s ((idx ws.length).take q)
   have hb3:((idx ws.length).take q).length≤40:=by simp;have:=HIL.out;omega
   obtain ⟨x,hx⟩:∃ x,wat ws (q:Int)=x:=⟨_,rfl⟩
   obtain ⟨l,hl'⟩:∃ l,lat ls (q:Int)=l:=⟨_,rfl⟩
   rw [hx] at hcw HT1 HT2
   rw [hl'] at hcl hb4 HT2
   obtain ⟨R,hR⟩:∃ R,tr ws s ((idx ws.length).take q)=R:=⟨_,rfl⟩
   obtain ⟨L,hL⟩:∃ L,tl ws ls s ((idx ws.length).take q)=L:=⟨_,rfl⟩
   rw [hR] at hb1 hb2 HT1 ⊢
   rw [hL] at hb2 HT2 ⊢
   clear hR hL hx hl' hwc hlc ew el hsm
   by_cases he:x=s
   ·
    have he':(x.toList == s.toList)=true:=Ls.tl_eq he
    rw [if_pos he] at HT1 HT2
    clear he
    go_wp2
    go_round
    case rel=>exact ⟨q+1,by omega,by go_num,by rw [HT2.out] <;> go_num,by rw [HT1.out] <;> go_num⟩
    case measure=>simp [intOf];omega
   ·
    have he':(x.toList == s.toList)=false:=Ls.tl_ne he
    rw [if_neg he] at HT1 HT2
    clear he
    go_wp2
    go_round
    case rel=>exact ⟨q+1,by omega,by go_num,by rw [HT2.out] <;> go_num,by rw [HT1.out] <;> go_num⟩
    case measure=>simp [intOf];omega
  ·
   obtain rfl:q=ws.length:=by omega
   have HT:Hid ((idx ws.length).take ws.length=idx ws.length):=List.take_of_length_le (by rw [HIL.out];exact Nat.le_refl _)
   go_wp2_with (go_at_call 124;refine (Ar.floor_any _ _ _ (by omega)).mono ?_;rintro e w' ⟨rfl,hw⟩;subst w')
   go_ret2
   exact ⟨ret_two (by rw [HT.out];rfl) rfl,rfl⟩
theorem sofB (w:World) (aw al:Option Addr) (cw cl:Nat) (ws:List ByteArray) (ls:List Int) (s:ByteArray) (p:Int) (hw:Ls.IsS w aw ws) (hl:Li.IsL w al ls)
  (hwl:ws.length≤1048576) (hll:ls.length≤1048577) :
  Calls Tryz.prog 97 #[.slice aw ws.length cw,.slice al ls.length cl,.string s,.int .i64 p] w fun e w'=>e=.returned (.tuple #[.int .i64 (oNum ws ls s p),.bool (rgt ws.length ls p)])∧Below w.heap.size w w':=by
 refine (sof w aw al cw cl ws ls s p hw hl hwl hll).mono ?_
 rintro e w' ⟨rfl,rfl⟩
 exact ⟨rfl,Below.refl _ _⟩
end Go.Proofs.YtaojoamldoofpaaGreatDoor.Ct
namespace Go.Proofs.YtaojoamldoofpaaGreatDoor.Se
def nx (s:Int):Int:=48271 * s % 2147483647
def Seed (s:Int):Prop:=1≤s∧s≤2147483646
def tk (s:Int):Int:=if 1≤s∧s≤2147483646 then s else 1
theorem tk_seed (s:Int):Seed (tk s):=by unfold tk Seed;split <;> omega
theorem tk_id {s:Int} (h:Seed s):tk s=s:=by unfold tk;exact if_pos h
theorem nx_seed {s:Int} (h:Seed s):Seed (nx s):=by
 unfold Seed nx at *
 omega
theorem few:∀ q,q<23→∀ j,j<22→0<q * 2147483647 / 48271+j→48271 * (q * 2147483647 / 48271+j) % 2147483647<1000000→¬ 48271 * (48271 * (q * 2147483647 / 48271+j) % 2147483647) % 2147483647<1000000:=by
 decide +kernel
theorem never (e:Nat) (h0:0<e) (h1:e<1000000) (h2:48271 * e % 2147483647<1000000):¬ 48271 * (48271 * e % 2147483647) % 2147483647<1000000:=by
 have hq:48271 * e / 2147483647<23:=by omega
 have hd:=Nat.div_add_mod (48271 * e) 2147483647
 obtain ⟨q,hq'⟩:∃ q,48271 * e / 2147483647=q:=⟨_,rfl⟩
 rw [hq'] at hq hd
 obtain ⟨j,hj⟩:∃ j,e=q * 2147483647 / 48271+j:=⟨e-q * 2147483647 / 48271,by omega⟩
 have hj':j<22:=by omega
 rw [hj] at h0 h2 ⊢
 exact few q hq j hj' h0 h2
theorem nx_of {s:Int} {e:Nat} (h:s=2147483647-(e:Int)) (h0:0<e) (h1:e<2147483647):nx s=2147483647-((48271 * e % 2147483647:Nat):Int):=by
 subst h
 unfold nx
 omega
theorem thrice {s:Int} (hs:Seed s) (h1:2146483647<nx s) (h2:2146483647<nx (nx s)):¬ 2146483647<nx (nx (nx s)):=by
 have k1:=nx_seed hs
 have k2:=nx_seed k1
 unfold Seed at k1 k2
 obtain ⟨e,he⟩:∃ e:Nat,nx s=2147483647-(e:Int):=⟨(2147483647-nx s).toNat,by omega⟩
 have e2:=nx_of he (by omega) (by omega)
 have e3:=nx_of e2 (by omega) (by omega)
 rw [e3]
 have:=never e (by omega) (by omega) (by omega)
 omega
def draw:Nat→Int→Int→Int
 | 0,_,s=>s
 | k+1,top,s=>if nx s-1<top then nx s else draw k top (nx s)
def sd (top s:Int):Int:=draw 3 top s
theorem sd_here {top s:Int} (h:nx s-1<top):sd top s=nx s:=by unfold sd draw;exact if_pos h
theorem draw_succ (k:Nat) (top s:Int):draw (k+1) top s=if nx s-1<top then nx s else draw k top (nx s):=rfl
theorem sd_again {top s:Int} (hs:Seed s) (ht:2146483647≤top) (h:¬ nx s-1<top):sd top s=sd top (nx s):=by
 unfold sd
 rw [draw_succ 2 top s,if_neg h,draw_succ 1 top (nx s),draw_succ 2 top (nx s)]
 split
 ·
  rfl
 ·
  rename_i h2
  rw [draw_succ 0 top (nx (nx s)),draw_succ 1 top (nx (nx s))]
  split
  ·
   rfl
  ·
   rename_i h3
   exact absurd (show 2146483647<nx (nx (nx s)) by omega) (thrice hs (by omega) (by omega))
theorem sd_seed {top s:Int} (hs:Seed s):Seed (sd top s):=by
 unfold sd
 have:∀ k s,Seed s→Seed (draw k top s):=by
  intro k
  induction k with
  | zero=>intro s h;exact h
  | succ k ih =>
   intro s h
   unfold draw
   split
   ·
    exact nx_seed h
   ·
    exact ih _ (nx_seed h)
 exact this 3 s hs
def ms (s:Int):Nat:=if 2146483647<nx s then (if 2146483647<nx (nx s) then 2 else 1) else 0
theorem ms_less {s:Int} (hs:Seed s) (h:2146483647<nx s):ms (nx s)<ms s:=by
 unfold ms
 rw [if_pos h]
 split
 ·
  rename_i h2
  rw [if_neg (thrice hs h h2)]
  decide
 ·
  decide
def top (n:Int):Int:=2147483646 / n * n
theorem top_bd {n:Int} (h1:1≤n) (h2:n≤1000000):2146483647≤top n∧top n≤2147483646:=by
 unfold top
 have h:=Int.emod_add_mul_ediv 2147483646 n
 have h3:=Int.emod_nonneg 2147483646 (show n≠0 by omega)
 have h4:=Int.emod_lt_of_pos 2147483646 (show 0<n by omega)
 rw [Int.mul_comm] at h
 omega
end Go.Proofs.YtaojoamldoofpaaGreatDoor.Se
namespace Go.Proofs.YtaojoamldoofpaaGreatDoor.Dr
set_option maxRecDepth 20000
open Go.RowKit
theorem ret_int {k:IntKind} {a b:Int} (h:a=b):Ending.returned (.int k a)=.returned (.int k b):=by rw [h]
theorem ret_bool {a b:Bool} (h:a=b):Ending.returned (.bool a)=.returned (.bool b):=by rw [h]
def btw (n lo hi:Int):Bool:=decide (lo≤n∧n≤hi)
set_option maxHeartbeats 400000 in
theorem between_any (n lo hi:Int) (w:World) :
  Calls Tryz.prog 33 #[.int .i64 n,.int .i64 lo,.int .i64 hi] w fun e w'=>e=.returned (.bool (btw n lo hi))∧w'=w:=by
 go_enter Tryz.func33,Tryz.ntmps33
 go_wp2
 all_goals go_ret
 all_goals refine ⟨ret_bool ?_,rfl⟩
 all_goals unfold btw
 all_goals simp
 all_goals omega
set_option maxHeartbeats 400000 in
theorem stk_any (s:Int) (w:World) :
  Calls Tryz.prog 153 #[.int .i64 s] w fun e w'=>e=.returned (.int .i64 (Se.tk s))∧w'=w:=by
 go_enter Tryz.func153,Tryz.ntmps153
 go_wp2_with (go_at_call 33;refine (between_any _ _ _ _).mono ?_;rintro e w' ⟨rfl,hw⟩;subst w')
 all_goals go_ret
 all_goals refine ⟨ret_int ?_,rfl⟩
 all_goals unfold Se.tk
 ·
  rename_i h
  rw [if_pos (by simpa [btw] using h)]
 ·
  rename_i h
  rw [if_neg (by simpa [btw] using h)]
set_option maxHeartbeats 400000 in
theorem snx_any (s:Int) (w:World) :
  Calls Tryz.prog 154 #[.int .i64 s] w fun e w'=>e=.returned (.int .i64 (Se.nx (Se.tk s)))∧w'=w:=by
 have h:=Se.tk_seed s
 obtain ⟨t,ht⟩:∃ t,Se.tk s=t:=⟨_,rfl⟩
 rw [ht] at h
 obtain ⟨h0,h1⟩:=h
 go_enter Tryz.func154,Tryz.ntmps154
 go_wp2_with fail
 refine (stk_any _ _).mono ?_
 rintro e w' ⟨rfl,hw⟩
 subst w'
 rw [ht]
 have HT:Hid (Se.tk s=t):=ht
 clear ht
 go_wp2
 go_ret
 exact ⟨by rw [HT.out];rfl,rfl⟩
set_option maxHeartbeats 1000000 in
theorem sbelow_yes (s n:Int) (w:World) (h1:1≤n) (h2:n≤1000000) :
  Calls Tryz.prog 118 #[.int .i64 s,.int .i64 n] w fun e w'=>e=.returned (.tuple #[.int .i64 ((Se.sd (Se.top n) (Se.tk s)-1) % n),.int .i64 (Se.sd (Se.top n) (Se.tk s))])∧w'=w:=by
 have hb:btw n 1 1000000=true:=by simp [btw];omega
 have ht:2146483647≤2147483646 / n * n∧2147483646 / n * n≤2147483646:=Se.top_bd h1 h2
 obtain ⟨t0,t1⟩:=ht
 have hs:=Se.tk_seed s
 have HS:Hid (Se.Seed (Se.tk s)):=hs
 obtain ⟨hs0,hs1⟩:=hs
 go_enter Tryz.func118,Tryz.ntmps118
 go_wp2_with (first | (go_at_call 33;refine (between_any _ _ _ _).mono ?_;rintro e w' ⟨rfl,hw⟩;subst w') | (go_at_call 153;refine (stk_any _ _).mono ?_;rintro e w' ⟨rfl,hw⟩;subst w'))
 go_loop [0] (fun v=>∃ x:Int,v=.int .i64 x∧Se.Seed x∧Se.sd (2147483646 / n * n) x=Se.sd (2147483646 / n * n) (Se.tk s)) (fun v=>Se.ms (intOf v))
 case atStart=>exact ⟨_,rfl,HS.out,rfl⟩
 case round =>
  obtain ⟨x,rfl,hx,he⟩:=hrel
  have HE:Hid (Se.sd (2147483646 / n * n) x=Se.sd (2147483646 / n * n) (Se.tk s)):=he
  have hy:=Se.nx_seed hx
  have HX:Hid (Se.Seed x∧Se.Seed (Se.nx x)):=⟨hx,hy⟩
  have htx:=Se.tk_id hx
  clear he hx
  obtain ⟨y0,y1⟩:=hy
  go_wp2_with fail
  refine (snx_any _ _).mono ?_
  rintro e w1 ⟨rfl,hw⟩
  subst w1
  rw [htx]
  by_cases hlt:Se.nx x-1<2147483646 / n * n
  ·
   go_wp2
   go_ret2
   refine ⟨?_,rfl⟩
   have:=Se.sd_here hlt
   rw [HE.out] at this
   show _=Ending.returned (.tuple #[.int .i64 ((Se.sd (2147483646 / n * n) (Se.tk s)-1) % n),.int .i64 (Se.sd (2147483646 / n * n) (Se.tk s))])
   rw [this]
   rfl
  ·
   go_wp2
   go_round
   case rel=>exact ⟨_,rfl,HX.out.2,by rw [← HE.out];exact (Se.sd_again HX.out.1 t0 (by omega)).symm⟩
   case measure=>simp only [intOf];exact Se.ms_less HX.out.1 (by omega)
end Go.Proofs.YtaojoamldoofpaaGreatDoor.Dr
namespace Go.Proofs.YtaojoamldoofpaaGreatDoor.It
open Go.RowKit
open Li Pe Pw
theorem one_cell (w:World) (T:TypeId) (x:Int):∀ j u,([Value.int .i64 x]:List Value)[j]? = some u→(w.alloc (.cells #[.int .i64 x] T)).cell? ((⟨w.heap.size,0,none⟩:Addr).add j)=some u:=by
 intro j u hj
 match j,hj with
 | 0,hj=>simp at hj;subst hj;simp [Addr.add]
theorem one_one (x:Int):∀ u ∈ ([Value.int .i64 x]:List Value),u.oneCell'=true:=by
 intro u hu;simp at hu;subst hu;rfl
theorem own_snoc {w:World} {base n:Nat} {v:Value} {l:List Int} {x:Int} (hn:l.length=n) (h:w.ownsRow base 3 1 v (n+1) (iv l ++ [.int .i64 x])):Own w base v (l ++ [x]):=by
 subst hn
 unfold Own
 rw [← iv_append,List.length_append]
 exact h
theorem own_empty (w:World) (base:Nat) (hb:base≤w.heap.size):Own (w.alloc (.cells #[] 3)) base (.slice (some ⟨w.heap.size,0,none⟩) 0 0) [] :=
 World.ownsRow_made w #[] 0 hb (by unfold maxLen;omega) (by simp)
end Go.Proofs.YtaojoamldoofpaaGreatDoor.It
namespace Go.Proofs.YtaojoamldoofpaaGreatDoor.Po
set_option maxRecDepth 20000
open Go.RowKit
open Li Pe It
def iota (n:Nat):List Int:=(List.range n).map fun (j:Nat)=>(j:Int)
theorem iota_length (n:Nat):(iota n).length=n:=by simp [iota]
theorem iota_get (n j:Nat) (h:j<(iota n).length):(iota n)[j]=(j:Int):=by simp [iota]
theorem iota_succ (n:Nat):iota (n+1)=iota n ++ [(n:Int)]:=by simp [iota,List.range_succ]
theorem iota_pok (n:Nat) (h:n≤60):POk (iota n):=by
 refine pok_of (by rw [iota_length];exact h) ?_ ?_
 ·
  intro j hj
  rw [iota_get,iota_length]
  rw [iota_length] at hj
  omega
 ·
  intro i j hi hj e
  rw [iota_get,iota_get] at e
  omega
def swp (l:List Int) (i j:Nat):List Int:=(l.set i (l.getD j 0)).set j (l.getD i 0)
theorem swp_length (l:List Int) (i j:Nat):(swp l i j).length=l.length:=by simp [swp]
def sg (i j t:Nat):Nat:=if t=j then i else if t=i then j else t
theorem sg_lt {i j t n:Nat} (hi:i<n) (hj:j<n) (ht:t<n):sg i j t<n:=by unfold sg;split <;> (try split) <;> omega
theorem sg_inj {i j t u:Nat} (h:sg i j t=sg i j u):t=u:=by
 unfold sg at h
 split at h <;> split at h <;> (try split at h) <;> (try split at h) <;> omega
theorem swp_get (l:List Int) (i j t:Nat) (hi:i<l.length) (hj:j<l.length) (ht:t<(swp l i j).length):(swp l i j)[t]=l[sg i j t]'(sg_lt hi hj (by rwa [swp_length] at ht)):=by
 have ht':t<l.length:=by rwa [swp_length] at ht
 unfold swp sg
 simp only [List.getElem_set,List.getD_eq_getElem?_getD,List.getElem?_eq_getElem hi,List.getElem?_eq_getElem hj,Option.getD_some]
 by_cases e1:t=j
 ·
  subst e1;simp
 ·
  by_cases e2:t=i
  ·
   subst e2
   rw [if_neg (by omega),if_pos rfl]
   simp [e1]
  ·
   rw [if_neg (by omega),if_neg (by omega)]
   simp [e1,e2]
theorem swp_pok {l:List Int} (h:POk l) {i j:Nat} (hi:i<l.length) (hj:j<l.length):POk (swp l i j):=by
 refine pok_of (by rw [swp_length];exact h.1) ?_ ?_
 ·
  intro t ht
  rw [swp_get l i j t hi hj ht]
  have hr:=h.rng (sg i j t) (sg_lt hi hj (by rwa [swp_length] at ht))
  have hl:=swp_length l i j
  omega
 ·
  intro t u ht hu e
  rw [swp_get l i j t hi hj ht,swp_get l i j u hi hj hu] at e
  exact sg_inj (h.inj _ _ _ _ e)
def at' (k:Nat) (s:Int):Int:=(Se.sd (Se.top ((k:Int)+1)) s-1) % ((k:Int)+1)
theorem at_bd (k:Nat) (s:Int):0≤at' k s∧at' k s<(k:Int)+1:=⟨Int.emod_nonneg _ (by omega),Int.emod_lt_of_pos _ (by omega)⟩
def mix:Nat→List Int→Int→List Int
 | 0,l,_=>l
 | k+1,l,s=>mix k (swp l (k+1) (at' (k+1) s).toNat) (Se.sd (Se.top (((k+1:Nat):Int)+1)) s)
theorem mix_step {k:Nat} (hk:0<k) (l:List Int) (s:Int):mix (k-1) (swp l k (at' k s).toNat) (Se.sd (Se.top ((k:Int)+1)) s)=mix k l s:=by
 obtain ⟨m,rfl⟩:∃ m,k=m+1:=⟨k-1,by omega⟩
 rfl
theorem mix_pok:∀ (k:Nat) (l:List Int) (s:Int),POk l→(k=0 ∨ k<l.length)→POk (mix k l s)∧(mix k l s).length=l.length
 | 0,l,_,h,_=>⟨h,rfl⟩
 | k+1,l,s,h,hk=>by
  have hb:=at_bd (k+1) s
  have hj:(at' (k+1) s).toNat<l.length:=by omega
  have:=mix_pok k _ (Se.sd (Se.top (((k+1:Nat):Int)+1)) s) (swp_pok h (i:=k+1) (by omega) hj) (by rw [swp_length];omega)
  rw [swp_length] at this
  exact this
theorem swp_eq {l:List Int} {i j:Nat} (hi:i<l.length) (hj:j<l.length):(l.set i l[j]).set j l[i]=swp l i j:=by
 simp [swp,List.getD_eq_getElem?_getD,List.getElem?_eq_getElem hi,List.getElem?_eq_getElem hj]
theorem mix_round {x d:Int} {t j:Nat} {l:List Int} {R:List Int} (ht:0<t) (hd:Se.sd (Se.top ((t:Int)+1)) (Se.tk x)=d) (hj:(d-1) % ((t:Int)+1)=(j:Int)) (h:mix (t:Int).toNat l (Se.tk x)=R) :
  mix ((t:Int)-1).toNat (swp l t j) (Se.tk d)=R:=by
 have h1:Se.tk d=d:=by rw [← hd];exact Se.tk_id (Se.sd_seed (Se.tk_seed x))
 have h2:=mix_step ht l (Se.tk x)
 have h3:(at' t (Se.tk x)).toNat=j:=by unfold at';rw [hd,hj];omega
 rw [h3,hd] at h2
 rw [h1,show ((t:Int)-1).toNat=t-1 by omega,h2,← h]
 rfl
theorem own_swp {w:World} {base g cap n:Nat} {l:List Int} (h:Own w base (.slice (some ⟨g,0,none⟩) n cap) l) (hn:l.length=n) {i j:Nat} (hi:i<l.length) (hj:j<l.length) :
  Own ((w.setCell ⟨g,i,none⟩ (.int .i64 l[j])).setCell ⟨g,j,none⟩ (.int .i64 l[i])) base (.slice (some ⟨g,0,none⟩) n cap) (swp l i j):=by
 rw [← swp_eq hi hj]
 exact (h.set hn i l[j]).set (by simpa using hn) j l[i]
def perm (n:Nat) (s:Int):List Int:=mix (n-1) (iota n) (Se.tk s)
theorem perm_pok (n:Nat) (s:Int) (h:n≤60):POk (perm n s)∧(perm n s).length=n:=by
 have:=mix_pok (n-1) (iota n) (Se.tk s) (iota_pok n h) (by rw [iota_length];omega)
 rw [iota_length] at this
 exact this
set_option maxHeartbeats 1000000 in
theorem sperm_no (w:World) (s n:Int) (hn:n<0 ∨ 60<n) :
  Calls Tryz.prog 94 #[.int .i64 s,.int .i64 n] w fun e w'=>∃ v,e=.returned v∧Own w' w.heap.size v []∧Below w.heap.size w w':=by
 have hb:btw n 0 60=false:=by simp [btw];omega
 go_enter Tryz.func94,Tryz.ntmps94
 go_wp2_with (go_at_call 33;refine (between_any _ _ _ _).mono ?_;rintro e w' ⟨rfl,hw⟩;subst w')
 go_ret
 exact ⟨_,rfl,own_empty _ _ (Nat.le_refl _),(Below.refl _ _).alloc (Nat.le_refl _) _⟩
set_option maxHeartbeats 2000000 in
theorem sperm_yes (w:World) (s:Int) (n:Nat) (hn:n≤60) :
  Calls Tryz.prog 94 #[.int .i64 s,.int .i64 n] w fun e w'=>∃ v,e=.returned v∧Own w' w.heap.size v (perm n s)∧Below w.heap.size w w':=by
 obtain ⟨i0,hi,hz0,hz1,hz2⟩:=info_parts info_int
 have hb:btw (n:Int) 0 60=true:=by simp [btw];omega
 go_enter Tryz.func94,Tryz.ntmps94
 go_wp2_with (go_at_call 33;refine (between_any _ _ _ _).mono ?_;rintro e w' ⟨rfl,hw⟩;subst w')
 go_loopw [5,6] (fun v i wr=>∃ k:Nat,k≤n∧i=.int .i64 k∧Own wr w.heap.size v (iota k)∧Below w.heap.size w wr) (fun _ i _=>n-(intOf i).toNat)
 case atStart=>exact ⟨0,Nat.zero_le _,rfl,own_empty _ _ (Nat.le_refl _),(Below.refl _ _).alloc (Nat.le_refl _) _⟩
 case round =>
  obtain ⟨k,hk,rfl,hown,hB⟩:=hrel
  have hsz:=hB.size
  have htl:=iota_length k
  by_cases hlt:k<n
  ·
   go_wp2_with (at_builtin;refine wpList_append_own _ rfl _ _ 45 rfl w.heap.size 3 i0 (.int .i64 0) 1 8 Tryz.underlying45 hi hz0 hz1 hz2 rfl (by decide) _ _ _ rfl (World.ownsRow.alloc hown _) ⟨wr.heap.size,0,none⟩ 1 1 [.int .i64 k] rfl rfl (one_cell _ _ _) (one_one _) (by unfold maxLen;omega) (by omega) (by simp;omega) ?_)
   intro v' w2 hown' hgrow hnn
   clear hnn
   have ho2:Own w2 w.heap.size v' (iota (k+1)):=by rw [iota_succ];exact own_snoc htl hown'
   have hB2:Below w.heap.size w w2:=(hB.alloc hsz _).grown hgrow (by simp;omega) (fun g hg=>(World.ownsRow.lt hown g hg).1)
   clear hown' hgrow hown
   go_wp2
   go_roundw
   case rel=>exact ⟨k+1,by omega,by go_num,ho2,hB2⟩
   case measure=>simp [intOf];omega
  ·
   obtain rfl:k=n:=by omega
   clear hlt hk
   go_wp2
   go_loopw [0,7] (fun q i wr2=>∃ (x k':Int) (l:List Int),q=.int .i64 x∧i=.int .i64 k'∧-1≤k'∧k'<k∧l.length=k∧mix k'.toNat l (Se.tk x)=perm k s∧Own wr2 w.heap.size u5 l∧Below w.heap.size w wr2) (fun _ i _=>(intOf i).toNat)
   case atStart=>exact ⟨s,(k:Int)-1,iota k,rfl,rfl,by omega,by omega,htl,by unfold perm;rw [show ((k:Int)-1).toNat=k-1 by omega],hown,hB⟩
   case round =>
    obtain ⟨x,k',l,rfl,rfl,k0,k1,hll,hmix,hown2,hB2⟩:=hrel
    have HM:Hid (mix k'.toNat l (Se.tk x)=perm k s):=hmix
    clear hmix
    by_cases hpos:0<k'
    ·
     obtain ⟨t,rfl⟩:∃ t:Nat,k'=(t:Int):=⟨k'.toNat,by omega⟩
     rcases hown2.2 with ⟨hv,h0⟩ | ⟨g,cap',cur,hv,hgB,_⟩
     ·
      omega
     ·
      subst hv
      rw [hll] at hown2 ⊢
      obtain ⟨d,hd⟩:∃ d,Se.sd (Se.top ((t:Int)+1)) (Se.tk x)=d:=⟨_,rfl⟩
      obtain ⟨j',hj'⟩:∃ j',(d-1) % ((t:Int)+1)=j':=⟨_,rfl⟩
      have b0:0≤j':=by rw [← hj'];exact Int.emod_nonneg _ (by omega)
      have b1:j'<(t:Int)+1:=by rw [← hj'];exact Int.emod_lt_of_pos _ (by omega)
      obtain ⟨j,rfl⟩:∃ j:Nat,j'=(j:Int):=⟨j'.toNat,by omega⟩
      have hjl:j<l.length:=by omega
      have htl':t<l.length:=by omega
      have HR:Hid (mix ((t:Int)-1).toNat (swp l t j) (Se.tk d)=perm k s):=mix_round (by omega) hd hj' HM.out
      have HO:Hid (Own ((wr.setCell ⟨g,t,none⟩ (.int .i64 l[j])).setCell ⟨g,j,none⟩ (.int .i64 l[t])) w.heap.size (.slice (some ⟨g,0,none⟩) k cap') (swp l t j)):=own_swp hown2 hll htl' hjl
      have hct:=hown2.cell hll t htl'
      have hcj:=hown2.cell hll j hjl
      have hft:=hown2.frozen hll t
      have hfj:=hown2.frozen hll j
      go_wp2_with fail
      refine (Dr.sbelow_yes _ _ _ (by omega) (by omega)).mono ?_
      rintro e w' ⟨rfl,hw⟩
      subst w'
      rw [hd,hj']
      clear hd hj' HM hown2 hown
      by_cases hjt:j=t
      ·
       subst hjt
       go_wp2
       go_roundw
       case rel=>exact ⟨d,(j:Int)-1,_,rfl,by go_num,by omega,by omega,by rw [swp_length];exact hll,HR.out,HO.out,(hB2.setCell (p:=⟨g,j,none⟩) hgB _).setCell (p:=⟨g,j,none⟩) hgB _⟩
       case measure=>simp [intOf];omega
      ·
       go_wp2
       go_roundw
       case rel=>exact ⟨d,(t:Int)-1,_,rfl,by go_num,by omega,by omega,by rw [swp_length];exact hll,HR.out,HO.out,(hB2.setCell (p:=⟨g,t,none⟩) hgB _).setCell (p:=⟨g,j,none⟩) hgB _⟩
       case measure=>simp [intOf];omega
    ·
     have HP:Hid (l=perm k s):=by
      have:=HM.out
      rwa [show k'.toNat=0 by omega] at this
     go_wp2
     go_ret
     exact ⟨_,rfl,by rw [← HP.out];exact hown2,hB2⟩
def permR (s n:Int):List Int:=if 0≤n∧n≤60 then perm n.toNat s else []
theorem permR_len (s n:Int):(permR s n).length≤60:=by
 unfold permR
 split
 ·
  rename_i h;rw [(perm_pok n.toNat s (by omega)).2];omega
 ·
  simp
theorem sperm_any (w:World) (s n:Int) :
  Calls Tryz.prog 94 #[.int .i64 s,.int .i64 n] w fun e w'=>∃ v,e=.returned v∧Own w' w.heap.size v (permR s n)∧Below w.heap.size w w':=by
 unfold permR
 by_cases h:0≤n∧n≤60
 ·
  rw [if_pos h]
  obtain ⟨m,rfl⟩:∃ m:Nat,n=(m:Int):=⟨n.toNat,by omega⟩
  exact sperm_yes w s m (by omega)
 ·
  rw [if_neg h];exact sperm_no w s n (by omega)
end Go.Proofs.YtaojoamldoofpaaGreatDoor.Po
namespace Go.Proofs.YtaojoamldoofpaaGreatDoor.Vc
set_option maxRecDepth 20000
open Go.RowKit
open Tb
open Tk
open Co
open Wc (OC IsC wcols cats tok_c one_cell one_at one_one cats_length)
open Ct (cAll ord)
open Sv (IsV)
open Wd (paired)
open Li (below_none btw)
theorem row_below {w w1:World} {base n:Nat} {T:TypeId} {v:Value} {vs:List Value} (h:w.ownsRow base T 1 v n vs) (hb:Below w.heap.size w w1):w1.ownsRow base T 1 v n vs :=
 World.ownsRow.kept (row:=none) h ⟨hb.os,hb.tape,hb.output,hb.size,fun k hk _=>hb.block k hk⟩ (by cases hv:v.ownBlock <;> simp)
variable {T:TypeId} {w w1:World} {base:Nat} {v:Value} {cs:List (List Int)}
def ncols (k:Nat) (rs:List Row):List (List Int):=(List.range k).map (nat rs)
theorem ncols_length (k:Nat) (rs:List Row):(ncols k rs).length=k:=by simp [ncols]
noncomputable def ccols (k:Nat) (c:Int) (rs:List Row) (s p:Int):List (List Int):=((wcols c rs).take k).map fun ws=>cAll ws (labs rs) (Po.permR s rs.length) p
theorem ccols_length (k:Nat) (c:Int) (rs:List Row) (s p:Int) (h:k≤(wcols c rs).length):(ccols k c rs s p).length=k:=by simp [ccols];omega
noncomputable def fcols (n c:Int) (rs:List Row) (s p:Int):List (List Int):=ncols n.toNat rs ++ ccols (wcols c rs).length c rs s p
theorem wcols_le {n c:Int} {rs:List Row} (h:tok n c rs=true):(wcols c rs).length≤3:=by
 obtain ⟨_,⟨c0,c2⟩,_⟩:=tok_c h
 unfold wcols
 split
 ·
  simp [cats_length]
 ·
  rw [cats_length];omega
theorem wcols_len {n c:Int} {rs:List Row} (h:tok n c rs=true) (j:Nat) (hj:j<(wcols c rs).length):(wcols c rs)[j].length=rs.length:=by
 have hp:((wcols c rs)[j]=cat rs j) ∨ (wcols c rs)[j]=paired (cat rs 0) (cat rs 1):=by
  unfold wcols at hj ⊢
  by_cases h2:c=2
  ·
   simp only [if_pos h2] at hj ⊢
   by_cases hj2:j<2
   ·
    rw [List.getElem_append_left (by rw [cats_length];exact hj2)]
    exact .inl (Wc.cats_get _ _ _ _)
   ·
    right
    rw [List.getElem_append_right (by rw [cats_length];omega)]
    simp
  ·
   simp only [if_neg h2]
   exact .inl (Wc.cats_get _ _ _ _)
 rcases hp with e | e
 ·
  rw [e,cat_length]
 ·
  rw [e,Pa.paired_len (by rw [cat_length,cat_length]),cat_length]
theorem wcols_word {n c:Int} {rs:List Row} (h:tok n c rs=true) (j:Nat) (hj:j<(wcols c rs).length) (i:Nat) (hi:i<(wcols c rs)[j].length):(wcols c rs)[j][i].size≤25:=by
 have key:∀ (ws:List ByteArray),((∃ q:Nat,(q:Int)<c∧ws=cat rs q) ∨ (c=2∧ws=paired (cat rs 0) (cat rs 1)))→∀ i (hi:i<ws.length),ws[i].size≤25:=by
  intro ws hw i hi
  rcases hw with ⟨q,hq,rfl⟩ | ⟨h2,rfl⟩
  ·
   have:=Wc.tok_word h q i hq hi;omega
  ·
   have e:(cat rs 0).length=(cat rs 1).length:=by rw [cat_length,cat_length]
   rw [Pa.paired_get e i hi,Pa.pr_size]
   have hl:=Pa.paired_len e
   have h1:=Wc.tok_word h 0 i (by omega) (by omega)
   have h3:=Wc.tok_word h 1 i (by omega) (by omega)
   omega
 refine key _ ?_ i hi
 obtain ⟨_,⟨c0,c2⟩,_⟩:=tok_c h
 unfold wcols at hj ⊢
 by_cases h2:c=2
 ·
  simp only [if_pos h2] at hj ⊢
  by_cases hj2:j<2
  ·
   rw [List.getElem_append_left (by rw [cats_length];exact hj2)]
   exact .inl ⟨j,by omega,Wc.cats_get _ _ _ _⟩
  ·
   right
   rw [List.getElem_append_right (by rw [cats_length];omega)]
   exact ⟨h2,by simp⟩
 ·
  simp only [if_neg h2] at hj ⊢
  rw [cats_length] at hj
  exact .inl ⟨j,by omega,Wc.cats_get _ _ _ _⟩
theorem permR_pok (s:Int) (n:Nat) (h:n≤60):Pe.POk (Po.permR s n)∧(Po.permR s n).length=n:=by
 unfold Po.permR
 rw [if_pos (by omega)]
 simpa using Po.perm_pok n s h
theorem labels_yes {n c:Int} {rs:List Row} (h:tok n c rs=true):labels n c rs=labs rs:=by unfold labels;rw [if_pos h]
theorem labs_lok {n c:Int} {rs:List Row} (h:tok n c rs=true):(labs rs).all lok=true:=by
 rw [List.all_eq_true]
 intro x hx
 obtain ⟨r,hr,rfl⟩:=List.mem_map.1 hx
 have:=rok_iff.1 (List.all_eq_true.1 (tok_iff.1 h).2.2 r hr)
 exact this.2.2.2.2.2
theorem ord_col {n c:Int} {rs:List Row} (h:tok n c rs=true) {ws:List ByteArray} (hw:ws.length=rs.length) (s:Int) {p:Int} (hp : -1000000≤p∧p≤1000000):ord ws.length (labs rs) (Po.permR s rs.length) p=true:=by
 obtain ⟨_,_,h40⟩:=tok_c h
 obtain ⟨hk,hl⟩:=permR_pok s rs.length (by omega)
 exact Ct.ord_iff.2 ⟨Ct.rgt_iff.2 ⟨⟨by omega,by rw [labs_length];omega,hp.1,hp.2⟩,labs_lok h⟩,by omega,hk⟩
theorem cAll_len {n c:Int} {rs:List Row} (h:tok n c rs=true) {ws:List ByteArray} (hw:ws.length=rs.length) (s:Int) {p:Int} (hp : -1000000≤p∧p≤1000000):(cAll ws (labs rs) (Po.permR s rs.length) p).length=rs.length:=by
 have ho:=ord_col h hw s hp
 rw [Ct.cAll_yes ho]
 obtain ⟨_,hl,hk⟩:=Ct.ord_iff.1 ho
 rw [(Ct.allN_some hk hl).1,hw]
end Go.Proofs.YtaojoamldoofpaaGreatDoor.Vc
namespace Go.Proofs.YtaojoamldoofpaaGreatDoor.Mx
set_option maxRecDepth 20000
open Go.RowKit
open Tb
open Tk
open Co
open Vc
open Sv (OwV OwI IsV Wr Fr fr_grown info_vec)
open Wc (wcols tok_c)
open Li (below_none iv)
def mk (N:Nat) (e:Nat→Nat→Int):List (List Int):=(List.range N).map fun i=>(List.range 6).map fun g=>e i g
theorem mk_length (N:Nat) (e:Nat→Nat→Int):(mk N e).length=N:=by simp [mk]
theorem mk_get (N:Nat) (e:Nat→Nat→Int) (i:Nat) (h:i<(mk N e).length):(mk N e)[i]=(List.range 6).map fun g=>e i g:=by simp [mk]
theorem mk_row (N:Nat) (e:Nat→Nat→Int) (i:Nat) (h:i<(mk N e).length):(mk N e)[i].length=6:=by simp [mk]
theorem mk_congr {N:Nat} {e e':Nat→Nat→Int} (h:∀ i g,i<N→g<6→e i g=e' i g):mk N e=mk N e':=by
 unfold mk
 refine List.map_congr_left fun i hi=>List.map_congr_left fun g hg=>?_
 exact h i g (by simpa using hi) (by simpa using hg)
theorem mk_set (N:Nat) (e:Nat→Nat→Int) (i f:Nat) (x:Int) (h:i<(mk N e).length):(mk N e).set i ((mk N e)[i].set f x)=mk N (fun i' g=>if i'=i∧g=f then x else e i' g):=by
 apply List.ext_getElem
 ·
  simp [mk]
 ·
  intro j h1 h2
  rw [mk_get _ _ _ h2,List.getElem_set]
  split
  ·
   rename_i hij
   subst hij
   rw [mk_get]
   apply List.ext_getElem
   ·
    simp
   ·
    intro g h3 h4
    rw [List.getElem_set]
    simp only [List.getElem_map,List.getElem_range,true_and]
    by_cases hfg:f=g
    ·
     rw [if_pos hfg,if_pos hfg.symm]
    ·
     rw [if_neg hfg,if_neg (fun e=>hfg e.symm)]
  ·
   rename_i hij
   rw [mk_get]
   refine List.map_congr_left fun g _=>?_
   rw [if_neg (fun e=>hij e.1.symm)]
theorem iv_set (xs:List Int) (f:Nat) (x:Int):(iv xs).set f (.int .i64 x)=iv (xs.set f x):=by simp [iv,List.map_set]
theorem owv_at {w:World} {B:Nat→Prop} {G n cap:Nat} {xs:List (List Int)} (h:OwV w B (.slice (some ⟨G,0,none⟩) n cap) xs) (j:Nat) (hj:j<xs.length) (hne:0<xs[j].length) :
  ∃ b o c,w.cell? ⟨G,j,none⟩=some (.slice (some ⟨b,o,none⟩) xs[j].length c)∧B b∧b<w.heap.size∧(∀ f (hf:f<xs[j].length),w.cell? ⟨b,o+f,none⟩=some (.int .i64 xs[j][f])∧w.frozen? ⟨b,o+f,none⟩=false) ∧
   ∀ f (hf:f<xs[j].length) x,OwV (w.setCell ⟨b,o+f,none⟩ (.int .i64 x)) B (.slice (some ⟨G,0,none⟩) n cap) (xs.set j (xs[j].set f x)):=by
 obtain ⟨a,cp,e,h⟩:=h
 rcases h with h | ⟨g,off,V,bl,ha,hBg,hg,hc,hn,hi⟩
 ·
  subst h;simp at hj
 simp only [Value.slice.injEq] at e
 obtain ⟨e1,e2,e3⟩:=e
 rw [ha] at e1
 injection e1 with e1
 injection e1 with e4 e5
 subst e4 e5
 obtain ⟨h1,h2⟩:=hc j hj
 obtain ⟨a',c',e',h2'⟩:=h2
 rcases h2' with h0 | ⟨b,o,ha',hb,hw⟩
 ·
  rw [h0] at hne;simp at hne
 subst hb
 subst ha'
 refine ⟨bl j,o,c',by have h3:=h1;rw [Nat.zero_add,e'] at h3;exact h3,(hn j hj).1,hw.1,fun f hf=>?_,fun f hf x=>?_⟩
 ·
  have:=hw.2 f (by simpa [iv] using hf)
  exact ⟨by simpa [iv] using this.1,this.2⟩
 ·
  have hlen:f<(iv xs[j]).length:=by simpa [iv] using hf
  refine ⟨_,cap,by rw [List.length_set];exact congrArg (fun q=>Value.slice _ q cap) e2,.inr ⟨G,0,V,bl,rfl,hBg,by simpa [World.setCell] using hg,fun i hi'=>?_,fun i hi'=>?_,fun i q hi' hq=>?_⟩⟩
  ·
   have hix:i<xs.length:=by simpa using hi'
   have hfr:Fr (fun q=>q=bl j) w (w.setCell ⟨bl j,o+f,none⟩ (.int .i64 x)):=fr_grown (Li.grown_set _ _ _ _) rfl
   refine ⟨?_,?_⟩
   ·
    rw [World.cell?_of_block (w:=w) (a:=⟨G,0+i,none⟩) (hfr.block G hg (fun e=>(hn j hj).2 e.symm))]
    exact (hc i hix).1
   ·
    by_cases hij:j=i
    ·
     subst hij
     rw [List.getElem_set_self]
     refine ⟨_,c',by rw [e',List.length_set],.inr ⟨bl j,o,rfl,rfl,?_⟩⟩
     have:=hw.set f hlen (.int .i64 x)
     rwa [iv_set] at this
    ·
     rw [List.getElem_set_ne hij]
     exact (hc i hix).2.fr hfr (fun q e1 e2=>by subst e1;exact hi i j hix hj (fun e=>hij e.symm) e2)
  ·
   exact hn i (by simpa using hi')
  ·
   exact hi i q (by simpa using hi') (by simpa using hq)
noncomputable def fnum (n c:Int) (rs:List Row) (s p:Int) (i g:Nat):Int:=((fcols n c rs s p)[g]?.bind (fun l=>l[i]?)).getD 0
noncomputable def mat (n c:Int) (rs:List Row) (k:Cf.C):List (List Int):=if tok n c rs=true∧Cf.cok k=true then mk rs.length (fnum n c rs k.seed k.prior) else []
theorem mat_no {n c:Int} {rs:List Row} {k:Cf.C} (h:¬ (tok n c rs=true∧Cf.cok k=true)):mat n c rs k=[]:=by unfold mat;rw [if_neg h]
theorem mat_yes {n c:Int} {rs:List Row} {k:Cf.C} (h:tok n c rs=true) (h':Cf.cok k=true):mat n c rs k=mk rs.length (fnum n c rs k.seed k.prior):=by unfold mat;rw [if_pos ⟨h,h'⟩]
theorem cok_prior {k:Cf.C} (hk:Cf.cok k=true) : -1000000≤k.prior∧k.prior≤1000000:=by
 unfold Cf.cok at hk
 simp only [Bool.and_eq_true] at hk
 exact Cf.dec_btw hk.2.2.2.2.2.1
theorem fcols_length {n c:Int} {rs:List Row} (s p:Int) (h:tok n c rs=true):(fcols n c rs s p).length=n.toNat+(wcols c rs).length:=by
 unfold fcols;rw [List.length_append,ncols_length,ccols_length _ _ _ _ _ (Nat.le_refl _)]
theorem fnum_out {n c:Int} {rs:List Row} {s p:Int} (i g:Nat) (hg:¬ g<(fcols n c rs s p).length):fnum n c rs s p i g=0:=by
 unfold fnum
 rw [List.getElem?_eq_none (by omega)]
 simp
end Go.Proofs.YtaojoamldoofpaaGreatDoor.Mx
