/-
  Contracts that the proof leans on, put together in the order in which they build.
-/
import Derived.Test.YtaojoamldoofpaaGreatDoorPart16
import Derived.Test.YtaojoamldoofpaaGreatDoorPart19
import Derived.Test.YtaojoamldoofpaaGreatDoorPart23
import Derived.Test.YtaojoamldoofpaaGreatDoorPart26
import Derived.Test.YtaojoamldoofpaaGreatDoorPart18
import Derived.Test.YtaojoamldoofpaaGreatDoorPart22
import Derived.Test.YtaojoamldoofpaaGreatDoorPart2
import Derived.Test.YtaojoamldoofpaaGreatDoorPart4
import Derived.Deep.Cut
import Derived.Deep.CutRange
import Derived.Deep.QuietTactic
import Derived.BigQuiet
import Derived.Laws.StructEq
set_option linter.unusedVariables false
namespace Go.Proofs.YtaojoamldoofpaaGreatDoor.Dm
set_option maxRecDepth 100000
open Go.RowKit
open Md (M OwM)
open Sv (Wr Fr fr_grown fr_below new1)
theorem mtext_le (m:M):(Mt.mtext m).length≤12400:=by
 by_cases h:Rm.Good m
 ·
  rw [Rm.mtext_good h];exact Rm.whole_le h
 ·
  rw [Rm.mtext_bad h];simp
theorem xor_u8 (c d:UInt8):bits .xor .u8 (c.toNat:Int) (d.toNat:Int)=((c ^^^ d).toNat:Int):=by
 have h:=(c ^^^ d).toNat_lt
 show IntKind.u8.wrap ((BitVec.ofInt 8 (c.toNat:Int) ^^^ BitVec.ofInt 8 (d.toNat:Int)).toNat:Int)=_
 rw [BitVec.toNat_xor,BitVec.ofInt_natCast,BitVec.toNat_ofNat,BitVec.ofInt_natCast,BitVec.toNat_ofNat,Nat.mod_eq_of_lt (by have:=c.toNat_lt;omega),Nat.mod_eq_of_lt (by have:=d.toNat_lt;omega),← UInt8.toNat_xor,IntKind.wrap_u8]
 omega
theorem shl8 (j:Int) (h0:0≤j) (h1:j<8):∃ d:UInt8,IntKind.u8.wrap (2 ^ j.toNat)=(d.toNat:Int):=by
 have hj:j=0 ∨ j=1 ∨ j=2 ∨ j=3 ∨ j=4 ∨ j=5 ∨ j=6 ∨ j=7:=by omega
 rcases hj with rfl | rfl | rfl | rfl | rfl | rfl | rfl | rfl
 ·
  exact ⟨1,by decide⟩
 ·
  exact ⟨2,by decide⟩
 ·
  exact ⟨4,by decide⟩
 ·
  exact ⟨8,by decide⟩
 ·
  exact ⟨16,by decide⟩
 ·
  exact ⟨32,by decide⟩
 ·
  exact ⟨64,by decide⟩
 ·
  exact ⟨128,by decide⟩
theorem elem4 {w:World} {g k:Nat} (h:Wr w g 0 [.string ⟨#[48]⟩,.string ⟨#[32]⟩,.string ⟨#[10]⟩,.string ⟨#[58]⟩]) (hk:k<4):∃ s:ByteArray,w.cell? ⟨g,k,none⟩=some (.string s)∧s.size≤10:=by
 have c0:=(h.2 0 (by simp)).1
 have c1:=(h.2 1 (by simp)).1
 have c2:=(h.2 2 (by simp)).1
 have c3:=(h.2 3 (by simp)).1
 match k,hk with
 | 0,_=>exact ⟨_,c0,by decide⟩
 | 1,_=>exact ⟨_,c1,by decide⟩
 | 2,_=>exact ⟨_,c2,by decide⟩
 | 3,_=>exact ⟨_,c3,by decide⟩
set_option maxHeartbeats 20000000 in
theorem drawModelRead_any (w:World) (a:Option Addr) (len cap:Nat) (hB:Cu.Bytes w w.heap.size a len) (hl:(len:Int)≤1048576) :
  Calls Tryz.prog 11 #[.slice a len cap] w fun e w'=>∃ t:ByteArray,e=.returned (.string t)∧t.size≤40000∧Below w.heap.size w w':=by
 go_enter Tryz.func11,Tryz.ntmps11
 go_wp2_with fail
 refine (Cu.open_any _ _ _ _ hB hl).mono ?_
 rintro e w1 ⟨rfl,hg,hc⟩
 have hF1:Fr (fun q=>q=w.heap.size) w w1:=fr_grown hg rfl
 have hB1:Below w.heap.size w w1:=hF1.bel (fun q e=>by omega) (Nat.le_refl _)
 obtain ⟨b,hb⟩:∃ b,w.heap.size=b:=⟨_,rfl⟩
 have HB0:Hid (w.heap.size=b):=hb
 rw [hb] at hc ⊢
 have hb1:=hc.lt
 clear hg hF1 hB hb
 go_wp2_with fail
 refine (model_any w1 b 0 hc (by omega) (by omega)).mono ?_
 rintro e w2 ⟨m,vk,vt,rfl,hz,om,hf2,hc2⟩
 obtain ⟨ak,ck,ax,ct,rfl,rfl,rm⟩:=om.rm
 have hB2:Below w.heap.size w w2:=hB1.trans (hf2.bel (fun q e=>by have:=HB0.out;omega) hB1.size)
 clear om hf2 hB1 hc
 go_wp2_with fail
 refine (Mt.smtext w2 _ _ _ _ m rm (by omega)).mono ?_
 rintro e w3 ⟨rfl,hb3⟩
 have HB3:Hid (Below w.heap.size w w3):=hB2.trans (hb3.mono hB2.size)
 have HC3:Hid (Cu.Cur w3 b (0+1000)):=curF (B:=fun _=>False) hc2 (fr_below hb3) (fun _ e=>e.elim)
 obtain ⟨s,hs⟩:∃ s:ByteArray,(⟨(Mt.mtext m).toArray⟩:ByteArray)=s:=⟨_,rfl⟩
 have hsz:s.size≤12400:=by rw [← hs];show (Mt.mtext m).toArray.size≤_;rw [List.size_toArray];exact mtext_le m
 rw [hs]
 clear hs hB2 hb3 rm hz hc2 hb1
 go_upto_region 3 with fail
 go_cut [19] from 13 (fun s19 wx=>∃ t:Bool,s19=.bool t∧(t=true→0<s.size)∧Below w.heap.size w wx∧Cu.Cur wx b 1010)
 case first =>
  go_wp2_with fail
  refine (Cu.once_any w3 b (0+1000) HC3.out (by omega) 3 (by omega) (by omega)).mono ?_
  rintro e w4 ⟨oc,rfl,hg4,hs4,hc4⟩
  have HB4:Hid (Below w.heap.size w w4):=HB3.out.trans ((fr_grown (B:=fun q=>q=b) hg4 rfl).bel (fun q e=>by have:=HB0.out;omega) HB3.out.size)
  have HC4:Hid (Cu.Cur w4 b 1010):=hc4.mono (by omega)
  clear hg4 hs4 hc4
  cases oc with
  | false =>
   go_wp2_with fail
   go_meet
   case rel=>exact ⟨false,rfl,(fun h=>by cases h),HB4.out,HC4.out⟩
  | true =>
   by_cases h0:0<s.size
   ·
    have h1:(0:Int)<(s.size:Int):=by omega
    have h2:decide ((0:Int)<(s.size:Int))=true:=by simpa using h1
    have HS0:Hid (0<s.size):=h0
    clear h0
    go_wp2_with fail
    go_meet
    case rel=>exact ⟨true,(by first | rfl | (congr 1;rw [decide_eq_true_iff];omega)),fun _=>HS0.out,HB4.out,HC4.out⟩
   ·
    have h1:¬ (0:Int)<(s.size:Int):=by omega
    have h2:decide ((0:Int)<(s.size:Int))=false:=by simpa using h1
    clear h0
    go_wp2_with fail
    go_meet
    case rel=>exact ⟨false,(by first | rfl | (congr 1;rw [decide_eq_false_iff_not];omega)),(fun h=>by cases h),HB4.out,HC4.out⟩
 case rest =>
  obtain ⟨t,rfl,ht,hbw,hcw⟩:=hcut
  have HBW:Hid (Below w.heap.size w wc):=hbw
  have HCW:Hid (Cu.Cur wc b 1010):=hcw
  clear hbw hcw HB3 HC3
  cases t with
  | false =>
   clear ht
   go_wp2_with fail
   go_ret
   exact ⟨s,rfl,by omega,HBW.out⟩
  | true =>
   have h0:=ht rfl
   clear ht
   go_wp2_with fail
   refine (Db.pick_pos wc b 1010 HCW.out (by omega) (s.size:Int) (by omega) (by omega)).mono ?_
   rintro e w5 ⟨k',rfl,k0,k1,hg5,hs5,hc5⟩
   obtain ⟨k,rfl⟩:∃ k:Nat,k'=(k:Int):=⟨k'.toNat,by omega⟩
   have HB5:Hid (Below w.heap.size w w5):=HBW.out.trans ((fr_grown (B:=fun q=>q=b) hg5 rfl).bel (fun q e=>by have:=HB0.out;omega) HBW.out.size)
   have HC5:Hid (Cu.Cur w5 b 1020):=hc5.mono (by omega)
   have hk:k<s.size:=by omega
   clear hg5 hs5 hc5 k0 k1
   go_wp2_with fail
   refine (Cu.pick_any w5 b 1020 HC5.out (by omega) 3 (by omega)).mono ?_
   rintro e w6 ⟨y,rfl,y0,y1,hg6,hs6,hc6⟩
   have HB6:Hid (Below w.heap.size w w6):=HB5.out.trans ((fr_grown (B:=fun q=>q=b) hg6 rfl).bel (fun q e=>by have:=HB0.out;omega) HB5.out.size)
   have HC6:Hid (Cu.Cur w6 b 1030):=hc6.mono (by omega)
   have hy:y=0 ∨ y=1 ∨ y=2:=by have:=y1 (by omega);omega
   clear hg6 hs6 hc6 y0 y1
   rcases hy with rfl | rfl | rfl
   ·
    have hk1:IntKind.i64.wrap ((k:Int)+1)=((k+1:Nat):Int):=by rw [IntKind.wrap_i64];omega
    have hk2:k+1≤s.size:=by omega
    have hk3:k≤s.size:=by omega
    go_wp2_with fail
    go_quiet (fail)
    have HQ:Hid (Below w.heap.size w (w6.drewN nq)):=⟨HB6.out.os,HB6.out.tape,HB6.out.output,HB6.out.size,HB6.out.block⟩
    have HZS:Hid ((s.extract 0 k ++ s.extract (k+1) s.size).size≤40000):=by show _≤_;simp only [ByteArray.size_append,ByteArray.size_extract];omega
    obtain ⟨t,ht⟩:∃ t,s.extract 0 k ++ s.extract (k+1) s.size=t:=⟨_,rfl⟩
    rw [ht] at HZS ⊢
    clear ht
    go_wp2_with fail
    go_ret
    exact ⟨t,rfl,HZS.out,HQ.out⟩
   ·
    obtain ⟨hox,hbx⟩:=Ob.ox_conv w6 s (by unfold maxLen;omega)
    have hcv:=Lib.run_convert_string_bytes (P:=Tryz.prog) w6 9 22 5 s Tryz.underlying9 Tryz.underlying22 Tryz.underlying5
    obtain ⟨G,hGG⟩:∃ G,w6.heap.size=G:=⟨_,rfl⟩
    have hbG:b<G:=by have:=HC6.out.lt;omega
    have hwG:w.heap.size≤G:=by have:=HB6.out.size;omega
    have HC7:Hid (Cu.Cur (Lib.bytesWorld w6 5 s) b 1030):=curF (B:=fun _=>False) HC6.out (fr_below hbx) (fun _ e=>e.elim)
    have HB7:Hid (Below w.heap.size w (Lib.bytesWorld w6 5 s)):=HB6.out.trans (hbx.mono HB6.out.size)
    rw [hGG] at hox hcv
    generalize Lib.bytesWorld w6 5 s=w7 at hcv hox HC7 HB7
    generalize grownCap w6 s.size 0 5=C3 at hcv hox
    have HOX:Hid (Ob.Ox w7 G C3 s.data.toList):=hox
    have hsl:s.data.toList.length=s.size:=by simp
    have hkl:k<s.data.toList.length:=by omega
    have hck:=HOX.out.cell k hkl
    have hcf:=HOX.out.free k (by have:=HOX.out.le;omega)
    obtain ⟨c,hc⟩:∃ c,s.data.toList[k]=c:=⟨_,rfl⟩
    rw [hc] at hck
    obtain ⟨n,hn⟩:∃ n,s.size=n:=⟨_,rfl⟩
    have HN:Hid (s.data.toList.length=n):=by show _=_;omega
    rw [hn] at hcv hk h0
    have hki:(k:Int)<n:=by omega
    have HNS:Hid (s.size=n):=hn
    have hn40:n≤12400:=by omega
    clear hox hbx hGG hc hsl hkl hsz
    go_wp2_with fail
    have hS:w7.drew.cell? ⟨G,k,none⟩=some (.int .u8 (c.toNat:Int)):=hck
    have hcf0:w7.drew.frozen? ⟨G,k,none⟩=false:=hcf
    have HC70:Hid (Cu.Cur w7.drew b 1030):=HC7.out.drew
    have HB70:Hid (Below w.heap.size w w7.drew):=HB7.out.drew
    have HOX0:Hid (Ob.Ox w7.drew G C3 s.data.toList):=⟨HOX.out.lt,HOX.out.le,HOX.out.max,HOX.out.cell,HOX.out.some,HOX.out.free⟩
    clear hck hcf HC7 HB7 HOX
    refine Hd.start (fun X=>X.cell? ⟨G,k,none⟩=some (.int .u8 (c.toNat:Int))) 11 (by kernel_rfl) ?_
    generalize w7.drew=w0 at hS hcf0 HC70 HB70 HOX0 ⊢
    refine Hd.After.pureD (i:=0) (some 40) (.slice (some ⟨G,0,none⟩) n C3) rfl rfl (by kernel_rfl) (by decide) (by kernel_rfl) (by kernel_rfl) (fun _ _ _ h=>h) (hS) (Or.inl ⟨by rfl,?_⟩) ?_
    ·
     intro X;go_simp;try with_reducible rfl
    (first | simp only [Act.put,List.setIfInBounds_toArray,List.set_cons_zero,List.set_cons_succ] | skip)
    refine Hd.After.pureD (i:=1) (some 41) (.int .i64 (k:Int)) rfl rfl (by kernel_rfl) (by decide) (by kernel_rfl) (by kernel_rfl) (fun _ _ _ h=>h) (hS) (Or.inl ⟨by rfl,?_⟩) ?_
    ·
     intro X;go_simp;try with_reducible rfl
    (first | simp only [Act.put,List.setIfInBounds_toArray,List.set_cons_zero,List.set_cons_succ] | skip)
    refine Hd.After.pureD (i:=2) (some 42) (.slice (some ⟨G,0,none⟩) n C3) rfl rfl (by kernel_rfl) (by decide) (by kernel_rfl) (by kernel_rfl) (fun _ _ _ h=>h) (hS) (Or.inl ⟨by rfl,?_⟩) ?_
    ·
     intro X;go_simp;try with_reducible rfl
    (first | simp only [Act.put,List.setIfInBounds_toArray,List.set_cons_zero,List.set_cons_succ] | skip)
    refine Hd.After.pureD (i:=3) (some 43) (.int .i64 (k:Int)) rfl rfl (by kernel_rfl) (by decide) (by kernel_rfl) (by kernel_rfl) (fun _ _ _ h=>h) (hS) (Or.inl ⟨by rfl,?_⟩) ?_
    ·
     intro X;go_simp;try with_reducible rfl
    (first | simp only [Act.put,List.setIfInBounds_toArray,List.set_cons_zero,List.set_cons_succ] | skip)
    refine Hd.After.pureD (i:=4) (some 44) (.pointer (some ⟨G,k,none⟩)) rfl rfl (by kernel_rfl) (by decide) (by kernel_rfl) (by kernel_rfl) (fun _ _ _ h=>h) (hS) (Or.inl ⟨by rfl,?_⟩) ?_
    ·
     intro X;go_simp;try with_reducible rfl
    (first | simp only [Act.put,List.setIfInBounds_toArray,List.set_cons_zero,List.set_cons_succ] | skip)
    refine Hd.After.takeD (i:=5) (some 45) (.int .u8 (c.toNat:Int)) rfl rfl (by kernel_rfl) (by kernel_rfl) (by kernel_rfl) (by kernel_rfl) (by kernel_rfl) (fun _ _ _ h=>h) (hS) (Or.inl ⟨by rfl,?_⟩) ?_
    ·
     rintro X s0_;go_simp;try with_reducible rfl
    (first | simp only [Act.put,List.setIfInBounds_toArray,List.set_cons_zero,List.set_cons_succ] | skip)
    refine Hd.After.pureD (i:=6) (some 46) (.pointer (some ⟨b,0,none⟩)) rfl rfl (by kernel_rfl) (by decide) (by kernel_rfl) (by kernel_rfl) (fun _ _ _ h=>h) (hS) (Or.inl ⟨by rfl,?_⟩) ?_
    ·
     intro X;go_simp;try with_reducible rfl
    (first | simp only [Act.put,List.setIfInBounds_toArray,List.set_cons_zero,List.set_cons_succ] | skip)
    refine Hd.After.one (i:=7) (by kernel_rfl) rfl rfl ?_
    intro K hK
    go_simp
    go_wp2_with (go_at_call 20;refine (Cu.pick_any w0 b 1030 HC70.out (by omega) 8 (by omega)).mono ?_;rintro e w8 ⟨j,rfl,j0,j1,hg8,hs8,hc8⟩)
    have hf8:Fr (fun q=>q=b) w0 w8:=fr_grown hg8 rfl
    have HB8:Hid (Below w.heap.size w w8):=HB70.out.trans (hf8.bel (fun q e=>by have:=HB0.out;omega) HB70.out.size)
    have HOX8:Hid (Ob.Ox w8 G C3 s.data.toList):=HOX0.out.keptAt hf8.size (hf8.block G HOX0.out.lt (by omega))
    have hS8:=(World.cell?_of_block (a:=⟨G,k,none⟩) (hf8.block G HOX0.out.lt (by omega))).trans hS
    have hcf8:=(World.frozen?_of_block (a:=⟨G,k,none⟩) (hf8.block G HOX0.out.lt (by omega))).trans hcf0
    clear hg8 hs8 hc8 hf8
    refine hK _ _ (fun _=>hS8) ?_
    clear hK K
    (first | simp only [Act.put,List.setIfInBounds_toArray,List.set_cons_zero,List.set_cons_succ] | skip)
    refine Hd.After.pureD (i:=8) (some 48) (.int .u8 (IntKind.u8.wrap (2 ^ j.toNat))) rfl rfl (by kernel_rfl) (by decide) (by kernel_rfl) (by kernel_rfl) (fun _ _ _ h=>h) (hS8) (Or.inl ⟨by rfl,?_⟩) ?_
    ·
     intro X;go_simp;try with_reducible rfl
    (first | simp only [Act.put,List.setIfInBounds_toArray,List.set_cons_zero,List.set_cons_succ] | skip)
    refine Hd.After.pureD (i:=9) (some 49) (.int .u8 (bits .xor .u8 (c.toNat:Int) (IntKind.u8.wrap (2 ^ j.toNat)))) rfl rfl (by kernel_rfl) (by decide) (by kernel_rfl) (by kernel_rfl) (fun _ _ _ h=>h) (hS8) (Or.inl ⟨by rfl,?_⟩) ?_
    ·
     intro X;go_simp;try with_reducible rfl
    (first | simp only [Act.put,List.setIfInBounds_toArray,List.set_cons_zero,List.set_cons_succ] | skip)
    refine Hd.After.pureD (i:=10) (some 50) (.pointer (some ⟨G,k,none⟩)) rfl rfl (by kernel_rfl) (by decide) (by kernel_rfl) (by kernel_rfl) (fun _ _ _ h=>h) (hS8) (Or.inl ⟨by rfl,?_⟩) ?_
    ·
     intro X;go_simp;try with_reducible rfl
    (first | simp only [Act.put,List.setIfInBounds_toArray,List.set_cons_zero,List.set_cons_succ] | skip)
    refine Hd.After.one (i:=11) (by kernel_rfl) rfl rfl ?_
    intro K hK
    go_simp
    refine hK _ _ (fun h=>by cases h) ?_
    clear hK K
    refine Hd.After.done (by kernel_rfl) ?_ _
    obtain ⟨d,hd⟩:=shl8 j j0 (j1 (by omega))
    rw [hd,xor_u8]
    generalize c ^^^ d=z
    clear hd j0 j1 hS hS8 hcf0
    obtain ⟨Y,hY⟩:∃ Y,s.data.toList.set k z=Y:=⟨_,rfl⟩
    have HYL:Hid (Y.length=n):=by show _=_;rw [← hY,List.length_set,HN.out]
    have HB9:Hid (Below w.heap.size w (w8.setCell ⟨G,k,none⟩ (.int .u8 (z.toNat:Int)))):=HB8.out.setCell (p:=⟨G,k,none⟩) hwG _
    have hcells:∀ q (hq:q<Y.length),(w8.setCell ⟨G,k,none⟩ (.int .u8 (z.toNat:Int))).cell? ⟨G,q,none⟩=some (.int .u8 (Y[q].toNat:Int)):=fun q hq=>by
     have hq2:q<s.data.toList.length:=by rw [HYL.out] at hq;rw [HN.out];exact hq
     have hgq:=HOX8.out.cell q hq2
     have e:Y[q]=if k=q then z else s.data.toList[q]:=by
      have h1:=List.getElem_set (l:=s.data.toList) (i:=k) (j:=q) (a:=z) (by simpa using hq2)
      rw [← h1]
      congr 1
      exact hY.symm
     rw [e]
     by_cases hqk:k=q
     ·
      subst hqk
      rw [if_pos rfl]
      exact World.cell?_setCell_same _ _ _ hgq
     ·
      rw [if_neg hqk,World.cell?_setCell_other _ _ _ _ (by simp <;> omega)]
      exact hgq
    have hcv2:=run_convert_bytes_back (P:=Tryz.prog) (w8.setCell ⟨G,k,none⟩ (.int .u8 (z.toNat:Int))) 22 9 5 ⟨G,0,none⟩ C3 Y Tryz.underlying22 Tryz.underlying5 Tryz.underlying9 (fun q hq=>by rw [Go.WideShapes.add_plain,Nat.zero_add];exact hcells q hq)
    rw [HYL.out] at hcv2
    obtain ⟨w9,hw9⟩:∃ X,w8.setCell ⟨G,k,none⟩ (.int .u8 (z.toNat:Int))=X:=⟨_,rfl⟩
    rw [hw9] at hcv2 HB9 ⊢
    clear hw9 hcells hY HOX8 HOX0 HC70 HB70 hcf8
    go_wp2_with fail
    go_ret
    exact ⟨⟨Y.toArray⟩,rfl,by show Y.toArray.size≤_;rw [List.size_toArray,HYL.out];omega,HB9.out⟩
   ·
    go_wp2_with fail
    have hk3:k≤s.size:=by omega
    have hk4:(k:Int)≤(s.size:Int):=by omega
    have hS:True:=trivial
    have HB60:Hid (Below w.heap.size w w6.drew):=HB6.out.drew
    have HC60:Hid (Cu.Cur w6.drew b 1030):=HC6.out.drew
    refine Hd.start (fun X=>True) 13 (by kernel_rfl) ?_
    generalize w6.drew=w0 at hS HB60 HC60 ⊢
    refine Hd.After.pureD (i:=0) (some 53) (.string s) rfl rfl (by kernel_rfl) (by decide) (by kernel_rfl) (by kernel_rfl) (fun _ _ _ h=>h) (trivial) (Or.inl ⟨by rfl,?_⟩) ?_
    ·
     intro X;go_simp;try with_reducible rfl
    (first | simp only [Act.put,List.setIfInBounds_toArray,List.set_cons_zero,List.set_cons_succ] | skip)
    refine Hd.After.pureD (i:=1) (some 54) (.int .i64 (k:Int)) rfl rfl (by kernel_rfl) (by decide) (by kernel_rfl) (by kernel_rfl) (fun _ _ _ h=>h) (trivial) (Or.inl ⟨by rfl,?_⟩) ?_
    ·
     intro X;go_simp;try with_reducible rfl
    (first | simp only [Act.put,List.setIfInBounds_toArray,List.set_cons_zero,List.set_cons_succ] | skip)
    refine Hd.After.pureD (i:=2) (some 55) (.string (s.extract 0 k)) rfl rfl (by kernel_rfl) (by decide) (by kernel_rfl) (by kernel_rfl) (fun _ _ _ h=>h) (trivial) (Or.inl ⟨by rfl,?_⟩) ?_
    ·
     intro X;go_simp;try with_reducible rfl
    (first | simp only [Act.put,List.setIfInBounds_toArray,List.set_cons_zero,List.set_cons_succ] | skip)
    refine Hd.After.pureD (i:=4) (some 57) (.pointer (some ⟨b,0,none⟩)) rfl rfl (by kernel_rfl) (by decide) (by kernel_rfl) (by kernel_rfl) (fun _ _ _ h=>h) (trivial) (Or.inl ⟨by rfl,?_⟩) ?_
    ·
     intro X;go_simp;try with_reducible rfl
    (first | simp only [Act.put,List.setIfInBounds_toArray,List.set_cons_zero,List.set_cons_succ] | skip)
    refine Hd.After.pureD (i:=9) (some 62) (.string s) rfl rfl (by kernel_rfl) (by decide) (by kernel_rfl) (by kernel_rfl) (fun _ _ _ h=>h) (trivial) (Or.inl ⟨by rfl,?_⟩) ?_
    ·
     intro X;go_simp;try with_reducible rfl
    (first | simp only [Act.put,List.setIfInBounds_toArray,List.set_cons_zero,List.set_cons_succ] | skip)
    refine Hd.After.pureD (i:=10) (some 63) (.int .i64 (k:Int)) rfl rfl (by kernel_rfl) (by decide) (by kernel_rfl) (by kernel_rfl) (fun _ _ _ h=>h) (trivial) (Or.inl ⟨by rfl,?_⟩) ?_
    ·
     intro X;go_simp;try with_reducible rfl
    (first | simp only [Act.put,List.setIfInBounds_toArray,List.set_cons_zero,List.set_cons_succ] | skip)
    refine Hd.After.pureD (i:=11) (some 64) (.string (s.extract k s.size)) rfl rfl (by kernel_rfl) (by decide) (by kernel_rfl) (by kernel_rfl) (fun _ _ _ h=>h) (trivial) (Or.inl ⟨by rfl,?_⟩) ?_
    ·
     intro X;go_simp;try with_reducible rfl
    (first | simp only [Act.put,List.setIfInBounds_toArray,List.set_cons_zero,List.set_cons_succ] | skip)
    refine Hd.After.two (i:=3) (j:=5) (by kernel_rfl) rfl rfl rfl rfl ?_ ?_
    ·
     intro K hK
     go_simp
     obtain ⟨wd,hW_,hsz_,hB_,bt_⟩:=new1 w0 [.string ⟨#[48]⟩,.string ⟨#[32]⟩,.string ⟨#[10]⟩,.string ⟨#[58]⟩] 9
     have hW_2:w0.alloc (.cells #[.string ⟨#[48]⟩,.string ⟨#[32]⟩,.string ⟨#[10]⟩,.string ⟨#[58]⟩] 9)=wd:=hW_
     rw [hW_2]
     obtain ⟨gt,hgt⟩:∃ g,w0.heap.size=g:=⟨_,rfl⟩
     have hgb:b<gt:=by have:=HC60.out.lt;omega
     rw [hgt] at bt_ ⊢
     have HTd:Hid (Wr wd gt 0 [.string ⟨#[48]⟩,.string ⟨#[32]⟩,.string ⟨#[10]⟩,.string ⟨#[58]⟩]):=bt_
     have HBd:Hid (Below w.heap.size w wd):=HB60.out.trans (hB_.mono HB60.out.size)
     have HCd:Hid (Cu.Cur wd b 1030):=curF (B:=fun _=>False) HC60.out (fr_below hB_) (fun _ e=>e.elim)
     clear hW_ hW_2 hsz_ hB_ bt_ hgt
     refine hK _ _ (fun _=>trivial) ?_
     clear hK K
     (first | simp only [Act.put,List.setIfInBounds_toArray,List.set_cons_zero,List.set_cons_succ] | skip)
     refine Hd.After.one (i:=5) (by kernel_rfl) rfl rfl ?_
     intro K hK
     go_simp
     go_wp2_with (go_at_call 20;refine (Cu.pick_any wd b 1030 HCd.out (by omega) 4 (by omega)).mono ?_;rintro e wdf ⟨y,rfl,y0,y1,hg_,hz_,hc_⟩)
     have y2:y<4:=y1 (by omega)
     have y3:y.toNat<4:=by omega
     have HBdf:Hid (Below w.heap.size w wdf):=HBd.out.trans ((fr_grown (B:=fun q=>q=b) hg_ rfl).bel (fun q e=>by have:=HB0.out;omega) HBd.out.size)
     have HCdf:Hid (Cu.Cur wdf b 1031):=hc_.mono (by omega)
     have HTdf:Hid (Wr wdf gt 0 [.string ⟨#[48]⟩,.string ⟨#[32]⟩,.string ⟨#[10]⟩,.string ⟨#[58]⟩]):=wrB HTd.out (fr_grown (B:=fun k=>k=b) hg_ rfl) (by omega)
     clear hg_ hz_ hc_
     refine hK _ _ (fun _=>trivial) ?_
     clear hK K
     (first | simp only [Act.put,List.setIfInBounds_toArray,List.set_cons_zero,List.set_cons_succ] | skip)
     refine Hd.After.pureD (i:=6) (some 59) (.pointer (some ⟨gt,y.toNat,none⟩)) rfl rfl (by kernel_rfl) (by decide) (by kernel_rfl) (by kernel_rfl) (fun _ _ _ h=>h) (trivial) (Or.inl ⟨by rfl,?_⟩) ?_
     ·
      intro X;go_simp;try with_reducible rfl
     (first | simp only [Act.put,List.setIfInBounds_toArray,List.set_cons_zero,List.set_cons_succ] | skip)
     refine Hd.After.one (i:=7) (by kernel_rfl) rfl rfl ?_
     intro K hK
     obtain ⟨r9,hr9,hz9⟩:∃ s:ByteArray,wdf.cell? ⟨gt,y.toNat,none⟩=some (.string s)∧s.size≤10:=elem4 HTdf.out y3
     go_simp
     refine hK _ _ (fun _=>trivial) ?_
     clear hK K
     (first | simp only [Act.put,List.setIfInBounds_toArray,List.set_cons_zero,List.set_cons_succ] | skip)
     have hq1:¬ 9223372036854775807<(s.extract 0 k).size+r9.size:=by rw [ByteArray.size_extract];omega
     refine Hd.After.pureD (i:=8) (some 61) (.string (s.extract 0 k ++ r9)) rfl rfl (by kernel_rfl) (by decide) (by kernel_rfl) (by kernel_rfl) (fun _ _ _ h=>h) (trivial) (Or.inl ⟨by rfl,?_⟩) ?_
     ·
      intro X;go_simp;first | with_reducible rfl | omega
     (first | simp only [Act.put,List.setIfInBounds_toArray,List.set_cons_zero,List.set_cons_succ] | skip)
     have hq2:¬ 9223372036854775807<(s.extract 0 k ++ r9).size+(s.extract k s.size).size:=by rw [ByteArray.size_append,ByteArray.size_extract,ByteArray.size_extract];omega
     refine Hd.After.pureD (i:=12) (some 65) (.string (s.extract 0 k ++ r9 ++ s.extract k s.size)) rfl rfl (by kernel_rfl) (by decide) (by kernel_rfl) (by kernel_rfl) (fun _ _ _ h=>h) (trivial) (Or.inl ⟨by rfl,?_⟩) ?_
     ·
      intro X;go_simp;first | with_reducible rfl | omega
     (first | simp only [Act.put,List.setIfInBounds_toArray,List.set_cons_zero,List.set_cons_succ] | skip)
     refine Hd.After.one (i:=13) (by kernel_rfl) rfl rfl ?_
     intro K hK
     go_simp
     refine hK _ _ (fun h=>by cases h) ?_
     clear hK K
     refine Hd.After.done (by kernel_rfl) ?_ _
     have HZT:Hid ((s.extract 0 k ++ r9 ++ s.extract k s.size).size≤12420):=by show _≤_;simp only [ByteArray.size_append,ByteArray.size_extract];omega
     have HBE:Hid (Below w.heap.size w wdf):=HBdf.out
     clear hq1 hq2
     generalize s.extract 0 k ++ r9 ++ s.extract k s.size=T at HZT ⊢
     have hT1:T.size≤12420:=HZT.out
     go_wp2_with fail
     refine (Cr.scrc T _ (by have:=HZT.out;omega)).mono ?_
     rintro e w' ⟨rfl,hw'⟩
     subst w'
     have hcl:=Cr.crc_lt T.data.toList
     obtain ⟨cq,hcq⟩:∃ c,Cr.crc T.data.toList=c:=⟨_,rfl⟩
     rw [hcq] at hcl ⊢
     clear hcq
     go_wp2_with fail
     refine (Nu.snum (cq:Int) _ (by omega) (by omega)).mono ?_
     rintro e wn ⟨rfl,hbn⟩
     have hil:=Nu.itoa_len (cq:Int) (by omega) (by omega)
     have HBN:Hid (Below w.heap.size w wn):=HBE.out.trans (hbn.mono HBE.out.size)
     have HIZ:Hid ((⟨(Lib.itoa (cq:Int)).toArray⟩:ByteArray).size≤21):=by show (Lib.itoa (cq:Int)).toArray.size≤_;rw [List.size_toArray];exact hil
     generalize (⟨(Lib.itoa (cq:Int)).toArray⟩:ByteArray)=N at HIZ ⊢
     clear hbn hil hcl
     have hN1:N.size≤21:=HIZ.out
     go_wp2_with fail
     go_ret
     refine ⟨_,rfl,?_,HBN.out⟩
     simp only [ByteArray.size_append]
     have e1:(⟨#[115,117,109,32]⟩:ByteArray).size=4:=rfl
     have e2:(⟨#[10]⟩:ByteArray).size=1:=rfl
     omega
    ·
     intro K hK
     go_simp
     go_wp2_with (go_at_call 20;refine (Cu.pick_any w0 b 1030 HC60.out (by omega) 4 (by omega)).mono ?_;rintro e wf ⟨y,rfl,y0,y1,hg_,hz_,hc_⟩)
     have y2:y<4:=y1 (by omega)
     have y3:y.toNat<4:=by omega
     have HBf:Hid (Below w.heap.size w wf):=HB60.out.trans ((fr_grown (B:=fun q=>q=b) hg_ rfl).bel (fun q e=>by have:=HB0.out;omega) HB60.out.size)
     have HCf:Hid (Cu.Cur wf b 1031):=hc_.mono (by omega)
     clear hg_ hz_ hc_
     refine hK _ _ (fun _=>trivial) ?_
     clear hK K
     (first | simp only [Act.put,List.setIfInBounds_toArray,List.set_cons_zero,List.set_cons_succ] | skip)
     refine Hd.After.one (i:=3) (by kernel_rfl) rfl rfl ?_
     intro K hK
     go_simp
     obtain ⟨wfd,hW_,hsz_,hB_,bt_⟩:=new1 wf [.string ⟨#[48]⟩,.string ⟨#[32]⟩,.string ⟨#[10]⟩,.string ⟨#[58]⟩] 9
     have hW_2:wf.alloc (.cells #[.string ⟨#[48]⟩,.string ⟨#[32]⟩,.string ⟨#[10]⟩,.string ⟨#[58]⟩] 9)=wfd:=hW_
     rw [hW_2]
     obtain ⟨gt,hgt⟩:∃ g,wf.heap.size=g:=⟨_,rfl⟩
     have hgb:b<gt:=by have:=HCf.out.lt;omega
     rw [hgt] at bt_ ⊢
     have HTfd:Hid (Wr wfd gt 0 [.string ⟨#[48]⟩,.string ⟨#[32]⟩,.string ⟨#[10]⟩,.string ⟨#[58]⟩]):=bt_
     have HBfd:Hid (Below w.heap.size w wfd):=HBf.out.trans (hB_.mono HBf.out.size)
     have HCfd:Hid (Cu.Cur wfd b 1031):=curF (B:=fun _=>False) HCf.out (fr_below hB_) (fun _ e=>e.elim)
     clear hW_ hW_2 hsz_ hB_ bt_ hgt
     refine hK _ _ (fun _=>trivial) ?_
     clear hK K
     (first | simp only [Act.put,List.setIfInBounds_toArray,List.set_cons_zero,List.set_cons_succ] | skip)
     refine Hd.After.pureD (i:=6) (some 59) (.pointer (some ⟨gt,y.toNat,none⟩)) rfl rfl (by kernel_rfl) (by decide) (by kernel_rfl) (by kernel_rfl) (fun _ _ _ h=>h) (trivial) (Or.inl ⟨by rfl,?_⟩) ?_
     ·
      intro X;go_simp;try with_reducible rfl
     (first | simp only [Act.put,List.setIfInBounds_toArray,List.set_cons_zero,List.set_cons_succ] | skip)
     refine Hd.After.one (i:=7) (by kernel_rfl) rfl rfl ?_
     intro K hK
     obtain ⟨r9,hr9,hz9⟩:∃ s:ByteArray,wfd.cell? ⟨gt,y.toNat,none⟩=some (.string s)∧s.size≤10:=elem4 HTfd.out y3
     go_simp
     refine hK _ _ (fun _=>trivial) ?_
     clear hK K
     (first | simp only [Act.put,List.setIfInBounds_toArray,List.set_cons_zero,List.set_cons_succ] | skip)
     have hq1:¬ 9223372036854775807<(s.extract 0 k).size+r9.size:=by rw [ByteArray.size_extract];omega
     refine Hd.After.pureD (i:=8) (some 61) (.string (s.extract 0 k ++ r9)) rfl rfl (by kernel_rfl) (by decide) (by kernel_rfl) (by kernel_rfl) (fun _ _ _ h=>h) (trivial) (Or.inl ⟨by rfl,?_⟩) ?_
     ·
      intro X;go_simp;first | with_reducible rfl | omega
     (first | simp only [Act.put,List.setIfInBounds_toArray,List.set_cons_zero,List.set_cons_succ] | skip)
     have hq2:¬ 9223372036854775807<(s.extract 0 k ++ r9).size+(s.extract k s.size).size:=by rw [ByteArray.size_append,ByteArray.size_extract,ByteArray.size_extract];omega
     refine Hd.After.pureD (i:=12) (some 65) (.string (s.extract 0 k ++ r9 ++ s.extract k s.size)) rfl rfl (by kernel_rfl) (by decide) (by kernel_rfl) (by kernel_rfl) (fun _ _ _ h=>h) (trivial) (Or.inl ⟨by rfl,?_⟩) ?_
     ·
      intro X;go_simp;first | with_reducible rfl | omega
     (first | simp only [Act.put,List.setIfInBounds_toArray,List.set_cons_zero,List.set_cons_succ] | skip)
     refine Hd.After.one (i:=13) (by kernel_rfl) rfl rfl ?_
     intro K hK
     go_simp
     refine hK _ _ (fun h=>by cases h) ?_
     clear hK K
     refine Hd.After.done (by kernel_rfl) ?_ _
     have HZT:Hid ((s.extract 0 k ++ r9 ++ s.extract k s.size).size≤12420):=by show _≤_;simp only [ByteArray.size_append,ByteArray.size_extract];omega
     have HBE:Hid (Below w.heap.size w wfd):=HBfd.out
     clear hq1 hq2
     generalize s.extract 0 k ++ r9 ++ s.extract k s.size=T at HZT ⊢
     have hT1:T.size≤12420:=HZT.out
     go_wp2_with fail
     refine (Cr.scrc T _ (by have:=HZT.out;omega)).mono ?_
     rintro e w' ⟨rfl,hw'⟩
     subst w'
     have hcl:=Cr.crc_lt T.data.toList
     obtain ⟨cq,hcq⟩:∃ c,Cr.crc T.data.toList=c:=⟨_,rfl⟩
     rw [hcq] at hcl ⊢
     clear hcq
     go_wp2_with fail
     refine (Nu.snum (cq:Int) _ (by omega) (by omega)).mono ?_
     rintro e wn ⟨rfl,hbn⟩
     have hil:=Nu.itoa_len (cq:Int) (by omega) (by omega)
     have HBN:Hid (Below w.heap.size w wn):=HBE.out.trans (hbn.mono HBE.out.size)
     have HIZ:Hid ((⟨(Lib.itoa (cq:Int)).toArray⟩:ByteArray).size≤21):=by show (Lib.itoa (cq:Int)).toArray.size≤_;rw [List.size_toArray];exact hil
     generalize (⟨(Lib.itoa (cq:Int)).toArray⟩:ByteArray)=N at HIZ ⊢
     clear hbn hil hcl
     have hN1:N.size≤21:=HIZ.out
     go_wp2_with fail
     go_ret
     refine ⟨_,rfl,?_,HBN.out⟩
     simp only [ByteArray.size_append]
     have e1:(⟨#[115,117,109,32]⟩:ByteArray).size=4:=rfl
     have e2:(⟨#[10]⟩:ByteArray).size=1:=rfl
     omega
end Go.Proofs.YtaojoamldoofpaaGreatDoor.Dm
namespace Go.Proofs.YtaojoamldoofpaaGreatDoor.Dm
set_option maxRecDepth 100000
open Go.RowKit
open Tb Tk
open Md (M OwM wr6 wr3)
open Kt (OwK Kv ksz)
open Sv (Wr Fr fr_grown fr_below)
theorem heap_self {w:World} {g o:Nat} {u:Value} (h:w.cell? ⟨g,o,none⟩=some u) (k:Nat):(w.setCell ⟨g,o,none⟩ u).heap[k]? = w.heap[k]?:=by
 by_cases e:k=g
 ·
  subst e
  simp only [World.setCell,Array.getElem?_modify,if_true]
  unfold World.cell? at h
  cases hb:w.heap[k]? with
  | none=>simp [hb] at h
  | some ob =>
   rw [hb] at h
   cases ob with
   | cells c el fz =>
    simp at h
    simp only [Option.map_some,Option.some.injEq]
    congr 1
    apply Array.ext_getElem?
    intro i
    rw [if_neg (by simp),Array.getElem?_setIfInBounds]
    split
    ·
     rename_i e2;subst e2
     split
     ·
      exact h.symm
     ·
      rename_i e3;rw [Array.getElem?_eq_none (by omega)] at h;cases h
    ·
     rfl
   | _=>cases h
 ·
  exact Below.heap_setCell _ _ _ _ e
theorem fr_self {w:World} {g o:Nat} {u:Value} (h:w.cell? ⟨g,o,none⟩=some u):Fr (fun _=>False) (w.setCell ⟨g,o,none⟩ u) w :=
 ⟨rfl,rfl,rfl,by simp [World.setCell],fun k _ _=>(heap_self h k).symm⟩
theorem ksz_word (ks:List Kv) (s:ByteArray) (hk:0<ks.length) (h1:0<ks[0].ws.length):ksz (ks.set 0 ⟨ks[0].ws.set 0 s,ks[0].vs⟩)≤ksz ks+s.size:=by
 cases ks with
 | nil=>simp at hk
 | cons x ks =>
  simp only [List.getElem_cons_zero] at h1
  simp only [List.set_cons_zero,List.getElem_cons_zero,ksz,List.length_set]
  cases hx:x.ws with
  | nil=>rw [hx] at h1;simp at h1
  | cons y ys=>simp only [List.set_cons_zero,lets,List.length_cons];omega
theorem Mq.word {w wr:World} {b X5:Nat} {K:Int} {Z:Nat} {m:M} {vk vt:Value} (h:Mq w wr b X5 K Z m vk vt) (h0:0<m.ks.length) (h1:0<m.ks[0].ws.length) :
  ∃ g c wb c0 n0 s0,vk=.slice (some ⟨g,0,none⟩) m.ks.length c∧0<n0∧wr.cell? ⟨g,0,none⟩=some (.slice (some ⟨wb,0,none⟩) n0 c0)∧wr.cell? ⟨wb,0,none⟩=some (.string s0)∧wr.frozen? ⟨wb,0,none⟩=false∧g<wr.heap.size∧b<g∧¬ g=X5∧wb<wr.heap.size∧b<wb∧¬ wb=X5∧¬ wb=g ∧
  ∀ wx K' s,Fr (fun q=>q=b) wr wx→Cu.Cur wx b K'→s.size≤10→Mq w (wx.setCell ⟨wb,0,none⟩ (.string s)) b X5 K' (Z+10) ⟨m.n,m.c,m.prior,m.base,m.ks.set 0 ⟨m.ks[0].ws.set 0 s,m.ks[0].vs⟩,m.ts⟩ vk vt:=by
 obtain ⟨P,hk,ht⟩:=h.om
 obtain ⟨a,c,g,a0,c0,e1,e2,q1,q2,q3,q4,q5,q6,-⟩:=Ps.repl0 hk 0 h0
 subst e2
 have q3':=q3
 rcases q3.2 with ⟨e,h9⟩ | ⟨wb,cap,cur,e,_,_,_⟩
 ·
  omega
 injection e with e _ e3
 subst e
 have hw:=q6 wb rfl
 have hwl:=(q3'.ge wb rfl).2
 refine ⟨g,c,wb,c0,_,_,e1,h1,q1,q3'.cell rfl 0 h1,q3'.frozen rfl 0,q4,q5.1.1,q5.1.2,hwl,hw.1.1.1,hw.1.1.2,hw.2,fun wx K' s hf hc hs=>?_⟩
 have hx:=h.frb hf hc
 have hk2:OwK wx (fun y=>(b<y∧¬ y=X5)∧P y) vk m.ks:=hk.fr hf (fun y hy e=>by have:=hy.1.1;omega)
 obtain ⟨a',c',g',a0',c0',e1',e2',q1',-,q3x,-,-,-,hrep⟩:=Ps.repl0 hk2 0 h0
 subst e2'
 rw [e1] at e1'
 injection e1' with e4 _ e5
 injection e4 with e4
 injection e4 with e4 _ _
 subst e4
 have c9:wx.cell? ⟨g,0,none⟩=some (.slice (some ⟨wb,0,none⟩) m.ks[0].ws.length c0):=(World.cell?_of_block (hf.block g q4 (by have:=q5.1.1;omega))).trans q1
 have c8:wx.cell? ⟨g,0,none⟩=some (.slice a0' m.ks[0].ws.length c0'):=q1'
 rw [c9] at c8
 injection c8 with c8
 injection c8 with c8 _ c7
 subst c8
 subst c7
 have hS:Fr (fun q=>q=wb) wx (wx.setCell ⟨wb,0,none⟩ (.string s)):=Gt.fr_set _
 have hset:=q3x.set rfl 0 s
 have hown:Ls.Own (wx.setCell ⟨wb,0,none⟩ (.string s)) 0 (.slice (some ⟨wb,0,none⟩) m.ks[0].ws.length c0) (m.ks[0].ws.set 0 s):=hset
 have hnew:=hrep (wx.setCell ⟨wb,0,none⟩ (.string s)) (.slice (some ⟨wb,0,none⟩) m.ks[0].ws.length c0) (m.ks[0].ws.set 0 s) hown (Li.grown_set _ _ _ _) (.inl rfl)
 have hcell:(wx.setCell ⟨wb,0,none⟩ (.string s)).cell? ⟨g,0,none⟩=some (.slice (some ⟨wb,0,none⟩) m.ks[0].ws.length c0):=(World.cell?_of_block (Below.heap_setCell _ _ _ _ (fun e=>hw.2 e.symm))).trans c9
 have hnew2:OwK (wx.setCell ⟨wb,0,none⟩ (.string s)) (fun y=>(b<y∧¬ y=X5)∧P y) vk (m.ks.set 0 ⟨m.ks[0].ws.set 0 s,m.ks[0].vs⟩):=hnew.fr (fr_self hcell) (fun _ _ e=>e)
 have hw1:=hw.1
 refine ⟨curF hx.cu hS (fun q e=>by omega),hx.bw.trans (hS.bel (fun q e=>by have:=h.lo;omega) hx.bw.size),h.lo,h.b5,wrB hx.w5 hS (fun e=>hw1.1.2 e.symm),⟨P,hnew2,?_⟩,?_⟩
 ·
  exact (ht.fr hf (fun y hy e=>by have:=hy.1.1;omega)).fr hS (fun y hy e=>hy.2 (by rw [e];exact hw1.2))
 ·
  have h2:=h.sz
  have h3:=ksz_word m.ks s h0 h1
  unfold M.sz at h2 ⊢
  simp only [List.length_set]
  omega
theorem Mq.hdr {w wr:World} {b X5:Nat} {K:Int} {Z:Nat} {m:M} {vk vt:Value} (h:Mq w wr b X5 K Z m vk vt) (h0:0<m.ks.length) :
  ∃ g c a0 c0 n0,vk=.slice (some ⟨g,0,none⟩) m.ks.length c∧m.ks[0].ws.length=n0∧wr.cell? ⟨g,0,none⟩=some (.slice a0 n0 c0):=by
 obtain ⟨P,hk,ht⟩:=h.om
 obtain ⟨a,c,g,a0,c0,e1,e2,q1,-⟩:=Ps.repl0 hk 0 h0
 subst e2
 exact ⟨g,c,a0,c0,_,e1,rfl,q1⟩
end Go.Proofs.YtaojoamldoofpaaGreatDoor.Dm
namespace Go.Proofs.YtaojoamldoofpaaGreatDoor.Dm
set_option maxRecDepth 100000
open Go.RowKit
open Tb Tk
open Md (M OwM wr6 wr3)
open Kt (OwK Kv)
open To (OwT)
open Tt (set6)
open Sv (Wr Fr fr_grown fr_below new1 new2 new3 wr_new wr2)
theorem elem3 {w:World} {g k:Nat} (h:Wr w g 0 [.string ⟨#[97,10,98]⟩,.string ⟨#[120,32,121]⟩,.string ⟨#[32]⟩]) (hk:k<3):∃ s:ByteArray,w.cell? ⟨g,k,none⟩=some (.string s)∧s.size≤10:=by
 obtain ⟨_,⟨c0,c1,c2⟩,_⟩:=wr3 h
 match k,hk with
 | 0,_=>exact ⟨_,c0,by decide⟩
 | 1,_=>exact ⟨_,c1,by decide⟩
 | 2,_=>exact ⟨_,c2,by decide⟩
theorem Mq.up {w wr:World} {b X5:Nat} {K:Int} {Z Z':Nat} {m:M} {vk vt:Value} (h:Mq w wr b X5 K Z m vk vt) (hz:Z≤Z'):Mq w wr b X5 K Z' m vk vt:={ h with sz:=Nat.le_trans h.sz hz }
set_option maxHeartbeats 20000000 in
theorem drawModelText_any (w:World) (a:Option Addr) (len cap:Nat) (hB:Cu.Bytes w w.heap.size a len) (hl:(len:Int)≤1048576) :
  Calls Tryz.prog 6 #[.slice a len cap] w fun e w'=>∃ (m:M) (vk vt:Value),e=.returned (.agg #[.int .i64 m.n,.int .i64 m.c,.int .i64 m.prior,.int .i64 m.base,vk,vt])∧m.sz≤4510∧OwM w' (fun q=>w.heap.size≤q∧q<w'.heap.size) vk vt m∧Below w.heap.size w w':=by
 go_enter Tryz.func6,Tryz.ntmps6
 go_wp2_with fail
 obtain ⟨W,hW,hsz,hBW,br⟩:=new1 w z6 29
 have hW2:w.alloc (.cells #[.int .i64 0,.int .i64 0,.int .i64 0,.int .i64 0,.slice none 0 0,.slice none 0 0] 29)=W:=hW
 rw [hW2]
 have hB:=hB.keptB hBW.size (fun k hk=>hBW.block k hk)
 clear hW hW2
 refine (Cu.open_any _ _ _ _ hB hl).mono ?_
 rintro e w1 ⟨rfl,hg,hc⟩
 have hF1:Fr (fun q=>q=W.heap.size) W w1:=fr_grown hg rfl
 have br1:Wr w1 w.heap.size 0 z6:=wrB br hF1 (by omega)
 have hBw:Below w.heap.size w w1:=hBW.trans (hF1.bel (fun q e=>by omega) hBW.size)
 obtain ⟨b,hb⟩:∃ b,W.heap.size=b:=⟨_,rfl⟩
 rw [hb] at hc ⊢
 have hb1:=hc.lt
 have hX2b:w.heap.size<b:=by omega
 clear hg hBW hB br hF1 hsz hb
 go_wp2_with fail
 refine (model_any w1 b 0 hc (by omega) (by omega)).mono ?_
 rintro e w2 ⟨m,vk,vt,rfl,hz,om,hf2,hc2⟩
 obtain ⟨ak,ck,ax,ct,rfl,rfl,-⟩:=om.rm
 have br2:Wr w2 w.heap.size 0 z6:=wrB br1 hf2 (by omega)
 have hbw2:Below w.heap.size w w2:=hBw.trans (hf2.bel (fun q e=>by omega) hBw.size)
 have hs2:=hf2.size
 have HBR2:Hid (type_of% br2):=br2
 have HBW2:Hid (type_of% hbw2):=hbw2
 have HOM:Hid (type_of% om):=om
 have HC2:Hid (type_of% hc2):=hc2
 have HZ:Hid (m.sz≤4500):=hz
 clear br1 hBw hc br2 hbw2 om hf2 hc2 hz
 go_upto_region 3 with fail
 obtain ⟨W3,hW3,hsz3,hB3,b5⟩:=new1 w2 (mc m (.slice ak m.ks.length ck) (.slice ax m.ts.length ct)) 29
 have hW3b:w2.alloc (.cells #[.int .i64 m.n,.int .i64 m.c,.int .i64 m.prior,.int .i64 m.base,.slice ak m.ks.length ck,.slice ax m.ts.length ct] 29)=W3:=hW3
 rw [hW3b]
 obtain ⟨X5,hX5⟩:∃ x,w2.heap.size=x:=⟨_,rfl⟩
 rw [hX5] at b5 ⊢
 have hbX:b<X5:=by omega
 have h2X:w.heap.size<X5:=by omega
 have HMQ:Hid (Mq w W3 b X5 (0+1000) 4500 m (.slice ak m.ks.length ck) (.slice ax m.ts.length ct)):=⟨curF (B:=fun _=>False) HC2.out (fr_below hB3) (fun _ e=>e.elim),HBW2.out.trans (hB3.mono HBW2.out.size),by omega,hbX,b5,(HOM.out.below hB3).mono (fun q hq=>⟨by omega,by omega⟩),HZ.out⟩
 have HBR:Hid (Wr W3 w.heap.size 0 z6):=HBR2.out.below hB3
 clear hW3 hW3b hB3 b5 hX5 HBR2 HBW2 HOM HC2 hs2 hsz3 hb1
 obtain ⟨X2,hX2⟩:∃ x,w.heap.size=x:=⟨_,rfl⟩
 have HX2:Hid (w.heap.size=X2):=hX2
 rw [hX2] at HBR hX2b h2X ⊢
 clear hX2
 go_cut [25] from 9 (fun s25 wx=>∃ t:Bool,s25=.bool t∧(t=true→∃ h0:0<m.ks.length,0<m.ks[0].ws.length)∧Mq w wx b X5 1010 4500 m (.slice ak m.ks.length ck) (.slice ax m.ts.length ct)∧Wr wx X2 0 z6)
 case first =>
  go_wp2_with fail
  refine (Cu.once_any W3 b (0+1000) HMQ.out.cu (by omega) 12 (by omega) (by omega)).mono ?_
  rintro e w6 ⟨oc,rfl,hg6,hs6,hc6⟩
  have HM6:Hid (Mq w w6 b X5 1010 4500 m (.slice ak m.ks.length ck) (.slice ax m.ts.length ct)):=HMQ.out.step hg6 (hc6.mono (by omega))
  have HR6:Hid (Wr w6 X2 0 z6):=wrB HBR.out (fr_grown (B:=fun q=>q=b) hg6 rfl) (by omega)
  clear hg6 hs6 hc6
  cases oc with
  | false =>
   go_wp2_with fail
   go_meet
   case rel=>exact ⟨false,rfl,(fun h=>by cases h),HM6.out,HR6.out⟩
  | true =>
   have x4:=HM6.out.cells.2.2.2.2.1
   by_cases hk0:0<m.ks.length
   ·
    have hk1:(0:Int)<(m.ks.length:Int):=by omega
    have hk2:decide ((0:Int)<(m.ks.length:Int))=true:=by simpa using hk1
    obtain ⟨g,cg,a0,c0,n0,e0,hn0,q0⟩:=HM6.out.hdr hk0
    injection e0 with e0 _ e1
    subst e0
    subst e1
    have HK0:Hid (0<m.ks.length):=hk0
    have HN0:Hid (type_of% hn0):=hn0
    clear hn0
    by_cases hw0:0<n0
    ·
     have hw1:(0:Int)<(n0:Int):=by omega
     have hw2:decide ((0:Int)<(n0:Int))=true:=by simpa using hw1
     have HW0:Hid (0<n0):=hw0
     clear hw0
     go_wp2_with fail
     go_meet
     case rel=>exact ⟨true,(by first | rfl | (congr 1;rw [decide_eq_true_iff];omega)),fun _=>⟨HK0.out,by rw [HN0.out];exact HW0.out⟩,HM6.out,HR6.out⟩
    ·
     have hw1:¬ (0:Int)<(n0:Int):=by omega
     have hw2:decide ((0:Int)<(n0:Int))=false:=by simpa using hw1
     clear hw0
     go_wp2_with fail
     go_meet
     case rel=>exact ⟨false,(by first | rfl | (congr 1;rw [decide_eq_false_iff_not];omega)),(fun h=>by cases h),HM6.out,HR6.out⟩
   ·
    have hk1:¬ (0:Int)<(m.ks.length:Int):=by omega
    have hk2:decide ((0:Int)<(m.ks.length:Int))=false:=by simpa using hk1
    clear hk0
    go_wp2_with fail
    go_meet
    case rel=>exact ⟨false,(by first | rfl | (congr 1;rw [decide_eq_false_iff_not];omega)),(fun h=>by cases h),HM6.out,HR6.out⟩
 case rest =>
  clear HMQ HBR
  obtain ⟨t,rfl,ht,mq,r2⟩:=hcut
  have HMQ:Hid (type_of% mq):=mq
  have HBR:Hid (type_of% r2):=r2
  clear mq r2
  go_upto_if 25 with fail
  go_cut [] from 26 (fun wx=>∃ (m:M) (vk vt:Value),Mq w wx b X5 2000 4510 m vk vt∧Wr wx X2 0 z6)
  case first =>
   cases t with
   | false =>
    clear ht
    go_wp2_with fail
    go_meet
    case rel=>exact ⟨m,_,_,(HMQ.out.lower (by omega)).up (by omega),HBR.out⟩
   | true =>
    obtain ⟨hk0,hw0⟩:=ht rfl
    obtain ⟨g,cg,wb,c0,n0,s0,e0,hn0,q0,q1,q2,q3,q4,q5,q6,q7,q8,q9,q10⟩:=HMQ.out.word hk0 hw0
    injection e0 with e0 _ e1
    subst e0
    subst e1
    have HPUT:Hid (type_of% q10):=q10
    clear q10 ht
    have HQ0:Hid (type_of% q0):=q0
    have HQ1:Hid (type_of% q1):=q1
    have HQ2:Hid (type_of% q2):=q2
    have hk1:(0:Int)<(m.ks.length:Int):=by omega
    have hw1:(0:Int)<(n0:Int):=by omega
    have hn1:¬ n0=0:=by omega
    clear q0 q1 q2 hw0
    go_wp2_with fail
    have st:Below wc.heap.size wc wc.drew:=Tm.below_drew wc
    have HF0:Hid (Fr (fun q=>q=b) wc wc.drew):=fr_below st
    have HC0:Hid (Cu.Cur wc.drew b 1010):=(HMQ.out.below st).cu
    have HSX:Hid (∀ X:World,Fr (fun q=>q=b) wc X→X.cell? ⟨X5,4,none⟩=some (.slice (some ⟨g,0,none⟩) m.ks.length ck)∧X.cell? ⟨g,0,none⟩=some (.slice (some ⟨wb,0,none⟩) n0 c0)):=fun X hX=>⟨(World.cell?_of_block (hX.block X5 HMQ.out.w5.1 (by omega))).trans HMQ.out.cells.2.2.2.2.1,(World.cell?_of_block (hX.block g q3 (by omega))).trans HQ0.out⟩
    have hS:=HSX.out _ HF0.out
    clear st
    refine Hd.start (fun X=>X.cell? ⟨X5,4,none⟩=some (.slice (some ⟨g,0,none⟩) m.ks.length ck)∧X.cell? ⟨g,0,none⟩=some (.slice (some ⟨wb,0,none⟩) n0 c0)) 11 (by kernel_rfl) ?_
    generalize wc.drew=w0 at HF0 HC0 hS ⊢
    refine Hd.After.pureD (i:=0) (some 26) (.pointer (some ⟨X5,4,none⟩)) rfl rfl (by kernel_rfl) (by decide) (by kernel_rfl) (by kernel_rfl) (fun _ _ _ h=>h) (hS) (Or.inl ⟨by rfl,?_⟩) ?_
    ·
     intro X;go_simp;try with_reducible rfl
    (first | simp only [Act.put,List.setIfInBounds_toArray,List.set_cons_zero,List.set_cons_succ] | skip)
    refine Hd.After.takeD (i:=1) (some 27) (.slice (some ⟨g,0,none⟩) m.ks.length ck) rfl rfl (by kernel_rfl) (by kernel_rfl) (by kernel_rfl) (by kernel_rfl) (by kernel_rfl) (fun _ _ _ h=>h) (hS) (Or.inl ⟨by rfl,?_⟩) ?_
    ·
     rintro X ⟨s0_,s1_⟩;go_simp;try with_reducible rfl
    (first | simp only [Act.put,List.setIfInBounds_toArray,List.set_cons_zero,List.set_cons_succ] | skip)
    refine Hd.After.pureD (i:=2) (some 28) (.pointer (some ⟨g,0,none⟩)) rfl rfl (by kernel_rfl) (by decide) (by kernel_rfl) (by kernel_rfl) (fun _ _ _ h=>h) (hS) (Or.inl ⟨by rfl,?_⟩) ?_
    ·
     intro X;go_simp;try with_reducible rfl
    (first | simp only [Act.put,List.setIfInBounds_toArray,List.set_cons_zero,List.set_cons_succ] | skip)
    refine Hd.After.pureD (i:=3) (some 29) (.pointer (some ⟨g,0,none⟩)) rfl rfl (by kernel_rfl) (by decide) (by kernel_rfl) (by kernel_rfl) (fun _ _ _ h=>h) (hS) (Or.inl ⟨by rfl,?_⟩) ?_
    ·
     intro X;go_simp;try with_reducible rfl
    (first | simp only [Act.put,List.setIfInBounds_toArray,List.set_cons_zero,List.set_cons_succ] | skip)
    refine Hd.After.takeD (i:=4) (some 30) (.slice (some ⟨wb,0,none⟩) n0 c0) rfl rfl (by kernel_rfl) (by kernel_rfl) (by kernel_rfl) (by kernel_rfl) (by kernel_rfl) (fun _ _ _ h=>h) (hS) (Or.inl ⟨by rfl,?_⟩) ?_
    ·
     rintro X ⟨s0_,s1_⟩;go_simp;try with_reducible rfl
    (first | simp only [Act.put,List.setIfInBounds_toArray,List.set_cons_zero,List.set_cons_succ] | skip)
    refine Hd.After.pureD (i:=6) (some 32) (.pointer (some ⟨b,0,none⟩)) rfl rfl (by kernel_rfl) (by decide) (by kernel_rfl) (by kernel_rfl) (fun _ _ _ h=>h) (hS) (Or.inl ⟨by rfl,?_⟩) ?_
    ·
     intro X;go_simp;try with_reducible rfl
    (first | simp only [Act.put,List.setIfInBounds_toArray,List.set_cons_zero,List.set_cons_succ] | skip)
    refine Hd.After.two (i:=5) (j:=7) (by kernel_rfl) rfl rfl rfl rfl ?_ ?_
    ·
     intro K hK
     go_simp
     obtain ⟨wf,hW_,hsz_,hB_,bt_⟩:=new1 w0 [.string ⟨#[97,10,98]⟩,.string ⟨#[120,32,121]⟩,.string ⟨#[32]⟩] 9
     have hW_2:w0.alloc (.cells #[.string ⟨#[97,10,98]⟩,.string ⟨#[120,32,121]⟩,.string ⟨#[32]⟩] 9)=wf:=hW_
     rw [hW_2]
     obtain ⟨gt,hgt⟩:∃ g,w0.heap.size=g:=⟨_,rfl⟩
     have hgs:=HF0.out.size
     rw [hgt] at bt_ hgs ⊢
     have hgb:b<gt:=by omega
     have HTf:Hid (Wr wf gt 0 [.string ⟨#[97,10,98]⟩,.string ⟨#[120,32,121]⟩,.string ⟨#[32]⟩]):=bt_
     have HFf:Hid (Fr (fun q=>q=b) wc wf):=HF0.out.trans (fr_below hB_)
     have HCf:Hid (type_of% (curF (B:=fun _=>False) HC0.out (fr_below hB_) (fun _ e=>e.elim))):=curF (B:=fun _=>False) HC0.out (fr_below hB_) (fun _ e=>e.elim)
     have hSf:=HSX.out _ HFf.out
     clear hW_ hW_2 hsz_ hB_ bt_ hgt
     refine hK _ _ (fun _=>hSf) ?_
     clear hK K
     (first | simp only [Act.put,List.setIfInBounds_toArray,List.set_cons_zero,List.set_cons_succ] | skip)
     refine Hd.After.one (i:=7) (by kernel_rfl) rfl rfl ?_
     intro K hK
     go_simp
     go_wp2_with (go_at_call 20;refine (Cu.pick_any wf b 1010 HCf.out (by omega) 3 (by omega)).mono ?_;rintro e wfh ⟨y,rfl,y0,y1,hg_,hz_,hc_⟩)
     have HFfh:Hid (Fr (fun q=>q=b) wc wfh):=HFf.out.trans (fr_grown hg_ rfl)
     have HCfh:Hid (type_of% hc_):=hc_
     have y2:y<3:=y1 (by omega)
     have y3:y.toNat<3:=by omega
     have HTfh:Hid (Wr wfh gt 0 [.string ⟨#[97,10,98]⟩,.string ⟨#[120,32,121]⟩,.string ⟨#[32]⟩]):=wrB HTf.out (fr_grown (B:=fun k=>k=b) hg_ rfl) (by omega)
     have hSfh:=HSX.out _ HFfh.out
     clear hg_ hz_ hc_
     refine hK _ _ (fun _=>hSfh) ?_
     clear hK K
     (first | simp only [Act.put,List.setIfInBounds_toArray,List.set_cons_zero,List.set_cons_succ] | skip)
     refine Hd.After.pureD (i:=8) (some 34) (.pointer (some ⟨gt,y.toNat,none⟩)) rfl rfl (by kernel_rfl) (by decide) (by kernel_rfl) (by kernel_rfl) (fun _ _ _ h=>h) (hSfh) (Or.inl ⟨by rfl,?_⟩) ?_
     ·
      intro X;go_simp;try with_reducible rfl
     (first | simp only [Act.put,List.setIfInBounds_toArray,List.set_cons_zero,List.set_cons_succ] | skip)
     refine Hd.After.one (i:=9) (by kernel_rfl) rfl rfl ?_
     intro K hK
     obtain ⟨s9,hs9,hz9⟩:∃ s:ByteArray,wfh.cell? ⟨gt,y.toNat,none⟩=some (.string s)∧s.size≤10:=elem3 HTfh.out y3
     go_simp
     refine hK _ _ (fun _=>hSfh) ?_
     clear hK K
     (first | simp only [Act.put,List.setIfInBounds_toArray,List.set_cons_zero,List.set_cons_succ] | skip)
     refine Hd.After.pureD (i:=10) (some 36) (.pointer (some ⟨wb,0,none⟩)) rfl rfl (by kernel_rfl) (by decide) (by kernel_rfl) (by kernel_rfl) (fun _ _ _ h=>h) (hSfh) (Or.inl ⟨by rfl,?_⟩) ?_
     ·
      intro X;go_simp;try with_reducible rfl
     (first | simp only [Act.put,List.setIfInBounds_toArray,List.set_cons_zero,List.set_cons_succ] | skip)
     refine Hd.After.one (i:=11) (by kernel_rfl) rfl rfl ?_
     intro K hK
     have kc:=(World.cell?_of_block (HFfh.out.block wb q6 (by omega))).trans HQ1.out
     have kf:=(World.frozen?_of_block (HFfh.out.block wb q6 (by omega))).trans HQ2.out
     have HNEW:Hid (Mq w (wfh.setCell ⟨wb,0,none⟩ (.string s9)) b X5 2000 4510 _ _ _):=((HPUT.out _ _ s9 HFfh.out HCfh.out hz9).lower (by omega))
     have HRN:Hid (Wr (wfh.setCell ⟨wb,0,none⟩ (.string s9)) X2 0 z6):=(wrB HBR.out HFfh.out (by omega)).setOther (by omega)
     go_simp
     refine hK _ _ (fun h=>by cases h) ?_
     clear hK K
     refine Hd.After.done (by kernel_rfl) ?_ _
     go_wp2_with fail
     go_meet
     case rel=>exact ⟨_,_,_,HNEW.out,HRN.out⟩
    ·
     intro K hK
     go_simp
     go_wp2_with (go_at_call 20;refine (Cu.pick_any w0 b 1010 HC0.out (by omega) 3 (by omega)).mono ?_;rintro e wh ⟨y,rfl,y0,y1,hg_,hz_,hc_⟩)
     have HFh:Hid (Fr (fun q=>q=b) wc wh):=HF0.out.trans (fr_grown hg_ rfl)
     have HCh:Hid (type_of% hc_):=hc_
     have y2:y<3:=y1 (by omega)
     have y3:y.toNat<3:=by omega
     have hSh:=HSX.out _ HFh.out
     clear hg_ hz_ hc_
     refine hK _ _ (fun _=>hSh) ?_
     clear hK K
     (first | simp only [Act.put,List.setIfInBounds_toArray,List.set_cons_zero,List.set_cons_succ] | skip)
     refine Hd.After.one (i:=5) (by kernel_rfl) rfl rfl ?_
     intro K hK
     go_simp
     obtain ⟨whf,hW_,hsz_,hB_,bt_⟩:=new1 wh [.string ⟨#[97,10,98]⟩,.string ⟨#[120,32,121]⟩,.string ⟨#[32]⟩] 9
     have hW_2:wh.alloc (.cells #[.string ⟨#[97,10,98]⟩,.string ⟨#[120,32,121]⟩,.string ⟨#[32]⟩] 9)=whf:=hW_
     rw [hW_2]
     obtain ⟨gt,hgt⟩:∃ g,wh.heap.size=g:=⟨_,rfl⟩
     have hgs:=HFh.out.size
     rw [hgt] at bt_ hgs ⊢
     have hgb:b<gt:=by omega
     have HThf:Hid (Wr whf gt 0 [.string ⟨#[97,10,98]⟩,.string ⟨#[120,32,121]⟩,.string ⟨#[32]⟩]):=bt_
     have HFhf:Hid (Fr (fun q=>q=b) wc whf):=HFh.out.trans (fr_below hB_)
     have HChf:Hid (type_of% (curF (B:=fun _=>False) HCh.out (fr_below hB_) (fun _ e=>e.elim))):=curF (B:=fun _=>False) HCh.out (fr_below hB_) (fun _ e=>e.elim)
     have hShf:=HSX.out _ HFhf.out
     clear hW_ hW_2 hsz_ hB_ bt_ hgt
     refine hK _ _ (fun _=>hShf) ?_
     clear hK K
     (first | simp only [Act.put,List.setIfInBounds_toArray,List.set_cons_zero,List.set_cons_succ] | skip)
     refine Hd.After.pureD (i:=8) (some 34) (.pointer (some ⟨gt,y.toNat,none⟩)) rfl rfl (by kernel_rfl) (by decide) (by kernel_rfl) (by kernel_rfl) (fun _ _ _ h=>h) (hShf) (Or.inl ⟨by rfl,?_⟩) ?_
     ·
      intro X;go_simp;try with_reducible rfl
     (first | simp only [Act.put,List.setIfInBounds_toArray,List.set_cons_zero,List.set_cons_succ] | skip)
     refine Hd.After.one (i:=9) (by kernel_rfl) rfl rfl ?_
     intro K hK
     obtain ⟨s9,hs9,hz9⟩:∃ s:ByteArray,whf.cell? ⟨gt,y.toNat,none⟩=some (.string s)∧s.size≤10:=elem3 HThf.out y3
     go_simp
     refine hK _ _ (fun _=>hShf) ?_
     clear hK K
     (first | simp only [Act.put,List.setIfInBounds_toArray,List.set_cons_zero,List.set_cons_succ] | skip)
     refine Hd.After.pureD (i:=10) (some 36) (.pointer (some ⟨wb,0,none⟩)) rfl rfl (by kernel_rfl) (by decide) (by kernel_rfl) (by kernel_rfl) (fun _ _ _ h=>h) (hShf) (Or.inl ⟨by rfl,?_⟩) ?_
     ·
      intro X;go_simp;try with_reducible rfl
     (first | simp only [Act.put,List.setIfInBounds_toArray,List.set_cons_zero,List.set_cons_succ] | skip)
     refine Hd.After.one (i:=11) (by kernel_rfl) rfl rfl ?_
     intro K hK
     have kc:=(World.cell?_of_block (HFhf.out.block wb q6 (by omega))).trans HQ1.out
     have kf:=(World.frozen?_of_block (HFhf.out.block wb q6 (by omega))).trans HQ2.out
     have HNEW:Hid (Mq w (whf.setCell ⟨wb,0,none⟩ (.string s9)) b X5 2000 4510 _ _ _):=((HPUT.out _ _ s9 HFhf.out HChf.out hz9).lower (by omega))
     have HRN:Hid (Wr (whf.setCell ⟨wb,0,none⟩ (.string s9)) X2 0 z6):=(wrB HBR.out HFhf.out (by omega)).setOther (by omega)
     go_simp
     refine hK _ _ (fun h=>by cases h) ?_
     clear hK K
     refine Hd.After.done (by kernel_rfl) ?_ _
     go_wp2_with fail
     go_meet
     case rel=>exact ⟨_,_,_,HNEW.out,HRN.out⟩
  case rest =>
   clear HMQ HBR HZ
   obtain ⟨m,vk,vt,mq,r2⟩:=hcut
   obtain ⟨ak,ck,ax,ct,rfl,rfl,-⟩:=mq.om.rm
   have HMQ:Hid (type_of% mq):=mq
   obtain ⟨hl2,⟨r0,r1,r2_,r3,r4,r5⟩,f0,f1,f2,f3,f4,f5⟩:=wr6 r2
   obtain ⟨x0,x1,x2,x3,x4,x5⟩:=HMQ.out.cells
   clear mq r2
   have hFF:=set6 wc X2 (.int .i64 m.n) (.int .i64 m.c) (.int .i64 m.prior) (.int .i64 m.base) (.slice ak m.ks.length ck) (.slice ax m.ts.length ct)
   have HE:Hid (type_of% (HMQ.out.fin (hFF.mono (fun q e=>⟨by have:=HX2.out;omega,by omega⟩)))):=HMQ.out.fin (hFF.mono (fun q e=>⟨by have:=HX2.out;omega,by omega⟩))
   have HZZ:Hid (m.sz≤4510):=HMQ.out.sz
   clear hFF
   go_wp2_with fail
   refine bodyPost_ret (v:=.agg #[.int .i64 m.n,.int .i64 m.c,.int .i64 m.prior,.int .i64 m.base,.slice ak m.ks.length ck,.slice ax m.ts.length ct]) (by rw [Tb.results_cell rfl];go_simp) rfl ⟨m,_,_,rfl,HZZ.out,HE.out.1,HE.out.2⟩
end Go.Proofs.YtaojoamldoofpaaGreatDoor.Dm
namespace Go.Proofs.YtaojoamldoofpaaGreatDoor.Tm
open Go.RowKit
open Li (iv ret_bool ret_int below_none)
open Tr
set_option maxRecDepth 100000
theorem neqS (x y:Int) (W:World):Sem.run Tryz.prog (binOp .neq 58 (.agg #[.int .i64 x,.int .i64 y]) (.agg #[.int .i64 x,.int .i64 y])) W=.ok (.bool false) W:=by
 have hu:=Tryz.underlying58
 have hi:=Tryz.underlying3
 have hp:Tryz.prog.stoodInHeld 58=false:=by kernel_rfl
 have hf:Tryz.prog.underlying 58=some (.struct (Tryz.prog.fieldsOf 58)):=by kernel_rfl
 rw [run_neq_struct,run_equalIn_agg _ _ _ _ _ hf hp]
 simp [Program.fieldsOf,hu,Op.eqFields,go_sem,hi]
set_option maxHeartbeats 1000000 in
theorem sameTree (w:World) (a a' b b':Option Addr) (c c' d d':Nat) (t:T) (hp:IsP w a t.sp) (hx:Li.IsL w a' t.lv) (hq:IsP w b t.sp) (hy:Li.IsL w b' t.lv) (hl:t.sp.length+t.lv.length≤1048576) :
  Calls Tryz.prog 64 #[.agg #[.slice a t.sp.length c,.slice a' t.lv.length c'],.agg #[.slice b t.sp.length d,.slice b' t.lv.length d']] w fun e w'=>e=.returned (.bool true)∧Below w.heap.size w w':=by
 have hne:((t.sp.length:Int) != (t.sp.length:Int))=false:=by simp
 go_enter Tryz.func64,Tryz.ntmps64
 go_wp2_with fail
 obtain ⟨W,hW,hsz,hB,bx,bz⟩:=boxes2 w (.slice a t.sp.length c) (.slice a' t.lv.length c') (.slice b t.sp.length d) (.slice b' t.lv.length d') 56 56
 rw [hW]
 have hp:=hp.below hB
 have hq:=hq.below hB
 have hx:=hx.below hB
 have hy:=hy.below hB
 clear hW hsz
 go_loopw [5] (fun i wr=>∃ k:Nat,k≤t.sp.length∧i=.int .i64 k∧Below W.heap.size W wr) (fun i _=>t.sp.length-(intOf i).toNat)
 case atStart=>exact ⟨0,Nat.zero_le _,rfl,Below.refl _ _⟩
 case round =>
  obtain ⟨k,hk,rfl,hb⟩:=hrel
  obtain ⟨_,⟨x0,x1⟩,_⟩:=id (bx.below hb)
  obtain ⟨_,⟨z0,z1⟩,_⟩:=id (bz.below hb)
  have hHB:Hid (Below W.heap.size W wr):=hb
  by_cases hlt:k<t.sp.length
  ·
   rcases hp.below hb with h0 | ⟨pb,po,rfl,hpb,hpc⟩
   ·
    rw [h0] at hlt;simp at hlt
   rcases hq.below hb with h0 | ⟨qb,qo,rfl,hqb,hqc⟩
   ·
    rw [h0] at hlt;simp at hlt
   obtain ⟨u0,u1⟩:=hpc k hlt
   obtain ⟨v0,v1⟩:=hqc k hlt
   obtain ⟨X,hX⟩:∃ X,t.sp[k].1=X:=⟨_,rfl⟩
   obtain ⟨Y,hY⟩:∃ Y,t.sp[k].2=Y:=⟨_,rfl⟩
   rw [hX] at u0 v0
   rw [hY] at u1 v1
   have hkn:(k:Int)<(t.sp.length:Int):=by omega
   have hnq:=neqS X Y
   have hg:∀ (W:World) (x y:Operand),(eqGuard .neq 58 x y (.agg #[.int .i64 X,.int .i64 Y]) (.agg #[.int .i64 X,.int .i64 Y])).run Tryz.prog W=.ok () W:=fun W x y=>run_eqGuard_agg W _ _ _ _ _ _ (by kernel_rfl)
   clear hpc hqc hX hY hb
   go_wp2
   go_quiet (fail)
   go_wp2
   go_roundw
   case rel=>exact ⟨k+1,by omega,by go_num,hHB.out.trans ((below_drewN' _ _).mono hHB.out.size)⟩
   case measure=>simp [intOf];omega
  ·
   obtain rfl:k=t.sp.length:=by omega
   have hx:=hx.below hb
   have hy:=hy.below hb
   have hBB:=hB.trans (hb.mono hB.size)
   clear hb
   go_wp2_with fail
   refine (Li.same_bel _ _ _ _ _ t.lv t.lv hx hy (by omega) (by omega)).mono ?_
   rintro e w2 ⟨rfl,hb2⟩
   rw [Li.eqs_self]
   have hBB:=hBB.trans (hb2.mono hBB.size)
   go_wp2
   go_ret
   exact ⟨rfl,hBB⟩
end Go.Proofs.YtaojoamldoofpaaGreatDoor.Tm
