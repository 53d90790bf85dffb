/-
  Contracts that the proof leans on, put together in the order in which they build.
-/
import Derived.Test.YtaojoamldoofpaaGreatDoorPart21
import Derived.Test.YtaojoamldoofpaaGreatDoorPart1
import Derived.Lib.ConvBytes
import Derived.Test.YtaojoamldoofpaaGreatDoorRows
import Derived.WalkKit
import Derived.ProofKit
import Derived.Laws.BitsAllLaws
import Derived.Laws.BitsLemmas
import Derived.RowKit
import Derived.Lib.AppendStr
import Derived.Laws.IdiomCopy
import Derived.Laws.BytesArg
import Derived.Lib.Split
import Derived.Lib.SplitLaws
import Derived.Test.YtaojoamldoofpaaGreatDoorPart8
set_option linter.unusedVariables false
namespace Go.Proofs.YtaojoamldoofpaaGreatDoor.Mt
set_option maxRecDepth 20000
open Go.RowKit
theorem ba_ext {a b:ByteArray} (h:a.data.toList=b.data.toList):a=b:=by
 apply ByteArray.ext
 exact Array.toList_inj.1 h
theorem ba_size (l:List UInt8):(ByteArray.mk l.toArray).size=l.length:=by simp [ByteArray.size]
theorem bc_len (l:List UInt8):(Lib.byteCells l).length=l.length:=by simp [Lib.byteCells]
theorem cells_more (l:List UInt8) (s:ByteArray):Lib.byteCells l ++ Lib.strCells s=Lib.byteCells (l ++ s.data.toList):=by simp [Lib.byteCells,Lib.strCells]
theorem ret_str {a b:ByteArray} (h:a=b):Ending.returned (.string a)=.returned (.string b):=by rw [h]
def i64 (x:Int):Prop:=-9223372036854775808≤x∧x≤9223372036854775807
def nums (l:List Int):List UInt8:=(l.map fun x=>32 :: Lib.itoa x).flatten
theorem nums_nil:nums []=[]:=rfl
theorem nums_cons (x:Int) (l:List Int):nums (x :: l)=32 :: Lib.itoa x ++ nums l:=by simp [nums]
theorem nums_one (x:Int):nums [x]=32 :: Lib.itoa x:=by simp [nums]
theorem nums_take (l:List Int) (k:Nat) (h:k<l.length):nums (l.take (k+1))=nums (l.take k) ++ 32 :: Lib.itoa l[k]:=by
 unfold nums
 rw [List.take_succ_eq_append_getElem h,List.map_append,List.flatten_append]
 simp
theorem nums_len:∀ (l:List Int),(∀ x ∈ l,i64 x)→(nums l).length≤22 * l.length
 | [],_=>by simp [nums]
 | x :: l,h=>by
  have h1:=nums_len l (fun y hy=>h y (by simp [hy]))
  have h2:=h x (by simp)
  have h3:=Nu.itoa_len x h2.1 h2.2
  rw [nums_cons]
  simp only [List.length_append,List.length_cons]
  omega
theorem take_mem {α:Type} {p:α→Prop} {l:List α} (h:∀ t ∈ l,p t) (k:Nat):∀ t ∈ l.take k,p t:=fun t ht=>h t (List.mem_of_mem_take ht)
theorem isl_lit (w:World) (l:List Int) (T:TypeId) (b:Nat) (cs:Array Value) (hb:b=w.heap.size) (hc:cs=(l.map fun x=>Value.int .i64 x).toArray):Li.IsL (w.alloc (.cells cs T)) (some ⟨b,0,none⟩) l:=by
 subst hb;subst hc
 refine .inr ⟨w.heap.size,0,rfl,by simp,fun j hj=>?_⟩
 rw [Nat.zero_add]
 have:(w.alloc (.cells (l.map fun x=>Value.int .i64 x).toArray T)).heap[w.heap.size]? = some (.cells (l.map fun x=>Value.int .i64 x).toArray T):=heap_alloc_new w _
 simp only [World.cell?,this]
 simp [hj]
end Go.Proofs.YtaojoamldoofpaaGreatDoor.Mt
namespace Go.Proofs.YtaojoamldoofpaaGreatDoor.Cr
set_option maxRecDepth 100000
open Go.RowKit
def st (x:Nat):Nat:=if x % 2=1 then x / 2 ^^^ 3988292384 else x / 2
def sts:Nat→Nat→Nat
 | 0,x=>x
 | k+1,x=>st (sts k x)
def byte (x:Nat) (c:UInt8):Nat:=sts 8 (x ^^^ c.toNat)
def crc (l:List UInt8):Nat:=l.foldl byte 4294967295 ^^^ 4294967295
theorem xor_lt {x y:Nat} (hx:x<4294967296) (hy:y<4294967296):x ^^^ y<4294967296:=Nat.xor_lt_two_pow (n:=32) hx hy
theorem st_lt {x:Nat} (h:x<4294967296):st x<4294967296:=by
 unfold st
 split
 ·
  exact xor_lt (by omega) (by omega)
 ·
  omega
theorem sts_lt {x:Nat} (h:x<4294967296):∀ k,sts k x<4294967296
 | 0=>h
 | k+1=>st_lt (sts_lt h k)
theorem byte_lt {x:Nat} (h:x<4294967296) (c:UInt8):byte x c<4294967296:=sts_lt (xor_lt h (by have:=c.toNat_lt;omega)) 8
theorem fold_lt:∀ (l:List UInt8) {x:Nat},x<4294967296→l.foldl byte x<4294967296
 | [],_,h=>h
 | c :: l,_,h=>fold_lt l (byte_lt h c)
theorem crc_lt (l:List UInt8):crc l<4294967296:=xor_lt (fold_lt l (by omega)) (by omega)
theorem xor_i64 (a b:Nat) (ha:a<4294967296) (hb:b<4294967296):bits .xor .i64 (a:Int) (b:Int)=((a ^^^ b:Nat):Int):=by
 have hx:a ^^^ b<4294967296:=xor_lt ha hb
 show IntKind.i64.wrap ((BitVec.ofInt 64 (a:Int) ^^^ BitVec.ofInt 64 (b:Int)).toNat:Int)=_
 rw [BitVec.toNat_xor,BitVec.ofInt_natCast,BitVec.toNat_ofNat,BitVec.ofInt_natCast,BitVec.toNat_ofNat,Nat.mod_eq_of_lt (by omega),Nat.mod_eq_of_lt (by omega),IntKind.wrap_i64]
 omega
theorem xor_u32 (a b:Nat) (ha:a<4294967296) (hb:b<4294967296):bits .xor .u32 (a:Int) (b:Int)=((a ^^^ b:Nat):Int):=u32_xor_nat a b ha hb
theorem take_snoc (s:ByteArray) (k:Nat) (h:k<s.size):s.data.toList.take (k+1)=s.data.toList.take k ++ [s[k]]:=by
 rw [List.take_succ_eq_append_getElem (by simpa using h)];rfl
def upto (s:ByteArray) (k:Nat):Nat:=(s.data.toList.take k).foldl byte 4294967295
theorem upto_snoc (s:ByteArray) (k:Nat) (h:k<s.size):upto s (k+1)=sts 8 (upto s k ^^^ (s[k]).toNat):=by
 unfold upto;rw [take_snoc s k h,List.foldl_append];rfl
theorem upto_lt (s:ByteArray) (k:Nat):upto s k<4294967296:=fold_lt _ (by omega)
theorem upto_all (s:ByteArray):upto s s.size ^^^ 4294967295=crc s.data.toList:=by
 unfold upto crc
 rw [List.take_of_length_le (by simp)]
set_option maxHeartbeats 4000000 in
theorem scrc (s:ByteArray) (w:World) (hs:s.size≤1048576) :
  Calls Tryz.prog 16 #[.string s] w fun e w'=>e=.returned (.int .i64 (crc s.data.toList:Nat))∧w'=w:=by
 go_enter Tryz.func16,Tryz.ntmps16
 go_wp2
 go_loop [3,4] (fun x i=>∃ k:Nat,k≤s.size∧i=.int .i64 k∧x=.int .i64 (upto s k:Nat)) (fun _ i=>s.size-(intOf i).toNat)
 case atStart=>exact ⟨0,Nat.zero_le _,rfl,rfl⟩
 case round =>
  obtain ⟨k,hk,rfl,rfl⟩:=hrel
  have hu:=upto_lt s k
  by_cases hlt:k<s.size
  ·
   have HN:Hid (upto s (k+1)=sts 8 (upto s k ^^^ (s[k]).toNat)):=upto_snoc s k hlt
   obtain ⟨u,hu0⟩:∃ u,upto s k=u:=⟨_,rfl⟩
   rw [hu0] at HN hu ⊢
   clear hu0
   have hc:(s[k]).toNat<256:=(s[k]).toNat_lt
   have hx:=xor_i64 u (s[k]).toNat hu (by omega)
   obtain ⟨y,hy0⟩:∃ y,u ^^^ (s[k]).toNat=y:=⟨_,rfl⟩
   have hy:y<4294967296:=by rw [← hy0];exact xor_lt hu (by omega)
   rw [hy0] at HN hx
   clear hy0
   go_wp2
   go_loop [3,5] (fun x i=>∃ m:Nat,m≤8∧i=.int .i64 m∧x=.int .i64 (sts m y:Nat)) (fun _ i=>8-(intOf i).toNat)
   case atStart=>exact ⟨0,Nat.zero_le _,rfl,rfl⟩
   case round =>
    obtain ⟨m,hm,rfl,rfl⟩:=hrel
    have hz:=sts_lt hy m
    have HS:Hid (sts (m+1) y=st (sts m y)):=rfl
    by_cases hml:m<8
    ·
     obtain ⟨z,hz0⟩:∃ z,sts m y=z:=⟨_,rfl⟩
     rw [hz0] at HS hz ⊢
     clear hz0
     by_cases hodd:z % 2=1
     ·
      have e1:((z:Int) % 2 == 1)=true:=by simp;omega
      have e2:bits .xor .i64 ((z:Int) / 2) 3988292384=((z / 2 ^^^ 3988292384:Nat):Int):=by
       have:=xor_i64 (z / 2) 3988292384 (by omega) (by omega)
       simpa using this
      have HT:Hid (sts (m+1) y=z / 2 ^^^ 3988292384):=by show _=_;rw [HS.out];unfold st;rw [if_pos hodd]
      clear hodd
      go_wp2
      go_round
      case rel=>exact ⟨m+1,by omega,by go_num,by rw [HT.out]⟩
      case measure=>simp [intOf];omega
     ·
      have e1:((z:Int) % 2 == 1)=false:=by simp;omega
      have HT:Hid (sts (m+1) y=z / 2):=by show _=_;rw [HS.out];unfold st;rw [if_neg hodd]
      clear hodd
      go_wp2
      go_round
      case rel=>exact ⟨m+1,by omega,by go_num,by rw [HT.out];go_num⟩
      case measure=>simp [intOf];omega
    ·
     obtain rfl:m=8:=by omega
     go_wp2
     go_round
     case rel=>exact ⟨k+1,by omega,by go_num,by rw [HN.out]⟩
     case measure=>simp [intOf];omega
  ·
   obtain rfl:k=s.size:=by omega
   have HA:Hid (upto s s.size ^^^ 4294967295=crc s.data.toList):=upto_all s
   obtain ⟨u,hu0⟩:∃ u,upto s s.size=u:=⟨_,rfl⟩
   rw [hu0] at HA hu ⊢
   clear hu0
   have hx:bits .xor .i64 (u:Int) 4294967295=((u ^^^ 4294967295:Nat):Int):=by simpa using xor_i64 u 4294967295 hu (by omega)
   go_wp2
   go_ret
   exact ⟨by rw [HA.out];rfl,rfl⟩
set_option maxHeartbeats 4000000 in
theorem ishift (x:Nat) (w:World) (hx:x<4294967296) :
  Calls Tryz.prog 40 #[.int .u32 (x:Nat)] w fun e w'=>e=.returned (.int .u32 (st x:Nat))∧w'=w:=by
 have h1:bits .and .u32 (x:Int) 1=((x % 2:Nat):Int):=by
  have:=u32_and_nat x 1 hx (by omega)
  rw [nat_mask1] at this
  simpa using this
 have h2:bits .xor .u32 ((x:Int) / 2) 3988292384=((x / 2 ^^^ 3988292384:Nat):Int):=by simpa using xor_u32 (x / 2) 3988292384 (by omega) (by omega)
 have HS:Hid (st x=if x % 2=1 then x / 2 ^^^ 3988292384 else x / 2):=rfl
 by_cases hodd:x % 2=1
 ·
  rw [hodd] at h1
  rw [if_pos hodd] at HS
  clear hodd
  go_enter Tryz.func40,Tryz.ntmps40
  go_wp2
  go_ret
  exact ⟨by rw [HS.out];rfl,rfl⟩
 ·
  rw [show x % 2=0 by omega] at h1
  rw [if_neg hodd] at HS
  clear hodd
  go_enter Tryz.func40,Tryz.ntmps40
  go_wp2
  go_ret
  exact ⟨by rw [HS.out];rfl,rfl⟩
set_option maxHeartbeats 4000000 in
theorem icrc (s:ByteArray) (w:World) (hs:s.size≤1048576) :
  Calls Tryz.prog 15 #[.string s] w fun e w'=>e=.returned (.int .i64 (crc s.data.toList:Nat))∧w'=w:=by
 go_enter Tryz.func15,Tryz.ntmps15
 go_wp2
 go_loop [3,7] (fun x i=>∃ k:Nat,k≤s.size∧i=.int .i64 k∧x=.int .u32 (upto s k:Nat)) (fun _ i=>s.size-(intOf i).toNat)
 case atStart=>exact ⟨0,Nat.zero_le _,rfl,rfl⟩
 case round =>
  obtain ⟨k,hk,rfl,rfl⟩:=hrel
  have hu:=upto_lt s k
  by_cases hlt:k<s.size
  ·
   have HN:Hid (upto s (k+1)=sts 8 (upto s k ^^^ (s[k]).toNat)):=upto_snoc s k hlt
   obtain ⟨u,hu0⟩:∃ u,upto s k=u:=⟨_,rfl⟩
   rw [hu0] at HN hu ⊢
   clear hu0
   have hc:(s[k]).toNat<256:=(s[k]).toNat_lt
   have hx:=xor_u32 u (s[k]).toNat hu (by omega)
   obtain ⟨y,hy0⟩:∃ y,u ^^^ (s[k]).toNat=y:=⟨_,rfl⟩
   have hy:y<4294967296:=by rw [← hy0];exact xor_lt hu (by omega)
   rw [hy0] at HN hx
   clear hy0
   go_wp2
   go_loop [3,16] (fun x i=>∃ m:Nat,m≤8∧i=.int .i64 m∧x=.int .u32 (sts m y:Nat)) (fun _ i=>8-(intOf i).toNat)
   case atStart=>exact ⟨0,Nat.zero_le _,rfl,rfl⟩
   case round =>
    obtain ⟨m,hm,rfl,rfl⟩:=hrel
    have hz:=sts_lt hy m
    have HS:Hid (sts (m+1) y=st (sts m y)):=rfl
    by_cases hml:m<8
    ·
     obtain ⟨z,hz0⟩:∃ z,sts m y=z:=⟨_,rfl⟩
     rw [hz0] at HS hz ⊢
     clear hz0
     go_wp2_with (go_at_call 40;refine (ishift _ _ hz).mono ?_;rintro e w' ⟨rfl,hw⟩;subst w')
     go_round
     case rel=>exact ⟨m+1,by omega,by go_num,by rw [HS.out]⟩
     case measure=>simp [intOf];omega
    ·
     obtain rfl:m=8:=by omega
     go_wp2
     go_round
     case rel=>exact ⟨k+1,by omega,by go_num,by rw [HN.out]⟩
     case measure=>simp [intOf];omega
  ·
   obtain rfl:k=s.size:=by omega
   have HA:Hid (upto s s.size ^^^ 4294967295=crc s.data.toList):=upto_all s
   obtain ⟨u,hu0⟩:∃ u,upto s s.size=u:=⟨_,rfl⟩
   rw [hu0] at HA hu ⊢
   clear hu0
   have hx:bits .xor .u32 (u:Int) 4294967295=((u ^^^ 4294967295:Nat):Int):=by simpa using xor_u32 u 4294967295 hu (by omega)
   have hl:u ^^^ 4294967295<4294967296:=xor_lt hu (by omega)
   obtain ⟨z,hz0⟩:∃ z,u ^^^ 4294967295=z:=⟨_,rfl⟩
   rw [hz0] at HA hl hx
   clear hz0
   go_wp2
   go_ret
   exact ⟨by rw [← HA.out];rfl,rfl⟩
end Go.Proofs.YtaojoamldoofpaaGreatDoor.Cr
namespace Go.Proofs.YtaojoamldoofpaaGreatDoor.Mt
set_option maxRecDepth 20000
open Go.RowKit
open Md (M mok mok_parts kok kok_parts)
open Kt (Kv)
def wline (v:Int) (s:ByteArray):List UInt8:=Lib.itoa v ++ (32 :: s.data.toList ++ [10])
def wlines:List Int→List ByteArray→List UInt8
 | v :: vs,s :: ss=>wline v s ++ wlines vs ss
 | _,_=>[]
def head (m:M):List UInt8:=[109,111,100,101,108] ++ nums [m.n,m.c,m.prior,m.base] ++ [10]
def ctxt (t:Kv):List UInt8:=[99,116,114] ++ nums [(t.ws.length:Int)] ++ [10] ++ wlines t.vs t.ws
def spt (ps:List (Int × Int)):List UInt8:=(ps.map fun p=>nums [p.1,p.2]).flatten
def ttxt (t:Tr.T):List UInt8:=[116,114,101,101] ++ spt t.sp ++ ([32,58] ++ nums t.lv ++ [10])
def ctxts (ks:List Kv):List UInt8:=(ks.map ctxt).flatten
def ttxts (ts:List Tr.T):List UInt8:=(ts.map ttxt).flatten
def body (m:M):List UInt8:=head m ++ ctxts m.ks ++ ttxts m.ts
def whole (m:M):List UInt8:=body m ++ ([115,117,109] ++ nums [(Cr.crc (body m):Int)] ++ [10])
def hasLf (s:ByteArray):Bool:=s.data.toList.contains 10
def anyLf (ks:List Kv):Bool:=ks.any fun t=>t.ws.any hasLf
def mtext (m:M):List UInt8:=if mok m=true∧anyLf m.ks=false then whole m else []
theorem wline_len (v:Int) (s:ByteArray) (h:i64 v) (hs:s.size≤25):(wline v s).length≤48:=by
 have h3:=Nu.itoa_len v h.1 h.2
 unfold wline
 simp only [List.length_append,List.length_cons,List.length_nil,Array.length_toList]
 have:s.data.size=s.size:=rfl
 omega
theorem wlines_len:∀ (vs:List Int) (ss:List ByteArray),(∀ x ∈ vs,i64 x)→(∀ s ∈ ss,s.size≤25)→(wlines vs ss).length≤48 * ss.length
 | [],ss,_,_=>by simp [wlines]
 | v :: vs,[],_,_=>by simp [wlines]
 | v :: vs,s :: ss,h,hs=>by
  have h1:=wlines_len vs ss (fun y hy=>h y (by simp [hy])) (fun y hy=>hs y (by simp [hy]))
  have h2:=wline_len v s (h v (by simp)) (hs s (by simp))
  simp only [wlines,List.length_append,List.length_cons]
  omega
theorem wlines_take:∀ (vs:List Int) (ss:List ByteArray) (k:Nat) (h:k<ss.length) (h':k<vs.length),wlines (vs.take (k+1)) (ss.take (k+1))=wlines (vs.take k) (ss.take k) ++ wline vs[k] ss[k]
 | v :: vs,s :: ss,0,_,_=>by simp [wlines]
 | v :: vs,s :: ss,k+1,h,h'=>by
  have:=wlines_take vs ss k (by simpa using h) (by simpa using h')
  simp only [List.take_succ_cons,wlines,List.getElem_cons_succ,this,List.append_assoc]
theorem spt_take (l:List (Int × Int)) (k:Nat) (h:k<l.length):spt (l.take (k+1))=spt (l.take k) ++ nums [l[k].1,l[k].2]:=by
 unfold spt
 rw [List.take_succ_eq_append_getElem h,List.map_append,List.flatten_append]
 simp
theorem spt_len:∀ (l:List (Int × Int)),(∀ p ∈ l,i64 p.1∧i64 p.2)→(spt l).length≤44 * l.length
 | [],_=>by simp [spt]
 | p :: l,h=>by
  have h1:=spt_len l (fun y hy=>h y (by simp [hy]))
  have h2:=h p (by simp)
  have h3:=nums_len [p.1,p.2] (by intro x hx;simp at hx;rcases hx with rfl | rfl;exact h2.1;exact h2.2)
  unfold spt at h1 ⊢
  simp only [List.map_cons,List.flatten_cons,List.length_append,List.length_cons,List.length_nil] at h3 ⊢
  omega
theorem ctxts_take (l:List Kv) (k:Nat) (h:k<l.length):ctxts (l.take (k+1))=ctxts (l.take k) ++ ctxt l[k]:=by
 unfold ctxts
 rw [List.take_succ_eq_append_getElem h,List.map_append,List.flatten_append]
 simp
theorem ttxts_take (l:List Tr.T) (k:Nat) (h:k<l.length):ttxts (l.take (k+1))=ttxts (l.take k) ++ ttxt l[k]:=by
 unfold ttxts
 rw [List.take_succ_eq_append_getElem h,List.map_append,List.flatten_append]
 simp
theorem fok_i64 {x:Int} (h:Bo.fok x=true):i64 x:=by
 have : -1000000000≤x∧x≤1000000000:=by simpa [Bo.fok] using h
 unfold i64;omega
theorem aok_i64 {l:List Int} (h:Bo.aok l=true):∀ x ∈ l,i64 x:=by
 intro x hx
 exact fok_i64 (List.all_eq_true.1 h x hx)
def Kn (t:Kv):Prop:=t.ws.length≤40∧t.vs.length=t.ws.length∧(∀ x ∈ t.vs,i64 x)∧∀ s ∈ t.ws,s.size≤25
theorem kok_kn {t:Kv} (h:kok t=true):Kn t:=by
 obtain ⟨h1,h2,h3,h4,_⟩:=kok_parts h
 refine ⟨h1,h2,aok_i64 h3,fun s hs=>?_⟩
 have:=List.all_eq_true.1 h4 s hs
 unfold Md.cwok at this
 have:=of_decide_eq_true this
 omega
def Tn (t:Tr.T):Prop:=t.sp.length≤4∧t.lv.length≤16∧(∀ p ∈ t.sp,i64 p.1∧i64 p.2)∧∀ x ∈ t.lv,i64 x
theorem tok_tn {t:Tr.T} (h:Tr.tok t=true):Tn t:=by
 obtain ⟨⟨h1,h2⟩,h3,h4⟩:=Tr.tok_iff.1 h
 refine ⟨h1,?_,fun p hp=>?_,aok_i64 h4⟩
 ·
  rw [h2]
  have:=Nat.pow_le_pow_right (n:=2) (by omega) h1
  simpa using this
 ·
  have:=List.all_eq_true.1 h3 p hp
  unfold Tr.spok at this
  simp only [Bool.and_eq_true,decide_eq_true_eq] at this
  exact ⟨by unfold i64;omega,fok_i64 this.2⟩
structure Mn (m:M):Prop where
 h:∀ x ∈ [m.n,m.c,m.prior,m.base],i64 x
 k:m.ks.length≤3
 t:m.ts.length≤12
 ks:∀ t ∈ m.ks,Kn t
 ts:∀ t ∈ m.ts,Tn t
theorem mok_mn {m:M} (h:mok m=true):Mn m:=by
 obtain ⟨h1,h2,h3,h4,h5,h6,h7⟩:=mok_parts h
 obtain ⟨s0,s1,s2⟩:=Tk.sok_iff.1 h1
 refine ⟨?_,?_,h4,fun t ht=>kok_kn (List.all_eq_true.1 h7 t ht),fun t ht=>tok_tn (List.all_eq_true.1 h6 t ht)⟩
 ·
  have hp : -1000000≤m.prior∧m.prior≤1000000:=by simpa [Li.btw] using h2
  intro x hx
  simp at hx
  rcases hx with rfl | rfl | rfl | rfl
  ·
   unfold i64;omega
  ·
   unfold i64;omega
  ·
   unfold i64;omega
  ·
   exact fok_i64 h3
 ·
  unfold Md.ncol at h5
  split at h5 <;> omega
theorem head_len {m:M} (h:Mn m):(head m).length≤94:=by
 have:=nums_len _ h.h
 unfold head
 simp only [List.length_append,List.length_cons,List.length_nil] at this ⊢
 omega
theorem ctxt_len {t:Kv} (h:Kn t):(ctxt t).length≤1946:=by
 obtain ⟨h1,h2,h3,h4⟩:=h
 have:=nums_len [(t.ws.length:Int)] (by intro x hx;simp at hx;subst hx;unfold i64;omega)
 have h5:=wlines_len t.vs t.ws h3 h4
 unfold ctxt
 simp only [List.length_append,List.length_cons,List.length_nil] at this ⊢
 omega
theorem ttxt_len {t:Tr.T} (h:Tn t):(ttxt t).length≤535:=by
 obtain ⟨h1,h2,h3,h4⟩:=h
 have:=nums_len t.lv h4
 have h5:=spt_len t.sp h3
 unfold ttxt
 simp only [List.length_append,List.length_cons,List.length_nil]
 omega
theorem flat_len {α:Type} (f:α→List UInt8) (n:Nat):∀ (l:List α),(∀ t ∈ l,(f t).length≤n)→((l.map f).flatten).length≤n * l.length
 | [],_=>by simp
 | t :: l,h=>by
  have h1:=flat_len f n l (fun y hy=>h y (by simp [hy]))
  have h2:=h t (by simp)
  simp only [List.map_cons,List.flatten_cons,List.length_append,List.length_cons,Nat.mul_add]
  omega
theorem ctxts_len {l:List Kv} (hl:l.length≤3) (h:∀ t ∈ l,Kn t):(ctxts l).length≤5838:=by
 have:=flat_len ctxt 1946 l (fun t ht=>ctxt_len (h t ht))
 unfold ctxts
 omega
theorem ttxts_len {l:List Tr.T} (hl:l.length≤12) (h:∀ t ∈ l,Tn t):(ttxts l).length≤6420:=by
 have:=flat_len ttxt 535 l (fun t ht=>ttxt_len (h t ht))
 unfold ttxts
 omega
theorem body_len {m:M} (h:Mn m):(body m).length≤12352:=by
 have h1:=head_len h
 have h2:=ctxts_len h.k h.ks
 have h3:=ttxts_len h.t h.ts
 unfold body
 simp only [List.length_append]
 omega
theorem crc_i64 (l:List UInt8):i64 (Cr.crc l:Int):=by have:=Cr.crc_lt l;unfold i64;omega
theorem whole_len {m:M} (h:Mn m):(whole m).length≤12400:=by
 have h1:=body_len h
 have:=nums_len [(Cr.crc (body m):Int)] (by intro x hx;simp at hx;subst hx;exact crc_i64 _)
 unfold whole
 simp only [List.length_append,List.length_cons,List.length_nil] at this ⊢
 omega
theorem any_yes {α:Type} {p:α→Bool} {xs:List α} {k:Nat} (hk:k<xs.length) (h:p xs[k]=true):xs.any p=true:=by
 rw [List.any_eq_true];exact ⟨xs[k],List.getElem_mem hk,h⟩
theorem any_no {α:Type} {p:α→Bool} {xs:List α} (h:∀ j (hj:j<xs.length),p xs[j]=false):xs.any p=false:=by
 rw [List.any_eq_false];intro x hx;obtain ⟨j,hj,rfl⟩:=List.getElem_of_mem hx;rw [h j hj];simp
theorem at_snoc {α:Type} {p:α→Bool} {xs:List α} {k:Nat} (h:∀ j (hj:j<xs.length),j<k→p xs[j]=false) (hk:k<xs.length) (h1:p xs[k]=false):∀ j (hj:j<xs.length),j<k+1→p xs[j]=false:=by
 intro j hj hjk
 by_cases e:j=k
 ·
  subst e;exact h1
 ·
  exact h j hj (by omega)
theorem mtext_no {m:M} (h:mok m=false):mtext m=[]:=by unfold mtext;rw [if_neg (by rw [h];simp)]
theorem mtext_lf {m:M} (h:anyLf m.ks=true):mtext m=[]:=by unfold mtext;rw [if_neg (by rw [h];simp)]
theorem mtext_yes {m:M} (h:mok m=true) (h':anyLf m.ks=false):mtext m=whole m:=by unfold mtext;rw [if_pos ⟨h,h'⟩]
end Go.Proofs.YtaojoamldoofpaaGreatDoor.Mt
namespace Go.Proofs.YtaojoamldoofpaaGreatDoor.Ob
set_option maxRecDepth 100000
open Go.RowKit
open Sv (Fr fr_grown)
structure Ox (w:World) (g cap:Nat) (l:List UInt8):Prop where
 lt:g<w.heap.size
 le:l.length≤cap
 max:cap≤maxLen
 cell:∀ j (hj:j<l.length),w.cell? ⟨g,j,none⟩=some (.int .u8 (l[j].toNat:Int))
 some:∀ j,j<cap→(w.cell? ⟨g,j,none⟩).isSome=true
 free:∀ j,j<cap→w.frozen? ⟨g,j,none⟩=false
theorem Ox.keptAt {w w1:World} {g cap:Nat} {l:List UInt8} (h:Ox w g cap l) (hs:w.heap.size≤w1.heap.size) (hb:w1.heap[g]? = w.heap[g]?):Ox w1 g cap l:=by
 refine ⟨by have:=h.lt;omega,h.le,h.max,fun j hj=>?_,fun j hj=>?_,fun j hj=>?_⟩
 ·
  rw [World.cell?_of_block (w:=w) (a:=⟨g,j,none⟩) hb];exact h.cell j hj
 ·
  rw [World.cell?_of_block (w:=w) (a:=⟨g,j,none⟩) hb];exact h.some j hj
 ·
  rw [World.frozen?_of_block (w:=w) (a:=⟨g,j,none⟩) hb];exact h.free j hj
theorem Ox.below {w w1:World} {g cap:Nat} {l:List UInt8} (h:Ox w g cap l) (hb:Below w.heap.size w w1):Ox w1 g cap l:=h.keptAt hb.size (hb.block g h.lt)
theorem set_grown (g:Nat):∀ (vs:List Value) (o:Nat) (w:World),w.grownBy (w.setCells g o vs) (some g)
 | [],_,w=>World.grownBy.refl _ _
 | v :: r,o,w=>by
  rw [World.setCells]
  exact Li.grown_trans (Li.grown_set w g o v) (set_grown g r (o+1) _)
theorem set_size (g:Nat) (vs:List Value) (o:Nat) (w:World):(w.setCells g o vs).heap.size=w.heap.size:=by
 induction vs generalizing o w with
 | nil=>rfl
 | cons v r ih=>rw [World.setCells,ih];simp [World.setCell]
theorem str_get (s:ByteArray) (j:Nat) (h:j<(Lib.strCells s).length) (h':j<s.data.toList.length):(Lib.strCells s)[j]=.int .u8 (s.data.toList[j].toNat:Int):=by
 simp [Lib.strCells]
theorem info_byte:(Tryz.prog.info? 5).map (fun i=>(i.zero,i.size,i.bytes))=some (some (.int .u8 0),1,1):=by kernel_rfl
theorem run_appS (w:World) (ty:TypeId) (g cap n:Nat) (l:List UInt8) (hn:l.length=n) (h:Ox w g cap l) (s:ByteArray) (hl:l.length+s.size≤140737488355328) (hm:l.length+s.size≤maxLen) :
  ∃ k cap' w',(Builtin.append_ #[22,9] ty #[.slice (some ⟨g,0,none⟩) n cap,.string s]).run Tryz.prog w=.ok (.slice (some ⟨k,0,none⟩) (n+s.size) cap') w'∧Ox w' k cap' (l ++ s.data.toList)∧w.grownBy w' (some g)∧(k=g ∨ k=w.heap.size):=by
 subst hn
 obtain ⟨i0,hi,hz0,hz1,hz2⟩:=info_parts info_byte
 have hsl:s.data.toList.length=s.size:=by simp
 have hcl:(Lib.strCells s).length=s.size:=Lib.strCells_length s
 by_cases hroom:l.length+s.size≤cap
 ·
  have hf:=Lib.run_firstCells_string (P:=Tryz.prog) w 1 s
  have hst:=run_storeCells_cells (P:=Tryz.prog) g l.length (Lib.strCells s) 0 w (fun j hj=>by rw [Nat.add_zero];exact h.some _ (by omega)) (fun j hj=>by rw [Nat.add_zero];exact h.free _ (by omega)) (Lib.strCells_oneCell s)
  rw [Nat.add_zero] at hst
  have hin:=World.cell?_setCells_in g (Lib.strCells s) l.length w (fun j hj=>h.some _ (by omega))
  have hout:∀ j,¬ (l.length≤j∧j<l.length+s.size)→(w.setCells g l.length (Lib.strCells s)).cell? ⟨g,j,none⟩=w.cell? ⟨g,j,none⟩:=fun j hj=>World.cell?_setCells_out g (Lib.strCells s) l.length _ _ (fun _ _=>by rw [hcl];show j<_ ∨ _≤j;omega)
  refine ⟨g,cap,w.setCells g l.length (Lib.strCells s),?_,⟨by rw [set_size];exact h.lt,by rw [List.length_append];omega,h.max,fun j hj=>?_,fun j hj=>?_,fun j hj=>by rw [World.frozen?_setCells];exact h.free j hj⟩,set_grown _ _ _ _,.inl rfl⟩
  ·
   simp [Builtin.append_,run_underlying Tryz.underlying22,run_underlying Tryz.underlying9,sizeOf,typeInfo,hi,hz1,Builtin.lenOf,hroom,hf,Addr.add_lit,hst]
  ·
   by_cases hjl:j<l.length
   ·
    rw [hout j (by omega),h.cell j hjl,List.getElem_append_left hjl]
   ·
    rw [List.length_append] at hj
    have:=hin (j-l.length) (by omega)
    rw [show l.length+(j-l.length)=j by omega] at this
    rw [this,str_get s (j-l.length) (by omega) (by omega),List.getElem_append_right (by omega)]
  ·
   by_cases hjl:l.length≤j∧j<l.length+s.size
   ·
    have:=hin (j-l.length) (by omega)
    rw [show l.length+(j-l.length)=j by omega] at this
    rw [this];rfl
   ·
    rw [hout j hjl];exact h.some j hj
 ·
  have hr:=Lib.run_append_grow_string (P:=Tryz.prog) w 22 9 ty 5 i0 (.int .u8 0) Tryz.underlying22 Tryz.underlying9 hi hz0 ⟨g,0,none⟩ l.length cap (Lib.byteCells l) (by rw [hz1];simp [Lib.byteCells]) (fun j v hj=>by
   rw [Go.WideShapes.add_plain,Nat.zero_add]
   have hjl:j<l.length:=by have:=(List.getElem?_eq_some_iff.1 hj).1;simpa [Lib.byteCells] using this
   rw [h.cell j hjl]
   simp [Lib.byteCells,List.getElem?_eq_getElem hjl] at hj
   rw [← hj]) s (by omega) (by unfold maxLen at hm;omega) (by rw [hz2];exact growslice_fits (by omega) (by omega))
  have hge:=grownCap_ge w (l.length+s.size) cap 5
  have hcm:=grownCap_le_maxLen w (l.length+s.size) cap 5 hm
  refine ⟨w.heap.size,grownCap w (l.length+s.size) cap 5,_,hr,?_,⟨rfl,rfl,rfl,by simp,fun k hk _=>heap_alloc_old w.drew _ (by simpa using hk)⟩,.inr rfl⟩
  have hh:(w.drew.alloc (.cells ((Lib.byteCells l).toArray ++ (Lib.strCells s).toArray ++ Builtin.zeroCells (Value.int .u8 0).cells (grownCap w (l.length+s.size) cap 5-(l.length+s.size))) 5)).heap[w.heap.size]? = some (.cells ((Lib.byteCells l).toArray ++ (Lib.strCells s).toArray ++ Builtin.zeroCells (Value.int .u8 0).cells (grownCap w (l.length+s.size) cap 5-(l.length+s.size))) 5):=heap_alloc_new w.drew _
  generalize w.drew.alloc (.cells ((Lib.byteCells l).toArray ++ (Lib.strCells s).toArray ++ Builtin.zeroCells (Value.int .u8 0).cells (grownCap w (l.length+s.size) cap 5-(l.length+s.size))) 5)=W at hh
  have hz8:(Value.int IntKind.u8 0).cells.size=1:=rfl
  have hsz:((Lib.byteCells l).toArray ++ (Lib.strCells s).toArray ++ Builtin.zeroCells (Value.int .u8 0).cells (grownCap w (l.length+s.size) cap 5-(l.length+s.size))).size=grownCap w (l.length+s.size) cap 5:=by
   simp only [Array.size_append,List.size_toArray,size_zeroCells,hz8,hcl]
   simp only [Lib.byteCells,List.length_map]
   omega
  refine ⟨(Array.getElem?_eq_some_iff.1 hh).1,by rw [List.length_append];omega,hcm,fun j hj=>?_,fun j hj=>?_,fun j hj=>?_⟩
  ·
   simp only [World.cell?,hh]
   rw [List.length_append] at hj
   have e1:(Lib.byteCells l).toArray ++ (Lib.strCells s).toArray=(Lib.byteCells (l ++ s.data.toList)).toArray:=by simp [Lib.byteCells,Lib.strCells]
   rw [e1,Array.getElem?_append_left (by simp [Lib.byteCells];omega)]
   rw [List.getElem?_toArray]
   unfold Lib.byteCells
   rw [List.getElem?_map,List.getElem?_eq_getElem (by rw [List.length_append];omega)]
   rfl
  ·
   simp only [World.cell?,hh]
   rw [Array.getElem?_eq_getElem (by rw [hsz];exact hj)];rfl
  ·
   simp [World.frozen?,hh]
theorem wpl_appS {ops:Array Oper} {rest:List Oper} {o:Oper} {a:Act} {w:World} {Q:Exit→Act→World→Prop} (hgd:o.guard=none) (sl x:Operand)
  (ho:o.op=.call { callee:=.builtin .append,args:=#[sl,x],argTypes:=#[22,9] }) (g cap n:Nat) (l:List UInt8) (hn:l.length=n) (hs:a.eval sl=.slice (some ⟨g,0,none⟩) n cap) (h:Ox w g cap l) (s:ByteArray) (hx:a.eval x=.string s) (L:List UInt8) (hL:l ++ s.data.toList=L) (hl:L.length≤1000000)
  (hq:∀ k cap' w',Ox w' k cap' L→w.grownBy w' (some g)→(k=g ∨ k=w.heap.size)→wpList Tryz.prog ops Q rest (a.put o.dst (.slice (some ⟨k,0,none⟩) L.length cap')) w'):wpList Tryz.prog ops Q (o :: rest) a w:=by
 have hLl:L.length=n+s.size:=by rw [← hL,List.length_append,hn];simp
 refine wpList_plain hgd fun K hK=>?_
 obtain ⟨k,cap',w',hr,h2,h3,h4⟩:=run_appS w o.type g cap n l hn h s (by omega) (by unfold maxLen;omega)
 rw [hL] at h2
 rw [← hLl] at hr
 unfold Oper.wp execOp
 simp only [ho,resolve,invoke,builtin,Sem.run_bind,Sem.run_pure,Result.andThen_ok,List.map_toArray,List.map_cons,List.map_nil,hs,hx,hr]
 exact hK _ _ (hq k cap' w' h2 h3 h4)
theorem step_appS {ops:Array Oper} {o:Oper} {a:Act} {w:World} {K:Act→World→Prop} {Q:Exit→Act→World→Prop} {E:Prop} (hgd:o.guard=none) (sl x:Operand)
  (ho:o.op=.call { callee:=.builtin .append,args:=#[sl,x],argTypes:=#[22,9] }) (g cap n:Nat) (l:List UInt8) (hn:l.length=n) (hs:a.eval sl=.slice (some ⟨g,0,none⟩) n cap) (h:Ox w g cap l) (s:ByteArray) (hx:a.eval x=.string s) (L:List UInt8) (hL:l ++ s.data.toList=L) (hl:L.length≤1000000)
  (hq:∀ k cap' w',Ox w' k cap' L→w.grownBy w' (some g)→(k=g ∨ k=w.heap.size)→K (a.put o.dst (.slice (some ⟨k,0,none⟩) L.length cap')) w') :
  if Region.wanted o (yielded ops a.tmps)=true then Oper.wp Tryz.prog o a w K Q else E:=by
 have hw:Region.wanted o (yielded ops a.tmps)=true:=by simp [Region.wanted,hgd]
 rw [if_pos hw]
 have hLl:L.length=n+s.size:=by rw [← hL,List.length_append,hn];simp
 obtain ⟨k,cap',w',hr,h2,h3,h4⟩:=run_appS w o.type g cap n l hn h s (by omega) (by unfold maxLen;omega)
 rw [hL] at h2
 rw [← hLl] at hr
 unfold Oper.wp execOp
 simp only [ho,resolve,invoke,builtin,Sem.run_bind,Sem.run_pure,Result.andThen_ok,List.map_toArray,List.map_cons,List.map_nil,hs,hx,hr]
 exact hq k cap' w' h2 h3 h4
theorem ox_conv (w:World) (s:ByteArray) (hl:s.size≤maxLen):Ox (Lib.bytesWorld w 5 s) w.heap.size (grownCap w s.size 0 5) s.data.toList∧Below w.heap.size w (Lib.bytesWorld w 5 s):=by
 have hge:=grownCap_ge w s.size 0 5
 have hcm:=grownCap_le_maxLen w s.size 0 5 hl
 have hh:=Lib.bytesWorld_at_new w 5 s
 have hsz:(Lib.bytesCells w 5 s).size=grownCap w s.size 0 5:=by
  simp [Lib.bytesCells]
  have:s.data.size=s.size:=rfl
  omega
 have hs2:=Lib.bytesWorld_size w 5 s
 refine ⟨⟨by omega,by simpa using hge,hcm,fun j hj=>?_,fun j hj=>?_,fun j hj=>?_⟩,⟨rfl,rfl,rfl,by omega,fun k hk=>Lib.bytesWorld_at_old w 5 s k hk⟩⟩
 ·
  have hj':j<s.size:=by simpa using hj
  rw [Lib.bytesWorld_cell w 5 s j hj']
  simp [List.getD_eq_getElem?_getD,hj']
 ·
  simp only [World.cell?,hh]
  rw [Array.getElem?_eq_getElem (by rw [hsz];exact hj)];rfl
 ·
  simp only [World.frozen?,hh,hsz]
  simp
  omega
end Go.Proofs.YtaojoamldoofpaaGreatDoor.Ob
namespace Go.Proofs.YtaojoamldoofpaaGreatDoor.Pc
set_option maxRecDepth 100000
open Go.RowKit
def pieces (c:UInt8):List UInt8→List (List UInt8)
 | []=>[[]]
 | x :: r=>if x=c then [] :: pieces c r else (x :: (pieces c r).headD []) :: (pieces c r).tail
theorem pieces_ne (c:UInt8) (l:List UInt8):pieces c l≠[]:=by cases l <;> simp [pieces];split <;> simp
theorem pieces_no (c:UInt8):∀ (l:List UInt8),c ∉ l→pieces c l=[l]
 | [],_=>rfl
 | x :: r,h=>by
  have h1:¬ x=c:=fun e=>h (by rw [e];simp)
  have h2:c ∉ r:=fun e=>h (by simp [e])
  simp [pieces,h1,pieces_no c r h2]
theorem pieces_cut (c:UInt8) (r:List UInt8):∀ (a:List UInt8),c ∉ a→pieces c (a ++ c :: r)=a :: pieces c r
 | [],_=>by simp [pieces]
 | x :: a,h=>by
  have h1:¬ x=c:=fun e=>h (by rw [e];simp)
  have h2:c ∉ a:=fun e=>h (by simp [e])
  simp [pieces,h1,pieces_cut c r a h2]
theorem first_cut (c:UInt8):∀ (l:List UInt8),c ∉ l ∨ ∃ a r,l=a ++ c :: r∧c ∉ a
 | []=>.inl (by simp)
 | x :: l=>by
  by_cases h:x=c
  ·
   exact .inr ⟨[],l,by simp [h],by simp⟩
  ·
   rcases first_cut c l with h' | ⟨a,r,e,h'⟩
   ·
    exact .inl (by simp;exact ⟨fun e=>h e.symm,h'⟩)
   ·
    exact .inr ⟨x :: a,r,by rw [e];rfl,by simp;exact ⟨fun e=>h e.symm,h'⟩⟩
theorem index_no (c:UInt8):∀ (l:List UInt8),c ∉ l→Lib.index l [c] = -1
 | [],_=>rfl
 | x :: l,h=>by
  have h1:¬ c=x:=fun e=>h (by rw [e];simp)
  have h2:c ∉ l:=fun e=>h (by simp [e])
  rw [Lib.index,index_no c l h2]
  simp [h1]
theorem index_at (c:UInt8) (r:List UInt8):∀ (a:List UInt8),c ∉ a→Lib.index (a ++ c :: r) [c]=a.length
 | [],_=>by simp [Lib.index]
 | x :: a,h=>by
  have h1:¬ c=x:=fun e=>h (by rw [e];simp)
  have h2:c ∉ a:=fun e=>h (by simp [e])
  rw [List.cons_append,Lib.index,index_at c r a h2,if_neg (by simp [h1]),if_neg (by simp)]
  simp
theorem split_pieces (c:UInt8):∀ (k:Nat) (l:List UInt8),l.length≤k→Lib.splitK [c] 0 (Lib.count l [c]) l=pieces c l:=by
 intro k
 induction k with
 | zero =>
  intro l h
  obtain rfl:l=[]:=List.length_eq_zero_iff.1 (by omega)
  rw [Lib.count_miss (index_no c [] (by simp))];rfl
 | succ k ih =>
  intro l h
  rcases first_cut c l with hn | ⟨a,r,rfl,hn⟩
  ·
   rw [Lib.count_miss (index_no c l hn),pieces_no c l hn];rfl
  ·
   have hi:=index_at c r a hn
   rw [Lib.count_hit (by simp) hi,Nat.add_comm,Lib.splitK,if_neg (by rw [hi];simp),hi,pieces_cut c r a hn]
   have e1:(a ++ c :: r).take ((a.length:Int).toNat+0)=a:=by simp
   have e2:(a ++ c :: r).drop ((a.length:Int).toNat+[c].length)=r:=by simp
   have e3:(a ++ c :: r).drop (a.length+[c].length)=r:=by simp
   rw [e1,e2,e3,ih r (by simp at h;omega)]
theorem cut_no (c:UInt8) (l:List UInt8) (h:c ∉ l):Lib.cut l [c]=(l,[],false):=by
 unfold Lib.cut;rw [index_no c l h,if_neg (by omega)]
theorem cut_at (c:UInt8) (a r:List UInt8) (h:c ∉ a):Lib.cut (a ++ c :: r) [c]=(a,r,true):=by
 unfold Lib.cut;rw [index_at c r a h,if_pos (by omega)];simp
def ba (l:List UInt8):ByteArray:=⟨l.toArray⟩
theorem ba_data (l:List UInt8):(ba l).data.toList=l:=by simp [ba]
theorem ba_of (s:ByteArray):ba s.data.toList=s:=by obtain ⟨⟨l⟩⟩:=s;rfl
theorem ba_size (l:List UInt8):(ba l).size=l.length:=by simp [ba,ByteArray.size]
def pcs (c:UInt8) (l:List UInt8):List ByteArray:=(pieces c l).map ba
theorem splitB_pcs (c:UInt8) (s:ByteArray):Lib.splitB ⟨#[c]⟩ 0 (Lib.countB s ⟨#[c]⟩) s=pcs c s.data.toList:=by
 have h:=Lib.splitB_data ⟨#[c]⟩ 0 (Lib.countB s ⟨#[c]⟩) s
 have h2:Lib.splitK [c] 0 (Lib.countB s ⟨#[c]⟩) s.data.toList=pieces c s.data.toList:=split_pieces c _ s.data.toList (Nat.le_refl _)
 rw [show (ByteArray.mk #[c]).data.toList=[c] from rfl,h2] at h
 unfold pcs
 rw [← h,List.map_map]
 conv=>lhs;rw [← List.map_id (Lib.splitB ⟨#[c]⟩ 0 (Lib.countB s ⟨#[c]⟩) s)]
 apply List.map_congr_left
 intro x _
 exact (ba_of x).symm
theorem pieces_mem (c:UInt8):∀ (l:List UInt8),∀ p ∈ pieces c l,p.length≤l.length
 | [],p,h=>by simp [pieces] at h;subst h;simp
 | x :: l,p,h=>by
  unfold pieces at h
  split at h
  ·
   rcases List.mem_cons.1 h with rfl | h
   ·
    simp
   ·
    have:=pieces_mem c l p h;simp;omega
  ·
   rcases List.mem_cons.1 h with rfl | h
   ·
    have hm:(pieces c l).headD [] ∈ pieces c l:=by
     cases e:pieces c l with
     | nil=>exact absurd e (pieces_ne c l)
     | cons q qs=>simp
    have:=pieces_mem c l _ hm
    simp only [List.length_cons];omega
   ·
    have:=pieces_mem c l p (List.mem_of_mem_tail h);simp;omega
theorem pieces_len (c:UInt8):∀ (l:List UInt8),(pieces c l).length≤l.length+1
 | []=>by simp [pieces]
 | x :: l=>by
  have:=pieces_len c l
  unfold pieces
  split
  ·
   simp;omega
  ·
   simp;omega
end Go.Proofs.YtaojoamldoofpaaGreatDoor.Pc
namespace Go.Proofs.YtaojoamldoofpaaGreatDoor.Sp
set_option maxRecDepth 100000
open Go.RowKit
open Li (ret_bool grown_trans grown_set below_none)
def Far (c:UInt8) (s:List UInt8) (acc:List ByteArray) (f i:Nat):Prop :=
 (i≤s.length∧f≤i∧Pc.pcs c s=acc ++ Pc.pcs c (s.drop f)∧c ∉ (s.drop f).take (i-f)) ∨ (i=s.length+1∧f≤i∧Pc.pcs c s=acc)
theorem far_zero (c:UInt8) (s:List UInt8):Far c s [] 0 0:=.inl ⟨Nat.zero_le _,Nat.le_refl _,by simp,by simp⟩
theorem far_on {c:UInt8} {s:List UInt8} {acc:List ByteArray} {f i:Nat} (h:Far c s acc f i) (hi:i<s.length) (hc:¬ s[i]=c):Far c s acc f (i+1):=by
 rcases h with ⟨h1,h2,h3,h4⟩ | ⟨h1,_⟩
 ·
  refine .inl ⟨by omega,by omega,h3,?_⟩
  rw [show i+1-f=(i-f)+1 by omega,List.take_add_one,List.getElem?_drop,show f+(i-f)=i by omega,List.getElem?_eq_getElem hi]
  simp only [Option.toList_some,List.mem_append,List.mem_singleton,not_or]
  exact ⟨h4,fun e=>hc e.symm⟩
 ·
  omega
theorem far_cut {c:UInt8} {s:List UInt8} {acc:List ByteArray} {f i:Nat} (h:Far c s acc f i) (hi:i<s.length) (hc:s[i]=c):Far c s (acc ++ [Pc.ba ((s.drop f).take (i-f))]) (i+1) (i+1):=by
 rcases h with ⟨h1,h2,h3,h4⟩ | ⟨h1,_⟩
 ·
  refine .inl ⟨by omega,Nat.le_refl _,?_,by simp⟩
  have e:s.drop f=(s.drop f).take (i-f) ++ c :: s.drop (i+1):=by
   conv=>lhs;rw [← List.take_append_drop (i-f) (s.drop f)]
   rw [List.drop_drop,show f+(i-f)=i by omega,List.drop_eq_getElem_cons hi,hc]
  rw [h3,List.append_assoc]
  congr 1
  unfold Pc.pcs
  conv=>lhs;rw [e,Pc.pieces_cut c _ _ h4]
  rfl
 ·
  omega
theorem far_end {c:UInt8} {s:List UInt8} {acc:List ByteArray} {f i:Nat} (h:Far c s acc f i) (hi:i=s.length):Far c s (acc ++ [Pc.ba ((s.drop f).take (i-f))]) (i+1) (i+1):=by
 rcases h with ⟨h1,h2,h3,h4⟩ | ⟨h1,_⟩
 ·
  refine .inr ⟨by omega,Nat.le_refl _,?_⟩
  have e:(s.drop f).take (i-f)=s.drop f:=List.take_of_length_le (by rw [List.length_drop];omega)
  rw [e] at h4 ⊢
  rw [h3]
  unfold Pc.pcs
  rw [Pc.pieces_no c _ h4]
  rfl
 ·
  omega
theorem ext_eq (s:ByteArray) (a b:Nat):s.extract a b=Pc.ba ((s.data.toList.drop a).take (b-a)):=by
 rw [← Pc.ba_of (s.extract a b)]
 congr 1
 rw [ByteArray.data_extract,Array.toList_extract,List.extract_eq_take_drop]
theorem at_eq (s:ByteArray) (i:Nat) (_h:i<s.size) (h':i<s.data.toList.length):s.data.toList[i]=s[i]'_h:=by rw [Array.getElem_toList];rfl
set_option maxHeartbeats 2000000 in
theorem parts (w:World) (s:ByteArray) (c:UInt8) (hs:s.size≤1048576) :
  Calls Tryz.prog 27 #[.string s,.int .u8 (c.toNat:Int)] w fun e w'=>∃ v,e=.returned v∧Ls.Own w' w.heap.size v (Pc.pcs c s.data.toList)∧Below w.heap.size w w':=by
 obtain ⟨i0,hi,hz0,hz1,hz2⟩:=info_parts Ls.info_str
 go_enter Tryz.func27,Tryz.ntmps27
 go_wp2
 have own0:Ls.Own (w.alloc (.cells #[] 9)) w.heap.size (.slice (some ⟨w.heap.size,0,none⟩) 0 0) []:=by
  unfold Ls.Own
  exact ⟨by simp [Ls.sv],.inr ⟨w.heap.size,0,_,rfl,Nat.le_refl _,heap_alloc_new _ _,Nat.le_refl _,by unfold maxLen;omega,by simp,by simp [Ls.sv]⟩⟩
 go_loopw [5,6,7] (fun v f i wr=>∃ (acc:List ByteArray) (kf ki:Nat),Far c s.data.toList acc kf ki∧f=.int .i64 kf∧i=.int .i64 ki∧acc.length≤ki∧Ls.Own wr w.heap.size v acc∧Below w.heap.size w wr) (fun _ _ i _=>s.size+2-(intOf i).toNat)
 case atStart=>exact ⟨[],0,0,far_zero _ _,rfl,rfl,by simp,own0,(Below.refl _ _).alloc (Nat.le_refl _) _⟩
 case round =>
  obtain ⟨acc,kf,ki,hfar,rfl,rfl,hal,hown,hB⟩:=hrel
  have HF:Hid (Far c s.data.toList acc kf ki):=hfar
  have hsl:s.data.toList.length=s.size:=by simp
  have hkf:kf≤ki∧ki≤s.size+1:=by rcases hfar with h | h <;> omega
  have HS:Hid (s.data.toList.length=s.size):=hsl
  clear hfar hsl own0
  by_cases h1:ki≤s.size
  ·
   by_cases h2:ki<s.size
   ·
    have hne:((ki:Int) == (s.size:Int))=false:=by simp;omega
    have hsz:=hB.size
    have hL:ki<s.data.toList.length:=by have:=HS.out;omega
    have HQ:=at_eq s ki h2 hL
    by_cases hc:s[ki]'h2=c
    ·
     have hb:(((s[ki]'h2).toNat:Int) == (c.toNat:Int))=true:=by rw [hc];simp
     have HN:Hid (Far c s.data.toList (acc ++ [s.extract kf ki]) (ki+1) (ki+1)):=by show Far _ _ _ _ _;rw [ext_eq];exact far_cut HF.out hL (HQ.trans hc)
     clear hc HQ hL
     go_wp2_with (at_builtin;refine wpList_append_own _ rfl _ _ 44 rfl w.heap.size 9 i0 (.string ⟨#[]⟩) 1 16 Tryz.underlying44 hi hz0 hz1 hz2 rfl (by decide) _ _ _ rfl (World.ownsRow.alloc hown _) ⟨wr.heap.size,0,none⟩ 1 1 [.string (s.extract kf ki)] rfl rfl (Ap.one_cell _ _ _ rfl) (Ap.one_one _ rfl) (by unfold maxLen;omega) (by omega) (by simp;omega) ?_;intro v5 w5 hown5 hgrow _)
     have HO:Hid (Ls.Own w5 w.heap.size v5 (acc ++ [s.extract kf ki])):=Ap.sown_snoc rfl hown5
     have HBn:Hid (Below w.heap.size w w5):=(hB.alloc hB.size _).trans (Li.below_own hgrow (fun k hk=>(World.ownsRow.lt hown k hk).1) (by simp;omega))
     clear hown5 hgrow hown hB
     go_wp2
     go_roundw
     case rel=>exact ⟨acc ++ [s.extract kf ki],ki+1,ki+1,HN.out,by go_num,by go_num,by simp;omega,HO.out,HBn.out⟩
     case measure=>simp [intOf];omega
    ·
     have hb:(((s[ki]'h2).toNat:Int) == (c.toNat:Int))=false:=by
      simp only [beq_eq_false_iff_ne,ne_eq]
      intro e
      exact hc (UInt8.toNat_inj.1 (by omega))
     have HN:Hid (Far c s.data.toList acc kf (ki+1)):=far_on HF.out hL (by rw [HQ];exact hc)
     clear hc HQ hL
     go_wp2
     go_roundw
     case rel=>exact ⟨acc,kf,ki+1,HN.out,rfl,by go_num,by omega,hown,hB⟩
     case measure=>simp [intOf];omega
   ·
    have hki:ki=s.size:=by omega
    have hsz:=hB.size
    have HN:Hid (Far c s.data.toList (acc ++ [s.extract kf ki]) (ki+1) (ki+1)):=by show Far _ _ _ _ _;rw [ext_eq];exact far_end HF.out (by rw [HS.out];exact hki)
    have heq:((ki:Int) == (s.size:Int))=true:=by simp;omega
    have h2':¬ s.size<ki:=by omega
    have HK:Hid (ki=s.size):=hki
    clear hki
    go_wp2_with (at_builtin;refine wpList_append_own _ rfl _ _ 44 rfl w.heap.size 9 i0 (.string ⟨#[]⟩) 1 16 Tryz.underlying44 hi hz0 hz1 hz2 rfl (by decide) _ _ _ rfl (World.ownsRow.alloc hown _) ⟨wr.heap.size,0,none⟩ 1 1 [.string (s.extract kf ki)] rfl rfl (Ap.one_cell _ _ _ rfl) (Ap.one_one _ rfl) (by unfold maxLen;omega) (by omega) (by simp;omega) ?_;intro v5 w5 hown5 hgrow _)
    have HO:Hid (Ls.Own w5 w.heap.size v5 (acc ++ [s.extract kf ki])):=Ap.sown_snoc rfl hown5
    have HBn:Hid (Below w.heap.size w w5):=(hB.alloc hB.size _).trans (Li.below_own hgrow (fun k hk=>(World.ownsRow.lt hown k hk).1) (by simp;omega))
    clear hown5 hgrow hown hB
    go_wp2
    go_roundw
    case rel=>exact ⟨acc ++ [s.extract kf ki],ki+1,ki+1,HN.out,by go_num,by go_num,by simp;omega,HO.out,HBn.out⟩
    case measure=>simp [intOf];omega
  ·
   have HE:Hid (Pc.pcs c s.data.toList=acc):=by
    rcases HF.out with h | h
    ·
     have:=HS.out;omega
    ·
     exact h.2.2
   go_wp2
   go_ret
   exact ⟨_,rfl,by rw [HE.out];exact hown,hB⟩
end Go.Proofs.YtaojoamldoofpaaGreatDoor.Sp
