/-
  Contracts that the proof leans on, put together in the order in which they build.
-/
import Derived.Test.YtaojoamldoofpaaGreatDoorPart7
import Derived.Deep.DeepMust
import Derived.Test.YtaojoamldoofpaaGreatDoorPart1
import Derived.Deep.RegionHeld3
import Derived.Deep.RegionHeldLaw
import Derived.Test.YtaojoamldoofpaaGreatDoorPart2
import Derived.Deep.AppendLies
import Derived.Deep.RegionLaw
import Derived.Deep.RegionWith
set_option linter.unusedVariables false
namespace Go.Proofs.YtaojoamldoofpaaGreatDoor.Tk
set_option maxRecDepth 20000
open Go.RowKit
open Tb
open Li (ret_bool btw between_any)
def nok (xs:List Int):Bool:=xs.all fok
def cok (ws:List ByteArray):Bool:=ws.all wok
def rok (n c:Int) (r:Row):Bool:=sok n c && (decide ((r.nums.length:Int)=n) && (decide ((r.cats.length:Int)=c) && (nok r.nums && (cok r.cats && lok r.label))))
theorem rok_sok {n c:Int} {r:Row} (h:sok n c=false):rok n c r=false:=by simp [rok,h]
theorem rok_n {n c:Int} {r:Row} (h:¬ (r.nums.length:Int)=n):rok n c r=false:=by simp [rok,h]
theorem rok_c {n c:Int} {r:Row} (h:¬ (r.cats.length:Int)=c):rok n c r=false:=by simp [rok,h]
theorem rok_nok {n c:Int} {r:Row} (h:nok r.nums=false):rok n c r=false:=by simp [rok,h]
theorem rok_cok {n c:Int} {r:Row} (h:cok r.cats=false):rok n c r=false:=by simp [rok,h]
theorem rok_lok {n c:Int} {r:Row} (h:lok r.label=false):rok n c r=false:=by simp [rok,h]
theorem rok_all {n c:Int} {r:Row} (h0:sok n c=true) (h1:(r.nums.length:Int)=n) (h2:(r.cats.length:Int)=c) (h3:nok r.nums=true) (h4:cok r.cats=true) (h5:lok r.label=true):rok n c r=true:=by
 simp [rok,h0,h1,h2,h3,h4,h5]
theorem rok_iff {n c:Int} {r:Row} : rok n c r=true↔sok n c=true∧(r.nums.length:Int)=n∧(r.cats.length:Int)=c∧nok r.nums=true∧cok r.cats=true∧lok r.label=true:=by
 simp [rok]
theorem pre_snoc {α:Type} (p:α→Bool) (xs:List α) (k:Nat) (h:k<xs.length) (ha:(xs.take k).all p=true) (hb:p xs[k]=true):(xs.take (k+1)).all p=true:=by
 rw [List.take_succ_eq_append_getElem h];simp only [List.all_append,ha,List.all_cons,hb,List.all_nil,Bool.and_true]
theorem pre_no {α:Type} (p:α→Bool) (xs:List α) (k:Nat) (h:k<xs.length) (hb:p xs[k]=false):xs.all p=false:=by
 cases e:xs.all p
 ·
  rfl
 ·
  have:=List.all_eq_true.1 e _ (List.getElem_mem h)
  rw [hb] at this;cases this
theorem pre_end {α:Type} (p:α→Bool) (xs:List α) (k:Nat) (h:¬ k<xs.length) (ha:(xs.take k).all p=true):xs.all p=true:=by
 rwa [List.take_of_length_le (by omega)] at ha
theorem word_le (ws:List ByteArray) (k:Nat) (h:k<ws.length):ws[k].size≤lets ws:=by
 have h1:=lets_take ws k h
 have h2:=lets_le ws (k+1)
 omega
def Box2 (w:World) (b:Nat) (v0 v1:Value):Prop :=
 b<w.heap.size∧w.cell? ⟨b,0,none⟩=some v0∧w.cell? ⟨b,1,none⟩=some v1
theorem Box2.below {w w1:World} {b:Nat} {v0 v1:Value} (h:Box2 w b v0 v1) (hB:Below w.heap.size w w1):Box2 w1 b v0 v1:=by
 obtain ⟨hlt,c0,c1⟩:=h
 exact ⟨Nat.lt_of_lt_of_le hlt hB.size,(hB.cell (by exact hlt)).trans c0,(hB.cell (by exact hlt)).trans c1⟩
theorem boxes23 (w:World) (s0 s1 v0 v1 v2:Value) (T U:TypeId):∃ W,(w.alloc (.cells #[s0,s1] T)).alloc (.cells #[v0,v1,v2] U)=W∧W.heap.size=w.heap.size+2∧Below w.heap.size w W∧Box2 W w.heap.size s0 s1∧Box3 W (w.heap.size+1) v0 v1 v2:=by
 refine ⟨_,rfl,by simp,((Below.refl _ _).alloc (Nat.le_refl _) _).alloc (by simp) _,⟨by simp;omega,?_,?_⟩,?_⟩
 ·
  rw [World.cell?_alloc_lt _ _ ⟨w.heap.size,0,none⟩ (by simp)];simp
 ·
  rw [World.cell?_alloc_lt _ _ ⟨w.heap.size,1,none⟩ (by simp)];simp
 ·
  have:=box3_new (w.alloc (.cells #[s0,s1] T)) v0 v1 v2 U
  rwa [size_alloc] at this
set_option maxHeartbeats 2000000 in
theorem isam (w:World) (n c:Int) (v0 v1 v2:Value) (r:Row) (hr:RowIs w v0 v1 v2 r) (hl:r.sz≤1048576) :
  Calls Tryz.prog 151 #[.agg #[.int .i64 n,.int .i64 c],.agg #[v0,v1,v2]] w fun e w'=>e=.returned (.bool (rok n c r))∧Below w.heap.size w w':=by
 obtain ⟨a0,c0,a1,c1,rfl,rfl,rfl,i0,i1⟩:=hr
 unfold Row.sz at hl
 obtain ⟨W,hW,hsz,hB,bs,bx⟩:=boxes23 w (.int .i64 n) (.int .i64 c) (.slice a0 r.nums.length c0) (.slice a1 r.cats.length c1) (.int .i64 r.label) 25 114
 have HW:Hid ((w.alloc (.cells #[.int .i64 n,.int .i64 c] 25)).alloc (.cells #[.slice a0 r.nums.length c0,.slice a1 r.cats.length c1,.int .i64 r.label] 114)=W):=hW
 clear hW
 go_enter Tryz.func151,Tryz.ntmps151
 go_wp2_with fail
 rw [HW.out]
 clear HW
 refine (isch _ _ _).mono ?_
 rintro e w1 ⟨rfl,hB1⟩
 have bs:=bs.below hB1
 have bx:=bx.below hB1
 have hB:=hB.trans (hB1.mono hB.size)
 clear hB1 hsz
 have i0:=i0.below hB
 have i1:=i1.below hB
 obtain ⟨_,cs0,cs1⟩:=bs
 obtain ⟨hbx,⟨cx0,cx1,cx2⟩,_⟩:=id bx
 cases hs:sok n c
 ·
  have HR:Hid (rok n c r=false):=rok_sok hs
  go_wp2
  go_ret
  exact ⟨by rw [HR.out];rfl,hB⟩
 by_cases hn:(r.nums.length:Int)=n
 rotate_left
 ·
  have HR:Hid (rok n c r=false):=rok_n hn
  have hn':((r.nums.length:Int) != n)=true:=bne_iff_ne.2 hn
  clear hn
  go_wp2
  go_ret
  exact ⟨by rw [HR.out];rfl,hB⟩
 have hn':((r.nums.length:Int) != n)=false:=bne_eq_false_iff_eq.2 hn
 by_cases hc:(r.cats.length:Int)=c
 rotate_left
 ·
  have HR:Hid (rok n c r=false):=rok_c hc
  have hc':((r.cats.length:Int) != c)=true:=bne_iff_ne.2 hc
  clear hc hn
  go_wp2
  go_ret
  exact ⟨by rw [HR.out];rfl,hB⟩
 have hc':((r.cats.length:Int) != c)=false:=bne_eq_false_iff_eq.2 hc
 have HS:Hid (sok n c=true∧(r.nums.length:Int)=n∧(r.cats.length:Int)=c):=⟨hs,hn,hc⟩
 clear hn hc
 go_wp2
 go_loop [31] (fun i=>∃ k:Nat,k≤r.nums.length∧i=.int .i64 k∧(r.nums.take k).all fok=true) (fun i=>r.nums.length-(intOf i).toNat)
 case atStart=>exact ⟨0,Nat.zero_le _,rfl,rfl⟩
 case round =>
  obtain ⟨k,hk,rfl,ha⟩:=hrel
  have HA:Hid ((r.nums.take k).all fok=true):=ha
  clear ha
  by_cases hlt:k<r.nums.length
  ·
   rcases i0 with h0 | ⟨xb,xo,rfl,hxb,hxc⟩
   ·
    rw [h0] at hlt;simp at hlt
   ·
    have hcx:=hxc k hlt
    clear hxc
    cases hq:fok r.nums[k]
    ·
     have HR:Hid (rok n c r=false):=rok_nok (pre_no fok r.nums k hlt hq)
     go_wp2_with (go_at_call 37;refine (iok_any _ _).mono ?_;rintro e w' ⟨rfl,hw'⟩;subst w')
     go_ret
     exact ⟨by rw [HR.out];rfl,hB⟩
    ·
     have HN:Hid ((r.nums.take (k+1)).all fok=true):=pre_snoc fok r.nums k hlt HA.out hq
     go_wp2_with (go_at_call 37;refine (iok_any _ _).mono ?_;rintro e w' ⟨rfl,hw'⟩;subst w')
     go_round
     case rel=>exact ⟨k+1,by omega,by go_num,HN.out⟩
     case measure=>simp [intOf];omega
  ·
   have HN:Hid (nok r.nums=true):=pre_end fok r.nums k hlt HA.out
   clear HA
   go_wp2
   go_loopw [42] (fun i wr=>∃ k:Nat,k≤r.cats.length∧i=.int .i64 k∧(r.cats.take k).all wok=true∧Below w1.heap.size w1 wr) (fun i _=>r.cats.length-(intOf i).toNat)
   case atStart=>exact ⟨0,Nat.zero_le _,rfl,rfl,Below.refl _ _⟩
   case round =>
    obtain ⟨k,hk,rfl,ha,hBr⟩:=hrel
    have HA:Hid ((r.cats.take k).all wok=true):=ha
    clear ha
    by_cases hlt:k<r.cats.length
    ·
     rcases i1.below hBr with h0 | ⟨xb,xo,rfl,hxb,hxc⟩
     ·
      rw [h0] at hlt;simp at hlt
     ·
      have hcx:=hxc k hlt
      have hwl:=word_le r.cats k hlt
      clear hxc
      go_wp2_with fail
      refine (iword _ _ (by omega)).mono ?_
      rintro e w2 ⟨rfl,hB2⟩
      have hBr:=hBr.trans (hB2.mono hBr.size)
      have hB:=hB.trans (hBr.mono hB.size)
      clear hB2
      cases hq:wok r.cats[k]
      ·
       have HR:Hid (rok n c r=false):=rok_cok (pre_no wok r.cats k hlt hq)
       go_wp2
       go_ret
       exact ⟨by rw [HR.out];rfl,hB⟩
      ·
       have HC:Hid ((r.cats.take (k+1)).all wok=true):=pre_snoc wok r.cats k hlt HA.out hq
       go_wp2
       go_roundw
       case rel=>exact ⟨k+1,by omega,by go_num,HC.out,hBr⟩
       case measure=>simp [intOf];omega
    ·
     have HC:Hid (cok r.cats=true):=pre_end wok r.cats k hlt HA.out
     have hB:=hB.trans (hBr.mono hB.size)
     have bx:=bx.below hBr
     obtain ⟨_,⟨cx0,cx1,cx2⟩,_⟩:=bx
     have HR:Hid (rok n c r=lok r.label):=by
      cases hq:lok r.label
      ·
       exact rok_lok hq
      ·
       exact rok_all HS.out.1 HS.out.2.1 HS.out.2.2 HN.out HC.out hq
     clear hBr HA
     go_wp2_with (go_at_call 169;refine (ilab _ _).mono ?_;rintro e w' ⟨rfl,hw'⟩;subst w')
     go_ret
     exact ⟨by rw [HR.out];rfl,hB⟩
set_option maxHeartbeats 2000000 in
theorem ssam (w:World) (n c:Int) (v0 v1 v2:Value) (r:Row) (hr:RowIs w v0 v1 v2 r) (hl:r.sz≤1048576) :
  Calls Tryz.prog 117 #[.agg #[.int .i64 n,.int .i64 c],.agg #[v0,v1,v2]] w fun e w'=>e=.returned (.bool (rok n c r))∧Below w.heap.size w w':=by
 obtain ⟨a0,c0,a1,c1,rfl,rfl,rfl,i0,i1⟩:=hr
 unfold Row.sz at hl
 obtain ⟨W,hW,hsz,hB,bs,bx⟩:=boxes23 w (.int .i64 n) (.int .i64 c) (.slice a0 r.nums.length c0) (.slice a1 r.cats.length c1) (.int .i64 r.label) 25 114
 have HW:Hid ((w.alloc (.cells #[.int .i64 n,.int .i64 c] 25)).alloc (.cells #[.slice a0 r.nums.length c0,.slice a1 r.cats.length c1,.int .i64 r.label] 114)=W):=hW
 clear hW
 go_enter Tryz.func117,Tryz.ntmps117
 go_wp2_with fail
 rw [HW.out]
 clear HW
 refine (ssch _ _ _).mono ?_
 rintro e w1 ⟨rfl,hB1⟩
 have bs:=bs.below hB1
 have bx:=bx.below hB1
 have hB:=hB.trans (hB1.mono hB.size)
 clear hB1 hsz
 have i0:=i0.below hB
 have i1:=i1.below hB
 obtain ⟨_,cs0,cs1⟩:=bs
 obtain ⟨hbx,⟨cx0,cx1,cx2⟩,_⟩:=id bx
 cases hs:sok n c
 ·
  have HR:Hid (rok n c r=false):=rok_sok hs
  go_wp2
  go_ret
  exact ⟨by rw [HR.out];rfl,hB⟩
 by_cases hn:(r.nums.length:Int)=n
 rotate_left
 ·
  have HR:Hid (rok n c r=false):=rok_n hn
  have hn':((r.nums.length:Int) != n)=true:=bne_iff_ne.2 hn
  clear hn
  go_wp2
  go_ret
  exact ⟨by rw [HR.out];rfl,hB⟩
 have hn':((r.nums.length:Int) != n)=false:=bne_eq_false_iff_eq.2 hn
 by_cases hc:(r.cats.length:Int)=c
 rotate_left
 ·
  have HR:Hid (rok n c r=false):=rok_c hc
  have hc':((r.cats.length:Int) != c)=true:=bne_iff_ne.2 hc
  clear hc hn
  go_wp2
  go_ret
  exact ⟨by rw [HR.out];rfl,hB⟩
 have hc':((r.cats.length:Int) != c)=false:=bne_eq_false_iff_eq.2 hc
 cases hlb:lok r.label
 ·
  have HR:Hid (rok n c r=false):=rok_lok hlb
  clear hn hc
  go_wp2_with (go_at_call 125;refine (slab _ _).mono ?_;rintro e w' ⟨rfl,hw'⟩;subst w')
  go_ret
  exact ⟨by rw [HR.out];rfl,hB⟩
 have HS:Hid (sok n c=true∧(r.nums.length:Int)=n∧(r.cats.length:Int)=c∧lok r.label=true):=⟨hs,hn,hc,hlb⟩
 clear hn hc
 go_wp2_with (go_at_call 125;refine (slab _ _).mono ?_;rintro e w' ⟨rfl,hw'⟩;subst w')
 clear hlb
 go_loopw [5] (fun i wr=>∃ k:Nat,k≤r.nums.length∧i=.int .i64 k∧(r.nums.take k).all fok=true∧∃ n,wr=w1.drewN n) (fun i _=>r.nums.length-(intOf i).toNat)
 case atStart=>exact ⟨0,Nat.zero_le _,rfl,rfl,0,rfl⟩
 case round =>
  obtain ⟨k,hk,rfl,ha,nd,rfl⟩:=hrel
  have HA:Hid ((r.nums.take k).all fok=true):=ha
  clear ha
  by_cases hlt:k<r.nums.length
  ·
   rcases i0 with h0 | ⟨xb,xo,rfl,hxb,hxc⟩
   ·
    rw [h0] at hlt;simp at hlt
   ·
    have hcx:=hxc k hlt
    clear hxc
    cases hq:fok r.nums[k]
    ·
     have HR:Hid (rok n c r=false):=rok_nok (pre_no fok r.nums k hlt hq)
     go_wp2_with (go_at_call 54;refine (sok_any _ _).mono ?_;rintro e w' ⟨rfl,hw'⟩;subst w')
     go_ret
     exact ⟨by rw [HR.out];rfl,Go.below_drewN hB _⟩
    ·
     have HN:Hid ((r.nums.take (k+1)).all fok=true):=pre_snoc fok r.nums k hlt HA.out hq
     go_wp2_with (go_at_call 54;refine (sok_any _ _).mono ?_;rintro e w' ⟨rfl,hw'⟩;subst w')
     go_roundw
     case rel=>exact ⟨k+1,by omega,by go_num,HN.out,_,rfl⟩
     case measure=>simp [intOf];omega
  ·
   have HN:Hid (nok r.nums=true):=pre_end fok r.nums k hlt HA.out
   clear HA
   go_wp2
   go_loopw [6] (fun i wr=>∃ k:Nat,k≤r.cats.length∧i=.int .i64 k∧(r.cats.take k).all wok=true∧∃ n,wr=w1.drewN n) (fun i _=>r.cats.length-(intOf i).toNat)
   case atStart=>exact ⟨0,Nat.zero_le _,rfl,rfl,_,rfl⟩
   case round =>
    obtain ⟨k,hk,rfl,ha,nd',rfl⟩:=hrel
    have HA:Hid ((r.cats.take k).all wok=true):=ha
    clear ha
    by_cases hlt:k<r.cats.length
    ·
     rcases i1 with h0 | ⟨xb,xo,rfl,hxb,hxc⟩
     ·
      rw [h0] at hlt;simp at hlt
     ·
      have hcx:=hxc k hlt
      have hwl:=word_le r.cats k hlt
      clear hxc
      go_wp2_with fail
      refine (sword _ _ (by omega)).mono ?_
      rintro e w2 ⟨rfl,nd2,hw2⟩
      subst w2
      cases hq:wok r.cats[k]
      ·
       have HR:Hid (rok n c r=false):=rok_cok (pre_no wok r.cats k hlt hq)
       go_wp2
       go_ret
       exact ⟨by rw [HR.out];rfl,by first | exact Go.below_drewN hB _ | exact Go.below_drewN (Go.below_drewN hB _) _⟩
      ·
       have HC:Hid ((r.cats.take (k+1)).all wok=true):=pre_snoc wok r.cats k hlt HA.out hq
       go_wp2
       go_roundw
       case rel=>exact ⟨k+1,by omega,by go_num,HC.out,_,by first | rfl | exact World.drewN_drewN _ _ _⟩
       case measure=>simp [intOf];omega
    ·
     have HC:Hid (cok r.cats=true):=pre_end wok r.cats k hlt HA.out
     have HR:Hid (rok n c r=true):=rok_all HS.out.1 HS.out.2.1 HS.out.2.2.1 HN.out HC.out HS.out.2.2.2
     clear HA
     go_wp2
     go_ret
     exact ⟨by rw [HR.out];rfl,Go.below_drewN hB _⟩
def tok (n c:Int) (rs:List Row):Bool:=sok n c && (decide (rs.length≤40) && rs.all (rok n c))
theorem tok_sok {n c:Int} {rs:List Row} (h:sok n c=false):tok n c rs=false:=by simp [tok,h]
theorem tok_len {n c:Int} {rs:List Row} (h:¬ rs.length≤40):tok n c rs=false:=by simp [tok,h]
theorem tok_row {n c:Int} {rs:List Row} (h:rs.all (rok n c)=false):tok n c rs=false:=by unfold tok;rw [h];simp
theorem tok_all {n c:Int} {rs:List Row} (h0:sok n c=true) (h1:rs.length≤40) (h2:rs.all (rok n c)=true):tok n c rs=true:=by unfold tok;rw [h0,h2];simp [h1]
theorem tok_iff {n c:Int} {rs:List Row} : tok n c rs=true↔sok n c=true∧rs.length≤40∧rs.all (rok n c)=true:=by unfold tok;simp
theorem box3_new' (w:World) (v0 v1 v2:Value) (T:TypeId):∃ W,w.alloc (.cells #[v0,v1,v2] T)=W∧W.heap.size=w.heap.size+1∧Below w.heap.size w W∧Box3 W w.heap.size v0 v1 v2 :=
 ⟨_,rfl,by simp,(Below.refl _ _).alloc (Nat.le_refl _) _,box3_new _ _ _ _ _⟩
set_option maxHeartbeats 2000000 in
theorem itab (w:World) (n c:Int) (a:Option Addr) (cap:Nat) (rs:List Row) (hx:IsR w a rs) (hl:rs.length+szR rs≤1048576) :
  Calls Tryz.prog 115 #[.agg #[.int .i64 n,.int .i64 c,.slice a rs.length cap]] w fun e w'=>e=.returned (.bool (tok n c rs))∧Below w.heap.size w w':=by
 obtain ⟨W,hW,hsz,hB,bx⟩:=box3_new' w (.int .i64 n) (.int .i64 c) (.slice a rs.length cap) 79
 have HW:Hid (w.alloc (.cells #[.int .i64 n,.int .i64 c,.slice a rs.length cap] 79)=W):=hW
 clear hW
 go_enter Tryz.func115,Tryz.ntmps115
 go_wp2_with fail
 rw [HW.out]
 clear HW
 refine (isch _ _ _).mono ?_
 rintro e w1 ⟨rfl,hB1⟩
 have bx:=bx.below hB1
 have hB:=hB.trans (hB1.mono hB.size)
 clear hB1 hsz
 have hx:=hx.below hB
 obtain ⟨hbx,⟨cx0,cx1,cx2⟩,_⟩:=id bx
 cases hs:sok n c
 ·
  have HR:Hid (tok n c rs=false):=tok_sok hs
  go_wp2
  go_ret
  exact ⟨by rw [HR.out];rfl,hB⟩
 by_cases hn:rs.length≤40
 rotate_left
 ·
  have HR:Hid (tok n c rs=false):=tok_len hn
  have hn':(40:Int)<rs.length:=by omega
  clear hn
  go_wp2
  go_ret
  exact ⟨by rw [HR.out];rfl,hB⟩
 have hn':¬ (40:Int)<rs.length:=by omega
 have HS:Hid (sok n c=true):=hs
 clear hs
 go_wp2
 go_loopw [18] (fun i wr=>∃ k:Nat,k≤rs.length∧i=.int .i64 k∧(rs.take k).all (rok n c)=true∧Below w1.heap.size w1 wr) (fun i _=>rs.length-(intOf i).toNat)
 case atStart=>exact ⟨0,Nat.zero_le _,rfl,rfl,Below.refl _ _⟩
 case round =>
  obtain ⟨k,hk,rfl,ha,hBr⟩:=hrel
  have HA:Hid ((rs.take k).all (rok n c)=true):=ha
  clear ha
  by_cases hlt:k<rs.length
  ·
   rcases hx.below hBr with h0 | ⟨xb,xo,rfl,hxb,hxc⟩
   ·
    rw [h0] at hlt;simp at hlt
   ·
    obtain ⟨v0,v1,v2,⟨d0,d1,d2⟩,hr⟩:=hxc k hlt
    have hz:=szR_at rs k hlt
    have bxr:=bx.below hBr
    obtain ⟨_,⟨cx0,cx1,cx2⟩,_⟩:=id bxr
    clear hxc
    have hr':=hr
    obtain ⟨a0,q0,a1,q1,rfl,rfl,rfl,_,_⟩:=hr'
    go_wp2_with fail
    have hBa:Below wr.heap.size wr (wr.alloc (.cells #[.slice a0 rs[k].nums.length q0,.slice a1 rs[k].cats.length q1,.int .i64 rs[k].label] 114)):=(Below.refl _ _).alloc (Nat.le_refl _) _
    refine (isam _ _ _ _ _ _ rs[k] (hr.below hBa) (by omega)).mono ?_
    rintro e w2 ⟨rfl,hB2⟩
    have hB2:=hBa.trans (hB2.mono hBa.size)
    have hBr:=hBr.trans (hB2.mono hBr.size)
    have hB:=hB.trans (hBr.mono hB.size)
    clear hB2 hBa hr d0 d1 d2
    cases hq:rok n c rs[k]
    ·
     have HR:Hid (tok n c rs=false):=tok_row (pre_no _ rs k hlt hq)
     go_wp2
     go_ret
     exact ⟨by rw [HR.out];rfl,hB⟩
    ·
     have HN:Hid ((rs.take (k+1)).all (rok n c)=true):=pre_snoc _ rs k hlt HA.out hq
     go_wp2
     go_roundw
     case rel=>exact ⟨k+1,by omega,by go_num,HN.out,hBr⟩
     case measure=>simp [intOf];omega
  ·
   have HR:Hid (tok n c rs=true):=tok_all HS.out hn (pre_end _ rs k hlt HA.out)
   have hB:=hB.trans (hBr.mono hB.size)
   go_wp2
   go_ret
   exact ⟨by rw [HR.out];rfl,hB⟩
set_option maxHeartbeats 2000000 in
theorem stab (w:World) (n c:Int) (a:Option Addr) (cap:Nat) (rs:List Row) (hx:IsR w a rs) (hl:rs.length+szR rs≤1048576) :
  Calls Tryz.prog 92 #[.agg #[.int .i64 n,.int .i64 c,.slice a rs.length cap]] w fun e w'=>e=.returned (.bool (tok n c rs))∧Below w.heap.size w w':=by
 obtain ⟨W,hW,hsz,hB,bx⟩:=box3_new' w (.int .i64 n) (.int .i64 c) (.slice a rs.length cap) 79
 have HW:Hid (w.alloc (.cells #[.int .i64 n,.int .i64 c,.slice a rs.length cap] 79)=W):=hW
 clear hW
 go_enter Tryz.func92,Tryz.ntmps92
 go_wp2_with fail
 rw [HW.out]
 clear HW
 refine (ssch _ _ _).mono ?_
 rintro e w1 ⟨rfl,hB1⟩
 have bx:=bx.below hB1
 have hB:=hB.trans (hB1.mono hB.size)
 clear hB1 hsz
 have hx:=hx.below hB
 obtain ⟨hbx,⟨cx0,cx1,cx2⟩,_⟩:=id bx
 cases hs:sok n c
 ·
  have HR:Hid (tok n c rs=false):=tok_sok hs
  go_wp2
  go_ret
  exact ⟨by rw [HR.out];rfl,hB⟩
 by_cases hn:rs.length≤40
 rotate_left
 ·
  have HR:Hid (tok n c rs=false):=tok_len hn
  have hn':(40:Int)<rs.length:=by omega
  clear hn
  go_wp2
  go_ret
  exact ⟨by rw [HR.out];rfl,hB⟩
 have hn':¬ (40:Int)<rs.length:=by omega
 have HS:Hid (sok n c=true):=hs
 clear hs
 go_wp2
 go_loopw [3] (fun i wr=>∃ k:Nat,k≤rs.length∧i=.int .i64 k∧(rs.take k).all (rok n c)=true∧Below w1.heap.size w1 wr) (fun i _=>rs.length-(intOf i).toNat)
 case atStart=>exact ⟨0,Nat.zero_le _,rfl,rfl,Below.refl _ _⟩
 case round =>
  obtain ⟨k,hk,rfl,ha,hBr⟩:=hrel
  have HA:Hid ((rs.take k).all (rok n c)=true):=ha
  clear ha
  have bxr:=bx.below hBr
  obtain ⟨_,⟨cx0,cx1,cx2⟩,_⟩:=id bxr
  by_cases hlt:k<rs.length
  ·
   rcases hx.below hBr with h0 | ⟨xb,xo,rfl,hxb,hxc⟩
   ·
    rw [h0] at hlt;simp at hlt
   ·
    obtain ⟨v0,v1,v2,⟨d0,d1,d2⟩,hr⟩:=hxc k hlt
    have hz:=szR_at rs k hlt
    clear hxc
    go_wp2
    go_region_with (go_at_call 117;refine (ssam _ _ _ _ _ _ rs[k] (by exact hr) (by omega)).mono ?_;rintro e w2 ⟨rfl,hB2⟩)
    all_goals
     have hBr:Below w1.heap.size w1 w2:=by first | exact hBr.trans (hB2.mono hBr.size) | exact hBr.drew.trans (hB2.mono hBr.size)
     have hB:=hB.trans (hBr.mono hB.size)
     clear hB2 hr d0 d1 d2
     cases hq:rok n c rs[k]
     ·
      have HR:Hid (tok n c rs=false):=tok_row (pre_no _ rs k hlt hq)
      go_wp2
      go_ret
      exact ⟨by rw [HR.out];rfl,hB⟩
     ·
      have HN:Hid ((rs.take (k+1)).all (rok n c)=true):=pre_snoc _ rs k hlt HA.out hq
      go_wp2
      go_roundw
      case rel=>exact ⟨k+1,by omega,by go_num,HN.out,hBr⟩
      case measure=>simp [intOf];omega
  ·
   have HR:Hid (tok n c rs=true):=tok_all HS.out hn (pre_end _ rs k hlt HA.out)
   have hB:=hB.trans (hBr.mono hB.size)
   go_wp2
   go_ret
   exact ⟨by rw [HR.out];rfl,hB⟩
end Go.Proofs.YtaojoamldoofpaaGreatDoor.Tk
namespace Go.Proofs.YtaojoamldoofpaaGreatDoor.Tk
set_option maxRecDepth 20000
open Go.RowKit
open Tb
end Go.Proofs.YtaojoamldoofpaaGreatDoor.Tk
namespace Go.Proofs.YtaojoamldoofpaaGreatDoor.Mk
set_option maxRecDepth 100000
open Go.RowKit
open Tb
open Li (ret_bool grown_trans grown_set below_none)
end Go.Proofs.YtaojoamldoofpaaGreatDoor.Mk
namespace Go.Proofs.YtaojoamldoofpaaGreatDoor.Kt
set_option maxRecDepth 20000
open Go.RowKit
open Tb (ownsRow_at)
open Sv (Fr fr_below)
structure Kv where
 ws:List ByteArray
 vs:List Int
def ktot:List Kv→Nat
 | []=>0
 | t :: ts=>t.ws.length+t.vs.length+ktot ts
theorem ktot_take (ts:List Kv) (k:Nat) (h:k<ts.length):ktot (ts.take (k+1))=ktot (ts.take k)+(ts[k].ws.length+ts[k].vs.length):=by
 induction ts generalizing k with
 | nil=>simp at h
 | cons s r ih =>
  cases k with
  | zero=>simp [ktot]
  | succ k =>
   simp only [List.take_succ_cons,ktot,List.getElem_cons_succ]
   rw [ih k (by simpa using h)]
   omega
theorem ktot_le (ts:List Kv) (k:Nat):ktot (ts.take k)≤ktot ts:=by
 induction ts generalizing k with
 | nil=>simp
 | cons s r ih =>
  cases k with
  | zero=>simp [ktot]
  | succ k=>simp only [List.take_succ_cons,ktot];have:=ih k;omega
theorem ktot_at (ts:List Kv) (k:Nat) (h:k<ts.length):ts[k].ws.length+ts[k].vs.length≤ktot ts:=by
 have h1:=ktot_take ts k h
 have h2:=ktot_le ts (k+1)
 omega
def IsK (w:World) (a:Option Addr) (ts:List Kv):Prop :=
 ts=[] ∨ ∃ b off,a=some ⟨b,off,none⟩∧b<w.heap.size∧∀ j (hj:j<ts.length),∃ a0 c0 a1 c1,(w.cell? ⟨b,off+j * 2,none⟩=some (.slice a0 ts[j].ws.length c0)∧w.cell? ⟨b,off+j * 2+1,none⟩=some (.slice a1 ts[j].vs.length c1))∧Ls.IsS w a0 ts[j].ws∧Li.IsL w a1 ts[j].vs
theorem IsK.below {w w1:World} {a:Option Addr} {ts:List Kv} (h:IsK w a ts) (hB:Below w.heap.size w w1):IsK w1 a ts:=by
 rcases h with h | ⟨b,off,rfl,hb,hc⟩
 ·
  exact .inl h
 ·
  refine .inr ⟨b,off,rfl,Nat.lt_of_lt_of_le hb hB.size,fun j hj=>?_⟩
  obtain ⟨a0,c0,a1,c1,⟨h0,h1⟩,i0,i1⟩:=hc j hj
  exact ⟨a0,c0,a1,c1,⟨(hB.cell (by exact hb)).trans h0,(hB.cell (by exact hb)).trans h1⟩,i0.below hB,i1.below hB⟩
def OwK (w:World) (B:Nat→Prop) (v:Value) (ts:List Kv):Prop :=
 ∃ vs:List Value,w.ownsRow 0 47 2 v ts.length vs∧vs.length=ts.length * 2∧(∀ j (h:j<ts.length),Ls.Own w 0 (vs.getD (j * 2) undef) ts[j].ws∧Li.Own w 0 (vs.getD (j * 2+1) undef) ts[j].vs)∧(∀ k,v.ownBlock=some k→B k)∧(∀ p,p<vs.length→∀ k,(vs.getD p undef).ownBlock=some k→B k∧v.ownBlock≠some k)∧(∀ p q,p<vs.length→q<vs.length→¬ p=q→∀ k,(vs.getD p undef).ownBlock=some k→(vs.getD q undef).ownBlock≠some k)
variable {w w1:World} {B:Nat→Prop} {v:Value} {ts:List Kv}
theorem half2 {p n:Nat} (h:p<n * 2):∃ j,j<n∧(p=j * 2 ∨ p=j * 2+1):=⟨p / 2,by omega,by omega⟩
theorem OwK.lt (h:OwK w B v ts):(∀ k,v.ownBlock=some k→k<w.heap.size):=by
 obtain ⟨vs,ho,_⟩:=h
 exact fun k hk=>(World.ownsRow.lt ho k hk).2
theorem OwK.nil (w:World) (B:Nat→Prop):OwK w B (.slice none 0 0) [] :=
 ⟨[],World.ownsRow_nil _ _ _ _,rfl,fun j h=>by simp at h,fun k hk=>by simp [Value.ownBlock] at hk,fun p h=>by simp at h,fun p q h=>by simp at h⟩
theorem OwK.fr {B':Nat→Prop} (h:OwK w B v ts) (hf:Fr B' w w1) (hd:∀ k,B k→¬ B' k):OwK w1 B v ts:=by
 obtain ⟨vs,ho,hl,he,hv,hb,hs⟩:=h
 refine ⟨vs,ownsRow_at ho (fun k e=>hf.block k (World.ownsRow.lt ho k e).2 (hd k (hv k e))),hl,fun j hj=>?_,hv,hb,hs⟩
 obtain ⟨h0,h1⟩:=he j hj
 exact ⟨ownsRow_at h0 (fun k e=>hf.block k (h0.ge k e).2 (hd k (hb _ (by omega) k e).1)),ownsRow_at h1 (fun k e=>hf.block k (h1.ge k e).2 (hd k (hb _ (by omega) k e).1))⟩
theorem OwK.below (h:OwK w B v ts) (hb:Below w.heap.size w w1):OwK w1 B v ts:=h.fr (fr_below (B:=fun _=>False) hb) (fun _ _ e=>e)
theorem OwK.mono {B':Nat→Prop} (h:OwK w B v ts) (hb:∀ k,B k→B' k):OwK w B' v ts:=by
 obtain ⟨vs,ho,hl,he,hv,hbb,hs⟩:=h
 exact ⟨vs,ho,hl,he,fun k e=>hb k (hv k e),fun p hp k e=>⟨hb k (hbb p hp k e).1,(hbb p hp k e).2⟩,hs⟩
theorem OwK.bound (h:OwK w B v ts):OwK w (fun k=>B k∧k<w.heap.size) v ts:=by
 obtain ⟨vs,ho,hl,he,hv,hbb,hs⟩:=h
 refine ⟨vs,ho,hl,he,fun k e=>⟨hv k e,(World.ownsRow.lt ho k e).2⟩,fun p hp k e=>⟨⟨(hbb p hp k e).1,?_⟩,(hbb p hp k e).2⟩,hs⟩
 obtain ⟨j,hj,rfl | rfl⟩:=half2 (n:=ts.length) (p:=p) (by omega)
 ·
  exact ((he j hj).1.ge k e).2
 ·
  exact ((he j hj).2.ge k e).2
theorem OwK.isk (h:OwK w B v ts):∃ a cap,v=.slice a ts.length cap∧IsK w a ts:=by
 obtain ⟨vs,ho,hl,he,_⟩:=h
 have h':=ho
 rcases ho.2 with ⟨rfl,h0⟩ | ⟨g,cap,cur,rfl,hb,hh,_⟩
 ·
  obtain rfl:=List.length_eq_zero_iff.1 h0
  exact ⟨none,0,rfl,.inl rfl⟩
 ·
  refine ⟨_,cap,rfl,.inr ⟨g,0,rfl,(Array.getElem?_eq_some_iff.1 hh).1,fun j hj=>?_⟩⟩
  obtain ⟨o0,o1⟩:=he j hj
  obtain ⟨a0,c0,e0,i0⟩:=o0.iss
  obtain ⟨a1,c1,e1,i1⟩:=o1.isl
  refine ⟨a0,c0,a1,c1,⟨?_,?_⟩,i0,i1⟩
  ·
   rw [Nat.zero_add,World.ownsRow.cellAt h' _ (by omega),← e0]
   simp [List.getElem?_eq_getElem (show j * 2<vs.length by omega)]
  ·
   rw [Nat.zero_add,World.ownsRow.cellAt h' _ (by omega),← e1]
   simp [List.getElem?_eq_getElem (show j * 2+1<vs.length by omega)]
theorem getD_app1 {α:Type} {xs:List α} {a b d:α} {p:Nat} (h:p<xs.length):(xs ++ [a,b]).getD p d=xs.getD p d:=by
 simp [List.getElem?_append_left h]
theorem getD_app2 {α:Type} {xs:List α} {a b d:α} : (xs ++ [a,b]).getD xs.length d=a:=by simp
theorem getD_app3 {α:Type} {xs:List α} {a b d:α} : (xs ++ [a,b]).getD (xs.length+1) d=b:=by simp
theorem owk_snoc {v5 u0 u1:Value} {x:Kv} {vs:List Value} {m:Nat} (hl:vs.length=ts.length * 2) (he:∀ j (h:j<ts.length),Ls.Own w 0 (vs.getD (j * 2) undef) ts[j].ws∧Li.Own w 0 (vs.getD (j * 2+1) undef) ts[j].vs)
  (hv:∀ k,v.ownBlock=some k→B k∧k<m) (hb:∀ p,p<vs.length→∀ k,(vs.getD p undef).ownBlock=some k→(B k∧k<m)∧v.ownBlock≠some k) (hs:∀ p q,p<vs.length→q<vs.length→¬ p=q→∀ k,(vs.getD p undef).ownBlock=some k→(vs.getD q undef).ownBlock≠some k)
  (h0:Ls.Own w m u0 x.ws) (h1:Li.Own w m u1 x.vs) (h01:∀ k,u0.ownBlock=some k→u1.ownBlock≠some k) (hB:∀ k,m≤k→B k) (hm:m≤w.heap.size)
  (ho:w1.ownsRow 0 47 2 v5 (ts.length+1) (vs ++ [u0,u1])) (hg:w.grownBy w1 v.ownBlock) (hloc:v5.ownBlock=v.ownBlock ∨ v5.ownBlock=some w.heap.size):OwK w1 B v5 (ts ++ [x]):=by
 have hn5:∀ k,k<w.heap.size→v.ownBlock≠some k→v5.ownBlock≠some k:=fun k hk hn e=>by
  rcases hloc with h | h
  ·
   exact hn (h ▸ e)
  ·
   rw [h] at e;injection e with e;omega
 have hvm:∀ k,m≤k→v.ownBlock≠some k:=fun k hk e=>by have:=(hv k e).2;omega
 refine ⟨vs ++ [u0,u1],by simpa using ho,by simp;omega,fun j hj=>?_,fun k e=>?_,fun p hp k e=>?_,fun p q hp hq hpq k e=>?_⟩
 ·
  by_cases hjl:j<ts.length
  ·
   rw [List.getElem_append_left hjl,getD_app1 (by omega),getD_app1 (by omega)]
   obtain ⟨q0,q1⟩:=he j hjl
   exact ⟨ownsRow_at q0 (fun k e=>hg.block k (q0.ge k e).2 (fun e'=>(hb _ (by omega) k e).2 e'.symm)),ownsRow_at q1 (fun k e=>hg.block k (q1.ge k e).2 (fun e'=>(hb _ (by omega) k e).2 e'.symm))⟩
  ·
   have e1:j=ts.length:=by simp at hj;omega
   subst e1
   rw [List.getElem_append_right (by omega),← hl,getD_app2,getD_app3]
   simp only [Nat.sub_self,List.getElem_cons_zero]
   have q0:Ls.Own w1 m u0 x.ws:=ownsRow_at h0 (fun k e=>hg.block k (h0.ge k e).2 (fun e'=>hvm k (h0.ge k e).1 e'.symm))
   have q1:Li.Own w1 m u1 x.vs:=ownsRow_at h1 (fun k e=>hg.block k (h1.ge k e).2 (fun e'=>hvm k (h1.ge k e).1 e'.symm))
   exact ⟨q0.mono (Nat.zero_le _),q1.mono (Nat.zero_le _)⟩
 ·
  rcases hloc with h | h
  ·
   exact (hv k (h ▸ e)).1
  ·
   rw [h] at e;injection e with e;exact hB k (by omega)
 ·
  by_cases hpl:p<vs.length
  ·
   rw [getD_app1 hpl] at e
   obtain ⟨j,hj,hpj⟩:=half2 (n:=ts.length) (p:=p) (by omega)
   have hks:k<w.heap.size:=by
    rcases hpj with rfl | rfl
    ·
     exact ((he j hj).1.ge k e).2
    ·
     exact ((he j hj).2.ge k e).2
   exact ⟨(hb p hpl k e).1.1,hn5 k hks (hb p hpl k e).2⟩
  ·
   have hp':p=vs.length ∨ p=vs.length+1:=by simp at hp;omega
   rcases hp' with rfl | rfl
   ·
    rw [getD_app2] at e
    exact ⟨hB k (h0.ge k e).1,hn5 k (h0.ge k e).2 (hvm k (h0.ge k e).1)⟩
   ·
    rw [getD_app3] at e
    exact ⟨hB k (h1.ge k e).1,hn5 k (h1.ge k e).2 (hvm k (h1.ge k e).1)⟩
 ·
  have hp':p<vs.length ∨ p=vs.length ∨ p=vs.length+1:=by simp at hp;omega
  have hq':q<vs.length ∨ q=vs.length ∨ q=vs.length+1:=by simp at hq;omega
  rcases hp' with h1' | rfl | rfl <;> rcases hq' with h2' | rfl | rfl
  ·
   rw [getD_app1 h1'] at e;rw [getD_app1 h2'];exact hs p q h1' h2' hpq k e
  ·
   rw [getD_app1 h1'] at e;rw [getD_app2];intro e';have:=(hb p h1' k e).1.2;have:=(h0.ge k e').1;omega
  ·
   rw [getD_app1 h1'] at e;rw [getD_app3];intro e';have:=(hb p h1' k e).1.2;have:=(h1.ge k e').1;omega
  ·
   rw [getD_app2] at e;rw [getD_app1 h2'];intro e';have:=(hb q h2' k e').1.2;have:=(h0.ge k e).1;omega
  ·
   exact absurd rfl hpq
  ·
   rw [getD_app2] at e;rw [getD_app3];exact h01 k e
  ·
   rw [getD_app3] at e;rw [getD_app1 h2'];intro e';have:=(hb q h2' k e').1.2;have:=(h1.ge k e).1;omega
  ·
   rw [getD_app3] at e;rw [getD_app2];intro e';exact h01 k e' e
  ·
   exact absurd rfl hpq
end Go.Proofs.YtaojoamldoofpaaGreatDoor.Kt
namespace Go.Proofs.YtaojoamldoofpaaGreatDoor.Kt
set_option maxRecDepth 20000
open Go.RowKit
open Sv (Fr fr_below new2 wr2)
end Go.Proofs.YtaojoamldoofpaaGreatDoor.Kt
namespace Go.Proofs.YtaojoamldoofpaaGreatDoor.Kt
set_option maxRecDepth 20000
open Go.RowKit
open Tb (ownsRow_at lets Fits)
open Sv (Fr fr_below fr_grown new1 new2 new3 wr2 Wr)
open Li (below_none)
variable {w w1:World} {B:Nat→Prop} {v:Value} {ts:List Kv}
def ksz:List Kv→Nat
 | []=>0
 | t :: ts=>(t.ws.length+lets t.ws+t.vs.length)+ksz ts
theorem ksz_take (ts:List Kv) (k:Nat) (h:k<ts.length):ksz (ts.take (k+1))=ksz (ts.take k)+(ts[k].ws.length+lets ts[k].ws+ts[k].vs.length):=by
 induction ts generalizing k with
 | nil=>simp at h
 | cons s r ih =>
  cases k with
  | zero=>simp [ksz]
  | succ k =>
   simp only [List.take_succ_cons,ksz,List.getElem_cons_succ]
   rw [ih k (by simpa using h)]
   omega
theorem ksz_le (ts:List Kv) (k:Nat):ksz (ts.take k)≤ksz ts:=by
 induction ts generalizing k with
 | nil=>simp
 | cons s r ih =>
  cases k with
  | zero=>simp [ksz]
  | succ k=>simp only [List.take_succ_cons,ksz];have:=ih k;omega
theorem ksz_at (ts:List Kv) (k:Nat) (h:k<ts.length):ts[k].ws.length+lets ts[k].ws+ts[k].vs.length≤ksz ts:=by
 have h1:=ksz_take ts k h
 have h2:=ksz_le ts (k+1)
 omega
theorem ktot_ksz (ts:List Kv):ktot ts≤ksz ts:=by
 induction ts with
 | nil=>simp [ktot,ksz]
 | cons t ts ih=>simp only [ktot,ksz];omega
end Go.Proofs.YtaojoamldoofpaaGreatDoor.Kt
namespace Go.Proofs.YtaojoamldoofpaaGreatDoor.Tm
open Go.RowKit
open Li (ret_bool ret_int below_none)
def TrIs (w:World) (v0 v1:Value) (t:Tr.T):Prop :=
 ∃ a c a' c',v0=.slice a t.sp.length c∧v1=.slice a' t.lv.length c'∧IsP w a t.sp∧Li.IsL w a' t.lv
theorem TrIs.below {w w1:World} {v0 v1:Value} {t:Tr.T} (h:TrIs w v0 v1 t) (hB:Below w.heap.size w w1):TrIs w1 v0 v1 t:=by
 obtain ⟨a,c,a',c',e0,e1,h0,h1⟩:=h
 exact ⟨a,c,a',c',e0,e1,h0.below hB,h1.below hB⟩
def IsT (w:World) (a:Option Addr) (ts:List Tr.T):Prop :=
 ts=[] ∨ ∃ b off,a=some ⟨b,off,none⟩∧b<w.heap.size∧∀ j (hj:j<ts.length),∃ v0 v1,(w.cell? ⟨b,off+j * 2,none⟩=some v0∧w.cell? ⟨b,off+j * 2+1,none⟩=some v1)∧TrIs w v0 v1 ts[j]
theorem IsT.below {w w1:World} {a:Option Addr} {ts:List Tr.T} (h:IsT w a ts) (hB:Below w.heap.size w w1):IsT w1 a ts:=by
 rcases h with h | ⟨b,off,rfl,hb,hc⟩
 ·
  exact .inl h
 ·
  refine .inr ⟨b,off,rfl,Nat.lt_of_lt_of_le hb hB.size,fun j hj=>?_⟩
  obtain ⟨v0,v1,⟨c0,c1⟩,hr⟩:=hc j hj
  exact ⟨v0,v1,⟨(hB.cell (by exact hb)).trans c0,(hB.cell (by exact hb)).trans c1⟩,hr.below hB⟩
def szt (t:Tr.T):Nat:=t.sp.length+t.lv.length
def szT:List Tr.T→Nat
 | []=>0
 | t :: ts=>szt t+szT ts
theorem szT_take (ts:List Tr.T) (k:Nat) (h:k<ts.length):szT (ts.take (k+1))=szT (ts.take k)+szt ts[k]:=by
 induction ts generalizing k with
 | nil=>simp at h
 | cons s r ih =>
  cases k with
  | zero=>simp [szT]
  | succ k =>
   simp only [List.take_succ_cons,szT,List.getElem_cons_succ]
   rw [ih k (by simpa using h)]
   omega
theorem szT_le (ts:List Tr.T) (k:Nat):szT (ts.take k)≤szT ts:=by
 induction ts generalizing k with
 | nil=>simp
 | cons s r ih =>
  cases k with
  | zero=>simp [szT]
  | succ k=>simp only [List.take_succ_cons,szT];have:=ih k;omega
theorem szT_at (ts:List Tr.T) (k:Nat) (h:k<ts.length):szt ts[k]≤szT ts:=by
 have h1:=szT_take ts k h
 have h2:=szT_le ts (k+1)
 omega
end Go.Proofs.YtaojoamldoofpaaGreatDoor.Tm
namespace Go.Proofs.YtaojoamldoofpaaGreatDoor.To
set_option maxRecDepth 20000
open Go.RowKit
open Tm
open Sv (Fr fr_below)
open Li (below_none)
def OwT (w:World) (B:Nat→Prop) (v:Value) (ts:List Tr.T):Prop :=
 ∃ vs:List Value,w.ownsRow 0 56 2 v ts.length vs∧vs.length=ts.length * 2∧(∀ j (h:j<ts.length),OwnP w 0 (vs.getD (j * 2) undef) ts[j].sp∧Li.Own w 0 (vs.getD (j * 2+1) undef) ts[j].lv)∧(∀ k,v.ownBlock=some k→B k)∧(∀ p,p<vs.length→∀ k,(vs.getD p undef).ownBlock=some k→B k∧v.ownBlock≠some k)∧(∀ p q,p<vs.length→q<vs.length→¬ p=q→∀ k,(vs.getD p undef).ownBlock=some k→(vs.getD q undef).ownBlock≠some k)
variable {w w1:World} {B:Nat→Prop} {v:Value} {ts:List Tr.T}
theorem half2 {p n:Nat} (h:p<n * 2):∃ j,j<n∧(p=j * 2 ∨ p=j * 2+1):=⟨p / 2,by omega,by omega⟩
theorem OwT.nil (w:World) (B:Nat→Prop):OwT w B (.slice none 0 0) [] :=
 ⟨[],World.ownsRow_nil _ _ _ _,rfl,fun j h=>by simp at h,fun k hk=>by simp [Value.ownBlock] at hk,fun p h=>by simp at h,fun p q h=>by simp at h⟩
theorem OwT.fr {B':Nat→Prop} (h:OwT w B v ts) (hf:Fr B' w w1) (hd:∀ k,B k→¬ B' k):OwT w1 B v ts:=by
 obtain ⟨vs,ho,hl,he,hv,hb,hs⟩:=h
 refine ⟨vs,ownsRow_at ho (fun k e=>hf.block k (World.ownsRow.lt ho k e).2 (hd k (hv k e))),hl,fun j hj=>?_,hv,hb,hs⟩
 obtain ⟨h0,h1⟩:=he j hj
 exact ⟨ownsRow_at h0 (fun k e=>hf.block k (h0.ge k e).2 (hd k (hb _ (by omega) k e).1)),ownsRow_at h1 (fun k e=>hf.block k (h1.ge k e).2 (hd k (hb _ (by omega) k e).1))⟩
theorem OwT.below (h:OwT w B v ts) (hb:Below w.heap.size w w1):OwT w1 B v ts:=h.fr (fr_below (B:=fun _=>False) hb) (fun _ _ e=>e)
theorem OwT.mono {B':Nat→Prop} (h:OwT w B v ts) (hb:∀ k,B k→B' k):OwT w B' v ts:=by
 obtain ⟨vs,ho,hl,he,hv,hbb,hs⟩:=h
 exact ⟨vs,ho,hl,he,fun k e=>hb k (hv k e),fun p hp k e=>⟨hb k (hbb p hp k e).1,(hbb p hp k e).2⟩,hs⟩
theorem OwT.bound (h:OwT w B v ts):OwT w (fun k=>B k∧k<w.heap.size) v ts:=by
 obtain ⟨vs,ho,hl,he,hv,hbb,hs⟩:=h
 refine ⟨vs,ho,hl,he,fun k e=>⟨hv k e,(World.ownsRow.lt ho k e).2⟩,fun p hp k e=>⟨⟨(hbb p hp k e).1,?_⟩,(hbb p hp k e).2⟩,hs⟩
 obtain ⟨j,hj,rfl | rfl⟩:=half2 (n:=ts.length) (p:=p) (by omega)
 ·
  exact ((he j hj).1.ge k e).2
 ·
  exact ((he j hj).2.ge k e).2
theorem OwT.ist (h:OwT w B v ts):∃ a cap,v=.slice a ts.length cap∧IsT w a ts:=by
 obtain ⟨vs,ho,hl,he,_⟩:=h
 have h':=ho
 rcases ho.2 with ⟨rfl,h0⟩ | ⟨g,cap,cur,rfl,hb,hh,_⟩
 ·
  obtain rfl:=List.length_eq_zero_iff.1 h0
  exact ⟨none,0,rfl,.inl rfl⟩
 ·
  refine ⟨_,cap,rfl,.inr ⟨g,0,rfl,(Array.getElem?_eq_some_iff.1 hh).1,fun j hj=>?_⟩⟩
  obtain ⟨o0,o1⟩:=he j hj
  obtain ⟨a0,c0,e0,_,i0⟩:=o0.isp
  obtain ⟨a1,c1,e1,i1⟩:=o1.isl
  refine ⟨_,_,⟨?_,?_⟩,a0,c0,a1,c1,e0,e1,i0,i1⟩
  ·
   rw [Nat.zero_add,World.ownsRow.cellAt h' _ (by omega)]
   simp [List.getElem?_eq_getElem (show j * 2<vs.length by omega)]
  ·
   rw [Nat.zero_add,World.ownsRow.cellAt h' _ (by omega)]
   simp [List.getElem?_eq_getElem (show j * 2+1<vs.length by omega)]
theorem getD_app1 {α:Type} {xs:List α} {a b d:α} {p:Nat} (h:p<xs.length):(xs ++ [a,b]).getD p d=xs.getD p d:=by
 simp [List.getElem?_append_left h]
theorem getD_app2 {α:Type} {xs:List α} {a b d:α} : (xs ++ [a,b]).getD xs.length d=a:=by simp
theorem getD_app3 {α:Type} {xs:List α} {a b d:α} : (xs ++ [a,b]).getD (xs.length+1) d=b:=by simp
theorem owt_snoc {v5 u0 u1:Value} {x:Tr.T} {vs:List Value} {m:Nat} (hl:vs.length=ts.length * 2) (he:∀ j (h:j<ts.length),OwnP w 0 (vs.getD (j * 2) undef) ts[j].sp∧Li.Own w 0 (vs.getD (j * 2+1) undef) ts[j].lv)
  (hv:∀ k,v.ownBlock=some k→B k∧k<m) (hb:∀ p,p<vs.length→∀ k,(vs.getD p undef).ownBlock=some k→(B k∧k<m)∧v.ownBlock≠some k) (hs:∀ p q,p<vs.length→q<vs.length→¬ p=q→∀ k,(vs.getD p undef).ownBlock=some k→(vs.getD q undef).ownBlock≠some k)
  (h0:OwnP w m u0 x.sp) (h1:Li.Own w m u1 x.lv) (h01:∀ k,u0.ownBlock=some k→u1.ownBlock≠some k) (hB:∀ k,m≤k→B k) (hm:m≤w.heap.size)
  (ho:w1.ownsRow 0 56 2 v5 (ts.length+1) (vs ++ [u0,u1])) (hg:w.grownBy w1 v.ownBlock) (hloc:v5.ownBlock=v.ownBlock ∨ v5.ownBlock=some w.heap.size):OwT w1 B v5 (ts ++ [x]):=by
 have hn5:∀ k,k<w.heap.size→v.ownBlock≠some k→v5.ownBlock≠some k:=fun k hk hn e=>by
  rcases hloc with h | h
  ·
   exact hn (h ▸ e)
  ·
   rw [h] at e;injection e with e;omega
 have hvm:∀ k,m≤k→v.ownBlock≠some k:=fun k hk e=>by have:=(hv k e).2;omega
 refine ⟨vs ++ [u0,u1],by simpa using ho,by simp;omega,fun j hj=>?_,fun k e=>?_,fun p hp k e=>?_,fun p q hp hq hpq k e=>?_⟩
 ·
  by_cases hjl:j<ts.length
  ·
   rw [List.getElem_append_left hjl,getD_app1 (by omega),getD_app1 (by omega)]
   obtain ⟨q0,q1⟩:=he j hjl
   exact ⟨ownsRow_at q0 (fun k e=>hg.block k (q0.ge k e).2 (fun e'=>(hb _ (by omega) k e).2 e'.symm)),ownsRow_at q1 (fun k e=>hg.block k (q1.ge k e).2 (fun e'=>(hb _ (by omega) k e).2 e'.symm))⟩
  ·
   have e1:j=ts.length:=by simp at hj;omega
   subst e1
   rw [List.getElem_append_right (by omega),← hl,getD_app2,getD_app3]
   simp only [Nat.sub_self,List.getElem_cons_zero]
   have q0:OwnP w1 m u0 x.sp:=ownsRow_at h0 (fun k e=>hg.block k (h0.ge k e).2 (fun e'=>hvm k (h0.ge k e).1 e'.symm))
   have q1:Li.Own w1 m u1 x.lv:=ownsRow_at h1 (fun k e=>hg.block k (h1.ge k e).2 (fun e'=>hvm k (h1.ge k e).1 e'.symm))
   exact ⟨q0.mono (Nat.zero_le _),q1.mono (Nat.zero_le _)⟩
 ·
  rcases hloc with h | h
  ·
   exact (hv k (h ▸ e)).1
  ·
   rw [h] at e;injection e with e;exact hB k (by omega)
 ·
  by_cases hpl:p<vs.length
  ·
   rw [getD_app1 hpl] at e
   obtain ⟨j,hj,hpj⟩:=half2 (n:=ts.length) (p:=p) (by omega)
   have hks:k<w.heap.size:=by
    rcases hpj with rfl | rfl
    ·
     exact ((he j hj).1.ge k e).2
    ·
     exact ((he j hj).2.ge k e).2
   exact ⟨(hb p hpl k e).1.1,hn5 k hks (hb p hpl k e).2⟩
  ·
   have hp':p=vs.length ∨ p=vs.length+1:=by simp at hp;omega
   rcases hp' with rfl | rfl
   ·
    rw [getD_app2] at e
    exact ⟨hB k (h0.ge k e).1,hn5 k (h0.ge k e).2 (hvm k (h0.ge k e).1)⟩
   ·
    rw [getD_app3] at e
    exact ⟨hB k (h1.ge k e).1,hn5 k (h1.ge k e).2 (hvm k (h1.ge k e).1)⟩
 ·
  have hp':p<vs.length ∨ p=vs.length ∨ p=vs.length+1:=by simp at hp;omega
  have hq':q<vs.length ∨ q=vs.length ∨ q=vs.length+1:=by simp at hq;omega
  rcases hp' with h1' | rfl | rfl <;> rcases hq' with h2' | rfl | rfl
  ·
   rw [getD_app1 h1'] at e;rw [getD_app1 h2'];exact hs p q h1' h2' hpq k e
  ·
   rw [getD_app1 h1'] at e;rw [getD_app2];intro e';have:=(hb p h1' k e).1.2;have:=(h0.ge k e').1;omega
  ·
   rw [getD_app1 h1'] at e;rw [getD_app3];intro e';have:=(hb p h1' k e).1.2;have:=(h1.ge k e').1;omega
  ·
   rw [getD_app2] at e;rw [getD_app1 h2'];intro e';have:=(hb q h2' k e').1.2;have:=(h0.ge k e).1;omega
  ·
   exact absurd rfl hpq
  ·
   rw [getD_app2] at e;rw [getD_app3];exact h01 k e
  ·
   rw [getD_app3] at e;rw [getD_app1 h2'];intro e';have:=(hb q h2' k e').1.2;have:=(h1.ge k e).1;omega
  ·
   rw [getD_app3] at e;rw [getD_app2];intro e';exact h01 k e' e
  ·
   exact absurd rfl hpq
end Go.Proofs.YtaojoamldoofpaaGreatDoor.To
namespace Go.Proofs.YtaojoamldoofpaaGreatDoor.Md
set_option maxRecDepth 20000
open Go.RowKit
open Tm (IsT szT)
open Kt (Kv IsK OwK ksz)
open To (OwT)
open Sv (Fr fr_below fr_grown new1 new2 new3 Wr)
structure M where
 n:Int
 c:Int
 prior:Int
 base:Int
 ks:List Kv
 ts:List Tr.T
def M.sz (m:M):Nat:=m.ks.length+ksz m.ks+(m.ts.length+szT m.ts)
structure Rm (w:World) (ak ax:Option Addr) (m:M):Prop where
 k:IsK w ak m.ks
 t:IsT w ax m.ts
theorem Rm.below {w w1:World} {ak ax:Option Addr} {m:M} (h:Rm w ak ax m) (hb:Below w.heap.size w w1):Rm w1 ak ax m:=⟨h.k.below hb,h.t.below hb⟩
def OwM (w:World) (B:Nat→Prop) (vk vt:Value) (m:M):Prop:=∃ P:Nat→Prop,OwK w (fun k=>B k∧P k) vk m.ks∧OwT w (fun k=>B k∧¬ P k) vt m.ts
theorem OwM.fr {w w1:World} {B B':Nat→Prop} {vk vt:Value} {m:M} (h:OwM w B vk vt m) (hf:Fr B' w w1) (hd:∀ k,B k→¬ B' k):OwM w1 B vk vt m:=by
 obtain ⟨P,h0,h1⟩:=h
 exact ⟨P,h0.fr hf (fun k e=>hd k e.1),h1.fr hf (fun k e=>hd k e.1)⟩
theorem OwM.below {w w1:World} {B:Nat→Prop} {vk vt:Value} {m:M} (h:OwM w B vk vt m) (hb:Below w.heap.size w w1):OwM w1 B vk vt m:=h.fr (fr_below (B:=fun _=>False) hb) (fun _ _ e=>e)
theorem OwM.mono {w:World} {B B':Nat→Prop} {vk vt:Value} {m:M} (h:OwM w B vk vt m) (hb:∀ k,B k→B' k):OwM w B' vk vt m:=by
 obtain ⟨P,h0,h1⟩:=h
 exact ⟨P,h0.mono (fun k e=>⟨hb k e.1,e.2⟩),h1.mono (fun k e=>⟨hb k e.1,e.2⟩)⟩
theorem OwM.bound {w:World} {B:Nat→Prop} {vk vt:Value} {m:M} (h:OwM w B vk vt m):OwM w (fun k=>B k∧k<w.heap.size) vk vt m:=by
 obtain ⟨P,h0,h1⟩:=h
 exact ⟨P,h0.bound.mono (fun k e=>⟨⟨e.1.1,e.2⟩,e.1.2⟩),h1.bound.mono (fun k e=>⟨⟨e.1.1,e.2⟩,e.1.2⟩)⟩
theorem OwM.rm {w:World} {B:Nat→Prop} {vk vt:Value} {m:M} (h:OwM w B vk vt m):∃ ak ck ax ct,vk=.slice ak m.ks.length ck∧vt=.slice ax m.ts.length ct∧Rm w ak ax m:=by
 obtain ⟨P,h0,h1⟩:=h
 obtain ⟨ak,ck,e0,i0⟩:=h0.isk
 obtain ⟨ax,ct,e1,i1⟩:=h1.ist
 exact ⟨ak,ck,ax,ct,e0,e1,i0,i1⟩
theorem wr6 {w:World} {b:Nat} {v0 v1 v2 v3 v4 v5:Value} (h:Wr w b 0 [v0,v1,v2,v3,v4,v5]) :
  b<w.heap.size∧(w.cell? ⟨b,0,none⟩=some v0∧w.cell? ⟨b,1,none⟩=some v1∧w.cell? ⟨b,2,none⟩=some v2∧w.cell? ⟨b,3,none⟩=some v3∧w.cell? ⟨b,4,none⟩=some v4∧w.cell? ⟨b,5,none⟩=some v5) ∧
  w.frozen? ⟨b,0,none⟩=false∧w.frozen? ⟨b,1,none⟩=false∧w.frozen? ⟨b,2,none⟩=false∧w.frozen? ⟨b,3,none⟩=false∧w.frozen? ⟨b,4,none⟩=false∧w.frozen? ⟨b,5,none⟩=false :=
 ⟨h.1,⟨(h.2 0 (by simp)).1,(h.2 1 (by simp)).1,(h.2 2 (by simp)).1,(h.2 3 (by simp)).1,(h.2 4 (by simp)).1,(h.2 5 (by simp)).1⟩,(h.2 0 (by simp)).2,(h.2 1 (by simp)).2,(h.2 2 (by simp)).2,(h.2 3 (by simp)).2,(h.2 4 (by simp)).2,(h.2 5 (by simp)).2⟩
end Go.Proofs.YtaojoamldoofpaaGreatDoor.Md
namespace Go.Proofs.YtaojoamldoofpaaGreatDoor.Ap
open Go.RowKit
theorem one_cell (w:World) (T:TypeId) (x:Value) (_hx:x.oneCell'=true):∀ j u,([x]:List Value)[j]? = some u→(w.alloc (.cells #[x] T)).cell? ((⟨w.heap.size,0,none⟩:Addr).add j)=some u:=by
 intro j u hj
 match j,hj with
 | 0,hj=>simp at hj;subst hj;simp [Addr.add]
theorem one_at {w:World} {T:TypeId} {x:Value} {H:Nat} (hx:x.oneCell'=true) (h:w.heap.size=H):∀ j u,([x]:List Value)[j]? = some u→(w.alloc (.cells #[x] T)).cell? ((⟨H,0,none⟩:Addr).add j)=some u:=by
 subst h;exact one_cell _ _ _ hx
theorem one_one (x:Value) (hx:x.oneCell'=true):∀ u ∈ ([x]:List Value),u.oneCell'=true:=by
 intro u hu;simp at hu;subst hu;exact hx
theorem own_snoc {w:World} {base n:Nat} {v:Value} {l:List Int} {x:Int} (hn:l.length=n) (h:w.ownsRow base 3 1 v (n+1) (Li.iv l ++ [.int .i64 x])):Li.Own w base v (l ++ [x]):=by
 subst hn
 unfold Li.Own
 rw [← Li.iv_append,List.length_append]
 exact h
theorem own_empty (w:World) (base:Nat) (hb:base≤w.heap.size):Li.Own (w.alloc (.cells #[] 3)) base (.slice (some ⟨w.heap.size,0,none⟩) 0 0) [] :=
 World.ownsRow_made w #[] 0 hb (by unfold maxLen;omega) (by simp)
theorem sown_snoc {w:World} {base n:Nat} {v:Value} {l:List ByteArray} {x:ByteArray} (hn:l.length=n) (h:w.ownsRow base 9 1 v (n+1) (Ls.sv l ++ [.string x])):Ls.Own w base v (l ++ [x]):=by
 subst hn
 unfold Ls.Own
 rw [← Ls.sv_append,List.length_append]
 exact h
theorem sown_empty (w:World) (base:Nat) (hb:base≤w.heap.size):Ls.Own (w.alloc (.cells #[] 9)) base (.slice (some ⟨w.heap.size,0,none⟩) 0 0) [] :=
 World.ownsRow_made w #[] 0 hb (by unfold maxLen;omega) (by simp)
theorem below_app {w wr w1:World} {B:Nat} {r:Option Nat} (hB:Below B w wr) (hs:B≤wr.heap.size) (hg:wr.grownBy w1 r) (hr:∀ k,r=some k→B≤k):Below B w w1 :=
 hB.trans ⟨hg.os,hg.tape,hg.output,hg.size,fun k hk=>hg.block k (by omega) (fun e=>by have:=hr k e.symm;omega)⟩
theorem grown_undrew {w w1:World} {r:Option Nat} (h:w.drew.grownBy w1 r):w.grownBy w1 r:=⟨h.os,h.tape,h.output,h.size,h.block⟩
end Go.Proofs.YtaojoamldoofpaaGreatDoor.Ap
