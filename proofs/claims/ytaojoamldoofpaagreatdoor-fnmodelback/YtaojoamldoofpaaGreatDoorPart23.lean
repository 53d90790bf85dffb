/-
  Contracts that the proof leans on, put together in the order in which they build.
-/
import Derived.Test.YtaojoamldoofpaaGreatDoorPart22
import Derived.Deep.Cut
import Derived.Deep.RegionHeld3
import Derived.Lib.ItoaNum
import Derived.Lib.AtoiAllCases
import Derived.Lib.Replace
import Derived.Lib.IndexBytes
import Derived.Lib.CountLaws
import Derived.Shelf.Strings.FieldsAny
set_option linter.unusedVariables false
namespace Go.Proofs.YtaojoamldoofpaaGreatDoor.Mt
set_option maxRecDepth 100000
open Go.RowKit
open Md (M mok mok_parts kok kok_parts Rm wr6 smok)
open Kt (Kv IsK)
open Tm (IsT IsP)
open Sv (new1 Wr wr2 wr_new)
open Ob (Ox)
set_option maxHeartbeats 2000000 in
theorem snums (w:World) (a:Option Addr) (c:Nat) (l:List Int) (h:Li.IsL w a l) (hb:∀ x ∈ l,i64 x) (hl:l.length≤1000) :
  Calls Tryz.prog 25 #[.slice a l.length c] w fun e w'=>e=.returned (.string ⟨(nums l).toArray⟩)∧Below w.heap.size w w':=by
 go_enter Tryz.func25,Tryz.ntmps25
 go_wp2
 go_loopw [3,4] (fun s i wr=>∃ k:Nat,k≤l.length∧i=.int .i64 k∧s=.string ⟨(nums (l.take k)).toArray⟩∧Below w.heap.size w wr) (fun _ i _=>l.length-(intOf i).toNat)
 case atStart=>exact ⟨0,Nat.zero_le _,rfl,rfl,Below.refl _ _⟩
 case round =>
  obtain ⟨k,hk,rfl,rfl,hBr⟩:=hrel
  by_cases hlt:k<l.length
  ·
   rcases h.below hBr with h0 | ⟨xb,xo,rfl,hxb,hxc⟩
   ·
    rw [h0] at hlt;simp at hlt
   have hcx:=hxc k hlt
   have hx:=hb l[k] (List.getElem_mem hlt)
   have HN:Hid (nums (l.take (k+1))=nums (l.take k) ++ 32 :: Lib.itoa l[k]):=nums_take l k hlt
   have hnl:(nums (l.take k)).length≤22000:=by
    have h1:=nums_len (l.take k) (take_mem hb k)
    have h2:=List.length_take_le k l
    omega
   obtain ⟨x,hx0⟩:∃ x,l[k]=x:=⟨_,rfl⟩
   rw [hx0] at HN hx hcx
   clear hxc hx0
   have hil:=Nu.itoa_len x hx.1 hx.2
   generalize nums (l.take k)=X at HN hnl ⊢
   go_wp2_with fail
   refine (Nu.snum _ _ hx.1 hx.2).mono ?_
   rintro e w1 ⟨rfl,hB1⟩
   have hBr:=hBr.trans (hB1.mono hBr.size)
   clear hB1 hcx hxb
   go_wp2
   go_roundw
   case rel=>exact ⟨k+1,by omega,by go_num,congrArg Value.string (ba_ext (by rw [HN.out];simp)),hBr⟩
   case measure=>simp [intOf];omega
  ·
   have e1:l.take k=l:=List.take_of_length_le (by omega)
   rw [e1]
   clear e1
   go_wp2
   go_ret
   exact ⟨rfl,hBr⟩
theorem pcs_one (s:ByteArray) (h:hasLf s=false):(Pc.pcs 10 s.data.toList).length=1:=by
 have:(10:UInt8) ∉ s.data.toList:=by
  intro e
  unfold hasLf at h
  rw [List.contains_iff_mem.2 e] at h
  cases h
 unfold Pc.pcs
 rw [Pc.pieces_no 10 _ this]
 rfl
theorem pcs_more (s:ByteArray) (h:hasLf s=true):1<(Pc.pcs 10 s.data.toList).length:=by
 unfold hasLf at h
 rw [List.contains_iff_mem] at h
 rcases Pc.first_cut 10 s.data.toList with h' | ⟨a,r,e,h'⟩
 ·
  exact absurd h h'
 ·
  unfold Pc.pcs
  rw [e,Pc.pieces_cut 10 r a h']
  have:=List.length_pos_iff.2 (Pc.pieces_ne 10 r)
  simp
  exact this
theorem own_len {w:World} {base:Nat} {v:Value} {l:List ByteArray} (h:Ls.Own w base v l):∃ a c,v=.slice a l.length c:=by
 obtain ⟨a,c,e,_⟩:=h.iss
 exact ⟨a,c,e⟩
theorem ctxt_eq (t:Kv):ctxt t=[99,116,114,32] ++ Lib.itoa (t.ws.length:Int) ++ [10] ++ wlines t.vs t.ws:=by
 unfold ctxt;rw [nums_one];simp
theorem whole_eq (m:M):whole m=body m ++ ([115,117,109,32] ++ Lib.itoa (Cr.crc (body m):Int) ++ [10]):=by
 unfold whole;rw [nums_one];simp
theorem ttxt_pre (t:Tr.T):ttxt t=[116,114,101,101] ++ spt t.sp ++ ([32,58] ++ nums t.lv ++ [10]):=rfl
set_option maxHeartbeats 8000000 in
theorem smtext (w:World) (ak ax:Option Addr) (ck ct:Nat) (m:M) (h:Rm w ak ax m) (hl:m.sz≤1048576) :
    Calls Tryz.prog 8 #[.agg #[.int .i64 m.n,.int .i64 m.c,.int .i64 m.prior,.int .i64 m.base,.slice ak m.ks.length ck,.slice ax m.ts.length ct]] w fun e w'=>e=.returned (.string ⟨(mtext m).toArray⟩)∧Below w.heap.size w w':=by
  go_enter Tryz.func8,Tryz.ntmps8
  go_wp2_with fail
  obtain ⟨W,hW,hsz,hB,bm⟩:=new1 w [.int .i64 m.n,.int .i64 m.c,.int .i64 m.prior,.int .i64 m.base,.slice ak m.ks.length ck,.slice ax m.ts.length ct] 29
  rw [hW]
  clear hW hsz
  refine (smok _ _ _ _ _ m (h.below hB) hl).mono ?_
  rintro e w1 ⟨rfl,hb⟩
  have bm:=bm.below hb
  have hB:=hB.trans (hb.mono hB.size)
  clear hb
  cases h1:mok m with
  | false =>
    have HR:Hid (mtext m=[]):=mtext_no h1
    go_wp2
    go_ret
    exact ⟨by rw [HR.out];rfl,hB⟩
  | true =>
  have hm:=mok_mn h1
  have HOK:Hid (mok m=true):=h1
  have h:=h.below hB
  have hkl:=hm.k
  have htl:=hm.t
  have hhl:=head_len hm
  clear h1
  obtain ⟨_,⟨x0,x1,x2,x3,x4,x5⟩,_⟩:=wr6 bm
  have HHD:Hid (head m=[109,111,100,101,108] ++ nums [m.n,m.c,m.prior,m.base] ++ [10]):=rfl
  have hnl:(nums [m.n,m.c,m.prior,m.base]).length≤88:=nums_len _ hm.h
  go_wp2_with fail
  have hB1:Below w1.heap.size w1 (w1.alloc (.cells #[.int .i64 m.n,.int .i64 m.c,.int .i64 m.prior,.int .i64 m.base] 3)):=(Below.refl _ _).alloc (Nat.le_refl _) _
  refine (snums _ _ _ [m.n,m.c,m.prior,m.base] (isl_lit w1 [m.n,m.c,m.prior,m.base] 3 _ _ rfl rfl) hm.h (by simp)).mono ?_
  rintro e w2 ⟨rfl,hB2⟩
  have hBr:=hB1.trans (hB2.mono hB1.size)
  clear hB1 hB2 x0 x1 x2 x3 x4 x5
  generalize nums [m.n,m.c,m.prior,m.base]=Y at HHD hnl ⊢
  have hcv:=Lib.run_convert_string_bytes (P:=Tryz.prog) w2 9 22 5 ((⟨#[109,111,100,101,108]⟩:ByteArray) ++ ⟨Y.toArray⟩ ++ ⟨#[10]⟩) Tryz.underlying9 Tryz.underlying22 Tryz.underlying5
  have hSe:((⟨#[109,111,100,101,108]⟩:ByteArray) ++ ⟨Y.toArray⟩ ++ ⟨#[10]⟩).data.toList=head m:=by rw [HHD.out];simp
  have hSz:((⟨#[109,111,100,101,108]⟩:ByteArray) ++ ⟨Y.toArray⟩ ++ ⟨#[10]⟩).size=(head m).length:=by rw [← hSe,Array.length_toList];rfl
  obtain ⟨hox,hbx⟩:=Ob.ox_conv w2 ((⟨#[109,111,100,101,108]⟩:ByteArray) ++ ⟨Y.toArray⟩ ++ ⟨#[10]⟩) (by rw [hSz];unfold maxLen;omega)
  rw [hSe,hSz] at hox
  rw [hSz] at hcv
  generalize Lib.bytesWorld w2 5 ((⟨#[109,111,100,101,108]⟩:ByteArray) ++ ⟨Y.toArray⟩ ++ ⟨#[10]⟩)=W3 at hcv hox hbx
  generalize grownCap w2 (head m).length 0 5=C3 at hcv hox
  have HOX:Hid (Ox W3 w2.heap.size C3 (head m ++ ctxts (m.ks.take 0))):=by show Ox _ _ _ _;simpa [ctxts] using hox
  have HG0:Hid (w1.heap.size≤w2.heap.size):=hBr.size
  have HB3:Hid (Below w1.heap.size w1 W3):=hBr.trans (hbx.mono hBr.size)
  clear hSe hSz hox hbx hBr
  go_wp2
  go_loopw [3,4] (fun v i wr=>∃ k g cap:Nat,k≤m.ks.length∧i=.int .i64 k∧v=.slice (some ⟨g,0,none⟩) (head m ++ ctxts (m.ks.take k)).length cap∧Ox wr g cap (head m ++ ctxts (m.ks.take k))∧w1.heap.size≤g∧(∀ j (hj:j<m.ks.length),j<k→(m.ks[j].ws.any hasLf)=false)∧Below w1.heap.size w1 wr) (fun _ i _=>m.ks.length-(intOf i).toNat)
  case atStart=>exact ⟨0,w2.heap.size,C3,Nat.zero_le _,rfl,by simp [ctxts],HOX.out,HG0.out,fun j _ hj=>by omega,HB3.out⟩
  case round =>
    clear hcv HOX HG0 HB3 HHD hnl
    obtain ⟨k,g,cap,hk,rfl,rfl,hox,hg,hno,hBr⟩:=hrel
    have HNO:Hid (∀ j (hj:j<m.ks.length),j<k→(m.ks[j].ws.any hasLf)=false):=hno
    clear hno
    obtain ⟨_,⟨x0,x1,x2,x3,x4,x5⟩,_⟩:=wr6 (bm.below hBr)
    have hnl2:(ctxts (m.ks.take k)).length≤5838:=ctxts_len (by have:=List.length_take_le k m.ks;omega) (take_mem hm.ks k)
    have hXl:(head m ++ ctxts (m.ks.take k)).length≤6000:=by rw [List.length_append];omega
    by_cases hlt:k<m.ks.length
    · rcases h.k with e0 | ⟨xb, xo, rfl, hxb, hxc⟩
      · rw [e0] at hlt;simp at hlt
      obtain ⟨a0,c0,a1,c1,⟨d0,d1⟩,hs,hv⟩:=hxc k hlt
      have d0:=(hBr.cell (p:=⟨xb,xo+k * 2,none⟩) hxb).trans d0
      have d1:=(hBr.cell (p:=⟨xb,xo+k * 2+1,none⟩) hxb).trans d1
      have hxb:=Nat.lt_of_lt_of_le hxb hBr.size
      have HN:Hid (head m ++ ctxts (m.ks.take (k+1))=head m ++ ctxts (m.ks.take k) ++ ctxt m.ks[k]):=by show _=_;rw [ctxts_take m.ks k hlt];simp
      have HYES:Hid ((m.ks[k].ws.any hasLf)=true→anyLf m.ks=true):=fun e=>any_yes (p:=fun t:Kv=>t.ws.any hasLf) hlt e
      have HNX:Hid ((m.ks[k].ws.any hasLf)=false→∀ j (hj:j<m.ks.length),j<k+1→(m.ks[j].ws.any hasLf)=false):=fun e=>at_snoc (p:=fun t:Kv=>t.ws.any hasLf) HNO.out hlt e
      obtain ⟨kn1,kn2,kn3,kn4⟩:=hm.ks m.ks[k] (List.getElem_mem hlt)
      clear hxc HNO hnl2
      generalize m.ks[k]=t at d0 d1 hs hv HN HYES HNX kn1 kn2 kn3 kn4
      rw [ctxt_eq] at HN
      generalize head m ++ ctxts (m.ks.take k)=X at hox hXl HN ⊢
      obtain ⟨n,hn⟩:∃ n,t.ws.length=n:=⟨_,rfl⟩
      rw [hn] at kn1 kn2 HN d0
      rw [kn2] at d1
      have HK2:Hid (t.vs.length=n):=kn2
      have HKN:Hid (t.ws.length=n):=hn
      clear kn2 hn
      have hil:=Nu.itoa_len (n:Int) (by omega) (by omega)
      obtain ⟨X1,hX1⟩:∃ X1,X ++ ([99,116,114,32] ++ Lib.itoa (n:Int) ++ [10])=X1:=⟨_,rfl⟩
      have hX1l:X1.length≤6026:=by rw [← hX1];simp;omega
      have HL1:Hid (X ++ ((⟨#[99,116,114,32]⟩:ByteArray) ++ ⟨(Lib.itoa (n:Int)).toArray⟩ ++ ⟨#[10]⟩).data.toList=X1):=by show _=_;rw [← hX1];simp
      have HN:Hid (head m ++ ctxts (m.ks.take (k+1))=X1 ++ wlines t.vs t.ws):=by show _=_;rw [HN.out,← hX1];simp
      clear hX1
      go_wp2_with fail
      obtain ⟨W2,hW2,hsz2,hB1,bt⟩:=new1 wr [.slice a0 n c0,.slice a1 n c1] 47
      rw [hW2]
      obtain ⟨rb,hrb⟩:∃ rb,wr.heap.size=rb:=⟨_,rfl⟩
      have hgrb:g<rb:=by rw [← hrb];exact hox.lt
      have hwrb:w1.heap.size≤rb:=by rw [← hrb];exact hBr.size
      rw [hrb] at bt ⊢
      have hox:=hox.below hB1
      have hBr:=hBr.trans (hB1.mono hBr.size)
      clear hW2 hsz2 d0 d1 hrb hB1 hxb
      refine (Nu.snum _ _ (by omega) (by omega)).mono ?_
      rintro e w4 ⟨rfl,hb⟩
      have hox:=hox.below hb
      have bt:=bt.below hb
      have hBr:=hBr.trans (hb.mono hBr.size)
      have hrl:=bt.1
      clear hb x0 x1 x2 x3 x4 x5
      go_wp2_with (at_builtin;refine Ob.wpl_appS rfl _ _ rfl g cap X.length X rfl rfl hox ((⟨#[99,116,114,32]⟩:ByteArray) ++ ⟨(Lib.itoa (n:Int)).toArray⟩ ++ ⟨#[10]⟩) rfl X1 HL1.out (by omega) ?_;intro g5 cap5 w5 hox5 hgr5 hloc5;have bt5:=bt.keptAt hgr5.size (hgr5.block rb hrl (by intro e;cases e;omega)))
      have HB5:Hid (Below w1.heap.size w1 w5):=hBr.grown hgr5 hBr.size (fun k e=>by cases e;exact hg)
      have HG5:Hid (w1.heap.size≤g5∧¬ rb=g5):=⟨by have:=hBr.size;omega,by omega⟩
      clear hox hBr hgr5 hloc5 bt hrl hil hgrb hg
      go_loopw [3,6] (fun v i wq=>∃ q g cap:Nat,q≤n∧i=.int .i64 q∧v=.slice (some ⟨g,0,none⟩) (X1 ++ wlines (t.vs.take q) (t.ws.take q)).length cap∧Ox wq g cap (X1 ++ wlines (t.vs.take q) (t.ws.take q))∧w1.heap.size≤g∧¬ rb=g∧Wr wq rb 0 [.slice a0 n c0,.slice a1 n c1]∧(∀ j (hj:j<t.ws.length),j<q→hasLf t.ws[j]=false)∧Below w1.heap.size w1 wq) (fun _ i _=>n-(intOf i).toNat)
      case atStart=>exact ⟨0,g5,cap5,Nat.zero_le _,rfl,by simp [wlines],by simpa [wlines] using hox5,HG5.out.1,HG5.out.2,bt5,fun j _ hj=>by omega,HB5.out⟩
      case round =>
        clear hox5 bt5 HB5 HG5 HL1
        obtain ⟨q,g,cap,hq,rfl,rfl,hox,hg,hne,bt,hno,hBr⟩:=hrel
        have HNO:Hid (∀ j (hj:j<t.ws.length),j<q→hasLf t.ws[j]=false):=hno
        obtain ⟨hrl,⟨y0,y1⟩,_⟩:=wr2 bt
        have hnl2:(wlines (t.vs.take q) (t.ws.take q)).length≤1920:=by
          have q1:=wlines_len (t.vs.take q) (t.ws.take q) (take_mem kn3 q) (take_mem kn4 q)
          have q2:=List.length_take_le q t.ws
          have:=HKN.out
          omega
        have hYl:(X1 ++ wlines (t.vs.take q) (t.ws.take q)).length≤8000:=by rw [List.length_append];omega
        clear hno hnl2
        by_cases hlt2:q<n
        · have hlw : q < t.ws.length := by rw [HKN.out]; exact hlt2
          have hlv:q<t.vs.length:=by rw [HK2.out];exact hlt2
          rcases id hs with e0 | ⟨wb,wo,rfl,hwb,hwc⟩
          · rw [e0] at hlw;simp at hlw
          rcases id hv with e0 | ⟨vb,vo,rfl,hvb,hvc⟩
          · rw [e0] at hlv;simp at hlv
          have e0:=(hBr.cell (p:=⟨wb,wo+q,none⟩) hwb).trans (hwc q hlw)
          have e1:=(hBr.cell (p:=⟨vb,vo+q,none⟩) hvb).trans (hvc q hlv)
          have hx:=kn3 t.vs[q] (List.getElem_mem hlv)
          have hsz:=kn4 t.ws[q] (List.getElem_mem hlw)
          have HW:Hid (wlines (t.vs.take (q+1)) (t.ws.take (q+1))=wlines (t.vs.take q) (t.ws.take q) ++ wline t.vs[q] t.ws[q]):=wlines_take t.vs t.ws q hlw hlv
          have HY2:Hid (hasLf t.ws[q]=true→anyLf m.ks=true):=fun e=>HYES.out (any_yes (p:=hasLf) hlw e)
          have HN2:Hid (hasLf t.ws[q]=false→∀ j (hj:j<t.ws.length),j<q+1→hasLf t.ws[j]=false):=fun e=>at_snoc (p:=hasLf) HNO.out hlw e
          generalize t.vs[q]=x at e1 hx HW
          generalize t.ws[q]=s at e0 hsz HW HY2 HN2
          have HX:Hid (X1 ++ wlines (t.vs.take (q+1)) (t.ws.take (q+1))=X1 ++ wlines (t.vs.take q) (t.ws.take q) ++ wline x s):=by show _=_;rw [HW.out];simp
          have hwl:=wline_len x s hx hsz
          generalize X1 ++ wlines (t.vs.take q) (t.ws.take q)=Y at hox hYl HX ⊢
          have hwb':=Nat.lt_of_lt_of_le hwb hBr.size
          have hvb':=Nat.lt_of_lt_of_le hvb hBr.size
          have hil:=Nu.itoa_len x hx.1 hx.2
          clear hwc hvc HW hlw hlv HNO
          go_wp2_with fail
          refine (Sp.parts _ s 10 (by omega)).mono ?_
          rintro e w6 ⟨pv,rfl,hpo,hb⟩
          obtain ⟨pa,pc,rfl⟩:=own_len hpo
          clear hpo
          cases hh:hasLf s with
          | true =>
            have hpl:=pcs_more s hh
            have HR:Hid (mtext m=[]):=mtext_lf (HY2.out hh)
            have hBe:=hB.trans ((hBr.trans (hb.mono hBr.size)).mono hB.size)
            generalize (Pc.pcs 10 s.data.toList).length=pn at hpl ⊢
            go_wp2
            go_ret
            exact ⟨by rw [HR.out];rfl,hBe⟩
          | false =>
            have hpl:=pcs_one s hh
            have HN3:Hid (∀ j (hj:j<t.ws.length),j<q+1→hasLf t.ws[j]=false):=HN2.out hh
            rw [hpl]
            have hox:=hox.below hb
            have bt:=bt.below hb
            have hBr:=hBr.trans (hb.mono hBr.size)
            have e0:=(hb.cell (p:=⟨wb,wo+q,none⟩) hwb').trans e0
            have e1:=(hb.cell (p:=⟨vb,vo+q,none⟩) hvb').trans e1
            have hwb':=Nat.lt_of_lt_of_le hwb' hb.size
            have hvb':=Nat.lt_of_lt_of_le hvb' hb.size
            clear hb hpl hh HN2 HY2 y0 y1 hrl
            obtain ⟨hrl,⟨y0,y1⟩,_⟩:=wr2 bt
            obtain ⟨Z,hZ⟩:∃ Z,X1 ++ wlines (t.vs.take (q+1)) (t.ws.take (q+1))=Z:=⟨_,rfl⟩
            rw [hZ] at HX
            have HZE:Hid (X1 ++ wlines (t.vs.take (q+1)) (t.ws.take (q+1))=Z):=hZ
            have HL2:Hid (Y ++ ((⟨(Lib.itoa x).toArray⟩:ByteArray) ++ ⟨#[32]⟩ ++ s ++ ⟨#[10]⟩).data.toList=Z):=by show _=_;rw [HX.out];simp [wline]
            have hZl:Z.length≤8048:=by rw [HX.out,List.length_append];omega
            have HOXH:Hid (type_of% hox):=hox
            have HBT:Hid (type_of% bt):=bt
            have HBR:Hid (type_of% hBr):=hBr
            have HXI:Hid (i64 x):=hx
            clear hZ hox bt hBr hx
            have k1:¬ 9223372036854775807<(Lib.itoa x).length+1:=by omega
            have k2:¬ 9223372036854775807<(Lib.itoa x).length+1+s.size:=by omega
            have k3:¬ 9223372036854775807<(Lib.itoa x).length+1+s.size+1:=by omega
            go_wp2_with fail
            go_region_held3 (fun w'=>w'.cell? ⟨rb,0,none⟩=some (.slice (some ⟨wb,wo,none⟩) n c0)∧w'.cell? ⟨rb,1,none⟩=some (.slice (some ⟨vb,vo,none⟩) n c1)∧w'.cell? ⟨wb,wo+q,none⟩=some (.string s)∧w'.cell? ⟨vb,vo+q,none⟩=some (.int .i64 x)) (go_keep) (first
              | (go_at_call 26
                 refine (Nu.snum _ w6.drew HXI.out.1 HXI.out.2).mono ?_
                 rintro e w7 ⟨rfl,hb⟩
                 have HY:Hid (Below w6.heap.size w6 w7):=((Below.refl w6.heap.size w6).drew).trans hb
                 obtain ⟨_,⟨z0,z1⟩,_⟩:=wr2 (HBT.out.below HY.out)
                 have z2:=(HY.out.cell (p:=⟨wb,wo+q,none⟩) hwb').trans e0
                 have z3:=(HY.out.cell (p:=⟨vb,vo+q,none⟩) hvb').trans e1
                 clear hb)
              | (refine Ob.step_appS rfl _ _ rfl g cap Y.length Y rfl rfl (HOXH.out.below HY.out) ((⟨(Lib.itoa x).toArray⟩ : ByteArray) ++ ⟨#[32]⟩ ++ s ++ ⟨#[10]⟩) rfl Z HL2.out (by omega) ?_
                 intro g8 cap8 w8 hox8 hgr8 hloc8
                 have w0:=(World.cell?_of_block (a:=⟨rb,0,none⟩) (hgr8.block rb (Nat.lt_of_lt_of_le hrl HY.out.size) (by intro e;cases e;omega))).trans z0
                 have w1':=(World.cell?_of_block (a:=⟨rb,1,none⟩) (hgr8.block rb (Nat.lt_of_lt_of_le hrl HY.out.size) (by intro e;cases e;omega))).trans z1
                 have w2':=(World.cell?_of_block (a:=⟨wb,wo+q,none⟩) (hgr8.block wb (Nat.lt_of_lt_of_le hwb' HY.out.size) (by intro e;cases e;omega))).trans z2
                 have w3':=(World.cell?_of_block (a:=⟨vb,vo+q,none⟩) (hgr8.block vb (Nat.lt_of_lt_of_le hvb' HY.out.size) (by intro e;cases e;omega))).trans z3
                 have HO8:Hid (type_of% hox8):=hox8
                 have HG8:Hid (type_of% hgr8):=hgr8
                 have HL8:Hid (type_of% hloc8):=hloc8
                 clear hox8 hgr8 hloc8))
            have HB8:Hid (Below w1.heap.size w1 w8):=(HBR.out.trans (HY.out.mono HBR.out.size)).grown HG8.out (by have:=HBR.out.size;have:=HY.out.size;omega) (fun k e=>by cases e;exact hg)
            have HT8:Hid (Wr w8 rb 0 [.slice (some ⟨wb,wo,none⟩) n c0,.slice (some ⟨vb,vo,none⟩) n c1]):=(HBT.out.below HY.out).keptAt HG8.out.size (HG8.out.block rb (Nat.lt_of_lt_of_le hrl HY.out.size) (by intro e;cases e;omega))
            have HP8:Hid (w1.heap.size≤g8∧¬ rb=g8):=by
              have h1:=HBR.out.size
              have h2:=HY.out.size
              rcases HL8.out with e | e
              · rw [e];exact ⟨hg,hne⟩
              · rw [e];exact ⟨by omega,by omega⟩
            clear w0 w1' w2' w3' z0 z1 z2 z3 y0 y1 e0 e1
            go_wp2
            go_roundw
            case rel=>exact ⟨q+1,g8,cap8,by omega,by go_num,by rw [HZE.out],by rw [HZE.out];exact HO8.out,HP8.out.1,HP8.out.2,HT8.out,HN3.out,HB8.out⟩
            case measure=>simp [intOf];omega
        · have e1 : t.vs.take q = t.vs := List.take_of_length_le (by rw [HK2.out]; omega)
          have e2:t.ws.take q=t.ws:=List.take_of_length_le (by rw [HKN.out];omega)
          rw [e1,e2,← HN.out] at hox hYl
          rw [e1,e2,← HN.out]
          have HNO2:Hid (∀ j (hj:j<m.ks.length),j<k+1→(m.ks[j].ws.any hasLf)=false):=HNX.out (any_no fun j hj=>HNO.out j hj (by have:=HKN.out;omega))
          clear e1 e2 hYl
          go_wp2
          go_roundw
          case rel=>exact ⟨k+1,g,cap,by omega,by go_num,rfl,hox,hg,HNO2.out,hBr⟩
          case measure=>simp [intOf];omega
    · have e1 : m.ks.take k = m.ks := List.take_of_length_le (by omega)
      have HLF:Hid (anyLf m.ks=false):=any_no (p:=fun t:Kv=>t.ws.any hasLf) fun j hj=>HNO.out j hj (by omega)
      have HR:Hid (mtext m=whole m):=mtext_yes HOK.out HLF.out
      rw [whole_eq] at HR
      have HBD:Hid (body m=head m ++ ctxts m.ks ++ ttxts m.ts):=rfl
      rw [e1] at hox hXl hnl2
      rw [e1]
      generalize head m ++ ctxts m.ks=X at hox hXl HBD ⊢
      clear e1 HNO hnl2 HLF
      have HOX:Hid (Ox wr g cap (X ++ ttxts (m.ts.take 0))):=by show Ox _ _ _ _;simpa [ttxts] using hox
      have HG0:Hid (w1.heap.size≤g):=hg
      have HB3:Hid (Below w1.heap.size w1 wr):=hBr
      clear hox hg hBr
      go_wp2
      go_loopw [3,7] (fun v i wq=>∃ k g cap:Nat,k≤m.ts.length∧i=.int .i64 k∧v=.slice (some ⟨g,0,none⟩) (X ++ ttxts (m.ts.take k)).length cap∧Ox wq g cap (X ++ ttxts (m.ts.take k))∧w1.heap.size≤g∧Below w1.heap.size w1 wq) (fun _ i _=>m.ts.length-(intOf i).toNat)
      case atStart=>exact ⟨0,g,cap,Nat.zero_le _,rfl,by simp [ttxts],HOX.out,HG0.out,HB3.out⟩
      case round =>
        clear HOX HG0 HB3 x0 x1 x2 x3 x4 x5
        obtain ⟨k,g,cap,hk,rfl,rfl,hox,hg,hBr⟩:=hrel
        obtain ⟨_,⟨x0,x1,x2,x3,x4,x5⟩,_⟩:=wr6 (bm.below hBr)
        have hnl2:(ttxts (m.ts.take k)).length≤6420:=ttxts_len (by have:=List.length_take_le k m.ts;omega) (take_mem hm.ts k)
        have hYl:(X ++ ttxts (m.ts.take k)).length≤12420:=by rw [List.length_append];omega
        by_cases hlt:k<m.ts.length
        · rcases h.t with e0 | ⟨xb, xo, rfl, hxb, hxc⟩
          · rw [e0] at hlt;simp at hlt
          obtain ⟨v0,v1,⟨d0,d1⟩,htr⟩:=hxc k hlt
          have d0:=(hBr.cell (p:=⟨xb,xo+k * 2,none⟩) hxb).trans d0
          have d1:=(hBr.cell (p:=⟨xb,xo+k * 2+1,none⟩) hxb).trans d1
          have hxb:=Nat.lt_of_lt_of_le hxb hBr.size
          have HN:Hid (X ++ ttxts (m.ts.take (k+1))=X ++ ttxts (m.ts.take k) ++ ttxt m.ts[k]):=by show _=_;rw [ttxts_take m.ts k hlt];simp
          obtain ⟨kn1,kn2,kn3,kn4⟩:=hm.ts m.ts[k] (List.getElem_mem hlt)
          clear hxc hnl2
          generalize m.ts[k]=t at d0 d1 htr HN kn1 kn2 kn3 kn4
          obtain ⟨a0,c0,a1,c1,rfl,rfl,hp,hv⟩:=htr
          rw [ttxt_pre] at HN
          generalize X ++ ttxts (m.ts.take k)=Y at hox hYl HN ⊢
          obtain ⟨X1,hX1⟩:∃ X1,Y ++ [116,114,101,101]=X1:=⟨_,rfl⟩
          have hX1l:X1.length≤12424:=by rw [← hX1];simp;omega
          have HL1:Hid (Y ++ (⟨#[116,114,101,101]⟩:ByteArray).data.toList=X1):=by show _=_;rw [← hX1]
          have HN:Hid (X ++ ttxts (m.ts.take (k+1))=X1 ++ spt t.sp ++ ([32,58] ++ nums t.lv ++ [10])):=by show _=_;rw [HN.out,← hX1];simp
          clear hX1
          obtain ⟨rb,hrb⟩:∃ rb,wr.heap.size=rb:=⟨_,rfl⟩
          obtain ⟨W2,hW2,hsz2,hB1,bt⟩:=new1 wr [.slice a0 t.sp.length c0,.slice a1 t.lv.length c1] 56
          have hgrb:g<rb:=by rw [← hrb];exact hox.lt
          have hwrb:w1.heap.size≤rb:=by rw [← hrb];exact hBr.size
          rw [hrb] at bt
          have HRB:Hid (wr.heap.size=rb):=hrb
          have HW2:Hid (wr.alloc (.cells #[.slice a0 t.sp.length c0,.slice a1 t.lv.length c1] 56)=W2):=hW2
          have hox:=hox.below hB1
          have HBR:Hid (Below w1.heap.size w1 W2):=hBr.trans (hB1.mono hBr.size)
          have hrl:=bt.1
          clear hW2 hsz2 hrb hB1 hBr
          go_wp2_with (at_builtin;rw [HW2.out,HRB.out];refine Ob.wpl_appS rfl _ _ rfl g cap Y.length Y rfl rfl hox (⟨#[116,114,101,101]⟩:ByteArray) rfl X1 HL1.out (by omega) ?_;intro g5 cap5 w5 hox5 hgr5 hloc5;have bt5:=bt.keptAt hgr5.size (hgr5.block rb hrl (by intro e;cases e;omega)))
          have HB5:Hid (Below w1.heap.size w1 w5):=HBR.out.grown hgr5 HBR.out.size (fun k e=>by cases e;exact hg)
          have HG5:Hid (w1.heap.size≤g5∧¬ rb=g5):=⟨by have:=HBR.out.size;omega,by omega⟩
          clear hox HBR hgr5 hloc5 bt hrl hgrb hg HW2 HRB HL1 x0 x1 x2 x3 x4 x5 d0 d1 hxb
          go_loopw [3,9] (fun v i wq=>∃ q g cap:Nat,q≤t.sp.length∧i=.int .i64 q∧v=.slice (some ⟨g,0,none⟩) (X1 ++ spt (t.sp.take q)).length cap∧Ox wq g cap (X1 ++ spt (t.sp.take q))∧w1.heap.size≤g∧¬ rb=g∧Wr wq rb 0 [.slice a0 t.sp.length c0,.slice a1 t.lv.length c1]∧Below w1.heap.size w1 wq) (fun _ i _=>t.sp.length-(intOf i).toNat)
          case atStart=>exact ⟨0,g5,cap5,Nat.zero_le _,rfl,by simp [spt],by simpa [spt] using hox5,HG5.out.1,HG5.out.2,bt5,HB5.out⟩
          case round =>
            clear hox5 bt5 HB5 HG5
            obtain ⟨q,g,cap,hq,rfl,rfl,hox,hg,hne,bt,hBr⟩:=hrel
            obtain ⟨hrl,⟨y0,y1⟩,_⟩:=wr2 bt
            have hnl2:(spt (t.sp.take q)).length≤176:=by
              have q1:=spt_len (t.sp.take q) (take_mem kn3 q)
              have q2:=List.length_take_le q t.sp
              omega
            have hSl:(X1 ++ spt (t.sp.take q)).length≤12600:=by rw [List.length_append];omega
            clear hnl2
            by_cases hlt2:q<t.sp.length
            · rcases id hp with e0 | ⟨wb, wo, rfl, hwb, hwc⟩
              · rw [e0] at hlt2;simp at hlt2
              obtain ⟨f0,f1⟩:=hwc q hlt2
              have e0:=(hBr.cell (p:=⟨wb,wo+q * 2,none⟩) hwb).trans f0
              have e1:=(hBr.cell (p:=⟨wb,wo+q * 2+1,none⟩) hwb).trans f1
              have hx:=kn3 t.sp[q] (List.getElem_mem hlt2)
              have HW:Hid (X1 ++ spt (t.sp.take (q+1))=X1 ++ spt (t.sp.take q) ++ nums [t.sp[q].1,t.sp[q].2]):=by show _=_;rw [spt_take t.sp q hlt2];simp
              generalize t.sp[q].1=x at e0 hx HW
              generalize t.sp[q].2=y at e1 hx HW
              have hwb':=Nat.lt_of_lt_of_le hwb hBr.size
              have hi:∀ z ∈ [x,y],i64 z:=by intro z hz;simp at hz;rcases hz with rfl | rfl;exact hx.1;exact hx.2
              have hil:=nums_len _ hi
              simp only [List.length_cons,List.length_nil] at hil
              generalize X1 ++ spt (t.sp.take q)=Y1 at hox hSl HW ⊢
              obtain ⟨Z,hZ⟩:∃ Z,X1 ++ spt (t.sp.take (q+1))=Z:=⟨_,rfl⟩
              rw [hZ] at HW
              have HZE:Hid (X1 ++ spt (t.sp.take (q+1))=Z):=hZ
              have HL2:Hid (Y1 ++ (⟨(nums [x,y]).toArray⟩:ByteArray).data.toList=Z):=by show _=_;rw [HW.out]
              have hZl:Z.length≤12700:=by rw [HW.out,List.length_append];omega
              have HOXH:Hid (type_of% hox):=hox
              have HBT:Hid (type_of% bt):=bt
              have HBR:Hid (type_of% hBr):=hBr
              have HI:Hid (type_of% hi):=hi
              have q1:=World.new_ne wr ⟨rb,0,none⟩ y0
              have q2:=World.new_ne wr ⟨wb,wo+q * 2,none⟩ e0
              have q3:=World.new_ne wr ⟨wb,wo+q * 2+1,none⟩ e1
              clear hZ hox bt hBr hx hi f0 f1 hwc
              go_wp2_with fail
              go_region_held3 (fun w'=>w'.cell? ⟨rb,0,none⟩=some (.slice (some ⟨wb,wo,none⟩) t.sp.length c0)∧w'.cell? ⟨wb,wo+q * 2,none⟩=some (.int .i64 x)∧w'.cell? ⟨wb,wo+q * 2+1,none⟩=some (.int .i64 y)) (go_keep) (first
                | (go_at_call 25
                   refine (snums (wr.alloc (.cells #[.int .i64 x,.int .i64 y] 3)).drew _ _ [x,y] (isl_lit wr [x,y] 3 _ _ rfl rfl) HI.out (by simp)).mono ?_
                   rintro e w7 ⟨rfl,hb⟩
                   have HY:Hid (Below wr.heap.size wr w7):=(((Below.refl wr.heap.size wr).alloc (Nat.le_refl _) _).drew).trans (hb.mono (by simp))
                   obtain ⟨_,⟨z0,z1⟩,_⟩:=wr2 (HBT.out.below HY.out)
                   have z2:=(HY.out.cell (p:=⟨wb,wo+q * 2,none⟩) hwb').trans e0
                   have z3:=(HY.out.cell (p:=⟨wb,wo+q * 2+1,none⟩) hwb').trans e1
                   clear hb)
                | (refine Ob.step_appS rfl _ _ rfl g cap Y1.length Y1 rfl rfl (HOXH.out.below HY.out) (⟨(nums [x, y]).toArray⟩ : ByteArray) rfl Z HL2.out (by omega) ?_
                   intro g8 cap8 w8 hox8 hgr8 hloc8
                   have p0:=(World.cell?_of_block (a:=⟨rb,0,none⟩) (hgr8.block rb (Nat.lt_of_lt_of_le hrl HY.out.size) (by intro e;cases e;omega))).trans z0
                   have p2:=(World.cell?_of_block (a:=⟨wb,wo+q * 2,none⟩) (hgr8.block wb (Nat.lt_of_lt_of_le hwb' HY.out.size) (by intro e;cases e;omega))).trans z2
                   have p3:=(World.cell?_of_block (a:=⟨wb,wo+q * 2+1,none⟩) (hgr8.block wb (Nat.lt_of_lt_of_le hwb' HY.out.size) (by intro e;cases e;omega))).trans z3
                   have HO8:Hid (type_of% hox8):=hox8
                   have HG8:Hid (type_of% hgr8):=hgr8
                   have HL8:Hid (type_of% hloc8):=hloc8
                   clear hox8 hgr8 hloc8))
              have HB8:Hid (Below w1.heap.size w1 w8):=(HBR.out.trans (HY.out.mono HBR.out.size)).grown HG8.out (by have:=HBR.out.size;have:=HY.out.size;omega) (fun k e=>by cases e;exact hg)
              have HT8:Hid (Wr w8 rb 0 [.slice (some ⟨wb,wo,none⟩) t.sp.length c0,.slice a1 t.lv.length c1]):=(HBT.out.below HY.out).keptAt HG8.out.size (HG8.out.block rb (Nat.lt_of_lt_of_le hrl HY.out.size) (by intro e;cases e;omega))
              have HP8:Hid (w1.heap.size≤g8∧¬ rb=g8):=by
                have h1:=HBR.out.size
                have h2:=HY.out.size
                rcases HL8.out with e | e
                · rw [e];exact ⟨hg,hne⟩
                · rw [e];exact ⟨by omega,by omega⟩
              clear p0 p2 p3 z0 z1 z2 z3 y0 y1 e0 e1 q1 q2 q3
              go_wp2
              go_roundw
              case rel=>exact ⟨q+1,g8,cap8,by omega,by go_num,by rw [HZE.out],by rw [HZE.out];exact HO8.out,HP8.out.1,HP8.out.2,HT8.out,HB8.out⟩
              case measure=>simp [intOf];omega
            · have e1 : t.sp.take q = t.sp := List.take_of_length_le (by omega)
              rw [e1] at hox hSl
              rw [e1]
              clear e1
              have hnl3:=nums_len _ kn4
              generalize X1 ++ spt t.sp=Y1 at hox hSl HN ⊢
              obtain ⟨Z,hZ⟩:∃ Z,X ++ ttxts (m.ts.take (k+1))=Z:=⟨_,rfl⟩
              rw [hZ] at HN
              have HZE:Hid (X ++ ttxts (m.ts.take (k+1))=Z):=hZ
              have HL2:Hid (Y1 ++ ((⟨#[32,58]⟩:ByteArray) ++ ⟨(nums t.lv).toArray⟩ ++ ⟨#[10]⟩).data.toList=Z):=by show _=_;rw [HN.out];simp
              have hZl:Z.length≤13000:=by rw [HN.out];simp;omega
              clear hZ
              go_wp2_with fail
              refine (snums _ _ _ t.lv (hv.below hBr) kn4 (by omega)).mono ?_
              rintro e w7 ⟨rfl,hb⟩
              have hox:=hox.below hb
              have hBr:=hBr.trans (hb.mono hBr.size)
              clear hb y0 y1 bt hrl
              go_wp2_with (at_builtin;refine Ob.wpl_appS rfl _ _ rfl g cap Y1.length Y1 rfl rfl hox ((⟨#[32,58]⟩:ByteArray) ++ ⟨(nums t.lv).toArray⟩ ++ ⟨#[10]⟩) rfl Z HL2.out (by omega) ?_;intro g8 cap8 w8 hox8 hgr8 hloc8)
              have HB8:Hid (Below w1.heap.size w1 w8):=hBr.grown hgr8 hBr.size (fun k e=>by cases e;exact hg)
              have HP8:Hid (w1.heap.size≤g8):=by have:=hBr.size;show _≤_;omega
              clear hgr8 hloc8 hox hBr
              go_roundw
              case rel=>exact ⟨k+1,g8,cap8,by omega,by go_num,by rw [HZE.out],by rw [HZE.out];exact hox8,HP8.out,HB8.out⟩
              case measure=>simp [intOf];omega
        · have e1 : m.ts.take k = m.ts := List.take_of_length_le (by omega)
          rw [e1,← HBD.out] at hox hYl
          rw [e1,← HBD.out]
          clear e1 hnl2
          have hbl:=body_len hm
          have hwl:=whole_len hm
          rw [whole_eq] at hwl
          generalize body m=Y at hox hYl HR hbl hwl ⊢
          have hcr:=Cr.crc_lt Y
          have hic:=Cr.scrc ⟨Y.toArray⟩ wr (by rw [ba_size];omega)
          have hdl:(ByteArray.mk Y.toArray).data.toList=Y:=by simp
          rw [hdl] at hic
          have hcv:=run_convert_bytes_back (P:=Tryz.prog) wr 22 9 5 ⟨g,0,none⟩ cap Y Tryz.underlying22 Tryz.underlying5 Tryz.underlying9 (fun j hj=>by rw [Go.WideShapes.add_plain,Nat.zero_add];exact hox.cell j hj)
          have hil:=Nu.itoa_len (Cr.crc Y:Int) (by omega) (by omega)
          obtain ⟨Z,hZ⟩:∃ Z,Y ++ ([115,117,109,32] ++ Lib.itoa (Cr.crc Y:Int) ++ [10])=Z:=⟨_,rfl⟩
          have HL2:Hid (Y ++ ((⟨#[115,117,109,32]⟩:ByteArray) ++ ⟨(Lib.itoa (Cr.crc Y:Int)).toArray⟩ ++ ⟨#[10]⟩).data.toList=Z):=by show _=_;rw [← hZ];simp
          rw [hZ] at HR hwl
          clear hdl hZ
          go_wp2_with (go_at_call 16;refine hic.mono ?_;rintro e w' ⟨rfl,hw'⟩;subst w')
          refine (Nu.snum _ _ (by omega) (by omega)).mono ?_
          rintro e w7 ⟨rfl,hb⟩
          have hox:=hox.below hb
          have hBr:=hBr.trans (hb.mono hBr.size)
          generalize Lib.itoa (Cr.crc Y:Int)=I at HL2 hil ⊢
          clear hb hic hcv hcr x0 x1 x2 x3 x4 x5
          go_wp2_with (at_builtin;refine Ob.wpl_appS rfl _ _ rfl g cap Y.length Y rfl rfl hox ((⟨#[115,117,109,32]⟩:ByteArray) ++ ⟨I.toArray⟩ ++ ⟨#[10]⟩) rfl Z HL2.out (by omega) ?_;intro g8 cap8 w8 hox8 hgr8 hloc8;have hcv:=run_convert_bytes_back (P:=Tryz.prog) w8 22 9 5 ⟨g8,0,none⟩ cap8 Z Tryz.underlying22 Tryz.underlying5 Tryz.underlying9 (fun j hj=>by rw [Go.WideShapes.add_plain,Nat.zero_add];exact hox8.cell j hj))
          have hBe:=hB.trans ((hBr.grown hgr8 hBr.size (fun k e=>by cases e;exact hg)).mono hB.size)
          go_ret
          exact ⟨by rw [HR.out];rfl,hBe⟩
end Go.Proofs.YtaojoamldoofpaaGreatDoor.Mt
namespace Go.Proofs.YtaojoamldoofpaaGreatDoor.Ma
open Go.Lib
def isDig (c:UInt8):Prop:=48≤c.toNat∧c.toNat≤57
def step (n:Nat) (c:UInt8):Nat:=if 48≤c.toNat∧c.toNat≤57 then 10 * n+(c.toNat-48) else n
def scan (l:List UInt8):Nat:=l.foldl step 0
theorem dig_of (k:Nat) (h:k<10):(UInt8.ofNat (48+k)).toNat=48+k:=by rw [UInt8.toNat_ofNat'];omega
theorem isDig_of (k:Nat) (h:k<10):isDig (UInt8.ofNat (48+k)):=by unfold isDig;rw [dig_of k h];omega
theorem step_of (n k:Nat) (h:k<10):step n (UInt8.ofNat (48+k))=10 * n+k:=by
 have hd:=isDig_of k h
 unfold isDig at hd
 unfold step;rw [if_pos hd,dig_of k h];omega
theorem dec_all (u:Nat):∀ c ∈ decDigits u,isDig c:=by
 induction u using Nat.strongRecOn with
 | _ u ih =>
  rw [decDigits]
  split
  ·
   intro c hc;rw [List.mem_singleton] at hc;subst hc;exact isDig_of u ‹_›
  ·
   intro c hc
   rcases List.mem_append.1 hc with h | h
   ·
    exact ih (u / 10) (by omega) c h
   ·
    rw [List.mem_singleton] at h;subst h;exact isDig_of (u % 10) (by omega)
theorem dec_scan (u:Nat):(decDigits u).foldl step 0=u:=by
 induction u using Nat.strongRecOn with
 | _ u ih =>
  rw [decDigits]
  split
  ·
   rw [List.foldl_cons,List.foldl_nil,step_of 0 u ‹_›];omega
  ·
   rw [List.foldl_append,ih (u / 10) (by omega)]
   simp only [List.foldl_cons,List.foldl_nil]
   rw [step_of _ _ (by omega)];omega
theorem step_le (n:Nat) (c:UInt8):n≤step n c:=by unfold step;split <;> omega
theorem scan_le:∀ (l:List UInt8) (n:Nat),n≤l.foldl step n
 | [],_=>Nat.le_refl _
 | c :: l,n=>Nat.le_trans (step_le n c) (scan_le l _)
theorem parse_ok:∀ (l:List UInt8) (n:Nat),(∀ c ∈ l,isDig c)→l.foldl step n≤1000000000000000→parseUint10 n l=.ok (l.foldl step n)
 | [],n,_,_=>rfl
 | c :: l,n,h,hb=>by
  have hc:isDig c:=h c (by simp)
  unfold isDig at hc
  have e:step n c=n * 10+(c.toNat-48):=by unfold step;rw [if_pos hc];omega
  rw [List.foldl_cons] at hb ⊢
  have h1:=scan_le l (step n c)
  rw [parseUint10,if_pos hc,if_neg (by omega),if_neg (by omega),← e]
  exact parse_ok l _ (fun c' hc'=>h c' (by simp [hc'])) hb
theorem dec_ne (u:Nat):decDigits u≠[]:=by
 intro h
 have:=decDigits_length u
 rw [h] at this
 have:=nDigits_pos u
 simp at *
 omega
end Go.Proofs.YtaojoamldoofpaaGreatDoor.Ma
namespace Go.Proofs.YtaojoamldoofpaaGreatDoor.Rm
set_option maxRecDepth 20000
open Mt (nums nums_cons nums_nil i64)
def num (f:List UInt8):Option Int:=match Lib.atoiAll f with
 | .ok v=>some v
 | _=>none
def numL:List (List UInt8)→Option (List Int)
 | []=>some []
 | f :: fs=>match num f,numL fs with
  | some v,some vs=>some (v :: vs)
  | _,_=>none
def inums (l:List UInt8):Option (List Int):=numL (Lib.fieldsD l)
theorem itoa_chars (x:Int):∀ c ∈ Lib.itoa x,c=45 ∨ Ma.isDig c:=by
 intro c hc
 unfold Lib.itoa at hc
 split at hc
 ·
  rcases List.mem_cons.1 hc with h | h
  ·
   exact .inl h
  ·
   exact .inr (Ma.dec_all _ c h)
 ·
  exact .inr (Ma.dec_all _ c hc)
theorem itoa_ne (x:Int):Lib.itoa x≠[]:=by
 unfold Lib.itoa
 split
 ·
  simp
 ·
  exact Ma.dec_ne _
theorem dig_facts {c:UInt8} (h:c=45 ∨ Ma.isDig c):Lib.isSp c=false∧c.toNat<128∧c≠10∧c≠32∧c≠58:=by
 have:c.toNat=45 ∨ (48≤c.toNat∧c.toNat≤57):=by
  rcases h with rfl | h
  ·
   exact .inl rfl
  ·
   exact .inr h
 have ne:∀ k:Nat,k<45 ∨ (k=46 ∨ k=47 ∨ 57<k)→k<256→¬ c=UInt8.ofNat k:=fun k hk hl e=>by
  have:c.toNat=k:=by rw [e,UInt8.toNat_ofNat'];omega
  omega
 refine ⟨?_,by omega,ne 10 (by omega) (by omega),ne 32 (by omega) (by omega),ne 58 (by omega) (by omega)⟩
 unfold Lib.isSp
 simp only [Bool.or_eq_false_iff,beq_eq_false_iff_ne,ne_eq]
 exact ⟨⟨⟨⟨⟨ne 9 (by omega) (by omega),ne 10 (by omega) (by omega)⟩,ne 11 (by omega) (by omega)⟩,ne 12 (by omega) (by omega)⟩,ne 13 (by omega) (by omega)⟩,ne 32 (by omega) (by omega)⟩
theorem num_itoa {x:Int} (h : -1000000000000≤x∧x≤1000000000000):num (Lib.itoa x)=some x:=by
 have hp:∀ u:Nat,u≤1000000000000→Lib.parseMag (Lib.decDigits u)=.ok u:=fun u hu=>by
  have h1:=Ma.parse_ok (Lib.decDigits u) 0 (Ma.dec_all u) (by rw [Ma.dec_scan];omega)
  rw [Ma.dec_scan] at h1
  unfold Lib.parseMag
  rw [if_neg (Ma.dec_ne u)]
  exact h1
 have hd:∀ u:Nat,∃ c r,Lib.decDigits u=c :: r∧c.toNat≠43∧c.toNat≠45:=fun u=>by
  cases hq:Lib.decDigits u with
  | nil=>exact absurd hq (Ma.dec_ne u)
  | cons c r =>
   have:=Ma.dec_all u c (by rw [hq];simp)
   unfold Ma.isDig at this
   exact ⟨c,r,rfl,by omega,by omega⟩
 unfold num
 by_cases hn:x<0
 ·
  have e:Lib.itoa x=45 :: Lib.decDigits x.natAbs:=by unfold Lib.itoa;rw [if_pos hn]
  rw [e,Lib.atoiAll_minus,hp _ (by omega)]
  have e2:Lib.signed (.ok x.natAbs)=.ok (-(x.natAbs:Int)):=if_neg (by omega)
  rw [e2]
  show some (-(x.natAbs:Int))=some x
  congr 1
  omega
 ·
  have e:Lib.itoa x=Lib.decDigits x.toNat:=by unfold Lib.itoa;rw [if_neg hn]
  obtain ⟨c,r,hq,h1,h2⟩:=hd x.toNat
  rw [e,hq,Lib.atoiAll_plain c r h1 h2,← hq,hp _ (by omega)]
  have e2:Lib.signless (.ok x.toNat)=.ok (x.toNat:Int):=if_neg (by omega)
  rw [e2]
  show some (x.toNat:Int)=some x
  congr 1
  omega
theorem fg_word (d r:List UInt8) (hd:∀ c ∈ d,Lib.isSp c=false):∀ cur,Lib.fieldsGo cur (d ++ r)=Lib.fieldsGo (cur ++ d) r:=by
 induction d with
 | nil=>intro cur;simp
 | cons c d ih =>
  intro cur
  have hc:=hd c (by simp)
  rw [List.cons_append,Lib.fieldsGo,if_neg (by rw [hc];simp),ih (fun x hx=>hd x (by simp [hx]))]
  simp
def fl (cur:List UInt8):List (List UInt8):=if cur.isEmpty then [] else [cur]
theorem fg_blank (cur r:List UInt8):Lib.fieldsGo cur (32 :: r)=fl cur ++ Lib.fieldsGo [] r:=by
 rw [Lib.fieldsGo,if_pos (by decide)]
 unfold fl
 cases cur <;> simp
theorem fg_nums (e:List UInt8) (he:e=[] ∨ e=[32]):∀ (l:List Int) (cur:List UInt8),Lib.fieldsGo cur (nums l ++ e)=fl cur ++ l.map Lib.itoa
 | [],cur=>by
  rw [nums_nil,List.nil_append]
  rcases he with rfl | rfl
  ·
   simp [Lib.fieldsGo,fl]
  ·
   rw [fg_blank];simp [Lib.fieldsGo]
 | x :: l,cur=>by
  have ih:=fg_nums e he l (Lib.itoa x)
  rw [nums_cons,List.cons_append,List.cons_append,fg_blank,List.append_assoc,fg_word _ _ (fun c hc=>(dig_facts (itoa_chars x c hc)).1),List.nil_append,ih]
  have:fl (Lib.itoa x)=[Lib.itoa x]:=by
   unfold fl
   cases h:Lib.itoa x with
   | nil=>exact absurd h (itoa_ne x)
   | cons c r=>rfl
  rw [this]
  simp
theorem ascii_nums:∀ (l:List Int),∀ c ∈ nums l,c=32 ∨ c=45 ∨ Ma.isDig c
 | [],c,hc=>by simp [nums] at hc
 | x :: l,c,hc=>by
  rw [nums_cons] at hc
  rcases List.mem_append.1 hc with h | h
  ·
   rcases List.mem_cons.1 h with h | h
   ·
    exact .inl h
   ·
    exact .inr (itoa_chars x c h)
  ·
   exact ascii_nums l c h
theorem c128 {c:UInt8} (h:c=32 ∨ c=45 ∨ Ma.isDig c):c.toNat<128:=by
 rcases h with rfl | h
 ·
  decide
 ·
  exact (dig_facts h).2.1
theorem numL_map:∀ (l:List Int),(∀ x ∈ l,-1000000000000≤x∧x≤1000000000000)→numL (l.map Lib.itoa)=some l
 | [],_=>rfl
 | x :: l,h=>by
  have h1:=num_itoa (h x (by simp))
  have h2:=numL_map l (fun y hy=>h y (by simp [hy]))
  simp only [List.map_cons,numL,h1,h2]
theorem inums_nums {e:List UInt8} (he:e=[] ∨ e=[32]) (l:List Int) (h:∀ x ∈ l,-1000000000000≤x∧x≤1000000000000):inums (nums l ++ e)=some l:=by
 unfold inums
 rw [Lib.fieldsD_ascii _ (fun c hc=>by
  rcases List.mem_append.1 hc with h | h
  ·
   exact c128 (ascii_nums l c h)
  ·
   rcases he with rfl | rfl
   ·
    simp at h
   ·
    simp at h;subst h;decide)]
 unfold Lib.fields
 rw [fg_nums e he l []]
 simpa [fl] using numL_map l h
theorem inums_tail {e:List UInt8} (he:e=[] ∨ e=[32]) (x:Int) (l:List Int) (h:∀ y ∈ x :: l,-1000000000000≤y∧y≤1000000000000):inums (Lib.itoa x ++ nums l ++ e)=some (x :: l):=by
 unfold inums
 rw [Lib.fieldsD_ascii _ (fun c hc=>by
  rcases List.mem_append.1 hc with h | h
  ·
   rcases List.mem_append.1 h with h | h
   ·
    exact (dig_facts (itoa_chars x c h)).2.1
   ·
    exact c128 (ascii_nums l c h)
  ·
   rcases he with rfl | rfl
   ·
    simp at h
   ·
    simp at h;subst h;decide)]
 unfold Lib.fields
 rw [List.append_assoc,fg_word _ _ (fun c hc=>(dig_facts (itoa_chars x c hc)).1),List.nil_append,fg_nums e he l]
 have:fl (Lib.itoa x)=[Lib.itoa x]:=by
  unfold fl
  cases h:Lib.itoa x with
  | nil=>exact absurd h (itoa_ne x)
  | cons c r=>rfl
 rw [this]
 exact numL_map (x :: l) h
theorem nums_no (l:List Int):(10:UInt8) ∉ nums l∧(58:UInt8) ∉ nums l:=by
 constructor
 ·
  intro h
  rcases ascii_nums l _ h with h | h
  ·
   revert h;decide
  ·
   exact (dig_facts h).2.2.1 rfl
 ·
  intro h
  rcases ascii_nums l _ h with h | h
  ·
   revert h;decide
  ·
   exact (dig_facts h).2.2.2.2 rfl
theorem itoa_no (x:Int):(10:UInt8) ∉ Lib.itoa x∧(32:UInt8) ∉ Lib.itoa x∧(58:UInt8) ∉ Lib.itoa x :=
 ⟨fun h=>(dig_facts (itoa_chars x _ h)).2.2.1 rfl,fun h=>(dig_facts (itoa_chars x _ h)).2.2.2.1 rfl,fun h=>(dig_facts (itoa_chars x _ h)).2.2.2.2 rfl⟩
end Go.Proofs.YtaojoamldoofpaaGreatDoor.Rm
namespace Go.Proofs.YtaojoamldoofpaaGreatDoor.Rm
set_option maxRecDepth 20000
open Md (M mok mok_parts)
open Kt (Kv)
open Mt (nums nums_cons nums_nil spt head ctxt ttxt ctxts ttxts body whole wline wlines i64 Kn Tn Mn hasLf anyLf)
structure St where
 m:M
 left:Int
def zero:M:=⟨0,0,0,0,[],[]⟩
def pairs:List Int→List (Int × Int)
 | a :: b :: r=>(a,b) :: pairs r
 | _=>[]
def first (l:List UInt8):List UInt8:=(Lib.cut l [32]).1
def rest (l:List UInt8):List UInt8:=(Lib.cut l [32]).2.1
def addW (ks:List Kv) (s:ByteArray) (v:Int):List Kv:=ks.set (ks.length-1) ⟨(ks.getD (ks.length-1) ⟨[],[]⟩).ws ++ [s],(ks.getD (ks.length-1) ⟨[],[]⟩).vs ++ [v]⟩
def dHead (st:St) (r:List UInt8):Option St:=match inums r with
 | some [a,b,c,d]=>some ⟨⟨a,b,c,d,st.m.ks,st.m.ts⟩,st.left⟩
 | _=>none
def dCtr (st:St) (r:List UInt8):Option St:=match inums r with
 | some [n]=>some ⟨⟨st.m.n,st.m.c,st.m.prior,st.m.base,st.m.ks ++ [⟨[],[]⟩],st.m.ts⟩,n⟩
 | _=>none
def dWord (st:St) (f r:List UInt8):Option St:=match num f with
 | some v=>some ⟨⟨st.m.n,st.m.c,st.m.prior,st.m.base,addW st.m.ks ⟨r.toArray⟩ v,st.m.ts⟩,st.left-1⟩
 | none=>none
def dTree (st:St) (r:List UInt8):Option St:=match inums (Lib.cut r [58]).1,inums (Lib.cut r [58]).2.1 with
 | some a,some l=>if a.length % 2=0 then some ⟨⟨st.m.n,st.m.c,st.m.prior,st.m.base,st.m.ks,st.m.ts ++ [⟨pairs a,l⟩]⟩,st.left⟩ else none
 | _,_=>none
def wModel:List UInt8:=[109,111,100,101,108]
def wCtr:List UInt8:=[99,116,114]
def wTree:List UInt8:=[116,114,101,101]
def wSum:List UInt8:=[115,117,109]
def dLine (st:St) (l:List UInt8):Option St :=
 if 0<st.left then dWord st (first l) (rest l)
 else if first l=wModel then dHead st (rest l)
 else if first l=wCtr then dCtr st (rest l)
 else if first l=wTree then dTree st (rest l)
 else none
noncomputable def rd:List (List UInt8)→St→Option St
 | [],st=>some st
 | l :: ls, st => if 0 < st.left then (match dLine st l with
   | none=>none
   | some st'=>rd ls st')
  else if first l=wSum then some st
  else match dLine st l with
   | none=>none
   | some st'=>rd ls st'
noncomputable def rdt (s:List UInt8) (st:St):Option St:=rd (Pc.pieces 10 s) st
end Go.Proofs.YtaojoamldoofpaaGreatDoor.Rm
namespace Go.Proofs.YtaojoamldoofpaaGreatDoor.Rm
set_option maxRecDepth 20000
open Md (M mok mok_parts kok_parts)
open Kt (Kv)
open Mt (nums nums_cons nums_nil spt head ctxt ttxt ctxts ttxts body whole wline wlines hasLf anyLf)
def bd (x:Int):Prop:=-1000000000000≤x∧x≤1000000000000
theorem fok_bd {x:Int} (h:Bo.fok x=true):bd x:=by
 have : -1000000000≤x∧x≤1000000000:=by simpa [Bo.fok] using h
 unfold bd;omega
def flat:List (Int × Int)→List Int
 | []=>[]
 | p :: ps=>p.1 :: p.2 :: flat ps
theorem flat_pairs:∀ ps:List (Int × Int),pairs (flat ps)=ps
 | []=>rfl
 | p :: ps=>by simp only [flat,pairs,flat_pairs ps]
theorem flat_even:∀ ps:List (Int × Int),(flat ps).length % 2=0
 | []=>rfl
 | p :: ps=>by simp only [flat,List.length_cons];have:=flat_even ps;omega
theorem spt_flat:∀ ps:List (Int × Int),spt ps=nums (flat ps)
 | []=>rfl
 | p :: ps=>by
  have ih:=spt_flat ps
  unfold spt at ih ⊢
  rw [List.map_cons,List.flatten_cons,ih]
  simp [flat,nums]
structure Gd (m:M):Prop where
 h:∀ x ∈ [m.n,m.c,m.prior,m.base],bd x
 k:∀ t ∈ m.ks,t.vs.length=t.ws.length∧t.ws.length≤40∧(∀ v ∈ t.vs,bd v)∧∀ s ∈ t.ws,(10:UInt8) ∉ s.data.toList
 t:∀ t ∈ m.ts,(∀ x ∈ flat t.sp,bd x)∧∀ x ∈ t.lv,bd x
theorem flat_bd:∀ {ps:List (Int × Int)},(∀ p ∈ ps,bd p.1∧bd p.2)→∀ x ∈ flat ps,bd x
 | [],_,x,hx=>by simp [flat] at hx
 | p :: ps,h,x,hx=>by
  simp only [flat,List.mem_cons] at hx
  rcases hx with rfl | rfl | hx
  ·
   exact (h p (by simp)).1
  ·
   exact (h p (by simp)).2
  ·
   exact flat_bd (fun q hq=>h q (by simp [hq])) x hx
theorem gd_of {m:M} (h:mok m=true) (hn:anyLf m.ks=false):Gd m:=by
 obtain ⟨h1,h2,h3,h4,h5,h6,h7⟩:=mok_parts h
 obtain ⟨s0,s1,s2⟩:=Tk.sok_iff.1 h1
 refine ⟨?_,fun t ht=>?_,fun t ht=>?_⟩
 ·
  have hp : -1000000≤m.prior∧m.prior≤1000000:=by simpa [Li.btw] using h2
  intro x hx
  simp at hx
  rcases hx with rfl | rfl | rfl | rfl
  ·
   unfold bd;omega
  ·
   unfold bd;omega
  ·
   unfold bd;omega
  ·
   exact fok_bd h3
 ·
  obtain ⟨k1,k2,k3,k4,_⟩:=kok_parts (List.all_eq_true.1 h7 t ht)
  refine ⟨k2,k1,fun v hv=>fok_bd (List.all_eq_true.1 k3 v hv),fun s hs e=>?_⟩
  have h8:(t.ws.any hasLf)=false:=by
   unfold anyLf at hn
   rw [List.any_eq_false] at hn
   have:=hn t ht
   simpa using this
  rw [List.any_eq_false] at h8
  have:=h8 s hs
  unfold hasLf at this
  exact this (List.contains_iff_mem.2 e)
 ·
  obtain ⟨_,k3,k4⟩:=Tr.tok_iff.1 (List.all_eq_true.1 h6 t ht)
  refine ⟨flat_bd (fun p hp=>?_),fun x hx=>fok_bd (List.all_eq_true.1 k4 x hx)⟩
  have:=List.all_eq_true.1 k3 p hp
  unfold Tr.spok at this
  simp only [Bool.and_eq_true,decide_eq_true_eq] at this
  exact ⟨by unfold bd;omega,fok_bd this.2⟩
theorem first_at {f:List UInt8} (r:List UInt8) (h:(32:UInt8) ∉ f):first (f ++ 32 :: r)=f∧rest (f ++ 32 :: r)=r:=by
 unfold first rest
 rw [Pc.cut_at 32 f r h]
 exact ⟨rfl,rfl⟩
theorem rdt_line {a r:List UInt8} {st st':St} (ha:(10:UInt8) ∉ a) (hs:0<st.left ∨ ¬ first a=wSum) (hd:dLine st a=some st'):rdt (a ++ 10 :: r) st=rdt r st':=by
 unfold rdt
 rw [Pc.pieces_cut 10 r a ha,rd]
 by_cases hl:0<st.left
 ·
  rw [if_pos hl,hd]
 ·
  have:¬ first a=wSum:=hs.resolve_left hl
  rw [if_neg hl,if_neg this,hd]
theorem rdt_sum {a r:List UInt8} {st:St} (ha:(10:UInt8) ∉ a) (hl:¬ 0<st.left) (hf:first a=wSum):rdt (a ++ 10 :: r) st=some st:=by
 unfold rdt
 rw [Pc.pieces_cut 10 r a ha,rd,if_neg hl,if_pos hf]
theorem rdt_head (m:M) (hg:Gd m) (R:List UInt8):rdt (head m ++ R) ⟨zero,0⟩=rdt R ⟨⟨m.n,m.c,m.prior,m.base,[],[]⟩,0⟩:=by
 have e:head m ++ R=(wModel ++ 32 :: (Lib.itoa m.n ++ nums [m.c,m.prior,m.base])) ++ 10 :: R:=by
  unfold head wModel
  rw [nums_cons]
  simp
 have hf:=first_at (f:=wModel) (Lib.itoa m.n ++ nums [m.c,m.prior,m.base]) (by decide)
 have hi:=inums_tail (e:=[]) (.inl rfl) m.n [m.c,m.prior,m.base] hg.h
 rw [List.append_nil] at hi
 rw [e]
 refine rdt_line ?_ (.inr ?_) ?_
 ·
  intro h
  rcases List.mem_append.1 h with h | h
  ·
   revert h;decide
  ·
   rcases List.mem_cons.1 h with h | h
   ·
    revert h;decide
   ·
    rcases List.mem_append.1 h with h | h
    ·
     exact (itoa_no _).1 h
    ·
     exact (nums_no _).1 h
 ·
  rw [hf.1];decide
 ·
  unfold dLine
  rw [if_neg (by decide),if_pos hf.1,hf.2]
  unfold dHead
  rw [hi]
  rfl
theorem addW_snoc (ks:List Kv) (wa:List ByteArray) (va:List Int) (s:ByteArray) (v:Int):addW (ks ++ [⟨wa,va⟩]) s v=ks ++ [⟨wa ++ [s],va ++ [v]⟩]:=by
 unfold addW
 have e:(ks ++ [(⟨wa,va⟩:Kv)]).length-1=ks.length:=by simp
 rw [e]
 have e2:(ks ++ [(⟨wa,va⟩:Kv)]).getD ks.length ⟨[],[]⟩=⟨wa,va⟩:=by simp
 rw [e2,List.set_append_right _ _ (Nat.le_refl _)]
 simp
theorem rdt_words (n c p b:Int) (ks:List Kv) (ts:List Tr.T) (R:List UInt8):∀ (vs:List Int) (ws:List ByteArray) (wa:List ByteArray) (va:List Int),vs.length=ws.length→(∀ v ∈ vs,bd v)→(∀ s ∈ ws,(10:UInt8) ∉ s.data.toList) →
  rdt (wlines vs ws ++ R) ⟨⟨n,c,p,b,ks ++ [⟨wa,va⟩],ts⟩,(ws.length:Int)⟩=rdt R ⟨⟨n,c,p,b,ks ++ [⟨wa ++ ws,va ++ vs⟩],ts⟩,0⟩
 | [],[],wa,va,_,_,_=>by simp [wlines]
 | [],s :: ws,wa,va,h,_,_=>by simp at h
 | v :: vs,[],wa,va,h,_,_=>by simp at h
 | v :: vs,s :: ws,wa,va,h,hv,hs=>by
  have ih:=rdt_words n c p b ks ts R vs ws (wa ++ [s]) (va ++ [v]) (by simpa using h) (fun x hx=>hv x (by simp [hx])) (fun x hx=>hs x (by simp [hx]))
  have e:wlines (v :: vs) (s :: ws) ++ R=(Lib.itoa v ++ 32 :: s.data.toList) ++ 10 :: (wlines vs ws ++ R):=by
   simp [wlines,wline]
  have hf:=first_at (f:=Lib.itoa v) s.data.toList (itoa_no v).2.1
  have hpos:(0:Int)<(((s :: ws).length:Nat):Int):=by rw [List.length_cons];omega
  rw [e,rdt_line (st':=⟨⟨n,c,p,b,ks ++ [⟨wa ++ [s],va ++ [v]⟩],ts⟩,(ws.length:Int)⟩) ?_ (.inl hpos) ?_,ih]
  ·
   simp
  ·
   intro hm
   rcases List.mem_append.1 hm with h | h
   ·
    exact (itoa_no _).1 h
   ·
    rcases List.mem_cons.1 h with h | h
    ·
     revert h;decide
    ·
     exact hs s (by simp) h
  ·
   unfold dLine
   rw [if_pos hpos,hf.1,hf.2]
   unfold dWord
   rw [num_itoa (hv v (by simp))]
   have e3:(⟨s.data.toList.toArray⟩:ByteArray)=s:=by cases s;rfl
   simp only [e3,addW_snoc]
   congr 2
   simp
theorem rdt_ctrs (n c p b:Int) (ts:List Tr.T) (R:List UInt8):∀ (ks ka:List Kv),(∀ t ∈ ks,t.vs.length=t.ws.length∧t.ws.length≤40∧(∀ v ∈ t.vs,bd v)∧∀ s ∈ t.ws,(10:UInt8) ∉ s.data.toList) →
  rdt (ctxts ks ++ R) ⟨⟨n,c,p,b,ka,ts⟩,0⟩=rdt R ⟨⟨n,c,p,b,ka ++ ks,ts⟩,0⟩
 | [],ka,_=>by simp [ctxts]
 | t :: ks,ka,h=>by
  obtain ⟨h1,h2,h3,h4⟩:=h t (by simp)
  have ih:=rdt_ctrs n c p b ts R ks (ka ++ [t]) (fun u hu=>h u (by simp [hu]))
  have e:ctxts (t :: ks) ++ R=(wCtr ++ 32 :: Lib.itoa (t.ws.length:Int)) ++ 10 :: (wlines t.vs t.ws ++ (ctxts ks ++ R)):=by
   simp [ctxts,ctxt,wCtr,Mt.nums_one]
  have hf:=first_at (f:=wCtr) (Lib.itoa (t.ws.length:Int)) (by decide)
  have hi:=inums_tail (e:=[]) (.inl rfl) (t.ws.length:Int) [] (by intro y hy;simp at hy;subst hy;omega)
  rw [nums_nil,List.append_nil,List.append_nil] at hi
  rw [e,rdt_line (st':=⟨⟨n,c,p,b,ka ++ [⟨[],[]⟩],ts⟩,(t.ws.length:Int)⟩) ?_ (.inr (by rw [hf.1];decide)) ?_,rdt_words n c p b ka ts _ t.vs t.ws [] [] h1 h3 h4]
  ·
   simp only [List.nil_append]
   rw [ih]
   simp
  ·
   intro hm
   rcases List.mem_append.1 hm with h | h
   ·
    revert h;decide
   ·
    rcases List.mem_cons.1 h with h | h
    ·
     revert h;decide
    ·
     exact (itoa_no _).1 h
  ·
   unfold dLine
   rw [if_neg (Int.lt_irrefl 0),hf.1,if_neg (by decide),if_pos rfl,hf.2]
   unfold dCtr
   rw [hi]
theorem cut_co {a r:List UInt8} (h:(58:UInt8) ∉ a):Lib.cut (a ++ 58 :: r) [58]=(a,r,true):=Pc.cut_at 58 a r h
theorem rdt_trees (n c p b:Int) (ks:List Kv) (R:List UInt8):∀ (ts ta:List Tr.T),(∀ t ∈ ts,(∀ x ∈ flat t.sp,bd x)∧∀ x ∈ t.lv,bd x) →
  rdt (ttxts ts ++ R) ⟨⟨n,c,p,b,ks,ta⟩,0⟩=rdt R ⟨⟨n,c,p,b,ks,ta ++ ts⟩,0⟩
 | [],ta,_=>by simp [ttxts]
 | t :: ts,ta,h=>by
  obtain ⟨h1,h2⟩:=h t (by simp)
  have ih:=rdt_trees n c p b ks R ts (ta ++ [t]) (fun u hu=>h u (by simp [hu]))
  have hlv:=inums_nums (e:=[]) (.inl rfl) t.lv h2
  rw [List.append_nil] at hlv
  have key:∃ r,wTree ++ 32 :: r ++ 10 :: (ttxts ts ++ R)=ttxts (t :: ts) ++ R∧(10:UInt8) ∉ r∧dTree ⟨⟨n,c,p,b,ks,ta⟩,0⟩ r=some ⟨⟨n,c,p,b,ks,ta ++ [t]⟩,0⟩:=by
   have et:(⟨pairs (flat t.sp),t.lv⟩:Tr.T)=t:=by rw [flat_pairs]
   cases hq:flat t.sp with
   | nil =>
    refine ⟨58 :: nums t.lv,?_,?_,?_⟩
    ·
     simp [ttxts,ttxt,wTree,spt_flat,hq,nums_nil]
    ·
     intro hm
     rcases List.mem_cons.1 hm with h | h
     ·
      revert h;decide
     ·
      exact (nums_no _).1 h
    ·
     have hc:=cut_co (a:=[]) (r:=nums t.lv) (by simp)
     rw [List.nil_append] at hc
     have h0:inums []=some []:=by
      have:=inums_nums (e:=[]) (.inl rfl) [] (by intro x hx;simp at hx)
      rwa [nums_nil,List.append_nil] at this
     unfold dTree
     rw [hc]
     simp only [h0,hlv]
     rw [hq] at et
     rw [if_pos (by rfl),et]
   | cons x l =>
    refine ⟨Lib.itoa x ++ nums l ++ [32] ++ 58 :: nums t.lv,?_,?_,?_⟩
    ·
     simp [ttxts,ttxt,wTree,spt_flat,hq,nums_cons]
    ·
     intro hm
     rcases List.mem_append.1 hm with h | h
     ·
      rcases List.mem_append.1 h with h | h
      ·
       rcases List.mem_append.1 h with h | h
       ·
        exact (itoa_no _).1 h
       ·
        exact (nums_no _).1 h
      ·
       revert h;decide
     ·
      rcases List.mem_cons.1 h with h | h
      ·
       revert h;decide
      ·
       exact (nums_no _).1 h
    ·
     have hc:=cut_co (a:=Lib.itoa x ++ nums l ++ [32]) (r:=nums t.lv) (by
      intro hm
      rcases List.mem_append.1 hm with h | h
      ·
       rcases List.mem_append.1 h with h | h
       ·
        exact (itoa_no _).2.2 h
       ·
        exact (nums_no _).2 h
      ·
       revert h;decide)
     have h0:=inums_tail (e:=[32]) (.inr rfl) x l (by rw [← hq];exact h1)
     unfold dTree
     rw [hc]
     simp only [h0,hlv]
     have:=flat_even t.sp
     rw [hq] at this et
     rw [if_pos this,et]
  obtain ⟨r,e,hr,hd⟩:=key
  have hf:=first_at (f:=wTree) r (by decide)
  rw [← e,rdt_line (st':=⟨⟨n,c,p,b,ks,ta ++ [t]⟩,0⟩) ?_ (.inr (by rw [hf.1];decide)) ?_,ih]
  ·
   simp
  ·
   intro hm
   rcases List.mem_append.1 hm with h | h
   ·
    revert h;decide
   ·
    rcases List.mem_cons.1 h with h | h
    ·
     revert h;decide
    ·
     exact hr h
  ·
   unfold dLine
   rw [if_neg (Int.lt_irrefl 0),hf.1,if_neg (by decide),if_neg (by decide),if_pos rfl,hf.2]
   exact hd
theorem rdt_whole {m:M} (hg:Gd m):rdt (whole m) ⟨zero,0⟩=some ⟨m,0⟩:=by
 have e:whole m=head m ++ (ctxts m.ks ++ (ttxts m.ts ++ ((wSum ++ 32 :: Lib.itoa (Cr.crc (body m):Int)) ++ 10 :: []))):=by
  unfold whole body wSum
  rw [Mt.nums_one]
  simp
 rw [e,rdt_head m hg,rdt_ctrs _ _ _ _ _ _ _ _ hg.k,rdt_trees _ _ _ _ _ _ _ _ hg.t,rdt_sum ?_ (Int.lt_irrefl 0) (first_at (f:=wSum) _ (by decide)).1]
 ·
  simp
 ·
  intro hm
  rcases List.mem_append.1 hm with h | h
  ·
   revert h;decide
  ·
   rcases List.mem_cons.1 h with h | h
   ·
    revert h;decide
   ·
    exact (itoa_no _).1 h
end Go.Proofs.YtaojoamldoofpaaGreatDoor.Rm
