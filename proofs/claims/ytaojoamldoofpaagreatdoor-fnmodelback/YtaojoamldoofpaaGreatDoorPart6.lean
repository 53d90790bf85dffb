/-
  Contracts that the proof leans on, put together in the order in which they build.
-/
import Derived.Test.YtaojoamldoofpaaGreatDoorPart5
import Derived.Test.YtaojoamldoofpaaGreatDoorPart2
import Derived.Maps.AppendAt
import Derived.Test.YtaojoamldoofpaaGreatDoorPart1
import Derived.Deep.RegionWith
import Derived.Deep.RegionLaw
import Derived.Deep.AppendLies
import Derived.Test.YtaojoamldoofpaaGreatDoorPart4
import Derived.Test.YtaojoamldoofpaaGreatDoorPart3
set_option linter.unusedVariables false
namespace Go.Proofs.YtaojoamldoofpaaGreatDoor.Bs
open Go.RowKit
open Li Bo Ai Bw
theorem Own.alloc' {w:World} {base:Nat} {v:Value} {xs:List Int} (h:Own w base v xs) (o:Obj):Own (w.alloc o) base v xs:=World.ownsRow.alloc h _
theorem isl_take {w:World} {base g n cap:Nat} {m:List Int} (h:Own w base (.slice (some ⟨g,0,none⟩) n cap) m) (p:Nat):IsL w (some ⟨g,0,none⟩) (m.take p):=by
 obtain ⟨a,c,e,hi⟩:=h.isl
 cases e
 rcases hi with rfl | ⟨b,off,e,hb,hc⟩
 ·
  exact .inl (by simp)
 ·
  cases e
  refine .inr ⟨g,0,rfl,hb,fun j hj=>?_⟩
  have hj':j<m.length:=by simp at hj;omega
  rw [hc j hj'];simp
theorem isl_drop {w:World} {base g n cap:Nat} {m:List Int} (h:Own w base (.slice (some ⟨g,0,none⟩) n cap) m) (p:Nat):IsL w (some ⟨g,p,none⟩) (m.drop p):=by
 obtain ⟨a,c,e,hi⟩:=h.isl
 cases e
 rcases hi with rfl | ⟨b,off,e,hb,hc⟩
 ·
  exact .inl (by simp)
 ·
  cases e
  refine .inr ⟨g,p,rfl,hb,fun j hj=>?_⟩
  have hj':p+j<m.length:=by simp at hj;omega
  have:=hc (p+j) hj'
  rw [Nat.zero_add] at this
  rw [this];simp
theorem own_eq {w:World} {base n:Nat} {v:Value} {l:List Int} {c:List Value} (hn:n=l.length) (hc:c=iv l) (h:w.ownsRow base 3 1 v n c):Own w base v l:=by
 subst hn;subst hc;exact h
theorem news_none {m:List Int} {p:Nat} (h:¬ p<m.length) {w:World} {ad:Addr} : ∀ j u,(iv (m.drop p))[j]? = some u→w.cell? (ad.add j)=some u:=by
 intro j u hj
 rw [List.drop_eq_nil_of_le (by omega)] at hj
 simp [iv] at hj
theorem own_at {w:World} {base:Nat} {v:Value} {m:List Int} (h:Own w base v m) (hv:v≠.slice none 0 0):∃ g cap,v=.slice (some ⟨g,0,none⟩) m.length cap∧g<w.heap.size∧m.length≤cap:=by
 rcases h.2 with ⟨e,_⟩ | ⟨g,cap,cur,e,hb,hh,hc,_⟩
 ·
  exact absurd e hv
 ·
  exact ⟨g,cap,e,(Array.getElem?_eq_some_iff.1 hh).1,hc⟩
set_option maxRecDepth 100000 in
set_option maxHeartbeats 4000000 in
theorem ssort (w:World) (a:Option Addr) (cp:Nat) (xs:List Int) (hx:IsL w a xs) (hl:xs.length≤1048576) :
  Calls Tryz.prog 126 #[.slice a xs.length cp] w fun e w'=>∃ v,e=.returned v∧Own w' w.heap.size v (srt xs)∧Below w.heap.size w w':=by
 obtain ⟨i0,hi,hz0,hz1,hz2⟩:=info_parts info_int
 go_enter Tryz.func126,Tryz.ntmps126
 go_wp2
 go_loopw [3,4] (fun v i wr=>∃ k:Nat,k≤xs.length∧i=.int .i64 k∧∃ m:List Int,m=srt (xs.take k)∧∃ g cap,v=.slice (some ⟨g,0,none⟩) m.length cap∧Own wr w.heap.size (.slice (some ⟨g,0,none⟩) m.length cap) m∧m.length≤cap∧Below w.heap.size w wr) (fun _ i _=>xs.length-(intOf i).toNat)
 case atStart=>exact ⟨0,Nat.zero_le _,rfl,[],rfl,w.heap.size,0,rfl,own_empty _ _ (Nat.le_refl _),Nat.le_refl _,(Below.refl _ _).alloc (Nat.le_refl _) _⟩
 case round =>
  obtain ⟨k,hk,rfl,m,hm,g,cap,rfl,hown,hcap,hB⟩:=hrel
  have HM:Hid (m=srt (xs.take k)):=hm
  have hml:m.length≤k:=by rw [hm];have:=srt_len (xs.take k);simp at this;omega
  clear hm
  by_cases hlt:k<xs.length
  ·
   rcases hx with rfl | ⟨b,off,rfl,hbw,hc⟩
   ·
    simp at hlt
   have hcw:=hc k hlt
   have HT:Hid (srt (xs.take (k+1))=ins (srt (xs.take k)) xs[k]):=srt_take hlt
   obtain ⟨x,ex⟩:∃ x,xs[k]=x:=⟨_,rfl⟩
   rw [ex] at hcw HT
   have HT:Hid (srt (xs.take (k+1))=ins m x):=by rw [HM.out];exact HT
   clear ex hc HM
   go_wp2
   go_loopw [5] (fun q wq=>∃ p:Nat,p≤m.length∧q=.int .i64 p∧(∀ j (h:j<m.length),j<p→m[j]<x)∧Own wq w.heap.size (.slice (some ⟨g,0,none⟩) m.length cap) m∧Below w.heap.size w wq) (fun q _=>m.length-(intOf q).toNat)
   case atStart=>exact ⟨0,Nat.zero_le _,rfl,fun j h hj=>by omega,hown,hB⟩
   case round =>
    clear hown hB
    obtain ⟨p,hp,rfl,hless,hown,hB⟩:=hrel
    have HL:Hid (∀ j (h:j<m.length),j<p→m[j]<x):=hless
    clear hless
    have hs:=hB.size
    have hcx:wr.cell? ⟨b,off+k,none⟩=some (.int .i64 x):=(hB.cell (by exact hbw)).trans hcw
    by_cases hpl:p<m.length
    ·
     have hcm:=hown.cell rfl p hpl
     by_cases hv:m[p]<x
     ·
      have HN:Hid (∀ j (h:j<m.length),j<p+1→m[j]<x):=fun j h hj=>by
       by_cases e:j=p
       ·
        subst e;exact hv
       ·
        exact HL.out j h (by omega)
      have HO:Hid (∀ n,Own (wr.drewN n) w.heap.size (.slice (some ⟨g,0,none⟩) m.length cap) m):=fun n=>hown.drewN n
      have HB:Hid (∀ n,Below w.heap.size w (wr.drewN n)):=fun n=>Go.below_drewN hB n
      obtain ⟨y,ey⟩:∃ y,m[p]=y:=⟨_,rfl⟩
      rw [ey] at hcm hv
      clear ey hown hB
      go_wp2
      go_quiet (fail)
      go_wp2
      go_roundw
      case rel=>exact ⟨p+1,by omega,by go_num,HN.out,HO.out _,HB.out _⟩
      case measure=>simp [intOf];omega
     ·
      have hins:=ins_at (l:=m) (x:=x) p hp HL.out (fun _=>hv)
      have HO:Hid (Own wr w.heap.size (.slice (some ⟨g,0,none⟩) m.length cap) m):=hown
      have hgl:g<wr.heap.size:=(hown.ge g rfl).2
      by_cases he:m[p]=x
      ·
       have HR:Hid (m=srt (xs.take (k+1))):=by show _=_;rw [HT.out,hins,if_pos ⟨hpl,he⟩]
       have HB:Hid (∀ n,Below w.heap.size w (wr.drewN n)):=fun n=>Go.below_drewN hB n
       obtain ⟨y,ey⟩:∃ y,m[p]=y:=⟨_,rfl⟩
       rw [ey] at hcm hv he
       have hee:(y == x)=true:=by simpa using he
       clear ey hown hB hins he
       go_wp2
       go_quiet (fail)
       go_wp2
       go_quiet (fail)
       go_wp2
       go_roundw
       case rel =>
        exact ⟨k+1,by omega,by go_num,m,HR.out,g,cap,rfl,HO.out.drewN _,hcap,HB.out _⟩
       case measure=>simp [intOf];omega
      ·
       have HR:Hid (m.take p ++ [x] ++ m.drop p=srt (xs.take (k+1))):=by show _=_;rw [HT.out,hins,if_neg (fun h=>he h.2)]
       obtain ⟨y,ey⟩:∃ y,m[p]=y:=⟨_,rfl⟩
       rw [ey] at hcm hv he
       have hee:(y == x)=false:=by simpa using he
       clear ey hins he
       go_wp2
       go_quiet (fail)
       go_wp2
       go_quiet (fail)
       go_wp2_with (at_builtin;refine wpList_append_own_at _ rfl _ _ 45 rfl w.heap.size 3 i0 (.int .i64 0) 1 8 Tryz.underlying45 hi hz0 hz1 hz2 rfl (by decide) (.slice (some ⟨wr.heap.size,0,none⟩) 0 0) 0 [] rfl (own_empty _ _ hs) ⟨g,0,none⟩ p cap (iv (m.take p)) rfl (by rw [iv_length];simp;omega) (news_i (isl_take (Own.alloc' (hown.drewN _) _) p)) (iv_one _) (by unfold maxLen;omega) (by omega) (by simp;omega) ?_)
       intro v1 w3 ho3 hg3 hn3 hl3
       have ho3:Own w3 w.heap.size v1 (m.take p):=own_eq (by simp;omega) (by simp [iv]) ho3
       have hv1:v1≠.slice none 0 0:=by first | exact hn3 | exact fun e=>by have:=(hn3.1 e).1;cases this
       have ho3':Own w3 w.heap.size (.slice (some ⟨g,0,none⟩) m.length cap) m:=Own.kept (Own.alloc' (hown.drewN _) _) hg3 (.inr (by simp [Value.ownBlock];omega))
       have hb3:∀ k,v1.ownBlock=some k→g<k:=fun k hk=>by
        rcases hl3 with h | h <;> rw [hk] at h <;> simp [Value.ownBlock] at h <;> omega
       have hB3:Below w.heap.size w w3:=below_app ((Go.below_drewN hB _).alloc hs _) (by simp;omega) hg3 (fun k hk=>by simp [Value.ownBlock] at hk;omega)
       have hs3:=hB3.size
       clear hn3 hl3 hg3
       have hcx3:w3.cell? ⟨b,off+k,none⟩=some (.int .i64 x):=(hB3.cell (by exact hbw)).trans hcw
       go_wp2_with (at_builtin;refine wpList_append_own _ rfl _ _ 45 rfl w.heap.size 3 i0 (.int .i64 0) 1 8 Tryz.underlying45 hi hz0 hz1 hz2 rfl (by decide) v1 (m.take p).length _ rfl (World.ownsRow.alloc ho3 _) ⟨w3.heap.size,0,none⟩ 1 1 [.int .i64 x] rfl rfl (one_cell _ _ _) (one_one _) (by simp;unfold maxLen;omega) (by simp;omega) (by simp;omega) ?_)
       intro v2 w4 ho4 hg4 hn4
       have ho4:Own w4 w.heap.size v2 (m.take p ++ [x]):=own_eq (by simp;omega) (by simp [iv]) ho4
       have hv2:v2≠.slice none 0 0:=by first | exact hn4 | exact fun e=>hv1 (hn4.1 e).1
       have ho4':Own w4 w.heap.size (.slice (some ⟨g,0,none⟩) m.length cap) m:=Own.kept (World.ownsRow.alloc ho3' _) hg4 (.inr (fun e=>by have:=hb3 g e.symm;omega))
       have hB4:Below w.heap.size w w4:=below_app (hB3.alloc hs3 _) (by simp;omega) hg4 (fun k hk=>(ho3.ge k hk).1)
       have hs4:=hB4.size
       clear hn4 hg4 ho3 ho3' hB3 hcx3 hb3 hv1
       go_wp2_with (at_builtin;refine wpList_append_own _ rfl _ _ 45 rfl w.heap.size 3 i0 (.int .i64 0) 1 8 Tryz.underlying45 hi hz0 hz1 hz2 rfl (by decide) v2 (m.take p ++ [x]).length _ rfl ho4 ⟨g,p,none⟩ (m.length-p) _ (iv (m.drop p)) rfl (by rw [iv_length];simp) (news_i (isl_drop ho4' p)) (iv_one _) (by simp;unfold maxLen;omega) (by simp;omega) (by omega) ?_)
       all_goals
        intro v3 w5 ho5 hg5 hn5
        have ho5:Own w5 w.heap.size v3 (m.take p ++ [x] ++ m.drop p):=own_eq (by simp;omega) (by simp [iv]) ho5
        have hv3:v3≠.slice none 0 0:=by first | exact hn5 | exact fun e=>hv2 (hn5.1 e).1
        have hB5:Below w.heap.size w w5:=below_app hB4 hs4 hg5 (fun k hk=>(ho4.ge k hk).1)
        clear hn5 hg5 ho4 ho4' hB4 hv2
        obtain ⟨g',cap',hv,hgl,hgc⟩:=own_at ho5 hv3
        have HV:Hid (v3=.slice (some ⟨g',0,none⟩) (m.take p ++ [x] ++ m.drop p).length cap'):=hv
        clear hv
        go_wp2
        go_roundw
        all_goals first
         | exact ⟨k+1,by omega,by go_num,m.take p ++ [x] ++ m.drop p,HR.out,g',cap',HV.out,by rw [← HV.out];exact ho5,hgc,hB5⟩
         | (simp [intOf];omega)
    ·
     have hins:=ins_at (l:=m) (x:=x) p hp HL.out (fun h=>absurd h hpl)
     have hgl:g<wr.heap.size:=(hown.ge g rfl).2
     have HR:Hid (m.take p ++ [x] ++ m.drop p=srt (xs.take (k+1))):=by show _=_;rw [HT.out,hins,if_neg (fun h=>hpl h.1)]
     have hpd:decide (p<m.length)=false:=by simp;omega
     have hpd':decide ((p:Int)<(m.length:Int))=false:=by simp;omega
     clear hins
     go_wp2
     go_quiet (fail)
     go_wp2
     go_quiet (fail)
     go_wp2_with (at_builtin;refine wpList_append_own_at _ rfl _ _ 45 rfl w.heap.size 3 i0 (.int .i64 0) 1 8 Tryz.underlying45 hi hz0 hz1 hz2 rfl (by decide) (.slice (some ⟨wr.heap.size,0,none⟩) 0 0) 0 [] rfl (own_empty _ _ hs) ⟨g,0,none⟩ p cap (iv (m.take p)) rfl (by rw [iv_length];simp;omega) (news_i (isl_take (Own.alloc' (hown.drewN _) _) p)) (iv_one _) (by unfold maxLen;omega) (by omega) (by simp;omega) ?_)
     intro v1 w3 ho3 hg3 hn3 hl3
     have ho3:Own w3 w.heap.size v1 (m.take p):=own_eq (by simp;omega) (by simp [iv]) ho3
     have hv1:v1≠.slice none 0 0:=by first | exact hn3 | exact fun e=>by have:=(hn3.1 e).1;cases this
     have ho3':Own w3 w.heap.size (.slice (some ⟨g,0,none⟩) m.length cap) m:=Own.kept (Own.alloc' (hown.drewN _) _) hg3 (.inr (by simp [Value.ownBlock];omega))
     have hb3:∀ k,v1.ownBlock=some k→g<k:=fun k hk=>by
      rcases hl3 with h | h <;> rw [hk] at h <;> simp [Value.ownBlock] at h <;> omega
     have hB3:Below w.heap.size w w3:=below_app ((Go.below_drewN hB _).alloc hs _) (by simp;omega) hg3 (fun k hk=>by simp [Value.ownBlock] at hk;omega)
     have hs3:=hB3.size
     clear hn3 hl3 hg3
     have hcx3:w3.cell? ⟨b,off+k,none⟩=some (.int .i64 x):=(hB3.cell (by exact hbw)).trans hcw
     go_wp2_with (at_builtin;refine wpList_append_own _ rfl _ _ 45 rfl w.heap.size 3 i0 (.int .i64 0) 1 8 Tryz.underlying45 hi hz0 hz1 hz2 rfl (by decide) v1 (m.take p).length _ rfl (World.ownsRow.alloc ho3 _) ⟨w3.heap.size,0,none⟩ 1 1 [.int .i64 x] rfl rfl (one_cell _ _ _) (one_one _) (by simp;unfold maxLen;omega) (by simp;omega) (by simp;omega) ?_)
     intro v2 w4 ho4 hg4 hn4
     have ho4:Own w4 w.heap.size v2 (m.take p ++ [x]):=own_eq (by simp;omega) (by simp [iv]) ho4
     have hv2:v2≠.slice none 0 0:=by first | exact hn4 | exact fun e=>hv1 (hn4.1 e).1
     have ho4':Own w4 w.heap.size (.slice (some ⟨g,0,none⟩) m.length cap) m:=Own.kept (World.ownsRow.alloc ho3' _) hg4 (.inr (fun e=>by have:=hb3 g e.symm;omega))
     have hB4:Below w.heap.size w w4:=below_app (hB3.alloc hs3 _) (by simp;omega) hg4 (fun k hk=>(ho3.ge k hk).1)
     have hs4:=hB4.size
     clear hn4 hg4 ho3 ho3' hB3 hcx3 hb3 hv1
     by_cases hcp:cap=p
     ·
      have hcp:=hcp.symm
      subst hcp
      go_wp2_with (at_builtin;refine wpList_append_own _ rfl _ _ 45 rfl w.heap.size 3 i0 (.int .i64 0) 1 8 Tryz.underlying45 hi hz0 hz1 hz2 rfl (by decide) v2 (m.take p ++ [x]).length _ rfl ho4 ⟨g,0,none⟩ 0 _ [] rfl rfl (fun j u hj=>by simp at hj) (fun u hu=>by simp at hu) (by simp;unfold maxLen;omega) (by simp;omega) (by omega) ?_)
      all_goals
       intro v3 w5 ho5 hg5 hn5
       have ho5:Own w5 w.heap.size v3 (m.take p ++ [x] ++ m.drop p):=own_eq (by simp;omega) (by simp [iv,List.drop_eq_nil_of_le (show m.length≤p by omega)]) ho5
       have hv3:v3≠.slice none 0 0:=by first | exact hn5 | exact fun e=>hv2 (hn5.1 e).1
       have hB5:Below w.heap.size w w5:=below_app hB4 hs4 hg5 (fun k hk=>(ho4.ge k hk).1)
       clear hn5 hg5 ho4 ho4' hB4 hv2
       obtain ⟨g',cap',hv,hgl,hgc⟩:=own_at ho5 hv3
       have HV:Hid (v3=.slice (some ⟨g',0,none⟩) (m.take p ++ [x] ++ m.drop p).length cap'):=hv
       clear hv
       go_wp2
       go_roundw
       all_goals first
        | exact ⟨k+1,by omega,by go_num,m.take p ++ [x] ++ m.drop p,HR.out,g',cap',HV.out,by rw [← HV.out];exact ho5,hgc,hB5⟩
        | (simp [intOf];omega)
     ·
      have hpc:p<cap:=by omega
      clear hcp
      go_wp2_with (at_builtin;refine wpList_append_own _ rfl _ _ 45 rfl w.heap.size 3 i0 (.int .i64 0) 1 8 Tryz.underlying45 hi hz0 hz1 hz2 rfl (by decide) v2 (m.take p ++ [x]).length _ rfl ho4 ⟨g,p,none⟩ (m.length-p) _ (iv (m.drop p)) rfl (by rw [iv_length];simp) (news_none hpl) (iv_one _) (by simp;unfold maxLen;omega) (by simp;omega) (by omega) ?_)
      all_goals
       intro v3 w5 ho5 hg5 hn5
       have ho5:Own w5 w.heap.size v3 (m.take p ++ [x] ++ m.drop p):=own_eq (by simp;omega) (by simp [iv]) ho5
       have hv3:v3≠.slice none 0 0:=by first | exact hn5 | exact fun e=>hv2 (hn5.1 e).1
       have hB5:Below w.heap.size w w5:=below_app hB4 hs4 hg5 (fun k hk=>(ho4.ge k hk).1)
       clear hn5 hg5 ho4 ho4' hB4 hv2
       obtain ⟨g',cap',hv,hgl,hgc⟩:=own_at ho5 hv3
       have HV:Hid (v3=.slice (some ⟨g',0,none⟩) (m.take p ++ [x] ++ m.drop p).length cap'):=hv
       clear hv
       go_wp2
       go_roundw
       all_goals first
        | exact ⟨k+1,by omega,by go_num,m.take p ++ [x] ++ m.drop p,HR.out,g',cap',HV.out,by rw [← HV.out];exact ho5,hgc,hB5⟩
        | (simp [intOf];omega)
  ·
   obtain rfl:k=xs.length:=by omega
   have HR:Hid (srt xs=m):=by show _=_;rw [HM.out,List.take_length]
   go_wp2
   go_ret
   exact ⟨_,rfl,by rw [HR.out];exact hown,hB⟩
end Go.Proofs.YtaojoamldoofpaaGreatDoor.Bs
namespace Go.Proofs.YtaojoamldoofpaaGreatDoor.Bs
open Go.RowKit
open Li Bo Ai Bw
theorem take_snoc {v:List Int} {k:Nat} (h:k<v.length):v.take k ++ [v[k]]=v.take (k+1):=(List.take_succ_eq_append_getElem h).symm
def spr (v:List Int) (most k:Nat):List Int:=(List.range k).map fun j=>v.getD (plc v.length most j) 0
theorem spr_len (v:List Int) (most k:Nat):(spr v most k).length=k:=by simp [spr]
theorem spr_succ (v:List Int) (most k:Nat) (h:plc v.length most k<v.length):spr v most k ++ [v[plc v.length most k]]=spr v most (k+1):=by
 unfold spr
 rw [List.range_succ,List.map_append]
 simp [List.getD_eq_getElem?_getD,List.getElem?_eq_getElem h]
theorem wrap_in (x:Int) (h0 : -9223372036854775808≤x) (h1:x≤9223372036854775807):wrap64 x=x:=by unfold wrap64;omega
theorem plc_go {k L q:Nat} (hk:k<q) (hq:q≤12) (hL:L≤1000) (hm:q+1<L) :
  wrap64 (wrap64 ((wrap64 (((k:Int)+1) * (L:Int))).tdiv ((q:Int)+1))-1)=(plc L q k:Int):=by
 have h0:(k+1) * L≤12 * 1000:=Nat.mul_le_mul (by omega) hL
 have e:((k:Int)+1) * (L:Int)=(((k+1) * L:Nat):Int):=by rw [Int.natCast_mul];rfl
 have e2:((q:Int)+1)=((q+1:Nat):Int):=rfl
 have h1:(k+1) * L / (q+1)≤12 * 1000:=Nat.le_trans (Nat.div_le_self _ _) h0
 have h2:=plc_pos (j:=k) hm
 have e3:wrap64 (((k+1) * L:Nat):Int)=(((k+1) * L:Nat):Int):=wrap_in _ (by omega) (by omega)
 have e4:((((k+1) * L:Nat):Int)).tdiv ((q+1:Nat):Int)=(((k+1) * L / (q+1):Nat):Int):=(Int.ofNat_tdiv _ _).symm
 rw [e,e3,e2,e4]
 unfold plc
 obtain ⟨D,hD⟩:∃ D,(k+1) * L / (q+1)=D:=⟨_,rfl⟩
 rw [hD] at h1 h2 ⊢
 have e5:wrap64 (D:Int)=D:=wrap_in _ (by omega) (by omega)
 rw [e5,wrap_in _ (by omega) (by omega)]
 omega
theorem isl_grown {w w1:World} {a:Option Addr} {xs:List Int} {r:Option Nat} (h:IsL w a xs) (hg:w.grownBy w1 r) (hr:∀ x,a=some x→r≠some x.block):IsL w1 a xs :=
 h.keptAt hg.size (fun x hx hlt=>hg.block _ hlt (fun e=>hr x hx e.symm))
theorem isl_alloc {w:World} {a:Option Addr} {xs:List Int} (h:IsL w a xs) (o:Obj):IsL (w.alloc o) a xs :=
 h.keptAt (by simp) (fun x _ hlt=>Below.heap_alloc _ _ _ hlt)
set_option maxRecDepth 100000 in
set_option maxHeartbeats 4000000 in
theorem sbor_no (w:World) (a:Option Addr) (cp:Nat) (xs:List Int) (most:Int) (hx:IsL w a xs) (hl:xs.length≤1048576) (hn:¬ (xs.length≤1000∧0≤most∧most≤12∧aok xs=true)) :
  Calls Tryz.prog 99 #[.slice a xs.length cp,.int .i64 most] w fun e w'=>∃ v,e=.returned v∧Own w' w.heap.size v []∧Below w.heap.size w w':=by
 have ho:Own (w.alloc (.cells #[] 3)) w.heap.size (.slice (some ⟨w.heap.size,0,none⟩) 0 0) []:=own_empty _ _ (Nat.le_refl _)
 have hB:Below w.heap.size w (w.alloc (.cells #[] 3)):=(Below.refl _ _).alloc (Nat.le_refl _) _
 by_cases h1:1000<xs.length
 ·
  have hd:decide (1000<(xs.length:Int))=true:=by simp;omega
  go_enter Tryz.func99,Tryz.ntmps99
  go_wp2
  go_ret
  exact ⟨_,rfl,ho,hB⟩
 have hd:decide (1000<(xs.length:Int))=false:=by simp;omega
 by_cases h2:0≤most∧most≤12
 ·
  have hbt:btw most 0 12=true:=by simpa [btw] using h2
  have hna:¬ aok xs=true:=fun h=>hn ⟨by omega,h2.1,h2.2,h⟩
  have HN:Hid (¬ aok xs=true):=hna
  clear hn hna h2
  go_enter Tryz.func99,Tryz.ntmps99
  go_wp2_with (go_at_call 33;refine (between_any _ _ _ _).mono ?_;rintro e w' ⟨rfl,hw⟩;subst w';rw [hbt])
  go_loop [6] (fun i=>∃ k:Nat,k≤xs.length∧i=.int .i64 k∧∀ j (hj:j<xs.length),j<k→fok xs[j]=true) (fun i=>xs.length-(intOf i).toNat)
  case atStart=>exact ⟨0,Nat.zero_le _,rfl,fun j hj h=>by omega⟩
  case round =>
   obtain ⟨k,hk,rfl,hok⟩:=hrel
   have HK:Hid (∀ j (hj:j<xs.length),j<k→fok xs[j]=true):=hok
   clear hok
   by_cases hlt:k<xs.length
   ·
    rcases hx.below hB with h0 | ⟨b,off,rfl,hb,hc⟩
    ·
     rw [h0] at hlt;simp at hlt
    have hcx:=hc k hlt
    clear hc
    cases hv:fok xs[k] with
    | false =>
     go_wp2_with (go_at_call 54;refine (sokv _ false hv _).mono ?_;rintro e w' ⟨rfl,hw⟩;subst w')
     go_ret
     exact ⟨_,rfl,ho,hB⟩
    | true =>
     have HR:Hid (∀ j (hj:j<xs.length),j<k+1→fok xs[j]=true):=fun j hj h=>by
      by_cases e:j=k
      ·
       subst e;exact hv
      ·
       exact HK.out j hj (by omega)
     go_wp2_with (go_at_call 54;refine (sokv _ true hv _).mono ?_;rintro e w' ⟨rfl,hw⟩;subst w')
     go_round
     case rel=>exact ⟨k+1,by omega,by go_num,HR.out⟩
     case measure=>simp [intOf];omega
   ·
    exact absurd (aok_to (fun j hj=>HK.out j hj (by omega))) HN.out
 ·
  have hbt:btw most 0 12=false:=by simp [btw];omega
  go_enter Tryz.func99,Tryz.ntmps99
  go_wp2_with (go_at_call 33;refine (between_any _ _ _ _).mono ?_;rintro e w' ⟨rfl,hw⟩;subst w';rw [hbt])
  go_ret
  exact ⟨_,rfl,ho,hB⟩
set_option maxRecDepth 100000 in
set_option maxHeartbeats 4000000 in
theorem sbor_yes (w:World) (a:Option Addr) (cp:Nat) (xs:List Int) (q:Nat) (hx:IsL w a xs) (h1:xs.length≤1000) (hq:q≤12) (hok:aok xs=true) :
  Calls Tryz.prog 99 #[.slice a xs.length cp,.int .i64 q] w fun e w'=>∃ v,e=.returned v∧Own w' w.heap.size v (cut (srt xs) q)∧Below w.heap.size w w':=by
 obtain ⟨i0,hi,hz0,hz1,hz2⟩:=info_parts info_int
 have ho:Own (w.alloc (.cells #[] 3)) w.heap.size (.slice (some ⟨w.heap.size,0,none⟩) 0 0) []:=own_empty _ _ (Nat.le_refl _)
 have hB:Below w.heap.size w (w.alloc (.cells #[] 3)):=(Below.refl _ _).alloc (Nat.le_refl _) _
 have hd:decide (1000<(xs.length:Int))=false:=by simp;omega
 have hbt:btw (q:Int) 0 12=true:=by simp [btw];omega
 have HOK:Hid (aok xs=true):=hok
 have hx1:=hx.below hB
 clear hok
 go_enter Tryz.func99,Tryz.ntmps99
 go_wp2_with (go_at_call 33;refine (between_any _ _ _ _).mono ?_;rintro e w' ⟨rfl,hw⟩;subst w';rw [hbt])
 go_loop [6] (fun i=>∃ k:Nat,k≤xs.length∧i=.int .i64 k) (fun i=>xs.length-(intOf i).toNat)
 case atStart=>exact ⟨0,Nat.zero_le _,rfl⟩
 case round =>
  obtain ⟨k,hk,rfl⟩:=hrel
  by_cases hlt:k<xs.length
  ·
   rcases hx1 with h0 | ⟨b,off,rfl,hb,hc⟩
   ·
    rw [h0] at hlt;simp at hlt
   have hcx:=hc k hlt
   have hv:=aok_at HOK.out k hlt
   clear hc
   go_wp2_with (go_at_call 54;refine (sokv _ true hv _).mono ?_;rintro e w' ⟨rfl,hw⟩;subst w')
   go_round
   case rel=>exact ⟨k+1,by omega,by go_num⟩
   case measure=>simp [intOf];omega
  ·
   obtain rfl:k=xs.length:=by omega
   clear hlt hk
   go_wp2_with fail
   refine (ssort _ a cp xs hx1 (by omega)).mono ?_
   rintro e w2 ⟨vv,rfl,hov,hB2⟩
   have hvl:=srt_len xs
   obtain ⟨v,hv⟩:∃ v,srt xs=v:=⟨_,rfl⟩
   have HV:Hid (srt xs=v):=hv
   rw [hv] at hov hvl
   clear hv
   have hsz:w.heap.size+1≤w2.heap.size:=by have:=hB2.size;simpa using this
   have ho2:=ho.below hB2
   have hBw:=hB.trans (hB2.mono (by simp))
   obtain ⟨av,cv,rfl,hiv⟩:=hov.isl
   have hav:∀ x,av=some x→w.heap.size+1≤x.block∧x.block<w2.heap.size:=fun x e=>by
    subst e
    have:=hov.ge x.block rfl
    simpa using this
   clear hov ho hB hB2 hx hx1
   by_cases hm:v.length≤q+1
   ·
    have hle:decide ((v.length:Int)-1≤(q:Int))=true:=by simp;omega
    have HR:Hid (cut (srt xs) q=v.take (v.length-1)):=by rw [HV.out];exact cut_few hm
    go_wp2
    go_loopw [5,9] (fun u i wr=>∃ k:Nat,(k+1≤v.length ∨ k=0)∧i=.int .i64 k∧∃ m:List Int,m=v.take k∧Own wr w.heap.size u m∧(∀ x,av=some x→u.ownBlock≠some x.block)∧IsL wr av v∧Below w.heap.size w wr∧w2.heap.size≤wr.heap.size) (fun _ i _=>v.length-(intOf i).toNat)
    case atStart=>exact ⟨0,.inr rfl,rfl,[],rfl,ho2,fun x e=>by have:=hav x e;simp [Value.ownBlock];omega,hiv,hBw,Nat.le_refl _⟩
    case round =>
     obtain ⟨k,hk,rfl,m,hm2,hown,hsep,hiv2,hB3,hs3⟩:=hrel
     have hml:m.length≤k:=by rw [hm2];simp;omega
     have HM:Hid (m=v.take k):=hm2
     clear hm2
     have hs:=hB3.size
     by_cases hlt:k+1<v.length
     ·
      have hvne:¬ v=[]:=fun e=>by rw [e] at hlt;simp at hlt
      have hiv3:=hiv2
      rcases hiv2 with h0 | ⟨b,off,rfl,hb,hc⟩
      ·
       exact absurd h0 hvne
      have hcx:=hc k (by omega)
      clear hc
      have HS:Hid (m ++ [v[k]]=v.take (k+1)):=by show _=_;rw [HM.out];exact take_snoc (by omega)
      obtain ⟨y,ey⟩:∃ y,v[k]=y:=⟨_,rfl⟩
      rw [ey] at hcx HS
      clear ey
      go_wp2_with (at_builtin;refine wpList_append_own_at _ rfl _ _ 45 rfl w.heap.size 3 i0 (.int .i64 0) 1 8 Tryz.underlying45 hi hz0 hz1 hz2 rfl (by decide) u5 m.length _ rfl (World.ownsRow.alloc hown _) ⟨wr.heap.size,0,none⟩ 1 1 [.int .i64 y] rfl rfl (one_cell _ _ _) (one_one _) (by unfold maxLen;omega) (by omega) (by simp;omega) ?_)
      intro v' w6 hown' hgrow hnn hl6
      clear hnn
      have ho6:Own w6 w.heap.size v' (m ++ [y]):=own_snoc rfl hown'
      have hB6:Below w.heap.size w w6:=below_app (hB3.alloc hs _) (by simp;omega) hgrow (fun k hk=>(hown.ge k hk).1)
      have hs6:w2.heap.size≤w6.heap.size:=by have:=hgrow.size;simp at this;omega
      have hi6:IsL w6 (some ⟨b,off,none⟩) v:=isl_grown (isl_alloc hiv3 _) hgrow hsep
      have hsep6:∀ x,some (⟨b,off,none⟩:Addr)=some x→v'.ownBlock≠some x.block:=by
       intro x e
       rcases hl6 with h | h
       ·
        rw [h];exact hsep x e
       ·
        rw [h];cases e;simp;omega
      clear hown' hgrow hl6 hown hB3 hiv3 hsep
      go_wp2
      go_roundw
      case rel=>exact ⟨k+1,.inl (by omega),by go_num,m ++ [y],HS.out,ho6,hsep6,hi6,hB6,hs6⟩
      case measure=>simp [intOf];omega
     ·
      have HE:Hid (cut (srt xs) q=m):=by
       show _=_
       rw [HR.out,HM.out]
       congr 1
       omega
      go_wp2
      go_ret
      exact ⟨_,rfl,by rw [HE.out];exact hown,hB3⟩
   ·
    have hle:decide ((v.length:Int)-1≤(q:Int))=false:=by simp;omega
    have HR:Hid (cut (srt xs) q=spr v q q):=by rw [HV.out];exact cut_many hm
    go_wp2
    go_loopw [5,10] (fun u i wr=>∃ k:Nat,k≤q∧i=.int .i64 (k+1:Nat)∧∃ m:List Int,m=spr v q k∧Own wr w.heap.size u m∧(∀ x,av=some x→u.ownBlock≠some x.block)∧IsL wr av v∧Below w.heap.size w wr∧w2.heap.size≤wr.heap.size) (fun _ i _=>q+1-(intOf i).toNat)
    case atStart=>exact ⟨0,Nat.zero_le _,rfl,[],rfl,ho2,fun x e=>by have:=hav x e;simp [Value.ownBlock];omega,hiv,hBw,Nat.le_refl _⟩
    case round =>
     obtain ⟨k,hk,rfl,m,hm2,hown,hsep,hiv2,hB3,hs3⟩:=hrel
     have hml:m.length≤k:=by rw [hm2,spr_len];omega
     have HM:Hid (m=spr v q k):=hm2
     clear hm2
     have hs:=hB3.size
     by_cases hlt:k<q
     ·
      have hvne:¬ v=[]:=fun e=>by rw [e] at hm;simp at hm
      have hiv3:=hiv2
      have hp0:=plc_pos (j:=k) (show q+1<v.length by omega)
      have hp1:=plc_lt (show q+1<v.length by omega) hlt
      have hpl:plc v.length q k<v.length:=by unfold plc;omega
      rcases hiv2 with h0 | ⟨b,off,rfl,hb,hc⟩
      ·
       exact absurd h0 hvne
      have hcx:=hc _ hpl
      clear hc
      have HS:Hid (m ++ [v[plc v.length q k]]=spr v q (k+1)):=by show _=_;rw [HM.out];exact spr_succ _ _ _ hpl
      obtain ⟨y,ey⟩:∃ y,v[plc v.length q k]=y:=⟨_,rfl⟩
      rw [ey] at hcx HS
      clear ey
      have hidx:=plc_go hlt hq (show v.length≤1000 by omega) (show q+1<v.length by omega)
      obtain ⟨z,ez⟩:∃ z,plc v.length q k=z:=⟨_,rfl⟩
      rw [ez] at hcx hidx hpl
      clear ez hp0 hp1
      go_wp2_with (at_builtin;refine wpList_append_own_at _ rfl _ _ 45 rfl w.heap.size 3 i0 (.int .i64 0) 1 8 Tryz.underlying45 hi hz0 hz1 hz2 rfl (by decide) u5 m.length _ rfl (World.ownsRow.alloc hown _) ⟨wr.heap.size,0,none⟩ 1 1 [.int .i64 y] rfl rfl (one_cell _ _ _) (one_one _) (by unfold maxLen;omega) (by omega) (by simp;omega) ?_)
      intro v' w6 hown' hgrow hnn hl6
      clear hnn
      have ho6:Own w6 w.heap.size v' (m ++ [y]):=own_snoc rfl hown'
      have hB6:Below w.heap.size w w6:=below_app (hB3.alloc hs _) (by simp;omega) hgrow (fun k hk=>(hown.ge k hk).1)
      have hs6:w2.heap.size≤w6.heap.size:=by have:=hgrow.size;simp at this;omega
      have hi6:IsL w6 (some ⟨b,off,none⟩) v:=isl_grown (isl_alloc hiv3 _) hgrow hsep
      have hsep6:∀ x,some (⟨b,off,none⟩:Addr)=some x→v'.ownBlock≠some x.block:=by
       intro x e
       rcases hl6 with h | h
       ·
        rw [h];exact hsep x e
       ·
        rw [h];cases e;simp;omega
      clear hown' hgrow hl6 hown hB3 hiv3 hsep hidx
      go_wp2
      go_roundw
      case rel=>exact ⟨k+1,by omega,by go_num,m ++ [y],HS.out,ho6,hsep6,hi6,hB6,hs6⟩
      case measure=>simp [intOf];omega
     ·
      obtain rfl:k=q:=by omega
      have HE:Hid (cut (srt xs) k=m):=by show _=_;rw [HR.out,HM.out]
      go_wp2
      go_ret
      exact ⟨_,rfl,by rw [HE.out];exact hown,hB3⟩
theorem sbor (w:World) (a:Option Addr) (cp:Nat) (xs:List Int) (most:Int) (hx:IsL w a xs) (hl:xs.length≤1048576) :
  Calls Tryz.prog 99 #[.slice a xs.length cp,.int .i64 most] w fun e w'=>∃ v,e=.returned v∧Own w' w.heap.size v (bor xs most)∧Below w.heap.size w w':=by
 by_cases h:xs.length≤1000∧0≤most∧most≤12∧aok xs=true
 ·
  rw [bor_yes h]
  obtain ⟨q,rfl⟩:∃ q:Nat,most=(q:Int):=⟨most.toNat,by omega⟩
  exact sbor_yes w a cp xs q hx h.1 (by omega) h.2.2.2
 ·
  rw [bor_no h]
  exact sbor_no w a cp xs most hx hl h
end Go.Proofs.YtaojoamldoofpaaGreatDoor.Bs
namespace Go.Proofs.YtaojoamldoofpaaGreatDoor.Ad
open Go.RowKit
open Li (ret_int)
def clip (x:Int):Int:=if x < -1000000000 then -1000000000 else if 1000000000<x then 1000000000 else x
theorem clip_bd (x:Int) : -1000000000≤clip x∧clip x≤1000000000:=by unfold clip;split <;> (try split) <;> omega
def fadd (a b:Int):Int:=clip (clip a+clip b)
set_option maxHeartbeats 400000 in
theorem clip_any (x:Int) (w:World) :
  Calls Tryz.prog 127 #[.int .i64 x] w fun e w'=>e=.returned (.int .i64 (clip x))∧w'=w:=by
 go_enter Tryz.func127,Tryz.ntmps127
 go_wp2
 all_goals go_ret
 all_goals refine ⟨ret_int ?_,rfl⟩
 all_goals unfold clip;(repeat' split) <;> (try split at *) <;> omega
set_option maxHeartbeats 400000 in
theorem sadd_any (a b:Int) (w:World) :
  Calls Tryz.prog 103 #[.int .i64 a,.int .i64 b] w fun e w'=>e=.returned (.int .i64 (fadd a b))∧w'=w:=by
 have ha:=clip_bd a
 have hb:=clip_bd b
 go_enter Tryz.func103,Tryz.ntmps103
 go_wp2_with (go_at_call 127;refine (clip_any _ _).mono ?_;rintro e w' ⟨rfl,rfl⟩)
 go_ret
 exact ⟨rfl,rfl⟩
end Go.Proofs.YtaojoamldoofpaaGreatDoor.Ad
namespace Go.Proofs.YtaojoamldoofpaaGreatDoor.Gd
set_option maxRecDepth 100000
open Go.RowKit
open Ad Ai
open Li
def gr (l p:Int):Int:=if clip l-clip p < -2000000 then -2000000 else if 2000000<clip l-clip p then 2000000 else clip l-clip p
theorem wrap_id (n:Int) (h : -9223372036854775808≤n) (h':n≤9223372036854775807):IntKind.i64.wrap n=n:=by rw [IntKind.wrap_i64];omega
def grs (ls ps:List Int):List Int:=if ls.length=ps.length then List.zipWith gr ls ps else []
theorem grs_no {ls ps:List Int} (h:¬ ls.length=ps.length):grs ls ps=[]:=by unfold grs;rw [if_neg h]
theorem grs_yes {ls ps:List Int} (h:ls.length=ps.length):grs ls ps=List.zipWith gr ls ps:=by unfold grs;rw [if_pos h]
theorem grs_length {ls ps:List Int} (h:ls.length=ps.length):(grs ls ps).length=ls.length:=by rw [grs_yes h];simp;omega
theorem grs_get {ls ps:List Int} (h:ls.length=ps.length) (k:Nat) (hk:k<(grs ls ps).length) (h1:k<ls.length) (h2:k<ps.length):(grs ls ps)[k]=gr ls[k] ps[k]:=by
 simp only [grs_yes h];simp
theorem grs_take {ls ps:List Int} (h:ls.length=ps.length) (k:Nat) (h1:k<ls.length) (h2:k<ps.length):(grs ls ps).take (k+1)=(grs ls ps).take k ++ [gr ls[k] ps[k]]:=by
 have hk:k<(grs ls ps).length:=by rw [grs_length h];exact h1
 rw [List.take_succ_eq_append_getElem hk,grs_get h k hk h1 h2]
set_option maxHeartbeats 2000000 in
theorem sgrs (w:World) (a a':Option Addr) (cap cap':Nat) (xs ys:List Int) (hx:IsL w a xs) (hy:IsL w a' ys) (hl:xs.length≤1048576) (hl':ys.length≤1048576) :
    Calls Tryz.prog 101 #[.slice a xs.length cap,.slice a' ys.length cap'] w fun e w'=>∃ v,e=.returned v∧Own w' w.heap.size v (grs xs ys)∧Below w.heap.size w w':=by
  by_cases hlen:xs.length=ys.length
  rotate_left
  · have hne : ((xs.length : Int) == (ys.length : Int)) = false := by rw [beq_eq_false_iff_ne]; omega
    rw [grs_no hlen]
    go_enter Tryz.func101,Tryz.ntmps101
    go_wp2
    go_loopw [5,6] (fun v i wr=>i=.int .i64 0∧Own wr w.heap.size v []∧Below w.heap.size w wr) (fun _ _ _=>0)
    case atStart=>exact ⟨rfl,own_empty _ _ (Nat.le_refl _),(Below.refl _ _).alloc (Nat.le_refl _) _⟩
    case round =>
      obtain ⟨rfl,hown,hB⟩:=hrel
      clear hlen
      go_wp2
      all_goals go_ret
      all_goals exact ⟨_,rfl,hown,hB⟩
  have HL:Hid (xs.length=ys.length):=hlen
  have hne:((xs.length:Int) == (ys.length:Int))=true:=by rw [beq_iff_eq];omega
  have hgl:=grs_length hlen
  have HG:Hid ((grs xs ys).length=xs.length):=hgl
  have HT:Hid (∀ k (h1:k<xs.length) (h2:k<ys.length),(grs xs ys).take (k+1)=(grs xs ys).take k ++ [gr xs[k] ys[k]]):=fun k h1 h2=>grs_take hlen k h1 h2
  obtain ⟨zs,hzs⟩:∃ zs,grs xs ys=zs:=⟨_,rfl⟩
  rw [hzs] at HG HT ⊢
  clear hzs hgl hlen
  obtain ⟨i0,hi,hz0,hz1,hz2⟩:=info_parts info_int
  go_enter Tryz.func101,Tryz.ntmps101
  go_wp2
  go_loopw [5,6] (fun v i wr=>∃ k:Nat,k≤xs.length∧i=.int .i64 k∧∃ m:List Int,m=zs.take k∧Own wr w.heap.size v m∧Below w.heap.size w wr) (fun _ i _=>xs.length-(intOf i).toNat)
  case atStart=>exact ⟨0,Nat.zero_le _,rfl,[],by simp,own_empty _ _ (Nat.le_refl _),(Below.refl _ _).alloc (Nat.le_refl _) _⟩
  case round =>
    obtain ⟨k,hk,rfl,m,hm,hown,hB⟩:=hrel
    have HM:Hid (m=zs.take k):=hm
    have hml:m.length=k:=by rw [hm];simp;have:=HG.out;omega
    have HML:Hid (m.length=k):=hml
    clear hm hml
    by_cases hlt:k<xs.length
    · have hlt' : k < ys.length := by have := HL.out; omega
      have hs:=hB.size
      rcases hx.below hB with h0 | ⟨b,off,rfl,hb,hc⟩
      · rw [h0] at hlt;simp at hlt
      rcases hy.below hB with h0 | ⟨b',off',rfl,hb',hc'⟩
      · rw [h0] at hlt';simp at hlt'
      have hcx:wr.cell? ⟨b,off+k,none⟩=some (.int .i64 xs[k]):=hc k hlt
      have hcy:wr.cell? ⟨b',off'+k,none⟩=some (.int .i64 ys[k]):=hc' k hlt'
      have HR:Hid (zs.take (k+1)=zs.take k ++ [gr xs[k] ys[k]]):=HT.out k hlt hlt'
      obtain ⟨x,ex⟩:∃ x,xs[k]=x:=⟨_,rfl⟩
      obtain ⟨y,ey⟩:∃ y,ys[k]=y:=⟨_,rfl⟩
      rw [ex] at hcx HR
      rw [ey] at hcy HR
      have ha:=clip_bd x
      have hb2:=clip_bd y
      have HGR:Hid (gr x y=if clip x-clip y < -2000000 then -2000000 else if 2000000<clip x-clip y then 2000000 else clip x-clip y):=rfl
      obtain ⟨x1,hx1⟩:∃ x1,clip x=x1:=⟨_,rfl⟩
      obtain ⟨y1,hy1⟩:∃ y1,clip y=y1:=⟨_,rfl⟩
      have HX:Hid (clip x=x1):=hx1
      have HY:Hid (clip y=y1):=hy1
      rw [hx1] at ha HGR
      rw [hy1] at hb2 HGR
      clear ex ey hc hc' hx1 hy1
      go_wp2
      go_region_law (first
        | (refine step_append_lies _ rfl _ _ 45 rfl w.heap.size 3 i0 (.int .i64 0) 1 8 Tryz.underlying45 hi hz0 hz1 hz2 rfl (by decide) u5 m.length (iv m) rfl (by first | exact World.ownsRow.alloc (own_drew hown) _ | exact own_drew (World.ownsRow.alloc hown _) | exact World.ownsRow.alloc hown _) _ 1 1 [.int .i64 _] rfl rfl (one_at (by first | rfl | simp)) (one_one _) (by decide) (by have := HML.out; unfold maxLen; omega) (by have := HML.out; omega) (by simp; omega) _ rfl ?_
           intro g cap w6 hown' hgrow hpos hglt
           have ho6:=own_snoc rfl hown'
           have hB6:Below w.heap.size w w6:=below_app (by first | exact (hB.drew).alloc (by simpa using hB.size) _ | exact hB.alloc hB.size _) (by have:=hB.size;simp;omega) hgrow (fun k hk=>(hown.ge k hk).1)
           clear hown' hgrow hpos hglt)
        | (go_simp
           go_wp2_with (first
            | (go_at_call_of 127 (Value.int .i64 x);refine (clip_any _ _).mono ?_;rintro e w5 ⟨rfl,hw5⟩;subst w5;rw [HX.out])
            | (go_at_call_of 127 (Value.int .i64 y);refine (clip_any _ _).mono ?_;rintro e w5 ⟨rfl,hw5⟩;subst w5;rw [HY.out]))))
      all_goals
        clear hown hB
        go_wp2
        go_roundw
        case rel=>exact ⟨k+1,by omega,by go_num,_,by rw [HR.out,HM.out,HGR.out,wrap_id (x1-y1) (by omega) (by omega)];congr 2;(repeat' split) <;> (try split at *) <;> omega,ho6,hB6⟩
        case measure=>simp [intOf];omega
    · obtain rfl : k = xs.length := by omega
      have HR:Hid (zs=m):=by show _=_;rw [HM.out,List.take_of_length_le (by have:=HG.out;omega)]
      go_wp2
      go_ret
      exact ⟨_,rfl,by rw [HR.out];exact hown,hB⟩
end Go.Proofs.YtaojoamldoofpaaGreatDoor.Gd
namespace Go.Proofs.YtaojoamldoofpaaGreatDoor.Tk
open Go.RowKit
open Li (ret_bool btw between_any)
def lok (l:Int):Bool:=decide (-1000000≤l∧l≤1000000)
set_option maxHeartbeats 400000 in
theorem ilab (w:World) (l:Int) :
  Calls Tryz.prog 169 #[.int .i64 l] w fun e w'=>e=.returned (.bool (lok l))∧w'=w:=by
 by_cases h1 : -1000000≤l <;> by_cases h2:l≤1000000
 all_goals
  go_enter Tryz.func169,Tryz.ntmps169
  go_wp2
  go_ret
  refine ⟨ret_bool ?_,rfl⟩
  simp [lok,h1,h2]
set_option maxHeartbeats 400000 in
theorem slab (w:World) (l:Int) :
  Calls Tryz.prog 125 #[.int .i64 l] w fun e w'=>e=.returned (.bool (lok l))∧w'=w:=by
 go_enter Tryz.func125,Tryz.ntmps125
 go_wp2_with (go_at_call 33;refine (between_any _ _ _ _).mono ?_;rintro e w' ⟨rfl,rfl⟩)
 go_ret
 exact ⟨rfl,rfl⟩
end Go.Proofs.YtaojoamldoofpaaGreatDoor.Tk
namespace Go.Proofs.YtaojoamldoofpaaGreatDoor.Ba
open Go.RowKit
open Tk (lok)
open Li (ret_bool ret_int below_none IsL btw)
def sm:List Int→Int
 | []=>0
 | x :: xs=>x+sm xs
theorem sm_append (xs ys:List Int):sm (xs ++ ys)=sm xs+sm ys:=by
 induction xs with
 | nil=>simp [sm]
 | cons x xs ih=>simp [sm,ih];omega
theorem sm_bd (xs:List Int) (h:xs.all lok=true) : -(1000000 * (xs.length:Int))≤sm xs∧sm xs≤1000000 * (xs.length:Int):=by
 induction xs with
 | nil=>simp [sm]
 | cons x xs ih =>
  simp only [List.all_cons,Bool.and_eq_true] at h
  have h1:=ih h.2
  have h2 : -1000000≤x∧x≤1000000:=by simpa [lok] using h.1
  simp only [sm,List.length_cons]
  omega
def base (ls:List Int):Int:=if ls.length=0 ∨ 40<ls.length ∨ ls.all lok=false then 0 else Ar.flo (sm ls) ls.length
theorem base_no {ls:List Int} (h:ls.length=0 ∨ 40<ls.length ∨ ls.all lok=false):base ls=0:=by unfold base;rw [if_pos h]
theorem base_yes {ls:List Int} (h0:¬ ls.length=0) (h1:¬ 40<ls.length) (h2:ls.all lok=true):base ls=Ar.flo (sm ls) ls.length:=by
 unfold base;rw [if_neg];rintro (h | h | h)
 ·
  exact h0 h
 ·
  exact h1 h
 ·
  rw [h2] at h;cases h
theorem pre_snoc {α:Type} (p:α→Bool) (xs:List α) (k:Nat) (h:k<xs.length) (ha:(xs.take k).all p=true) (hb:p xs[k]=true):(xs.take (k+1)).all p=true:=by
 rw [List.take_succ_eq_append_getElem h,List.all_append,ha];simp [hb]
theorem pre_no {α:Type} (p:α→Bool) (xs:List α) (k:Nat) (h:k<xs.length) (hb:p xs[k]=false):xs.all p=false:=by
 rw [List.all_eq_false]
 exact ⟨xs[k],List.getElem_mem h,by simp [hb]⟩
theorem pre_end {α:Type} (p:α→Bool) (xs:List α) (k:Nat) (h:¬ k<xs.length) (ha:(xs.take k).all p=true):xs.all p=true:=by
 rwa [List.take_of_length_le (by omega)] at ha
theorem take_all {α:Type} (p:α→Bool) (xs:List α) (k:Nat) (h:xs.all p=true):(xs.take k).all p=true:=by
 rw [List.all_eq_true] at h ⊢
 intro x hx;exact h x (List.mem_of_mem_take hx)
theorem sm_take {ls:List Int} {k:Nat} (h:k<ls.length):sm (ls.take (k+1))=sm (ls.take k)+ls[k]:=by
 rw [List.take_succ_eq_append_getElem h,sm_append];simp [sm]
set_option maxHeartbeats 1000000 in
theorem slabs (w:World) (a:Option Addr) (c:Nat) (ls:List Int) (hl:IsL w a ls) (hll:ls.length≤1048577) :
  Calls Tryz.prog 98 #[.slice a ls.length c] w fun e w'=>e=.returned (.bool (decide (ls.length≤40) && ls.all lok))∧w'=w:=by
 by_cases h40:40<ls.length
 ·
  have hr:(decide (ls.length≤40) && ls.all lok)=false:=by rw [decide_eq_false (by omega)];rfl
  rw [hr]
  go_enter Tryz.func98,Tryz.ntmps98
  go_wp2
  go_ret
  exact ⟨rfl,rfl⟩
 have hr:(decide (ls.length≤40) && ls.all lok)=ls.all lok:=by rw [decide_eq_true (by omega)];rfl
 rw [hr]
 clear hr
 go_enter Tryz.func98,Tryz.ntmps98
 go_wp2
 go_loop [3] (fun i=>∃ k:Nat,k≤ls.length∧i=.int .i64 k∧(ls.take k).all lok=true) (fun i=>ls.length-(intOf i).toNat)
 case atStart=>exact ⟨0,Nat.zero_le _,rfl,by simp⟩
 case round =>
  obtain ⟨k,hk,rfl,ha⟩:=hrel
  have HA:Hid ((ls.take k).all lok=true):=ha
  clear ha
  by_cases hlt:k<ls.length
  ·
   rcases hl with rfl | ⟨b,off,rfl,hb,hc⟩
   ·
    simp at hlt
   have hcx:=hc k hlt
   clear hc
   cases hv:lok ls[k]
   ·
    have HR:Hid (ls.all lok=false):=pre_no lok ls k hlt hv
    obtain ⟨x,hx⟩:∃ x,ls[k]=x:=⟨_,rfl⟩
    rw [hx] at hcx hv
    clear hx
    go_wp2_with (go_at_call 125;refine (Tk.slab _ _).mono ?_;rintro e w' ⟨rfl,hw⟩;subst w';rw [hv])
    go_ret
    exact ⟨by rw [HR.out];rfl,rfl⟩
   ·
    have HR:Hid ((ls.take (k+1)).all lok=true):=pre_snoc lok ls k hlt HA.out hv
    obtain ⟨x,hx⟩:∃ x,ls[k]=x:=⟨_,rfl⟩
    rw [hx] at hcx hv
    clear hx
    go_wp2_with (go_at_call 125;refine (Tk.slab _ _).mono ?_;rintro e w' ⟨rfl,hw⟩;subst w';rw [hv])
    go_round
    case rel=>exact ⟨k+1,by omega,by go_num,HR.out⟩
    case measure=>simp [intOf];omega
  ·
   have HR:Hid (ls.all lok=true):=pre_end lok ls k hlt HA.out
   go_wp2
   go_ret
   exact ⟨by rw [HR.out];rfl,rfl⟩
set_option maxHeartbeats 1000000 in
theorem sbase (w:World) (a:Option Addr) (c:Nat) (ls:List Int) (hl:IsL w a ls) (hll:ls.length≤1048577) :
  Calls Tryz.prog 100 #[.slice a ls.length c] w fun e w'=>e=.returned (.int .i64 (base ls))∧w'=w:=by
 cases hv:(decide (ls.length≤40) && ls.all lok)
 ·
  have hb0:base ls=0:=base_no (by
   by_cases h:40<ls.length
   ·
    exact .inr (.inl h)
   ·
    rw [decide_eq_true (by omega)] at hv;exact .inr (.inr (by simpa using hv)))
  rw [hb0]
  clear hb0
  go_enter Tryz.func100,Tryz.ntmps100
  go_wp2_with (go_at_call 98;refine (slabs _ _ _ ls hl hll).mono ?_;rintro e w' ⟨rfl,hw⟩;subst w';rw [hv])
  go_ret
  exact ⟨rfl,rfl⟩
 have h40:¬ 40<ls.length:=by simp at hv;omega
 have hall:ls.all lok=true:=by rw [Bool.and_eq_true] at hv;exact hv.2
 have hd:(decide (ls.length≤40) && ls.all lok)=true:=hv
 have HV:Hid ((decide (ls.length≤40) && ls.all lok)=true):=hv
 by_cases h0:ls.length=0
 ·
  have hb0:base ls=0:=base_no (.inl h0)
  rw [hb0]
  clear hb0
  have hz:((ls.length:Int) == 0)=true:=by rw [beq_iff_eq];omega
  clear h0
  go_enter Tryz.func100,Tryz.ntmps100
  go_wp2_with (go_at_call 98;refine (slabs _ _ _ ls hl hll).mono ?_;rintro e w' ⟨rfl,hw⟩;subst w';rw [hv])
  go_ret
  exact ⟨rfl,rfl⟩
 have hz:((ls.length:Int) == 0)=false:=by rw [beq_eq_false_iff_ne];omega
 clear hv
 try clear hd
 have HB:Hid (base ls=Ar.flo (sm ls) ls.length):=base_yes h0 h40 hall
 go_enter Tryz.func100,Tryz.ntmps100
 go_wp2_with (go_at_call 98;refine (slabs _ _ _ ls hl hll).mono ?_;rintro e w' ⟨rfl,hw⟩;subst w';rw [HV.out])
 go_loop [3,4] (fun s i=>∃ k:Nat,k≤ls.length∧i=.int .i64 k∧s=.int .i64 (sm (ls.take k))) (fun _ i=>ls.length-(intOf i).toNat)
 case atStart=>exact ⟨0,Nat.zero_le _,rfl,rfl⟩
 case round =>
  obtain ⟨k,hk,rfl,rfl⟩:=hrel
  by_cases hlt:k<ls.length
  ·
   rcases hl with rfl | ⟨b,off,rfl,hb,hc⟩
   ·
    simp at hlt
   have hcx:=hc k hlt
   clear hc
   have HR:Hid (sm (ls.take (k+1))=sm (ls.take k)+ls[k]):=sm_take hlt
   have b1:=sm_bd (ls.take k) (take_all lok ls k hall)
   have b2 : -1000000≤ls[k]∧ls[k]≤1000000:=by have:=List.all_eq_true.1 hall _ (List.getElem_mem hlt);simpa [lok] using this
   have b3:((ls.take k).length:Int)≤40:=by simp;omega
   obtain ⟨s1,e1⟩:∃ s1,sm (ls.take k)=s1:=⟨_,rfl⟩
   obtain ⟨x,hx⟩:∃ x,ls[k]=x:=⟨_,rfl⟩
   rw [e1] at b1 HR ⊢
   rw [hx] at b2 hcx HR
   have b4 : -40000000≤s1∧s1≤40000000:=by omega
   clear e1 hx b1 b3 hall
   go_wp2
   go_round
   case rel=>exact ⟨k+1,by omega,by go_num,by rw [HR.out]⟩
   case measure=>simp [intOf];omega
  ·
   obtain rfl:k=ls.length:=by omega
   rw [List.take_length]
   have hne:¬ (ls.length:Int)=0:=by omega
   obtain ⟨s1,e1⟩:∃ s1,sm ls=s1:=⟨_,rfl⟩
   rw [e1] at HB ⊢
   clear e1
   go_wp2_with (go_at_call 124;refine (Ar.floor_any _ _ _ hne).mono ?_;rintro e w' ⟨rfl,hw⟩;subst w')
   go_ret
   exact ⟨by rw [HB.out];rfl,rfl⟩
end Go.Proofs.YtaojoamldoofpaaGreatDoor.Ba
namespace Go.Proofs.YtaojoamldoofpaaGreatDoor.Cf
open Go.RowKit
open Li (ret_bool ret_int below_none IsL btw)
structure C where
 trees:Int
 depth:Int
 most:Int
 rate:Int
 l2:Int
 prior:Int
 seed:Int
def C.cells (c:C):List Value:=[.int .i64 c.trees,.int .i64 c.depth,.int .i64 c.most,.int .i64 c.rate,.int .i64 c.l2,.int .i64 c.prior,.int .i64 c.seed]
def cok (c:C):Bool:=btw c.trees 0 12 && (btw c.depth 0 4 && (btw c.most 1 12 && (btw c.rate 1 1000 && (btw c.l2 1 1000 && (btw c.prior (-1000000) 1000000 && btw c.seed 1 2147483646)))))
theorem results_cell {fn:Func} {p:Tmp} {ty:TypeId} (h:fn.results=#[.cell p ty]) (tmps:Array Value) (P:Program) (w:World) :
  (results fn tmps).run P w=((asAddr (tmps.getD p undef)).run P w).andThen fun a w₁=>(loadVar ty a).run P w₁:=by
 simp only [results,h]
 simp [Sem.run_bind,Result.andThen]
theorem dec_btw {x lo hi:Int} (h:btw x lo hi=true):lo≤x∧x≤hi:=by simpa [btw] using h
def Bx (w:World) (b:Nat) (c:C):Prop:=b<w.heap.size∧w.cell? ⟨b,0,none⟩=some (.int .i64 c.trees)∧w.cell? ⟨b,1,none⟩=some (.int .i64 c.depth)∧w.cell? ⟨b,2,none⟩=some (.int .i64 c.most)∧w.cell? ⟨b,3,none⟩=some (.int .i64 c.rate)∧w.cell? ⟨b,4,none⟩=some (.int .i64 c.l2)∧w.cell? ⟨b,5,none⟩=some (.int .i64 c.prior)∧w.cell? ⟨b,6,none⟩=some (.int .i64 c.seed)
theorem Bx.below {w w1:World} {b B:Nat} {c:C} (h:Bx w b c) (hB:Below B w w1) (hb:b<B):Bx w1 b c:=by
 obtain ⟨h0,h⟩:=h
 have k:w1.heap[b]? = w.heap[b]?:=hB.block b hb
 have q:∀ j v,w.cell? ⟨b,j,none⟩=some v→w1.cell? ⟨b,j,none⟩=some v:=fun j v hv=>by rw [World.cell?_of_block (w:=w) (a:=⟨b,j,none⟩) k];exact hv
 exact ⟨by have:=hB.size;omega,q 0 _ h.1,q 1 _ h.2.1,q 2 _ h.2.2.1,q 3 _ h.2.2.2.1,q 4 _ h.2.2.2.2.1,q 5 _ h.2.2.2.2.2.1,q 6 _ h.2.2.2.2.2.2⟩
theorem Bx.kept {w w1:World} {b:Nat} {c:C} (h:Bx w b c) (hs:w.heap.size≤w1.heap.size) (k:w1.heap[b]? = w.heap[b]?):Bx w1 b c:=by
 obtain ⟨h0,h⟩:=h
 have q:∀ j v,w.cell? ⟨b,j,none⟩=some v→w1.cell? ⟨b,j,none⟩=some v:=fun j v hv=>by rw [World.cell?_of_block (w:=w) (a:=⟨b,j,none⟩) k];exact hv
 exact ⟨by omega,q 0 _ h.1,q 1 _ h.2.1,q 2 _ h.2.2.1,q 3 _ h.2.2.2.1,q 4 _ h.2.2.2.2.1,q 5 _ h.2.2.2.2.2.1,q 6 _ h.2.2.2.2.2.2⟩
theorem bx_new (w:World) (c:C) (T:TypeId):∃ W,w.alloc (.cells #[.int .i64 c.trees,.int .i64 c.depth,.int .i64 c.most,.int .i64 c.rate,.int .i64 c.l2,.int .i64 c.prior,.int .i64 c.seed] T)=W∧W.heap.size=w.heap.size+1∧Below w.heap.size w W∧Bx W w.heap.size c :=
 ⟨_,rfl,by simp,(Below.refl _ _).alloc (Nat.le_refl _) _,by simp,by simp [World.cell?_alloc_new],by simp [World.cell?_alloc_new],by simp [World.cell?_alloc_new],by simp [World.cell?_alloc_new],by simp [World.cell?_alloc_new],by simp [World.cell?_alloc_new],by simp [World.cell?_alloc_new]⟩
set_option maxHeartbeats 2000000 in
theorem scok (w:World) (c:C):Calls Tryz.prog 93 #[.agg #[.int .i64 c.trees,.int .i64 c.depth,.int .i64 c.most,.int .i64 c.rate,.int .i64 c.l2,.int .i64 c.prior,.int .i64 c.seed]] w fun e w'=>e=.returned (.bool (cok c))∧Below w.heap.size w w':=by
 go_enter Tryz.func93,Tryz.ntmps93
 go_wp2_with (go_at_call 33;refine (Li.between_any _ _ _ _).mono ?_;rintro e w' ⟨rfl,hw⟩;subst w')
 all_goals go_ret
 all_goals refine ⟨ret_bool ?_,(Below.refl _ _).alloc (Nat.le_refl _) _⟩
 all_goals simp [cok, *]
set_option maxHeartbeats 400000 in
theorem iprior (x:Int) (w:World):Calls Tryz.prog 36 #[.int .i64 x] w fun e w'=>e=.returned (.bool (btw x (-1000000) 1000000))∧w'=w:=by
 go_enter Tryz.func36,Tryz.ntmps36
 go_wp2
 all_goals go_ret
 all_goals refine ⟨ret_bool ?_,rfl⟩
 all_goals unfold btw
 all_goals simp
 all_goals first | omega | (rw [Bool.eq_iff_iff];simp;omega)
end Go.Proofs.YtaojoamldoofpaaGreatDoor.Cf
namespace Go.Proofs.YtaojoamldoofpaaGreatDoor.Tw
open Go.RowKit
open Li (ret_bool ret_int below_none)
open Tr Tm Bo Bw
theorem pow_d (d:Nat) (hd:d≤5):wrap64 (2 ^ d)=((2 ^ d:Nat):Int):=by
 match d,hd with
 | 0,_=>decide +kernel
 | 1,_=>decide +kernel
 | 2,_=>decide +kernel
 | 3,_=>decide +kernel
 | 4,_=>decide +kernel
 | 5,_=>decide +kernel
theorem below_box {w:World} {o:Obj} {n:Nat} : Below w.heap.size w ((w.alloc o).drewN n):=by
 have h:=(Below.refl w.heap.size w).alloc (Nat.le_refl _) o
 exact h.trans ((Tm.below_drewN' _ n).mono h.size)
theorem btw5 (x:Int) (y:Int):spok (x,y)=(Li.btw x 0 5 && fok y):=by simp [spok,Li.btw]
set_option maxHeartbeats 1000000 in
theorem stok (w:World) (a a':Option Addr) (c c':Nat) (t:T) (hp:IsP w a t.sp) (hx:Li.IsL w a' t.lv) (hl:t.sp.length+t.lv.length≤1048576) :
  Calls Tryz.prog 56 #[.agg #[.slice a t.sp.length c,.slice a' t.lv.length c']] w fun e w'=>e=.returned (.bool (tok t))∧Below w.heap.size w w':=by
 by_cases h4:4<t.sp.length
 ·
  have hd:decide (4<(t.sp.length:Int))=true:=by simp;omega
  rw [tok_long h4]
  go_enter Tryz.func56,Tryz.ntmps56
  go_wp2
  go_quiet (fail)
  go_wp2
  go_ret
  exact ⟨rfl,below_box⟩
 have hd:decide (4<(t.sp.length:Int))=false:=by simp;omega
 have hpw:=pow_d t.sp.length (by omega)
 by_cases h2:t.lv.length=2 ^ t.sp.length
 ·
  have hne:((t.lv.length:Int) != wrap64 (2 ^ t.sp.length))=false:=by rw [hpw,h2];simp
  have H2:Hid (t.lv.length=2 ^ t.sp.length):=h2
  clear hpw h2
  go_enter Tryz.func56,Tryz.ntmps56
  go_wp2
  go_quiet (fail)
  go_wp2
  have hB0:Below w.heap.size w ((w.alloc (.cells #[.slice a t.sp.length c,.slice a' t.lv.length c'] 56)).drewN nq):=below_box
  have bx:Box2 ((w.alloc (.cells #[.slice a t.sp.length c,.slice a' t.lv.length c'] 56)).drewN nq) w.heap.size _ _:=(box2_new w (.slice a t.sp.length c) (.slice a' t.lv.length c') 56).drewN nq
  have hp:=hp.below hB0
  have hx:=hx.below hB0
  obtain ⟨W,hW⟩:∃ W,(w.alloc (.cells #[.slice a t.sp.length c,.slice a' t.lv.length c'] 56)).drewN nq=W:=⟨_,rfl⟩
  rw [hW] at hB0 bx hp hx ⊢
  obtain ⟨hbl,⟨cx0,cx1⟩,_⟩:=bx
  clear hW
  go_loop [3] (fun i=>∃ k:Nat,k≤t.sp.length∧i=.int .i64 k∧∀ j (hj:j<t.sp.length),j<k→spok t.sp[j]=true) (fun i=>t.sp.length-(intOf i).toNat)
  case atStart=>exact ⟨0,Nat.zero_le _,rfl,fun j hj h=>by omega⟩
  case round =>
   obtain ⟨k,hk,rfl,hn⟩:=hrel
   have HN:Hid (∀ j (hj:j<t.sp.length),j<k→spok t.sp[j]=true):=hn
   clear hn
   by_cases hlt:k<t.sp.length
   ·
    rcases hp with h0 | ⟨b,off,rfl,hb,hc⟩
    ·
     rw [h0] at hlt;simp at hlt
    obtain ⟨cy0,cy1⟩:=hc k hlt
    clear hc
    have hbt:=btw5 t.sp[k].1 t.sp[k].2
    cases hv1:Li.btw t.sp[k].1 0 5 with
    | false =>
     have HR:Hid (tok t=false):=tok_bad hlt (by rw [hv1] at hbt;exact hbt)
     clear hbt
     go_wp2_with (go_at_call 33;refine (Li.between_any _ _ _ _).mono ?_;rintro e w' ⟨rfl,hw⟩;subst w';rw [hv1])
     go_ret
     exact ⟨ret_bool HR.out.symm,hB0⟩
    | true =>
     cases hv2:fok t.sp[k].2 with
     | false =>
      have HR:Hid (tok t=false):=tok_bad hlt (by rw [hv1,hv2] at hbt;exact hbt)
      clear hbt
      go_wp2_with (first | (go_at_call 33;refine (Li.between_any _ _ _ _).mono ?_;rintro e w' ⟨rfl,hw⟩;subst w';rw [hv1]) | (go_at_call 54;refine (sok _ _).mono ?_;rintro e w' ⟨rfl,hw⟩;subst w';rw [hv2]))
      go_ret
      exact ⟨ret_bool HR.out.symm,hB0⟩
     | true =>
      have HR:Hid (∀ j (hj:j<t.sp.length),j<k+1→spok t.sp[j]=true):=fun j hj h=>by
       by_cases e:j=k
       ·
        subst e;rw [hv1,hv2] at hbt;exact hbt
       ·
        exact HN.out j hj (by omega)
      clear hbt
      go_wp2_with (first | (go_at_call 33;refine (Li.between_any _ _ _ _).mono ?_;rintro e w' ⟨rfl,hw⟩;subst w';rw [hv1]) | (go_at_call 54;refine (sok _ _).mono ?_;rintro e w' ⟨rfl,hw⟩;subst w';rw [hv2]))
      go_round
      case rel=>exact ⟨k+1,by omega,by go_num,HR.out⟩
      case measure=>simp [intOf];omega
   ·
    have HS:Hid (∀ j (hj:j<t.sp.length),spok t.sp[j]=true):=fun j hj=>HN.out j hj (by omega)
    clear HN
    go_wp2
    go_loop [4] (fun i=>∃ k:Nat,k≤t.lv.length∧i=.int .i64 k∧∀ j (hj:j<t.lv.length),j<k→fok t.lv[j]=true) (fun i=>t.lv.length-(intOf i).toNat)
    case atStart=>exact ⟨0,Nat.zero_le _,rfl,fun j hj h=>by omega⟩
    case round =>
     obtain ⟨k,hk,rfl,hn⟩:=hrel
     have HN:Hid (∀ j (hj:j<t.lv.length),j<k→fok t.lv[j]=true):=hn
     clear hn
     by_cases hlt:k<t.lv.length
     ·
      rcases hx with h0 | ⟨b,off,rfl,hb,hc⟩
      ·
       rw [h0] at hlt;simp at hlt
      have hcx:=hc k hlt
      clear hc
      cases hv:fok t.lv[k] with
      | false =>
       have HR:Hid (tok t=false):=tok_leaf (aok_no hlt hv)
       go_wp2_with (go_at_call 54;refine (sok _ _).mono ?_;rintro e w' ⟨rfl,hw⟩;subst w';rw [hv])
       go_ret
       exact ⟨ret_bool HR.out.symm,hB0⟩
      | true =>
       have HR:Hid (∀ j (hj:j<t.lv.length),j<k+1→fok t.lv[j]=true):=fun j hj h=>by
        by_cases e:j=k
        ·
         subst e;exact hv
        ·
         exact HN.out j hj (by omega)
       go_wp2_with (go_at_call 54;refine (sok _ _).mono ?_;rintro e w' ⟨rfl,hw⟩;subst w';rw [hv])
       go_round
       case rel=>exact ⟨k+1,by omega,by go_num,HR.out⟩
       case measure=>simp [intOf];omega
     ·
      have HR:Hid (tok t=true):=tok_all (by omega) H2.out HS.out (aok_to (fun j hj=>HN.out j hj (by omega)))
      go_wp2
      go_ret
      exact ⟨ret_bool HR.out.symm,hB0⟩
 ·
  have hne:((t.lv.length:Int) != wrap64 (2 ^ t.sp.length))=true:=by rw [hpw];exact bne_iff_ne.2 (fun e=>h2 (Int.ofNat_inj.1 e))
  rw [tok_leaves h2]
  clear hpw h2
  go_enter Tryz.func56,Tryz.ntmps56
  go_wp2
  go_quiet (fail)
  go_wp2
  go_ret
  exact ⟨rfl,below_box⟩
set_option maxHeartbeats 400000 in
theorem ifeat (x:Int) (w:World):Calls Tryz.prog 114 #[.int .i64 x] w fun e w'=>e=.returned (.bool (Li.btw x 0 5))∧w'=w:=by
 go_enter Tryz.func114,Tryz.ntmps114
 go_wp2
 all_goals go_ret
 all_goals refine ⟨ret_bool ?_,rfl⟩
 all_goals unfold Li.btw
 all_goals simp
 all_goals first | omega | (rw [Bool.eq_iff_iff];simp;omega)
set_option maxHeartbeats 400000 in
theorem isplit (x y:Int) (w:World):Calls Tryz.prog 86 #[.agg #[.int .i64 x,.int .i64 y]] w fun e w'=>e=.returned (.bool (spok (x,y)))∧Below w.heap.size w w':=by
 rw [btw5]
 cases h1:Li.btw x 0 5 with
 | false =>
  go_enter Tryz.func86,Tryz.ntmps86
  go_wp2_with (first | (go_at_call 114;refine (ifeat _ _).mono ?_;rintro e w' ⟨rfl,hw⟩;subst w';rw [h1]) | (go_at_call 37;refine (iok _ _).mono ?_;rintro e w' ⟨rfl,hw⟩;subst w'))
  go_ret
  exact ⟨rfl,(Below.refl _ _).alloc (Nat.le_refl _) _⟩
 | true =>
  go_enter Tryz.func86,Tryz.ntmps86
  go_wp2_with (first | (go_at_call 114;refine (ifeat _ _).mono ?_;rintro e w' ⟨rfl,hw⟩;subst w';rw [h1]) | (go_at_call 37;refine (iok _ _).mono ?_;rintro e w' ⟨rfl,hw⟩;subst w'))
  go_ret
  exact ⟨rfl,(Below.refl _ _).alloc (Nat.le_refl _) _⟩
set_option maxHeartbeats 1000000 in
theorem itok (w:World) (a a':Option Addr) (c c':Nat) (t:T) (hp:IsP w a t.sp) (hx:Li.IsL w a' t.lv) (hl:t.sp.length+t.lv.length≤1048576) :
  Calls Tryz.prog 66 #[.agg #[.slice a t.sp.length c,.slice a' t.lv.length c']] w fun e w'=>e=.returned (.bool (tok t))∧Below w.heap.size w w':=by
 by_cases h4:4<t.sp.length
 ·
  have hd:decide (4<(t.sp.length:Int))=true:=by simp;omega
  rw [tok_long h4]
  go_enter Tryz.func66,Tryz.ntmps66
  go_wp2
  go_quiet (fail)
  go_wp2
  go_ret
  exact ⟨rfl,below_box⟩
 have hd:decide (4<(t.sp.length:Int))=false:=by simp;omega
 have hpw:=pow_d t.sp.length (by omega)
 by_cases h2:t.lv.length=2 ^ t.sp.length
 ·
  have hne:((t.lv.length:Int) != wrap64 (2 ^ t.sp.length))=false:=by rw [hpw,h2];simp
  have H2:Hid (t.lv.length=2 ^ t.sp.length):=h2
  clear hpw h2
  go_enter Tryz.func66,Tryz.ntmps66
  go_wp2
  go_quiet (fail)
  go_wp2
  have hB0:Below w.heap.size w ((w.alloc (.cells #[.slice a t.sp.length c,.slice a' t.lv.length c'] 56)).drewN nq):=below_box
  have bx:Box2 ((w.alloc (.cells #[.slice a t.sp.length c,.slice a' t.lv.length c'] 56)).drewN nq) w.heap.size _ _:=(box2_new w (.slice a t.sp.length c) (.slice a' t.lv.length c') 56).drewN nq
  have hp:=hp.below hB0
  have hx:=hx.below hB0
  obtain ⟨W,hW⟩:∃ W,(w.alloc (.cells #[.slice a t.sp.length c,.slice a' t.lv.length c'] 56)).drewN nq=W:=⟨_,rfl⟩
  rw [hW] at hB0 bx hp hx ⊢
  clear hW
  go_loopw [22] (fun i wr=>∃ k:Nat,k≤t.sp.length∧i=.int .i64 k∧(∀ j (hj:j<t.sp.length),j<k→spok t.sp[j]=true)∧Below W.heap.size W wr) (fun i _=>t.sp.length-(intOf i).toNat)
  case atStart=>exact ⟨0,Nat.zero_le _,rfl,fun j hj h=>by omega,Below.refl _ _⟩
  case round =>
   obtain ⟨k,hk,rfl,hn,hB⟩:=hrel
   have HN:Hid (∀ j (hj:j<t.sp.length),j<k→spok t.sp[j]=true):=hn
   clear hn
   have hbw:=hB0.trans (hB.mono hB0.size)
   by_cases hlt:k<t.sp.length
   ·
    rcases hp.below hB with h0 | ⟨b,off,rfl,hb,hc⟩
    ·
     rw [h0] at hlt;simp at hlt
    obtain ⟨cy0,cy1⟩:=hc k hlt
    clear hc
    have hs:=hbw.size
    have hs':=hB.size
    go_wp2_with fail
    refine (isplit _ _ _).mono ?_
    rintro e w2 ⟨rfl,hB2⟩
    have hB2:Below W.heap.size W w2:=(hB.alloc hB.size _).trans (hB2.mono (by simp;omega))
    have hbw:=hB0.trans (hB2.mono hB0.size)
    cases hv:spok t.sp[k] with
    | false =>
     have HR:Hid (tok t=false):=tok_bad hlt hv
     go_wp2
     go_ret
     exact ⟨ret_bool HR.out.symm,hbw⟩
    | true =>
     have HR:Hid (∀ j (hj:j<t.sp.length),j<k+1→spok t.sp[j]=true):=fun j hj h=>by
      by_cases e:j=k
      ·
       subst e;exact hv
      ·
       exact HN.out j hj (by omega)
     go_wp2
     go_roundw
     case rel=>exact ⟨k+1,by omega,by go_num,HR.out,hB2⟩
     case measure=>simp [intOf];omega
   ·
    have HS:Hid (∀ j (hj:j<t.sp.length),spok t.sp[j]=true):=fun j hj=>HN.out j hj (by omega)
    obtain ⟨hbl,⟨cx0,cx1⟩,_⟩:=bx.below hB
    clear HN
    go_wp2_with fail
    refine (iall _ _ _ t.lv (hx.below hB) (by omega)).mono ?_
    rintro e w2 ⟨rfl,hw⟩
    subst w2
    have HR:Hid (tok t=aok t.lv):=by
     show _=_
     cases e:aok t.lv with
     | false=>exact tok_leaf e
     | true=>exact tok_all (by omega) H2.out HS.out e
    go_wp2
    go_ret
    exact ⟨ret_bool HR.out.symm,hbw⟩
 ·
  have hne:((t.lv.length:Int) != wrap64 (2 ^ t.sp.length))=true:=by rw [hpw];exact bne_iff_ne.2 (fun e=>h2 (Int.ofNat_inj.1 e))
  rw [tok_leaves h2]
  clear hpw h2
  go_enter Tryz.func66,Tryz.ntmps66
  go_wp2
  go_quiet (fail)
  go_wp2
  go_ret
  exact ⟨rfl,below_box⟩
end Go.Proofs.YtaojoamldoofpaaGreatDoor.Tw
