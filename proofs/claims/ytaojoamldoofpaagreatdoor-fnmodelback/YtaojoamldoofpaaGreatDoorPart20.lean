/-
  Contracts that the proof leans on, put together in the order in which they build.
-/
import Derived.Test.YtaojoamldoofpaaGreatDoorPart8
import Derived.Test.YtaojoamldoofpaaGreatDoorPart14
import Derived.Test.YtaojoamldoofpaaGreatDoorPart12
import Derived.Test.YtaojoamldoofpaaGreatDoorPart19
import Derived.Test.YtaojoamldoofpaaGreatDoorPart6
import Derived.BigQuiet
import Derived.Deep.QuietTactic
set_option linter.unusedVariables false
namespace Go.Proofs.YtaojoamldoofpaaGreatDoor.Md
set_option maxRecDepth 20000
open Go.RowKit
open Li (ret_bool btw below_none)
open Tk (sok)
open Bo (fok aok)
open Wd (dictOf dictOf_len)
open Tb (lets)
open Tm (IsT szT)
open Kt (Kv IsK ksz)
open Sw (allok)
open Sv (new1 Wr wr2)
def cwok (s:ByteArray):Bool:=decide (1≤s.size∧s.size≤25)
def kok (t:Kv):Bool:=decide (t.ws.length≤40) && (decide (t.vs.length=t.ws.length) && (aok t.vs && (t.ws.all cwok && decide ((dictOf t.ws).length=t.ws.length))))
def ncol (c:Int):Int:=if c=2 then 3 else c
def mok (m:M):Bool:=sok m.n m.c && (btw m.prior (-1000000) 1000000 && (fok m.base && (decide (m.ts.length≤12) && (decide ((m.ks.length:Int)=ncol m.c) && (allok m.ts && m.ks.all kok)))))
theorem all_no {α:Type} {p:α→Bool} {xs:List α} {k:Nat} (hk:k<xs.length) (h:p xs[k]=false):xs.all p=false:=by
 rw [List.all_eq_false];exact ⟨xs[k],List.getElem_mem hk,by simp [h]⟩
theorem all_yes {α:Type} {p:α→Bool} {xs:List α} (h:∀ j (hj:j<xs.length),p xs[j]=true):xs.all p=true:=by
 rw [List.all_eq_true];intro x hx;obtain ⟨j,hj,rfl⟩:=List.getElem_of_mem hx;exact h j hj
theorem cwok_btw (s:ByteArray):btw (s.size:Int) 1 25=cwok s:=by
 unfold btw cwok;congr 1;apply propext;omega
theorem mok_parts {m:M} (h:mok m=true):sok m.n m.c=true∧btw m.prior (-1000000) 1000000=true∧fok m.base=true∧m.ts.length≤12∧(m.ks.length:Int)=ncol m.c∧allok m.ts=true∧m.ks.all kok=true:=by
 simpa [mok] using h
theorem kok_parts {t:Kv} (h:kok t=true):t.ws.length≤40∧t.vs.length=t.ws.length∧aok t.vs=true∧t.ws.all cwok=true∧(dictOf t.ws).length=t.ws.length:=by
 simpa [kok] using h
theorem ks_at {m:M} (hl:m.sz≤1048576) (k:Nat) (hk:k<m.ks.length):m.ks[k].ws.length+lets m.ks[k].ws+m.ks[k].vs.length≤1048576:=by
 have:=Kt.ksz_at m.ks k hk
 unfold M.sz at hl
 omega
theorem ts_at {m:M} (hl:m.sz≤1048576) (k:Nat) (hk:k<m.ts.length):m.ts[k].sp.length+m.ts[k].lv.length≤1048576:=by
 have:=Tm.szT_at m.ts k hk
 unfold Tm.szt at this
 unfold M.sz at hl
 omega
set_option maxHeartbeats 400000 in
theorem scol (w:World) (n c:Int):Calls Tryz.prog 55 #[.agg #[.int .i64 n,.int .i64 c]] w fun e w'=>e=.returned (.int .i64 (ncol c))∧Below w.heap.size w w':=by
 by_cases h:c=2
 ·
  subst h
  go_enter Tryz.func55,Tryz.ntmps55
  go_wp2
  go_ret
  exact ⟨rfl,(Below.refl _ _).alloc (Nat.le_refl _) _⟩
 ·
  have HN:Hid (ncol c=c):=if_neg h
  have hb:(c == 2)=false:=by simp [h]
  go_enter Tryz.func55,Tryz.ntmps55
  go_wp2
  go_ret
  exact ⟨by rw [HN.out];rfl,(Below.refl _ _).alloc (Nat.le_refl _) _⟩
set_option maxHeartbeats 400000 in
theorem icw (w:World) (s:ByteArray) (hs:s.size≤9223372036854775807):Calls Tryz.prog 90 #[.string s] w fun e w'=>e=.returned (.bool (cwok s))∧w'=w:=by
 go_enter Tryz.func90,Tryz.ntmps90
 go_wp2
 all_goals go_ret
 all_goals refine ⟨ret_bool ?_,rfl⟩
 all_goals unfold cwok
 all_goals first | (symm;simp;omega) | (rw [Bool.eq_iff_iff];simp;omega)
set_option maxHeartbeats 4000000 in
theorem ikok (w:World) (a0 a1:Option Addr) (c0 c1:Nat) (t:Kv) (h0:Ls.IsS w a0 t.ws) (h1:Li.IsL w a1 t.vs) (hl:t.ws.length+lets t.ws+t.vs.length≤1048576) :
    Calls Tryz.prog 68 #[.agg #[.slice a0 t.ws.length c0,.slice a1 t.vs.length c1]] w fun e w'=>e=.returned (.bool (kok t))∧Below w.heap.size w w':=by
  have hz:∀ j (hj:j<t.ws.length),t.ws[j].size≤1048576:=fun j hj=>by have:=Tb.lets_at t.ws j hj;omega
  obtain ⟨n,hn⟩:∃ n,t.ws.length=n:=⟨_,rfl⟩
  obtain ⟨q,hq⟩:∃ n,t.vs.length=n:=⟨_,rfl⟩
  by_cases g1:n≤40
  rotate_left
  · have HR : Hid (kok t = false) := by show _ = _; simp [kok, hn, g1]
    have g1':(40:Int)<n:=by omega
    rw [hn,hq] at hl ⊢
    clear hz
    go_enter Tryz.func68,Tryz.ntmps68
    go_wp2
    go_ret
    exact ⟨ret_bool HR.out.symm,(Below.refl _ _).alloc (Nat.le_refl _) _⟩
  by_cases g2:q=n
  rotate_left
  · have HR : Hid (kok t = false) := by show _ = _; simp [kok, hn, hq, g2]
    have g2':((q:Int) != (n:Int))=true:=by simp;omega
    have g1':¬ (40:Int)<n:=by omega
    rw [hn,hq] at hl ⊢
    clear hz
    go_enter Tryz.func68,Tryz.ntmps68
    go_wp2
    go_ret
    exact ⟨ret_bool HR.out.symm,(Below.refl _ _).alloc (Nat.le_refl _) _⟩
  have hqn:t.vs.length=t.ws.length:=by omega
  have HQN:Hid (t.vs.length=t.ws.length):=hqn
  have g2':((n:Int) != (n:Int))=false:=by simp
  have g1':¬ (40:Int)<n:=by omega
  have HN:Hid (t.ws.length=n):=hn
  have HLL:Hid (t.vs.length≤1048576):=by show _≤_;omega
  have hl':n≤40:=g1
  rw [hqn,hn]
  clear hqn g2 hq hn hl
  go_enter Tryz.func68,Tryz.ntmps68
  go_wp2_with fail
  obtain ⟨W,hW,hsz,hB,bx⟩:=new1 w [.slice a0 n c0,.slice a1 n c1] 47
  rw [hW]
  clear hW hsz
  have hc:=Bw.iall W a1 c1 t.vs (h1.below hB) HLL.out
  rw [HQN.out,HN.out] at hc
  refine hc.mono ?_
  rintro e w' ⟨rfl,hw⟩
  subst w'
  clear hc
  obtain ⟨hbl,⟨x0,x1⟩,_⟩:=wr2 bx
  cases ha:aok t.vs with
  | false =>
    have HR:Hid (kok t=false):=by show _=_;simp [kok,ha]
    go_wp2
    go_ret
    exact ⟨ret_bool HR.out.symm,hB⟩
  | true =>
  have HA:Hid (aok t.vs=true):=ha
  clear ha
  go_wp2
  go_loopw [27] (fun i wr=>∃ k:Nat,k≤n∧i=.int .i64 k∧(∀ j (hj:j<t.ws.length),j<k→cwok t.ws[j]=true)∧wr=W) (fun i _=>n-(intOf i).toNat)
  case atStart=>exact ⟨0,Nat.zero_le _,rfl,fun j hj h=>by omega,rfl⟩
  case round =>
    obtain ⟨k,hk,rfl,hall,hwr⟩:=hrel
    subst wr
    by_cases hlt:k<n
    · have hkl : k < t.ws.length := by rw [HN.out]; exact hlt
      rcases h0.below hB with e0 | ⟨sb,so,rfl,hsb,hsc⟩
      · rw [e0] at hkl;simp at hkl
      have d:=hsc k hkl
      have hzk:=hz k hkl
      have HALL:Hid (∀ j (hj:j<t.ws.length),j<k→cwok t.ws[j]=true):=hall
      have HNO:Hid (cwok t.ws[k]=false→kok t=false):=fun e=>by simp [kok,all_no hkl e]
      have HYE:Hid (cwok t.ws[k]=true→∀ j (hj:j<t.ws.length),j<k+1→cwok t.ws[j]=true):=fun e j hj h=>by
        by_cases e':j=k
        · subst e';exact e
        · exact HALL.out j hj (by omega)
      obtain ⟨s,hs⟩:∃ s,t.ws[k]=s:=⟨_,rfl⟩
      rw [hs] at d hzk HNO HYE
      clear hsc hall hs
      go_wp2_with fail
      refine (icw _ s (by omega)).mono ?_
      rintro e w' ⟨rfl,hw⟩
      subst w'
      cases hcw:cwok s with
      | false =>
        have HR:Hid (kok t=false):=HNO.out hcw
        go_wp2
        go_ret
        exact ⟨ret_bool HR.out.symm,hB⟩
      | true =>
        have HR:=HYE.out hcw
        have HR':Hid (∀ j (hj:j<t.ws.length),j<k+1→cwok t.ws[j]=true):=HR
        clear HR
        go_wp2
        go_roundw
        case rel=>exact ⟨k+1,by omega,by go_num,HR'.out,by simp⟩
        case measure=>simp [intOf];omega
    · have hcw : t.ws.all cwok = true := all_yes (fun j hj => hall j hj (by have := HN.out; omega))
      have HV:Hid (kok t=decide ((dictOf t.ws).length=n)):=by
        show _=_
        have e1:=HN.out
        have e2:=HQN.out
        simp [kok,HA.out,hcw,e1,e2,g1]
      have hdl:(dictOf t.ws).length≤40:=by have:=dictOf_len t.ws;have:=HN.out;omega
      have hx:=h0.below hB
      have HX:Hid (Ls.IsS W a0 t.ws):=hx
      have HZ:Hid (∀ j (hj:j<t.ws.length),t.ws[j].size≤1048576):=hz
      have HB:Hid (Below w.heap.size w W):=hB
      have HBX:Hid (Wr W w.heap.size 0 [.slice a0 n c0,.slice a1 n c1]):=bx
      have HBD:Hid (Below W.heap.size W W.drew):=(Below.refl W.heap.size W).drew
      clear hall hcw hx h0 h1 hz hB bx
      go_wp2_with fail
      go_region_held3 (fun w'=>w'.cell? ⟨w.heap.size,0,none⟩=some (.slice a0 n c0)) (go_keep) (first
        | (go_at_call 91
           have hc:=Di.idict W.drew a0 c0 t.ws (HX.out.below HBD.out) (by have:=HN.out;omega) HZ.out
           rw [HN.out] at hc
           refine hc.mono ?_
           rintro e w1 ⟨vd,rfl,od,hb⟩
           obtain ⟨ad,cd,rfl,_⟩:=od.iss
           have HY:Hid (Below W.heap.size W w1):=HBD.out.trans hb
           obtain ⟨_,⟨y0,y1⟩,_⟩:=wr2 (HBX.out.below HY.out)
           clear hb hc od y1))
      have hB:=HB.out.trans (HY.out.mono HB.out.size)
      clear HY
      go_wp2
      go_ret
      refine ⟨?_,hB⟩
      rw [HV.out]
      exact ret_bool (by rw [Bool.eq_iff_iff];simp;omega)
set_option maxHeartbeats 2000000 in
theorem itrees (w:World) (a:Option Addr) (c:Nat) (ts:List Tr.T) (h:IsT w a ts) (hl:ts.length+szT ts≤1048576) :
  Calls Tryz.prog 38 #[.slice a ts.length c] w fun e w'=>e=.returned (.bool (decide (ts.length≤12) && allok ts))∧Below w.heap.size w w':=by
 by_cases g1:ts.length≤12
 rotate_left
 ·
  have HR:Hid ((decide (ts.length≤12) && allok ts)=false):=by show _=_;simp [g1]
  have g1':(12:Int)<ts.length:=by omega
  go_enter Tryz.func38,Tryz.ntmps38
  go_wp2
  go_ret
  exact ⟨ret_bool HR.out.symm,Below.refl _ _⟩
 have HD:Hid ((decide (ts.length≤12) && allok ts)=allok ts):=by show _=_;simp [g1]
 have g1':¬ (12:Int)<ts.length:=by omega
 go_enter Tryz.func38,Tryz.ntmps38
 go_wp2
 go_loopw [10] (fun i wr=>∃ k:Nat,k≤ts.length∧i=.int .i64 k∧(∀ j (hj:j<ts.length),j<k→Tr.tok ts[j]=true)∧Below w.heap.size w wr) (fun i _=>ts.length-(intOf i).toNat)
 case atStart=>exact ⟨0,Nat.zero_le _,rfl,fun j hj h=>by omega,Below.refl _ _⟩
 case round =>
  obtain ⟨k,hk,rfl,hall,hB⟩:=hrel
  by_cases hlt:k<ts.length
  ·
   rcases h.below hB with e0 | ⟨b,off,rfl,hb,hc⟩
   ·
    rw [e0] at hlt;simp at hlt
   obtain ⟨_,_,⟨x0,x1⟩,a0,c0,a1,c1,rfl,rfl,i0,i1⟩:=hc k hlt
   have hz:ts[k].sp.length+ts[k].lv.length≤szT ts:=Tm.szT_at ts k hlt
   have HNO:Hid (Tr.tok ts[k]=false→allok ts=false):=fun e=>Sw.allok_no hlt e
   have HYE:Hid (Tr.tok ts[k]=true→∀ j (hj:j<ts.length),j<k+1→Tr.tok ts[j]=true):=fun e j hj h=>by
    by_cases e':j=k
    ·
     subst e';exact e
    ·
     exact hall j hj (by omega)
   obtain ⟨t,ht⟩:∃ t,ts[k]=t:=⟨_,rfl⟩
   rw [ht] at x0 x1 i0 i1 hz HNO HYE
   clear hc ht hall
   go_wp2_with fail
   obtain ⟨W,hW⟩:∃ W,wr.alloc (.cells #[.slice a0 t.sp.length c0,.slice a1 t.lv.length c1] 56)=W:=⟨_,rfl⟩
   have hbW:Below wr.heap.size wr W:=by
    rw [← hW];exact (Below.refl _ _).alloc (Nat.le_refl _) _
   rw [hW]
   clear hW
   refine (Tw.itok _ _ _ _ _ t (i0.below hbW) (i1.below hbW) (by omega)).mono ?_
   rintro e w1 ⟨rfl,hb1⟩
   have hB:=hB.trans ((hbW.trans (hb1.mono hbW.size)).mono hB.size)
   clear hb1 hbW x0 x1 i0 i1
   cases htok:Tr.tok t with
   | false =>
    have HR:Hid (allok ts=false):=HNO.out htok
    go_wp2
    go_ret
    exact ⟨ret_bool (by rw [HD.out,HR.out]),hB⟩
   | true =>
    have HR:=HYE.out htok
    have HR':Hid (∀ j (hj:j<ts.length),j<k+1→Tr.tok ts[j]=true):=HR
    clear HR
    go_wp2
    go_roundw
    case rel=>exact ⟨k+1,by omega,by go_num,HR'.out,hB⟩
    case measure=>simp [intOf];omega
  ·
   have HR:Hid (allok ts=true):=Sw.allok_all (fun j hj=>hall j hj (by omega))
   clear hall
   go_wp2
   go_ret
   exact ⟨ret_bool (by rw [HD.out,HR.out]),hB⟩
theorem wcols_n {n c:Int} (h:sok n c=true):((Wc.wcols c []).length:Int)=ncol c:=by
 obtain ⟨_,h1,h2⟩:=Tk.sok_iff.1 h
 unfold Wc.wcols ncol
 by_cases e:c=2
 ·
  simp [e,Wc.cats]
 ·
  simp [e,Wc.cats];omega
set_option maxHeartbeats 4000000 in
theorem ictrs (w:World) (n c:Int) (a:Option Addr) (ca:Nat) (ks:List Kv) (h:IsK w a ks) (hl:ks.length+ksz ks≤1048576) (hs:sok n c=true) :
  Calls Tryz.prog 39 #[.agg #[.int .i64 n,.int .i64 c],.slice a ks.length ca] w fun e w'=>e=.returned (.bool (decide ((ks.length:Int)=ncol c) && ks.all kok))∧Below w.heap.size w w':=by
 have ht:Tk.tok n c []=true:=by simp [Tk.tok,hs]
 have HWN:=wcols_n hs
 have HWN':Hid (((Wc.wcols c []).length:Int)=ncol c):=HWN
 have hwl:(Wc.wcols c []).length≤3:=by have:=Tk.sok_iff.1 hs;unfold ncol at HWN;split at HWN <;> omega
 have HT:Hid (Tk.tok n c []=true):=ht
 clear ht HWN hs
 go_enter Tryz.func39,Tryz.ntmps39
 go_wp2_with fail
 obtain ⟨W,hW,hsz,hB,bx⟩:=new1 w [.int .i64 n,.int .i64 c] 25
 rw [hW]
 clear hW hsz
 refine (Wc.iwc W n c none 0 [] (.inl rfl) (by simp [Tb.szR]) HT.out).mono ?_
 rintro e w1 ⟨v,rfl,ov,hb⟩
 obtain ⟨av,cv,rfl,_⟩:=ov.isc
 have hB:=hB.trans (hb.mono hB.size)
 clear hb ov bx
 obtain ⟨L,hL⟩:∃ L,(Wc.wcols c []).length=L:=⟨_,rfl⟩
 rw [hL] at HWN' hwl ⊢
 clear hL
 by_cases g:ks.length=L
 rotate_left
 ·
  have HR:Hid ((decide ((ks.length:Int)=ncol c) && ks.all kok)=false):=by
   show _=_
   rw [← HWN'.out,decide_eq_false (by omega)];rfl
  have g':((ks.length:Int) != (L:Int))=true:=by simp;omega
  clear g
  go_wp2
  go_ret
  exact ⟨ret_bool HR.out.symm,hB⟩
 have HD:Hid ((decide ((ks.length:Int)=ncol c) && ks.all kok)=ks.all kok):=by
  show _=_
  rw [← HWN'.out,decide_eq_true (by omega)];rfl
 have g':((ks.length:Int) != (L:Int))=false:=by simp;omega
 clear g
 go_wp2
 go_loopw [16] (fun i wr=>∃ k:Nat,k≤ks.length∧i=.int .i64 k∧(∀ j (hj:j<ks.length),j<k→kok ks[j]=true)∧Below w.heap.size w wr) (fun i _=>ks.length-(intOf i).toNat)
 case atStart=>exact ⟨0,Nat.zero_le _,rfl,fun j hj h=>by omega,hB⟩
 case round =>
  obtain ⟨k,hk,rfl,hall,hB⟩:=hrel
  clear g'
  by_cases hlt:k<ks.length
  ·
   rcases h.below hB with e0 | ⟨b,off,rfl,hb,hc⟩
   ·
    rw [e0] at hlt;simp at hlt
   obtain ⟨a0,c0,a1,c1,⟨x0,x1⟩,i0,i1⟩:=hc k hlt
   have hz:=Kt.ksz_at ks k hlt
   have HNO:Hid (kok ks[k]=false→ks.all kok=false):=fun e=>all_no hlt e
   have HYE:Hid (kok ks[k]=true→∀ j (hj:j<ks.length),j<k+1→kok ks[j]=true):=fun e j hj h=>by
    by_cases e':j=k
    ·
     subst e';exact e
    ·
     exact hall j hj (by omega)
   obtain ⟨t,ht⟩:∃ t,ks[k]=t:=⟨_,rfl⟩
   rw [ht] at x0 x1 i0 i1 hz HNO HYE
   clear hc ht hall
   go_wp2_with fail
   obtain ⟨W,hW⟩:∃ W,wr.alloc (.cells #[.slice a0 t.ws.length c0,.slice a1 t.vs.length c1] 47)=W:=⟨_,rfl⟩
   have hbW:Below wr.heap.size wr W:=by
    rw [← hW];exact (Below.refl _ _).alloc (Nat.le_refl _) _
   rw [hW]
   clear hW
   refine (ikok _ _ _ _ _ t (i0.below hbW) (i1.below hbW) (by omega)).mono ?_
   rintro e w2 ⟨rfl,hb1⟩
   have hB:=hB.trans ((hbW.trans (hb1.mono hbW.size)).mono hB.size)
   clear hb1 hbW x0 x1 i0 i1
   cases htok:kok t with
   | false =>
    have HR:Hid (ks.all kok=false):=HNO.out htok
    go_wp2
    go_ret
    exact ⟨ret_bool (by rw [HD.out,HR.out]),hB⟩
   | true =>
    have HR:=HYE.out htok
    have HR':Hid (∀ j (hj:j<ks.length),j<k+1→kok ks[j]=true):=HR
    clear HR
    go_wp2
    go_roundw
    case rel=>exact ⟨k+1,by omega,by go_num,HR'.out,hB⟩
    case measure=>simp [intOf];omega
  ·
   have HR:Hid (ks.all kok=true):=all_yes (fun j hj=>hall j hj (by omega))
   clear hall
   go_wp2
   go_ret
   exact ⟨ret_bool (by rw [HD.out,HR.out]),hB⟩
set_option maxHeartbeats 4000000 in
theorem imok (w:World) (ak ax:Option Addr) (ck ct:Nat) (m:M) (h:Rm w ak ax m) (hl:m.sz≤1048576) :
  Calls Tryz.prog 13 #[.agg #[.int .i64 m.n,.int .i64 m.c,.int .i64 m.prior,.int .i64 m.base,.slice ak m.ks.length ck,.slice ax m.ts.length ct]] w fun e w'=>e=.returned (.bool (mok m))∧Below w.heap.size w w':=by
 have HL:Hid (m.ks.length+ksz m.ks≤1048576∧m.ts.length+szT m.ts≤1048576):=by unfold M.sz at hl;exact ⟨by omega,by omega⟩
 clear hl
 go_enter Tryz.func13,Tryz.ntmps13
 go_wp2_with fail
 obtain ⟨W,hW,hsz,hB,bx⟩:=new1 w [.int .i64 m.n,.int .i64 m.c,.int .i64 m.prior,.int .i64 m.base,.slice ak m.ks.length ck,.slice ax m.ts.length ct] 29
 rw [hW]
 clear hW hsz
 refine (Tk.isch _ _ _).mono ?_
 rintro e w1 ⟨rfl,hb⟩
 have bx:=bx.below hb
 have hB:=hB.trans (hb.mono hB.size)
 clear hb
 obtain ⟨_,⟨x0,x1,x2,x3,x4,x5⟩,_⟩:=wr6 bx
 cases h1:sok m.n m.c with
 | false =>
  have HR:Hid (mok m=false):=by show _=_;simp [mok,h1]
  go_wp2
  go_ret
  exact ⟨ret_bool HR.out.symm,hB⟩
 | true =>
 have H1:Hid (sok m.n m.c=true):=h1
 clear h1
 go_wp2_with fail
 refine (Cf.iprior _ _).mono ?_
 rintro e w' ⟨rfl,hw⟩
 subst w'
 cases h2:btw m.prior (-1000000) 1000000 with
 | false =>
  have HR:Hid (mok m=false):=by show _=_;simp [mok,h2]
  go_wp2
  go_ret
  exact ⟨ret_bool HR.out.symm,hB⟩
 | true =>
 have H2:Hid (btw m.prior (-1000000) 1000000=true):=h2
 clear h2
 go_wp2_with fail
 refine (Bw.iok _ _).mono ?_
 rintro e w' ⟨rfl,hw⟩
 subst w'
 cases h3:fok m.base with
 | false =>
  have HR:Hid (mok m=false):=by show _=_;simp [mok,h3]
  go_wp2
  go_ret
  exact ⟨ret_bool HR.out.symm,hB⟩
 | true =>
 have H3:Hid (fok m.base=true):=h3
 clear h3
 go_wp2_with fail
 refine (itrees _ _ _ m.ts (h.t.below hB) HL.out.2).mono ?_
 rintro e w2 ⟨rfl,hb⟩
 have bx:=bx.below hb
 have hB:=hB.trans (hb.mono hB.size)
 clear hb x0 x1 x2 x3 x4 x5
 obtain ⟨_,⟨x0,x1,x2,x3,x4,x5⟩,_⟩:=wr6 bx
 cases h4:(decide (m.ts.length≤12) && allok m.ts) with
 | false =>
  have HR:Hid (mok m=false):=by
   show _=_
   unfold mok
   rw [Bool.and_eq_false_iff] at h4
   rcases h4 with h4 | h4 <;> simp [h4]
  go_wp2
  go_ret
  exact ⟨ret_bool HR.out.symm,hB⟩
 | true =>
 have HR:Hid (mok m=(decide ((m.ks.length:Int)=ncol m.c) && m.ks.all kok)):=by
  show _=_
  rw [Bool.and_eq_true] at h4
  unfold mok
  rw [H1.out,H2.out,H3.out,h4.1,h4.2]
  simp
 clear h4
 go_wp2_with fail
 refine (ictrs _ _ _ _ _ m.ks (h.k.below hB) HL.out.1 H1.out).mono ?_
 rintro e w3 ⟨rfl,hb⟩
 have hB:=hB.trans (hb.mono hB.size)
 clear hb x0 x1 x2 x3 x4 x5
 go_wp2
 go_ret
 exact ⟨ret_bool HR.out.symm,hB⟩
end Go.Proofs.YtaojoamldoofpaaGreatDoor.Md
