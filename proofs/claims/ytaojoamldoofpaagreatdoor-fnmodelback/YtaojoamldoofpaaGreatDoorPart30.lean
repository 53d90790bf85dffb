/-
  Contracts that the proof leans on, put together in the order in which they build.
-/
import Derived.Test.YtaojoamldoofpaaGreatDoorPart29
import Derived.Test.YtaojoamldoofpaaGreatDoorPart23
import Derived.WalkMore
set_option linter.unusedVariables false
namespace Go.Proofs.YtaojoamldoofpaaGreatDoor.Rs
set_option maxRecDepth 100000
open Go.RowKit
open Md (M OwM wr6)
open Kt (Kv OwK)
open To (OwT)
open Sv (Fr fr_below fr_grown Wr)
open Rm (Fx fx_set fx_below om_set om_ks splitK splitT St zero addW wModel wCtr wTree pairs Ok Reads Ans ans_no results_ct bel6 tot tot_succ tot_le pieces_tot zero_sz fx_bel)
open Mt (mtext)
theorem pcs_len (c:UInt8) (l:List UInt8):(Pc.pcs c l).length=(Pc.pieces c l).length:=by unfold Pc.pcs;rw [List.length_map]
theorem pcs_cells {w:World} {a:Option Addr} {c:UInt8} {l:List UInt8} (h:Ls.IsS w a (Pc.pcs c l)):∃ b o,a=some ⟨b,o,none⟩∧b<w.heap.size∧∀ j (hj:j<(Pc.pieces c l).length),w.cell? ⟨b,o+j,none⟩=some (.string (Pc.ba (Pc.pieces c l)[j])):=by
 have hne:=Pc.pieces_ne c l
 rcases h with h0 | ⟨b,o,e,hb,hc⟩
 ·
  have:=pcs_len c l
  rw [h0] at this
  exact absurd (List.length_eq_zero_iff.1 this.symm) hne
 ·
  refine ⟨b,o,e,hb,fun j hj=>?_⟩
  rw [hc j (by rw [pcs_len];exact hj)]
  simp [Pc.pcs]
theorem sown_cap {w:World} {b:Nat} {v:Value} {xs:List ByteArray} (h:Ls.Own w b v xs):∃ a c,v=.slice a xs.length c∧xs.length≤c∧Ls.IsS w a xs:=by
 obtain ⟨a,c,e,i⟩:=h.iss
 refine ⟨a,c,e,?_,i⟩
 subst e
 rcases h.2 with ⟨e,h0⟩ | ⟨g,cap,cur,e,_,_,hc,_⟩
 ·
  omega
 ·
  injection e with _ _ e;omega
theorem fr_w {T lo R:Nat} {w0 w1 X:World} {vs:List Value} (hb:Wr w1 R 0 vs) (hf:Fr (Fx T lo) w1 X) (h1:R<T) (h2:T<lo):Wr X R 0 vs:=hb.keptAt hf.size (hf.block R hb.1 (by unfold Fx;omega))
theorem sread_tot {c:UInt8} {l:List UInt8} {n:Nat} (h:l.length≤n):∀ x ∈ Pc.pieces c l,x.length≤n:=fun x hx=>Nat.le_trans (Pc.pieces_mem c l x hx) h
def zc:List Value:=[.int .i64 0,.int .i64 0,.int .i64 0,.int .i64 0,.slice none 0 0,.slice none 0 0]
theorem sans_no {w w':World} {s:List UInt8} (h:srdt s ⟨zero,0⟩=none) (hb:Below w.heap.size w w'):Ans w s (.returned (.tuple #[.agg #[.int .i64 0,.int .i64 0,.int .i64 0,.int .i64 0,.slice none 0 0,.slice none 0 0],.bool false])) w':=ans_no (sreads_none h) hb
theorem wpl_pushT {ops:Array Oper} {rest:List Oper} {o:Oper} {a:Act} {w:World} {Q:Exit→Act→World→Prop} (hgd:o.guard=none) (s x:Operand) (ho:o.op=.call { callee:=.builtin .append,args:=#[s,x],argTypes:=#[27,27] })
  (B:Nat→Prop) (m:Nat) (v:Value) (ks:List Tr.T) (h:OwT w (fun y=>B y∧y<m) v ks) (E:Nat) (b0 b1:Option Addr) (d0 d1 n0 n1:Nat) (t:Tr.T) (hs:a.eval s=v) (hx:a.eval x=.slice (some ⟨E,0,none⟩) 1 1)
  (e0:w.cell? ⟨E,0,none⟩=some (.slice b0 n0 d0)) (e1:w.cell? ⟨E,1,none⟩=some (.slice b1 n1 d1)) (o0:Tm.OwnP w m (.slice b0 n0 d0) t.sp) (o1:Li.Own w m (.slice b1 n1 d1) t.lv) (h01:∀ k,(Value.slice b0 n0 d0).ownBlock=some k→(Value.slice b1 n1 d1).ownBlock≠some k)
  (hB:∀ y,m≤y→B y) (hm:m≤w.heap.size) (hl:ks.length≤1048576)
  (hq:∀ a5 c5 w5,OwT w5 B (.slice a5 (ks.length+1) c5) (ks ++ [t])→w.grownBy w5 v.ownBlock→wpList Tryz.prog ops Q rest (a.put o.dst (.slice a5 (ks.length+1) c5)) w5):wpList Tryz.prog ops Q (o :: rest) a w:=by
 obtain ⟨a5,c5,w5,hr,h2,h3⟩:=Ps.run_pushT w o.type B m v ks h E b0 b1 d0 d1 n0 n1 t e0 e1 o0 o1 h01 hB hm hl
 refine wpList_plain hgd fun K hK=>?_
 unfold Oper.wp execOp
 simp only [ho,resolve,invoke,builtin,Sem.run_bind,Sem.run_pure,Result.andThen_ok,List.map_toArray,List.map_cons,List.map_nil,hs,hx,hr]
 exact hK _ _ (hq a5 c5 w5 h2 h3)
theorem bas_data (ws:List (List UInt8)):(ws.map Pc.ba).map (fun s=>s.data.toList)=ws:=by
 rw [List.map_map]
 conv=>rhs;rw [← List.map_id ws]
 refine List.map_congr_left (fun x _=>?_)
 exact Pc.ba_data x
theorem snums_snoc:∀ (fs:List (List UInt8)) (f:List UInt8),snums (fs ++ [f])=(match snums fs,snum f with
  | some vs,some v=>some (vs ++ [v])
  | _,_=>none)
 | [],f=>by
  simp only [List.nil_append,snums]
  cases snum f <;> rfl
 | g :: fs,f=>by
  have ih:=snums_snoc fs f
  rw [List.cons_append,snums,ih]
  simp only [snums]
  cases snum g <;> cases snums fs <;> cases snum f <;> rfl
theorem snums_no:∀ {fs:List (List UInt8)} {k:Nat} (hk:k<fs.length),snum fs[k]=none→snums fs=none
 | f :: fs,0,_,h=>by
  have h:snum f=none:=h
  simp only [snums,h]
 | f :: fs,k+1,hk,h=>by
  have ih:=snums_no (fs:=fs) (k:=k) (by simpa using hk) (by simpa using h)
  simp only [snums,ih]
  cases snum f <;> rfl
theorem snums_take {fs:List (List UInt8)} {k:Nat} (hk:k<fs.length) {xs:List Int} (h:snums (fs.take k)=some xs) {v:Int} (hv:snum fs[k]=some v):snums (fs.take (k+1))=some (xs ++ [v]):=by
 rw [List.take_succ_eq_append_getElem hk,snums_snoc,h,hv]
theorem wp_snocI {o:Oper} {a:Act} {w:World} {K:Act→World→Prop} {Q:Exit→Act→World→Prop} (s x:Operand) (ho:o.op=.call { callee:=.builtin .append,args:=#[s,x],argTypes:=#[45,45] }) (dt:Option Tmp) (hd:o.dst=dt)
  (ad:Option Addr) (n c E:Nat) (xs:List Int) (hn:xs.length=n) (hs:a.eval s=.slice ad n c) (hx:a.eval x=.slice (some ⟨E,0,none⟩) 1 1) (hown:Li.Own w 0 (.slice ad n c) xs) (t:Int) (e0:w.cell? ⟨E,0,none⟩=some (.int .i64 t)) (hl:n≤1048576)
  (hq:∀ a5 c5 w5,Li.Own w5 0 (.slice a5 (n+1) c5) (xs ++ [t])→w.grownBy w5 (Value.slice ad n c).ownBlock→((Value.slice a5 (n+1) c5).ownBlock=(Value.slice ad n c).ownBlock ∨ (Value.slice a5 (n+1) c5).ownBlock=some w.heap.size)→K (a.put dt (.slice a5 (n+1) c5)) w5):o.wp Tryz.prog a w K Q:=by
 subst hd
 obtain ⟨a5,c5,w5,hr,h2,h3,h4⟩:=Rm.run_snocI w o.type ad n c E xs hn hown t e0 hl
 unfold Oper.wp execOp
 simp only [ho,resolve,invoke,builtin,Sem.run_bind,Sem.run_pure,Result.andThen_ok,List.map_toArray,List.map_cons,List.map_nil,hs,hx,hr]
 exact hq a5 c5 w5 h2 h3 h4
theorem old_blocks {w X:World} {b lo:Nat} {m:M} {ak ax:Option Addr} {ck ct g q:Nat} (hg:Gm w b lo m ak ck ax ct) (hq:q<m.ks.length) (hak:ak=some ⟨g,0,none⟩) (hX:X.heap[g]? = w.heap[g]?) :
  g<w.heap.size∧(∀ a1 n1 c1,X.cell? ⟨g,q * 2+1,none⟩=some (.slice a1 n1 c1)→∀ y,(Value.slice a1 n1 c1).ownBlock=some y→y<w.heap.size)∧(∀ a1 n1 c1,X.cell? ⟨g,q * 2,none⟩=some (.slice a1 n1 c1)→∀ y,(Value.slice a1 n1 c1).ownBlock=some y→y<w.heap.size):=by
 obtain ⟨g1,a1,c1,e1,d1,_,o1,hgl,_⟩:=gm_w1 hg q hq
 obtain ⟨g0,a0,c0,e0,d0,_,o0,_⟩:=gm_w0 hg q hq
 rw [hak] at e1 e0
 injection e1 with e1
 injection e1 with e1 _ _
 injection e0 with e0
 injection e0 with e0 _ _
 subst e1
 subst e0
 refine ⟨hgl,fun a n c hc y hy=>?_,fun a n c hc y hy=>?_⟩
 ·
  rw [World.cell?_of_block (a:=⟨g,q * 2+1,none⟩) hX,d1] at hc
  injection hc with hc
  rw [← hc] at hy
  exact (o1.ge y hy).2
 ·
  rw [World.cell?_of_block (a:=⟨g,q * 2,none⟩) hX,d0] at hc
  injection hc with hc
  rw [← hc] at hy
  exact (o0.ge y hy).2
def bwModel:ByteArray:=⟨#[109,111,100,101,108]⟩
def bwCtr:ByteArray:=⟨#[99,116,114]⟩
def bwTree:ByteArray:=⟨#[116,114,101,101]⟩
theorem sl_same {st:St} {l p0:List UInt8} {ws:List (List UInt8)} (hl:¬ 0<st.left) (hP:Pc.pieces 32 l=p0 :: ws) (h1:¬ (p0=wModel∧ws.length=4)) (h2:¬ (p0=wCtr∧ws.length=1)) (h3:¬ p0=wTree):sLine st l=some st:=by
 unfold sLine
 rw [if_neg hl,hP,List.headD_cons,List.length_cons,if_neg (fun e=>h1 ⟨e.1,by omega⟩),if_neg (fun e=>h2 ⟨e.1,by omega⟩),if_neg h3]
theorem sl_model {st:St} {l:List UInt8} {ws:List (List UInt8)} (hl:¬ 0<st.left) (hP:Pc.pieces 32 l=wModel :: ws) (h1:ws.length=4):sLine st l=(match snums ws with
  | some [a,b,c,d]=>some ⟨⟨a,b,c,d,st.m.ks,st.m.ts⟩,st.left⟩
  | _=>none):=by
 unfold sLine
 rw [if_neg hl,hP,List.headD_cons,List.length_cons,if_pos ⟨rfl,by omega⟩,List.tail_cons]
 rfl
theorem sl_ctr {st:St} {l:List UInt8} {ws:List (List UInt8)} (hl:¬ 0<st.left) (hP:Pc.pieces 32 l=wCtr :: ws) (h1:ws.length=1):sLine st l=(match snums ws with
  | some [n]=>if 0≤n∧n≤40 then some ⟨⟨st.m.n,st.m.c,st.m.prior,st.m.base,st.m.ks ++ [⟨[],[]⟩],st.m.ts⟩,n⟩ else none
  | _=>none):=by
 unfold sLine
 rw [if_neg hl,hP,List.headD_cons,List.length_cons,if_neg (fun e=>absurd e.1 (by decide)),if_pos ⟨rfl,by omega⟩,List.tail_cons]
 rfl
theorem sl_tree {st:St} {l:List UInt8} {ws:List (List UInt8)} (hl:¬ 0<st.left) (hP:Pc.pieces 32 l=wTree :: ws):sLine st l=(match stree ws false [] [] with
  | some (a,l)=>some ⟨⟨st.m.n,st.m.c,st.m.prior,st.m.base,st.m.ks,st.m.ts ++ [⟨pairs a,l⟩]⟩,st.left⟩
  | none=>none):=by
 unfold sLine
 rw [if_neg hl,hP,List.headD_cons,if_neg (fun e=>absurd e.1 (by decide)),if_neg (fun e=>absurd e.1 (by decide)),if_pos rfl,List.tail_cons]
 rfl
theorem sl_word {st:St} {l p0:List UInt8} {ws:List (List UInt8)} (hl:0<st.left) (hP:Pc.pieces 32 l=p0 :: ws):sLine st l=(match snum p0 with
  | none=>none
  | some v=>if l.length<p0.length+1 then none else some ⟨⟨st.m.n,st.m.c,st.m.prior,st.m.base,addW st.m.ks ⟨(l.drop (p0.length+1)).toArray⟩ v,st.m.ts⟩,st.left-1⟩):=by
 unfold sLine
 rw [if_pos hl,hP,List.headD_cons]
 rfl
set_option maxHeartbeats 8000000 in
noncomputable def smB:(GARMA:World→ByteArray→Prop) ×' (GARMB:World→ByteArray→Prop) ×' (GARMC:World→ByteArray→Prop) ×' (GARMD:World→ByteArray→Prop) ×' (GEND:World→ByteArray→Prop) ×' (∀ (w:World) (s:ByteArray),s.size≤281474976710656→Hid (GARMA w s)→Hid (GARMB w s)→Hid (GARMC w s)→Hid (GARMD w s)→Hid (GEND w s) →
  Calls Tryz.prog 12 #[.string s] w fun e w'=>Ans w s.data.toList e w'):=by
 refine' ⟨_,_,_,_,_,?_⟩
 rotate_left 5
 focus
  intro w s hs HARMA HARMB HARMC HARMD HEND
  have hsz:s.data.toList.length=s.size:=by simp
  by_cases hnil:s=⟨#[]⟩
  ·
   have q0:=Ls.tl_eq hnil
   rw [show (ByteArray.mk #[]).toList=[] by kernel_rfl] at q0
   have HR:Hid (Reads s.data.toList zero false):=by rw [hnil];exact sreads_nil
   clear hsz
   go_enter Tryz.func12,Tryz.ntmps12
   go_wp2
   refine bodyPost_ret (v:=.tuple #[.agg #[.int .i64 0,.int .i64 0,.int .i64 0,.int .i64 0,.slice none 0 0,.slice none 0 0],.bool false]) (by rw [results_ct rfl];go_simp) rfl (ans_no HR.out ?_)
   exact (Below.refl _ _).alloc (Nat.le_refl _) _
  have q0:=Ls.tl_ne hnil
  rw [show (ByteArray.mk #[]).toList=[] by kernel_rfl] at q0
  by_cases hlong:30000<s.size
  ·
   have HR:Hid (Reads s.data.toList zero false):=Rm.reads_long (by omega)
   clear hsz
   go_enter Tryz.func12,Tryz.ntmps12
   go_wp2
   refine bodyPost_ret (v:=.tuple #[.agg #[.int .i64 0,.int .i64 0,.int .i64 0,.int .i64 0,.slice none 0 0,.slice none 0 0],.bool false]) (by rw [results_ct rfl];go_simp) rfl (ans_no HR.out ?_)
   exact (Below.refl _ _).alloc (Nat.le_refl _) _
  have HNN:Hid (¬ s.data.toList=[]):=fun e=>hnil (Mt.ba_ext e)
  have hlong':¬ (30000:Int)<s.size:=by omega
  go_enter Tryz.func12,Tryz.ntmps12
  go_wp2_with fail
  obtain ⟨W,hW,hsW,hB,br,bx⟩:=Sv.new2 w zc zc 29 29
  unfold zc at hW br bx
  rw [hW]
  refine (Sp.parts W s 10 (by omega)).mono ?_
  rintro e w1 ⟨v,rfl,ho,hB1⟩
  obtain ⟨ad,cp,rfl,his⟩:=ho.iss
  obtain ⟨xb,xo,rfl,hxb,hxc⟩:=pcs_cells his
  have hxW:W.heap.size≤xb:=(ho.ge xb rfl).1
  rw [pcs_len]
  have HPT:=pieces_tot 10 s.data.toList
  have hne:=Pc.pieces_ne 10 s.data.toList
  have HRT:Hid (srdt s.data.toList ⟨zero,0⟩=srd (Pc.pieces 10 s.data.toList) ⟨zero,0⟩):=rfl
  have hpm:∀ x ∈ Pc.pieces 10 s.data.toList,x.length≤30000:=sread_tot (by omega)
  generalize Pc.pieces 10 s.data.toList=L at HPT hxc HRT hpm hne ⊢
  obtain ⟨n,hn⟩:∃ n,L.length=n:=⟨_,rfl⟩
  rw [hn]
  obtain ⟨R,hR⟩:∃ R,w.heap.size=R:=⟨_,rfl⟩
  obtain ⟨T,hT⟩:∃ T,w.heap.size+1=T:=⟨_,rfl⟩
  obtain ⟨lo,hlo⟩:∃ lo,w1.heap.size=lo:=⟨_,rfl⟩
  rw [hT,hR]
  rw [hT] at bx
  rw [hR] at br
  have HG0:Hid (Gm w1 T lo zero none 0 none 0):=⟨bx.below hB1,⟨fun _=>True,OwK.nil _ _,OwT.nil _ _⟩,by have:=bx.1;have:=hB1.size;omega,by omega⟩
  have HBR:Hid (Wr w1 R 0 [.int .i64 0,.int .i64 0,.int .i64 0,.int .i64 0,.slice none 0 0,.slice none 0 0]):=br.below hB1
  have HXB:Hid (xb<w1.heap.size∧∀ j (hj:j<L.length),w1.cell? ⟨xb,xo+j,none⟩=some (.string (Pc.ba (L[j]'hj)))):=⟨hxb,hxc⟩
  have HNX:Hid (¬ xb=T):=fun e=>by omega
  have HBW:Hid (Below w.heap.size w w1):=hB.trans (hB1.mono hB.size)
  have HRW:Hid (w.heap.size=R∧R+1=T∧T+1≤lo):=by refine ⟨hR,?_,?_⟩ <;> (have:=hB1.size;omega)
  have HL1:Hid (w1.heap.size=lo):=hlo
  have HLN:Hid (L.length=n):=hn
  have HTO:Hid (∀ k,tot k L≤3 * s.size+3):=fun k=>by have h1:=tot_le L k;have h2:=HPT.1;omega
  have HPM:Hid (type_of% hpm):=hpm
  have hn3:n≤30001:=by omega
  have hs3:s.size≤30000:=by omega
  clear hW hsW hB br bx ho his hxb hxc hB1 hxW HPT hne hpm hn hR hT hlo hs hsz hlong hlong' hnil q0
  go_wp2_with fail
  go_loopw [5,7] (fun lf i wr=>∃ (k:Nat) (st:St) (ak:Option Addr) (ck:Nat) (ax:Option Addr) (ct:Nat),k≤n∧i=.int .i64 k∧lf=.int .i64 st.left∧(0≤st.left∧st.left≤40)∧Gm wr T lo st.m ak ck ax ct∧srd L ⟨zero,0⟩=srd (L.drop k) st∧Ok st (tot k L)∧Fr (Fx T lo) w1 wr) (fun _ i _=>n-(intOf i).toNat)
  case atStart=>exact ⟨0,⟨zero,0⟩,none,0,none,0,Nat.zero_le _,rfl,rfl,⟨by decide,by decide⟩,HG0.out,rfl,⟨by rw [zero_sz];omega,fun h=>absurd h (by decide)⟩,Fr.refl _ _⟩
  case round =>
   clear HG0
   obtain ⟨k,st,ak,ck,ax,ct,hk,rfl,rfl,hlf,hg,hrd,hok,hf⟩:=hrel
   have HRD:Hid (type_of% hrd):=hrd
   have HOK:Hid (type_of% hok):=hok
   have HF:Hid (type_of% hf):=hf
   have HG:Hid (type_of% hg):=hg
   have HLF:Hid (type_of% hlf):=hlf
   have HSZ:Hid (st.m.sz≤100000):=by have h1:=hok.1;have h2:=HTO.out k;show _≤_;omega
   have hlw:xb<wr.heap.size:=Nat.lt_of_lt_of_le HXB.out.1 hf.size
   obtain ⟨lf,hlf0⟩:∃ lf,st.left=lf:=⟨_,rfl⟩
   have HLE:Hid (st.left=lf):=hlf0
   rw [hlf0] at hlf
   rw [hlf0]
   obtain ⟨hl0,hl40⟩:=hlf
   clear hrd hok hg hlf0
   by_cases hlt:k<n
   ·
    have HKL:Hid (k<L.length):=by have:=HLN.out;show _<_;omega
    have HCL:Hid (∀ X:World,Fr (Fx T lo) w1 X→X.cell? ⟨xb,xo+k,none⟩=some (.string (Pc.ba (L[k]'HKL.out)))):=fun X hX=>(World.cell?_of_block (a:=⟨xb,xo+k,none⟩) (hX.block xb HXB.out.1 (fun e=>by rcases e with e | e;exact HNX.out e;have h1:=HXB.out.1;have h2:=HL1.out;omega))).trans (HXB.out.2 k HKL.out)
    have HDR:Hid (L.drop k=L[k]'HKL.out :: L.drop (k+1)):=by show _=_;exact List.drop_eq_getElem_cons HKL.out
    have HTS:Hid (tot (k+1) L=tot k L+(L[k]'HKL.out).length+3):=tot_succ L k HKL.out
    have hll:=HPM.out _ (List.getElem_mem HKL.out)
    have d:=HCL.out wr hf
    generalize L[k]'HKL.out=l at d HDR HTS hll HCL
    have hbs:(Pc.ba l).size≤30000:=by rw [Pc.ba_size];exact hll
    have HLD:Hid ((Pc.ba l).data.toList=l):=Pc.ba_data l
    clear hf
    go_wp2_with fail
    refine (Sp.parts wr (Pc.ba l) 32 (by omega)).mono ?_
    rintro e w5 ⟨v,rfl,ho,hB5⟩
    obtain ⟨ad2,cp2,rfl,hcap,his⟩:=sown_cap ho
    rw [HLD.out] at his ho hcap ⊢
    obtain ⟨yb,yo,rfl,hyb,hyc⟩:=pcs_cells his
    have hyW:wr.heap.size≤yb:=(ho.ge yb rfl).1
    rw [pcs_len] at hcap
    rw [pcs_len]
    have hpl5:=Pc.pieces_len 32 l
    have HPW:Hid (∀ x ∈ Pc.pieces 32 l,x.length≤30000):=sread_tot hll
    obtain ⟨p0,ws,hP⟩:∃ p0 ws,Pc.pieces 32 l=p0 :: ws:=by
     cases h:Pc.pieces 32 l with
     | nil=>exact absurd h (Pc.pieces_ne 32 l)
     | cons p ws=>exact ⟨p,ws,rfl⟩
    have HP:Hid (Pc.pieces 32 l=p0 :: ws):=hP
    have HYC:Hid (∀ X:World,X.heap[yb]? = w5.heap[yb]?→∀ j p,(p0 :: ws)[j]? = some p→X.cell? ⟨yb,yo+j,none⟩=some (.string (Pc.ba p))):=fun X hX j p hj=>by
     rw [← hP] at hj
     obtain ⟨hjl,hje⟩:=List.getElem?_eq_some_iff.1 hj
     rw [World.cell?_of_block (a:=⟨yb,yo+j,none⟩) hX,hyc j hjl,hje]
    have y0:=HYC.out w5 rfl 0 p0 rfl
    rw [Nat.add_zero] at y0
    have hz0:(Pc.ba p0).size≤30000:=by rw [Pc.ba_size];exact HPW.out p0 (by rw [hP];simp)
    obtain ⟨q5,hq5⟩:∃ q5,ws.length=q5:=⟨_,rfl⟩
    have HQ5:Hid (ws.length=q5):=hq5
    have hnP:(Pc.pieces 32 l).length=q5+1:=by rw [hP,List.length_cons,hq5]
    rw [hnP] at hcap hpl5
    rw [hnP]
    have hq3:q5≤30000:=by omega
    have HG5:Hid (Gm w5 T lo st.m ak ck ax ct):=HG.out.below hB5
    have HF5:Hid (Fr (Fx T lo) w1 w5):=HF.out.trans (fx_below hB5)
    have HY1:Hid (wr.heap.size≤yb∧yb<w5.heap.size):=⟨hyW,hyb⟩
    have hlw5:xb<w5.heap.size:=Nat.lt_of_lt_of_le hlw hB5.size
    have HB5S:Hid (wr.heap.size≤w5.heap.size):=hB5.size
    have HBW5:Hid (Below wr.heap.size wr w5):=hB5
    have HNO:Hid (sLine st l=none→srdt s.data.toList ⟨zero,0⟩=none):=fun h=>by rw [HRT.out,HRD.out,HDR.out];exact srd_none h
    have HYES:Hid (∀ st',sLine st l=some st'→srd L ⟨zero,0⟩=srd (L.drop (k+1)) st'∧Ok st' (tot (k+1) L)):=fun st' h=>⟨by rw [HRD.out,HDR.out];exact srd_some h,by rw [HTS.out];exact sok_line HOK.out h⟩
    have HBX:Hid (∀ X:World,Fr (Fx T lo) w1 X→Below w.heap.size w X∧Wr X R 0 [.int .i64 0,.int .i64 0,.int .i64 0,.int .i64 0,.slice none 0 0,.slice none 0 0]):=fun X hX=>by
     obtain ⟨h1,h2,h3⟩:=HRW.out
     exact ⟨fx_bel hX (by omega) (by omega) HBW.out,fr_w (w0:=w) HBR.out hX (by omega) (by omega)⟩
    have hp0d:(Pc.ba p0).data.toList=p0:=Pc.ba_data p0
    have HP0D:Hid (type_of% hp0d):=hp0d
    have hRT:¬ R=T:=by have:=HRW.out;omega
    have hTR:¬ T=R:=fun e=>hRT e.symm
    have hcap1:q5+1≤cp2:=hcap
    clear hB5 his ho hyc hyW hnP hq5 hP hpl5 hll d hp0d hcap hyb
    have hybl:yb<w5.heap.size:=HY1.out.2
    by_cases hleft:0<lf
    ·
     rename_i z1 z2 z3 z4 z5 z6 z7 z8 z9 z10
     clear HARMB HARMC HARMD HEND
     revert HNN z1 W w1 cp xb xo L HRT n R T lo HBR HXB HNX HBW HRW HL1 HLN HTO HPM hn3 hs3 z2 z3 wr u3 u8 u9 u10 u11 u12 u13 u14 u15 u16 u17 u18 u19 u31 u32 u33 u34 u35 u36 u37 u38 u39 u40 u41 u42 u43 u44 u45 u46 u47 u48 u49 u50 u51 u52 u53 u54 u55 u56 u57 u58 u59 u60 u61 u62 u63 u64 u65 u66 u67 u68 u69 u70 u71 u72 u73 u74 u75 u76 u77 u78 u79 u80 u81 u82 u83 u84 u85 u86 u87 u88 u89 u90 u91 u92 u93 u94 u95 u96 u97 u98 u99 u100 u101 u102 u103 u104 u105 u106 u107 u108 u109 u110 u111 u112 u113 u114 u115 u116 u117 u118 u119 u120 u121 u122 u123 u124 u125 u126 u127 u128 u129 u130 u131 u132 u133 u134 u135 u136 u137 u138 u139 u140 u141 u142 u143 u144 u145 u146 u147 u148 u149 u150 u151 u152 u153 u154 u155 u156 u157 u158 u159 u160 u161 u162 u163 u164 u165 u166 u167 u168 u169 u170 u171 u172 u173 u174 u175 u176 u177 u178 u179 u180 u181 u182 u183 u184 u185 u186 u187 u188 u189 u190 u191 u192 u193 u194 u195 u196 u197 u198 u199 u200 u201 u202 u203 u204 u205 u206 u207 u208 k st ak ck ax ct hk HRD HOK HF HG HLF HSZ hlw lf HLE hl0 hl40 hlt HKL l HDR HTS HCL hbs HLD z4 z5 z6 z7 z8 z9 z10 w5 cp2 yb yo HPW p0 ws HP HYC y0 hz0 q5 HQ5 hq3 HG5 HF5 HY1 hlw5 HB5S HBW5 HNO HYES HBX HP0D hRT hTR hcap1 hybl hleft
     exact HARMA.out
    ·
     skip
     have hleft0:¬ 0<st.left:=by rw [HLE.out];exact hleft
     have HL0:Hid (type_of% hleft0):=hleft0
     have HEQ:Hid (∀ b:ByteArray,Pc.ba p0=b↔p0=b.data.toList):=fun b=>⟨fun e=>by rw [← e];exact HP0D.out.symm,fun e=>Mt.ba_ext (by rw [HP0D.out,e])⟩
     clear hleft0
     by_cases hwModel:Pc.ba p0=bwModel
     ·
      have eq_wModel:=Ls.tl_eq hwModel;rw [show (bwModel).toList=[109,111,100,101,108] by kernel_rfl] at eq_wModel
      have HW:Hid (p0=wModel):=(HEQ.out _).1 hwModel
      by_cases h4:q5=4
      ·
       rename_i z1 z2 z3 z4 z5 z6 z7 z8 z9 z10
       clear HARMA HARMC HARMD HEND
       revert HNN z1 W w1 cp xb xo L HRT n R T lo HBR HXB HNX HBW HRW HL1 HLN HTO HPM hn3 hs3 z2 z3 wr u3 u8 u9 u10 u11 u12 u13 u14 u15 u16 u17 u18 u19 u31 u32 u33 u34 u35 u36 u37 u38 u39 u40 u41 u42 u43 u44 u45 u46 u47 u48 u49 u50 u51 u52 u53 u54 u55 u56 u57 u58 u59 u60 u61 u62 u63 u64 u65 u66 u67 u68 u69 u70 u71 u72 u73 u74 u75 u76 u77 u78 u79 u80 u81 u82 u83 u84 u85 u86 u87 u88 u89 u90 u91 u92 u93 u94 u95 u96 u97 u98 u99 u100 u101 u102 u103 u104 u105 u106 u107 u108 u109 u110 u111 u112 u113 u114 u115 u116 u117 u118 u119 u120 u121 u122 u123 u124 u125 u126 u127 u128 u129 u130 u131 u132 u133 u134 u135 u136 u137 u138 u139 u140 u141 u142 u143 u144 u145 u146 u147 u148 u149 u150 u151 u152 u153 u154 u155 u156 u157 u158 u159 u160 u161 u162 u163 u164 u165 u166 u167 u168 u169 u170 u171 u172 u173 u174 u175 u176 u177 u178 u179 u180 u181 u182 u183 u184 u185 u186 u187 u188 u189 u190 u191 u192 u193 u194 u195 u196 u197 u198 u199 u200 u201 u202 u203 u204 u205 u206 u207 u208 k st ak ck ax ct hk HRD HOK HF HG HLF HSZ hlw lf HLE hl0 hl40 hlt HKL l HDR HTS HCL hbs HLD z4 z5 z6 z7 z8 z9 z10 w5 cp2 yb yo HPW p0 ws HP HYC y0 hz0 q5 HQ5 hq3 HG5 HF5 HY1 hlw5 HB5S HBW5 HNO HYES HBX HP0D hRT hTR hcap1 hybl hleft HL0 HEQ hwModel eq_wModel HW h4
       exact HARMB.out
      ·
       have hq4:(((q5+1:Nat):Int) == 5)=false:=by simp;omega
       have HSL:Hid (sLine st l=some st):=sl_same HL0.out HP.out (fun e=>h4 (by rw [← HQ5.out];exact e.2)) (fun e=>by have:=HW.out.symm.trans e.1;exact absurd this (by decide)) (fun e=>by have:=HW.out.symm.trans e;exact absurd this (by decide))
       have ne_wCtr:((Pc.ba p0).toList == [99,116,114])=false:=by rw [hwModel];decide +kernel
       have ne_wTree:((Pc.ba p0).toList == [116,114,101,101])=false:=by rw [hwModel];decide +kernel
       clear hwModel
       clear HARMA HARMB HARMC HARMD HEND
       go_wp2
       go_roundw
       case rel=>exact ⟨k+1,st,ak,ck,ax,ct,by omega,by go_num,by rw [HLE.out],HLF.out,HG5.out,(HYES.out st HSL.out).1,(HYES.out st HSL.out).2,HF5.out⟩
       case measure=>simp [intOf];omega
     have ne_wModel:=Ls.tl_ne hwModel;rw [show (bwModel).toList=[109,111,100,101,108] by kernel_rfl] at ne_wModel
     by_cases hwCtr:Pc.ba p0=bwCtr
     ·
      have eq_wCtr:=Ls.tl_eq hwCtr;rw [show (bwCtr).toList=[99,116,114] by kernel_rfl] at eq_wCtr
      have HW:Hid (p0=wCtr):=(HEQ.out _).1 hwCtr
      by_cases h1:q5=1
      ·
       rename_i z1 z2 z3 z4 z5 z6 z7 z8 z9 z10
       clear HARMA HARMB HARMD HEND
       revert HNN z1 W w1 cp xb xo L HRT n R T lo HBR HXB HNX HBW HRW HL1 HLN HTO HPM hn3 hs3 z2 z3 wr u3 u8 u9 u10 u11 u12 u13 u14 u15 u16 u17 u18 u19 u31 u32 u33 u34 u35 u36 u37 u38 u39 u40 u41 u42 u43 u44 u45 u46 u47 u48 u49 u50 u51 u52 u53 u54 u55 u56 u57 u58 u59 u60 u61 u62 u63 u64 u65 u66 u67 u68 u69 u70 u71 u72 u73 u74 u75 u76 u77 u78 u79 u80 u81 u82 u83 u84 u85 u86 u87 u88 u89 u90 u91 u92 u93 u94 u95 u96 u97 u98 u99 u100 u101 u102 u103 u104 u105 u106 u107 u108 u109 u110 u111 u112 u113 u114 u115 u116 u117 u118 u119 u120 u121 u122 u123 u124 u125 u126 u127 u128 u129 u130 u131 u132 u133 u134 u135 u136 u137 u138 u139 u140 u141 u142 u143 u144 u145 u146 u147 u148 u149 u150 u151 u152 u153 u154 u155 u156 u157 u158 u159 u160 u161 u162 u163 u164 u165 u166 u167 u168 u169 u170 u171 u172 u173 u174 u175 u176 u177 u178 u179 u180 u181 u182 u183 u184 u185 u186 u187 u188 u189 u190 u191 u192 u193 u194 u195 u196 u197 u198 u199 u200 u201 u202 u203 u204 u205 u206 u207 u208 k st ak ck ax ct hk HRD HOK HF HG HLF HSZ hlw lf HLE hl0 hl40 hlt HKL l HDR HTS HCL hbs HLD z4 z5 z6 z7 z8 z9 z10 w5 cp2 yb yo HPW p0 ws HP HYC y0 hz0 q5 HQ5 hq3 HG5 HF5 HY1 hlw5 HB5S HBW5 HNO HYES HBX HP0D hRT hTR hcap1 hybl hleft HL0 HEQ hwModel ne_wModel hwCtr eq_wCtr HW h1
       exact HARMC.out
      ·
       have hq1:(((q5+1:Nat):Int) == 2)=false:=by simp;omega
       have HSL:Hid (sLine st l=some st):=sl_same HL0.out HP.out (fun e=>by have:=HW.out.symm.trans e.1;exact absurd this (by decide)) (fun e=>h1 (by rw [← HQ5.out];exact e.2)) (fun e=>by have:=HW.out.symm.trans e;exact absurd this (by decide))
       have ne_wTree:((Pc.ba p0).toList == [116,114,101,101])=false:=by rw [hwCtr];decide +kernel
       clear hwCtr hwModel
       clear HARMA HARMB HARMC HARMD HEND
       go_wp2
       go_roundw
       case rel=>exact ⟨k+1,st,ak,ck,ax,ct,by omega,by go_num,by rw [HLE.out],HLF.out,HG5.out,(HYES.out st HSL.out).1,(HYES.out st HSL.out).2,HF5.out⟩
       case measure=>simp [intOf];omega
     have ne_wCtr:=Ls.tl_ne hwCtr;rw [show (bwCtr).toList=[99,116,114] by kernel_rfl] at ne_wCtr
     by_cases hwTree:Pc.ba p0=bwTree
     ·
      rename_i z1 z2 z3 z4 z5 z6 z7 z8 z9 z10
      clear HARMA HARMB HARMC HEND
      revert HNN z1 W w1 cp xb xo L HRT n R T lo HBR HXB HNX HBW HRW HL1 HLN HTO HPM hn3 hs3 z2 z3 wr u3 u8 u9 u10 u11 u12 u13 u14 u15 u16 u17 u18 u19 u31 u32 u33 u34 u35 u36 u37 u38 u39 u40 u41 u42 u43 u44 u45 u46 u47 u48 u49 u50 u51 u52 u53 u54 u55 u56 u57 u58 u59 u60 u61 u62 u63 u64 u65 u66 u67 u68 u69 u70 u71 u72 u73 u74 u75 u76 u77 u78 u79 u80 u81 u82 u83 u84 u85 u86 u87 u88 u89 u90 u91 u92 u93 u94 u95 u96 u97 u98 u99 u100 u101 u102 u103 u104 u105 u106 u107 u108 u109 u110 u111 u112 u113 u114 u115 u116 u117 u118 u119 u120 u121 u122 u123 u124 u125 u126 u127 u128 u129 u130 u131 u132 u133 u134 u135 u136 u137 u138 u139 u140 u141 u142 u143 u144 u145 u146 u147 u148 u149 u150 u151 u152 u153 u154 u155 u156 u157 u158 u159 u160 u161 u162 u163 u164 u165 u166 u167 u168 u169 u170 u171 u172 u173 u174 u175 u176 u177 u178 u179 u180 u181 u182 u183 u184 u185 u186 u187 u188 u189 u190 u191 u192 u193 u194 u195 u196 u197 u198 u199 u200 u201 u202 u203 u204 u205 u206 u207 u208 k st ak ck ax ct hk HRD HOK HF HG HLF HSZ hlw lf HLE hl0 hl40 hlt HKL l HDR HTS HCL hbs HLD z4 z5 z6 z7 z8 z9 z10 w5 cp2 yb yo HPW p0 ws HP HYC y0 hz0 q5 HQ5 hq3 HG5 HF5 HY1 hlw5 HB5S HBW5 HNO HYES HBX HP0D hRT hTR hcap1 hybl hleft HL0 HEQ hwModel ne_wModel hwCtr ne_wCtr hwTree
      exact HARMD.out
     have ne_wTree:=Ls.tl_ne hwTree;rw [show (bwTree).toList=[116,114,101,101] by kernel_rfl] at ne_wTree
     have HSL:Hid (sLine st l=some st):=sl_same HL0.out HP.out (fun e=>hwModel ((HEQ.out _).2 e.1)) (fun e=>hwCtr ((HEQ.out _).2 e.1)) (fun e=>hwTree ((HEQ.out _).2 e))
     clear hwModel hwCtr hwTree
     clear HARMA HARMB HARMC HARMD HEND
     go_wp2
     go_roundw
     case rel=>exact ⟨k+1,st,ak,ck,ax,ct,by omega,by go_num,by rw [HLE.out],HLF.out,HG5.out,(HYES.out st HSL.out).1,(HYES.out st HSL.out).2,HF5.out⟩
     case measure=>simp [intOf];omega
   ·
    rename_i z1 z2 z3
    clear HARMA HARMB HARMC HARMD
    revert HNN z1 W w1 cp xb xo L HRT n R T lo HBR HXB HNX HBW HRW HL1 HLN HTO HPM hn3 hs3 z2 z3 wr u3 u8 u9 u10 u11 u12 u13 u14 u15 u16 u17 u18 u19 u31 u32 u33 u34 u35 u36 u37 u38 u39 u40 u41 u42 u43 u44 u45 u46 u47 u48 u49 u50 u51 u52 u53 u54 u55 u56 u57 u58 u59 u60 u61 u62 u63 u64 u65 u66 u67 u68 u69 u70 u71 u72 u73 u74 u75 u76 u77 u78 u79 u80 u81 u82 u83 u84 u85 u86 u87 u88 u89 u90 u91 u92 u93 u94 u95 u96 u97 u98 u99 u100 u101 u102 u103 u104 u105 u106 u107 u108 u109 u110 u111 u112 u113 u114 u115 u116 u117 u118 u119 u120 u121 u122 u123 u124 u125 u126 u127 u128 u129 u130 u131 u132 u133 u134 u135 u136 u137 u138 u139 u140 u141 u142 u143 u144 u145 u146 u147 u148 u149 u150 u151 u152 u153 u154 u155 u156 u157 u158 u159 u160 u161 u162 u163 u164 u165 u166 u167 u168 u169 u170 u171 u172 u173 u174 u175 u176 u177 u178 u179 u180 u181 u182 u183 u184 u185 u186 u187 u188 u189 u190 u191 u192 u193 u194 u195 u196 u197 u198 u199 u200 u201 u202 u203 u204 u205 u206 u207 u208 k st ak ck ax ct hk hf HRD HOK HF HG HLF HSZ hlw lf HLE hl0 hl40 hlt
    exact HEND.out
set_option maxHeartbeats 8000000 in
theorem smARMA (w:World) (s:ByteArray):smB.1 w s:=by
 intro HNN z1 W w1 cp xb xo L HRT n R T lo HBR HXB HNX HBW HRW HL1 HLN HTO HPM hn3 hs3 z2 z3 wr u3 u8 u9 u10 u11 u12 u13 u14 u15 u16 u17 u18 u19 u31 u32 u33 u34 u35 u36 u37 u38 u39 u40 u41 u42 u43 u44 u45 u46 u47 u48 u49 u50 u51 u52 u53 u54 u55 u56 u57 u58 u59 u60 u61 u62 u63 u64 u65 u66 u67 u68 u69 u70 u71 u72 u73 u74 u75 u76 u77 u78 u79 u80 u81 u82 u83 u84 u85 u86 u87 u88 u89 u90 u91 u92 u93 u94 u95 u96 u97 u98 u99 u100 u101 u102 u103 u104 u105 u106 u107 u108 u109 u110 u111 u112 u113 u114 u115 u116 u117 u118 u119 u120 u121 u122 u123 u124 u125 u126 u127 u128 u129 u130 u131 u132 u133 u134 u135 u136 u137 u138 u139 u140 u141 u142 u143 u144 u145 u146 u147 u148 u149 u150 u151 u152 u153 u154 u155 u156 u157 u158 u159 u160 u161 u162 u163 u164 u165 u166 u167 u168 u169 u170 u171 u172 u173 u174 u175 u176 u177 u178 u179 u180 u181 u182 u183 u184 u185 u186 u187 u188 u189 u190 u191 u192 u193 u194 u195 u196 u197 u198 u199 u200 u201 u202 u203 u204 u205 u206 u207 u208 k st ak ck ax ct hk HRD HOK HF HG HLF HSZ hlw lf HLE hl0 hl40 hlt HKL l HDR HTS HCL hbs HLD z4 z5 z6 z7 z8 z9 z10 w5 cp2 yb yo HPW p0 ws HP HYC y0 hz0 q5 HQ5 hq3 HG5 HF5 HY1 hlw5 HB5S HBW5 HNO HYES HBX HP0D hRT hTR hcap1 hybl hleft
 have HLT:Hid (0<st.left):=by show _<_;rw [HLE.out];exact hleft
 have HSW:Hid (sLine st l=(match snum p0 with
   | none=>none
   | some v=>if l.length<p0.length+1 then none else some ⟨⟨st.m.n,st.m.c,st.m.prior,st.m.base,addW st.m.ks ⟨(l.drop (p0.length+1)).toArray⟩ v,st.m.ts⟩,st.left-1⟩)):=sl_word HLT.out HP.out
 go_wp2_with fail
 refine (snumc w5 (Pc.ba p0) (by omega)).mono ?_
 rintro e w6 ⟨he,hB6⟩
 rw [HP0D.out] at he
 have HG6:Hid (Gm w6 T lo st.m ak ck ax ct):=HG5.out.below hB6
 have HF6:Hid (Fr (Fx T lo) w1 w6):=HF5.out.trans (fx_below hB6)
 have HYB6:Hid (w6.heap[yb]? = w5.heap[yb]?):=hB6.block yb hybl
 have HBW6:Hid (Below wr.heap.size wr w6):=HBW5.out.trans (hB6.mono HBW5.out.size)
 have hyl6:yb<w6.heap.size:=Nat.lt_of_lt_of_le hybl hB6.size
 have hxl6:xb<w6.heap.size:=Nat.lt_of_lt_of_le hlw5 hB6.size
 clear hB6 y0
 rcases he with ⟨v,hv,v0,v1,rfl⟩ | ⟨hv,v,rfl⟩
 rotate_left
 ·
  have HNN2:Hid (srdt s.data.toList ⟨zero,0⟩=none):=HNO.out (by rw [HSW.out,hv])
  have hBX:=HBX.out w6 HF6.out
  have y0:=HYC.out w6 HYB6.out 0 p0 rfl
  rw [Nat.add_zero] at y0
  have hx0:=HCL.out w6 HF6.out
  clear hv hBX
  go_wp2_with fail
  go_big_quiet (fail)
  obtain ⟨w7,hw7⟩:∃ w7,w6.drewN nq=w7:=⟨_,rfl⟩
  have hb7:Below w6.heap.size w6 w7:=by rw [← hw7];exact ⟨rfl,rfl,rfl,Nat.le_refl _,fun _ _=>rfl⟩
  rw [hw7]
  have hBX:=HBX.out w7 (HF6.out.trans (fx_below hb7))
  clear hw7 hb7
  obtain ⟨hrl,⟨r0,r1,r2,r3,r4,r5⟩,f0,f1,f2,f3,f4,f5⟩:=wr6 hBX.2
  have HBB:Hid (Below w.heap.size w w7):=hBX.1
  clear hBX
  go_wp2
  refine bodyPost_ret (v:=.tuple #[.agg #[.int .i64 0,.int .i64 0,.int .i64 0,.int .i64 0,.slice none 0 0,.slice none 0 0],.bool false]) (by rw [results_ct rfl];go_simp) rfl (sans_no HNN2.out ?_)
  exact (bel6 HBB.out HRW.out.1 _ _ _ _ _ _)
 ·
  have HSV:Hid (sLine st l=if l.length<p0.length+1 then none else some ⟨⟨st.m.n,st.m.c,st.m.prior,st.m.base,addW st.m.ks ⟨(l.drop (p0.length+1)).toArray⟩ v,st.m.ts⟩,st.left-1⟩):=by show _=_;rw [HSW.out,hv]
  have y0:=HYC.out w6 HYB6.out 0 p0 rfl
  rw [Nat.add_zero] at y0
  have hx0:=HCL.out w6 HF6.out
  obtain ⟨ps,hps⟩:∃ ps,(Pc.ba p0).size=ps:=⟨_,rfl⟩
  obtain ⟨lz,hlz⟩:∃ lz,(Pc.ba l).size=lz:=⟨_,rfl⟩
  have HPS:Hid ((Pc.ba p0).size=ps∧p0.length=ps):=⟨hps,by rw [← hps,Pc.ba_size]⟩
  have HLZ:Hid ((Pc.ba l).size=lz∧l.length=lz):=⟨hlz,by rw [← hlz,Pc.ba_size]⟩
  rw [hps] at hz0
  rw [hlz] at hbs
  have hw1:IntKind.i64.wrap ((ps:Int)+1)=(ps:Int)+1:=by rw [IntKind.wrap_i64];omega
  clear hv
  by_cases hsh:lz<ps+1
  ·
   have HNN2:Hid (srdt s.data.toList ⟨zero,0⟩=none):=HNO.out (by rw [HSV.out,if_pos (by rw [HPS.out.2,HLZ.out.2];exact hsh)])
   have hBX:=HBX.out w6 HF6.out
   have hsi:(lz:Int)<(ps:Int)+1:=by omega
   clear hBX
   go_wp2_with fail
   go_big_quiet (fail)
   obtain ⟨w7,hw7⟩:∃ w7,w6.drewN nq=w7:=⟨_,rfl⟩
   have hb7:Below w6.heap.size w6 w7:=by rw [← hw7];exact ⟨rfl,rfl,rfl,Nat.le_refl _,fun _ _=>rfl⟩
   rw [hw7]
   have hBX:=HBX.out w7 (HF6.out.trans (fx_below hb7))
   clear hw7 hb7
   obtain ⟨hrl,⟨r0,r1,r2,r3,r4,r5⟩,f0,f1,f2,f3,f4,f5⟩:=wr6 hBX.2
   have HBB:Hid (Below w.heap.size w w7):=hBX.1
   clear hBX
   go_wp2
   refine bodyPost_ret (v:=.tuple #[.agg #[.int .i64 0,.int .i64 0,.int .i64 0,.int .i64 0,.slice none 0 0,.slice none 0 0],.bool false]) (by rw [results_ct rfl];go_simp) rfl (sans_no HNN2.out ?_)
   exact (bel6 HBB.out HRW.out.1 _ _ _ _ _ _)
  ·
   have HSL:Hid (sLine st l=some ⟨⟨st.m.n,st.m.c,st.m.prior,st.m.base,addW st.m.ks ⟨(l.drop (p0.length+1)).toArray⟩ v,st.m.ts⟩,st.left-1⟩):=by show _=_;rw [HSV.out,if_neg (by rw [HPS.out.2,HLZ.out.2];exact hsh)]
   have hsi:¬ (lz:Int)<(ps:Int)+1:=by omega
   go_wp2_with fail
   go_big_quiet (fail)
   obtain ⟨w7,hw7⟩:∃ w7,w6.drewN nq=w7:=⟨_,rfl⟩
   have hb7:Below w6.heap.size w6 w7:=by rw [← hw7];exact ⟨rfl,rfl,rfl,Nat.le_refl _,fun _ _=>rfl⟩
   rw [hw7]
   have HG7:Hid (Gm w7 T lo st.m ak ck ax ct):=HG6.out.below hb7
   have HF7:Hid (Fr (Fx T lo) w1 w7):=HF6.out.trans (fx_below hb7)
   have HYB7:Hid (w7.heap[yb]? = w5.heap[yb]?):=(hb7.block yb hyl6).trans HYB6.out
   have hyl7:yb<w7.heap.size:=Nat.lt_of_lt_of_le hyl6 hb7.size
   have hxl7:xb<w7.heap.size:=Nat.lt_of_lt_of_le hxl6 hb7.size
   have HBW7:Hid (Below wr.heap.size wr w7):=HBW6.out.trans (hb7.mono HBW6.out.size)
   have HLO7:Hid (wr.heap.size≤w7.heap.size):=by have h1:=HB5S.out;have h2:=HY1.out;show _≤_;omega
   clear hw7 hb7 y0 hx0 HYB6 HG6 HF6 hyl6 hxl6
   obtain ⟨q,hq⟩:∃ q,q+1=st.m.ks.length:=⟨st.m.ks.length-1,by have:=HOK.out.2 HLT.out;omega⟩
   have hql:q<st.m.ks.length:=by omega
   have HKW:Hid (st.m.ks[q].ws.length≤1000000∧st.m.ks[q].vs.length≤1000000):=by have h1:=Kt.ksz_at st.m.ks q hql;have h2:=HSZ.out;unfold M.sz at h2;exact ⟨by omega,by omega⟩
   obtain ⟨g,a1,c1,rfl,d1,f1,o1,hgl,hlg,hkn,hstep⟩:=gm_w1 HG7.out q hql
   obtain ⟨htl,⟨x0,x1,x2,x3,t4,x5⟩,_⟩:=wr6 HG7.out.bx
   clear x0 x1 x2 x3 x5
   have HADD:Hid (∀ r hq',_):=fun r hq'=>addw1 hql hq r v hq'
   have HGT:Hid (¬ g=T):=by have:=HG7.out.bl;show ¬ _;omega
   have HGY:Hid (¬ g=yb):=fun e=>by obtain ⟨_,h0,_⟩:=HG.out.om;have h1:=h0.lt g rfl;have h2:=HY1.out.1;omega
   have HGL:Hid (type_of% hgl):=hgl
   have HKN:Hid (type_of% hkn):=hkn
   have HST:Hid (type_of% hstep):=hstep
   have HO:Hid (type_of% o1):=o1
   have HD1:Hid (type_of% d1):=d1
   have HF1:Hid (type_of% f1):=f1
   have HQ:Hid (q+1=st.m.ks.length):=hq
   obtain ⟨nk,hnk⟩:∃ nk,st.m.ks.length=nk:=⟨_,rfl⟩
   have HNK:Hid (st.m.ks.length=nk):=hnk
   rw [hnk] at t4 hq hql
   have HT4:Hid (type_of% t4):=t4
   have hw8:IntKind.i64.wrap ((nk:Int)-1)=(q:Int):=by
    have:(nk:Int)-1=q:=by omega
    rw [this,IntKind.wrap_i64];have:=HKW.out;have h2:=HSZ.out;unfold M.sz at h2;omega
   have hq0:(q:Int)<nk:=by omega
   obtain ⟨nv,hnv⟩:∃ nv,(st.m.ks[q]'(by have:=HQ.out;omega)).vs.length=nv:=⟨_,rfl⟩
   have HNV:Hid ((st.m.ks[q]'(by have:=HQ.out;omega)).vs.length=nv):=hnv
   rw [hnv] at HST HKN HO HD1 HKW
   have HSX:Hid (∀ X:World,Below w7.heap.size w7 X→X.cell? ⟨T,4,none⟩=some (.slice (some ⟨g,0,none⟩) nk ck)∧X.cell? ⟨g,q * 2+1,none⟩=some (.slice a1 nv c1)):=fun X hX=>⟨(hX.cell (p:=⟨T,4,none⟩) htl).trans HT4.out,(hX.cell (p:=⟨g,q * 2+1,none⟩) HGL.out).trans HD1.out⟩
   have htl7:=htl
   have HOB:Hid (type_of% (old_blocks HG.out (by have:=HQ.out;omega:q<st.m.ks.length) rfl (HBW7.out.block g (by obtain ⟨_,h0,_⟩:=HG.out.om;exact h0.lt g rfl)))):=old_blocks HG.out (by have:=HQ.out;omega:q<st.m.ks.length) rfl (HBW7.out.block g (by obtain ⟨_,h0,_⟩:=HG.out.om;exact h0.lt g rfl))
   have HKY:Hid (∀ y,(Value.slice a1 nv c1).ownBlock=some y→¬ y=yb):=fun y e e2=>by
    have h1:=HOB.out.2.1 a1 nv c1 HD1.out y e
    have h2:=HY1.out.1
    omega
   clear hq d1 f1 o1 hkn hstep hnk hnv
   go_wp2_with fail
   have st0:Below w7.heap.size w7 w7.drew:=(Below.refl _ _).drew
   have hS:=HSX.out _ st0
   refine Hd.start (fun X=>X.cell? ⟨T,4,none⟩=some (.slice (some ⟨g,0,none⟩) nk ck)∧X.cell? ⟨g,q * 2+1,none⟩=some (.slice a1 nv c1)) 14 (by kernel_rfl) ?_
   generalize w7.drew=w0 at st0 hS ⊢
   refine Hd.After.pureD (i:=0) (some 72) (.pointer (some ⟨T,4,none⟩)) rfl rfl (by kernel_rfl) (by decide) (by kernel_rfl) (by kernel_rfl) (fun _ _ _ h=>h) (hS) (Or.inl ⟨by rfl,?_⟩) ?_
   ·
    intro X;go_simp;try with_reducible rfl
   (first | simp only [Act.put,List.setIfInBounds_toArray,List.set_cons_zero,List.set_cons_succ] | skip)
   refine Hd.After.takeD (i:=1) (some 73) (.slice (some ⟨g,0,none⟩) nk ck) rfl rfl (by kernel_rfl) (by kernel_rfl) (by kernel_rfl) (by kernel_rfl) (by kernel_rfl) (fun _ _ _ h=>h) (hS) (Or.inl ⟨by rfl,?_⟩) ?_
   ·
    rintro X ⟨s0,s1⟩;go_simp;try with_reducible rfl
   (first | simp only [Act.put,List.setIfInBounds_toArray,List.set_cons_zero,List.set_cons_succ] | skip)
   refine Hd.After.pureD (i:=2) (some 74) (.int .i64 q) rfl rfl (by kernel_rfl) (by decide) (by kernel_rfl) (by kernel_rfl) (fun _ _ _ h=>h) (hS) (Or.inl ⟨by rfl,?_⟩) ?_
   ·
    intro X;go_simp;try with_reducible rfl
   (first | simp only [Act.put,List.setIfInBounds_toArray,List.set_cons_zero,List.set_cons_succ] | skip)
   refine Hd.After.pureD (i:=3) (some 75) (.pointer (some ⟨T,4,none⟩)) rfl rfl (by kernel_rfl) (by decide) (by kernel_rfl) (by kernel_rfl) (fun _ _ _ h=>h) (hS) (Or.inl ⟨by rfl,?_⟩) ?_
   ·
    intro X;go_simp;try with_reducible rfl
   (first | simp only [Act.put,List.setIfInBounds_toArray,List.set_cons_zero,List.set_cons_succ] | skip)
   refine Hd.After.takeD (i:=4) (some 76) (.slice (some ⟨g,0,none⟩) nk ck) rfl rfl (by kernel_rfl) (by kernel_rfl) (by kernel_rfl) (by kernel_rfl) (by kernel_rfl) (fun _ _ _ h=>h) (hS) (Or.inl ⟨by rfl,?_⟩) ?_
   ·
    rintro X ⟨s0,s1⟩;go_simp;try with_reducible rfl
   (first | simp only [Act.put,List.setIfInBounds_toArray,List.set_cons_zero,List.set_cons_succ] | skip)
   refine Hd.After.pureD (i:=5) (some 77) (.int .i64 q) rfl rfl (by kernel_rfl) (by decide) (by kernel_rfl) (by kernel_rfl) (fun _ _ _ h=>h) (hS) (Or.inl ⟨by rfl,?_⟩) ?_
   ·
    intro X;go_simp;try with_reducible rfl
   (first | simp only [Act.put,List.setIfInBounds_toArray,List.set_cons_zero,List.set_cons_succ] | skip)
   refine Hd.After.pureD (i:=6) (some 78) (.pointer (some ⟨g,q * 2,none⟩)) rfl rfl (by kernel_rfl) (by decide) (by kernel_rfl) (by kernel_rfl) (fun _ _ _ h=>h) (hS) (Or.inl ⟨by rfl,?_⟩) ?_
   ·
    intro X;go_simp;try with_reducible rfl
   (first | simp only [Act.put,List.setIfInBounds_toArray,List.set_cons_zero,List.set_cons_succ] | skip)
   refine Hd.After.pureD (i:=7) (some 79) (.pointer (some ⟨g,q * 2+1,none⟩)) rfl rfl (by kernel_rfl) (by decide) (by kernel_rfl) (by kernel_rfl) (fun _ _ _ h=>h) (hS) (Or.inl ⟨by rfl,?_⟩) ?_
   ·
    intro X;go_simp;try with_reducible rfl
   (first | simp only [Act.put,List.setIfInBounds_toArray,List.set_cons_zero,List.set_cons_succ] | skip)
   refine Hd.After.takeD (i:=8) (some 80) (.slice a1 nv c1) rfl rfl (by kernel_rfl) (by kernel_rfl) (by kernel_rfl) (by kernel_rfl) (by kernel_rfl) (fun _ _ _ h=>h) (hS) (Or.inl ⟨by rfl,?_⟩) ?_
   ·
    rintro X ⟨s0,s1⟩;go_simp;try with_reducible rfl
   (first | simp only [Act.put,List.setIfInBounds_toArray,List.set_cons_zero,List.set_cons_succ] | skip)
   refine Hd.After.pureD (i:=9) (some 81) (.int .i64 v) rfl rfl (by kernel_rfl) (by decide) (by kernel_rfl) (by kernel_rfl) (fun _ _ _ h=>h) (hS) (Or.inl ⟨by rfl,?_⟩) ?_
   ·
    intro X;go_simp;try with_reducible rfl
   (first | simp only [Act.put,List.setIfInBounds_toArray,List.set_cons_zero,List.set_cons_succ] | skip)
   have hA:Below w0.heap.size w0 (w0.alloc (.cells #[.int .i64 v] 3)):=(Below.refl _ _).alloc (Nat.le_refl _) _
   have st4:=st0.trans (hA.mono st0.size)
   refine Hd.After.one (i:=10) (by kernel_rfl) rfl rfl ?_
   intro K hK
   go_simp
   refine hK _ _ (fun _=>HSX.out _ st4) ?_
   clear hK K
   (first | simp only [Act.put,List.setIfInBounds_toArray,List.set_cons_zero,List.set_cons_succ] | skip)
   refine Hd.After.one (i:=11) (by kernel_rfl) rfl rfl ?_
   intro K hK
   refine wp_snocI _ _ rfl (some 83) rfl a1 nv c1 w0.heap.size _ HNV.out rfl rfl (HO.out.below st4) v (by simp) (by have:=HKW.out;omega) ?_
   intro a5 c5 w8 hok5 hg5 hat5
   have HG8:Hid (Gm (w8.setCell ⟨g,q * 2+1,none⟩ (.slice a5 (nv+1) c5)) T lo _ (some ⟨g,0,none⟩) ck ax ct∧Fr (Fx T lo) w7 (w8.setCell ⟨g,q * 2+1,none⟩ (.slice a5 (nv+1) c5))):=HST.out _ w8 _ _ st4 hok5 hg5 hat5
   have hb8:w8.heap[g]? = w7.heap[g]?:=(hg5.block g (Nat.lt_of_lt_of_le HGL.out st4.size) (fun e=>(HKN.out g e.symm).2 rfl)).trans (st4.block g HGL.out)
   have ht8:w8.heap[T]? = w7.heap[T]?:=(hg5.block T (Nat.lt_of_lt_of_le htl7 st4.size) (fun e=>by have h1:=(HKN.out T e.symm).1;have h2:=HG7.out.bl;omega)).trans (st4.block T htl7)
   have HY8:Hid (w8.heap[yb]? = w5.heap[yb]?):=((hg5.block yb (Nat.lt_of_lt_of_le hyl7 st4.size) (fun e=>HKY.out yb e.symm rfl)).trans (st4.block yb hyl7)).trans HYB7.out
   have hyl8:yb<w8.heap.size:=Nat.lt_of_lt_of_le hyl7 (Nat.le_trans st4.size hg5.size)
   have z0:w8.cell? ⟨g,q * 2+1,none⟩=some (.slice a1 nv c1):=(World.cell?_of_block (a:=⟨g,q * 2+1,none⟩) hb8).trans HD1.out
   have z1:w8.frozen? ⟨g,q * 2+1,none⟩=false:=(World.frozen?_of_block (a:=⟨g,q * 2+1,none⟩) hb8).trans HF1.out
   have z2:g<w8.heap.size:=Nat.lt_of_lt_of_le HGL.out (Nat.le_trans st4.size hg5.size)
   have z4:w8.cell? ⟨T,4,none⟩=some (.slice (some ⟨g,0,none⟩) nk ck):=(World.cell?_of_block (a:=⟨T,4,none⟩) ht8).trans HT4.out
   have HB8:Hid (w8.heap[g]? = w7.heap[g]?):=hb8
   clear hok5 hg5 hat5 hb8 ht8
   refine hK _ _ (fun _=>⟨z4,z0⟩) ?_
   clear hK K
   (first | simp only [Act.put,List.setIfInBounds_toArray,List.set_cons_zero,List.set_cons_succ] | skip)
   refine Hd.After.pureD (i:=12) (some 84) (.pointer (some ⟨g,q * 2,none⟩)) rfl rfl (by kernel_rfl) (by decide) (by kernel_rfl) (by kernel_rfl) (fun _ _ _ h=>h) (⟨z4,z0⟩) (Or.inl ⟨by rfl,?_⟩) ?_
   ·
    intro X;go_simp;try with_reducible rfl
   (first | simp only [Act.put,List.setIfInBounds_toArray,List.set_cons_zero,List.set_cons_succ] | skip)
   refine Hd.After.pureD (i:=13) (some 85) (.pointer (some ⟨g,q * 2+1,none⟩)) rfl rfl (by kernel_rfl) (by decide) (by kernel_rfl) (by kernel_rfl) (fun _ _ _ h=>h) (⟨z4,z0⟩) (Or.inl ⟨by rfl,?_⟩) ?_
   ·
    intro X;go_simp;try with_reducible rfl
   (first | simp only [Act.put,List.setIfInBounds_toArray,List.set_cons_zero,List.set_cons_succ] | skip)
   refine Hd.After.one (i:=14) (by kernel_rfl) rfl rfl ?_
   intro K hK
   go_simp
   refine hK _ _ (fun h=>by cases h) ?_
   clear hK K
   refine Hd.After.done (by kernel_rfl) ?_ _
   have HLQ:Hid (q<(mK st.m (st.m.ks.set q ⟨(st.m.ks[q]'(by have:=HQ.out;omega)).ws,(st.m.ks[q]'(by have:=HQ.out;omega)).vs ++ [v]⟩)).ks.length):=by show _<_;simp [mK];have:=HQ.out;omega
   have HE:Hid (∀ r:ByteArray,mK (mK st.m (st.m.ks.set q ⟨(st.m.ks[q]'(by have:=HQ.out;omega)).ws,(st.m.ks[q]'(by have:=HQ.out;omega)).vs ++ [v]⟩)) ((mK st.m (st.m.ks.set q ⟨(st.m.ks[q]'(by have:=HQ.out;omega)).ws,(st.m.ks[q]'(by have:=HQ.out;omega)).vs ++ [v]⟩)).ks.set q ⟨((mK st.m (st.m.ks.set q ⟨(st.m.ks[q]'(by have:=HQ.out;omega)).ws,(st.m.ks[q]'(by have:=HQ.out;omega)).vs ++ [v]⟩)).ks[q]'HLQ.out).ws ++ [r],((mK st.m (st.m.ks.set q ⟨(st.m.ks[q]'(by have:=HQ.out;omega)).ws,(st.m.ks[q]'(by have:=HQ.out;omega)).vs ++ [v]⟩)).ks[q]'HLQ.out).vs⟩)=⟨st.m.n,st.m.c,st.m.prior,st.m.base,addW st.m.ks r v,st.m.ts⟩):=fun r=>by
    have h1:=HADD.out r HLQ.out
    exact congrArg (fun x=>(⟨st.m.n,st.m.c,st.m.prior,st.m.base,x,st.m.ts⟩:M)) h1
   have HWB:Hid (((mK st.m (st.m.ks.set q ⟨(st.m.ks[q]'(by have:=HQ.out;omega)).ws,(st.m.ks[q]'(by have:=HQ.out;omega)).vs ++ [v]⟩)).ks[q]'HLQ.out).ws.length≤1000000):=by have:=HKW.out.1;show _≤_;simpa [mK] using this
   have HK1:Hid ((mK st.m (st.m.ks.set q ⟨(st.m.ks[q]'(by have:=HQ.out;omega)).ws,(st.m.ks[q]'(by have:=HQ.out;omega)).vs ++ [v]⟩)).ks.length=nk):=by show _=_;simp only [mK,List.length_set];exact HNK.out
   have HY9:Hid ((w8.setCell ⟨g,q * 2+1,none⟩ (.slice a5 (nv+1) c5)).heap[yb]? = w5.heap[yb]?):=((Li.grown_set w8 g (q * 2+1) _).block yb hyl8 (fun e=>HGY.out (by injection e with e;exact e.symm))).trans HY8.out
   have hyl9:yb<(w8.setCell ⟨g,q * 2+1,none⟩ (.slice a5 (nv+1) c5)).heap.size:=by simpa [World.setCell] using hyl8
   have HC9:Hid ((w8.setCell ⟨g,q * 2+1,none⟩ (.slice a5 (nv+1) c5)).cell? ⟨g,q * 2,none⟩=w7.cell? ⟨g,q * 2,none⟩):=by
    show _=_
    rw [World.cell?_setCell_other _ _ _ _ (by intro e;injection e with _ e;omega)]
    exact World.cell?_of_block (a:=⟨g,q * 2,none⟩) HB8.out
   clear hS st0 st4 hA z0 z1 z2 z4 HSX HST HKN HO HD1 HF1 HADD
   generalize mK st.m (st.m.ks.set q ⟨(st.m.ks[q]'(by have:=HQ.out;omega)).ws,(st.m.ks[q]'(by have:=HQ.out;omega)).vs ++ [v]⟩)=m1 at HG8 HLQ HE HWB HK1
   generalize w8.setCell ⟨g,q * 2+1,none⟩ (.slice a5 (nv+1) c5)=w9 at HG8 HY9 hyl9 HC9 ⊢
   obtain ⟨g',a2,c2,e',d2,f2,o2,hgl9,hlg9,hkn2,hstep2⟩:=gm_w0 HG8.out.1 q HLQ.out
   injection e' with e'
   injection e' with e' _ _
   subst e'
   obtain ⟨htl9,⟨_,_,_,_,t9,_⟩,_⟩:=wr6 HG8.out.1.bx
   rw [HK1.out] at t9
   have HF9:Hid (Fr (Fx T lo) w1 w9):=HF7.out.trans HG8.out.2
   have hx9:=HCL.out w9 HF9.out
   have hxl9:xb<w9.heap.size:=Nat.lt_of_lt_of_le hxl7 HG8.out.2.size
   have y9:=HYC.out w9 HY9.out 0 p0 rfl
   rw [Nat.add_zero] at y9
   have HO2:Hid (type_of% o2):=o2
   have HD2:Hid (type_of% d2):=d2
   have HF2:Hid (type_of% f2):=f2
   have HST2:Hid (type_of% hstep2):=hstep2
   have HKN2:Hid (type_of% hkn2):=hkn2
   have HGL9:Hid (type_of% hgl9):=hgl9
   obtain ⟨nw,hnw⟩:∃ nw,(m1.ks[q]'HLQ.out).ws.length=nw:=⟨_,rfl⟩
   have HNW:Hid ((m1.ks[q]'HLQ.out).ws.length=nw):=hnw
   rw [hnw] at HO2 HD2 HST2 HKN2 HWB
   have HKY2:Hid (∀ y,(Value.slice a2 nw c2).ownBlock=some y→¬ y=yb):=fun y e e2=>by
    have h1:=HOB.out.2.2 a2 nw c2 (HC9.out.symm.trans HD2.out) y e
    have h2:=HY1.out.1
    omega
   have HSX:Hid (∀ X:World,Below w9.heap.size w9 X→X.cell? ⟨T,4,none⟩=some (.slice (some ⟨g,0,none⟩) nk ck)∧X.cell? ⟨g,q * 2,none⟩=some (.slice a2 nw c2)∧X.cell? ⟨xb,xo+k,none⟩=some (.string (Pc.ba l))∧X.cell? ⟨yb,yo,none⟩=some (.string (Pc.ba p0))):=fun X hX=>⟨(hX.cell (p:=⟨T,4,none⟩) htl9).trans t9,(hX.cell (p:=⟨g,q * 2,none⟩) HGL9.out).trans HD2.out,(hX.cell (p:=⟨xb,xo+k,none⟩) hxl9).trans hx9,(hX.cell (p:=⟨yb,yo,none⟩) hyl9).trans y9⟩
   have HRX:Hid ((Pc.ba l).extract (ps+1) lz=⟨(l.drop (p0.length+1)).toArray⟩):=by
    show _=_
    rw [Sp.ext_eq,HLD.out,HPS.out.2,← HLZ.out.2,List.take_of_length_le (by rw [List.length_drop];omega)]
    rfl
   obtain ⟨rx,hrx⟩:∃ rx,(Pc.ba l).extract (ps+1) lz=rx:=⟨_,rfl⟩
   have HRR:Hid ((Pc.ba l).extract (ps+1) lz=rx):=hrx
   have hpl:(ps:Int)+1≤(lz:Int):=by omega
   have hp0':(0:Int)≤(ps:Int)+1:=by omega
   have hpt:((ps:Int)+1).toNat=ps+1:=by omega
   have hsz1:=HPS.out.1
   have hsz2:=HLZ.out.1
   have HT9:Hid (type_of% t9):=t9
   have HX9:Hid (type_of% hx9):=hx9
   have HYY9:Hid (type_of% y9):=y9
   clear d2 f2 o2 hkn2 hstep2 hnw hrx t9 hx9 y9
   go_wp2_with fail
   have st0:Below w9.heap.size w9 w9.drew:=(Below.refl _ _).drew
   have hS:=HSX.out _ st0
   refine Hd.start (fun X=>X.cell? ⟨T,4,none⟩=some (.slice (some ⟨g,0,none⟩) nk ck)∧X.cell? ⟨g,q * 2,none⟩=some (.slice a2 nw c2)∧X.cell? ⟨xb,xo+k,none⟩=some (.string (Pc.ba l))∧X.cell? ⟨yb,yo,none⟩=some (.string (Pc.ba p0))) 23 (by kernel_rfl) ?_
   generalize w9.drew=w0 at st0 hS ⊢
   refine Hd.After.pureD (i:=0) (some 86) (.pointer (some ⟨T,4,none⟩)) rfl rfl (by kernel_rfl) (by decide) (by kernel_rfl) (by kernel_rfl) (fun _ _ _ h=>h) (hS) (Or.inl ⟨by rfl,?_⟩) ?_
   ·
    intro X;go_simp;try with_reducible rfl
   (first | simp only [Act.put,List.setIfInBounds_toArray,List.set_cons_zero,List.set_cons_succ] | skip)
   refine Hd.After.takeD (i:=1) (some 87) (.slice (some ⟨g,0,none⟩) nk ck) rfl rfl (by kernel_rfl) (by kernel_rfl) (by kernel_rfl) (by kernel_rfl) (by kernel_rfl) (fun _ _ _ h=>h) (hS) (Or.inl ⟨by rfl,?_⟩) ?_
   ·
    rintro X ⟨s0,s1,s2,s3⟩;go_simp;try with_reducible rfl
   (first | simp only [Act.put,List.setIfInBounds_toArray,List.set_cons_zero,List.set_cons_succ] | skip)
   refine Hd.After.pureD (i:=2) (some 88) (.int .i64 q) rfl rfl (by kernel_rfl) (by decide) (by kernel_rfl) (by kernel_rfl) (fun _ _ _ h=>h) (hS) (Or.inl ⟨by rfl,?_⟩) ?_
   ·
    intro X;go_simp;try with_reducible rfl
   (first | simp only [Act.put,List.setIfInBounds_toArray,List.set_cons_zero,List.set_cons_succ] | skip)
   refine Hd.After.pureD (i:=3) (some 89) (.pointer (some ⟨T,4,none⟩)) rfl rfl (by kernel_rfl) (by decide) (by kernel_rfl) (by kernel_rfl) (fun _ _ _ h=>h) (hS) (Or.inl ⟨by rfl,?_⟩) ?_
   ·
    intro X;go_simp;try with_reducible rfl
   (first | simp only [Act.put,List.setIfInBounds_toArray,List.set_cons_zero,List.set_cons_succ] | skip)
   refine Hd.After.takeD (i:=4) (some 90) (.slice (some ⟨g,0,none⟩) nk ck) rfl rfl (by kernel_rfl) (by kernel_rfl) (by kernel_rfl) (by kernel_rfl) (by kernel_rfl) (fun _ _ _ h=>h) (hS) (Or.inl ⟨by rfl,?_⟩) ?_
   ·
    rintro X ⟨s0,s1,s2,s3⟩;go_simp;try with_reducible rfl
   (first | simp only [Act.put,List.setIfInBounds_toArray,List.set_cons_zero,List.set_cons_succ] | skip)
   refine Hd.After.pureD (i:=5) (some 91) (.int .i64 q) rfl rfl (by kernel_rfl) (by decide) (by kernel_rfl) (by kernel_rfl) (fun _ _ _ h=>h) (hS) (Or.inl ⟨by rfl,?_⟩) ?_
   ·
    intro X;go_simp;try with_reducible rfl
   (first | simp only [Act.put,List.setIfInBounds_toArray,List.set_cons_zero,List.set_cons_succ] | skip)
   refine Hd.After.pureD (i:=6) (some 92) (.pointer (some ⟨g,q * 2,none⟩)) rfl rfl (by kernel_rfl) (by decide) (by kernel_rfl) (by kernel_rfl) (fun _ _ _ h=>h) (hS) (Or.inl ⟨by rfl,?_⟩) ?_
   ·
    intro X;go_simp;try with_reducible rfl
   (first | simp only [Act.put,List.setIfInBounds_toArray,List.set_cons_zero,List.set_cons_succ] | skip)
   refine Hd.After.pureD (i:=7) (some 93) (.pointer (some ⟨g,q * 2,none⟩)) rfl rfl (by kernel_rfl) (by decide) (by kernel_rfl) (by kernel_rfl) (fun _ _ _ h=>h) (hS) (Or.inl ⟨by rfl,?_⟩) ?_
   ·
    intro X;go_simp;try with_reducible rfl
   (first | simp only [Act.put,List.setIfInBounds_toArray,List.set_cons_zero,List.set_cons_succ] | skip)
   refine Hd.After.takeD (i:=8) (some 94) (.slice a2 nw c2) rfl rfl (by kernel_rfl) (by kernel_rfl) (by kernel_rfl) (by kernel_rfl) (by kernel_rfl) (fun _ _ _ h=>h) (hS) (Or.inl ⟨by rfl,?_⟩) ?_
   ·
    rintro X ⟨s0,s1,s2,s3⟩;go_simp;try with_reducible rfl
   (first | simp only [Act.put,List.setIfInBounds_toArray,List.set_cons_zero,List.set_cons_succ] | skip)
   refine Hd.After.pureD (i:=9) (some 95) (.slice (some ⟨xb,xo,none⟩) n cp) rfl rfl (by kernel_rfl) (by decide) (by kernel_rfl) (by kernel_rfl) (fun _ _ _ h=>h) (hS) (Or.inl ⟨by rfl,?_⟩) ?_
   ·
    intro X;go_simp;try with_reducible rfl
   (first | simp only [Act.put,List.setIfInBounds_toArray,List.set_cons_zero,List.set_cons_succ] | skip)
   refine Hd.After.pureD (i:=10) (some 96) (.int .i64 k) rfl rfl (by kernel_rfl) (by decide) (by kernel_rfl) (by kernel_rfl) (fun _ _ _ h=>h) (hS) (Or.inl ⟨by rfl,?_⟩) ?_
   ·
    intro X;go_simp;try with_reducible rfl
   (first | simp only [Act.put,List.setIfInBounds_toArray,List.set_cons_zero,List.set_cons_succ] | skip)
   refine Hd.After.pureD (i:=11) (some 97) (.pointer (some ⟨xb,xo+k,none⟩)) rfl rfl (by kernel_rfl) (by decide) (by kernel_rfl) (by kernel_rfl) (fun _ _ _ h=>h) (hS) (Or.inl ⟨by rfl,?_⟩) ?_
   ·
    intro X;go_simp;try with_reducible rfl
   (first | simp only [Act.put,List.setIfInBounds_toArray,List.set_cons_zero,List.set_cons_succ] | skip)
   refine Hd.After.takeD (i:=12) (some 98) (.string (Pc.ba l)) rfl rfl (by kernel_rfl) (by kernel_rfl) (by kernel_rfl) (by kernel_rfl) (by kernel_rfl) (fun _ _ _ h=>h) (hS) (Or.inl ⟨by rfl,?_⟩) ?_
   ·
    rintro X ⟨s0,s1,s2,s3⟩;go_simp;try with_reducible rfl
   (first | simp only [Act.put,List.setIfInBounds_toArray,List.set_cons_zero,List.set_cons_succ] | skip)
   refine Hd.After.pureD (i:=13) (some 99) (.slice (some ⟨yb,yo,none⟩) (q5+1) cp2) rfl rfl (by kernel_rfl) (by decide) (by kernel_rfl) (by kernel_rfl) (fun _ _ _ h=>h) (hS) (Or.inl ⟨by rfl,?_⟩) ?_
   ·
    intro X;go_simp;try with_reducible rfl
   (first | simp only [Act.put,List.setIfInBounds_toArray,List.set_cons_zero,List.set_cons_succ] | skip)
   refine Hd.After.pureD (i:=14) (some 100) (.pointer (some ⟨yb,yo,none⟩)) rfl rfl (by kernel_rfl) (by decide) (by kernel_rfl) (by kernel_rfl) (fun _ _ _ h=>h) (hS) (Or.inl ⟨by rfl,?_⟩) ?_
   ·
    intro X;go_simp;try with_reducible rfl
   (first | simp only [Act.put,List.setIfInBounds_toArray,List.set_cons_zero,List.set_cons_succ] | skip)
   refine Hd.After.takeD (i:=15) (some 101) (.string (Pc.ba p0)) rfl rfl (by kernel_rfl) (by kernel_rfl) (by kernel_rfl) (by kernel_rfl) (by kernel_rfl) (fun _ _ _ h=>h) (hS) (Or.inl ⟨by rfl,?_⟩) ?_
   ·
    rintro X ⟨s0,s1,s2,s3⟩;go_simp;try with_reducible rfl
   (first | simp only [Act.put,List.setIfInBounds_toArray,List.set_cons_zero,List.set_cons_succ] | skip)
   refine Hd.After.pureD (i:=16) (some 102) (.int .i64 ps) rfl rfl (by kernel_rfl) (by decide) (by kernel_rfl) (by kernel_rfl) (fun _ _ _ h=>h) (hS) (Or.inl ⟨by rfl,?_⟩) ?_
   ·
    intro X;go_simp;try with_reducible rfl
   (first | simp only [Act.put,List.setIfInBounds_toArray,List.set_cons_zero,List.set_cons_succ] | skip)
   refine Hd.After.pureD (i:=17) (some 103) (.int .i64 ((ps:Int)+1)) rfl rfl (by kernel_rfl) (by decide) (by kernel_rfl) (by kernel_rfl) (fun _ _ _ h=>h) (hS) (Or.inl ⟨by rfl,?_⟩) ?_
   ·
    intro X;go_simp;try with_reducible rfl
   (first | simp only [Act.put,List.setIfInBounds_toArray,List.set_cons_zero,List.set_cons_succ] | skip)
   refine Hd.After.pureD (i:=18) (some 104) (.string ((Pc.ba l).extract (ps+1) lz)) rfl rfl (by kernel_rfl) (by decide) (by kernel_rfl) (by kernel_rfl) (fun _ _ _ h=>h) (hS) (Or.inl ⟨by rfl,?_⟩) ?_
   ·
    intro X;go_simp;try with_reducible rfl
   (first | simp only [Act.put,List.setIfInBounds_toArray,List.set_cons_zero,List.set_cons_succ] | skip)
   rw [HRR.out]
   have hA:Below w0.heap.size w0 (w0.alloc (.cells #[.string rx] 9)):=(Below.refl _ _).alloc (Nat.le_refl _) _
   have st4:=st0.trans (hA.mono st0.size)
   refine Hd.After.one (i:=19) (by kernel_rfl) rfl rfl ?_
   intro K hK
   go_simp
   refine hK _ _ (fun _=>HSX.out _ st4) ?_
   clear hK K
   (first | simp only [Act.put,List.setIfInBounds_toArray,List.set_cons_zero,List.set_cons_succ] | skip)
   refine Hd.After.one (i:=20) (by kernel_rfl) rfl rfl ?_
   intro K hK
   refine Rm.wp_snocS _ _ rfl (some 106) rfl a2 nw c2 w0.heap.size _ HNW.out rfl rfl (HO2.out.below st4) rx (by simp) (by have:=HWB.out;omega) ?_
   intro a6 c6 wa hok5 hg5 hat5
   have HGA:Hid (Gm (wa.setCell ⟨g,q * 2,none⟩ (.slice a6 (nw+1) c6)) T lo _ (some ⟨g,0,none⟩) ck ax ct∧Fr (Fx T lo) w9 (wa.setCell ⟨g,q * 2,none⟩ (.slice a6 (nw+1) c6))):=HST2.out _ wa _ _ st4 hok5 hg5 hat5
   have hba:wa.heap[g]? = w9.heap[g]?:=(hg5.block g (Nat.lt_of_lt_of_le HGL9.out st4.size) (fun e=>(HKN2.out g e.symm).2 rfl)).trans (st4.block g HGL9.out)
   have hta:wa.heap[T]? = w9.heap[T]?:=(hg5.block T (Nat.lt_of_lt_of_le htl9 st4.size) (fun e=>by have h1:=(HKN2.out T e.symm).1;have h2:=HG8.out.1.bl;omega)).trans (st4.block T htl9)
   have hya:wa.heap[yb]? = w9.heap[yb]?:=(hg5.block yb (Nat.lt_of_lt_of_le hyl9 st4.size) (fun e=>HKY2.out yb e.symm rfl)).trans (st4.block yb hyl9)
   have hxa:wa.heap[xb]? = w9.heap[xb]?:=(hg5.block xb (Nat.lt_of_lt_of_le hxl9 st4.size) (fun e=>by have h1:=(HKN2.out xb e.symm).1;have h2:=HXB.out.1;have h3:=HL1.out;omega)).trans (st4.block xb hxl9)
   have z0:wa.cell? ⟨g,q * 2,none⟩=some (.slice a2 nw c2):=(World.cell?_of_block (a:=⟨g,q * 2,none⟩) hba).trans HD2.out
   have z1:wa.frozen? ⟨g,q * 2,none⟩=false:=(World.frozen?_of_block (a:=⟨g,q * 2,none⟩) hba).trans HF2.out
   have z2:g<wa.heap.size:=Nat.lt_of_lt_of_le HGL9.out (Nat.le_trans st4.size hg5.size)
   have z4:wa.cell? ⟨T,4,none⟩=some (.slice (some ⟨g,0,none⟩) nk ck):=(World.cell?_of_block (a:=⟨T,4,none⟩) hta).trans HT9.out
   have z5:wa.cell? ⟨xb,xo+k,none⟩=some (.string (Pc.ba l)):=(World.cell?_of_block (a:=⟨xb,xo+k,none⟩) hxa).trans HX9.out
   have z6:wa.cell? ⟨yb,yo,none⟩=some (.string (Pc.ba p0)):=(World.cell?_of_block (a:=⟨yb,yo,none⟩) hya).trans HYY9.out
   clear hok5 hg5 hat5 hba hta hya hxa
   refine hK _ _ (fun _=>⟨z4,z0,z5,z6⟩) ?_
   clear hK K
   (first | simp only [Act.put,List.setIfInBounds_toArray,List.set_cons_zero,List.set_cons_succ] | skip)
   refine Hd.After.pureD (i:=21) (some 107) (.pointer (some ⟨g,q * 2,none⟩)) rfl rfl (by kernel_rfl) (by decide) (by kernel_rfl) (by kernel_rfl) (fun _ _ _ h=>h) (⟨z4,z0,z5,z6⟩) (Or.inl ⟨by rfl,?_⟩) ?_
   ·
    intro X;go_simp;try with_reducible rfl
   (first | simp only [Act.put,List.setIfInBounds_toArray,List.set_cons_zero,List.set_cons_succ] | skip)
   refine Hd.After.pureD (i:=22) (some 108) (.pointer (some ⟨g,q * 2,none⟩)) rfl rfl (by kernel_rfl) (by decide) (by kernel_rfl) (by kernel_rfl) (fun _ _ _ h=>h) (⟨z4,z0,z5,z6⟩) (Or.inl ⟨by rfl,?_⟩) ?_
   ·
    intro X;go_simp;try with_reducible rfl
   (first | simp only [Act.put,List.setIfInBounds_toArray,List.set_cons_zero,List.set_cons_succ] | skip)
   refine Hd.After.one (i:=23) (by kernel_rfl) rfl rfl ?_
   intro K hK
   go_simp
   refine hK _ _ (fun h=>by cases h) ?_
   clear hK K
   refine Hd.After.done (by kernel_rfl) ?_ _
   have hlw1:IntKind.i64.wrap (lf-1)=lf-1:=by rw [IntKind.wrap_i64];omega
   have HM:Hid (mK m1 (m1.ks.set q ⟨(m1.ks[q]'HLQ.out).ws ++ [rx],(m1.ks[q]'HLQ.out).vs⟩)=⟨st.m.n,st.m.c,st.m.prior,st.m.base,addW st.m.ks ⟨(l.drop (p0.length+1)).toArray⟩ v,st.m.ts⟩):=by
    show _=_
    rw [HE.out rx,← HRR.out,HRX.out]
   clear hS st0 st4 hA z0 z1 z2 z4 z5 z6 HSX
   go_wp2
   go_roundw
   case rel =>
    have hg:=HGA.out.1
    rw [HM.out] at hg
    refine ⟨k+1,⟨⟨st.m.n,st.m.c,st.m.prior,st.m.base,addW st.m.ks ⟨(l.drop (p0.length+1)).toArray⟩ v,st.m.ts⟩,st.left-1⟩,_,ck,ax,ct,by omega,by go_num,by rw [HLE.out],?_,hg,(HYES.out _ HSL.out).1,(HYES.out _ HSL.out).2,HF9.out.trans HGA.out.2⟩
    show 0≤st.left-1∧st.left-1≤40
    have h1:=HLT.out
    have h2:=HLF.out
    omega
   case measure=>simp [intOf];omega
set_option maxHeartbeats 8000000 in
theorem smARMB (w:World) (s:ByteArray):smB.2.1 w s:=by
 intro HNN z1 W w1 cp xb xo L HRT n R T lo HBR HXB HNX HBW HRW HL1 HLN HTO HPM hn3 hs3 z2 z3 wr u3 u8 u9 u10 u11 u12 u13 u14 u15 u16 u17 u18 u19 u31 u32 u33 u34 u35 u36 u37 u38 u39 u40 u41 u42 u43 u44 u45 u46 u47 u48 u49 u50 u51 u52 u53 u54 u55 u56 u57 u58 u59 u60 u61 u62 u63 u64 u65 u66 u67 u68 u69 u70 u71 u72 u73 u74 u75 u76 u77 u78 u79 u80 u81 u82 u83 u84 u85 u86 u87 u88 u89 u90 u91 u92 u93 u94 u95 u96 u97 u98 u99 u100 u101 u102 u103 u104 u105 u106 u107 u108 u109 u110 u111 u112 u113 u114 u115 u116 u117 u118 u119 u120 u121 u122 u123 u124 u125 u126 u127 u128 u129 u130 u131 u132 u133 u134 u135 u136 u137 u138 u139 u140 u141 u142 u143 u144 u145 u146 u147 u148 u149 u150 u151 u152 u153 u154 u155 u156 u157 u158 u159 u160 u161 u162 u163 u164 u165 u166 u167 u168 u169 u170 u171 u172 u173 u174 u175 u176 u177 u178 u179 u180 u181 u182 u183 u184 u185 u186 u187 u188 u189 u190 u191 u192 u193 u194 u195 u196 u197 u198 u199 u200 u201 u202 u203 u204 u205 u206 u207 u208 k st ak ck ax ct hk HRD HOK HF HG HLF HSZ hlw lf HLE hl0 hl40 hlt HKL l HDR HTS HCL hbs HLD z4 z5 z6 z7 z8 z9 z10 w5 cp2 yb yo HPW p0 ws HP HYC y0 hz0 q5 HQ5 hq3 HG5 HF5 HY1 hlw5 HB5S HBW5 HNO HYES HBX HP0D hRT hTR hcap1 hybl hleft HL0 HEQ hwModel eq_wModel HW h4
 subst h4
 have hq4:(((4+1:Nat):Int) == 5)=true:=by decide
 have HSM:Hid (sLine st l=(match snums ws with
   | some [a,b,c,d]=>some ⟨⟨a,b,c,d,st.m.ks,st.m.ts⟩,st.left⟩
   | _=>none)):=sl_model HL0.out (by rw [HP.out,HW.out]) HQ5.out
 clear hwModel
 obtain ⟨i0,hi,hi0,hi1,hi2⟩:=info_parts Li.info_int
 have HOW:Hid (Li.Own (w5.alloc (.cells #[] 3)) w5.heap.size (.slice (some ⟨w5.heap.size,0,none⟩) 0 0) []):=Ap.own_empty w5 w5.heap.size (Nat.le_refl _)
 have HAW:Hid (Below w5.heap.size w5 (w5.alloc (.cells #[] 3))):=(Below.refl _ _).alloc (Nat.le_refl _) _
 go_wp2_with fail
 go_loopw [12,13] (fun v i wx=>∃ (j:Nat) (xs:List Int),j≤4∧i=.int .i64 ((j:Int)+1)∧xs.length=j∧snums (ws.take j)=some xs∧Li.Own wx w5.heap.size v xs∧Below w5.heap.size w5 wx) (fun _ i _=>5-(intOf i).toNat)
 case atStart=>exact ⟨0,[],Nat.zero_le _,rfl,rfl,by simp [snums],HOW.out,HAW.out⟩
 case round =>
  clear HOW HAW
  obtain ⟨j,xs,hj,rfl,hxl,hsn,ho,hb7⟩:=hrel
  have HXL:Hid (xs.length=j):=hxl
  have HSN:Hid (type_of% hsn):=hsn
  have HB7:Hid (type_of% hb7):=hb7
  clear hxl hsn hb7
  by_cases hj4:j<4
  ·
   have HJ:Hid (j<ws.length):=by rw [HQ5.out];exact hj4
   have hcj:=HYC.out wr (HB7.out.block yb hybl) (j+1) (ws[j]'HJ.out) (by simp [List.getElem?_eq_getElem HJ.out])
   have hyl:yb<wr.heap.size:=Nat.lt_of_lt_of_le hybl HB7.out.size
   have hpz:(Pc.ba (ws[j]'HJ.out)).size≤30000:=by rw [Pc.ba_size];exact HPW.out _ (by rw [HP.out];exact List.mem_cons_of_mem _ (List.getElem_mem HJ.out))
   have HYS:Hid (∀ v,snum (ws[j]'HJ.out)=some v→snums (ws.take (j+1))=some (xs ++ [v])):=fun v hv=>snums_take HJ.out HSN.out hv
   have HNOS:Hid (snum (ws[j]'HJ.out)=none→sLine st l=none):=fun hv=>by rw [HSM.out,snums_no HJ.out hv]
   have HPD:Hid ((Pc.ba (ws[j]'HJ.out)).data.toList=ws[j]'HJ.out):=Pc.ba_data _
   rw [← HPD.out] at HYS HNOS
   generalize Pc.ba (ws[j]'HJ.out)=p at hcj hpz HYS HNOS
   have hlt1:(j:Int)+1<((4+1:Nat):Int):=by omega
   have h0j:(0:Int)≤(j:Int)+1:=by omega
   have htj:((j:Int)+1).toNat=j+1:=by omega
   clear HPD
   go_wp2_with fail
   refine (snumc wr p (by omega)).mono ?_
   rintro e w6 ⟨he,hB6⟩
   have HB6:Hid (Below w5.heap.size w5 w6):=HB7.out.trans (hB6.mono HB7.out.size)
   have ho:=ho.below hB6
   clear hB6 hcj
   rcases he with ⟨v,hv,v0,v1,rfl⟩ | ⟨hv,v,rfl⟩
   ·
    have HS2:Hid (type_of% (HYS.out v hv)):=HYS.out v hv
    clear hv HYS HNOS
    have hxle:xs.length≤9000:=by rw [HXL.out];omega
    have hws:w5.heap.size≤w6.heap.size:=HB6.out.size
    go_wp2_with (at_builtin;refine wpList_append_own _ rfl _ _ 45 rfl w5.heap.size 3 i0 (.int .i64 0) 1 8 Tryz.underlying45 hi hi0 hi1 hi2 rfl (by decide) _ _ _ rfl (World.ownsRow.alloc ho _) ⟨w6.heap.size,0,none⟩ 1 1 [.int .i64 v] rfl rfl (Ai.one_cell _ _ _) (Ai.one_one _) (by unfold maxLen;omega) (by omega) (by simp;omega) ?_;intro v5 w8 hown5 hgrow _)
    have HO:Hid (Li.Own w8 w5.heap.size v5 (xs ++ [v])):=Ai.own_snoc rfl hown5
    have HB8:Hid (Below w5.heap.size w5 w8):=(HB6.out.alloc HB6.out.size _).grown hgrow (by have:=HB6.out.size;simp;omega) (fun g hg=>(World.ownsRow.lt ho g hg).1)
    have HL5:Hid ((xs ++ [v]).length=j+1):=by show _=_;rw [List.length_append,HXL.out];rfl
    clear hown5 hgrow ho
    go_wp2
    go_roundw
    case rel=>exact ⟨j+1,xs ++ [v],by omega,by go_num,HL5.out,HS2.out,HO.out,HB8.out⟩
    case measure=>simp [intOf];omega
   ·
    have HNN2:Hid (srdt s.data.toList ⟨zero,0⟩=none):=HNO.out (HNOS.out hv)
    have hBX:=HBX.out w6 (HF5.out.trans (fx_below HB6.out))
    obtain ⟨hrl,⟨r0,r1,r2,r3,r4,r5⟩,f0,f1,f2,f3,f4,f5⟩:=wr6 hBX.2
    have HBB:Hid (Below w.heap.size w w6):=hBX.1
    clear hBX hv
    go_wp2
    refine bodyPost_ret (v:=.tuple #[.agg #[.int .i64 0,.int .i64 0,.int .i64 0,.int .i64 0,.slice none 0 0,.slice none 0 0],.bool false]) (by rw [results_ct rfl];go_simp) rfl (sans_no HNN2.out ?_)
    exact bel6 HBB.out HRW.out.1 _ _ _ _ _ _
  ·
   obtain rfl:j=4:=by omega
   have HS3:Hid (snums ws=some xs):=by
    have:=HSN.out
    rwa [List.take_of_length_le (by have:=HQ5.out;omega)] at this
   obtain ⟨x0,x1,x2,x3,rfl⟩:∃ x0 x1 x2 x3,xs=[x0,x1,x2,x3]:=by
    have h2:=HXL.out
    match xs,h2 with
    | [a,b,c,d],_=>exact ⟨a,b,c,d,rfl⟩
   have HSL:Hid (sLine st l=some ⟨⟨x0,x1,x2,x3,st.m.ks,st.m.ts⟩,st.left⟩):=by show _=_;rw [HSM.out,HS3.out]
   rcases ho.2 with ⟨e,h0⟩ | ⟨A,cap,cur,e,hA,_⟩
   ·
    simp at h0
   subst e
   have d0:=ho.cell rfl 0 (by simp)
   have d1:=ho.cell rfl 1 (by simp)
   have d2:=ho.cell rfl 2 (by simp)
   have d3:=ho.cell rfl 3 (by simp)
   simp only [List.getElem_cons_zero,List.getElem_cons_succ] at d0 d1 d2 d3
   have hAl:=(ho.ge A rfl).2
   have hAb:¬ A=T:=by have h1:=HG5.out.bl;have h2:=HG5.out.sz;omega
   have hbA:¬ T=A:=fun e=>hAb e.symm
   have HG7:Hid (Gm wr T lo st.m ak ck ax ct):=HG5.out.below HB7.out
   have HF7:Hid (Fr (Fx T lo) w1 wr):=HF5.out.trans (fx_below HB7.out)
   obtain ⟨htl,⟨c0,c1,c2,c3,c4,c5⟩,f0,f1,f2,f3,f4,f5⟩:=wr6 HG7.out.bx
   clear ho hA c4 c5 f4 f5
   go_wp2_with fail
   go_region_held3 (fun w'=>w'.cell? ⟨A,0,none⟩=some (.int .i64 x0)∧w'.cell? ⟨A,1,none⟩=some (.int .i64 x1)∧w'.cell? ⟨A,2,none⟩=some (.int .i64 x2)∧w'.cell? ⟨A,3,none⟩=some (.int .i64 x3)) (go_keep) (fail)
   go_wp2
   clear d0 d1 d2 d3 c0 c1 c2 c3 f0 f1 f2 f3
   go_roundw
   case rel =>
    have hg:=HG7.out
    refine ⟨k+1,⟨⟨x0,x1,x2,x3,st.m.ks,st.m.ts⟩,st.left⟩,ak,ck,ax,ct,by omega,by go_num,by rw [← HLE.out],HLF.out,⟨?_,?_,hg.bl,?_⟩,(HYES.out _ HSL.out).1,(HYES.out _ HSL.out).2,?_⟩
    ·
     have h4:=(((hg.bx.set 0 (by simp [mcells]) (.int .i64 x0)).set 1 (by simp [mcells]) (.int .i64 x1)).set 2 (by simp [mcells]) (.int .i64 x2)).set 3 (by simp [mcells]) (.int .i64 x3)
     exact h4
    ·
     exact om_ks (om_set (om_set (om_set (om_set hg.om hg.bl) hg.bl) hg.bl) hg.bl) rfl rfl
    ·
     have:=hg.sz
     simpa [World.setCell] using this
    ·
     have h4:=HF7.out.trans ((((fx_set (lo:=lo) wr 0 (.int .i64 x0)).trans (fx_set _ 1 (.int .i64 x1))).trans (fx_set _ 2 (.int .i64 x2))).trans (fx_set _ 3 (.int .i64 x3)))
     exact ⟨h4.os,h4.tape,h4.output,h4.size,h4.block⟩
   case measure=>simp [intOf];omega
set_option maxHeartbeats 8000000 in
theorem smARMC (w:World) (s:ByteArray):smB.2.2.1 w s:=by
 intro HNN z1 W w1 cp xb xo L HRT n R T lo HBR HXB HNX HBW HRW HL1 HLN HTO HPM hn3 hs3 z2 z3 wr u3 u8 u9 u10 u11 u12 u13 u14 u15 u16 u17 u18 u19 u31 u32 u33 u34 u35 u36 u37 u38 u39 u40 u41 u42 u43 u44 u45 u46 u47 u48 u49 u50 u51 u52 u53 u54 u55 u56 u57 u58 u59 u60 u61 u62 u63 u64 u65 u66 u67 u68 u69 u70 u71 u72 u73 u74 u75 u76 u77 u78 u79 u80 u81 u82 u83 u84 u85 u86 u87 u88 u89 u90 u91 u92 u93 u94 u95 u96 u97 u98 u99 u100 u101 u102 u103 u104 u105 u106 u107 u108 u109 u110 u111 u112 u113 u114 u115 u116 u117 u118 u119 u120 u121 u122 u123 u124 u125 u126 u127 u128 u129 u130 u131 u132 u133 u134 u135 u136 u137 u138 u139 u140 u141 u142 u143 u144 u145 u146 u147 u148 u149 u150 u151 u152 u153 u154 u155 u156 u157 u158 u159 u160 u161 u162 u163 u164 u165 u166 u167 u168 u169 u170 u171 u172 u173 u174 u175 u176 u177 u178 u179 u180 u181 u182 u183 u184 u185 u186 u187 u188 u189 u190 u191 u192 u193 u194 u195 u196 u197 u198 u199 u200 u201 u202 u203 u204 u205 u206 u207 u208 k st ak ck ax ct hk HRD HOK HF HG HLF HSZ hlw lf HLE hl0 hl40 hlt HKL l HDR HTS HCL hbs HLD z4 z5 z6 z7 z8 z9 z10 w5 cp2 yb yo HPW p0 ws HP HYC y0 hz0 q5 HQ5 hq3 HG5 HF5 HY1 hlw5 HB5S HBW5 HNO HYES HBX HP0D hRT hTR hcap1 hybl hleft HL0 HEQ hwModel ne_wModel hwCtr eq_wCtr HW h1
 obtain ⟨x0,rfl⟩:∃ x0,ws=[x0]:=by
  have h2:=HQ5.out
  rw [h1] at h2
  match ws,h2 with
  | [x],_=>exact ⟨x,rfl⟩
 subst h1
 have hq1:(((1+1:Nat):Int) == 2)=true:=by decide
 have y1:=HYC.out w5 rfl 1 x0 rfl
 have hz1:(Pc.ba x0).size≤30000:=by rw [Pc.ba_size];exact HPW.out x0 (by rw [HP.out];simp)
 have HX0:Hid ((Pc.ba x0).data.toList=x0):=Pc.ba_data x0
 have HSC:Hid (sLine st l=(match snums [x0] with
   | some [n]=>if 0≤n∧n≤40 then some ⟨⟨st.m.n,st.m.c,st.m.prior,st.m.base,st.m.ks ++ [⟨[],[]⟩],st.m.ts⟩,n⟩ else none
   | _=>none)):=sl_ctr HL0.out (by rw [HP.out,HW.out]) rfl
 clear hwCtr hwModel
 go_wp2_with fail
 refine (snumc w5 (Pc.ba x0) (by omega)).mono ?_
 rintro e w6 ⟨he,hB6⟩
 rw [HX0.out] at he
 have HG6:Hid (Gm w6 T lo st.m ak ck ax ct):=HG5.out.below hB6
 have HF6:Hid (Fr (Fx T lo) w1 w6):=HF5.out.trans (fx_below hB6)
 clear hB6 y1
 rcases he with ⟨v,hv,v0,v1,rfl⟩ | ⟨hv,v,rfl⟩
 rotate_left
 ·
  have HNN2:Hid (srdt s.data.toList ⟨zero,0⟩=none):=HNO.out (by rw [HSC.out];simp only [snums,hv])
  have hBX:=HBX.out w6 HF6.out
  obtain ⟨hrl,⟨r0,r1,r2,r3,r4,r5⟩,f0,f1,f2,f3,f4,f5⟩:=wr6 hBX.2
  have HBB:Hid (Below w.heap.size w w6):=hBX.1
  clear hBX hv
  go_wp2
  refine bodyPost_ret (v:=.tuple #[.agg #[.int .i64 0,.int .i64 0,.int .i64 0,.int .i64 0,.slice none 0 0,.slice none 0 0],.bool false]) (by rw [results_ct rfl];go_simp) rfl (sans_no HNN2.out ?_)
  exact bel6 HBB.out HRW.out.1 _ _ _ _ _ _
 ·
  by_cases hb:0≤v∧v≤40
  rotate_left
  ·
   have HNN2:Hid (srdt s.data.toList ⟨zero,0⟩=none):=HNO.out (by rw [HSC.out];simp only [snums,hv];rw [if_neg hb])
   have hbt:Li.btw v 0 40=false:=by
    unfold Li.btw
    simp only [decide_eq_false_iff_not]
    omega
   have hBX:=HBX.out w6 HF6.out
   obtain ⟨hrl,⟨r0,r1,r2,r3,r4,r5⟩,f0,f1,f2,f3,f4,f5⟩:=wr6 hBX.2
   have HBB:Hid (Below w.heap.size w w6):=hBX.1
   clear hBX hv hb
   go_wp2_with (go_at_call 33;refine (Li.between_any _ _ _ _).mono ?_;rintro e w7 ⟨rfl,hw7⟩;rw [hw7];clear hw7 w7;rw [hbt])
   refine bodyPost_ret (v:=.tuple #[.agg #[.int .i64 0,.int .i64 0,.int .i64 0,.int .i64 0,.slice none 0 0,.slice none 0 0],.bool false]) (by rw [results_ct rfl];go_simp) rfl (sans_no HNN2.out ?_)
   exact bel6 HBB.out HRW.out.1 _ _ _ _ _ _
  ·
   have HSL:Hid (sLine st l=some ⟨⟨st.m.n,st.m.c,st.m.prior,st.m.base,st.m.ks ++ [⟨[],[]⟩],st.m.ts⟩,v⟩):=by show _=_;rw [HSC.out];simp only [snums,hv];rw [if_pos hb]
   have hbt:Li.btw v 0 40=true:=by
    unfold Li.btw
    simp only [decide_eq_true_eq]
    omega
   have HVV:Hid (0≤v∧v≤40):=hb
   have hA:Below w6.heap.size w6 (w6.alloc (.cells #[.slice none 0 0,.slice none 0 0] 47)):=(Below.refl _ _).alloc (Nat.le_refl _) _
   have HAA:Hid (type_of% hA):=hA
   obtain ⟨B',hB1,hB2,hB3,hB4⟩:=splitK HG6.out.om hA HG6.out.sz
   have hvb:∀ y,(Value.slice ak st.m.ks.length ck).ownBlock=some y→B' y∧y<w6.heap.size:=fun y e=>by obtain ⟨_,_,_,_,hv,_⟩:=hB3;exact hv y e
   have HVB:Hid (type_of% hvb):=hvb
   have HB1:Hid (type_of% hB1):=hB1
   have HB2:Hid (type_of% hB2):=hB2
   have HB3:Hid (type_of% hB3):=hB3
   have HB4:Hid (type_of% hB4):=hB4
   obtain ⟨htl,⟨z0,z1,z2,z3,z4,z5⟩,_⟩:=wr6 HG6.out.bx
   have HTN:Hid (st.m.ks.length≤100000):=by have h1:=HSZ.out;unfold M.sz at h1;show _≤_;omega
   obtain ⟨nt,hnt⟩:∃ nt,st.m.ks.length=nt:=⟨_,rfl⟩
   have HNT:Hid (st.m.ks.length=nt):=hnt
   rw [hnt] at z4 HTN HVB HB3
   clear hv hb hA hB1 hB2 hB3 hB4 hvb hnt z0 z1 z2 z3 z5
   go_wp2_with (first
    | (go_at_call 33;refine (Li.between_any _ _ _ _).mono ?_;rintro e w7 ⟨rfl,hw7⟩;rw [hw7];clear hw7 w7;rw [hbt])
    | (at_builtin;refine Ps.wpl_pushK rfl _ _ rfl B' w6.heap.size _ st.m.ks HB3.out w6.heap.size none none 0 0 0 0 ⟨[],[]⟩ rfl rfl (by simp) (by simp) (Ls.Own.nil _ _) (Li.Own.nil _ _) (fun k e=>by simp [Value.ownBlock] at e) HB1.out HAA.out.size (by rw [HNT.out];have:=HTN.out;omega) ?_;intro a9 c9 w9 hok9 hg9;have HOK9:Hid (type_of% hok9):=hok9;have HFR:Hid (Fr B' (w6.alloc (.cells #[.slice none 0 0,.slice none 0 0] 47)) w9):=⟨hg9.os,hg9.tape,hg9.output,hg9.size,fun q hq hn=>hg9.block q hq (fun e=>hn (HVB.out q e.symm).1)⟩;have hx9:=(HG6.out.bx.below HAA.out).keptAt HFR.out.size (HFR.out.block T (Nat.lt_of_lt_of_le HG6.out.bx.1 HAA.out.size) (fun e=>by have:=HB2.out T e;have:=HG6.out.bl;omega));have HX9:Hid (type_of% hx9):=hx9;obtain ⟨htl9,⟨e0,e1,e2,e3,e4,e5⟩,g0,g1,g2,g3,g4,g5⟩:=wr6 hx9;rw [HNT.out] at e4;clear hok9 hg9 hx9 e0 e1 e2 e3 e5 g0 g1 g2 g3 g5))
   go_roundw
   case rel =>
    have hg:=HG6.out
    refine ⟨k+1,⟨⟨st.m.n,st.m.c,st.m.prior,st.m.base,st.m.ks ++ [⟨[],[]⟩],st.m.ts⟩,v⟩,a9,c9,ax,ct,by omega,by go_num,rfl,HVV.out,⟨?_,?_,hg.bl,?_⟩,(HYES.out _ HSL.out).1,(HYES.out _ HSL.out).2,?_⟩
    ·
     have h6:=HX9.out.set 4 (by simp [mcells]) (.slice a9 (st.m.ks.length+1) c9)
     simpa [mcells] using h6
    ·
     have h4:=HB4.out w9 (.slice a9 (st.m.ks.length+1) c9) ⟨st.m.n,st.m.c,st.m.prior,st.m.base,st.m.ks ++ [⟨[],[]⟩],st.m.ts⟩ rfl HFR.out HOK9.out
     have h6:=om_set (o:=4) (x:=.slice a9 (st.m.ks.length+1) c9) h4 hg.bl
     simpa using h6
    ·
     have h1:=HFR.out.size
     have h2:=HAA.out.size
     have h3:=hg.sz
     simp [World.setCell] at h1 ⊢
     omega
    ·
     exact ((HF6.out.trans (fx_below HAA.out)).trans (HFR.out.mono (fun y hy=>.inr (HB2.out y hy)))).trans (fx_set _ 4 _)
   case measure=>simp [intOf];omega
set_option maxHeartbeats 8000000 in
theorem smARMD (w:World) (s:ByteArray):smB.2.2.2.1 w s:=by
 intro HNN z1 W w1 cp xb xo L HRT n R T lo HBR HXB HNX HBW HRW HL1 HLN HTO HPM hn3 hs3 z2 z3 wr u3 u8 u9 u10 u11 u12 u13 u14 u15 u16 u17 u18 u19 u31 u32 u33 u34 u35 u36 u37 u38 u39 u40 u41 u42 u43 u44 u45 u46 u47 u48 u49 u50 u51 u52 u53 u54 u55 u56 u57 u58 u59 u60 u61 u62 u63 u64 u65 u66 u67 u68 u69 u70 u71 u72 u73 u74 u75 u76 u77 u78 u79 u80 u81 u82 u83 u84 u85 u86 u87 u88 u89 u90 u91 u92 u93 u94 u95 u96 u97 u98 u99 u100 u101 u102 u103 u104 u105 u106 u107 u108 u109 u110 u111 u112 u113 u114 u115 u116 u117 u118 u119 u120 u121 u122 u123 u124 u125 u126 u127 u128 u129 u130 u131 u132 u133 u134 u135 u136 u137 u138 u139 u140 u141 u142 u143 u144 u145 u146 u147 u148 u149 u150 u151 u152 u153 u154 u155 u156 u157 u158 u159 u160 u161 u162 u163 u164 u165 u166 u167 u168 u169 u170 u171 u172 u173 u174 u175 u176 u177 u178 u179 u180 u181 u182 u183 u184 u185 u186 u187 u188 u189 u190 u191 u192 u193 u194 u195 u196 u197 u198 u199 u200 u201 u202 u203 u204 u205 u206 u207 u208 k st ak ck ax ct hk HRD HOK HF HG HLF HSZ hlw lf HLE hl0 hl40 hlt HKL l HDR HTS HCL hbs HLD z4 z5 z6 z7 z8 z9 z10 w5 cp2 yb yo HPW p0 ws HP HYC y0 hz0 q5 HQ5 hq3 HG5 HF5 HY1 hlw5 HB5S HBW5 HNO HYES HBX HP0D hRT hTR hcap1 hybl hleft HL0 HEQ hwModel ne_wModel hwCtr ne_wCtr hwTree
 have HW:Hid (p0=wTree):=(HEQ.out _).1 hwTree
 have eq_wTree:=Ls.tl_eq hwTree
 rw [show (bwTree).toList=[116,114,101,101] by kernel_rfl] at eq_wTree
 clear hwTree hwCtr hwModel
 have HZW:Hid (∀ x ∈ ws.map Pc.ba,x.size≤30000):=fun x hx=>by
  obtain ⟨y,hy,rfl⟩:=List.mem_map.1 hx
  rw [Pc.ba_size]
  exact HPW.out y (by rw [HP.out];simp [hy])
 have HLW:Hid ((ws.map Pc.ba).length=q5):=by show _=_;rw [List.length_map];exact HQ5.out
 by_cases hc1:cp2=1
 ·
  have HIW:Hid (Ls.IsS w5 (some ⟨yb,yo,none⟩) (ws.map Pc.ba)):=.inl (List.length_eq_zero_iff.1 (by rw [HLW.out];omega))
  have HCC:=strees w5 (some ⟨yb,yo,none⟩) 0 (ws.map Pc.ba) HIW.out (by rw [HLW.out];omega) HZW.out
  rw [HLW.out] at HCC
  have HCK:Hid (type_of% HCC):=HCC
  clear HCC HIW
  go_wp2_with fail
  refine (HCK.out).mono ?_
  rintro e w6 ⟨he,hB6⟩
  rw [bas_data] at he
  have HG6:Hid (Gm w6 T lo st.m ak ck ax ct):=HG5.out.below hB6
  have HF6:Hid (Fr (Fx T lo) w1 w6):=HF5.out.trans (fx_below hB6)
  have HL6:Hid (lo≤w5.heap.size∧w5.heap.size≤w6.heap.size):=⟨HG5.out.sz,hB6.size⟩
  have HB56:Hid (Below w5.heap.size w5 w6):=hB6
  clear hB6
  rcases he with ⟨xs,ls,u0,u1,hst,rfl,op,ol,hsep⟩ | ⟨hst,rfl⟩
  ·
   obtain ⟨a0,c0,rfl,_⟩:=op.isp
   obtain ⟨a1,c1,rfl,_⟩:=ol.isl
   have HSL:Hid (sLine st l=some ⟨⟨st.m.n,st.m.c,st.m.prior,st.m.base,st.m.ks,st.m.ts ++ [⟨pairs xs,ls⟩]⟩,st.left⟩):=by show _=_;rw [sl_tree (by have:=HL0.out;omega) (by rw [HP.out,HW.out]),hst]
   obtain ⟨np,hnp⟩:∃ np,(pairs xs).length=np:=⟨_,rfl⟩
   obtain ⟨nl,hnl⟩:∃ nl,ls.length=nl:=⟨_,rfl⟩
   rw [hnp] at op hsep
   rw [hnl] at ol hsep
   rw [hnp,hnl]
   have HOP:Hid (type_of% op):=op
   have HOL:Hid (type_of% ol):=ol
   have HSEP:Hid (type_of% hsep):=hsep
   have hA:Below w6.heap.size w6 (w6.alloc (.cells #[.slice a0 np c0,.slice a1 nl c1] 56)):=(Below.refl _ _).alloc (Nat.le_refl _) _
   have hA2:=hA.alloc hA.size (.cells #[.slice a0 np c0,.slice a1 nl c1] 56)
   have HAA:Hid (type_of% hA2):=hA2
   obtain ⟨B',hB1,hB2,hB3,hB4⟩:=splitT HG5.out.om (HB56.out.trans (hA2.mono HB56.out.size)) HG5.out.sz
   have hvb:∀ y,(Value.slice ax st.m.ts.length ct).ownBlock=some y→B' y∧y<w5.heap.size:=fun y e=>by obtain ⟨_,_,_,_,hv,_⟩:=hB3;exact hv y e
   have HVB:Hid (type_of% hvb):=hvb
   have HB1:Hid (type_of% hB1):=hB1
   have HB2:Hid (type_of% hB2):=hB2
   have HB3:Hid (type_of% hB3):=hB3
   have HB4:Hid (type_of% hB4):=hB4
   obtain ⟨htl,⟨z0,z1,z2,z3,z4,z5⟩,_⟩:=wr6 HG6.out.bx
   have HTN:Hid (st.m.ts.length≤100000):=by have h1:=HSZ.out;unfold M.sz at h1;show _≤_;omega
   obtain ⟨nt,hnt⟩:∃ nt,st.m.ts.length=nt:=⟨_,rfl⟩
   have HNT:Hid (st.m.ts.length=nt):=hnt
   rw [hnt] at z5 HTN HVB HB3
   clear hst op ol hsep hA hA2 hB1 hB2 hB3 hB4 hvb hnp hnl hnt z0 z1 z2 z3 z4
   go_wp2_with (at_builtin;refine wpl_pushT rfl _ _ rfl B' w5.heap.size _ st.m.ts HB3.out (w6.heap.size+1) a0 a1 c0 c1 np nl ⟨pairs xs,ls⟩ rfl rfl (by simp) (by simp) (HOP.out.below HAA.out) (HOL.out.below HAA.out) HSEP.out HB1.out (Nat.le_trans HL6.out.2 HAA.out.size) (by rw [HNT.out];have:=HTN.out;omega) ?_;intro a9 c9 w9 hok9 hg9;have HOK9:Hid (type_of% hok9):=hok9;have HFR:Hid (Fr B' ((w6.alloc (.cells #[.slice a0 np c0,.slice a1 nl c1] 56)).alloc (.cells #[.slice a0 np c0,.slice a1 nl c1] 56)) w9):=⟨hg9.os,hg9.tape,hg9.output,hg9.size,fun q hq hn=>hg9.block q hq (fun e=>hn (HVB.out q e.symm).1)⟩;have hx9:=(HG6.out.bx.below HAA.out).keptAt HFR.out.size (HFR.out.block T (Nat.lt_of_lt_of_le HG6.out.bx.1 HAA.out.size) (fun e=>by have:=HB2.out T e;have:=HG6.out.bl;omega));have HX9:Hid (type_of% hx9):=hx9;obtain ⟨htl9,⟨e0,e1,e2,e3,e4,e5⟩,g0,g1,g2,g3,g4,g5⟩:=wr6 hx9;rw [HNT.out] at e5;clear hok9 hg9 hx9 e0 e1 e2 e3 e4 g0 g1 g2 g3 g4)
   go_roundw
   case rel =>
    have hg:=HG6.out
    refine ⟨k+1,⟨⟨st.m.n,st.m.c,st.m.prior,st.m.base,st.m.ks,st.m.ts ++ [⟨pairs xs,ls⟩]⟩,st.left⟩,ak,ck,a9,c9,by omega,by go_num,by rw [← HLE.out],HLF.out,⟨?_,?_,hg.bl,?_⟩,(HYES.out _ HSL.out).1,(HYES.out _ HSL.out).2,?_⟩
    ·
     have h6:=HX9.out.set 5 (by simp [mcells]) (.slice a9 (st.m.ts.length+1) c9)
     simpa [mcells] using h6
    ·
     have h4:=HB4.out w9 (.slice a9 (st.m.ts.length+1) c9) ⟨st.m.n,st.m.c,st.m.prior,st.m.base,st.m.ks,st.m.ts ++ [⟨pairs xs,ls⟩]⟩ rfl HFR.out HOK9.out
     have h6:=om_set (o:=5) (x:=.slice a9 (st.m.ts.length+1) c9) h4 hg.bl
     simpa using h6
    ·
     have h1:=HFR.out.size
     have h2:=HAA.out.size
     have h3:=hg.sz
     simp [World.setCell] at h1 ⊢
     omega
    ·
     exact ((HF6.out.trans (fx_below HAA.out)).trans (HFR.out.mono (fun y hy=>.inr (HB2.out y hy)))).trans (fx_set _ 5 _)
   case measure=>simp [intOf];omega
  ·
   have HNN2:Hid (srdt s.data.toList ⟨zero,0⟩=none):=HNO.out (by rw [sl_tree (by have:=HL0.out;omega) (by rw [HP.out,HW.out]),hst])
   have hBX:=HBX.out w6 HF6.out
   obtain ⟨hrl,⟨r0,r1,r2,r3,r4,r5⟩,f0,f1,f2,f3,f4,f5⟩:=wr6 hBX.2
   have HBB:Hid (Below w.heap.size w w6):=hBX.1
   clear hst hBX
   go_wp2
   refine bodyPost_ret (v:=.tuple #[.agg #[.int .i64 0,.int .i64 0,.int .i64 0,.int .i64 0,.slice none 0 0,.slice none 0 0],.bool false]) (by rw [results_ct rfl];go_simp) rfl (sans_no HNN2.out ?_)
   exact (bel6 HBB.out HRW.out.1 _ _ _ _ _ _).alloc (bel6 HBB.out HRW.out.1 _ _ _ _ _ _).size _
 ·
  have HIW:Hid (Ls.IsS w5 (some ⟨yb,yo+1,none⟩) (ws.map Pc.ba)):=.inr ⟨yb,yo+1,rfl,hybl,fun j hj=>by
   have hj':j<ws.length:=by simpa using hj
   have:=HYC.out w5 rfl (j+1) ws[j] (by simp [hj'])
   rw [show yo+1+j=yo+(j+1) by omega,this]
   simp⟩
  have HCC:=strees w5 (some ⟨yb,yo+1,none⟩) (cp2-1) (ws.map Pc.ba) HIW.out (by rw [HLW.out];omega) HZW.out
  rw [HLW.out] at HCC
  have HCK:Hid (type_of% HCC):=HCC
  clear HCC HIW
  go_wp2_with fail
  refine (HCK.out).mono ?_
  rintro e w6 ⟨he,hB6⟩
  rw [bas_data] at he
  have HG6:Hid (Gm w6 T lo st.m ak ck ax ct):=HG5.out.below hB6
  have HF6:Hid (Fr (Fx T lo) w1 w6):=HF5.out.trans (fx_below hB6)
  have HL6:Hid (lo≤w5.heap.size∧w5.heap.size≤w6.heap.size):=⟨HG5.out.sz,hB6.size⟩
  have HB56:Hid (Below w5.heap.size w5 w6):=hB6
  clear hB6
  rcases he with ⟨xs,ls,u0,u1,hst,rfl,op,ol,hsep⟩ | ⟨hst,rfl⟩
  ·
   obtain ⟨a0,c0,rfl,_⟩:=op.isp
   obtain ⟨a1,c1,rfl,_⟩:=ol.isl
   have HSL:Hid (sLine st l=some ⟨⟨st.m.n,st.m.c,st.m.prior,st.m.base,st.m.ks,st.m.ts ++ [⟨pairs xs,ls⟩]⟩,st.left⟩):=by show _=_;rw [sl_tree (by have:=HL0.out;omega) (by rw [HP.out,HW.out]),hst]
   obtain ⟨np,hnp⟩:∃ np,(pairs xs).length=np:=⟨_,rfl⟩
   obtain ⟨nl,hnl⟩:∃ nl,ls.length=nl:=⟨_,rfl⟩
   rw [hnp] at op hsep
   rw [hnl] at ol hsep
   rw [hnp,hnl]
   have HOP:Hid (type_of% op):=op
   have HOL:Hid (type_of% ol):=ol
   have HSEP:Hid (type_of% hsep):=hsep
   have hA:Below w6.heap.size w6 (w6.alloc (.cells #[.slice a0 np c0,.slice a1 nl c1] 56)):=(Below.refl _ _).alloc (Nat.le_refl _) _
   have hA2:=hA.alloc hA.size (.cells #[.slice a0 np c0,.slice a1 nl c1] 56)
   have HAA:Hid (type_of% hA2):=hA2
   obtain ⟨B',hB1,hB2,hB3,hB4⟩:=splitT HG5.out.om (HB56.out.trans (hA2.mono HB56.out.size)) HG5.out.sz
   have hvb:∀ y,(Value.slice ax st.m.ts.length ct).ownBlock=some y→B' y∧y<w5.heap.size:=fun y e=>by obtain ⟨_,_,_,_,hv,_⟩:=hB3;exact hv y e
   have HVB:Hid (type_of% hvb):=hvb
   have HB1:Hid (type_of% hB1):=hB1
   have HB2:Hid (type_of% hB2):=hB2
   have HB3:Hid (type_of% hB3):=hB3
   have HB4:Hid (type_of% hB4):=hB4
   obtain ⟨htl,⟨z0,z1,z2,z3,z4,z5⟩,_⟩:=wr6 HG6.out.bx
   have HTN:Hid (st.m.ts.length≤100000):=by have h1:=HSZ.out;unfold M.sz at h1;show _≤_;omega
   obtain ⟨nt,hnt⟩:∃ nt,st.m.ts.length=nt:=⟨_,rfl⟩
   have HNT:Hid (st.m.ts.length=nt):=hnt
   rw [hnt] at z5 HTN HVB HB3
   clear hst op ol hsep hA hA2 hB1 hB2 hB3 hB4 hvb hnp hnl hnt z0 z1 z2 z3 z4
   go_wp2_with (at_builtin;refine wpl_pushT rfl _ _ rfl B' w5.heap.size _ st.m.ts HB3.out (w6.heap.size+1) a0 a1 c0 c1 np nl ⟨pairs xs,ls⟩ rfl rfl (by simp) (by simp) (HOP.out.below HAA.out) (HOL.out.below HAA.out) HSEP.out HB1.out (Nat.le_trans HL6.out.2 HAA.out.size) (by rw [HNT.out];have:=HTN.out;omega) ?_;intro a9 c9 w9 hok9 hg9;have HOK9:Hid (type_of% hok9):=hok9;have HFR:Hid (Fr B' ((w6.alloc (.cells #[.slice a0 np c0,.slice a1 nl c1] 56)).alloc (.cells #[.slice a0 np c0,.slice a1 nl c1] 56)) w9):=⟨hg9.os,hg9.tape,hg9.output,hg9.size,fun q hq hn=>hg9.block q hq (fun e=>hn (HVB.out q e.symm).1)⟩;have hx9:=(HG6.out.bx.below HAA.out).keptAt HFR.out.size (HFR.out.block T (Nat.lt_of_lt_of_le HG6.out.bx.1 HAA.out.size) (fun e=>by have:=HB2.out T e;have:=HG6.out.bl;omega));have HX9:Hid (type_of% hx9):=hx9;obtain ⟨htl9,⟨e0,e1,e2,e3,e4,e5⟩,g0,g1,g2,g3,g4,g5⟩:=wr6 hx9;rw [HNT.out] at e5;clear hok9 hg9 hx9 e0 e1 e2 e3 e4 g0 g1 g2 g3 g4)
   go_roundw
   case rel =>
    have hg:=HG6.out
    refine ⟨k+1,⟨⟨st.m.n,st.m.c,st.m.prior,st.m.base,st.m.ks,st.m.ts ++ [⟨pairs xs,ls⟩]⟩,st.left⟩,ak,ck,a9,c9,by omega,by go_num,by rw [← HLE.out],HLF.out,⟨?_,?_,hg.bl,?_⟩,(HYES.out _ HSL.out).1,(HYES.out _ HSL.out).2,?_⟩
    ·
     have h6:=HX9.out.set 5 (by simp [mcells]) (.slice a9 (st.m.ts.length+1) c9)
     simpa [mcells] using h6
    ·
     have h4:=HB4.out w9 (.slice a9 (st.m.ts.length+1) c9) ⟨st.m.n,st.m.c,st.m.prior,st.m.base,st.m.ks,st.m.ts ++ [⟨pairs xs,ls⟩]⟩ rfl HFR.out HOK9.out
     have h6:=om_set (o:=5) (x:=.slice a9 (st.m.ts.length+1) c9) h4 hg.bl
     simpa using h6
    ·
     have h1:=HFR.out.size
     have h2:=HAA.out.size
     have h3:=hg.sz
     simp [World.setCell] at h1 ⊢
     omega
    ·
     exact ((HF6.out.trans (fx_below HAA.out)).trans (HFR.out.mono (fun y hy=>.inr (HB2.out y hy)))).trans (fx_set _ 5 _)
   case measure=>simp [intOf];omega
  ·
   have HNN2:Hid (srdt s.data.toList ⟨zero,0⟩=none):=HNO.out (by rw [sl_tree (by have:=HL0.out;omega) (by rw [HP.out,HW.out]),hst])
   have hBX:=HBX.out w6 HF6.out
   obtain ⟨hrl,⟨r0,r1,r2,r3,r4,r5⟩,f0,f1,f2,f3,f4,f5⟩:=wr6 hBX.2
   have HBB:Hid (Below w.heap.size w w6):=hBX.1
   clear hst hBX
   go_wp2
   refine bodyPost_ret (v:=.tuple #[.agg #[.int .i64 0,.int .i64 0,.int .i64 0,.int .i64 0,.slice none 0 0,.slice none 0 0],.bool false]) (by rw [results_ct rfl];go_simp) rfl (sans_no HNN2.out ?_)
   exact (bel6 HBB.out HRW.out.1 _ _ _ _ _ _).alloc (bel6 HBB.out HRW.out.1 _ _ _ _ _ _).size _
set_option maxHeartbeats 8000000 in
theorem smEND (w:World) (s:ByteArray):smB.2.2.2.2.1 w s:=by
 intro HNN z1 W w1 cp xb xo L HRT n R T lo HBR HXB HNX HBW HRW HL1 HLN HTO HPM hn3 hs3 z2 z3 wr u3 u8 u9 u10 u11 u12 u13 u14 u15 u16 u17 u18 u19 u31 u32 u33 u34 u35 u36 u37 u38 u39 u40 u41 u42 u43 u44 u45 u46 u47 u48 u49 u50 u51 u52 u53 u54 u55 u56 u57 u58 u59 u60 u61 u62 u63 u64 u65 u66 u67 u68 u69 u70 u71 u72 u73 u74 u75 u76 u77 u78 u79 u80 u81 u82 u83 u84 u85 u86 u87 u88 u89 u90 u91 u92 u93 u94 u95 u96 u97 u98 u99 u100 u101 u102 u103 u104 u105 u106 u107 u108 u109 u110 u111 u112 u113 u114 u115 u116 u117 u118 u119 u120 u121 u122 u123 u124 u125 u126 u127 u128 u129 u130 u131 u132 u133 u134 u135 u136 u137 u138 u139 u140 u141 u142 u143 u144 u145 u146 u147 u148 u149 u150 u151 u152 u153 u154 u155 u156 u157 u158 u159 u160 u161 u162 u163 u164 u165 u166 u167 u168 u169 u170 u171 u172 u173 u174 u175 u176 u177 u178 u179 u180 u181 u182 u183 u184 u185 u186 u187 u188 u189 u190 u191 u192 u193 u194 u195 u196 u197 u198 u199 u200 u201 u202 u203 u204 u205 u206 u207 u208 k st ak ck ax ct hk hf HRD HOK HF HG HLF HSZ hlw lf HLE hl0 hl40 hlt
 obtain rfl:k=n:=by omega
 have HDN:Hid (srdt s.data.toList ⟨zero,0⟩=some st):=by
  show _=_
  rw [HRT.out,HRD.out,List.drop_of_length_le (by rw [HLN.out];exact Nat.le_refl _)]
  rfl
 obtain ⟨ak',ck',ax',ct',e1,e2,hrm⟩:=HG.out.om.rm
 injection e1 with e1 _ e3
 injection e2 with e2 _ e4
 subst e1;subst e2;subst e3;subst e4
 obtain ⟨htl,⟨c0,c1,c2,c3,c4,c5⟩,_⟩:=wr6 HG.out.bx
 obtain ⟨g1,g2,g3⟩:=HRW.out
 have HB7:Hid (Below w.heap.size w wr):=fx_bel hf (by omega) (by omega) HBW.out
 have HBR7:Hid (Wr wr R 0 [.int .i64 0,.int .i64 0,.int .i64 0,.int .i64 0,.slice none 0 0,.slice none 0 0]):=fr_w (w0:=w) HBR.out hf (by omega) (by omega)
 have hRT:¬ R=T:=by omega
 have hTR:¬ T=R:=by omega
 clear hf g1 g2 g3
 go_wp2_with fail
 refine (Mt.smtext wr ak ax ck ct st.m hrm (by have:=HSZ.out;omega)).mono ?_
 rintro e w2 ⟨rfl,hB2⟩
 have HG2:Hid (Gm w2 T lo st.m ak ck ax ct):=HG.out.below hB2
 obtain ⟨htl2,⟨d0,d1,d2,d3,d4,d5⟩,_⟩:=wr6 HG2.out.bx
 obtain ⟨hrl,⟨r0,r1,r2,r3,r4,r5⟩,f0,f1,f2,f3,f4,f5⟩:=wr6 (HBR7.out.below hB2)
 have HB2:Hid (Below w.heap.size w w2):=HB7.out.trans (hB2.mono HB7.out.size)
 have hte:(ByteArray.mk (mtext st.m).toArray).data.toList=mtext st.m:=by simp
 generalize ByteArray.mk (mtext st.m).toArray=t at hte ⊢
 have HTE:Hid (t.data.toList=mtext st.m):=hte
 clear hte hrm hB2 c0 c1 c2 c3 c4 c5
 by_cases h1:t=s
 ·
  have HR:Hid (Reads s.data.toList st.m true):=sreads_yes HNN.out (by rw [← HTE.out,h1])
  have q1:=Ls.tl_eq h1
  clear h1
  go_wp2
  refine bodyPost_ret (v:=.tuple #[.agg #[.int .i64 st.m.n,.int .i64 st.m.c,.int .i64 st.m.prior,.int .i64 st.m.base,.slice ak st.m.ks.length ck,.slice ax st.m.ts.length ct],.bool true]) (by rw [results_ct rfl];go_simp) rfl ⟨st.m,true,_,_,HR.out,rfl,?_,HSZ.out,?_⟩
  ·
   have hRl:R<lo:=by have:=HRW.out;omega
   exact (om_set (om_set (om_set (om_set (om_set (om_set HG2.out.om hRl) hRl) hRl) hRl) hRl) hRl).mono (fun y hy=>by have h1:=HRW.out;show _≤_;omega)
  ·
   exact bel6 HB2.out HRW.out.1 _ _ _ _ _ _
 ·
  have HR:Hid (Reads s.data.toList zero false):=sreads_no HDN.out (fun e=>h1 (Mt.ba_ext (HTE.out.trans e)))
  have q1:=Ls.tl_ne h1
  clear h1
  go_wp2
  refine bodyPost_ret (v:=.tuple #[.agg #[.int .i64 0,.int .i64 0,.int .i64 0,.int .i64 0,.slice none 0 0,.slice none 0 0],.bool false]) (by rw [results_ct rfl];go_simp) rfl (ans_no HR.out ?_)
  exact bel6 HB2.out HRW.out.1 _ _ _ _ _ _
theorem smread (w:World) (s:ByteArray) (hs:s.size≤281474976710656) :
  Calls Tryz.prog 12 #[.string s] w fun e w'=>Ans w s.data.toList e w' :=
 smB.2.2.2.2.2 w s hs (smARMA w s) (smARMB w s) (smARMC w s) (smARMD w s) (smEND w s)
end Go.Proofs.YtaojoamldoofpaaGreatDoor.Rs
