/-
  Contracts that the proof leans on, put together in the order in which they build.
-/
import Derived.Test.YtaojoamldoofpaaGreatDoorPart27
import Derived.Test.YtaojoamldoofpaaGreatDoorPart8
import Derived.Test.YtaojoamldoofpaaGreatDoorPart15
import Derived.Shelf.Strings.Builder1
import Derived.Shelf.Strings.BuilderK
import Derived.Shelf.LaysM
import Derived.Shelf.Strconv.Itoa3
import Derived.Shelf.Strconv.Clone
import Derived.Shelf.LaysC
import Derived.Shelf.Strconv.ErrVarAll
import Derived.Shelf.Strings.Cut
import Derived.Shelf.Strings.Shaped
import Derived.Shelf.Strings.Split
import Derived.Shelf.Strings.SplitShaped
import Derived.Shelf.Strings.FieldsAny
import Derived.Test.YtaojoamldoofpaaGreatDoorProg
import Derived.Test.YtaojoamldoofpaaGreatDoorPart24
import Derived.Lay
import Derived.Lib.LaidTab
import Derived.Lib.LaidU8
import Derived.Stop.LaidErr
import Derived.Stop.Joined
import Derived.LaidMore
import Derived.Test.YtaojoamldoofpaaGreatDoorPart23
import Derived.Test.YtaojoamldoofpaaGreatDoorPart26
import Derived.Test.YtaojoamldoofpaaGreatDoorPart21
import Derived.Test.YtaojoamldoofpaaGreatDoorPart1
set_option linter.unusedVariables false
namespace Go.Proofs.YtaojoamldoofpaaGreatDoor.Md
set_option maxRecDepth 100000
open Go.RowKit
open Tm (IsT szT szT_at)
open Kt (Kv IsK ktot ktot_at)
open Sv (new2 Wr)
set_option maxHeartbeats 1000000 in
theorem sameTrees (w:World) (a b:Option Addr) (ca cb:Nat) (xs:List Tr.T) (hx:IsT w a xs) (hy:IsT w b xs) (hl:xs.length+szT xs≤1048576) :
  Calls Tryz.prog 31 #[.slice a xs.length ca,.slice b xs.length cb] w fun e w'=>e=.returned (.bool true)∧Below w.heap.size w w':=by
 have hb:((xs.length:Int) != (xs.length:Int))=false:=by simp
 go_enter Tryz.func31,Tryz.ntmps31
 go_wp2
 go_loopw [5] (fun i wr=>∃ k:Nat,k≤xs.length∧i=.int .i64 k∧Below w.heap.size w wr) (fun i _=>xs.length-(intOf i).toNat)
 case atStart=>exact ⟨0,Nat.zero_le _,rfl,Below.refl _ _⟩
 case round =>
  obtain ⟨k,hk,rfl,hB⟩:=hrel
  by_cases hlt:k<xs.length
  ·
   rcases hx.below hB with rfl | ⟨xb,xo,rfl,hxb,hxc⟩
   ·
    simp at hlt
   ·
    rcases hy.below hB with rfl | ⟨yb,yo,rfl,hyb,hyc⟩
    ·
     simp at hlt
    ·
     obtain ⟨v0,v1,⟨cx0,cx1⟩,a0,c0,a1,c1,rfl,rfl,i0,i1⟩:=hxc k hlt
     obtain ⟨u0,u1,⟨cy0,cy1⟩,b0,d0,b1,d1,rfl,rfl,j0,j1⟩:=hyc k hlt
     have hz:xs[k].sp.length+xs[k].lv.length≤szT xs:=szT_at xs k hlt
     clear hxc hyc
     go_wp2
     go_region_with (go_at_call 64;refine (Tm.sameTree _ _ _ _ _ _ _ _ _ xs[k] (by exact i0) (by exact i1) (by exact j0) (by exact j1) (by omega)).mono ?_;rintro e w1 ⟨rfl,hB1⟩)
     all_goals
      have hB:Below w.heap.size w w1:=by first | exact hB.trans (hB1.mono hB.size) | exact hB.drew.trans (hB1.mono hB.size)
      clear hB1
      go_wp2
      go_roundw
      case rel=>exact ⟨k+1,by omega,by go_num,hB⟩
      case measure=>simp [intOf];omega
  ·
   go_wp2
   go_ret
   exact ⟨rfl,hB⟩
theorem li_drew {w:World} {n:Nat} {a:Option Addr} {xs:List Int} (h:Li.IsL w a xs):Li.IsL (w.drewN n) a xs:=h
theorem ls_drew {w:World} {n:Nat} {a:Option Addr} {xs:List ByteArray} (h:Ls.IsS w a xs):Ls.IsS (w.drewN n) a xs:=h
theorem same_q (w:World) (a b:Option Addr) (ca cb:Nat) (xs:List Int) (hx:Li.IsL w a xs) (hy:Li.IsL w b xs) (hl:xs.length≤1048576) :
  Calls Tryz.prog 30 #[.slice a xs.length ca,.slice b xs.length cb] w fun e w'=>e=.returned (.bool true)∧∃ n,w'=w.drewN n:=by
 refine (Li.same_any w a b ca cb xs xs hx hy hl hl).mono ?_
 rintro e w' ⟨rfl,h⟩
 exact ⟨by rw [Li.eqs_self],h⟩
theorem sametx_q (w:World) (a b:Option Addr) (ca cb:Nat) (xs:List ByteArray) (hx:Ls.IsS w a xs) (hy:Ls.IsS w b xs) (hl:xs.length≤1048576) :
  Calls Tryz.prog 29 #[.slice a xs.length ca,.slice b xs.length cb] w fun e w'=>e=.returned (.bool true)∧∃ n,w'=w.drewN n:=by
 refine (Ls.same_any w a b ca cb xs xs hx hy hl hl).mono ?_
 rintro e w' ⟨rfl,h⟩
 exact ⟨by rw [Ls.eqs_self],h⟩
set_option maxHeartbeats 4000000 in
theorem sameModel (w:World) (ak ax bk bt:Option Addr) (ck ct dk dt:Nat) (m:M) (hx:Rm w ak ax m) (hy:Rm w bk bt m) (hl:m.sz≤1048576) :
  Calls Tryz.prog 10 #[.agg #[.int .i64 m.n,.int .i64 m.c,.int .i64 m.prior,.int .i64 m.base,.slice ak m.ks.length ck,.slice ax m.ts.length ct],.agg #[.int .i64 m.n,.int .i64 m.c,.int .i64 m.prior,.int .i64 m.base,.slice bk m.ks.length dk,.slice bt m.ts.length dt]] w fun e w'=>e=.returned (.bool true)∧Below w.heap.size w w':=by
 unfold M.sz at hl
 have hks:=Kt.ktot_ksz m.ks
 have e0:(!(m.n == m.n && m.c == m.c))=false:=by simp
 have e1:(m.prior != m.prior)=false:=by simp
 have e2:(m.base != m.base)=false:=by simp
 have e3:((m.ks.length:Int) != (m.ks.length:Int))=false:=by simp
 go_enter Tryz.func10,Tryz.ntmps10
 go_wp2_with fail
 obtain ⟨W,hW,hsz,hB,bx,bY⟩:=new2 w [.int .i64 m.n,.int .i64 m.c,.int .i64 m.prior,.int .i64 m.base,.slice ak m.ks.length ck,.slice ax m.ts.length ct] [.int .i64 m.n,.int .i64 m.c,.int .i64 m.prior,.int .i64 m.base,.slice bk m.ks.length dk,.slice bt m.ts.length dt] 29 29
 rw [hW]
 clear hW
 have hx:=hx.below hB
 have hy:=hy.below hB
 obtain ⟨_,⟨x0,x1,x2,x3,x4,x5⟩,_⟩:=wr6 bx
 obtain ⟨_,⟨y0,y1,y2,y3,y4,y5⟩,_⟩:=wr6 bY
 go_wp2
 go_loopw [5] (fun q wr=>∃ j:Nat,j≤m.ks.length∧q=.int .i64 j∧Below W.heap.size W wr) (fun q _=>m.ks.length-(intOf q).toNat)
 case atStart=>exact ⟨0,Nat.zero_le _,rfl,Below.refl _ _⟩
 case round =>
  clear x0 x1 x2 x3 x4 x5 y0 y1 y2 y3 y4 y5
  obtain ⟨j,hj,rfl,hb⟩:=hrel
  obtain ⟨_,⟨x0,x1,x2,x3,x4,x5⟩,_⟩:=wr6 (bx.below hb)
  obtain ⟨_,⟨y0,y1,y2,y3,y4,y5⟩,_⟩:=wr6 (bY.below hb)
  have HB:Hid (Below W.heap.size W wr):=hb
  by_cases hlt:j<m.ks.length
  ·
   rcases hx.k.below hb with h0 | ⟨xb,xo,rfl,hxb,hxc⟩
   ·
    rw [h0] at hlt;simp at hlt
   rcases hy.k.below hb with h0 | ⟨yb,yo,rfl,hyb,hyc⟩
   ·
    rw [h0] at hlt;simp at hlt
   obtain ⟨a0,c0,a1,c1,⟨p0,p1⟩,i0,i1⟩:=hxc j hlt
   obtain ⟨b0,d0,b1,d1,⟨q0,q1⟩,k0,k1⟩:=hyc j hlt
   have hta:=ktot_at m.ks j hlt
   obtain ⟨t,ht⟩:∃ t,m.ks[j]=t:=⟨_,rfl⟩
   rw [ht] at p0 p1 i0 i1 q0 q1 k0 k1 hta
   have hl0:t.ws.length≤1048576:=by omega
   have hl1:t.vs.length≤1048576:=by omega
   clear hxc hyc ht hb
   go_wp2
   go_quiet (first
    | (go_at_call 30;refine Calls.quiet_of (same_q _ _ _ _ _ t.vs (li_drew i1) (li_drew k1) hl1))
    | (go_at_call 29;refine Calls.quiet_of (sametx_q _ _ _ _ _ t.ws (ls_drew i0) (ls_drew k0) hl0)))
   go_wp2
   go_roundw
   case rel=>exact ⟨j+1,by omega,by go_num,Go.below_drewN HB.out _⟩
   case measure=>simp [intOf];omega
  ·
   have hx2:=hx.t.below hb
   have hy2:=hy.t.below hb
   clear hb
   go_wp2_with fail
   refine (sameTrees _ _ _ _ _ m.ts hx2 hy2 (by omega)).mono ?_
   rintro e w3 ⟨rfl,hb⟩
   have hB:=hB.trans ((HB.out.trans (hb.mono HB.out.size)).mono hB.size)
   go_wp2
   go_ret
   exact ⟨rfl,hB⟩
end Go.Proofs.YtaojoamldoofpaaGreatDoor.Md
namespace Go.Proofs.YtaojoamldoofpaaGreatDoor.Pk
set_option maxRecDepth 20000
open Go.RowKit
end Go.Proofs.YtaojoamldoofpaaGreatDoor.Pk
namespace Go.Proofs
open Go.Shelf
def Tryz.lays199_ren:Go.Shelf.Ren:=⟨fun | 199=>150 | 261=>167 | 311=>177 | 312=>178 | n=>n,fun | 21=>21 | 4=>4 | 51=>73 | 141=>213 | 0=>0 | 196=>228 | 193=>225 | 3=>3 | 198=>231 | 49=>229 | 194=>226 | 201=>234 | 226=>238 | 46=>111 | 227=>239 | n=>n,fun | 6=>4 | n=>n⟩
theorem Tryz.lays199:Go.Proofs.Lays.n199 Tryz.prog Tryz.lays199_ren:={
 mixed:=by kernel_rfl
 f199:=Tryz.func150.trans (congrArg some (by kernel_rfl))
 f261:=Tryz.func167.trans (congrArg some (by kernel_rfl))
 f311:=Tryz.func177.trans (congrArg some (by kernel_rfl))
 f312:=Tryz.func178.trans (congrArg some (by kernel_rfl))
 t0:=Tryz.underlying0
 a0:=Tryz.isAgg0
 z0:=Tryz.sizeOf0
 v0:=Tryz.zeroValue0
 t3:=Tryz.underlying3
 a3:=Tryz.isAgg3
 z3:=Tryz.sizeOf3
 v3:=Tryz.zeroValue3
 t4:=Tryz.underlying4
 a4:=Tryz.isAgg4
 z4:=Tryz.sizeOf4
 v4:=Tryz.zeroValue4
 t21:=Tryz.underlying21
 a21:=Tryz.isAgg21
 z21:=Tryz.sizeOf21
 v21:=Tryz.zeroValue21
 t46:=Tryz.underlying111
 a46:=Tryz.isAgg111
 z46:=Tryz.sizeOf111
 v46:=Tryz.zeroValue111
 t49:=Tryz.underlying229
 a49:=Tryz.isAgg229
 z49:=Tryz.sizeOf229
 v49:=Tryz.zeroValue229
 t51:=Tryz.underlying73
 a51:=Tryz.isAgg73
 z51:=Tryz.sizeOf73
 v51:=Tryz.zeroValue73
 t141:=Tryz.underlying213
 a141:=Tryz.isAgg213
 z141:=Tryz.sizeOf213
 v141:=Tryz.zeroValue213
 t193:=Tryz.underlying225
 a193:=Tryz.isAgg225
 z193:=Tryz.sizeOf225
 v193:=Tryz.zeroValue225
 t194:=Tryz.underlying226
 a194:=Tryz.isAgg226
 z194:=Tryz.sizeOf226
 v194:=Tryz.zeroValue226
 t196:=Tryz.underlying228
 a196:=Tryz.isAgg228
 z196:=Tryz.sizeOf228
 v196:=Tryz.zeroValue228
 t198:=Tryz.underlying231
 a198:=Tryz.isAgg231
 z198:=Tryz.sizeOf231
 v198:=Tryz.zeroValue231
 t201:=Tryz.underlying234
 a201:=Tryz.isAgg234
 z201:=Tryz.sizeOf234
 v201:=Tryz.zeroValue234
 t226:=Tryz.underlying238
 a226:=Tryz.isAgg238
 z226:=Tryz.sizeOf238
 v226:=Tryz.zeroValue238
 t227:=Tryz.underlying239
 a227:=Tryz.isAgg239
 z227:=Tryz.sizeOf239
 v227:=Tryz.zeroValue239
 g6:=by kernel_rfl }
end Go.Proofs
namespace Go.Proofs.YtaojoamldoofpaaGreatDoor.Vr
set_option maxRecDepth 100000
open Go.RowKit Go.ChangeShapes Go.WideShapes
theorem star : "*" ++ "errors.errorString" = "*errors.errorString" := by decide
theorem rowErr (u : TypeId) (h : Tryz.prog.typeName? 3 u = some "*errors.errorString") : u = 222 :=
 typeName_ptr_named (nm := "errors.errorString") (by rw [star]; kernel_rfl) (by kernel_rfl) (by decide) u (by rw [star]; exact h)
theorem tER:(Tryz.prog.globals[3]?).map (·.type)=some 92:=by kernel_rfl
theorem tES:(Tryz.prog.globals[2]?).map (·.type)=some 92:=by kernel_rfl
theorem tAS:(Tryz.prog.globals[1]?).map (·.type)=some 189:=by kernel_rfl
def lst:List (String × DataW Unit):=Rows.fnModelBackRow.laid
theorem vs_of {w:World} (hL:laidMet Tryz.prog lst w) (hsh:w.ShapedOpen Tryz.prog):Rm.Vs w:=by
 have hL : laidMet Tryz.prog [("math/bits.deBruijn32tab", Rows.laid_math_bits_deBruijn32tab), ("math/bits.deBruijn64tab", Rows.laid_math_bits_deBruijn64tab), ("internal/strconv.uint64pow10", Rows.laid_internal_strconv_uint64pow10), ("unicode/utf8.acceptRanges", Rows.laid_unicode_utf8_acceptRanges), ("strconv.ErrRange", Rows.laid_strconv_ErrRange), ("strconv.ErrSyntax", Rows.laid_strconv_ErrSyntax), ("unicode.White_Space", Rows.laid_unicode_White_Space), ("strings.asciiSpace", Rows.laid_strings_asciiSpace), ("unicode/utf8.first", Rows.laid_unicode_utf8_first)] w := hL
 have hM:∃ m,w.cell? ⟨0,0,none⟩=some (.int .i64 m):=Go.Proofs.cell_of_shapedOpen_int (zero:=#[.int .i64 0]) (t:=3) hsh (of_decide_eq_true (by kernel_rfl)) (by kernel_rfl) rfl (by kernel_rfl) (by kernel_rfl) Tryz.underlying3
 have hT:Nu.Tab w:=Lib.tabIs_of_head Nu.gTab Nu.tTab Tryz.underlying215 Tryz.underlying199 (by kernel_rfl) (by kernel_rfl) (laidMet.tail (laidMet.tail hL))
 have hL3:=laidMet.tail (laidMet.tail (laidMet.tail (laidMet.tail hL)))
 obtain ⟨a0,s0,hv0,-,-,-⟩:=laid_sentinel hL3 Rm.gER tER Tryz.underlying92 rowErr Tryz.underlying222 Tryz.underlying224 rfl rfl Tryz.underlying9 (by kernel_rfl) (by kernel_rfl)
 obtain ⟨a1,s1,hv1,-,-,-⟩:=laid_sentinel (laidMet.tail hL3) Rm.gES tES Tryz.underlying92 rowErr Tryz.underlying222 Tryz.underlying224 rfl rfl Tryz.underlying9 (by kernel_rfl) (by kernel_rfl)
 have hL5:=laidMet.tail (laidMet.tail hL3)
 have hAS : Lib.TabIs Tryz.prog w "strings.asciiSpace" .u8 Lib.asciiSpaceTab := Lib.tabIs_of_head Rm.gAS tAS Tryz.underlying189 Tryz.underlying5 (by kernel_rfl) (by kernel_rfl) (laidMet.tail hL5)
 have hWS:Lib.WhiteTab 4 w:=whiteTab_of_reads Tryz.lays199 ⟨by kernel_rfl,by kernel_rfl,by kernel_rfl,by kernel_rfl,by kernel_rfl,by kernel_rfl,by kernel_rfl,by kernel_rfl⟩ (Lib.laidMet.reads hL5 (.head _))
 exact ⟨hT,hM,⟨_,_,hv1⟩,⟨_,_,hv0⟩,hAS,hWS⟩
noncomputable def wit (os:Os):World:=(World.holding Tryz.prog os ⟨#[],#[],[]⟩).layVars Tryz.prog lst
theorem wit_os (os:Os):(wit os).os=os:=World.layVars_os _ _ _
theorem met_over {P:Program} {w0:World} {laid:List (String × DataW Unit)} (hf:w0.layFits P laid []=true) (hi:w0.layIfaces P laid (w0.layVars P laid)=true):laidMet P laid (w0.layVars P laid):=by
 have e1:(laid.filter fun x=>(laid.map (·.1)).contains x.1)=laid:=List.filter_eq_self.2 fun x hx=>List.contains_iff_mem.2 (List.mem_map.2 ⟨x,hx,rfl⟩)
 have e2:(laid.filter fun x=>!(laid.map (·.1)).contains x.1)=[]:=List.filter_eq_nil_iff.2 fun x hx=>by rw [List.contains_iff_mem.2 (List.mem_map.2 ⟨x,hx,rfl⟩)];simp
 exact laidMet_layVars (w0:=w0) (laid.map (·.1)) [] (by rw [e1]) (by rw [e1];exact hf) (by rw [e1];exact hi) (by rw [e2];exact LaidIn.none)
theorem wit_dat (os:Os):laidMet Tryz.prog lst (wit os):=met_over (by kernel_rfl) (by kernel_rfl)
theorem wit_met (os:Os) (args:Array Value):laidMetH Tryz.prog lst ((wit os).forCall (fun _ _=>0) ⟨#[],args,[]⟩).memory:=by
 rw [MakeChecks.laidMetH_plain _ _ _ (by kernel_rfl)]
 exact (wit_dat os).of_heap (by simp [World.memory,World.forCall,Input.heap])
end Go.Proofs.YtaojoamldoofpaaGreatDoor.Vr
namespace Go.Proofs.YtaojoamldoofpaaGreatDoor.Rs
set_option maxRecDepth 20000
open Ma (isDig scan)
def dg:List UInt8→List UInt8
 | []=>[]
 | c :: r=>if c=45 then r else c :: r
def sgn (s:List UInt8):Int:=if dg s=s then (scan (dg s):Int) else -(scan (dg s):Int)
open Classical in
noncomputable def snum (s:List UInt8):Option Int:=if (1≤(dg s).length∧(dg s).length≤11)∧(∀ c ∈ dg s,isDig c)∧Lib.itoa (sgn s)=s then some (sgn s) else none
theorem snum_no1 {s:List UInt8} (h:¬ (1≤(dg s).length∧(dg s).length≤11)):snum s=none:=if_neg (fun e=>h e.1)
theorem snum_no2 {s:List UInt8} (h:¬ ∀ c ∈ dg s,isDig c):snum s=none:=if_neg (fun e=>h e.2.1)
theorem snum_no3 {s:List UInt8} (h:¬ Lib.itoa (sgn s)=s):snum s=none:=if_neg (fun e=>h e.2.2)
theorem snum_yes {s:List UInt8} (h:1≤(dg s).length∧(dg s).length≤11) (h2:∀ c ∈ dg s,isDig c) (h3:Lib.itoa (sgn s)=s):snum s=some (sgn s):=if_pos ⟨h,h2,h3⟩
theorem scan_lt:∀ (l:List UInt8) (n m:Nat),n<m→l.foldl Ma.step n<m * 10 ^ l.length
 | [],n,m,h=>by simpa using h
 | c :: l,n,m,h=>by
  have h1:Ma.step n c<m * 10:=by
   unfold Ma.step
   split <;> omega
  have:=scan_lt l (Ma.step n c) (m * 10) h1
  simp only [List.foldl_cons,List.length_cons,Nat.pow_succ]
  rw [show m * (10 ^ l.length * 10)=m * 10 * 10 ^ l.length by rw [Nat.mul_comm (10 ^ l.length) 10,← Nat.mul_assoc]]
  exact this
theorem pow_mono11 {k:Nat} (h:k≤11):10 ^ k≤100000000000:=Nat.pow_le_pow_right (by decide) h
theorem scan_bd (l:List UInt8) (h:l.length≤11):scan l<100000000000:=by
 have h1:=scan_lt l 0 1 (by decide)
 have h2:=pow_mono11 h
 unfold scan
 omega
theorem dec_len11 (u:Nat) (h:u<100000000000):(Lib.decDigits u).length≤11:=by
 have key:∀ (k u:Nat),u<10 ^ (k+1)→(Lib.decDigits u).length≤k+1:=by
  intro k
  induction k with
  | zero=>intro u hu;rw [Lib.decDigits,dif_pos (by simpa using hu)];simp
  | succ k ih =>
   intro u hu
   rw [Lib.decDigits]
   split
   ·
    simp
   ·
    have:=ih (u / 10) (by rw [Nat.pow_succ] at hu;omega)
    rw [List.length_append]
    simp
    omega
 exact key 10 u (by simpa using h)
theorem snum_itoa {x:Int} (h : -100000000000<x∧x<100000000000):snum (Lib.itoa x)=some x:=by
 by_cases hn:x<0
 ·
  have e:Lib.itoa x=45 :: Lib.decDigits x.natAbs:=by unfold Lib.itoa;rw [if_pos hn]
  have hd:dg (Lib.itoa x)=Lib.decDigits x.natAbs:=by rw [e];simp [dg]
  have hs:sgn (Lib.itoa x)=x:=by
   unfold sgn
   rw [hd,if_neg (by rw [e];intro h;have:=congrArg List.length h;simp at this)]
   unfold scan
   rw [Ma.dec_scan]
   omega
  have hl:=dec_len11 x.natAbs (by omega)
  have h0:=List.length_pos_iff.2 (Ma.dec_ne x.natAbs)
  rw [snum_yes (by rw [hd];omega) (by rw [hd];exact Ma.dec_all _) (by rw [hs]),hs]
 ·
  have e:Lib.itoa x=Lib.decDigits x.toNat:=by unfold Lib.itoa;rw [if_neg hn]
  have hd:dg (Lib.itoa x)=Lib.itoa x:=by
   rw [e]
   cases hq:Lib.decDigits x.toNat with
   | nil=>exact absurd hq (Ma.dec_ne _)
   | cons c r =>
    have:=Ma.dec_all x.toNat c (by rw [hq];simp)
    refine if_neg ?_
    rintro rfl
    unfold isDig at this
    revert this
    decide
  have hs:sgn (Lib.itoa x)=x:=by
   unfold sgn
   rw [hd,if_pos rfl,e]
   unfold scan
   rw [Ma.dec_scan]
   omega
  have hl:=dec_len11 x.toNat (by omega)
  have h0:=List.length_pos_iff.2 (Ma.dec_ne x.toNat)
  rw [snum_yes (by rw [hd,e];omega) (by rw [hd,e];exact Ma.dec_all _) (by rw [hs]),hs]
end Go.Proofs.YtaojoamldoofpaaGreatDoor.Rs
namespace Go.Proofs.YtaojoamldoofpaaGreatDoor.Rs
set_option maxRecDepth 20000
open Mt (nums nums_cons nums_nil)
def sps:List (List UInt8)→List UInt8
 | []=>[]
 | x :: ws=>32 :: (x ++ sps ws)
theorem sps_app:∀ (a b:List (List UInt8)),sps (a ++ b)=sps a ++ sps b
 | [],b=>rfl
 | x :: a,b=>by simp [sps,sps_app a b]
theorem nums_sps:∀ l:List Int,nums l=sps (l.map Lib.itoa)
 | []=>rfl
 | x :: l=>by rw [nums_cons,nums_sps l];simp [sps]
theorem pieces_sps (a:List UInt8) (ha:(32:UInt8) ∉ a):∀ (ws:List (List UInt8)),(∀ x ∈ ws,(32:UInt8) ∉ x)→Pc.pieces 32 (a ++ sps ws)=a :: ws:=by
 intro ws
 induction ws generalizing a with
 | nil=>intro _;rw [sps,List.append_nil];exact Pc.pieces_no 32 a ha
 | cons x ws ih =>
  intro h
  rw [sps,Pc.pieces_cut 32 _ a ha,ih x (h x (by simp)) (fun y hy=>h y (by simp [hy]))]
theorem itoa_no32 (x:Int):(32:UInt8) ∉ Lib.itoa x:=fun h=>(Rm.dig_facts (Rm.itoa_chars x 32 h)).2.2.2.1 rfl
theorem itoa_no58 (x:Int):¬ Lib.itoa x=[58]:=fun h=>(Rm.dig_facts (Rm.itoa_chars x 58 (by rw [h];simp))).2.2.2.2 rfl
noncomputable def stree:List (List UInt8)→Bool→List Int→List Int→Option (List Int × List Int)
 | [],_,a,l=>some (a,l)
 | p :: ps,leaf,a,l=>if p=[58]∧leaf=false then stree ps true a l else match snum p with
  | none=>none
  | some n=>if leaf=true then stree ps leaf a (l ++ [n]) else stree ps leaf (a ++ [n]) l
def b11 (x:Int):Prop:=-100000000000<x∧x<100000000000
theorem stree_leaves:∀ (l:List Int) (a b:List Int),(∀ x ∈ l,b11 x)→stree (l.map Lib.itoa) true a b=some (a,b ++ l)
 | [],a,b,_=>by simp [stree]
 | x :: l,a,b,h=>by
  have ih:=stree_leaves l a (b ++ [x]) (fun y hy=>h y (by simp [hy]))
  rw [List.map_cons,stree,if_neg (by simp),snum_itoa (h x (by simp))]
  simp only [if_true]
  rw [ih]
  simp
theorem stree_back:∀ (s l a:List Int),(∀ x ∈ s,b11 x)→(∀ x ∈ l,b11 x)→stree (s.map Lib.itoa ++ [58] :: l.map Lib.itoa) false a []=some (a ++ s,l)
 | [],l,a,_,h=>by
  have:=stree_leaves l a [] h
  rw [List.map_nil,List.nil_append,stree,if_pos ⟨rfl,rfl⟩,this]
  simp
 | x :: s,l,a,h,h'=>by
  have ih:=stree_back s l (a ++ [x]) (fun y hy=>h y (by simp [hy])) h'
  rw [List.map_cons,List.cons_append,stree,if_neg (fun e=>itoa_no58 x e.1),snum_itoa (h x (by simp))]
  simp only [Bool.false_eq_true,if_false]
  rw [ih]
  simp
theorem stree_len:∀ (ps:List (List UInt8)) (leaf:Bool) (a l a' l':List Int),stree ps leaf a l=some (a',l')→a'.length+l'.length≤a.length+l.length+ps.length
 | [],leaf,a,l,a',l',h=>by
  simp [stree] at h
  obtain ⟨rfl,rfl⟩:=h
  simp
 | p :: ps,leaf,a,l,a',l',h=>by
  unfold stree at h
  split at h
  ·
   have:=stree_len ps true a l a' l' h
   simp only [List.length_cons];omega
  ·
   split at h
   ·
    cases h
   ·
    split at h
    ·
     have:=stree_len ps leaf a _ a' l' h
     simp only [List.length_append,List.length_cons,List.length_nil] at this ⊢;omega
    ·
     have:=stree_len ps leaf _ l a' l' h
     simp only [List.length_append,List.length_cons,List.length_nil] at this ⊢;omega
end Go.Proofs.YtaojoamldoofpaaGreatDoor.Rs
namespace Go.Proofs.YtaojoamldoofpaaGreatDoor.Rs
set_option maxRecDepth 20000
open Md (M)
open Kt (Kv)
open Mt (nums nums_cons nums_nil head ctxt ttxt ctxts ttxts body whole wline wlines)
open Rm (St zero addW wModel wCtr wTree wSum pairs flat itoa_no nums_no)
noncomputable def snums:List (List UInt8)→Option (List Int)
 | []=>some []
 | f :: fs=>match snum f,snums fs with
  | some v,some vs=>some (v :: vs)
  | _,_=>none
noncomputable def sLine (st:St) (l:List UInt8):Option St :=
 if 0<st.left then match snum ((Pc.pieces 32 l).headD []) with
  | none=>none
  | some v=>if l.length<((Pc.pieces 32 l).headD []).length+1 then none else some ⟨⟨st.m.n,st.m.c,st.m.prior,st.m.base,addW st.m.ks ⟨(l.drop (((Pc.pieces 32 l).headD []).length+1)).toArray⟩ v,st.m.ts⟩,st.left-1⟩
 else if (Pc.pieces 32 l).headD []=wModel∧(Pc.pieces 32 l).length=5 then match snums (Pc.pieces 32 l).tail with
  | some [a,b,c,d]=>some ⟨⟨a,b,c,d,st.m.ks,st.m.ts⟩,st.left⟩
  | _=>none
 else if (Pc.pieces 32 l).headD []=wCtr∧(Pc.pieces 32 l).length=2 then match snums (Pc.pieces 32 l).tail with
  | some [n]=>if 0≤n∧n≤40 then some ⟨⟨st.m.n,st.m.c,st.m.prior,st.m.base,st.m.ks ++ [⟨[],[]⟩],st.m.ts⟩,n⟩ else none
  | _=>none
 else if (Pc.pieces 32 l).headD []=wTree then match stree (Pc.pieces 32 l).tail false [] [] with
  | some (a,l)=>some ⟨⟨st.m.n,st.m.c,st.m.prior,st.m.base,st.m.ks,st.m.ts ++ [⟨pairs a,l⟩]⟩,st.left⟩
  | none=>none
 else some st
noncomputable def srd:List (List UInt8)→St→Option St
 | [],st=>some st
 | l :: ls,st=>match sLine st l with
  | none=>none
  | some st'=>srd ls st'
noncomputable def srdt (s:List UInt8) (st:St):Option St:=srd (Pc.pieces 10 s) st
theorem srdt_line {l R:List UInt8} {st st':St} (hl:(10:UInt8) ∉ l) (h:sLine st l=some st'):srdt (l ++ 10 :: R) st=srdt R st':=by
 unfold srdt
 rw [Pc.pieces_cut 10 R l hl,srd,h]
theorem snums_map:∀ (l:List Int),(∀ x ∈ l,b11 x)→snums (l.map Lib.itoa)=some l
 | [],_=>rfl
 | x :: l,h=>by
  have h1:=snum_itoa (h x (by simp))
  have h2:=snums_map l (fun y hy=>h y (by simp [hy]))
  simp only [List.map_cons,snums,h1,h2]
theorem line_of (a:List UInt8) (ha:(32:UInt8) ∉ a) (ws:List (List UInt8)) (hw:∀ x ∈ ws,(32:UInt8) ∉ x):Pc.pieces 32 (a ++ sps ws)=a :: ws:=pieces_sps a ha ws hw
theorem itoas_no32 (l:List Int):∀ x ∈ l.map Lib.itoa,(32:UInt8) ∉ x:=by
 intro x hx
 obtain ⟨y,_,rfl⟩:=List.mem_map.1 hx
 exact itoa_no32 y
theorem srdt_head (m:M) (hg:∀ x ∈ [m.n,m.c,m.prior,m.base],b11 x) (R:List UInt8):srdt (head m ++ R) ⟨zero,0⟩=srdt R ⟨⟨m.n,m.c,m.prior,m.base,[],[]⟩,0⟩:=by
 have e:head m ++ R=(wModel ++ nums [m.n,m.c,m.prior,m.base]) ++ 10 :: R:=by unfold head wModel;simp
 have hp:Pc.pieces 32 (wModel ++ nums [m.n,m.c,m.prior,m.base])=wModel :: [m.n,m.c,m.prior,m.base].map Lib.itoa:=by
  rw [nums_sps];exact line_of _ (by decide) _ (itoas_no32 _)
 rw [e]
 refine srdt_line ?_ ?_
 ·
  intro h
  rcases List.mem_append.1 h with h | h
  ·
   revert h;decide
  ·
   exact (nums_no _).1 h
 ·
  unfold sLine
  rw [if_neg (by decide),hp,if_pos ⟨rfl,by simp⟩,List.tail_cons,snums_map _ hg]
  rfl
theorem srdt_words (n c p b:Int) (ks:List Kv) (ts:List Tr.T) (R:List UInt8):∀ (vs:List Int) (ws:List ByteArray) (wa:List ByteArray) (va:List Int),vs.length=ws.length→(∀ v ∈ vs,b11 v)→(∀ s ∈ ws,(10:UInt8) ∉ s.data.toList) →
  srdt (wlines vs ws ++ R) ⟨⟨n,c,p,b,ks ++ [⟨wa,va⟩],ts⟩,(ws.length:Int)⟩=srdt R ⟨⟨n,c,p,b,ks ++ [⟨wa ++ ws,va ++ vs⟩],ts⟩,0⟩
 | [],[],wa,va,_,_,_=>by simp [wlines]
 | [],s :: ws,wa,va,h,_,_=>by simp at h
 | v :: vs,[],wa,va,h,_,_=>by simp at h
 | v :: vs,s :: ws,wa,va,h,hv,hs=>by
  have ih:=srdt_words n c p b ks ts R vs ws (wa ++ [s]) (va ++ [v]) (by simpa using h) (fun x hx=>hv x (by simp [hx])) (fun x hx=>hs x (by simp [hx]))
  have e:wlines (v :: vs) (s :: ws) ++ R=(Lib.itoa v ++ 32 :: s.data.toList) ++ 10 :: (wlines vs ws ++ R):=by
   simp [wlines,wline]
  have hp:(Pc.pieces 32 (Lib.itoa v ++ 32 :: s.data.toList)).headD []=Lib.itoa v:=by rw [Pc.pieces_cut 32 _ _ (itoa_no32 v)];rfl
  have hpos:(0:Int)<(((s :: ws).length:Nat):Int):=by rw [List.length_cons];omega
  rw [e,srdt_line (st':=⟨⟨n,c,p,b,ks ++ [⟨wa ++ [s],va ++ [v]⟩],ts⟩,(ws.length:Int)⟩) ?_ ?_,ih]
  ·
   simp
  ·
   intro hm
   rcases List.mem_append.1 hm with h | h
   ·
    exact (itoa_no _).1 h
   ·
    rcases List.mem_cons.1 h with h | h
    ·
     revert h;decide
    ·
     exact hs s (by simp) h
  ·
   unfold sLine
   rw [if_pos hpos,hp,snum_itoa (hv v (by simp))]
   have e3:(⟨((Lib.itoa v ++ 32 :: s.data.toList).drop ((Lib.itoa v).length+1)).toArray⟩:ByteArray)=s:=by
    rw [← List.drop_drop,List.drop_left]
    cases s;rfl
   simp only [e3,Rm.addW_snoc]
   rw [if_neg (by simp)]
   congr 2
   simp
theorem srdt_ctrs (n c p b:Int) (ts:List Tr.T) (R:List UInt8):∀ (ks ka:List Kv),(∀ t ∈ ks,t.vs.length=t.ws.length∧t.ws.length≤40∧(∀ v ∈ t.vs,b11 v)∧∀ s ∈ t.ws,(10:UInt8) ∉ s.data.toList) →
  srdt (ctxts ks ++ R) ⟨⟨n,c,p,b,ka,ts⟩,0⟩=srdt R ⟨⟨n,c,p,b,ka ++ ks,ts⟩,0⟩
 | [],ka,_=>by simp [ctxts]
 | t :: ks,ka,h=>by
  obtain ⟨h1,h2,h3,h4⟩:=h t (by simp)
  have ih:=srdt_ctrs n c p b ts R ks (ka ++ [t]) (fun u hu=>h u (by simp [hu]))
  have e:ctxts (t :: ks) ++ R=(wCtr ++ nums [(t.ws.length:Int)]) ++ 10 :: (wlines t.vs t.ws ++ (ctxts ks ++ R)):=by
   simp [ctxts,ctxt,wCtr]
  have hp:Pc.pieces 32 (wCtr ++ nums [(t.ws.length:Int)])=wCtr :: [(t.ws.length:Int)].map Lib.itoa:=by
   rw [nums_sps];exact line_of _ (by decide) _ (itoas_no32 _)
  rw [e,srdt_line (st':=⟨⟨n,c,p,b,ka ++ [⟨[],[]⟩],ts⟩,(t.ws.length:Int)⟩) ?_ ?_,srdt_words n c p b ka ts _ t.vs t.ws [] [] h1 h3 h4]
  ·
   simp only [List.nil_append]
   rw [ih]
   simp
  ·
   intro hm
   rcases List.mem_append.1 hm with h | h
   ·
    revert h;decide
   ·
    exact (nums_no _).1 h
  ·
   unfold sLine
   rw [if_neg (Int.lt_irrefl 0),hp,List.headD_cons,if_neg (fun e=>absurd e.1 (by decide)),if_pos ⟨rfl,by simp⟩,List.tail_cons,snums_map _ (by intro y hy;simp at hy;subst hy;unfold b11;omega)]
   simp only
   rw [if_pos ⟨by omega,by omega⟩]
theorem srdt_trees (n c p b:Int) (ks:List Kv) (R:List UInt8):∀ (ts ta:List Tr.T),(∀ t ∈ ts,(∀ x ∈ flat t.sp,b11 x)∧∀ x ∈ t.lv,b11 x) →
  srdt (ttxts ts ++ R) ⟨⟨n,c,p,b,ks,ta⟩,0⟩=srdt R ⟨⟨n,c,p,b,ks,ta ++ ts⟩,0⟩
 | [],ta,_=>by simp [ttxts]
 | t :: ts,ta,h=>by
  obtain ⟨h1,h2⟩:=h t (by simp)
  have ih:=srdt_trees n c p b ks R ts (ta ++ [t]) (fun u hu=>h u (by simp [hu]))
  have e:ttxts (t :: ts) ++ R=(wTree ++ sps ((flat t.sp).map Lib.itoa ++ [58] :: t.lv.map Lib.itoa)) ++ 10 :: (ttxts ts ++ R):=by
   rw [sps_app,← nums_sps]
   simp [ttxts,ttxt,wTree,Rm.spt_flat,sps,← nums_sps]
  have hp:Pc.pieces 32 (wTree ++ sps ((flat t.sp).map Lib.itoa ++ [58] :: t.lv.map Lib.itoa))=wTree :: ((flat t.sp).map Lib.itoa ++ [58] :: t.lv.map Lib.itoa):=by
   refine line_of _ (by decide) _ (fun x hx=>?_)
   rcases List.mem_append.1 hx with h | h
   ·
    exact itoas_no32 _ x h
   ·
    rcases List.mem_cons.1 h with rfl | h
    ·
     decide
    ·
     exact itoas_no32 _ x h
  have et:(⟨pairs (flat t.sp),t.lv⟩:Tr.T)=t:=by rw [Rm.flat_pairs]
  rw [e,srdt_line (st':=⟨⟨n,c,p,b,ks,ta ++ [t]⟩,0⟩) ?_ ?_,ih]
  ·
   simp
  ·
   rw [sps_app,sps,← nums_sps,← nums_sps]
   intro hm
   rcases List.mem_append.1 hm with h | h
   ·
    revert h;decide
   ·
    rcases List.mem_append.1 h with h | h
    ·
     exact (nums_no _).1 h
    ·
     rcases List.mem_cons.1 h with h | h
     ·
      revert h;decide
     ·
      rcases List.mem_append.1 h with h | h
      ·
       revert h;decide
      ·
       exact (nums_no _).1 h
  ·
   have hb:=stree_back (flat t.sp) t.lv [] h1 h2
   rw [List.nil_append] at hb
   unfold sLine
   rw [if_neg (Int.lt_irrefl 0),hp,List.headD_cons,if_neg (fun e=>absurd e.1 (by decide)),if_neg (fun e=>absurd e.1 (by decide)),if_pos rfl,List.tail_cons,hb]
   simp only [et]
end Go.Proofs.YtaojoamldoofpaaGreatDoor.Rs
namespace Go.Proofs.YtaojoamldoofpaaGreatDoor.Rs
set_option maxRecDepth 20000
open Md (M mok mok_parts kok_parts)
open Kt (Kv)
open Mt (nums nums_cons nums_nil head ctxt ttxt ctxts ttxts body whole wline wlines mtext)
open Rm (St zero addW wModel wCtr wTree wSum pairs flat itoa_no nums_no Reads mtext_good mtext_bad)
theorem fok_b {x:Int} (h:Bo.fok x=true):b11 x:=by
 have : -1000000000≤x∧x≤1000000000:=by simpa [Bo.fok] using h
 unfold b11;omega
theorem flat_b:∀ {ps:List (Int × Int)},(∀ p ∈ ps,b11 p.1∧b11 p.2)→∀ x ∈ flat ps,b11 x
 | [],_,x,hx=>by simp [flat] at hx
 | p :: ps,h,x,hx=>by
  simp only [flat,List.mem_cons] at hx
  rcases hx with rfl | rfl | hx
  ·
   exact (h p (by simp)).1
  ·
   exact (h p (by simp)).2
  ·
   exact flat_b (fun q hq=>h q (by simp [hq])) x hx
theorem good_h {m:M} (h:Rm.Good m):∀ x ∈ [m.n,m.c,m.prior,m.base],b11 x:=by
 obtain ⟨h1,h2,h3,h4,h5,h6,h7⟩:=mok_parts h.1
 obtain ⟨s0,s1,s2⟩:=Tk.sok_iff.1 h1
 have hp : -1000000≤m.prior∧m.prior≤1000000:=by simpa [Li.btw] using h2
 intro x hx
 simp at hx
 rcases hx with rfl | rfl | rfl | rfl
 ·
  unfold b11;omega
 ·
  unfold b11;omega
 ·
  unfold b11;omega
 ·
  exact fok_b h3
theorem good_k {m:M} (h:Rm.Good m):∀ t ∈ m.ks,t.vs.length=t.ws.length∧t.ws.length≤40∧(∀ v ∈ t.vs,b11 v)∧∀ s ∈ t.ws,(10:UInt8) ∉ s.data.toList:=by
 intro t ht
 obtain ⟨h1,h2,h3,h4,h5,h6,h7⟩:=mok_parts h.1
 obtain ⟨k1,k2,k3,k4,_⟩:=kok_parts (List.all_eq_true.1 h7 t ht)
 obtain ⟨g1,g2,g3,g4⟩:=(Rm.gd_of h.1 h.2).k t ht
 exact ⟨g1,g2,fun v hv=>fok_b (List.all_eq_true.1 k3 v hv),g4⟩
theorem good_t {m:M} (h:Rm.Good m):∀ t ∈ m.ts,(∀ x ∈ flat t.sp,b11 x)∧∀ x ∈ t.lv,b11 x:=by
 intro t ht
 obtain ⟨h1,h2,h3,h4,h5,h6,h7⟩:=mok_parts h.1
 obtain ⟨_,k3,k4⟩:=Tr.tok_iff.1 (List.all_eq_true.1 h6 t ht)
 refine ⟨flat_b (fun p hp=>?_),fun x hx=>fok_b (List.all_eq_true.1 k4 x hx)⟩
 have:=List.all_eq_true.1 k3 p hp
 unfold Tr.spok at this
 simp only [Bool.and_eq_true,decide_eq_true_eq] at this
 exact ⟨by unfold b11;omega,fok_b this.2⟩
theorem srd_end (st:St) (hl:¬ 0<st.left):srdt [] st=some st:=by
 have hp:Pc.pieces 32 []=[[]]:=rfl
 have hs:sLine st []=some st:=by
  unfold sLine
  rw [if_neg hl,hp,List.headD_cons,if_neg (fun e=>absurd e.1 (by decide)),if_neg (fun e=>absurd e.1 (by decide)),if_neg (by decide)]
 show srd [[]] st=some st
 rw [srd,hs]
 rfl
theorem srdt_whole {m:M} (hg:Rm.Good m):srdt (whole m) ⟨zero,0⟩=some ⟨m,0⟩:=by
 have e:whole m=head m ++ (ctxts m.ks ++ (ttxts m.ts ++ ((wSum ++ nums [(Cr.crc (body m):Int)]) ++ 10 :: []))):=by
  unfold whole body wSum
  simp
 have hp:Pc.pieces 32 (wSum ++ nums [(Cr.crc (body m):Int)])=wSum :: [(Cr.crc (body m):Int)].map Lib.itoa:=by
  rw [nums_sps];exact line_of _ (by decide) _ (itoas_no32 _)
 rw [e,srdt_head m (good_h hg),srdt_ctrs _ _ _ _ _ _ _ _ (good_k hg),srdt_trees _ _ _ _ _ _ _ _ (good_t hg),srdt_line (st':=⟨⟨m.n,m.c,m.prior,m.base,[] ++ m.ks,[] ++ m.ts⟩,0⟩) ?_ ?_,srd_end _ (Int.lt_irrefl 0)]
 ·
  simp
 ·
  intro hm
  rcases List.mem_append.1 hm with h | h
  ·
   revert h;decide
  ·
   exact (nums_no _).1 h
 ·
  unfold sLine
  rw [if_neg (Int.lt_irrefl 0),hp,List.headD_cons,if_neg (fun e=>absurd e.1 (by decide)),if_neg (fun e=>absurd e.1 (by decide)),if_neg (by decide)]
theorem whole_ne (m:M):¬ whole m=[]:=by
 intro h
 have:=congrArg List.length h
 unfold whole at this
 simp at this
theorem sreads_nil:Reads [] zero false:=.inr ⟨rfl,rfl,fun m _=>whole_ne m⟩
theorem sreads_yes {s:List UInt8} {st:St} (hs:¬ s=[]) (e:mtext st.m=s):Reads s st.m true:=by
 by_cases hg:Rm.Good st.m
 ·
  exact .inl ⟨rfl,hg,by rw [← mtext_good hg];exact e⟩
 ·
  rw [mtext_bad hg] at e
  exact absurd e.symm hs
theorem sreads_no {s:List UInt8} {st:St} (h:srdt s ⟨zero,0⟩=some st) (e:¬ mtext st.m=s):Reads s zero false:=by
 refine .inr ⟨rfl,rfl,fun m hm hw=>e ?_⟩
 have h1:=srdt_whole hm
 rw [hw] at h1
 have h2:st=⟨m,0⟩:=Option.some.inj (h.symm.trans h1)
 rw [h2]
 exact (mtext_good hm).trans hw
theorem sreads_none {s:List UInt8} (h:srdt s ⟨zero,0⟩=none):Reads s zero false:=by
 refine .inr ⟨rfl,rfl,fun m hm hw=>?_⟩
 have h1:=srdt_whole hm
 rw [hw] at h1
 exact absurd (h.symm.trans h1) (by simp)
end Go.Proofs.YtaojoamldoofpaaGreatDoor.Rs
namespace Go.Proofs.YtaojoamldoofpaaGreatDoor.Rs
set_option maxRecDepth 100000
open Go.RowKit
open Ma (isDig scan)
theorem take_scan (l:List UInt8) (k:Nat) (h:k<l.length) (hd:isDig l[k]):scan (l.take (k+1))=10 * scan (l.take k)+(l[k].toNat-48):=by
 unfold scan
 rw [List.take_succ_eq_append_getElem h,List.foldl_append]
 show Ma.step _ _=_
 exact if_pos hd
theorem take_bd (l:List UInt8) (k:Nat) (h:l.length≤11):scan (l.take k)<100000000000:=scan_bd _ (by rw [List.length_take];omega)
set_option maxHeartbeats 2000000 in
theorem snumc (w:World) (s:ByteArray) (hs:s.size≤1048576) :
  Calls Tryz.prog 32 #[.string s] w fun e w'=>((∃ v,snum s.data.toList=some v∧-100000000000<v∧v<100000000000∧e=.returned (.tuple #[.int .i64 v,.bool true])) ∨ (snum s.data.toList=none∧∃ v:Int,e=.returned (.tuple #[.int .i64 v,.bool false])))∧Below w.heap.size w w':=by
 have hsz:s.data.toList.length=s.size:=by simp
 go_enter Tryz.func32,Tryz.ntmps32
 by_cases h0:0<s.size
 ·
  have HAT0:Hid (s.data.toList[0]'(by omega)=s[0]'h0):=by show _=_;rw [Array.getElem_toList];rfl
  by_cases h45:s[0]'h0=45
  ·
   have hb45:(((s[0]'h0).toNat:Int) == 45)=true:=by rw [h45];rfl
   have hs1:1≤s.size:=h0
   have hdl:(s.extract 1 s.size).data.toList=dg s.data.toList:=by
    rw [ByteArray.data_extract,Array.toList_extract,List.extract_eq_take_drop]
    have h1:=HAT0.out.trans h45
    cases hq:s.data.toList with
    | nil=>rw [hq] at hsz;simp at hsz;omega
    | cons c r =>
     simp only [hq,List.getElem_cons_zero] at h1
     rw [hq] at hsz
     simp at hsz
     subst h1
     show List.take (s.size-1) r=if (45:UInt8)=45 then r else 45 :: r
     rw [if_pos rfl,List.take_of_length_le (by omega)]
   go_wp2_with fail
   have hds:s.size-1=(s.extract 1 s.size).size:=by simp
   generalize s.extract 1 s.size=D at hdl hds ⊢
   rw [hds]
   clear hds
   have hdz:D.data.toList.length=D.size:=by simp
   have HDL:Hid (D.data.toList=dg s.data.toList):=hdl
   have HDZ:Hid (D.data.toList.length=D.size):=hdz
   have hne:¬ D=s:=fun e=>by
    have h1:=HAT0.out.trans h45
    subst e
    cases hq:D.data.toList with
    | nil=>rw [hq] at hsz;simp at hsz;omega
    | cons c r =>
     rw [hq] at hdl
     simp only [hq,List.getElem_cons_zero] at h1
     subst h1
     have:=congrArg List.length hdl
     simp [dg] at this
   have NEQ:Hid (¬ D.data.toList=s.data.toList):=fun e=>hne (by
    obtain ⟨⟨a⟩⟩:=D
    obtain ⟨⟨c⟩⟩:=s
    exact congrArg (fun x=>ByteArray.mk ⟨x⟩) e)
   have q0:=Ls.tl_ne hne
   clear hdl hdz hsz hne h45 hb45 HAT0
   refine (Li.between_any (D.size:Int) 1 11 w).mono ?_
   rintro e w1 ⟨rfl,rfl⟩
   cases hbt:Li.btw (D.size:Int) 1 11 with
   | false =>
    have HR:Hid (snum s.data.toList=none):=snum_no1 (by rw [← HDL.out,HDZ.out];unfold Li.btw at hbt;simp at hbt;omega)
    go_wp2
    refine bodyPost_ret (v:=.tuple #[.int .i64 0,.bool false]) (by simp [results,Tryz.results32,go_sem]) rfl ⟨.inr ⟨HR.out,0,rfl⟩,Below.refl _ _⟩
   | true =>
   have hln:1≤D.size∧D.size≤11:=by unfold Li.btw at hbt;simp at hbt;omega
   have HLN:Hid (1≤(dg s.data.toList).length∧(dg s.data.toList).length≤11):=by rw [← HDL.out,HDZ.out];exact hln
   go_wp2_with fail
   go_loop [4,6] (fun x i=>∃ k:Nat,k≤D.size∧i=.int .i64 k∧x=.int .i64 (scan (D.data.toList.take k):Nat)∧∀ c ∈ D.data.toList.take k,isDig c) (fun _ i=>D.size-(intOf i).toNat)
   case atStart=>exact ⟨0,Nat.zero_le _,rfl,rfl,fun c hc=>by simp at hc⟩
   case round =>
    obtain ⟨k,hk,rfl,rfl,hall⟩:=hrel
    have HALL:Hid (type_of% hall):=hall
    have hbd:=take_bd D.data.toList k (by rw [HDZ.out];omega)
    clear hall
    by_cases hlt:k<D.size
    ·
     have HKL:Hid (k<D.data.toList.length):=by rw [HDZ.out];exact hlt
     have HAT:Hid (D.data.toList[k]'HKL.out=D[k]'hlt):=by show _=_;rw [Array.getElem_toList];rfl
     have HTS:Hid (isDig (D[k]'hlt)→scan (D.data.toList.take (k+1))=10 * scan (D.data.toList.take k)+((D[k]'hlt).toNat-48)):=fun h=>by have:=take_scan D.data.toList k HKL.out (by rw [HAT.out];exact h);rw [HAT.out] at this;exact this
     have hc:=(D[k]'hlt).toNat_lt
     go_wp2_with fail
     refine (Li.between_any _ 48 57 _).mono ?_
     rintro e w1 ⟨rfl,rfl⟩
     cases hd:Li.btw (((D[k]'hlt).toNat:Nat):Int) 48 57 with
     | false =>
      have HR:Hid (snum s.data.toList=none):=snum_no2 (fun h=>by
       have h1:=h (D[k]'hlt) (by rw [← HDL.out,← HAT.out];exact List.getElem_mem _)
       unfold isDig at h1;unfold Li.btw at hd;simp at hd;omega)
      go_wp2
      refine bodyPost_ret (v:=.tuple #[.int .i64 0,.bool false]) (by simp [results,Tryz.results32,go_sem]) rfl ⟨.inr ⟨HR.out,0,rfl⟩,Below.refl _ _⟩
     | true =>
     have hdg:48≤(D[k]'hlt).toNat∧(D[k]'hlt).toNat≤57:=by unfold Li.btw at hd;simp at hd;omega
     have HT2:Hid (scan (D.data.toList.take (k+1))=10 * scan (D.data.toList.take k)+((D[k]'hlt).toNat-48)):=HTS.out hdg
     have HA2:Hid (∀ c ∈ D.data.toList.take (k+1),isDig c):=fun c hc=>by
      rw [List.take_succ_eq_append_getElem HKL.out] at hc
      rcases List.mem_append.1 hc with h | h
      ·
       exact HALL.out c h
      ·
       simp at h;rw [h];show isDig (D.data.toList[k]'HKL.out);rw [HAT.out];exact hdg
     generalize scan (D.data.toList.take k)=q at hbd HT2 ⊢
     have hw1:IntKind.u8.wrap (((D[k]'hlt).toNat:Int)-48)=((D[k]'hlt).toNat:Int)-48:=by rw [IntKind.wrap_u8];omega
     go_wp2
     go_round
     case rel=>exact ⟨k+1,by omega,by go_num,by rw [HT2.out];go_num,HA2.out⟩
     case measure=>simp [intOf];omega
    ·
     obtain rfl:k=D.size:=by omega
     have HTA:Hid (D.data.toList.take D.size=D.data.toList):=by show _=_;rw [← HDZ.out,List.take_length]
     rw [HTA.out] at HALL hbd ⊢
     have HSG:Hid (sgn s.data.toList = -(scan D.data.toList:Int)):=by show _=_;unfold sgn;rw [← HDL.out];exact if_neg NEQ.out
     generalize scan D.data.toList=q at hbd HSG ⊢
     go_wp2_with fail
     refine (Nu.snum (-(q:Int)) _ (by omega) (by omega)).mono ?_
     rintro e w1 ⟨rfl,hB⟩
     have hte:(ByteArray.mk (Lib.itoa (-(q:Int))).toArray).data.toList=Lib.itoa (-(q:Int)):=by simp
     generalize ByteArray.mk (Lib.itoa (-(q:Int))).toArray=t at hte ⊢
     by_cases h1:t=s
     ·
      have HR:Hid (snum s.data.toList=some (-(q:Int))):=by
       show _=_
       rw [← HSG.out]
       exact snum_yes HLN.out (by rw [← HDL.out];exact HALL.out) (by rw [HSG.out,← hte,h1])
      have q1:=Ls.tl_eq h1
      clear h1 hte
      go_wp2
      refine bodyPost_ret (v:=.tuple #[.int .i64 (-(q:Int)),.bool true]) (by simp [results,Tryz.results32,go_sem]) rfl ⟨.inl ⟨_,HR.out,by omega,by omega,rfl⟩,hB⟩
     ·
      have HR:Hid (snum s.data.toList=none):=snum_no3 (fun e=>h1 (by
       rw [HSG.out,← hte] at e
       obtain ⟨⟨a⟩⟩:=t
       obtain ⟨⟨c⟩⟩:=s
       exact congrArg (fun x=>ByteArray.mk ⟨x⟩) e))
      have q1:=Ls.tl_ne h1
      clear h1 hte
      go_wp2
      refine bodyPost_ret (v:=.tuple #[.int .i64 (-(q:Int)),.bool false]) (by simp [results,Tryz.results32,go_sem]) rfl ⟨.inr ⟨HR.out,_,rfl⟩,hB⟩
  ·
   have hb45:(((s[0]'h0).toNat:Int) == 45)=false:=by
    simp only [beq_eq_false_iff_ne,ne_eq]
    intro e
    exact h45 (UInt8.toNat_inj.1 (by show _=45;omega))
   have hdl:s.data.toList=dg s.data.toList:=by
    have h1:=HAT0.out
    cases hq:s.data.toList with
    | nil=>rfl
    | cons c r =>
     simp only [hq,List.getElem_cons_zero] at h1
     exact (if_neg (fun e=>h45 (h1.symm.trans e))).symm
   go_wp2_with fail
   have HDL:Hid (s.data.toList=dg s.data.toList):=hdl
   have HDZ:Hid (s.data.toList.length=s.size):=hsz
   have NEQ:Hid (s.data.toList=s.data.toList):=rfl
   have q0:=Ls.tl_eq (rfl:s=s)
   clear hdl hsz h45 hb45 HAT0
   refine (Li.between_any (s.size:Int) 1 11 w).mono ?_
   rintro e w1 ⟨rfl,rfl⟩
   cases hbt:Li.btw (s.size:Int) 1 11 with
   | false =>
    have HR:Hid (snum s.data.toList=none):=snum_no1 (by rw [← HDL.out,HDZ.out];unfold Li.btw at hbt;simp at hbt;omega)
    go_wp2
    refine bodyPost_ret (v:=.tuple #[.int .i64 0,.bool false]) (by simp [results,Tryz.results32,go_sem]) rfl ⟨.inr ⟨HR.out,0,rfl⟩,Below.refl _ _⟩
   | true =>
   have hln:1≤s.size∧s.size≤11:=by unfold Li.btw at hbt;simp at hbt;omega
   have HLN:Hid (1≤(dg s.data.toList).length∧(dg s.data.toList).length≤11):=by rw [← HDL.out,HDZ.out];exact hln
   go_wp2_with fail
   go_loop [4,6] (fun x i=>∃ k:Nat,k≤s.size∧i=.int .i64 k∧x=.int .i64 (scan (s.data.toList.take k):Nat)∧∀ c ∈ s.data.toList.take k,isDig c) (fun _ i=>s.size-(intOf i).toNat)
   case atStart=>exact ⟨0,Nat.zero_le _,rfl,rfl,fun c hc=>by simp at hc⟩
   case round =>
    obtain ⟨k,hk,rfl,rfl,hall⟩:=hrel
    have HALL:Hid (type_of% hall):=hall
    have hbd:=take_bd s.data.toList k (by rw [HDZ.out];omega)
    clear hall
    by_cases hlt:k<s.size
    ·
     have HKL:Hid (k<s.data.toList.length):=by rw [HDZ.out];exact hlt
     have HAT:Hid (s.data.toList[k]'HKL.out=s[k]'hlt):=by show _=_;rw [Array.getElem_toList];rfl
     have HTS:Hid (isDig (s[k]'hlt)→scan (s.data.toList.take (k+1))=10 * scan (s.data.toList.take k)+((s[k]'hlt).toNat-48)):=fun h=>by have:=take_scan s.data.toList k HKL.out (by rw [HAT.out];exact h);rw [HAT.out] at this;exact this
     have hc:=(s[k]'hlt).toNat_lt
     go_wp2_with fail
     refine (Li.between_any _ 48 57 _).mono ?_
     rintro e w1 ⟨rfl,rfl⟩
     cases hd:Li.btw (((s[k]'hlt).toNat:Nat):Int) 48 57 with
     | false =>
      have HR:Hid (snum s.data.toList=none):=snum_no2 (fun h=>by
       have h1:=h (s[k]'hlt) (by rw [← HDL.out,← HAT.out];exact List.getElem_mem _)
       unfold isDig at h1;unfold Li.btw at hd;simp at hd;omega)
      go_wp2
      refine bodyPost_ret (v:=.tuple #[.int .i64 0,.bool false]) (by simp [results,Tryz.results32,go_sem]) rfl ⟨.inr ⟨HR.out,0,rfl⟩,Below.refl _ _⟩
     | true =>
     have hdg:48≤(s[k]'hlt).toNat∧(s[k]'hlt).toNat≤57:=by unfold Li.btw at hd;simp at hd;omega
     have HT2:Hid (scan (s.data.toList.take (k+1))=10 * scan (s.data.toList.take k)+((s[k]'hlt).toNat-48)):=HTS.out hdg
     have HA2:Hid (∀ c ∈ s.data.toList.take (k+1),isDig c):=fun c hc=>by
      rw [List.take_succ_eq_append_getElem HKL.out] at hc
      rcases List.mem_append.1 hc with h | h
      ·
       exact HALL.out c h
      ·
       simp at h;rw [h];show isDig (s.data.toList[k]'HKL.out);rw [HAT.out];exact hdg
     generalize scan (s.data.toList.take k)=q at hbd HT2 ⊢
     have hw1:IntKind.u8.wrap (((s[k]'hlt).toNat:Int)-48)=((s[k]'hlt).toNat:Int)-48:=by rw [IntKind.wrap_u8];omega
     go_wp2
     go_round
     case rel=>exact ⟨k+1,by omega,by go_num,by rw [HT2.out];go_num,HA2.out⟩
     case measure=>simp [intOf];omega
    ·
     obtain rfl:k=s.size:=by omega
     have HTA:Hid (s.data.toList.take s.size=s.data.toList):=by show _=_;rw [← HDZ.out,List.take_length]
     rw [HTA.out] at HALL hbd ⊢
     have HSG:Hid (sgn s.data.toList=(scan s.data.toList:Int)):=by show _=_;unfold sgn;rw [← HDL.out];exact if_pos rfl
     generalize scan s.data.toList=q at hbd HSG ⊢
     go_wp2_with fail
     refine (Nu.snum (q:Int) _ (by omega) (by omega)).mono ?_
     rintro e w1 ⟨rfl,hB⟩
     have hte:(ByteArray.mk (Lib.itoa ((q:Int))).toArray).data.toList=Lib.itoa ((q:Int)):=by simp
     generalize ByteArray.mk (Lib.itoa ((q:Int))).toArray=t at hte ⊢
     by_cases h1:t=s
     ·
      have HR:Hid (snum s.data.toList=some ((q:Int))):=by
       show _=_
       rw [← HSG.out]
       exact snum_yes HLN.out (by rw [← HDL.out];exact HALL.out) (by rw [HSG.out,← hte,h1])
      have q1:=Ls.tl_eq h1
      clear h1 hte
      go_wp2
      refine bodyPost_ret (v:=.tuple #[.int .i64 ((q:Int)),.bool true]) (by simp [results,Tryz.results32,go_sem]) rfl ⟨.inl ⟨_,HR.out,by omega,by omega,rfl⟩,hB⟩
     ·
      have HR:Hid (snum s.data.toList=none):=snum_no3 (fun e=>h1 (by
       rw [HSG.out,← hte] at e
       obtain ⟨⟨a⟩⟩:=t
       obtain ⟨⟨c⟩⟩:=s
       exact congrArg (fun x=>ByteArray.mk ⟨x⟩) e))
      have q1:=Ls.tl_ne h1
      clear h1 hte
      go_wp2
      refine bodyPost_ret (v:=.tuple #[.int .i64 ((q:Int)),.bool false]) (by simp [results,Tryz.results32,go_sem]) rfl ⟨.inr ⟨HR.out,_,rfl⟩,hB⟩
 ·
  have hz:s.size=0:=by omega
  have HR:Hid (snum s.data.toList=none):=snum_no1 (by
   have:s.data.toList=[]:=List.length_eq_zero_iff.1 (by omega)
   rw [this]
   simp [dg])
  have hz':¬ 0<(s.size:Int):=by omega
  clear hsz h0
  go_wp2_with fail
  refine (Li.between_any _ 1 11 w).mono ?_
  rintro e w1 ⟨rfl,rfl⟩
  have hbt:Li.btw (s.size:Int) 1 11=false:=by rw [hz];decide
  go_wp2
  refine bodyPost_ret (v:=.tuple #[.int .i64 0,.bool false]) (by simp [results,Tryz.results32,go_sem]) rfl ⟨.inr ⟨HR.out,0,rfl⟩,Below.refl _ _⟩
end Go.Proofs.YtaojoamldoofpaaGreatDoor.Rs
