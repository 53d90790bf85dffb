/-
  Proved here: the Go function laws.FnModelBack, called with any arguments that can be read, returns true, and each argument reads afterwards as it read before ('Rows.FnModelBackCardSaid'): the row lists package-level variables of Go's library (see the row) with what they hold; the card ties that to the program's text (the tie is given). The cards tie the listed variables to the pruned copy of the project alone.
-/
import Derived.Test.YtaojoamldoofpaaGreatDoorRows
import Derived.Test.YtaojoamldoofpaaGreatDoorTie
import Derived.Test.YtaojoamldoofpaaGreatDoorCards
import Derived.WalkKit
import Derived.ProofKit
import Derived.OpenShut
import Derived.ShutString
import Derived.ChangeOld
import Derived.Below
import Derived.LaidMore
import Derived.Stop.Joined
import Derived.SevenTiedAt
import Derived.Test.YtaojoamldoofpaaGreatDoorPart1
import Derived.Test.YtaojoamldoofpaaGreatDoorPart27
import Derived.Test.YtaojoamldoofpaaGreatDoorPart28
import Derived.Test.YtaojoamldoofpaaGreatDoorPart23
import Derived.Test.YtaojoamldoofpaaGreatDoorPart30
import Derived.Test.YtaojoamldoofpaaGreatDoorPart20
namespace Go.Proofs.YtaojoamldoofpaaGreatDoor.fnModelBack
open Go.ChangeShapes Go.WideShapes Go.ChangeAt Go.RowKit
open Go.ChangeMaps (open_string shut_string)
set_option linter.unusedVariables false
theorem own:ownKnob Tryz.prog.godebug=none:=by kernel_rfl
theorem laidOut:laidOutB Tryz.prog=true:=by kernel_rfl
def IsRow (k:IntKind) (w:World) (a:Option Addr) (len cap:Nat) (zs:List Int):Prop :=
 (a=none∧len=0∧cap=0∧zs=[]) ∨
 ∃ x,a=some x∧len≤cap∧cap≤maxLen∧zs.length=cap∧(∀ i,i<zs.length→w.cell? (x.add i)=some (.int k (zs.getD i 0)))∧∀ n ∈ zs,(Lit.int k n).wf=true
theorem laid_same:Rows.fnModelBackRow.laid=Vr.lst:=rfl
set_option maxRecDepth 100000 in
set_option maxHeartbeats 4000000 in
theorem walk (w:World) (a0:Option Addr) (len0 cap0:Nat) (z0:List Int) (w0:IsRow .u8 w a0 len0 cap0 z0) (hL:laidMetH Tryz.prog Rows.fnModelBackRow.laid w) (hsh:w.ShapedOpen Tryz.prog) :
  Calls Tryz.prog 3 #[.slice a0 len0 cap0] w fun e w'=>e=.returned (.bool true)∧Below w.heap.size w w':=by
 have HV:Hid (Rm.Vs w):=by
  rw [laid_same,MakeChecks.laidMetH_plain _ _ _ (by kernel_rfl)] at hL
  exact Vr.vs_of hL hsh
 clear hL hsh
 have key:∀ (a:Option Addr) (len cap:Nat) (z:List Int),IsRow .u8 w a len cap z→Cu.Bytes w w.heap.size a len:=by
  intro a len cap z h
  rcases h with ⟨rfl,rfl,rfl,rfl⟩ | ⟨x,rfl,hl,_,hz,hc,hw⟩
  ·
   exact .inl rfl
  ·
   exact Cu.bytes_of _ (Nat.le_refl _) hl hz hc hw
 have B0:=key _ _ _ _ w0
 clear key w0
 by_cases hb0:1048576<len0
 ·
  have e0:decide (1048576<len0)=true:=by simpa using hb0
  go_enter Tryz.func3,Tryz.ntmps3
  go_wp2_with (go_at_call 5;refine (Cu.big_any _ _ _ _).mono ?_;rintro e w' ⟨rfl,hw⟩;subst w')
  go_ret
  exact ⟨rfl,Below.refl _ _⟩
 have e0:decide (1048576<len0)=false:=by simpa using hb0
 have hl0:(len0:Int)≤1048576:=by omega
 go_enter Tryz.func3,Tryz.ntmps3
 go_wp2_with (go_at_call 5;refine (Cu.big_any _ _ _ _).mono ?_;rintro e w' ⟨rfl,hw⟩;subst w')
 refine (Dm.drawModelText_any _ _ _ _ B0 hl0).mono ?_
 rintro e x1 ⟨m,vk,vt,rfl,hsz,om,hB⟩
 obtain ⟨ak,ck,ax,ct,rfl,rfl,rm⟩:=om.rm
 have HB0:Hid (Cu.Bytes w w.heap.size a0 len0):=B0
 have hsm:m.sz≤1048576:=by omega
 clear B0 hb0 e0 om hsz
 go_wp2_with fail
 obtain ⟨x2,hWx,hszx,hb,bm⟩:=Sv.new1 x1 [.int .i64 m.n,.int .i64 m.c,.int .i64 m.prior,.int .i64 m.base,.slice ak m.ks.length ck,.slice ax m.ts.length ct] 29
 rw [hWx]
 clear hWx
 have rm:=rm.below hb
 have hB:=hB.trans (hb.mono hB.size)
 clear hb hszx
 refine (Mt.imtext x2 _ _ _ _ m rm hsm (HV.out.below hB).1).mono ?_
 rintro e x3 ⟨rfl,hb⟩
 have bm:=bm.below hb
 have rm:=rm.below hb
 have hB:=hB.trans (hb.mono hB.size)
 clear hb
 obtain ⟨_,⟨c0,c1,c2,c3,c4,c5⟩,_⟩:=Md.wr6 bm
 go_wp2_with fail
 refine (Mt.smtext x3 _ _ _ _ m rm hsm).mono ?_
 rintro e x4 ⟨rfl,hb⟩
 have bm:=bm.below hb
 have rm:=rm.below hb
 have hB:=hB.trans (hb.mono hB.size)
 clear hb c0 c1 c2 c3 c4 c5
 obtain ⟨s,hs⟩:∃ s:ByteArray,(⟨(Mt.mtext m).toArray⟩:ByteArray)=s:=⟨_,rfl⟩
 have HSL:Hid (s.data.toList=Mt.mtext m):=by show _=_;rw [← hs]
 rw [hs]
 clear hs
 by_cases hs0:s=⟨#[]⟩
 ·
  subst hs0
  go_wp2_with fail
  refine (Dm.drawModelRead_any x4 _ _ _ (HB0.out.keptB hB.size (fun k hk=>hB.block k hk)) hl0).mono ?_
  rintro e y1 ⟨T,rfl,hTz,hb⟩
  have hB:=hB.trans (hb.mono hB.size)
  clear hb
  go_wp2_with fail
  refine (Rm.imread y1 T (by omega) (HV.out.below hB)).mono ?_
  rintro e y2 ⟨r,ok,vkw,vtw,hr,rfl,ow,hlr0,hb⟩
  have HRR:Hid (Rm.Reads T.data.toList r ok):=hr
  have hlr:r.sz≤1048576:=by omega
  have hB:=hB.trans (hb.mono hB.size)
  obtain ⟨aw,cw,xw,dw,rfl,rfl,rw_⟩:=ow.rm
  clear hr hlr0 hb ow
  go_wp2_with fail
  obtain ⟨y3,hWx,hszx,hb,bw⟩:=Sv.new1 y2 [.int .i64 r.n,.int .i64 r.c,.int .i64 r.prior,.int .i64 r.base,.slice aw r.ks.length cw,.slice xw r.ts.length dw] 29
  rw [hWx]
  clear hWx
  have rw_:=rw_.below hb
  have hB:=hB.trans (hb.mono hB.size)
  clear hb hszx
  refine (Rs.smread y3 T (by omega)).mono ?_
  rintro e y4 ⟨r2,ok2,vk2,vt2,hr,rfl,ow,_,hb⟩
  obtain ⟨rfl,rfl⟩:=Rm.reads_one HRR.out hr
  obtain ⟨a2,c2,x2_,d2,rfl,rfl,_⟩:=ow.rm
  have bw:=bw.below hb
  have rw_:=rw_.below hb
  have hB:=hB.trans (hb.mono hB.size)
  clear hr ow hb
  obtain ⟨_,⟨cz0,cz1,cz2,cz3,cz4,cz5⟩,_⟩:=Md.wr6 bw
  have hbw:=bw.1
  cases ok
  ·
   have hz:r=Rm.zero:=by
    rcases HRR.out with ⟨h,_⟩ | ⟨_,h,_⟩
    ·
     cases h
    ·
     exact h
   subst hz
   go_wp2
   go_ret
   exact ⟨rfl,hB.alloc hB.size _⟩
  ·
   have hg:Rm.Good r∧Mt.whole r=T.data.toList:=by
    rcases HRR.out with ⟨_,h,h2⟩ | ⟨h,_⟩
    ·
     exact ⟨h,h2⟩
    ·
     cases h
   have hmt:(⟨(Mt.mtext r).toArray⟩:ByteArray)=T:=by
    rw [Rm.mtext_good hg.1,hg.2]
   have hok:Md.mok r=true:=hg.1.1
   go_wp2_with fail
   obtain ⟨y5,hWx,hszx,hb,bu⟩:=Sv.new1 y4 [.int .i64 r.n,.int .i64 r.c,.int .i64 r.prior,.int .i64 r.base,.slice a2 r.ks.length c2,.slice x2_ r.ts.length d2] 29
   rw [hWx]
   clear hWx
   have rw_:=rw_.below hb
   have bw:=bw.below hb
   have hB:=hB.trans (hb.mono hB.size)
   clear hb hszx bu cz0 cz1 cz2 cz3 cz4 cz5 hbw
   refine (Mt.imtext y5 _ _ _ _ r rw_ hlr (HV.out.below hB).1).mono ?_
   rintro e y6 ⟨rfl,hb⟩
   rw [hmt]
   have bw:=bw.below hb
   have rw_:=rw_.below hb
   have hB:=hB.trans (hb.mono hB.size)
   clear hb
   obtain ⟨_,⟨cz0,cz1,cz2,cz3,cz4,cz5⟩,_⟩:=Md.wr6 bw
   have hbw:=bw.1
   go_wp2_with fail
   refine (Md.imok y6 _ _ _ _ r rw_ hlr).mono ?_
   rintro e y7 ⟨rfl,hb⟩
   rw [hok]
   have hB:=hB.trans (hb.mono hB.size)
   clear hb
   go_wp2
   go_ret
   exact ⟨rfl,hB⟩
 have hGood:Rm.Good m:=Classical.byContradiction fun h=>hs0 (by
  have h1:=HSL.out
  rw [Rm.mtext_bad h] at h1
  exact ByteArray.ext (Array.toList_inj.1 h1))
 have HSW:Hid (Rm.Reads s.data.toList m true):=.inl ⟨rfl,hGood,by rw [HSL.out,Rm.mtext_good hGood]⟩
 have hsz:s.size=(Mt.whole m).length:=by rw [← Rm.mtext_good hGood,← HSL.out];simp
 have hle:=Rm.whole_le hGood
 have hne:(s.toList == (⟨#[]⟩:ByteArray).toList)=false:=Ls.tl_ne hs0
 rw [show (⟨#[]⟩:ByteArray).toList=[] by kernel_rfl] at hne
 clear hGood hs0
 go_wp2_with fail
 refine (Rm.imread x4 s (by omega) (HV.out.below hB)).mono ?_
 rintro e x5 ⟨r',ok',vkw,vtw,hr,rfl,ow,_,hb⟩
 obtain ⟨rfl,rfl⟩:=Rm.reads_one HSW.out hr
 obtain ⟨ag,cg,xg,dg,rfl,rfl,rg⟩:=ow.rm
 have bm:=bm.below hb
 have rm:=rm.below hb
 have hB:=hB.trans (hb.mono hB.size)
 clear hr ow hb
 obtain ⟨_,⟨c0,c1,c2,c3,c4,c5⟩,_⟩:=Md.wr6 bm
 have hbm:=bm.1
 go_wp2_with fail
 obtain ⟨x6,hWx,hszx,hb,bg⟩:=Sv.new1 x5 [.int .i64 m.n,.int .i64 m.c,.int .i64 m.prior,.int .i64 m.base,.slice ag m.ks.length cg,.slice xg m.ts.length dg] 29
 rw [hWx]
 clear hWx
 have rm:=rm.below hb
 have rg:=rg.below hb
 have hB:=hB.trans (hb.mono hB.size)
 clear hb hszx c0 c1 c2 c3 c4 c5
 refine (Md.sameModel x6 _ _ _ _ _ _ _ _ m rm rg hsm).mono ?_
 rintro e x7 ⟨rfl,hb⟩
 have hB:=hB.trans (hb.mono hB.size)
 clear hb rm rg bm bg hne hsz hle
 go_wp2_with fail
 refine (Dm.drawModelRead_any x7 _ _ _ (HB0.out.keptB hB.size (fun k hk=>hB.block k hk)) hl0).mono ?_
 rintro e y1 ⟨T,rfl,hTz,hb⟩
 have hB:=hB.trans (hb.mono hB.size)
 clear hb
 go_wp2_with fail
 refine (Rm.imread y1 T (by omega) (HV.out.below hB)).mono ?_
 rintro e y2 ⟨r,ok,vkw,vtw,hr,rfl,ow,hlr0,hb⟩
 have HRR:Hid (Rm.Reads T.data.toList r ok):=hr
 have hlr:r.sz≤1048576:=by omega
 have hB:=hB.trans (hb.mono hB.size)
 obtain ⟨aw,cw,xw,dw,rfl,rfl,rw_⟩:=ow.rm
 clear hr hlr0 hb ow
 go_wp2_with fail
 obtain ⟨y3,hWx,hszx,hb,bw⟩:=Sv.new1 y2 [.int .i64 r.n,.int .i64 r.c,.int .i64 r.prior,.int .i64 r.base,.slice aw r.ks.length cw,.slice xw r.ts.length dw] 29
 rw [hWx]
 clear hWx
 have rw_:=rw_.below hb
 have hB:=hB.trans (hb.mono hB.size)
 clear hb hszx
 refine (Rs.smread y3 T (by omega)).mono ?_
 rintro e y4 ⟨r2,ok2,vk2,vt2,hr,rfl,ow,_,hb⟩
 obtain ⟨rfl,rfl⟩:=Rm.reads_one HRR.out hr
 obtain ⟨a2,c2,x2_,d2,rfl,rfl,_⟩:=ow.rm
 have bw:=bw.below hb
 have rw_:=rw_.below hb
 have hB:=hB.trans (hb.mono hB.size)
 clear hr ow hb
 obtain ⟨_,⟨cz0,cz1,cz2,cz3,cz4,cz5⟩,_⟩:=Md.wr6 bw
 have hbw:=bw.1
 cases ok
 ·
  have hz:r=Rm.zero:=by
   rcases HRR.out with ⟨h,_⟩ | ⟨_,h,_⟩
   ·
    cases h
   ·
    exact h
  subst hz
  go_wp2
  go_ret
  exact ⟨rfl,hB.alloc hB.size _⟩
 ·
  have hg:Rm.Good r∧Mt.whole r=T.data.toList:=by
   rcases HRR.out with ⟨_,h,h2⟩ | ⟨h,_⟩
   ·
    exact ⟨h,h2⟩
   ·
    cases h
  have hmt:(⟨(Mt.mtext r).toArray⟩:ByteArray)=T:=by
   rw [Rm.mtext_good hg.1,hg.2]
  have hok:Md.mok r=true:=hg.1.1
  go_wp2_with fail
  obtain ⟨y5,hWx,hszx,hb,bu⟩:=Sv.new1 y4 [.int .i64 r.n,.int .i64 r.c,.int .i64 r.prior,.int .i64 r.base,.slice a2 r.ks.length c2,.slice x2_ r.ts.length d2] 29
  rw [hWx]
  clear hWx
  have rw_:=rw_.below hb
  have bw:=bw.below hb
  have hB:=hB.trans (hb.mono hB.size)
  clear hb hszx bu cz0 cz1 cz2 cz3 cz4 cz5 hbw
  refine (Mt.imtext y5 _ _ _ _ r rw_ hlr (HV.out.below hB).1).mono ?_
  rintro e y6 ⟨rfl,hb⟩
  rw [hmt]
  have bw:=bw.below hb
  have rw_:=rw_.below hb
  have hB:=hB.trans (hb.mono hB.size)
  clear hb
  obtain ⟨_,⟨cz0,cz1,cz2,cz3,cz4,cz5⟩,_⟩:=Md.wr6 bw
  have hbw:=bw.1
  go_wp2_with fail
  refine (Md.imok y6 _ _ _ _ r rw_ hlr).mono ?_
  rintro e y7 ⟨rfl,hb⟩
  rw [hok]
  have hB:=hB.trans (hb.mono hB.size)
  clear hb
  go_wp2
  go_ret
  exact ⟨rfl,hB⟩
set_option maxRecDepth 100000 in
theorem lifted (os:Os) (started:os.Started) (H:Type) (enc:TypeId × Value→H) :
  ReturnsInHanded {} Tryz.checked os 3 .any (fun w args=>(Rows.fnModelBackSpec.pre enc Tryz.prog Tryz.f3 [] false w args∧laidMetH Tryz.prog Rows.fnModelBackRow.laid w)∧sizedMet enc Tryz.prog Tryz.f3 (OpenSpec.ofChange Rows.fnModelBackSpec) false w args)
   (Rows.fnModelBackSpec.post enc Tryz.prog Tryz.f3 false true false false):=by
 refine wrap_listed (C:=Tryz.checked) (X:=fun w _=>laidMetH Tryz.prog Rows.fnModelBackRow.laid w) (fun _ _ _ hh h=>h.of_heap hh) own started (by kernel_rfl) Tryz.func3
  (ChangeSpec.witness_shaped (enc:=enc) (C:=Tryz.checked) (os:=os) (X:=fun w _=>laidMetH Tryz.prog Rows.fnModelBackRow.laid w) false (Vr.wit os) #[.slice none 0 0] 8 (Vr.wit_os os) (World.shaped_of_ZipB (by kernel_rfl) (by kernel_rfl)) (by kernel_rfl) (by kernel_rfl) (by kernel_rfl) (Vr.wit_met os _)) ?_
 intro W base args ds gs before hval0 hW hL hsh
 have hval:∀ (j:Nat) t v,Tryz.f3.params[j]? = some t→args[j]? = some v→Value.okWide Tryz.prog W .any base t v:=hval0
 have hW':=hW
 obtain ⟨p,q,hA0,hV,rfl,hfz,hnd⟩:=hW
 have hA:DataW.TrodAll enc Tryz.prog W 0 (fun _=>true) true Tryz.f3.params.toList args.toList ds p:=hA0
 rw [Tryz.params3] at hA hval
 obtain ⟨v0,vs0,d0,ds0,p0,q0,hargs,rfl,rfl,h0,r0⟩:=trodAll_cons hA
 obtain ⟨rfl,rfl,rfl⟩:=trodAll_nil r0
 obtain rfl:args=#[v0]:=by cases args;simp_all
 obtain ⟨rfl,rfl⟩:=trodVars_none hV
 obtain ⟨a0,len0,cap0,rfl⟩:=okWide_slice Tryz.underlying22 (hval 0 22 v0 rfl rfl)
 have k0:=h0
 have lt0:∀ x ∈ p0,x.block<W.heap.size:=by obtain ⟨m,hm⟩:=k0;exact DataW.trod_lt m _ _ _ hm
 obtain ⟨z0,w0⟩:∃ zs,IsRow .u8 W a0 len0 cap0 zs:=by
  obtain ⟨fuel,hf⟩:=h0
  rcases open_ints Tryz.underlying22 Tryz.underlying5 (by kernel_rfl) hf with ⟨hcs,_⟩ | ⟨x,l,c,zs,hcs,_,hl,hm,hz,_,hcell,hwz⟩
  ·
   simp [Value.cells] at hcs
   obtain ⟨rfl,rfl,rfl⟩:=hcs
   exact ⟨[],.inl ⟨rfl,rfl,rfl,rfl⟩⟩
  ·
   simp [Value.cells] at hcs
   obtain ⟨rfl,rfl,rfl⟩:=hcs
   exact ⟨zs,.inr ⟨_,rfl,hl,hm,by simpa using hz,hcell,hwz⟩⟩
 clear hA0 hval0
 refine (walk W a0 len0 cap0 z0 w0 hL hsh).mono fun e W' ⟨he,bel⟩=>?_
 subst he
 exact ⟨_,rfl,_,_,_,[],_,[],hW',trodAll_mk1 (shut_bool Tryz.underlying4 _),(trodAll_cons_mk (Below.trod laidOut (by kernel_rfl) (of_decide_eq_true (by kernel_rfl)) k0 bel lt0) trodAll_mk0),rfl,bel.frame _,fun h=>by cases h⟩
theorem over:Rows.fnModelBackRow.holds Tryz.pinned (OpenSpec.ofChange Rows.fnModelBackSpec) :=
 OpenClaim.holds_of_wide 3 Tryz.f3 rfl rfl rfl rfl rfl rfl rfl ⟨rfl,rfl,rfl,rfl,rfl⟩ rfl rfl rfl rfl rfl (by kernel_rfl) Tryz.func3 (by kernel_rfl)
  (of_decide_eq_true (by kernel_rfl)) (by unfold Func.isWrapper;first | (rw [if_pos (by decide +kernel)];kernel_rfl) | (rw [if_neg (by decide +kernel)];exact ⟨rfl,rfl⟩))
  (fun os started H enc _=>lifted os started H enc)
theorem proved:Rows.FnModelBackCardSaid :=
 Claim7.holds_tied_plain_at .later [] [.data, .data, .data, .data, .sentinel, .sentinel, .listed, .data, .pinned] true (true, "a741bda0c8f48fed2c94718601f2a419d44240aca8e6160dc8aaf7a3322a75f5") true
  over (fun _ h=>by cases h) (by kernel_rfl) (fun _ h=>by cases h) fnModelBack_row_tie rfl ⟨rfl,rfl⟩ (by kernel_rfl) rfl
  (fun f fn hf hfn => by
   obtain rfl:f=3:=Option.some.inj ((show Tryz.prog.funcNamed Rows.fnModelBackRow.func=some 3 by kernel_rfl).symm.trans hf) |>.symm
   obtain rfl:fn=Tryz.f3:=(Option.some.inj (Tryz.func3.symm.trans hfn)).symm
   exact ⟨by kernel_rfl,fun j t ht=>by
    rw [Tryz.params3] at ht
    have hm:t ∈ [22]:=by simpa using Array.mem_of_getElem? ht
    have hall:([22].all fun u=>!Tryz.prog.wantsStandIn u)=true:=by kernel_rfl
    exact (show Tryz.prog.wantsStandIn t=false by simpa using List.all_eq_true.1 hall t hm)⟩)
  (by kernel_rfl)
#print axioms proved
end Go.Proofs.YtaojoamldoofpaaGreatDoor.fnModelBack
