/-
  Contracts that the proof leans on, put together in the order in which they build.
-/
import Derived.Test.YtaojoamldoofpaaGreatDoorPart23
import Derived.Test.YtaojoamldoofpaaGreatDoorPart2
import Derived.Lib.LaidTab
import Derived.Test.YtaojoamldoofpaaGreatDoorPart9
import Derived.Deep.RegionHeld3
import Derived.Test.YtaojoamldoofpaaGreatDoorPart4
import Derived.Test.YtaojoamldoofpaaGreatDoorPart11
set_option linter.unusedVariables false
namespace Go.Proofs.YtaojoamldoofpaaGreatDoor.Rm
set_option maxRecDepth 100000
open Go.RowKit
def Vs (w : World) : Prop := Nu.Tab w ∧ (∃ m, w.cell? ⟨0, 0, none⟩ = some (.int .i64 m)) ∧ (∃ tp p, w.var? Tryz.prog "strconv.ErrSyntax" = some #[.iface tp p]) ∧ (∃ tp p, w.var? Tryz.prog "strconv.ErrRange" = some #[.iface tp p]) ∧ Lib.TabIs Tryz.prog w "strings.asciiSpace" .u8 Lib.asciiSpaceTab ∧ Lib.WhiteTab 4 w
theorem var_lt {n:String} {g:Nat} {v:Value} {w:World} (hg:Tryz.prog.globalNamed n=some g) (hv:w.var? Tryz.prog n=some #[v]):g<w.heap.size :=
 World.block_lt_of_cell? w ⟨g,0,none⟩ (u:=v) (by have:=World.var?_cell hg hv 0;simpa using this)
theorem gES : Tryz.prog.globalNamed "strconv.ErrSyntax" = some 2 := by kernel_rfl
theorem gER : Tryz.prog.globalNamed "strconv.ErrRange" = some 3 := by kernel_rfl
theorem gAS : Tryz.prog.globalNamed "strings.asciiSpace" = some 1 := by kernel_rfl
theorem Vs.below {w w':World} (h:Vs w) (hb:Below w.heap.size w w'):Vs w':=by
 obtain ⟨h1,⟨m,hm⟩,⟨t2,p2,h2⟩,⟨t3,p3,h3⟩,h4,h5⟩:=h
 refine ⟨h1.below hb,⟨m,?_⟩,⟨t2,p2,var?_below hb gES (var_lt gES h2) h2⟩,⟨t3,p3,var?_below hb gER (var_lt gER h3) h3⟩,var?_below hb gAS (World.block_lt_of_cell? w _ (Lib.TabIs.cell h4 gAS 0 (by decide))) h4,WhiteTab_below h5 hb⟩
 rw [hb.cell (p:=⟨0,0,none⟩) (World.block_lt_of_cell? w _ hm)]
 exact hm
theorem atoi_any (t:ByteArray) (w:World) (ht:t.size≤281474976710656) (hV:Vs w) :
  Calls Tryz.prog 83 #[.string t] w fun e w'=>((∃ v,num t.data.toList=some v∧-9223372036854775808≤v∧v≤9223372036854775807∧e=.returned (.tuple #[.int .i64 v,.nilIface])) ∨ (num t.data.toList=none∧∃ (v:Int) (N:Nat),e=.returned (.tuple #[.int .i64 v,.iface 186 (.pointer (some ⟨N,0,none⟩))])))∧Below w.heap.size w w':=by
 obtain ⟨_,_,⟨t2,p2,h2⟩,⟨t3,p3,h3⟩,_⟩:=hV
 have hs:∀ h,Calls Tryz.prog 83 #[.string t] w fun e w'=>∃ N,e=.returned (.tuple #[.int .i64 0,.iface 186 (.pointer (some ⟨N,0,none⟩))])∧w.heap.size≤N∧w'.heap[N]? = some (.cells #[.string ⟨#[65,116,111,105]⟩,.string t,.iface t2 p2] 207 (0,0))∧Below w.heap.size w w' :=
  fun h=>Any.strconv_Atoi_syntax_var Tryz.laysC172 t ht h t2 p2 w h2
 cases h:Lib.atoiAll t.data.toList
 ·
  rename_i v
  have hbd:=Lib.atoiAll_bounds h
  refine (Tryz.strconv_Atoi_ok t (by omega) v h w).mono ?_
  rintro e w' ⟨rfl,hw⟩
  refine ⟨.inl ⟨v,by unfold num;rw [h],hbd.1,hbd.2,rfl⟩,?_⟩
  rcases hw with rfl | ⟨u,rfl⟩
  ·
   exact Below.refl _ _
  ·
   exact Lib.bytesWorld_below _ _ _
 ·
  refine (hs h).mono ?_
  rintro e w' ⟨N,rfl,_,_,hB⟩
  exact ⟨.inr ⟨by unfold num;rw [h],_,N,rfl⟩,hB⟩
 ·
  refine (Tryz.strconv_Atoi_range_var t ht h t3 p3 w h3).mono ?_
  rintro e w' ⟨N,rfl,_,_,hB⟩
  exact ⟨.inr ⟨by unfold num;rw [h],_,N,rfl⟩,hB⟩
theorem fd_len:∀ (f:Nat) (cur l:List UInt8),(Lib.fieldsGoD f cur l).length≤cur.length+l.length∧∀ x ∈ Lib.fieldsGoD f cur l,x.length≤cur.length+l.length:=by
 intro f
 have base:∀ cur l:List UInt8,(if cur=[] then ([]:List (List UInt8)) else [cur]).length≤cur.length+l.length∧∀ x ∈ (if cur=[] then ([]:List (List UInt8)) else [cur]),x.length≤cur.length+l.length:=fun cur l=>by
  by_cases h:cur=[]
  ·
   simp [h]
  ·
   have:=List.length_pos_iff.2 h
   simp [h];omega
 induction f with
 | zero=>intro cur l;exact base cur l
 | succ f ih =>
  intro cur l
  rw [Lib.fieldsGoD]
  by_cases h0:l=[]
  ·
   rw [if_pos h0];exact base cur l
  ·
   rw [if_neg h0]
   have hd:(l.drop (Lib.decodeL l).2).length≤l.length:=by rw [List.length_drop];omega
   by_cases h1:Lib.isSpaceR (Lib.decodeL l).1=true
   ·
    rw [if_pos h1]
    obtain ⟨i1,i2⟩:=ih [] (l.drop (Lib.decodeL l).2)
    obtain ⟨b1,b2⟩:=base cur []
    simp only [List.length_nil,Nat.zero_add,Nat.add_zero] at i1 i2 b1 b2
    refine ⟨by rw [List.length_append];omega,fun x hx=>?_⟩
    rcases List.mem_append.1 hx with h | h
    ·
     have:=b2 x h;omega
    ·
     have:=i2 x h;omega
   ·
    rw [if_neg h1]
    obtain ⟨i1,i2⟩:=ih (cur ++ l.take (Lib.decodeL l).2) (l.drop (Lib.decodeL l).2)
    have e:(cur ++ l.take (Lib.decodeL l).2).length+(l.drop (Lib.decodeL l).2).length=cur.length+l.length:=by
     rw [List.length_append,List.length_take,List.length_drop];omega
    rw [e] at i1 i2
    exact ⟨i1,i2⟩
theorem numL_len:∀ {fs:List (List UInt8)} {xs:List Int},numL fs=some xs→xs.length=fs.length
 | [],xs,h=>by simp [numL] at h;subst h;rfl
 | f :: fs,xs,h=>by
  unfold numL at h
  cases h1:num f with
  | none=>rw [h1] at h;cases h
  | some v =>
   cases h2:numL fs with
   | none=>rw [h1,h2] at h;cases h
   | some vs =>
    rw [h1,h2] at h
    cases h
    simp [numL_len h2]
theorem inums_len {l:List UInt8} {xs:List Int} (h:inums l=some xs):xs.length≤l.length:=by
 have h1:=numL_len h
 have h2:=(fd_len (l.length+1) [] l).1
 unfold Lib.fieldsD at h1
 simp at h2
 omega
theorem numL_snoc:∀ (fs:List (List UInt8)) (f:List UInt8),numL (fs ++ [f])=(match numL fs,num f with
  | some xs,some v=>some (xs ++ [v])
  | _,_=>none)
 | [],f=>by
  simp only [List.nil_append,numL]
  cases num f <;> rfl
 | g :: fs,f=>by
  have ih:=numL_snoc fs f
  simp only [List.cons_append,numL,ih]
  cases num g with
  | none=>rfl
  | some v =>
   cases numL fs with
   | none=>rfl
   | some xs=>cases num f <;> rfl
theorem numL_take {fs:List (List UInt8)} {k:Nat} (hk:k<fs.length) {xs:List Int} (h:numL (fs.take k)=some xs) {v:Int} (hv:num fs[k]=some v):numL (fs.take (k+1))=some (xs ++ [v]):=by
 rw [List.take_succ_eq_append_getElem hk,numL_snoc,h,hv]
theorem numL_no:∀ {fs:List (List UInt8)} {k:Nat} (hk:k<fs.length),num fs[k]=none→numL fs=none
 | f :: fs,0,_,h=>by
  unfold numL
  rw [show num f=none from h]
 | f :: fs,k+1,hk,h=>by
  have:=numL_no (fs:=fs) (k:=k) (by simpa using hk) h
  unfold numL
  rw [this]
  cases num f <;> rfl
set_option maxHeartbeats 2000000 in
theorem inumbers (w:World) (hV:Vs w) (s:ByteArray) (hs:s.size≤30000) :
  Calls Tryz.prog 85 #[.string s] w fun e w'=>((∃ xs a c,inums s.data.toList=some xs∧(∀ x ∈ xs,-9223372036854775808≤x∧x≤9223372036854775807)∧e=.returned (.tuple #[.slice a xs.length c,.bool true])∧Li.Own w' w.heap.size (.slice a xs.length c) xs) ∨ (inums s.data.toList=none∧e=.returned (.tuple #[.slice none 0 0,.bool false])))∧Below w.heap.size w w':=by
 obtain ⟨i0,hi,hz0,hz1,hz2⟩:=info_parts Li.info_int
 have hsz:s.data.toList.length=s.size:=by simp
 have HI:Hid (inums s.data.toList=numL (Lib.fieldsD s.data.toList)):=rfl
 obtain ⟨F,hF⟩:∃ F,Lib.fieldsD s.data.toList=F:=⟨_,rfl⟩
 have hfl:F.length≤30000∧∀ x ∈ F,x.length≤30000:=by
  have h1:=fd_len (s.data.toList.length+1) [] s.data.toList
  have e:Lib.fieldsGoD (s.data.toList.length+1) [] s.data.toList=F:=hF
  rw [e,List.length_nil,Nat.zero_add,hsz] at h1
  exact ⟨by omega,fun x hx=>by have:=h1.2 x hx;omega⟩
 obtain ⟨hfn,hfx⟩:=hfl
 rw [hF] at HI
 go_enter Tryz.func85,Tryz.ntmps85
 go_wp2_with fail
 refine (Tryz.strings_Fields_any s w (by omega) hV.2.2.2.2.1 hV.2.2.2.2.2).mono ?_
 rintro e w1 ⟨A,rfl,hA,ho,hB⟩
 rw [hF] at ho ⊢
 have hV1:=hV.below hB
 have HC:Hid (∀ k (hk:k<F.length),w1.cell? ⟨A,k,none⟩=some (.string ⟨F[k].toArray⟩)):=fun k hk=>by
  rw [World.ownsRow.cellAt ho k (by omega)]
  simp [hk]
 have hAl:=(World.ownsRow.lt ho A rfl).2
 clear ho hF hsz
 go_wp2
 go_loopw [4,12] (fun v i wr=>∃ (k:Nat) (xs:List Int),k≤F.length∧i=.int .i64 k∧xs.length=k∧numL (F.take k)=some xs∧(∀ x ∈ xs,-9223372036854775808≤x∧x≤9223372036854775807)∧Li.Own wr w1.heap.size v xs∧Below w1.heap.size w1 wr) (fun _ i _=>F.length-(intOf i).toNat)
 case atStart=>exact ⟨0,[],Nat.zero_le _,rfl,rfl,rfl,fun x hx=>by simp at hx,Li.Own.nil _ _,Below.refl _ _⟩
 case round =>
  obtain ⟨k,xs,hk,rfl,hxl,hnl,hbx,ho,hBr⟩:=hrel
  have HXL:Hid (xs.length=k):=hxl
  have HNL:Hid (numL (F.take k)=some xs):=hnl
  have HBX:Hid (∀ x ∈ xs,-9223372036854775808≤x∧x≤9223372036854775807):=hbx
  have hBe:=hB.trans (hBr.mono hB.size)
  clear hxl hnl hbx
  by_cases hlt:k<F.length
  ·
   have hcx:=(hBr.cell (p:=⟨A,k,none⟩) hAl).trans (HC.out k hlt)
   have hfk:=hfx F[k] (List.getElem_mem hlt)
   have HNO:Hid (num F[k]=none→inums s.data.toList=none):=fun e=>by rw [HI.out];exact numL_no hlt e
   have HYE:Hid (∀ v,num F[k]=some v→numL (F.take (k+1))=some (xs ++ [v])):=fun v e=>numL_take hlt HNL.out e
   generalize F[k]=f at hcx hfk HNO HYE
   have hdl:(ByteArray.mk f.toArray).data.toList=f:=by simp
   have hat:=atoi_any ⟨f.toArray⟩ wr (by rw [Mt.ba_size];omega) (hV1.below hBr)
   rw [hdl] at hat
   clear hdl
   go_wp2_with (go_at_call 83;refine hat.mono ?_)
   rintro e w2 ⟨he,hB2⟩
   have ho:=ho.below hB2
   have hBr:=hBr.trans (hB2.mono hBr.size)
   have hsz2:=hBr.size
   have hBe:=hBe.trans (hB2.mono hBe.size)
   clear hB2 hat hcx
   rcases he with ⟨v,hv,v0,v1,rfl⟩ | ⟨hv,v,N,rfl⟩
   ·
    have HXS:Hid (numL (F.take (k+1))=some (xs ++ [v])):=HYE.out v hv
    have HBS:Hid (∀ x ∈ xs ++ [v],-9223372036854775808≤x∧x≤9223372036854775807):=fun x hx=>by
     rcases List.mem_append.1 hx with h | h
     ·
      exact HBX.out x h
     ·
      simp at h;subst h;exact ⟨v0,v1⟩
    clear hv
    have hxle:xs.length≤30000:=by rw [HXL.out];omega
    go_wp2_with (at_builtin;refine wpList_append_own _ rfl _ _ 45 rfl w1.heap.size 3 i0 (.int .i64 0) 1 8 Tryz.underlying45 hi hz0 hz1 hz2 rfl (by decide) _ _ _ rfl (World.ownsRow.alloc ho _) ⟨w2.heap.size,0,none⟩ 1 1 [.int .i64 v] rfl rfl (Ai.one_cell _ _ _) (Ai.one_one _) (by unfold maxLen;omega) (by omega) (by simp;omega) ?_;intro v5 w5 hown5 hgrow _)
    have HO:Hid (Li.Own w5 w1.heap.size v5 (xs ++ [v])):=Ai.own_snoc rfl hown5
    have HB5:Hid (Below w1.heap.size w1 w5):=(hBr.alloc hsz2 _).grown hgrow (by simp;omega) (fun g hg=>(World.ownsRow.lt ho g hg).1)
    have HL5:Hid ((xs ++ [v]).length=k+1):=by show _=_;rw [List.length_append,HXL.out];rfl
    clear hown5 hgrow ho hBr
    go_wp2
    go_roundw
    case rel=>exact ⟨k+1,xs ++ [v],by omega,by go_num,HL5.out,HXS.out,HBS.out,HO.out,HB5.out⟩
    case measure=>simp [intOf];omega
   ·
    have HR:Hid (inums s.data.toList=none):=HNO.out hv
    clear hv
    go_wp2
    go_ret2
    exact ⟨.inr ⟨HR.out,rfl⟩,hBe⟩
  ·
   have HR:Hid (inums s.data.toList=some xs):=by
    show _=_
    rw [HI.out]
    have:=HNL.out
    rwa [List.take_of_length_le (by omega)] at this
   obtain ⟨a,c,rfl,_⟩:=ho.isl
   go_wp2
   go_ret2
   exact ⟨.inl ⟨xs,a,c,HR.out,HBX.out,rfl,ho.mono hB.size⟩,hBe⟩
end Go.Proofs.YtaojoamldoofpaaGreatDoor.Rm
namespace Go.Proofs.YtaojoamldoofpaaGreatDoor.Rm
end Go.Proofs.YtaojoamldoofpaaGreatDoor.Rm
namespace Go.Proofs.YtaojoamldoofpaaGreatDoor.Rm
set_option maxRecDepth 100000
open Go.RowKit
open Md (M OwM)
open Kt (Kv OwK)
open To (OwT)
open Sv (Fr fr_below fr_grown Wr)
def Fx (b lo:Nat):Nat→Prop:=fun y=>y=b ∨ lo≤y
theorem fx_set {b lo:Nat} (w:World) (o:Nat) (x:Value):Fr (Fx b lo) w (w.setCell ⟨b,o,none⟩ x):=fr_grown (Li.grown_set w b o x) (.inl rfl)
theorem fx_below {b lo:Nat} {w w1:World} (h:Below w.heap.size w w1):Fr (Fx b lo) w w1:=fr_below h
def gcells (st:St) (ak:Option Addr) (ck:Nat) (ax:Option Addr) (ct:Nat):List Value:=[.int .i64 st.m.n,.int .i64 st.m.c,.int .i64 st.m.prior,.int .i64 st.m.base,.slice ak st.m.ks.length ck,.slice ax st.m.ts.length ct,.int .i64 st.left]
structure Gs (w:World) (b lo:Nat) (st:St) (ak:Option Addr) (ck:Nat) (ax:Option Addr) (ct:Nat):Prop where
 bx:Wr w b 0 (gcells st ak ck ax ct)
 om:OwM w (fun y=>lo≤y) (.slice ak st.m.ks.length ck) (.slice ax st.m.ts.length ct) st.m
 bl:b<lo
 sz:lo≤w.heap.size
 lf : -9223372036854775808≤st.left∧st.left≤9223372036854775807
theorem wr7 {w:World} {b:Nat} {v0 v1 v2 v3 v4 v5 v6:Value} (h:Wr w b 0 [v0,v1,v2,v3,v4,v5,v6]) :
  b<w.heap.size∧(w.cell? ⟨b,0,none⟩=some v0∧w.cell? ⟨b,1,none⟩=some v1∧w.cell? ⟨b,2,none⟩=some v2∧w.cell? ⟨b,3,none⟩=some v3∧w.cell? ⟨b,4,none⟩=some v4∧w.cell? ⟨b,5,none⟩=some v5∧w.cell? ⟨b,6,none⟩=some v6) ∧
  w.frozen? ⟨b,0,none⟩=false∧w.frozen? ⟨b,1,none⟩=false∧w.frozen? ⟨b,2,none⟩=false∧w.frozen? ⟨b,3,none⟩=false∧w.frozen? ⟨b,4,none⟩=false∧w.frozen? ⟨b,5,none⟩=false∧w.frozen? ⟨b,6,none⟩=false :=
 ⟨h.1,⟨(h.2 0 (by simp)).1,(h.2 1 (by simp)).1,(h.2 2 (by simp)).1,(h.2 3 (by simp)).1,(h.2 4 (by simp)).1,(h.2 5 (by simp)).1,(h.2 6 (by simp)).1⟩,(h.2 0 (by simp)).2,(h.2 1 (by simp)).2,(h.2 2 (by simp)).2,(h.2 3 (by simp)).2,(h.2 4 (by simp)).2,(h.2 5 (by simp)).2,(h.2 6 (by simp)).2⟩
theorem Gs.below {w w1:World} {b lo:Nat} {st:St} {ak ax:Option Addr} {ck ct:Nat} (h:Gs w b lo st ak ck ax ct) (hb:Below w.heap.size w w1):Gs w1 b lo st ak ck ax ct :=
 ⟨h.bx.below hb,h.om.below hb,h.bl,Nat.le_trans h.sz hb.size,h.lf⟩
theorem om_set {w:World} {b lo o:Nat} {vk vt x:Value} {m:M} (h:OwM w (fun y=>lo≤y) vk vt m) (hb:b<lo):OwM (w.setCell ⟨b,o,none⟩ x) (fun y=>lo≤y) vk vt m:=h.fr (fr_grown (B:=fun y=>y=b) (Li.grown_set w b o x) rfl) (fun y hy e=>by omega)
theorem om_ks {w:World} {B:Nat→Prop} {vk vt:Value} {m m':M} (h:OwM w B vk vt m) (e1:m'.ks=m.ks) (e2:m'.ts=m.ts):OwM w B vk vt m':=by
 obtain ⟨P,h0,h1⟩:=h
 exact ⟨P,by rw [e1];exact h0,by rw [e2];exact h1⟩
theorem splitK {w wA:World} {lo:Nat} {vk vt:Value} {m:M} (h:OwM w (fun y=>lo≤y) vk vt m) (hb:Below w.heap.size w wA) (hlo:lo≤w.heap.size) :
  ∃ B':Nat→Prop,(∀ y,w.heap.size≤y→B' y)∧(∀ y,B' y→lo≤y)∧OwK wA (fun y=>B' y∧y<w.heap.size) vk m.ks∧∀ w5 v5 (m5:M),m5.ts=m.ts→Fr B' wA w5→OwK w5 B' v5 m5.ks→OwM w5 (fun y=>lo≤y) v5 vt m5:=by
 obtain ⟨P,h0,h1⟩:=h
 refine ⟨fun y=>(lo≤y∧P y∧y<w.heap.size) ∨ w.heap.size≤y,fun y hy=>.inr hy,fun y hy=>by rcases hy with h | h <;> omega,?_,fun w5 v5 m5 ht hf hk=>?_⟩
 ·
  exact (h0.bound.below hb).mono (fun y hy=>⟨.inl ⟨hy.1.1,hy.1.2,hy.2⟩,hy.2⟩)
 ·
  refine ⟨fun y=>(lo≤y∧P y∧y<w.heap.size) ∨ w.heap.size≤y,hk.mono (fun y hy=>⟨by rcases hy with h | h <;> omega,hy⟩),?_⟩
  rw [ht]
  have h2:=h1.bound.below hb
  refine (h2.fr hf (fun y hy e=>?_)).mono (fun y hy=>⟨hy.1.1,fun e=>?_⟩)
  ·
   rcases e with e | e
   ·
    exact hy.1.2 e.2.1
   ·
    have:=hy.2;omega
  ·
   rcases e with e | e
   ·
    exact hy.1.2 e.2.1
   ·
    have:=hy.2;omega
theorem splitT {w wA:World} {lo:Nat} {vk vt:Value} {m:M} (h:OwM w (fun y=>lo≤y) vk vt m) (hb:Below w.heap.size w wA) (hlo:lo≤w.heap.size) :
  ∃ B':Nat→Prop,(∀ y,w.heap.size≤y→B' y)∧(∀ y,B' y→lo≤y)∧OwT wA (fun y=>B' y∧y<w.heap.size) vt m.ts∧∀ w5 v5 (m5:M),m5.ks=m.ks→Fr B' wA w5→OwT w5 B' v5 m5.ts→OwM w5 (fun y=>lo≤y) vk v5 m5:=by
 obtain ⟨P,h0,h1⟩:=h
 refine ⟨fun y=>(lo≤y∧¬ P y∧y<w.heap.size) ∨ w.heap.size≤y,fun y hy=>.inr hy,fun y hy=>by rcases hy with h | h <;> omega,?_,fun w5 v5 m5 ht hf hk=>?_⟩
 ·
  exact (h1.bound.below hb).mono (fun y hy=>⟨.inl ⟨hy.1.1,hy.1.2,hy.2⟩,hy.2⟩)
 ·
  refine ⟨fun y=>P y∧y<w.heap.size,?_,hk.mono (fun y hy=>⟨by rcases hy with h | h <;> omega,fun e=>?_⟩)⟩
  ·
   rw [ht]
   have h2:=h0.bound.below hb
   refine (h2.fr hf (fun y hy e=>?_)).mono (fun y hy=>⟨hy.1.1,hy.1.2,hy.2⟩)
   rcases e with e | e
   ·
    exact e.2.1 hy.1.2
   ·
    have:=hy.2;omega
  ·
   rcases hy with h | h
   ·
    exact h.2.1 e.1
   ·
    omega
theorem four {xs:List Int} : (∃ a b c d,xs=[a,b,c,d]) ∨ ¬ xs.length=4:=by
 match xs with
 | []=>exact .inr (by simp)
 | [a]=>exact .inr (by simp)
 | [a,b]=>exact .inr (by simp)
 | [a,b,c]=>exact .inr (by simp)
 | [a,b,c,d]=>exact .inl ⟨a,b,c,d,rfl⟩
 | a :: b :: c :: d :: e :: r=>exact .inr (by simp)
theorem head_no {st:St} {l:List UInt8} {xs:List Int} (h:inums l=some xs) (hn:¬ xs.length=4):dHead st l=none:=by
 unfold dHead
 rw [h]
 split
 ·
  rename_i e;cases e;simp at hn
 ·
  rfl
theorem ctr_no {st:St} {l:List UInt8} {xs:List Int} (h:inums l=some xs) (hn:¬ xs.length=1):dCtr st l=none:=by
 unfold dCtr
 rw [h]
 split
 ·
  rename_i e;cases e;simp at hn
 ·
  rfl
set_option maxHeartbeats 2000000 in
theorem ihead (w:World) (b lo:Nat) (st:St) (ak ax:Option Addr) (ck ct:Nat) (hg:Gs w b lo st ak ck ax ct) (hV:Vs w) (s:ByteArray) (hs:s.size≤30000) :
  Calls Tryz.prog 61 #[.pointer (some ⟨b,0,none⟩),.string s] w fun e w'=>((∃ st',dHead st s.data.toList=some st'∧e=.returned (.bool true)∧Gs w' b lo st' ak ck ax ct) ∨ (dHead st s.data.toList=none∧e=.returned (.bool false)))∧Fr (Fx b lo) w w':=by
 go_enter Tryz.func61,Tryz.ntmps61
 go_wp2_with fail
 refine (inumbers w hV s hs).mono ?_
 rintro e w1 ⟨he,hB⟩
 have hg0:=hg.sz
 have hg:=hg.below hB
 have HF:Hid (Fr (Fx b lo) w w1):=fx_below hB
 have HLW:Hid (lo≤w.heap.size):=hg0
 clear hB
 rcases he with ⟨xs,a,c,hx,hbd,rfl,ho⟩ | ⟨hx,rfl⟩
 ·
  rcases four (xs:=xs) with ⟨x0,x1,x2,x3,rfl⟩ | hn
  ·
   have HD:Hid (dHead st s.data.toList=some ⟨⟨x0,x1,x2,x3,st.m.ks,st.m.ts⟩,st.left⟩):=by show _=_;unfold dHead;rw [hx]
   rcases ho.2 with ⟨e,h0⟩ | ⟨A,cap,cur,e,hA,_⟩
   ·
    simp at h0
   cases e
   have d0:=ho.cell rfl 0 (by simp)
   have d1:=ho.cell rfl 1 (by simp)
   have d2:=ho.cell rfl 2 (by simp)
   have d3:=ho.cell rfl 3 (by simp)
   simp only [List.getElem_cons_zero,List.getElem_cons_succ] at d0 d1 d2 d3
   have hAl:=(ho.ge A rfl).2
   have hAb:¬ A=b:=by have:=hg.bl;have:=HLW.out;omega
   have hbA:¬ b=A:=fun e=>hAb e.symm
   obtain ⟨hbl,⟨c0,c1,c2,c3,c4,c5,c6⟩,f0,f1,f2,f3,f4,f5,f6⟩:=wr7 hg.bx
   have HG:Hid (type_of% hg):=hg
   clear ho hx hbd hg
   go_wp2_with fail
   go_region_held3 (fun w'=>w'.cell? ⟨A,0,none⟩=some (.int .i64 x0)∧w'.cell? ⟨A,1,none⟩=some (.int .i64 x1)∧w'.cell? ⟨A,2,none⟩=some (.int .i64 x2)∧w'.cell? ⟨A,3,none⟩=some (.int .i64 x3)) (go_keep) (fail)
   go_wp2_with fail
   go_region_held3 (fun w'=>w'.cell? ⟨A,0,none⟩=some (.int .i64 x0)∧w'.cell? ⟨A,1,none⟩=some (.int .i64 x1)∧w'.cell? ⟨A,2,none⟩=some (.int .i64 x2)∧w'.cell? ⟨A,3,none⟩=some (.int .i64 x3)) (go_keep) (fail)
   clear d0 d1 d2 d3 c0 c1 c2 c3 c4 c5 c6 f0 f1 f2 f3 f4 f5 f6
   go_wp2
   go_ret
   have hg:=HG.out
   refine ⟨.inl ⟨_,HD.out,rfl,?_⟩,?_⟩
   ·
    refine ⟨?_,?_,hg.bl,?_,hg.lf⟩
    ·
     have h4:=(((hg.bx.set 0 (by simp [gcells]) (.int .i64 x0)).set 1 (by simp [gcells]) (.int .i64 x1)).set 2 (by simp [gcells]) (.int .i64 x2)).set 3 (by simp [gcells]) (.int .i64 x3)
     exact h4
    ·
     exact om_ks (om_set (om_set (om_set (om_set hg.om hg.bl) hg.bl) hg.bl) hg.bl) rfl rfl
    ·
     have:=hg.sz
     simpa [World.setCell] using this
   ·
    have h4:=HF.out.trans ((((fx_set (lo:=lo) w1 0 (.int .i64 x0)).trans (fx_set _ 1 (.int .i64 x1))).trans (fx_set _ 2 (.int .i64 x2))).trans (fx_set _ 3 (.int .i64 x3)))
    exact ⟨h4.os,h4.tape,h4.output,h4.size,h4.block⟩
  ·
   have HD:Hid (dHead st s.data.toList=none):=head_no hx hn
   have hn':((xs.length:Int) != 4)=true:=by simp;omega
   clear hx hbd
   go_wp2
   go_ret
   exact ⟨.inr ⟨HD.out,rfl⟩,HF.out⟩
 ·
  have HD:Hid (dHead st s.data.toList=none):=by show _=_;unfold dHead;rw [hx]
  clear hx
  go_wp2
  go_ret
  exact ⟨.inr ⟨HD.out,rfl⟩,HF.out⟩
theorem one {xs:List Int} : (∃ a,xs=[a]) ∨ ¬ xs.length=1:=by
 match xs with
 | []=>exact .inr (by simp)
 | [a]=>exact .inl ⟨a,rfl⟩
 | a :: b :: r=>exact .inr (by simp)
theorem two_cell (w:World) (T:TypeId) (x y:Value):(w.alloc (.cells #[x,y] T)).cell? ⟨w.heap.size,0,none⟩=some x∧(w.alloc (.cells #[x,y] T)).cell? ⟨w.heap.size,1,none⟩=some y:=by simp
set_option maxHeartbeats 2000000 in
theorem ictr (w:World) (b lo:Nat) (st:St) (ak ax:Option Addr) (ck ct:Nat) (hg:Gs w b lo st ak ck ax ct) (hV:Vs w) (s:ByteArray) (hs:s.size≤30000) (hk:st.m.ks.length≤1000000) :
  Calls Tryz.prog 62 #[.pointer (some ⟨b,0,none⟩),.string s] w fun e w'=>((∃ st' ak' ck',dCtr st s.data.toList=some st'∧e=.returned (.bool true)∧Gs w' b lo st' ak' ck' ax ct) ∨ (dCtr st s.data.toList=none∧e=.returned (.bool false)))∧Fr (Fx b lo) w w':=by
 go_enter Tryz.func62,Tryz.ntmps62
 go_wp2_with fail
 refine (inumbers w hV s hs).mono ?_
 rintro e w1 ⟨he,hB⟩
 have hg0:=hg.sz
 have HKW:Hid (∀ k,(Value.slice ak st.m.ks.length ck).ownBlock=some k→k<w.heap.size):=by obtain ⟨_,h0,_⟩:=hg.om;exact h0.lt
 have hg:=hg.below hB
 have HF:Hid (Fr (Fx b lo) w w1):=fx_below hB
 have HLW:Hid (lo≤w.heap.size):=hg0
 clear hB hg0
 rcases he with ⟨xs,a,c,hx,hbd,rfl,ho⟩ | ⟨hx,rfl⟩
 ·
  rcases one (xs:=xs) with ⟨x0,rfl⟩ | hn
  ·
   have HD:Hid (dCtr st s.data.toList=some ⟨⟨st.m.n,st.m.c,st.m.prior,st.m.base,st.m.ks ++ [⟨[],[]⟩],st.m.ts⟩,x0⟩):=by show _=_;unfold dCtr;rw [hx]
   have hb0:=hbd x0 (by simp)
   rcases ho.2 with ⟨e,h0⟩ | ⟨A,cap,cur,e,hA,_⟩
   ·
    simp at h0
   cases e
   have hAb:¬ A=b:=by have:=hg.bl;have:=HLW.out;omega
   obtain ⟨hbl,⟨c0,c1,c2,c3,c4,c5,c6⟩,f0,f1,f2,f3,f4,f5,f6⟩:=wr7 hg.bx
   have HG:Hid (type_of% hg):=hg
   have hA1:Below w1.heap.size w1 (w1.alloc (.cells #[.slice none 0 0,.slice none 0 0] 47)):=(Below.refl _ _).alloc (Nat.le_refl _) _
   obtain ⟨B',hB1,hB2,hB3,hB4⟩:=splitK hg.om hA1 hg.sz
   have hvb:∀ k,(Value.slice ak st.m.ks.length ck).ownBlock=some k→B' k∧k<w1.heap.size:=fun k e=>by obtain ⟨_,_,_,_,hv,_⟩:=hB3;exact hv k e
   have HVB:Hid (type_of% hvb):=hvb
   have HB1:Hid (type_of% hB1):=hB1
   have HB2:Hid (type_of% hB2):=hB2
   have HB3:Hid (type_of% hB3):=hB3
   have HB4:Hid (type_of% hB4):=hB4
   have HO:Hid (type_of% ho):=ho
   have HA:Hid (type_of% hA1):=hA1
   clear ho hx hbd hg hvb hB1 hB2 hB3 hB4 hA1
   go_wp2_with (at_builtin;refine Ps.wpl_pushK rfl _ _ rfl B' w1.heap.size _ st.m.ks HB3.out w1.heap.size none none 0 0 0 0 ⟨[],[]⟩ rfl rfl (two_cell _ _ _ _).1 (two_cell _ _ _ _).2 (Ls.Own.nil _ _) (Li.Own.nil _ _) (fun k e=>by simp [Value.ownBlock] at e) HB1.out HA.out.size (by omega) ?_;intro a5 c5 w5 hok5 hg5;have HOK5:Hid (type_of% hok5):=hok5;have HFR:Hid (Fr B' (w1.alloc (.cells #[.slice none 0 0,.slice none 0 0] 47)) w5):=⟨hg5.os,hg5.tape,hg5.output,hg5.size,fun k hk hn=>hg5.block k hk (fun e=>hn (HVB.out k e.symm).1)⟩;have hb5:=(HG.out.bx.below HA.out).keptAt HFR.out.size (HFR.out.block b (Nat.lt_of_lt_of_le HG.out.bx.1 HA.out.size) (fun e=>by have:=HB2.out b e;have:=HG.out.bl;omega));have ho5:=(HO.out.below HA.out).kept hg5 (.inr (fun e=>by have:=HKW.out A e.symm;omega));obtain ⟨hbl5,⟨e0,e1,e2,e3,e4,e5,e6⟩,g0,g1,g2,g3,g4,g5,g6⟩:=wr7 hb5;have dA:=ho5.cell rfl 0 (by simp);have hAl5:=(ho5.ge A rfl).2;clear hok5 hg5)
   have hnb:b<w1.heap.size:=HG.out.bx.1
   clear HVB HB1 HB3 HO
   go_wp2
   go_ret
   have hg:=HG.out
   refine ⟨.inl ⟨_,a5,c5,HD.out,rfl,?_⟩,?_⟩
   ·
    refine ⟨?_,?_,hg.bl,?_,hb0⟩
    ·
     have h4:=(hb5.set 4 (by simp [gcells]) (.slice a5 (st.m.ks.length+1) c5)).set 6 (by simp [gcells]) (.int .i64 x0)
     simpa [gcells] using h4
    ·
     have h4:=HB4.out w5 (.slice a5 (st.m.ks.length+1) c5) ⟨st.m.n,st.m.c,st.m.prior,st.m.base,st.m.ks ++ [⟨[],[]⟩],st.m.ts⟩ rfl HFR.out HOK5.out
     have h5:=om_set (o:=6) (x:=.int .i64 x0) (om_set (o:=4) (x:=.slice a5 (st.m.ks.length+1) c5) h4 hg.bl) hg.bl
     simpa using h5
    ·
     have h1:=HFR.out.size
     have h2:=HA.out.size
     have h3:=hg.sz
     simp [World.setCell] at h1 ⊢
     omega
   ·
    have h1:Fr (Fx b lo) w w5:=HF.out.trans ((fx_below HA.out).trans (HFR.out.mono (fun y hy=>.inr (HB2.out y hy))))
    exact (h1.trans (fx_set _ 4 _)).trans (fx_set _ 6 _)
  ·
   have HD:Hid (dCtr st s.data.toList=none):=ctr_no hx hn
   have hn':((xs.length:Int) != 1)=true:=by simp;omega
   clear hx hbd
   go_wp2
   go_ret
   exact ⟨.inr ⟨HD.out,rfl⟩,HF.out⟩
 ·
  have HD:Hid (dCtr st s.data.toList=none):=by show _=_;unfold dCtr;rw [hx]
  clear hx
  go_wp2
  go_ret
  exact ⟨.inr ⟨HD.out,rfl⟩,HF.out⟩
end Go.Proofs.YtaojoamldoofpaaGreatDoor.Rm
namespace Go.Proofs.YtaojoamldoofpaaGreatDoor.Rm
set_option maxRecDepth 100000
open Go.RowKit
open Md (M OwM)
open Kt (Kv OwK)
open To (OwT)
open Sv (Fr fr_below fr_grown Wr)
theorem run_snocS (w:World) (ty:TypeId) (a:Option Addr) (n c E:Nat) (xs:List ByteArray) (hn:xs.length=n) (ho:Ls.Own w 0 (.slice a n c) xs) (s:ByteArray) (e0:w.cell? ⟨E,0,none⟩=some (.string s)) (hl:n≤1048576) :
  ∃ a5 c5 w5,(Builtin.append_ #[44,44] ty #[.slice a n c,.slice (some ⟨E,0,none⟩) 1 1]).run Tryz.prog w=.ok (.slice a5 (n+1) c5) w5∧Ls.Own w5 0 (.slice a5 (n+1) c5) (xs ++ [s])∧w.grownBy w5 (Value.slice a n c).ownBlock∧((Value.slice a5 (n+1) c5).ownBlock=(Value.slice a n c).ownBlock ∨ (Value.slice a5 (n+1) c5).ownBlock=some w.heap.size):=by
 obtain ⟨i0,hi,hz0,hz1,hz2⟩:=info_parts Ls.info_str
 subst hn
 obtain ⟨v',w',hr,h2,h3,hnil,h5⟩:=run_append_own_at (P:=Tryz.prog) w 0 44 ty 9 i0 (.string ⟨#[]⟩) 1 16 Tryz.underlying44 hi hz0 hz1 hz2 rfl (by decide) _ xs.length (Ls.sv xs) ho ⟨E,0,none⟩ 1 1 [.string s] rfl (by
  intro j u hj
  match j,hj with
  | 0,hj=>simp at hj;subst hj;exact e0) (Ap.one_one _ rfl) (by unfold maxLen;omega) (by omega) (by omega)
 have hok:=Ap.sown_snoc (x:=s) rfl h2
 obtain ⟨a5,c5,e5,_⟩:=hok.iss
 rw [List.length_append] at e5
 subst e5
 exact ⟨a5,c5,w',hr,hok,h3,h5⟩
theorem run_snocI (w:World) (ty:TypeId) (a:Option Addr) (n c E:Nat) (xs:List Int) (hn:xs.length=n) (ho:Li.Own w 0 (.slice a n c) xs) (s:Int) (e0:w.cell? ⟨E,0,none⟩=some (.int .i64 s)) (hl:n≤1048576) :
  ∃ a5 c5 w5,(Builtin.append_ #[45,45] ty #[.slice a n c,.slice (some ⟨E,0,none⟩) 1 1]).run Tryz.prog w=.ok (.slice a5 (n+1) c5) w5∧Li.Own w5 0 (.slice a5 (n+1) c5) (xs ++ [s])∧w.grownBy w5 (Value.slice a n c).ownBlock∧((Value.slice a5 (n+1) c5).ownBlock=(Value.slice a n c).ownBlock ∨ (Value.slice a5 (n+1) c5).ownBlock=some w.heap.size):=by
 obtain ⟨i0,hi,hz0,hz1,hz2⟩:=info_parts Li.info_int
 subst hn
 obtain ⟨v',w',hr,h2,h3,hnil,h5⟩:=run_append_own_at (P:=Tryz.prog) w 0 45 ty 3 i0 (.int .i64 0) 1 8 Tryz.underlying45 hi hz0 hz1 hz2 rfl (by decide) _ xs.length (Li.iv xs) ho ⟨E,0,none⟩ 1 1 [.int .i64 s] rfl (by
  intro j u hj
  match j,hj with
  | 0,hj=>simp at hj;subst hj;exact e0) (Ap.one_one _ rfl) (by unfold maxLen;omega) (by omega) (by omega)
 have hok:=Ap.own_snoc (x:=s) rfl h2
 obtain ⟨a5,c5,e5,_⟩:=hok.isl
 rw [List.length_append] at e5
 subst e5
 exact ⟨a5,c5,w',hr,hok,h3,h5⟩
theorem wp_snocS {o:Oper} {a:Act} {w:World} {K:Act→World→Prop} {Q:Exit→Act→World→Prop} (s x:Operand) (ho:o.op=.call { callee:=.builtin .append,args:=#[s,x],argTypes:=#[44,44] }) (dt:Option Tmp) (hd:o.dst=dt)
  (ad:Option Addr) (n c E:Nat) (xs:List ByteArray) (hn:xs.length=n) (hs:a.eval s=.slice ad n c) (hx:a.eval x=.slice (some ⟨E,0,none⟩) 1 1) (hown:Ls.Own w 0 (.slice ad n c) xs) (t:ByteArray) (e0:w.cell? ⟨E,0,none⟩=some (.string t)) (hl:n≤1048576)
  (hq:∀ a5 c5 w5,Ls.Own w5 0 (.slice a5 (n+1) c5) (xs ++ [t])→w.grownBy w5 (Value.slice ad n c).ownBlock→((Value.slice a5 (n+1) c5).ownBlock=(Value.slice ad n c).ownBlock ∨ (Value.slice a5 (n+1) c5).ownBlock=some w.heap.size)→K (a.put dt (.slice a5 (n+1) c5)) w5):o.wp Tryz.prog a w K Q:=by
 subst hd
 obtain ⟨a5,c5,w5,hr,h2,h3,h4⟩:=run_snocS w o.type ad n c E xs hn hown t e0 hl
 unfold Oper.wp execOp
 simp only [ho,resolve,invoke,builtin,Sem.run_bind,Sem.run_pure,Result.andThen_ok,List.map_toArray,List.map_cons,List.map_nil,hs,hx,hr]
 exact hq a5 c5 w5 h2 h3 h4
theorem wpl_snocI {ops:Array Oper} {rest:List Oper} {o:Oper} {a:Act} {w:World} {Q:Exit→Act→World→Prop} (hgd:o.guard=none) (s x:Operand) (ho:o.op=.call { callee:=.builtin .append,args:=#[s,x],argTypes:=#[45,45] })
  (ad:Option Addr) (n c E:Nat) (xs:List Int) (hn:xs.length=n) (hs:a.eval s=.slice ad n c) (hx:a.eval x=.slice (some ⟨E,0,none⟩) 1 1) (hown:Li.Own w 0 (.slice ad n c) xs) (t:Int) (e0:w.cell? ⟨E,0,none⟩=some (.int .i64 t)) (hl:n≤1048576)
  (hq:∀ a5 c5 w5,Li.Own w5 0 (.slice a5 (n+1) c5) (xs ++ [t])→w.grownBy w5 (Value.slice ad n c).ownBlock→((Value.slice a5 (n+1) c5).ownBlock=(Value.slice ad n c).ownBlock ∨ (Value.slice a5 (n+1) c5).ownBlock=some w.heap.size)→wpList Tryz.prog ops Q rest (a.put o.dst (.slice a5 (n+1) c5)) w5):wpList Tryz.prog ops Q (o :: rest) a w:=by
 obtain ⟨a5,c5,w5,hr,h2,h3,h4⟩:=run_snocI w o.type ad n c E xs hn hown t e0 hl
 refine wpList_plain hgd fun K hK=>?_
 unfold Oper.wp execOp
 simp only [ho,resolve,invoke,builtin,Sem.run_bind,Sem.run_pure,Result.andThen_ok,List.map_toArray,List.map_cons,List.map_nil,hs,hx,hr]
 exact hK _ _ (hq a5 c5 w5 h2 h3 h4)
def stK (st:St) (ks:List Kv):St:=⟨⟨st.m.n,st.m.c,st.m.prior,st.m.base,ks,st.m.ts⟩,st.left⟩
theorem gs_w0 {w:World} {b lo:Nat} {st:St} {ak ax:Option Addr} {ck ct:Nat} (hg:Gs w b lo st ak ck ax ct) (j:Nat) (hj:j<st.m.ks.length) :
  ∃ g a0 c0,ak=some ⟨g,0,none⟩∧w.cell? ⟨g,j * 2,none⟩=some (.slice a0 st.m.ks[j].ws.length c0)∧w.frozen? ⟨g,j * 2,none⟩=false∧Ls.Own w 0 (.slice a0 st.m.ks[j].ws.length c0) st.m.ks[j].ws∧g<w.heap.size∧lo≤g∧(∀ k,(Value.slice a0 st.m.ks[j].ws.length c0).ownBlock=some k→lo≤k∧¬ k=g) ∧
  ∀ wA w1 u0 xs',Below w.heap.size w wA→Ls.Own w1 0 u0 xs'→wA.grownBy w1 (Value.slice a0 st.m.ks[j].ws.length c0).ownBlock→(u0.ownBlock=(Value.slice a0 st.m.ks[j].ws.length c0).ownBlock ∨ u0.ownBlock=some wA.heap.size) →
   Gs (w1.setCell ⟨g,j * 2,none⟩ u0) b lo (stK st (st.m.ks.set j ⟨xs',st.m.ks[j].vs⟩)) ak ck ax ct∧Fr (Fx b lo) w (w1.setCell ⟨g,j * 2,none⟩ u0):=by
 obtain ⟨P,h0,_⟩:=hg.om
 obtain ⟨a,c,g,a0,c0,e1,rfl,hc,hf,ho,hgl,hBg,hkn,_⟩:=Ps.repl0 h0 j hj
 injection e1 with e1 _ e2
 subst e1;subst e2
 refine ⟨g,a0,c0,rfl,hc,hf,ho,hgl,hBg.1,fun k e=>⟨(hkn k e).1.1,(hkn k e).2⟩,fun wA w1 u0 xs' hA hw hgr hu=>?_⟩
 obtain ⟨B',hB1,hB2,hB3,hB4⟩:=splitK hg.om hA hg.sz
 obtain ⟨a',c',g',a0',c0',e1,rfl,hc',_,_,_,hBg',hkn',hrep⟩:=Ps.repl0 (hB3.mono (fun y hy=>hy.1)) j hj
 injection e1 with e1 _ e2
 injection e1 with e1
 injection e1 with e1 _ _
 subst e1;subst e2
 rw [hA.cell (p:=⟨g,j * 2,none⟩) hgl,hc] at hc'
 injection hc' with hc'
 injection hc' with e3 _ e4
 subst e3;subst e4
 have hk:=hrep w1 u0 xs' hw hgr (hu.imp id (fun e=>⟨_,e,Nat.le_refl _,hB1 _ hA.size⟩))
 have hFr:Fr B' wA (w1.setCell ⟨g,j * 2,none⟩ u0):=by
  refine Fr.trans ⟨hgr.os,hgr.tape,hgr.output,hgr.size,fun k hk hn=>hgr.block k hk (fun e=>hn (hkn' k e.symm).1)⟩ (fr_grown (Li.grown_set w1 g (j * 2) u0) hBg')
 have hbn:¬ B' b:=fun e=>by have:=hB2 b e;have:=hg.bl;omega
 refine ⟨⟨?_,?_,hg.bl,?_,hg.lf⟩,?_⟩
 ·
  have h1:=(hg.bx.below hA).keptAt hFr.size (hFr.block b (Nat.lt_of_lt_of_le hg.bx.1 hA.size) hbn)
  simpa [gcells,stK] using h1
 ·
  have h1:=hB4 _ (.slice (some ⟨g,0,none⟩) st.m.ks.length ck) (stK st (st.m.ks.set j ⟨xs',st.m.ks[j].vs⟩)).m rfl hFr hk
  simpa [stK] using h1
 ·
  have h1:=hFr.size
  have h2:=hA.size
  have h3:=hg.sz
  omega
 ·
  exact (fx_below hA).trans (hFr.mono (fun y hy=>.inr (hB2 y hy)))
theorem gs_w1 {w:World} {b lo:Nat} {st:St} {ak ax:Option Addr} {ck ct:Nat} (hg:Gs w b lo st ak ck ax ct) (j:Nat) (hj:j<st.m.ks.length) :
  ∃ g a0 c0,ak=some ⟨g,0,none⟩∧w.cell? ⟨g,j * 2+1,none⟩=some (.slice a0 st.m.ks[j].vs.length c0)∧w.frozen? ⟨g,j * 2+1,none⟩=false∧Li.Own w 0 (.slice a0 st.m.ks[j].vs.length c0) st.m.ks[j].vs∧g<w.heap.size∧lo≤g∧(∀ k,(Value.slice a0 st.m.ks[j].vs.length c0).ownBlock=some k→lo≤k∧¬ k=g) ∧
  ∀ wA w1 u0 xs',Below w.heap.size w wA→Li.Own w1 0 u0 xs'→wA.grownBy w1 (Value.slice a0 st.m.ks[j].vs.length c0).ownBlock→(u0.ownBlock=(Value.slice a0 st.m.ks[j].vs.length c0).ownBlock ∨ u0.ownBlock=some wA.heap.size) →
   Gs (w1.setCell ⟨g,j * 2+1,none⟩ u0) b lo (stK st (st.m.ks.set j ⟨st.m.ks[j].ws,xs'⟩)) ak ck ax ct∧Fr (Fx b lo) w (w1.setCell ⟨g,j * 2+1,none⟩ u0):=by
 obtain ⟨P,h0,_⟩:=hg.om
 obtain ⟨a,c,g,a0,c0,e1,rfl,hc,hf,ho,hgl,hBg,hkn,_⟩:=Ps.repl1 h0 j hj
 injection e1 with e1 _ e2
 subst e1;subst e2
 refine ⟨g,a0,c0,rfl,hc,hf,ho,hgl,hBg.1,fun k e=>⟨(hkn k e).1.1,(hkn k e).2⟩,fun wA w1 u0 xs' hA hw hgr hu=>?_⟩
 obtain ⟨B',hB1,hB2,hB3,hB4⟩:=splitK hg.om hA hg.sz
 obtain ⟨a',c',g',a0',c0',e1,rfl,hc',_,_,_,hBg',hkn',hrep⟩:=Ps.repl1 (hB3.mono (fun y hy=>hy.1)) j hj
 injection e1 with e1 _ e2
 injection e1 with e1
 injection e1 with e1 _ _
 subst e1;subst e2
 rw [hA.cell (p:=⟨g,j * 2+1,none⟩) hgl,hc] at hc'
 injection hc' with hc'
 injection hc' with e3 _ e4
 subst e3;subst e4
 have hk:=hrep w1 u0 xs' hw hgr (hu.imp id (fun e=>⟨_,e,Nat.le_refl _,hB1 _ hA.size⟩))
 have hFr:Fr B' wA (w1.setCell ⟨g,j * 2+1,none⟩ u0):=by
  refine Fr.trans ⟨hgr.os,hgr.tape,hgr.output,hgr.size,fun k hk hn=>hgr.block k hk (fun e=>hn (hkn' k e.symm).1)⟩ (fr_grown (Li.grown_set w1 g (j * 2+1) u0) hBg')
 have hbn:¬ B' b:=fun e=>by have:=hB2 b e;have:=hg.bl;omega
 refine ⟨⟨?_,?_,hg.bl,?_,hg.lf⟩,?_⟩
 ·
  have h1:=(hg.bx.below hA).keptAt hFr.size (hFr.block b (Nat.lt_of_lt_of_le hg.bx.1 hA.size) hbn)
  simpa [gcells,stK] using h1
 ·
  have h1:=hB4 _ (.slice (some ⟨g,0,none⟩) st.m.ks.length ck) (stK st (st.m.ks.set j ⟨st.m.ks[j].ws,xs'⟩)).m rfl hFr hk
  simpa [stK] using h1
 ·
  have h1:=hFr.size
  have h2:=hA.size
  have h3:=hg.sz
  omega
 ·
  exact (fx_below hA).trans (hFr.mono (fun y hy=>.inr (hB2 y hy)))
theorem addw {ks:List Kv} {q:Nat} (hq:q<ks.length) (hl:q+1=ks.length) (r:ByteArray) (v:Int) (hq':q<(ks.set q ⟨ks[q].ws ++ [r],ks[q].vs⟩).length) :
  (ks.set q ⟨ks[q].ws ++ [r],ks[q].vs⟩).set q ⟨((ks.set q ⟨ks[q].ws ++ [r],ks[q].vs⟩)[q]'hq').ws,((ks.set q ⟨ks[q].ws ++ [r],ks[q].vs⟩)[q]'hq').vs ++ [v]⟩=addW ks ⟨r.data.toList.toArray⟩ v:=by
 unfold addW
 have e:ks.length-1=q:=by omega
 rw [e]
 simp [List.getD_eq_getElem?_getD,List.getElem?_eq_getElem hq]
set_option maxHeartbeats 4000000 in
theorem iword (w:World) (b lo:Nat) (st:St) (ak ax:Option Addr) (ck ct:Nat) (hg:Gs w b lo st ak ck ax ct) (hV:Vs w) (s r:ByteArray) (hs:s.size≤30000) (hr:r.size≤30000) (hk0:0<st.m.ks.length) (hk:st.m.ks.length≤1000000) (hkw:∀ k ∈ st.m.ks,k.ws.length≤1000000∧k.vs.length≤1000000) (hleft:0<st.left) :
  Calls Tryz.prog 60 #[.pointer (some ⟨b,0,none⟩),.string s,.string r] w fun e w'=>((∃ st',dWord st s.data.toList r.data.toList=some st'∧e=.returned (.bool true)∧Gs w' b lo st' ak ck ax ct) ∨ (dWord st s.data.toList r.data.toList=none∧e=.returned (.bool false)))∧Fr (Fx b lo) w w':=by
 go_enter Tryz.func60,Tryz.ntmps60
 go_wp2_with fail
 refine (atoi_any s w (by omega) hV).mono ?_
 rintro e w1 ⟨he,hB⟩
 have hg:=hg.below hB
 have HF:Hid (Fr (Fx b lo) w w1):=fx_below hB
 clear hB
 rcases he with ⟨v,hx,hv0,hv1,rfl⟩ | ⟨hx,v,N,rfl⟩
 ·
  obtain ⟨q,hq⟩:∃ q,q+1=st.m.ks.length:=⟨st.m.ks.length-1,by omega⟩
  have hql:q<st.m.ks.length:=by omega
  have HD:Hid (dWord st s.data.toList r.data.toList=some ⟨⟨st.m.n,st.m.c,st.m.prior,st.m.base,addW st.m.ks ⟨r.data.toList.toArray⟩ v,st.m.ts⟩,st.left-1⟩):=by show _=_;unfold dWord;rw [hx]
  obtain ⟨g,a0,c0,rfl,d0,f0,o0,hgl,hlg,hkn,hstep⟩:=gs_w0 hg q hql
  obtain ⟨hbl,⟨x0,x1,x2,x3,c4,x5,x6⟩,xx⟩:=wr7 hg.bx
  clear x0 x1 x2 x3 x5 x6 xx
  have HADD:Hid (∀ hq',_):=fun hq'=>addw hql hq r v hq'
  have HBW:Hid (type_of% (hkw _ (List.getElem_mem hql))):=hkw _ (List.getElem_mem hql)
  have HGB:Hid (¬ g=b):=by have:=hg.bl;show ¬ _ ;omega
  have HGL:Hid (type_of% hgl):=hgl
  have HKN:Hid (type_of% hkn):=hkn
  have HST:Hid (type_of% hstep):=hstep
  have HO:Hid (type_of% o0):=o0
  have HD0:Hid (type_of% d0):=d0
  have HF0:Hid (type_of% f0):=f0
  have HG:Hid (type_of% hg):=hg
  have HQ:Hid (q+1=st.m.ks.length):=hq
  have HK:Hid (st.m.ks.length≤1000000):=hk
  obtain ⟨n,hn⟩:∃ n,st.m.ks.length=n:=⟨_,rfl⟩
  rw [hn] at c4 hq hql hk
  have hw1:IntKind.i64.wrap ((n:Int)-1)=(q:Int):=by
   have:(n:Int)-1=q:=by omega
   rw [this,IntKind.wrap_i64];omega
  have hq0:(q:Int)<n:=by omega
  have HN:Hid (st.m.ks.length=n):=hn
  clear hx hkw hg o0 f0 hstep hkn hs hV hn hv0 hv1 hk0 hq d0
  go_wp2_with fail
  go_region_held3 (fun w'=>w'.cell? ⟨b,4,none⟩=some (.slice (some ⟨g,0,none⟩) n ck)) (go_keep) (fail)
  go_wp2_with fail
  obtain ⟨nw,hnw⟩:∃ nw,st.m.ks[q].ws.length=nw:=⟨_,rfl⟩
  have HNW:Hid (st.m.ks[q].ws.length=nw):=hnw
  rw [hnw] at HD0 HST HO HKN HBW
  have HSX:Hid (∀ X:World,Below w1.heap.size w1 X→X.cell? ⟨g,q * 2,none⟩=some (.slice a0 nw c0)):=fun X hX=>(hX.cell (p:=⟨g,q * 2,none⟩) HGL.out).trans HD0.out
  have st0:Below w1.heap.size w1 w1.drew.drew:=((Below.refl _ _).drew).drew
  have hS:=HSX.out _ st0
  clear hnw c4 hw1 hq0
  refine Hd.start (fun X=>X.cell? ⟨g,q * 2,none⟩=some (.slice a0 nw c0)) 8 (by kernel_rfl) ?_
  generalize w1.drew.drew=w0 at st0 hS ⊢
  refine Hd.After.pureD (i:=0) (some 30) (.pointer (some ⟨g,q * 2,none⟩)) rfl rfl (by kernel_rfl) (by decide) (by kernel_rfl) (by kernel_rfl) (fun _ _ _ h=>h) (hS) (Or.inl ⟨by rfl,?_⟩) ?_
  ·
   intro X;go_simp;try with_reducible rfl
  (first | simp only [Act.put,List.setIfInBounds_toArray,List.set_cons_zero,List.set_cons_succ] | skip)
  refine Hd.After.pureD (i:=1) (some 31) (.pointer (some ⟨g,q * 2,none⟩)) rfl rfl (by kernel_rfl) (by decide) (by kernel_rfl) (by kernel_rfl) (fun _ _ _ h=>h) (hS) (Or.inl ⟨by rfl,?_⟩) ?_
  ·
   intro X;go_simp;try with_reducible rfl
  (first | simp only [Act.put,List.setIfInBounds_toArray,List.set_cons_zero,List.set_cons_succ] | skip)
  refine Hd.After.pureD (i:=2) (some 32) (.pointer (some ⟨g,q * 2,none⟩)) rfl rfl (by kernel_rfl) (by decide) (by kernel_rfl) (by kernel_rfl) (fun _ _ _ h=>h) (hS) (Or.inl ⟨by rfl,?_⟩) ?_
  ·
   intro X;go_simp;try with_reducible rfl
  (first | simp only [Act.put,List.setIfInBounds_toArray,List.set_cons_zero,List.set_cons_succ] | skip)
  refine Hd.After.pureD (i:=3) (some 33) (.pointer (some ⟨g,q * 2,none⟩)) rfl rfl (by kernel_rfl) (by decide) (by kernel_rfl) (by kernel_rfl) (fun _ _ _ h=>h) (hS) (Or.inl ⟨by rfl,?_⟩) ?_
  ·
   intro X;go_simp;try with_reducible rfl
  (first | simp only [Act.put,List.setIfInBounds_toArray,List.set_cons_zero,List.set_cons_succ] | skip)
  refine Hd.After.takeD (i:=4) (some 34) (.slice a0 nw c0) rfl rfl (by kernel_rfl) (by kernel_rfl) (by kernel_rfl) (by kernel_rfl) (by kernel_rfl) (fun _ _ _ h=>h) (hS) (Or.inl ⟨by rfl,?_⟩) ?_
  ·
   rintro X s0;go_simp;try with_reducible rfl
  (first | simp only [Act.put,List.setIfInBounds_toArray,List.set_cons_zero,List.set_cons_succ] | skip)
  refine Hd.After.pureD (i:=5) (some 35) (.string r) rfl rfl (by kernel_rfl) (by decide) (by kernel_rfl) (by kernel_rfl) (fun _ _ _ h=>h) (hS) (Or.inl ⟨by rfl,?_⟩) ?_
  ·
   intro X;go_simp;try with_reducible rfl
  (first | simp only [Act.put,List.setIfInBounds_toArray,List.set_cons_zero,List.set_cons_succ] | skip)
  refine Hd.After.one (i:=6) (by kernel_rfl) rfl rfl ?_
  intro K hK
  go_simp
  go_wp2_with (go_at_call 84;refine (Co.clone _ r (by omega)).mono ?_;rintro e w3 ⟨rfl,hb⟩)
  have st3:Below w1.heap.size w1 w3:=st0.trans (hb.mono st0.size)
  clear hb
  refine hK _ _ (fun _=>HSX.out _ st3) ?_
  clear hK K
  (first | simp only [Act.put,List.setIfInBounds_toArray,List.set_cons_zero,List.set_cons_succ] | skip)
  have hA:Below w3.heap.size w3 (w3.alloc (.cells #[.string r] 9)):=(Below.refl _ _).alloc (Nat.le_refl _) _
  have st4:=st3.trans (hA.mono st3.size)
  refine Hd.After.one (i:=7) (by kernel_rfl) rfl rfl ?_
  intro K hK
  go_simp
  refine hK _ _ (fun _=>HSX.out _ st4) ?_
  clear hK K
  (first | simp only [Act.put,List.setIfInBounds_toArray,List.set_cons_zero,List.set_cons_succ] | skip)
  refine Hd.After.one (i:=8) (by kernel_rfl) rfl rfl ?_
  intro K hK
  refine wp_snocS _ _ rfl (some 38) rfl a0 nw c0 w3.heap.size st.m.ks[q].ws HNW.out rfl rfl (HO.out.below st4) r (by simp) (by have:=HBW.out;omega) ?_
  intro a5 c5 w5 hok5 hg5 hat5
  have HG5:Hid (Gs (w5.setCell ⟨g,q * 2,none⟩ (.slice a5 (nw+1) c5)) b lo _ (some ⟨g,0,none⟩) ck ax ct∧Fr (Fx b lo) w1 (w5.setCell ⟨g,q * 2,none⟩ (.slice a5 (nw+1) c5))):=HST.out _ w5 _ _ st4 hok5 hg5 hat5
  have hb5:w5.heap[g]? = w1.heap[g]?:=(hg5.block g (Nat.lt_of_lt_of_le HGL.out st4.size) (fun e=>(HKN.out g e.symm).2 rfl)).trans (st4.block g HGL.out)
  have z0:w5.cell? ⟨g,q * 2,none⟩=some (.slice a0 nw c0):=(World.cell?_of_block (a:=⟨g,q * 2,none⟩) hb5).trans HD0.out
  have z1:w5.frozen? ⟨g,q * 2,none⟩=false:=(World.frozen?_of_block (a:=⟨g,q * 2,none⟩) hb5).trans HF0.out
  have z2:g<w5.heap.size:=Nat.lt_of_lt_of_le HGL.out (Nat.le_trans st4.size hg5.size)
  clear hok5 hg5 hat5 hb5
  refine hK _ _ (fun _=>z0) ?_
  clear hK K
  (first | simp only [Act.put,List.setIfInBounds_toArray,List.set_cons_zero,List.set_cons_succ] | skip)
  refine Hd.After.pureD (i:=9) (some 39) (.pointer (some ⟨g,q * 2,none⟩)) rfl rfl (by kernel_rfl) (by decide) (by kernel_rfl) (by kernel_rfl) (fun _ _ _ h=>h) (z0) (Or.inl ⟨by rfl,?_⟩) ?_
  ·
   intro X;go_simp;try with_reducible rfl
  (first | simp only [Act.put,List.setIfInBounds_toArray,List.set_cons_zero,List.set_cons_succ] | skip)
  refine Hd.After.pureD (i:=10) (some 40) (.pointer (some ⟨g,q * 2,none⟩)) rfl rfl (by kernel_rfl) (by decide) (by kernel_rfl) (by kernel_rfl) (fun _ _ _ h=>h) (z0) (Or.inl ⟨by rfl,?_⟩) ?_
  ·
   intro X;go_simp;try with_reducible rfl
  (first | simp only [Act.put,List.setIfInBounds_toArray,List.set_cons_zero,List.set_cons_succ] | skip)
  refine Hd.After.one (i:=11) (by kernel_rfl) rfl rfl ?_
  intro K hK
  go_simp
  refine hK _ _ (fun h=>by cases h) ?_
  clear hK K
  refine Hd.After.done (by kernel_rfl) ?_ _
  clear hS st0 st3 st4 hA z0 z1 z2 HSX HST HKN HO HD0 HF0 HGL
  have HLQ:Hid (q<(stK st (st.m.ks.set q ⟨st.m.ks[q].ws ++ [r],st.m.ks[q].vs⟩)).m.ks.length):=by show _<_;simp [stK];have:=HQ.out;omega
  have HE:Hid ((⟨(stK (stK st (st.m.ks.set q ⟨st.m.ks[q].ws ++ [r],st.m.ks[q].vs⟩)) ((stK st (st.m.ks.set q ⟨st.m.ks[q].ws ++ [r],st.m.ks[q].vs⟩)).m.ks.set q ⟨((stK st (st.m.ks.set q ⟨st.m.ks[q].ws ++ [r],st.m.ks[q].vs⟩)).m.ks[q]'HLQ.out).ws,((stK st (st.m.ks.set q ⟨st.m.ks[q].ws ++ [r],st.m.ks[q].vs⟩)).m.ks[q]'HLQ.out).vs ++ [v]⟩)).m,st.left-1⟩:St)=⟨⟨st.m.n,st.m.c,st.m.prior,st.m.base,addW st.m.ks ⟨r.data.toList.toArray⟩ v,st.m.ts⟩,st.left-1⟩):=by
   have h1:=HADD.out HLQ.out
   exact congrArg (fun x=>(⟨⟨st.m.n,st.m.c,st.m.prior,st.m.base,x,st.m.ts⟩,st.left-1⟩:St)) h1
  have HNV:Hid (((stK st (st.m.ks.set q ⟨st.m.ks[q].ws ++ [r],st.m.ks[q].vs⟩)).m.ks[q]'HLQ.out).vs.length≤1000000):=by have:=HBW.out.2;show _≤_;simpa [stK] using this
  have HLF:Hid ((stK st (st.m.ks.set q ⟨st.m.ks[q].ws ++ [r],st.m.ks[q].vs⟩)).left=st.left):=rfl
  have hlf:=HG.out.lf.2
  clear HADD HBW HG
  generalize stK st (st.m.ks.set q ⟨st.m.ks[q].ws ++ [r],st.m.ks[q].vs⟩)=st1 at HG5 HLQ HE HNV HLF
  generalize w5.setCell ⟨g,q * 2,none⟩ (.slice a5 (nw+1) c5)=w6 at HG5 ⊢
  obtain ⟨g',a1,c1,e',d1,f1,o1,hgl6,hlg6,hkn1,hstep1⟩:=gs_w1 HG5.out.1 q HLQ.out
  injection e' with e'
  injection e' with e' _ _
  subst e'
  have HA:Hid (Below w6.heap.size w6 (w6.alloc (.cells #[.int .i64 v] 3))):=(Below.refl _ _).alloc (Nat.le_refl _) _
  have HST:Hid (type_of% hstep1):=hstep1
  have HKN:Hid (type_of% hkn1):=hkn1
  have HO:Hid (type_of% o1):=o1
  have HD1:Hid (type_of% d1):=d1
  have HF1:Hid (type_of% f1):=f1
  have HGL:Hid (type_of% hgl6):=hgl6
  obtain ⟨nv,hnv⟩:∃ nv,(st1.m.ks[q]'HLQ.out).vs.length=nv:=⟨_,rfl⟩
  rw [hnv] at d1 HST HKN HO HD1 HNV
  have HLV:Hid ((st1.m.ks[q]'HLQ.out).vs.length=nv):=hnv
  have hgb:=HGB.out
  have hbg:¬ b=g:=fun e=>hgb e.symm
  have HW:Hid (IntKind.i64.wrap (st.left-1)=st.left-1):=by show _=_;rw [IntKind.wrap_i64];omega
  clear hstep1 hkn1 o1 f1 hnv
  go_wp2_with (at_builtin;refine wpl_snocI rfl _ _ rfl a1 nv c1 w6.heap.size _ HLV.out rfl rfl (HO.out.below HA.out) v (by simp) (by have:=HNV.out;omega) ?_;intro a7 c7 w7 hok7 hg7 hat7;have HG7:Hid (Gs (w7.setCell ⟨g,q * 2+1,none⟩ (.slice a7 (nv+1) c7)) b lo _ (some ⟨g,0,none⟩) ck ax ct∧Fr (Fx b lo) w6 (w7.setCell ⟨g,q * 2+1,none⟩ (.slice a7 (nv+1) c7))):=HST.out _ w7 _ _ HA.out hok7 hg7 hat7;have hb7:w7.heap[g]? = w6.heap[g]?:=(hg7.block g (Nat.lt_of_lt_of_le HGL.out HA.out.size) (fun e=>(HKN.out g e.symm).2 rfl)).trans (HA.out.block g HGL.out);have z0:w7.cell? ⟨g,q * 2+1,none⟩=some (.slice a1 nv c1):=(World.cell?_of_block (a:=⟨g,q * 2+1,none⟩) hb7).trans HD1.out;have z1:w7.frozen? ⟨g,q * 2+1,none⟩=false:=(World.frozen?_of_block (a:=⟨g,q * 2+1,none⟩) hb7).trans HF1.out;have z2:g<w7.heap.size:=Nat.lt_of_lt_of_le HGL.out (Nat.le_trans HA.out.size hg7.size);have hx7:Wr w7 b 0 _:=(HG5.out.1.bx.below HA.out).keptAt hg7.size (hg7.block b (Nat.lt_of_lt_of_le HG5.out.1.bx.1 HA.out.size) (fun e=>by have:=(HKN.out b e.symm).1;have:=HG5.out.1.bl;omega));obtain ⟨hbl7,⟨e0,e1,e2,e3,e4,e5,e6⟩,g0,g1,g2,g3,g4,g5,g6⟩:=wr7 hx7;rw [HLF.out] at e6;clear hok7 hg7 hat7 hb7 hx7 e0 e1 e2 e3 e4 e5 g0 g1 g2 g3 g4 g5)
  clear z0 z1 z2 e6 g6 d1
  go_ret
  have hg:=HG7.out.1
  refine ⟨.inl ⟨_,HD.out,rfl,?_⟩,?_⟩
  ·
   rw [← HE.out]
   refine ⟨?_,om_set hg.om hg.bl,hg.bl,?_,by show -9223372036854775808≤st.left-1∧st.left-1≤9223372036854775807;omega⟩
   ·
    have h4:=hg.bx.set 6 (by simp [gcells]) (.int .i64 (st.left-1))
    simpa [gcells] using h4
   ·
    have:=hg.sz
    simpa [World.setCell] using this
  ·
   exact ((HF.out.trans HG5.out.2).trans HG7.out.2).trans (fx_set _ 6 _)
 ·
  have HD:Hid (dWord st s.data.toList r.data.toList=none):=by show _=_;unfold dWord;rw [hx]
  clear hx
  go_wp2
  go_ret
  exact ⟨.inr ⟨HD.out,rfl⟩,HF.out⟩
end Go.Proofs.YtaojoamldoofpaaGreatDoor.Rm
