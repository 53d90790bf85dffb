/-
  Contracts that the proof leans on, put together in the order in which they build.
-/
import Derived.Test.YtaojoamldoofpaaGreatDoorPart8
import Derived.Shelf.Strings.Builder1
import Derived.Shelf.Strings.BuilderK
import Derived.Shelf.LaysM
import Derived.Shelf.Strconv.Itoa3
import Derived.Shelf.Strconv.Clone
import Derived.Shelf.LaysC
import Derived.Shelf.Strconv.ErrVarAll
import Derived.Shelf.Strings.Cut
import Derived.Shelf.Strings.Shaped
import Derived.Shelf.Strings.Split
import Derived.Shelf.Strings.SplitShaped
import Derived.Shelf.Strings.FieldsAny
import Derived.Test.YtaojoamldoofpaaGreatDoorProg
import Derived.Test.YtaojoamldoofpaaGreatDoorRows
set_option linter.unusedVariables false
namespace Go.Proofs.YtaojoamldoofpaaGreatDoor.Co
set_option maxRecDepth 20000
open Go.RowKit
open Tb
open Tk
open Li (ret_bool grown_trans grown_set below_none info_int btw between_any)
theorem one_cell (w:World) (T:TypeId) (x:Int):∀ j u,([Value.int .i64 x]:List Value)[j]? = some u→(w.alloc (.cells #[.int .i64 x] T)).cell? ((⟨w.heap.size,0,none⟩:Addr).add j)=some u:=by
 intro j u hj
 match j,hj with
 | 0,hj=>simp at hj;subst hj;simp [Addr.add]
theorem one_one (x:Int):∀ u ∈ ([Value.int .i64 x]:List Value),u.oneCell'=true:=by
 intro u hu;simp at hu;subst hu;rfl
theorem own_snoc {w:World} {base n:Nat} {v:Value} {l:List Int} {x:Int} (hn:l.length=n) (h:w.ownsRow base 3 1 v (n+1) (Li.iv l ++ [.int .i64 x])):Li.Own w base v (l ++ [x]):=by
 subst hn
 unfold Li.Own
 rw [← Li.iv_append,List.length_append]
 exact h
theorem own_empty (w:World) (base:Nat) (hb:base≤w.heap.size):Li.Own (w.alloc (.cells #[] 3)) base (.slice (some ⟨w.heap.size,0,none⟩) 0 0) [] :=
 World.ownsRow_made w #[] 0 hb (by unfold maxLen;omega) (by simp)
def labs (rs:List Row):List Int:=rs.map Row.label
def labels (n c:Int) (rs:List Row):List Int:=if tok n c rs=true then labs rs else []
theorem labs_length (rs:List Row):(labs rs).length=rs.length:=by simp [labs]
theorem labels_le (n c:Int) (rs:List Row):(labels n c rs).length≤rs.length:=by
 unfold labels;split
 ·
  rw [labs_length];exact Nat.le_refl _
 ·
  simp
theorem labs_get (rs:List Row) (j:Nat) (h:j<rs.length):(labs rs)[j]'(by rw [labs_length];exact h)=rs[j].label:=by simp [labs]
theorem take_get {α:Type} (xs:List α) (k:Nat) (h:k<xs.length):xs.take (k+1)=xs.take k ++ [xs[k]]:=List.take_succ_eq_append_getElem h
set_option maxHeartbeats 2000000 in
theorem slabels (w:World) (n c:Int) (a:Option Addr) (cap:Nat) (rs:List Row) (hx:IsR w a rs) (hl:rs.length+szR rs≤1048576) :
  Calls Tryz.prog 75 #[.agg #[.int .i64 n,.int .i64 c,.slice a rs.length cap]] w fun e w'=>∃ v,e=.returned v∧Li.Own w' w.heap.size v (labels n c rs)∧Below w.heap.size w w':=by
 obtain ⟨i0,hi,hz0,hz1,hz2⟩:=info_parts info_int
 obtain ⟨W,hW,hsz,hB,bx⟩:=box3_new' w (.int .i64 n) (.int .i64 c) (.slice a rs.length cap) 79
 have HW:Hid (w.alloc (.cells #[.int .i64 n,.int .i64 c,.slice a rs.length cap] 79)=W):=hW
 have hoe:Li.Own (W.alloc (.cells #[] 3)) W.heap.size (.slice (some ⟨W.heap.size,0,none⟩) 0 0) []:=own_empty _ _ (Nat.le_refl _)
 have hbe:Below W.heap.size W (W.alloc (.cells #[] 3)):=(Below.refl _ _).alloc (Nat.le_refl _) _
 rw [← hW] at hoe hbe
 have hx:=hx.below hB
 have hle:=hB.size
 have HS:Hid (W.heap.size=w.heap.size+1):=hsz
 clear hW hsz
 go_enter Tryz.func75,Tryz.ntmps75
 go_wp2
 go_loopw [3,4] (fun v i wr=>∃ k:Nat,k≤rs.length∧i=.int .i64 k∧(k=0 ∨ tok n c rs=true)∧Li.Own wr W.heap.size v ((labs rs).take k)∧Below W.heap.size W wr) (fun _ i _=>rs.length-(intOf i).toNat)
 case atStart=>exact ⟨0,Nat.zero_le _,rfl,.inl rfl,by rw [← HW.out];simpa using hoe,by rw [← HW.out];simpa using hbe⟩
 case round =>
  obtain ⟨k,hk,rfl,hor,hown,hBr⟩:=hrel
  have HOR:Hid (k=0 ∨ tok n c rs=true):=hor
  have hlen:=labs_length rs
  have htl:((labs rs).take k).length=k:=by rw [List.length_take,hlen];omega
  have bxr:=bx.below hBr
  obtain ⟨_,⟨cx0,cx1,cx2⟩,_⟩:=id bxr
  clear hor hoe hbe
  by_cases hlt:k<rs.length
  ·
   go_wp2_with fail
   refine (stab _ _ _ _ _ rs (hx.below hBr) hl).mono ?_
   rintro e w2 ⟨rfl,hB2⟩
   have hown:=hown.below hB2
   have hBr:=hBr.trans (hB2.mono hBr.size)
   have bxr:=bxr.below hB2
   clear hB2 cx0 cx1 cx2
   obtain ⟨_,⟨cx0,cx1,cx2⟩,_⟩:=id bxr
   cases ht:tok n c rs
   ·
    have HO:Hid (Li.Own w2 w.heap.size u3 (labels n c rs)):=by
     show Li.Own _ _ _ _
     have e:labels n c rs=[]:=by unfold labels;rw [ht];rfl
     have h0:k=0:=by rcases HOR.out with h | h;exact h;rw [ht] at h;cases h
     rw [e]
     subst h0
     exact hown.mono hle
    have hBe:=hB.trans (hBr.mono hB.size)
    clear ht hown
    go_wp2
    go_ret
    exact ⟨_,rfl,HO.out,hBe⟩
   ·
    have HT:Hid (tok n c rs=true):=ht
    clear ht
    rcases hx.below hBr with h0 | ⟨xb,xo,rfl,hxb,hxc⟩
    ·
     rw [h0] at hlt;simp at hlt
    ·
     obtain ⟨v0,v1,v2,⟨d0,d1,d2⟩,hr⟩:=hxc k hlt
     clear hxc
     obtain ⟨a0,q0,a1,q1,rfl,rfl,rfl,_,_⟩:=hr
     have HTK:Hid ((labs rs).take (k+1)=(labs rs).take k ++ [rs[k].label]):=by
      have:=take_get (labs rs) k (by omega)
      rwa [labs_get rs k hlt] at this
     have hsz2:=hBr.size
     clear hlen
     go_wp2_with (at_builtin;refine wpList_append_own _ rfl _ _ 45 rfl W.heap.size 3 i0 (.int .i64 0) 1 8 Tryz.underlying45 hi hz0 hz1 hz2 rfl (by decide) _ _ _ rfl (World.ownsRow.alloc hown _) ⟨w2.heap.size,0,none⟩ 1 1 [.int .i64 rs[k].label] rfl rfl (one_cell _ _ _) (one_one _) (by unfold maxLen;omega) (by omega) (by simp;omega) ?_)
     intro v' w3 hown' hgrow hnn
     clear hnn
     have ho2:Li.Own w3 W.heap.size v' ((labs rs).take (k+1)):=by rw [HTK.out];exact own_snoc htl hown'
     have hB2:Below W.heap.size W w3:=(hBr.alloc hsz2 _).grown hgrow (by simp;omega) (fun g hg=>(World.ownsRow.lt hown g hg).1)
     clear hown' hgrow hown htl
     go_wp2
     go_roundw
     case rel=>exact ⟨k+1,by omega,by go_num,.inr HT.out,ho2,hB2⟩
     case measure=>simp [intOf];omega
  ·
   have HO:Hid (Li.Own wr w.heap.size u3 (labels n c rs)):=by
    show Li.Own _ _ _ _
    have e:(labs rs).take k=labs rs:=List.take_of_length_le (by omega)
    rw [e] at hown
    have e2:labels n c rs=labs rs:=by
     unfold labels
     rcases HOR.out with h | h
     ·
      have:rs=[]:=List.length_eq_zero_iff.1 (by omega)
      subst this;simp [labs]
     ·
      rw [h];rfl
    rw [e2];exact hown.mono hle
   have hBe:=hB.trans (hBr.mono hB.size)
   clear hown htl hlen
   go_wp2
   go_ret
   exact ⟨_,rfl,HO.out,hBe⟩
def nat (rs:List Row) (p:Nat):List Int:=rs.map fun r=>r.nums.getD p 0
theorem tok_nums {n c:Int} {rs:List Row} (h:tok n c rs=true) (j:Nat) (hj:j<rs.length):(rs[j].nums.length:Int)=n∧(rs[j].cats.length:Int)=c:=by
 have h2:=(tok_iff.1 h).2.2
 have:=rok_iff.1 (List.all_eq_true.1 h2 _ (List.getElem_mem hj))
 exact ⟨this.2.1,this.2.2.1⟩
end Go.Proofs.YtaojoamldoofpaaGreatDoor.Co
namespace Go.Proofs
open Go.Shelf
def Tryz.lays169_ren:Go.Shelf.Ren:=⟨fun | 169=>51 | n=>n,fun | 70=>88 | 9=>9 | 0=>0 | 72=>90 | 37=>22 | 127=>125 | 3=>3 | 5=>5 | n=>n,fun | n=>n⟩
theorem Tryz.lays169:Go.Proofs.Lays.n169 Tryz.prog Tryz.lays169_ren:={
 mixed:=by kernel_rfl
 f169:=Tryz.func51.trans (congrArg some (by kernel_rfl))
 t0:=Tryz.underlying0
 a0:=Tryz.isAgg0
 z0:=Tryz.sizeOf0
 v0:=Tryz.zeroValue0
 t3:=Tryz.underlying3
 a3:=Tryz.isAgg3
 z3:=Tryz.sizeOf3
 v3:=Tryz.zeroValue3
 t9:=Tryz.underlying9
 a9:=Tryz.isAgg9
 z9:=Tryz.sizeOf9
 v9:=Tryz.zeroValue9
 t37:=Tryz.underlying22
 a37:=Tryz.isAgg22
 z37:=Tryz.sizeOf22
 v37:=Tryz.zeroValue22
 t70:=Tryz.underlying88
 a70:=Tryz.isAgg88
 z70:=Tryz.sizeOf88
 v70:=Tryz.zeroValue88
 t72:=Tryz.underlying90
 a72:=Tryz.isAgg90
 z72:=Tryz.sizeOf90
 v72:=Tryz.zeroValue90
 t127:=Tryz.underlying125
 a127:=Tryz.isAgg125
 z127:=Tryz.sizeOf125
 v127:=Tryz.zeroValue125 }
theorem Tryz.Builder_Extra_169:Builder.Extra Tryz.prog Tryz.lays169_ren:={
 sizeBuilder:=by kernel_rfl
 liesBuilder:=by kernel_rfl
 t5:=Tryz.underlying5
 a5:=Tryz.isAgg5
 z5:=Tryz.sizeOf5
 v5:=Tryz.zeroValue5
 infoByte:=by kernel_rfl
 cellsByte:=by kernel_rfl
 sizeByte:=by kernel_rfl
 neB5:=by decide }
open Go.RowKit in
theorem Tryz.Builder_String_any (B b:Nat) (l:List UInt8) (w:World) (h:Lib.IsBuilder 90 5 B b (Lib.byteCells l) w) (hBw:B≤w.heap.size) :
  Calls Tryz.prog 51 #[.pointer (some ⟨b,0,none⟩)] w fun e w'=>e=.returned (.string ⟨l.toArray⟩)∧Below B w w':=Any.Builder_String_any Tryz.lays169 Tryz.Builder_Extra_169 B b l w h hBw
def Tryz.laysM171_ren:Go.Shelf.Ren:=⟨fun | 171=>79 | 243=>107 | 246=>140 | 283=>160 | 284=>161 | 285=>162 | 286=>163 | 129=>171 | 317=>170 | 318=>172 | 319=>173 | 320=>174 | 337=>180 | 338=>181 | n=>n,fun | 3=>3 | 9=>9 | 2=>2 | 4=>4 | 171=>198 | 0=>0 | 53=>199 | 37=>22 | 5=>5 | 173=>202 | 212=>215 | 51=>73 | 20=>20 | 213=>216 | 46=>111 | 232=>240 | 233=>241 | n=>n,fun | 17=>5 | 18=>8 | 19=>9 | n=>n⟩
theorem Tryz.laysM171:Go.Proofs.LaysM.n171 Tryz.prog Tryz.laysM171_ren:={
 mixed:=by kernel_rfl
 f129:=Tryz.func171.trans (congrArg some (by kernel_rfl))
 f171:=Tryz.func79.trans (congrArg some (by kernel_rfl))
 f243:=Tryz.func107.trans (congrArg some (by kernel_rfl))
 f246:=Tryz.func140.trans (congrArg some (by kernel_rfl))
 f283:=Tryz.func160.trans (congrArg some (by kernel_rfl))
 f284:=Tryz.func161.trans (congrArg some (by kernel_rfl))
 f285:=Tryz.func162.trans (congrArg some (by kernel_rfl))
 f286:=Tryz.func163.trans (congrArg some (by kernel_rfl))
 f317:=Tryz.func170.trans (congrArg some (by kernel_rfl))
 f318:=Tryz.func172.trans (congrArg some (by kernel_rfl))
 f319:=Tryz.func173.trans (congrArg some (by kernel_rfl))
 f320:=Tryz.func174.trans (congrArg some (by kernel_rfl))
 f337:=Tryz.func180.trans (congrArg some (by kernel_rfl))
 f338:=Tryz.func181.trans (congrArg some (by kernel_rfl))
 t0:=Tryz.underlying0
 a0:=Tryz.isAgg0
 z0:=Tryz.sizeOf0
 v0:=Tryz.zeroValue0
 t2:=Tryz.underlying2
 a2:=Tryz.isAgg2
 z2:=Tryz.sizeOf2
 v2:=Tryz.zeroValue2
 t3:=Tryz.underlying3
 a3:=Tryz.isAgg3
 z3:=Tryz.sizeOf3
 v3:=Tryz.zeroValue3
 t4:=Tryz.underlying4
 a4:=Tryz.isAgg4
 z4:=Tryz.sizeOf4
 v4:=Tryz.zeroValue4
 t5:=Tryz.underlying5
 a5:=Tryz.isAgg5
 z5:=Tryz.sizeOf5
 v5:=Tryz.zeroValue5
 t9:=Tryz.underlying9
 a9:=Tryz.isAgg9
 z9:=Tryz.sizeOf9
 v9:=Tryz.zeroValue9
 t20:=Tryz.underlying20
 a20:=Tryz.isAgg20
 z20:=Tryz.sizeOf20
 v20:=Tryz.zeroValue20
 t37:=Tryz.underlying22
 a37:=Tryz.isAgg22
 z37:=Tryz.sizeOf22
 v37:=Tryz.zeroValue22
 t46:=Tryz.underlying111
 a46:=Tryz.isAgg111
 z46:=Tryz.sizeOf111
 v46:=Tryz.zeroValue111
 t51:=Tryz.underlying73
 a51:=Tryz.isAgg73
 z51:=Tryz.sizeOf73
 v51:=Tryz.zeroValue73
 t53:=Tryz.underlying199
 a53:=Tryz.isAgg199
 z53:=Tryz.sizeOf199
 v53:=Tryz.zeroValue199
 t171:=Tryz.underlying198
 a171:=Tryz.isAgg198
 z171:=Tryz.sizeOf198
 v171:=Tryz.zeroValue198
 t173:=Tryz.underlying202
 a173:=Tryz.isAgg202
 z173:=Tryz.sizeOf202
 v173:=Tryz.zeroValue202
 t212:=Tryz.underlying215
 a212:=Tryz.isAgg215
 z212:=Tryz.sizeOf215
 v212:=Tryz.zeroValue215
 t213:=Tryz.underlying216
 a213:=Tryz.isAgg216
 z213:=Tryz.sizeOf216
 t232:=Tryz.underlying240
 a232:=Tryz.isAgg240
 z232:=Tryz.sizeOf240
 v232:=Tryz.zeroValue240
 t233:=Tryz.underlying241
 a233:=Tryz.isAgg241
 z233:=Tryz.sizeOf241
 v233:=Tryz.zeroValue241
 g17:=by kernel_rfl
 g18:=by kernel_rfl
 g19:=by kernel_rfl
 i0:=by kernel_rfl
 i2:=by kernel_rfl
 i3:=by kernel_rfl
 i4:=by kernel_rfl
 i5:=by kernel_rfl
 i9:=by kernel_rfl
 i20:=by kernel_rfl
 i37:=by kernel_rfl
 i46:=by kernel_rfl
 i51:=by kernel_rfl
 i53:=by kernel_rfl
 i171:=by kernel_rfl
 i173:=by kernel_rfl
 i212:=by kernel_rfl
 i232:=by kernel_rfl
 i233:=by kernel_rfl
 m17:=by kernel_rfl
 m18:=by kernel_rfl
 m19:=by kernel_rfl }
open Go.RowKit Go.Sort Go.Lib in
theorem Tryz.strconv_Itoa (n : Int) (h0 : -9223372036854775808 ≤ n) (h1 : n ≤ 9223372036854775807) (w : World) (htab : Lib.TabIs Tryz.prog w "internal/strconv.uint64pow10" .u64 Lib.pow10Tab) :
  Calls Tryz.prog 79 #[.int .i64 n] w fun e w'=>e=.returned (.string ⟨(Lib.itoa n).toArray⟩)∧∃ k os,w'=grow (w.drewN k) os:=Any.strconv_Itoa Tryz.laysM171 n h0 h1 w htab
def Tryz.laysM316_ren:Go.Shelf.Ren:=⟨fun | 316=>112 | n=>n,fun | 9=>9 | 3=>3 | 4=>4 | 37=>22 | 0=>0 | 127=>125 | 5=>5 | n=>n,fun | n=>n⟩
theorem Tryz.laysM316:Go.Proofs.LaysM.n316 Tryz.prog Tryz.laysM316_ren:={
 mixed:=by kernel_rfl
 f316:=Tryz.func112.trans (congrArg some (by kernel_rfl))
 t0:=Tryz.underlying0
 a0:=Tryz.isAgg0
 z0:=Tryz.sizeOf0
 v0:=Tryz.zeroValue0
 t3:=Tryz.underlying3
 a3:=Tryz.isAgg3
 z3:=Tryz.sizeOf3
 v3:=Tryz.zeroValue3
 t4:=Tryz.underlying4
 a4:=Tryz.isAgg4
 z4:=Tryz.sizeOf4
 v4:=Tryz.zeroValue4
 t9:=Tryz.underlying9
 a9:=Tryz.isAgg9
 z9:=Tryz.sizeOf9
 v9:=Tryz.zeroValue9
 t37:=Tryz.underlying22
 a37:=Tryz.isAgg22
 z37:=Tryz.sizeOf22
 v37:=Tryz.zeroValue22
 t127:=Tryz.underlying125
 a127:=Tryz.isAgg125
 z127:=Tryz.sizeOf125
 v127:=Tryz.zeroValue125
 t5:=Tryz.underlying5
 a5:=Tryz.isAgg5
 z5:=Tryz.sizeOf5
 v5:=Tryz.zeroValue5
 i0:=by kernel_rfl
 i3:=by kernel_rfl
 i4:=by kernel_rfl
 i5:=by kernel_rfl
 i9:=by kernel_rfl
 i37:=by kernel_rfl
 i127:=by kernel_rfl }
open Go.RowKit in
theorem Tryz.stringslite_Clone (s:ByteArray) (w:World) (hlim:s.size≤281474976710656) :
  Calls Tryz.prog 112 #[.string s] w fun e w'=>e=.returned (.string s)∧Below w.heap.size w w':=Any.stringslite_Clone Tryz.laysM316 s w hlim
def Tryz.laysC172_ren:Go.Shelf.Ren:=⟨fun | 172=>83 | 244=>110 | 245=>111 | 247=>144 | 279=>145 | 280=>146 | 281=>147 | 282=>148 | 287=>165 | 316=>112 | 171=>79 | 205=>166 | 321=>175 | 322=>176 | 243=>107 | 246=>140 | 283=>160 | 284=>161 | 285=>162 | 286=>163 | 129=>171 | 317=>170 | 318=>172 | 319=>173 | 320=>174 | 337=>180 | 338=>181 | n=>n,fun | 9=>9 | 3=>3 | 75=>92 | 76=>93 | 4=>4 | 5=>5 | 167=>183 | 37=>22 | 0=>0 | 85=>184 | 2=>2 | 168=>186 | 53=>199 | 175=>204 | 46=>111 | 210=>207 | 127=>125 | 145=>224 | 143=>222 | 21=>21 | 171=>198 | 173=>202 | 212=>215 | 51=>73 | 20=>20 | 213=>216 | 232=>240 | 233=>241 | 80=>97 | n=>n,fun | 15=>2 | 16=>3 | 17=>5 | 18=>8 | 19=>9 | n=>n⟩
theorem Tryz.laysC172:Go.Proofs.LaysC.n172 Tryz.prog Tryz.laysC172_ren:={
 mixed:=by kernel_rfl
 f129:=Tryz.func171.trans (congrArg some (by kernel_rfl))
 f171:=Tryz.func79.trans (congrArg some (by kernel_rfl))
 f172:=Tryz.func83.trans (congrArg some (by kernel_rfl))
 f205:=Tryz.func166.trans (congrArg some (by kernel_rfl))
 f243:=Tryz.func107.trans (congrArg some (by kernel_rfl))
 f244:=Tryz.func110.trans (congrArg some (by kernel_rfl))
 f245:=Tryz.func111.trans (congrArg some (by kernel_rfl))
 f246:=Tryz.func140.trans (congrArg some (by kernel_rfl))
 f247:=Tryz.func144.trans (congrArg some (by kernel_rfl))
 f279:=Tryz.func145.trans (congrArg some (by kernel_rfl))
 f280:=Tryz.func146.trans (congrArg some (by kernel_rfl))
 f281:=Tryz.func147.trans (congrArg some (by kernel_rfl))
 f282:=Tryz.func148.trans (congrArg some (by kernel_rfl))
 f283:=Tryz.func160.trans (congrArg some (by kernel_rfl))
 f284:=Tryz.func161.trans (congrArg some (by kernel_rfl))
 f285:=Tryz.func162.trans (congrArg some (by kernel_rfl))
 f286:=Tryz.func163.trans (congrArg some (by kernel_rfl))
 f287:=Tryz.func165.trans (congrArg some (by kernel_rfl))
 f316:=Tryz.func112.trans (congrArg some (by kernel_rfl))
 f317:=Tryz.func170.trans (congrArg some (by kernel_rfl))
 f318:=Tryz.func172.trans (congrArg some (by kernel_rfl))
 f319:=Tryz.func173.trans (congrArg some (by kernel_rfl))
 f320:=Tryz.func174.trans (congrArg some (by kernel_rfl))
 f321:=Tryz.func175.trans (congrArg some (by kernel_rfl))
 f322:=Tryz.func176.trans (congrArg some (by kernel_rfl))
 f337:=Tryz.func180.trans (congrArg some (by kernel_rfl))
 f338:=Tryz.func181.trans (congrArg some (by kernel_rfl))
 t0:=Tryz.underlying0
 a0:=Tryz.isAgg0
 z0:=Tryz.sizeOf0
 v0:=Tryz.zeroValue0
 t2:=Tryz.underlying2
 a2:=Tryz.isAgg2
 z2:=Tryz.sizeOf2
 v2:=Tryz.zeroValue2
 t3:=Tryz.underlying3
 a3:=Tryz.isAgg3
 z3:=Tryz.sizeOf3
 v3:=Tryz.zeroValue3
 t4:=Tryz.underlying4
 a4:=Tryz.isAgg4
 z4:=Tryz.sizeOf4
 v4:=Tryz.zeroValue4
 t5:=Tryz.underlying5
 a5:=Tryz.isAgg5
 z5:=Tryz.sizeOf5
 v5:=Tryz.zeroValue5
 t9:=Tryz.underlying9
 a9:=Tryz.isAgg9
 z9:=Tryz.sizeOf9
 v9:=Tryz.zeroValue9
 t20:=Tryz.underlying20
 a20:=Tryz.isAgg20
 z20:=Tryz.sizeOf20
 v20:=Tryz.zeroValue20
 t21:=Tryz.underlying21
 a21:=Tryz.isAgg21
 z21:=Tryz.sizeOf21
 v21:=Tryz.zeroValue21
 t37:=Tryz.underlying22
 a37:=Tryz.isAgg22
 z37:=Tryz.sizeOf22
 v37:=Tryz.zeroValue22
 t46:=Tryz.underlying111
 a46:=Tryz.isAgg111
 z46:=Tryz.sizeOf111
 v46:=Tryz.zeroValue111
 t51:=Tryz.underlying73
 a51:=Tryz.isAgg73
 z51:=Tryz.sizeOf73
 v51:=Tryz.zeroValue73
 t53:=Tryz.underlying199
 a53:=Tryz.isAgg199
 z53:=Tryz.sizeOf199
 v53:=Tryz.zeroValue199
 t75:=Tryz.underlying92
 a75:=Tryz.isAgg92
 z75:=Tryz.sizeOf92
 v75:=Tryz.zeroValue92
 t76:=Tryz.underlying93
 a76:=Tryz.isAgg93
 z76:=Tryz.sizeOf93
 v76:=Tryz.zeroValue93
 t85:=Tryz.underlying184
 a85:=Tryz.isAgg184
 z85:=Tryz.sizeOf184
 v85:=Tryz.zeroValue184
 t127:=Tryz.underlying125
 a127:=Tryz.isAgg125
 z127:=Tryz.sizeOf125
 v127:=Tryz.zeroValue125
 t143:=Tryz.underlying222
 a143:=Tryz.isAgg222
 z143:=Tryz.sizeOf222
 v143:=Tryz.zeroValue222
 t145:=Tryz.underlying224
 a145:=Tryz.isAgg224
 z145:=Tryz.sizeOf224
 v145:=Tryz.zeroValue224
 t167:=Tryz.underlying183
 a167:=Tryz.isAgg183
 z167:=Tryz.sizeOf183
 v167:=Tryz.zeroValue183
 t168:=Tryz.underlying186
 a168:=Tryz.isAgg186
 z168:=Tryz.sizeOf186
 v168:=Tryz.zeroValue186
 t171:=Tryz.underlying198
 a171:=Tryz.isAgg198
 z171:=Tryz.sizeOf198
 v171:=Tryz.zeroValue198
 t173:=Tryz.underlying202
 a173:=Tryz.isAgg202
 z173:=Tryz.sizeOf202
 v173:=Tryz.zeroValue202
 t175:=Tryz.underlying204
 a175:=Tryz.isAgg204
 z175:=Tryz.sizeOf204
 v175:=Tryz.zeroValue204
 t210:=Tryz.underlying207
 a210:=Tryz.isAgg207
 z210:=Tryz.sizeOf207
 v210:=Tryz.zeroValue207
 t212:=Tryz.underlying215
 a212:=Tryz.isAgg215
 z212:=Tryz.sizeOf215
 v212:=Tryz.zeroValue215
 t213:=Tryz.underlying216
 a213:=Tryz.isAgg216
 z213:=Tryz.sizeOf216
 t232:=Tryz.underlying240
 a232:=Tryz.isAgg240
 z232:=Tryz.sizeOf240
 v232:=Tryz.zeroValue240
 t233:=Tryz.underlying241
 a233:=Tryz.isAgg241
 z233:=Tryz.sizeOf241
 v233:=Tryz.zeroValue241
 g15:=by kernel_rfl
 g16:=by kernel_rfl
 g17:=by kernel_rfl
 g18:=by kernel_rfl
 g19:=by kernel_rfl
 t80:=Tryz.underlying97
 a80:=Tryz.isAgg97
 z80:=Tryz.sizeOf97
 v80:=Tryz.zeroValue97
 i0:=by kernel_rfl
 i2:=by kernel_rfl
 i3:=by kernel_rfl
 i4:=by kernel_rfl
 i5:=by kernel_rfl
 i9:=by kernel_rfl
 i20:=by kernel_rfl
 i21:=by kernel_rfl
 i37:=by kernel_rfl
 i46:=by kernel_rfl
 i51:=by kernel_rfl
 i53:=by kernel_rfl
 i75:=by kernel_rfl
 i76:=by kernel_rfl
 i80:=by kernel_rfl
 i85:=by kernel_rfl
 i127:=by kernel_rfl
 i143:=by kernel_rfl
 i145:=by kernel_rfl
 i167:=by kernel_rfl
 i168:=by kernel_rfl
 i171:=by kernel_rfl
 i173:=by kernel_rfl
 i175:=by kernel_rfl
 i210:=by kernel_rfl
 i212:=by kernel_rfl
 i232:=by kernel_rfl
 i233:=by kernel_rfl
 m15:=by kernel_rfl
 m16:=by kernel_rfl
 m17:=by kernel_rfl
 m18:=by kernel_rfl
 m19:=by kernel_rfl
 c0:=by kernel_rfl
 c2:=by kernel_rfl
 c3:=by kernel_rfl
 c4:=by kernel_rfl
 c5:=by kernel_rfl
 c9:=by kernel_rfl
 c20:=by kernel_rfl
 c21:=by kernel_rfl
 c37:=by kernel_rfl
 c46:=by kernel_rfl
 c51:=by kernel_rfl
 c53:=by kernel_rfl
 c75:=by kernel_rfl
 c76:=by kernel_rfl
 c80:=by kernel_rfl
 c85:=by kernel_rfl
 c127:=by kernel_rfl
 c143:=by kernel_rfl
 c145:=by kernel_rfl
 c167:=by kernel_rfl
 c168:=by kernel_rfl
 c171:=by kernel_rfl
 c173:=by kernel_rfl
 c175:=by kernel_rfl
 c210:=by kernel_rfl
 c212:=by kernel_rfl
 c213:=by kernel_rfl
 c232:=by kernel_rfl
 c233:=by kernel_rfl }
open Go.RowKit in
theorem Tryz.strconv_Atoi_ok (s:ByteArray) (hmax:s.size≤9223372036854775806) (v:Int) (h:Lib.atoiAll s.data.toList=.ok v) (w:World) :
  Calls Tryz.prog 83 #[.string s] w fun e w'=>e=.returned (.tuple #[.int .i64 v,.nilIface])∧(w'=w ∨ ∃ t,w'=Lib.bytesWorld w 5 t):=Any.strconv_Atoi_ok Tryz.laysC172 s hmax v h w
open Go.RowKit in
theorem Tryz.strconv_Atoi_syntax_var (s : ByteArray) (hlim : s.size ≤ 281474976710656) (h : Lib.atoiAll s.data.toList = .«syntax») (tp : TypeId) (p : Value) (w : World) (hvar : w.var? Tryz.prog "strconv.ErrSyntax" = some #[.iface tp p]) :
  Calls Tryz.prog 83 #[.string s] w fun e w'=>∃ N,e=.returned (.tuple #[.int .i64 0,.iface 186 (.pointer (some ⟨N,0,none⟩))])∧w.heap.size≤N∧w'.heap[N]? = some (.cells #[.string ⟨#[65,116,111,105]⟩,.string s,.iface tp p] 207 (0,0))∧Below w.heap.size w w':=Any.strconv_Atoi_syntax_var Tryz.laysC172 s hlim h tp p w hvar
open Go.RowKit in
theorem Tryz.strconv_Atoi_range_var (s : ByteArray) (hlim : s.size ≤ 281474976710656) (h : Lib.atoiAll s.data.toList = .range) (tp : TypeId) (p : Value) (w : World) (hvar : w.var? Tryz.prog "strconv.ErrRange" = some #[.iface tp p]) :
  Calls Tryz.prog 83 #[.string s] w fun e w'=>∃ N,e=.returned (.tuple #[.int .i64 (Lib.atoiSat s.data.toList),.iface 186 (.pointer (some ⟨N,0,none⟩))])∧w.heap.size≤N∧w'.heap[N]? = some (.cells #[.string ⟨#[65,116,111,105]⟩,.string s,.iface tp p] 207 (0,0))∧Below w.heap.size w w':=Any.strconv_Atoi_range_var Tryz.laysC172 s hlim h tp p w hvar
def Tryz.lays144_ren:Go.Shelf.Ren:=⟨fun | 144=>46 | 143=>77 | 219=>105 | 217=>136 | 225=>137 | 224=>138 | 267=>139 | 266=>158 | 314=>159 | n=>n,fun | 9=>9 | 4=>4 | 3=>3 | 5=>5 | 46=>111 | 146=>196 | 51=>73 | n=>n,fun | 1=>0 | n=>n⟩
theorem Tryz.lays144:Go.Proofs.Lays.n144 Tryz.prog Tryz.lays144_ren:={
 mixed:=by kernel_rfl
 f143:=Tryz.func77.trans (congrArg some (by kernel_rfl))
 f144:=Tryz.func46.trans (congrArg some (by kernel_rfl))
 f217:=Tryz.func136.trans (congrArg some (by kernel_rfl))
 f219:=Tryz.func105.trans (congrArg some (by kernel_rfl))
 f224:=Tryz.func138.trans (congrArg some (by kernel_rfl))
 f225:=Tryz.func137.trans (congrArg some (by kernel_rfl))
 f266:=Tryz.func158.trans (congrArg some (by kernel_rfl))
 f267:=Tryz.func139.trans (congrArg some (by kernel_rfl))
 f314:=Tryz.func159.trans (congrArg some (by kernel_rfl))
 t3:=Tryz.underlying3
 a3:=Tryz.isAgg3
 z3:=Tryz.sizeOf3
 v3:=Tryz.zeroValue3
 t4:=Tryz.underlying4
 a4:=Tryz.isAgg4
 z4:=Tryz.sizeOf4
 v4:=Tryz.zeroValue4
 t5:=Tryz.underlying5
 a5:=Tryz.isAgg5
 z5:=Tryz.sizeOf5
 v5:=Tryz.zeroValue5
 t9:=Tryz.underlying9
 a9:=Tryz.isAgg9
 z9:=Tryz.sizeOf9
 v9:=Tryz.zeroValue9
 t46:=Tryz.underlying111
 a46:=Tryz.isAgg111
 z46:=Tryz.sizeOf111
 v46:=Tryz.zeroValue111
 t51:=Tryz.underlying73
 a51:=Tryz.isAgg73
 z51:=Tryz.sizeOf73
 v51:=Tryz.zeroValue73
 t146:=Tryz.underlying196
 a146:=Tryz.isAgg196
 z146:=Tryz.sizeOf196
 v146:=Tryz.zeroValue196
 g1:=by kernel_rfl }
open Go.RowKit Go.Lib in
theorem Tryz.strings_Contains_one (s:ByteArray) (c:UInt8) (w:World) :
  Calls Tryz.prog 46 #[.string s,.string ⟨#[c]⟩] w fun e w'=>e=.returned (.bool (decide (0≤Lib.indexByte s.data.toList c)))∧w'=w:=Any.strings_Contains_one Tryz.lays144 s c w
def Tryz.lays145_ren:Go.Shelf.Ren:=⟨fun | 145=>59 | 220=>82 | 219=>105 | 217=>136 | 225=>137 | 224=>138 | 267=>139 | 266=>158 | 314=>159 | n=>n,fun | 9=>9 | 4=>4 | 59=>103 | 3=>3 | 5=>5 | 46=>111 | 146=>196 | 51=>73 | n=>n,fun | 1=>0 | n=>n⟩
theorem Tryz.lays145:Go.Proofs.Lays.n145 Tryz.prog Tryz.lays145_ren:={
 mixed:=by kernel_rfl
 f145:=Tryz.func59.trans (congrArg some (by kernel_rfl))
 f217:=Tryz.func136.trans (congrArg some (by kernel_rfl))
 f219:=Tryz.func105.trans (congrArg some (by kernel_rfl))
 f220:=Tryz.func82.trans (congrArg some (by kernel_rfl))
 f224:=Tryz.func138.trans (congrArg some (by kernel_rfl))
 f225:=Tryz.func137.trans (congrArg some (by kernel_rfl))
 f266:=Tryz.func158.trans (congrArg some (by kernel_rfl))
 f267:=Tryz.func139.trans (congrArg some (by kernel_rfl))
 f314:=Tryz.func159.trans (congrArg some (by kernel_rfl))
 t3:=Tryz.underlying3
 a3:=Tryz.isAgg3
 z3:=Tryz.sizeOf3
 v3:=Tryz.zeroValue3
 t4:=Tryz.underlying4
 a4:=Tryz.isAgg4
 z4:=Tryz.sizeOf4
 v4:=Tryz.zeroValue4
 t5:=Tryz.underlying5
 a5:=Tryz.isAgg5
 z5:=Tryz.sizeOf5
 v5:=Tryz.zeroValue5
 t9:=Tryz.underlying9
 a9:=Tryz.isAgg9
 z9:=Tryz.sizeOf9
 v9:=Tryz.zeroValue9
 t46:=Tryz.underlying111
 a46:=Tryz.isAgg111
 z46:=Tryz.sizeOf111
 v46:=Tryz.zeroValue111
 t51:=Tryz.underlying73
 a51:=Tryz.isAgg73
 z51:=Tryz.sizeOf73
 v51:=Tryz.zeroValue73
 t59:=Tryz.underlying103
 a59:=Tryz.isAgg103
 z59:=Tryz.sizeOf103
 v59:=Tryz.zeroValue103
 t146:=Tryz.underlying196
 a146:=Tryz.isAgg196
 z146:=Tryz.sizeOf196
 v146:=Tryz.zeroValue196
 g1:=by kernel_rfl }
open Go.RowKit Go.Lib in
theorem Tryz.strings_Cut (s sep:ByteArray) (m:Int) (w:World) (hs:s.size<4294967281) (hm:w.cell? ⟨0,0,none⟩=some (.int .i64 m)) :
  Calls Tryz.prog 59 #[.string s,.string sep] w fun e w'=>e=.returned (.tuple #[.string ⟨(Lib.cut s.data.toList sep.data.toList).1.toArray⟩,.string ⟨(Lib.cut s.data.toList sep.data.toList).2.1.toArray⟩,.bool (Lib.cut s.data.toList sep.data.toList).2.2])∧∃ n,w'=w.drewN n:=Any.strings_Cut Tryz.lays145 s sep m w hs hm
def Tryz.lays146_ren:Go.Shelf.Ren:=⟨fun | 146=>58 | 221=>81 | 268=>108 | 138=>109 | 143=>77 | 195=>141 | 197=>142 | 218=>143 | 219=>105 | 260=>164 | 217=>136 | 225=>137 | 224=>138 | 267=>139 | 266=>158 | 314=>159 | n=>n,fun | 9=>9 | 31=>44 | 3=>3 | 4=>4 | 0=>0 | 105=>181 | 21=>21 | 5=>5 | 46=>111 | 119=>189 | 139=>220 | 138=>219 | 146=>196 | 51=>73 | n=>n,fun | 1=>0 | 3=>6 | 4=>7 | n=>n⟩
theorem Tryz.lays146:Go.Proofs.Lays.n146 Tryz.prog Tryz.lays146_ren:={
 mixed:=by kernel_rfl
 f138:=Tryz.func109.trans (congrArg some (by kernel_rfl))
 f143:=Tryz.func77.trans (congrArg some (by kernel_rfl))
 f146:=Tryz.func58.trans (congrArg some (by kernel_rfl))
 f195:=Tryz.func141.trans (congrArg some (by kernel_rfl))
 f197:=Tryz.func142.trans (congrArg some (by kernel_rfl))
 f217:=Tryz.func136.trans (congrArg some (by kernel_rfl))
 f218:=Tryz.func143.trans (congrArg some (by kernel_rfl))
 f219:=Tryz.func105.trans (congrArg some (by kernel_rfl))
 f221:=Tryz.func81.trans (congrArg some (by kernel_rfl))
 f224:=Tryz.func138.trans (congrArg some (by kernel_rfl))
 f225:=Tryz.func137.trans (congrArg some (by kernel_rfl))
 f260:=Tryz.func164.trans (congrArg some (by kernel_rfl))
 f266:=Tryz.func158.trans (congrArg some (by kernel_rfl))
 f267:=Tryz.func139.trans (congrArg some (by kernel_rfl))
 f268:=Tryz.func108.trans (congrArg some (by kernel_rfl))
 f314:=Tryz.func159.trans (congrArg some (by kernel_rfl))
 t0:=Tryz.underlying0
 a0:=Tryz.isAgg0
 z0:=Tryz.sizeOf0
 v0:=Tryz.zeroValue0
 t3:=Tryz.underlying3
 a3:=Tryz.isAgg3
 z3:=Tryz.sizeOf3
 v3:=Tryz.zeroValue3
 t4:=Tryz.underlying4
 a4:=Tryz.isAgg4
 z4:=Tryz.sizeOf4
 v4:=Tryz.zeroValue4
 t5:=Tryz.underlying5
 a5:=Tryz.isAgg5
 z5:=Tryz.sizeOf5
 v5:=Tryz.zeroValue5
 t9:=Tryz.underlying9
 a9:=Tryz.isAgg9
 z9:=Tryz.sizeOf9
 v9:=Tryz.zeroValue9
 t21:=Tryz.underlying21
 a21:=Tryz.isAgg21
 z21:=Tryz.sizeOf21
 v21:=Tryz.zeroValue21
 t31:=Tryz.underlying44
 a31:=Tryz.isAgg44
 z31:=Tryz.sizeOf44
 v31:=Tryz.zeroValue44
 t46:=Tryz.underlying111
 a46:=Tryz.isAgg111
 z46:=Tryz.sizeOf111
 v46:=Tryz.zeroValue111
 t51:=Tryz.underlying73
 a51:=Tryz.isAgg73
 z51:=Tryz.sizeOf73
 v51:=Tryz.zeroValue73
 t105:=Tryz.underlying181
 a105:=Tryz.isAgg181
 z105:=Tryz.sizeOf181
 v105:=Tryz.zeroValue181
 t119:=Tryz.underlying189
 a119:=Tryz.isAgg189
 z119:=Tryz.sizeOf189
 t138:=Tryz.underlying219
 a138:=Tryz.isAgg219
 z138:=Tryz.sizeOf219
 v138:=Tryz.zeroValue219
 t139:=Tryz.underlying220
 a139:=Tryz.isAgg220
 z139:=Tryz.sizeOf220
 v139:=Tryz.zeroValue220
 t146:=Tryz.underlying196
 a146:=Tryz.isAgg196
 z146:=Tryz.sizeOf196
 v146:=Tryz.zeroValue196
 g1:=by kernel_rfl
 g3:=by kernel_rfl
 g4:=by kernel_rfl }
open Go.RowKit Go.Lib in
theorem Tryz.strings_Split (s sep:ByteArray) (m:Int) (w:World) (hs:s.size<4294967281) (hm:w.cell? ⟨0,0,none⟩=some (.int .i64 m)) (h1:1≤sep.size) :
  Calls Tryz.prog 58 #[.string s,.string sep] w fun e w' =>
   e=.returned (.slice (some ⟨w.heap.size,0,none⟩) (Lib.countB s sep+1) (Lib.countB s sep+1))∧w'=w.alloc (.cells ((Lib.splitB sep 0 (Lib.countB s sep) s).map Value.string).toArray 9):=Any.strings_Split Tryz.lays146 (by kernel_rfl) s sep m w hs hm h1
def Tryz.lays157_ren:Go.Shelf.Ren:=⟨fun | 157=>113 | 229=>149 | 199=>150 | 261=>167 | 311=>177 | 312=>178 | n=>n,fun | 9=>9 | 31=>44 | 3=>3 | 5=>5 | 4=>4 | 119=>189 | 0=>0 | 40=>191 | 152=>209 | 21=>21 | 154=>211 | 51=>73 | 141=>213 | 196=>228 | 193=>225 | 198=>231 | 49=>229 | 194=>226 | 201=>234 | 226=>238 | 46=>111 | 227=>239 | n=>n,fun | 0=>1 | 6=>4 | n=>n⟩
theorem Tryz.lays157:Go.Proofs.Lays.n157 Tryz.prog Tryz.lays157_ren:={
 mixed:=by kernel_rfl
 f157:=Tryz.func113.trans (congrArg some (by kernel_rfl))
 f199:=Tryz.func150.trans (congrArg some (by kernel_rfl))
 f229:=Tryz.func149.trans (congrArg some (by kernel_rfl))
 f261:=Tryz.func167.trans (congrArg some (by kernel_rfl))
 f311:=Tryz.func177.trans (congrArg some (by kernel_rfl))
 f312:=Tryz.func178.trans (congrArg some (by kernel_rfl))
 t0:=Tryz.underlying0
 a0:=Tryz.isAgg0
 z0:=Tryz.sizeOf0
 v0:=Tryz.zeroValue0
 t3:=Tryz.underlying3
 a3:=Tryz.isAgg3
 z3:=Tryz.sizeOf3
 v3:=Tryz.zeroValue3
 t4:=Tryz.underlying4
 a4:=Tryz.isAgg4
 z4:=Tryz.sizeOf4
 v4:=Tryz.zeroValue4
 t5:=Tryz.underlying5
 a5:=Tryz.isAgg5
 z5:=Tryz.sizeOf5
 v5:=Tryz.zeroValue5
 t9:=Tryz.underlying9
 a9:=Tryz.isAgg9
 z9:=Tryz.sizeOf9
 v9:=Tryz.zeroValue9
 t21:=Tryz.underlying21
 a21:=Tryz.isAgg21
 z21:=Tryz.sizeOf21
 v21:=Tryz.zeroValue21
 t31:=Tryz.underlying44
 a31:=Tryz.isAgg44
 z31:=Tryz.sizeOf44
 v31:=Tryz.zeroValue44
 t40:=Tryz.underlying191
 a40:=Tryz.isAgg191
 z40:=Tryz.sizeOf191
 v40:=Tryz.zeroValue191
 t46:=Tryz.underlying111
 a46:=Tryz.isAgg111
 z46:=Tryz.sizeOf111
 v46:=Tryz.zeroValue111
 t49:=Tryz.underlying229
 a49:=Tryz.isAgg229
 z49:=Tryz.sizeOf229
 v49:=Tryz.zeroValue229
 t51:=Tryz.underlying73
 a51:=Tryz.isAgg73
 z51:=Tryz.sizeOf73
 v51:=Tryz.zeroValue73
 t119:=Tryz.underlying189
 a119:=Tryz.isAgg189
 z119:=Tryz.sizeOf189
 t141:=Tryz.underlying213
 a141:=Tryz.isAgg213
 z141:=Tryz.sizeOf213
 v141:=Tryz.zeroValue213
 t152:=Tryz.underlying209
 a152:=Tryz.isAgg209
 z152:=Tryz.sizeOf209
 v152:=Tryz.zeroValue209
 t154:=Tryz.underlying211
 a154:=Tryz.isAgg211
 z154:=Tryz.sizeOf211
 v154:=Tryz.zeroValue211
 t193:=Tryz.underlying225
 a193:=Tryz.isAgg225
 z193:=Tryz.sizeOf225
 v193:=Tryz.zeroValue225
 t194:=Tryz.underlying226
 a194:=Tryz.isAgg226
 z194:=Tryz.sizeOf226
 v194:=Tryz.zeroValue226
 t196:=Tryz.underlying228
 a196:=Tryz.isAgg228
 z196:=Tryz.sizeOf228
 v196:=Tryz.zeroValue228
 t198:=Tryz.underlying231
 a198:=Tryz.isAgg231
 z198:=Tryz.sizeOf231
 v198:=Tryz.zeroValue231
 t201:=Tryz.underlying234
 a201:=Tryz.isAgg234
 z201:=Tryz.sizeOf234
 v201:=Tryz.zeroValue234
 t226:=Tryz.underlying238
 a226:=Tryz.isAgg238
 z226:=Tryz.sizeOf238
 v226:=Tryz.zeroValue238
 t227:=Tryz.underlying239
 a227:=Tryz.isAgg239
 z227:=Tryz.sizeOf239
 v227:=Tryz.zeroValue239
 g0:=by kernel_rfl
 g6:=by kernel_rfl }
open Go.RowKit Go.Lib in
theorem Tryz.strings_Fields_any (s : ByteArray) (w : World) (hs : s.size < 4294967281) (htab : Lib.TabIs Tryz.prog w "strings.asciiSpace" .u8 Lib.asciiSpaceTab) (hW : Lib.WhiteTab 4 w) :
  Calls Tryz.prog 113 #[.string s] w fun e w'=>∃ A,e=.returned (.slice (some ⟨A,0,none⟩) (Lib.fieldsD s.data.toList).length (Lib.fieldsD s.data.toList).length)∧w.heap.size≤A ∧
   w'.ownsRow w.heap.size 9 1 (.slice (some ⟨A,0,none⟩) (Lib.fieldsD s.data.toList).length (Lib.fieldsD s.data.toList).length) (Lib.fieldsD s.data.toList).length ((Lib.fieldsD s.data.toList).map fun x=>Value.string ⟨x.toArray⟩)∧Below w.heap.size w w':=Any.strings_Fields_any Tryz.lays157 (by kernel_rfl) (by kernel_rfl) (by kernel_rfl) s w hs htab hW
end Go.Proofs
namespace Go.Proofs.YtaojoamldoofpaaGreatDoor.Co
set_option maxRecDepth 20000
open Go.RowKit
open Tb
open Tk
open Li (ret_bool grown_trans grown_set below_none btw between_any)
theorem sone_cell (w:World) (T:TypeId) (x:ByteArray):∀ j u,([Value.string x]:List Value)[j]? = some u→(w.alloc (.cells #[.string x] T)).cell? ((⟨w.heap.size,0,none⟩:Addr).add j)=some u:=by
 intro j u hj
 match j,hj with
 | 0,hj=>simp at hj;subst hj;simp [Addr.add]
theorem sone_one (x:ByteArray):∀ u ∈ ([Value.string x]:List Value),u.oneCell'=true:=by
 intro u hu;simp at hu;subst hu;rfl
theorem sown_snoc {w:World} {base n:Nat} {v:Value} {l:List ByteArray} {x:ByteArray} (hn:l.length=n) (h:w.ownsRow base 9 1 v (n+1) (Ls.sv l ++ [.string x])):Ls.Own w base v (l ++ [x]):=by
 subst hn
 unfold Ls.Own
 rw [← Ls.sv_append,List.length_append]
 exact h
theorem sown_empty (w:World) (base:Nat) (hb:base≤w.heap.size):Ls.Own (w.alloc (.cells #[] 9)) base (.slice (some ⟨w.heap.size,0,none⟩) 0 0) [] :=
 World.ownsRow_made w #[] 0 hb (by unfold maxLen;omega) (by simp)
def cat (rs:List Row) (p:Nat):List ByteArray:=rs.map fun r=>r.cats.getD p ⟨#[]⟩
def words (n c:Int) (rs:List Row) (num:Int):List ByteArray:=if tok n c rs=true∧0≤num∧num<c then cat rs num.toNat else []
theorem cat_length (rs:List Row) (p:Nat):(cat rs p).length=rs.length:=by simp [cat]
theorem cat_get (rs:List Row) (p j:Nat) (h:j<rs.length) (hp:p<rs[j].cats.length):(cat rs p)[j]'(by rw [cat_length];exact h)=rs[j].cats[p]:=by simp [cat,hp]
set_option maxHeartbeats 400000 in
theorem clone (w:World) (s:ByteArray) (hs:s.size≤281474976710656) :
  Calls Tryz.prog 84 #[.string s] w fun e w'=>e=.returned (.string s)∧Below w.heap.size w w':=by
 go_enter Tryz.func84,Tryz.ntmps84
 go_wp2_with (go_at_call 112;refine (Tryz.stringslite_Clone _ _ hs).mono ?_;rintro e w1 ⟨rfl,hB⟩)
 go_ret
 exact ⟨rfl,hB⟩
set_option maxHeartbeats 2000000 in
theorem iwords (w:World) (n c:Int) (a:Option Addr) (cap:Nat) (rs:List Row) (num:Int) (hx:IsR w a rs) (hl:rs.length+szR rs≤1048576) :
  Calls Tryz.prog 88 #[.agg #[.int .i64 n,.int .i64 c,.slice a rs.length cap],.int .i64 num] w fun e w'=>∃ v,e=.returned v∧Ls.Own w' w.heap.size v (words n c rs num)∧Below w.heap.size w w':=by
 obtain ⟨i0,hi,hz0,hz1,hz2⟩:=info_parts Ls.info_str
 obtain ⟨W,hW,hsz,hB,bx⟩:=box3_new' w (.int .i64 n) (.int .i64 c) (.slice a rs.length cap) 79
 have HW:Hid (w.alloc (.cells #[.int .i64 n,.int .i64 c,.slice a rs.length cap] 79)=W):=hW
 clear hW
 go_enter Tryz.func88,Tryz.ntmps88
 go_wp2_with fail
 rw [HW.out]
 clear HW
 refine (Tk.itab _ _ _ _ _ rs (hx.below hB) hl).mono ?_
 rintro e w1 ⟨rfl,hB1⟩
 have bx:=bx.below hB1
 have hB:=hB.trans (hB1.mono hB.size)
 clear hB1 hsz
 obtain ⟨hbx,⟨cx0,cx1,cx2⟩,_⟩:=id bx
 cases ht:tok n c rs
 ·
  have HR:Hid (words n c rs num=[]):=by show _=_;unfold words;rw [if_neg (by rw [ht];simp)]
  go_wp2
  go_ret
  exact ⟨_,rfl,by rw [HR.out];exact Ls.Own.nil _ _,hB⟩
 by_cases h0:num<0
 ·
  have HR:Hid (words n c rs num=[]):=by show _=_;unfold words;rw [if_neg (by omega)]
  clear ht
  go_wp2
  go_ret
  exact ⟨_,rfl,by rw [HR.out];exact Ls.Own.nil _ _,hB⟩
 by_cases h1:c≤num
 ·
  have HR:Hid (words n c rs num=[]):=by show _=_;unfold words;rw [if_neg (by omega)]
  clear ht
  go_wp2
  go_ret
  exact ⟨_,rfl,by rw [HR.out];exact Ls.Own.nil _ _,hB⟩
 ·
  have HR:Hid (words n c rs num=cat rs num.toNat):=by show _=_;unfold words;rw [if_pos ⟨ht,by omega,by omega⟩]
  have HT:Hid (tok n c rs=true):=ht
  have hle:=hB.size
  clear ht
  go_wp2_with (at_make;refine wpList_make_full _ rfl _ _ 44 rfl w.heap.size 9 i0 (.string ⟨#[]⟩) 1 Tryz.underlying44 hi hz0 hz1 _ _ _ _ rs.length rfl rfl (by omega) (by omega) (by rw [hz2];omega) (by unfold maxLen;omega) (by omega) ?_;intro w2 hown hgrow;have bx2:=bx.below (below_none hgrow);obtain ⟨_,⟨dx0,dx1,dx2⟩,_⟩:=id bx2)
  have hown':=Ls.own_made hown
  have hB1:=below_none hgrow
  have hB:=hB.trans (hB1.mono hB.size)
  clear hown hgrow hB1
  go_loopw [29] (fun i wr=>∃ k:Nat,k≤rs.length∧i=.int .i64 k∧∃ l:List ByteArray,l.length=rs.length∧Ls.Like l (cat rs num.toNat) k∧Ls.Own wr w.heap.size (.slice (some ⟨w1.heap.size,0,none⟩) rs.length rs.length) l∧Below w.heap.size w wr) (fun i _=>rs.length-(intOf i).toNat)
  case atStart=>exact ⟨0,Nat.zero_le _,rfl,_,by simp,fun j hj=>by omega,hown',hB⟩
  case round =>
   obtain ⟨k,hk,rfl,l,hll,hlike,hown,hBr⟩:=hrel
   have hlen:=cat_length rs num.toNat
   by_cases hlt:k<rs.length
   ·
    rcases hx.below hBr with h0' | ⟨xb,xo,rfl,hxb,hxc⟩
    ·
     rw [h0'] at hlt;simp at hlt
    ·
     obtain ⟨v0,v1,v2,⟨d0,d1,d2⟩,hr⟩:=hxc k hlt
     clear hxc
     obtain ⟨a0,q0,a1,q1,rfl,rfl,rfl,_,j0⟩:=hr
     have hnl:=(tok_nums HT.out k hlt).2
     have hp:num.toNat<rs[k].cats.length:=by omega
     have hp':num<(rs[k].cats.length:Int):=by omega
     have hBa:Below wr.heap.size wr (wr.alloc (.cells #[.slice a0 rs[k].nums.length q0,.slice a1 rs[k].cats.length q1,.int .i64 rs[k].label] 114)):=(Below.refl _ _).alloc (Nat.le_refl _) _
     rcases j0.below hBa with h0' | ⟨yb,yo,rfl,hyb,hyc⟩
     ·
      rw [h0'] at hp;simp at hp
     have hcy:=hyc num.toNat hp
     have HL:Hid (Ls.Like (l.set k (rs[k].cats[num.toNat]'hp)) (cat rs num.toNat) (k+1)):=by
      have:=Ls.like_set hlike (by omega) (by omega)
      rwa [cat_get rs num.toNat k hlt hp] at this
     have hwl:=word_le rs[k].cats num.toNat hp
     have hz:=szR_at rs k hlt
     unfold Row.sz at hz
     have hxs:(rs[k].cats[num.toNat]'hp).size≤1048576:=by omega
     obtain ⟨x,hx'⟩:∃ x,rs[k].cats[num.toNat]'hp=x:=⟨_,rfl⟩
     rw [hx'] at hcy HL hxs
     clear hx' hyc hwl hz
     have hBr':=hBr.trans (hBa.mono hBr.size)
     have hown1:=hown.below hBa
     have HNL:Hid ((rs[k].cats.length:Int)=c):=hnl
     clear hown hlike hBa hlen dx0 dx1 dx2 cx0 cx1 cx2 hnl
     go_wp2_with fail
     refine (clone _ _ (by omega)).mono ?_
     rintro e w4 ⟨rfl,hB4⟩
     have hBr':=hBr'.trans (hB4.mono hBr'.size)
     have hown1:=hown1.below hB4
     have hkl:k<l.length:=by rw [hll];exact hlt
     have hcl:=hown1.cell hll k hkl
     have hcf:=hown1.frozen hll k
     have hg1:=(hown1.ge w1.heap.size rfl).2
     have HO:Hid _:=hown1.set hll k x
     have HBn:Hid _:=hBr'.setCell (p:=⟨w1.heap.size,k,none⟩) (by exact hle) (.string x)
     clear hown1 hBr' hB4 d0 d1 d2 hcy
     go_wp2
     go_roundw
     case rel=>exact ⟨k+1,by omega,by go_num,l.set k x,by simpa using hll,HL.out,HO.out,HBn.out⟩
     case measure=>simp [intOf];omega
   ·
    have e:=Ls.like_all (xs:=cat rs num.toNat) (ys:=l) (by rw [hlen,show rs.length=k by omega];exact hlike) (by omega)
    have HO:Hid (Ls.Own wr w.heap.size (.slice (some ⟨w1.heap.size,0,none⟩) rs.length rs.length) (words n c rs num)):=by show Ls.Own _ _ _ _;rw [HR.out,← e];exact hown
    clear e hown hlike hlen hll
    go_wp2
    go_ret
    exact ⟨_,rfl,HO.out,hBr⟩
set_option maxHeartbeats 2000000 in
theorem swords (w:World) (n c:Int) (a:Option Addr) (cap:Nat) (rs:List Row) (num:Int) (hx:IsR w a rs) (hl:rs.length+szR rs≤1048576) (hnb : -9223372036854775808≤c∧c≤9223372036854775807) :
  Calls Tryz.prog 119 #[.agg #[.int .i64 n,.int .i64 c,.slice a rs.length cap],.int .i64 num] w fun e w'=>∃ v,e=.returned v∧Ls.Own w' w.heap.size v (words n c rs num)∧Below w.heap.size w w':=by
 obtain ⟨i0,hi,hz0,hz1,hz2⟩:=info_parts Ls.info_str
 obtain ⟨W0,hW,hsz,hB,bx⟩:=box3_new' w (.int .i64 n) (.int .i64 c) (.slice a rs.length cap) 79
 obtain ⟨W,hW1,hB0⟩:∃ W,W0.alloc (.cells #[] 9)=W∧Below W0.heap.size W0 W:=⟨_,rfl,(Below.refl _ _).alloc (Nat.le_refl _) _⟩
 have hoe:Ls.Own W W0.heap.size (.slice (some ⟨W0.heap.size,0,none⟩) 0 0) []:=by rw [← hW1];exact sown_empty _ _ (Nat.le_refl _)
 have HW:Hid ((w.alloc (.cells #[.int .i64 n,.int .i64 c,.slice a rs.length cap] 79)).alloc (.cells #[] 9)=W):=by show _=_;rw [hW];exact hW1
 have bx:=bx.below hB0
 have hB:=hB.trans (hB0.mono hB.size)
 have hoe:=hoe.mono (base':=w.heap.size+1) (by omega)
 have HS:Hid (W0.heap.size=w.heap.size+1):=hsz
 rw [hsz] at hoe
 clear hW hW1 hsz hB0
 go_enter Tryz.func119,Tryz.ntmps119
 go_wp2_with fail
 rw [HW.out]
 clear HW
 refine (Tk.stab _ _ _ _ _ rs (hx.below hB) hl).mono ?_
 rintro e w1 ⟨rfl,hB1⟩
 have bx:=bx.below hB1
 have hoe:=hoe.below hB1
 have hB:=hB.trans (hB1.mono hB.size)
 have hx0:=hx
 clear hB1
 obtain ⟨hbx,⟨cx0,cx1,cx2⟩,_⟩:=id bx
 cases ht:tok n c rs
 ·
  have HO:Hid (Ls.Own w1 w.heap.size (.slice (some ⟨w.heap.size+1,0,none⟩) 0 0) (words n c rs num)):=by
   show Ls.Own _ _ _ _
   have e:words n c rs num=[]:=by unfold words;rw [if_neg (by rw [ht];simp)]
   rw [e];exact hoe.mono (by omega)
  clear ht hoe
  go_wp2
  go_ret
  exact ⟨_,rfl,HO.out,hB⟩
 have hsk:=(tok_iff.1 ht).1
 have hsn:=sok_iff.1 hsk
 cases hb:btw num 0 (c-1)
 ·
  have HO:Hid (Ls.Own w1 w.heap.size (.slice (some ⟨w.heap.size+1,0,none⟩) 0 0) (words n c rs num)):=by
   show Ls.Own _ _ _ _
   have hb':¬ (0≤num∧num≤c-1):=of_decide_eq_false hb
   have e:words n c rs num=[]:=by unfold words;rw [if_neg (by omega)]
   rw [e];exact hoe.mono (by omega)
  clear ht hoe hsk
  go_wp2_with (go_at_call 33;refine (between_any _ _ _ _).mono ?_;rintro e w' ⟨rfl,hw'⟩;subst w')
  go_ret
  exact ⟨_,rfl,HO.out,hB⟩
 ·
  have hb':0≤num∧num≤c-1:=of_decide_eq_true hb
  have HR:Hid (words n c rs num=cat rs num.toNat):=by show _=_;unfold words;rw [if_pos ⟨ht,by omega,by omega⟩]
  have HT:Hid (tok n c rs=true):=ht
  have hnl0:=hb'.1
  clear ht hsk
  go_wp2_with (go_at_call 33;refine (between_any _ _ _ _).mono ?_;rintro e w' ⟨rfl,hw'⟩;subst w')
  go_loopw [5,6] (fun v i wr=>∃ k:Nat,k≤rs.length∧i=.int .i64 k∧Ls.Own wr (w.heap.size+1) v ((cat rs num.toNat).take k)∧Below (w.heap.size+1) w1 wr) (fun _ i _=>rs.length-(intOf i).toNat)
  case atStart=>exact ⟨0,Nat.zero_le _,rfl,by simpa using hoe,Below.refl _ _⟩
  case round =>
   obtain ⟨k,hk,rfl,hown,hBr⟩:=hrel
   have hlen:=cat_length rs num.toNat
   have htl:((cat rs num.toNat).take k).length=k:=by rw [List.length_take,hlen];omega
   have hw1:w.heap.size<w1.heap.size:=hbx
   have bxr:=bx.keptAt hBr.size (hBr.block _ (by omega))
   have hBe:=hB.trans (hBr.mono (Nat.le_succ _))
   obtain ⟨_,⟨ex0,ex1,ex2⟩,_⟩:=id bxr
   have hxr:=hx0.below hBe
   clear hoe
   by_cases hlt:k<rs.length
   ·
    rcases hxr with h0' | ⟨xb,xo,rfl,hxb,hxc⟩
    ·
     rw [h0'] at hlt;simp at hlt
    ·
     obtain ⟨v0,v1,v2,⟨d0,d1,d2⟩,hr⟩:=hxc k hlt
     clear hxc
     obtain ⟨a0,q0,a1,q1,rfl,rfl,rfl,_,j0⟩:=hr
     have hnl:=(tok_nums HT.out k hlt).2
     have hp:num.toNat<rs[k].cats.length:=by omega
     have hp':num<(rs[k].cats.length:Int):=by omega
     rcases j0 with h0' | ⟨yb,yo,rfl,hyb,hyc⟩
     ·
      rw [h0'] at hp;simp at hp
     have hcy:=hyc num.toNat hp
     have HTK:Hid ((cat rs num.toNat).take (k+1)=(cat rs num.toNat).take k ++ [rs[k].cats[num.toNat]'hp]):=by
      have:=take_get (cat rs num.toNat) k (by omega)
      rwa [cat_get rs num.toNat k hlt hp] at this
     obtain ⟨x,hx'⟩:∃ x,rs[k].cats[num.toNat]'hp=x:=⟨_,rfl⟩
     rw [hx'] at hcy HTK
     have hsz2:=hBr.size
     clear hlen hx' hyc hnl
     go_wp2_with (at_builtin;refine wpList_append_own _ rfl _ _ 44 rfl (w.heap.size+1) 9 i0 (.string ⟨#[]⟩) 1 16 Tryz.underlying44 hi hz0 hz1 hz2 rfl (by decide) _ _ _ rfl (World.ownsRow.alloc hown _) ⟨wr.heap.size,0,none⟩ 1 1 [.string x] rfl rfl (sone_cell _ _ _) (sone_one _) (by unfold maxLen;omega) (by omega) (by simp;omega) ?_)
     intro v' w3 hown' hgrow hnn
     clear hnn
     have ho2:Ls.Own w3 (w.heap.size+1) v' ((cat rs num.toNat).take (k+1)):=by rw [HTK.out];exact sown_snoc htl hown'
     have hB2:Below (w.heap.size+1) w1 w3:=(hBr.alloc (by omega) _).grown hgrow (by simp;omega) (fun g hg=>(World.ownsRow.lt hown g hg).1)
     clear hown' hgrow hown htl
     go_wp2
     go_roundw
     case rel=>exact ⟨k+1,by omega,by go_num,ho2,hB2⟩
     case measure=>simp [intOf];omega
   ·
    have HO:Hid (Ls.Own wr w.heap.size u5 (words n c rs num)):=by
     show Ls.Own _ _ _ _
     have e:(cat rs num.toNat).take k=cat rs num.toNat:=List.take_of_length_le (by omega)
     rw [e] at hown
     rw [HR.out];exact hown.mono (by omega)
    clear hown htl hlen
    go_wp2
    go_ret
    exact ⟨_,rfl,HO.out,hBe⟩
end Go.Proofs.YtaojoamldoofpaaGreatDoor.Co
namespace Go.Proofs.YtaojoamldoofpaaGreatDoor.Wd
theorem ba_ext {a b:ByteArray} (h:a.data.toList=b.data.toList):a=b:=by
 obtain ⟨⟨l⟩⟩:=a;obtain ⟨⟨r⟩⟩:=b;simp at h;rw [h]
def fst (s:ByteArray):List ByteArray→Nat
 | []=>0
 | x :: r=>if x=s then 0 else fst s r+1
theorem fst_le (s:ByteArray):∀ xs,fst s xs≤xs.length
 | []=>Nat.le_refl _
 | x :: r=>by
  unfold fst
  split
  ·
   omega
  ·
   have:=fst_le s r;simp;omega
theorem fst_lt {s:ByteArray} : ∀ {xs},fst s xs<xs.length↔s ∈ xs
 | []=>by simp [fst]
 | x :: r=>by
  unfold fst
  split
  ·
   rename_i h;simp [h]
  ·
   rename_i h
   have:=fst_lt (s:=s) (xs:=r)
   simp only [List.length_cons,Nat.add_lt_add_iff_right,List.mem_cons]
   rw [this]
   constructor
   ·
    exact .inr
   ·
    rintro (rfl | h')
    ·
     exact absurd rfl h
    ·
     exact h'
theorem fst_at {s:ByteArray} : ∀ {xs:List ByteArray} (h:fst s xs<xs.length),xs[fst s xs]=s
 | [],h=>by simp at h
 | x :: r,h=>by
  by_cases e:x=s
  ·
   have h0:fst s (x :: r)=0:=by simp [fst,e]
   simp only [h0,List.getElem_cons_zero]
   exact e
  ·
   have h1:fst s (x :: r)=fst s r+1:=by simp [fst,e]
   simp only [h1,List.getElem_cons_succ]
   exact fst_at (by simp [h1] at h;exact h)
theorem fst_min {s:ByteArray} : ∀ {xs:List ByteArray} (j:Nat) (hj:j<xs.length),xs[j]=s→fst s xs≤j
 | [],j,h,_=>by simp at h
 | x :: r,j,h,e=>by
  unfold fst
  split
  ·
   omega
  ·
   rename_i hx
   cases j with
   | zero=>exact absurd e hx
   | succ j=>have:=fst_min (s:=s) (xs:=r) j (by simpa using h) (by simpa using e);omega
def idOf (xs:List ByteArray) (s:ByteArray):Int:=if fst s xs<xs.length then (fst s xs:Int) else -1
theorem idOf_found {xs:List ByteArray} {s:ByteArray} {k:Nat} (hk:k<xs.length) (h:xs[k]=s) (hn:∀ j (hj:j<xs.length),j<k→¬ xs[j]=s):idOf xs s=k:=by
 have h1:=fst_min k hk h
 have h2:fst s xs<xs.length:=by omega
 have h3:=fst_at h2
 have h4:fst s xs=k:=by
  apply Classical.byContradiction
  intro hne
  exact hn _ h2 (by omega) h3
 unfold idOf
 rw [if_pos h2,h4]
theorem idOf_none {xs:List ByteArray} {s:ByteArray} (hn:∀ j (hj:j<xs.length),¬ xs[j]=s):idOf xs s = -1:=by
 unfold idOf
 rw [if_neg]
 intro h
 exact hn _ h (fst_at h)
theorem idOf_neg {xs:List ByteArray} {s:ByteArray} : idOf xs s<0↔¬ s ∈ xs:=by
 unfold idOf
 split
 ·
  rename_i h;rw [fst_lt] at h;simp [h]
 ·
  rename_i h;rw [fst_lt] at h;simp [h]
def dict:List ByteArray→List ByteArray→List ByteArray
 | acc,[]=>acc
 | acc,x :: r=>if fst x acc<acc.length then dict acc r else dict (acc ++ [x]) r
theorem dict_old {acc r:List ByteArray} {x:ByteArray} (h:x ∈ acc):dict acc (x :: r)=dict acc r:=by simp only [dict];rw [if_pos (fst_lt.2 h)]
theorem dict_new {acc r:List ByteArray} {x:ByteArray} (h:¬ x ∈ acc):dict acc (x :: r)=dict (acc ++ [x]) r:=by simp only [dict];rw [if_neg (fun h'=>h (fst_lt.1 h'))]
def dictOf (ws:List ByteArray):List ByteArray:=dict [] ws
theorem dict_app:∀ (a b acc:List ByteArray),dict acc (a ++ b)=dict (dict acc a) b
 | [],_,_=>rfl
 | y :: r,b,acc=>by
  rw [List.cons_append]
  by_cases h:y ∈ acc
  ·
   rw [dict_old h,dict_old h,dict_app r b acc]
  ·
   rw [dict_new h,dict_new h,dict_app r b (acc ++ [y])]
theorem dict_ext:∀ (ws acc:List ByteArray),∃ t,dict acc ws=acc ++ t
 | [],acc=>⟨[],by simp [dict]⟩
 | y :: r,acc=>by
  by_cases h:y ∈ acc
  ·
   rw [dict_old h];exact dict_ext r acc
  ·
   rw [dict_new h]
   obtain ⟨t,ht⟩:=dict_ext r (acc ++ [y])
   exact ⟨y :: t,by rw [ht];simp⟩
theorem dict_mem (s:ByteArray):∀ (ws acc:List ByteArray),s ∈ dict acc ws↔s ∈ acc ∨ s ∈ ws
 | [],acc=>by simp [dict]
 | y :: r,acc=>by
  by_cases h:y ∈ acc
  ·
   rw [dict_old h,dict_mem s r acc,List.mem_cons]
   constructor
   ·
    rintro (h' | h')
    ·
     exact .inl h'
    ·
     exact .inr (.inr h')
   ·
    rintro (h' | rfl | h')
    ·
     exact .inl h'
    ·
     exact .inl h
    ·
     exact .inr h'
  ·
   rw [dict_new h,dict_mem s r (acc ++ [y])]
   simp [or_assoc]
theorem dictOf_mem {s:ByteArray} {ws:List ByteArray} : s ∈ dictOf ws↔s ∈ ws:=by unfold dictOf;rw [dict_mem];simp
theorem dict_len:∀ (ws acc:List ByteArray),(dict acc ws).length≤acc.length+ws.length
 | [],acc=>by simp [dict]
 | y :: r,acc=>by
  by_cases hy:y ∈ acc
  ·
   rw [dict_old hy];have:=dict_len r acc;simp;omega
  ·
   rw [dict_new hy];have:=dict_len r (acc ++ [y]);simp at this;simp;omega
theorem dictOf_len (ws:List ByteArray):(dictOf ws).length≤ws.length:=by have:=dict_len ws [];simpa [dictOf] using this
theorem dictOf_old {ws:List ByteArray} {k:Nat} (hk:k<ws.length) (h:ws[k] ∈ ws.take k):dictOf (ws.take (k+1))=dictOf (ws.take k):=by
 rw [List.take_succ_eq_append_getElem hk]
 show dict [] _=_
 rw [dict_app,dict_old (show ws[k] ∈ dict [] (ws.take k) from dictOf_mem.2 h)]
 rfl
theorem dictOf_new {ws:List ByteArray} {k:Nat} (hk:k<ws.length) (h:¬ ws[k] ∈ ws.take k):dictOf (ws.take (k+1))=dictOf (ws.take k) ++ [ws[k]]:=by
 rw [List.take_succ_eq_append_getElem hk]
 show dict [] _=_
 rw [dict_app,dict_new (fun h'=>h (dictOf_mem.1 (show ws[k] ∈ dictOf _ from h')))]
 rfl
theorem fst_first {ws:List ByteArray} {k:Nat} (hk:k<ws.length):fst ws[k] ws=k↔¬ ws[k] ∈ ws.take k:=by
 constructor
 ·
  intro h hm
  obtain ⟨j,hj,e⟩:=List.getElem_of_mem hm
  have hj':j<k:=by simp at hj;omega
  have:=fst_min j (by omega) (show ws[j]=ws[k] by rw [← e];simp)
  omega
 ·
  intro h
  have h1:=fst_min k hk rfl
  have h2:fst ws[k] ws<ws.length:=by omega
  have h3:=fst_at h2
  apply Classical.byContradiction
  intro hne
  apply h
  rw [List.mem_take_iff_getElem]
  exact ⟨fst ws[k] ws,by omega,h3⟩
def hasL (l:List ByteArray) (s:ByteArray):Bool:=decide (fst s l<l.length)
def valL (l:List ByteArray) (s:ByteArray):Int:=if fst s l<l.length then (fst s l:Int) else 0
theorem hasL_iff {l:List ByteArray} {s:ByteArray} : hasL l s=true↔s ∈ l:=by unfold hasL;rw [decide_eq_true_iff];exact fst_lt
theorem hasL_no {l:List ByteArray} {s:ByteArray} (h:¬ s ∈ l):hasL l s=false:=by
 cases e:hasL l s
 ·
  rfl
 ·
  exact absurd (hasL_iff.1 e) h
theorem fst_snoc_in {s:ByteArray} (x:ByteArray):∀ {l:List ByteArray},s ∈ l→fst s (l ++ [x])=fst s l
 | [],h=>by simp at h
 | y :: r,h=>by
  simp only [List.cons_append,fst]
  by_cases e:y=s
  ·
   rw [if_pos e,if_pos e]
  ·
   rw [if_neg e,if_neg e,fst_snoc_in x (by rcases List.mem_cons.1 h with h | h;exact absurd h.symm e;exact h)]
theorem fst_snoc_out {s:ByteArray} (x:ByteArray):∀ {l:List ByteArray},¬ s ∈ l→fst s (l ++ [x])=l.length+(if x=s then 0 else 1)
 | [],_=>by simp [fst]
 | y :: r,h=>by
  simp only [List.cons_append,fst,List.length_cons]
  rw [if_neg (fun e=>h (by simp [e])),fst_snoc_out x (fun h'=>h (by simp [h']))]
  omega
theorem snoc_old {l:List ByteArray} {x:ByteArray} (h:x ∈ l) (s:ByteArray):hasL (l ++ [x]) s=hasL l s∧valL (l ++ [x]) s=valL l s:=by
 by_cases hs:s ∈ l
 ·
  have h1:=fst_lt.2 hs
  have e:=fst_snoc_in x hs
  refine ⟨by rw [hasL_iff.2 hs,hasL_iff.2 (List.mem_append_left _ hs)],?_⟩
  unfold valL
  rw [e,if_pos h1,if_pos (by simp;omega)]
 ·
  have hx:¬ s ∈ l ++ [x]:=by
   simp only [List.mem_append,List.mem_singleton,not_or]
   exact ⟨hs,fun e=>hs (e ▸ h)⟩
  refine ⟨by rw [hasL_no hs,hasL_no hx],?_⟩
  unfold valL
  rw [if_neg (fun h'=>hs (fst_lt.1 h')),if_neg (fun h'=>hx (fst_lt.1 h'))]
theorem snoc_new {l:List ByteArray} {x:ByteArray} (h:¬ x ∈ l) (s:ByteArray):hasL (l ++ [x]) s=(if s=x then true else hasL l s)∧valL (l ++ [x]) s=(if s=x then (l.length:Int) else valL l s):=by
 by_cases e:s=x
 ·
  subst e
  rw [if_pos rfl,if_pos rfl]
  have hm:s ∈ l ++ [s]:=by simp
  refine ⟨hasL_iff.2 hm,?_⟩
  unfold valL
  rw [if_pos (fst_lt.2 hm),fst_snoc_out s h,if_pos rfl]
  simp
 ·
  rw [if_neg e,if_neg e]
  by_cases hs:s ∈ l
  ·
   have h1:=fst_lt.2 hs
   refine ⟨by rw [hasL_iff.2 hs,hasL_iff.2 (List.mem_append_left _ hs)],?_⟩
   unfold valL
   rw [fst_snoc_in x hs,if_pos h1,if_pos (by simp;omega)]
  ·
   have hx:¬ s ∈ l ++ [x]:=by
    simp only [List.mem_append,List.mem_singleton,not_or]
    exact ⟨hs,e⟩
   refine ⟨by rw [hasL_no hs,hasL_no hx],?_⟩
   unfold valL
   rw [if_neg (fun h'=>hs (fst_lt.1 h')),if_neg (fun h'=>hx (fst_lt.1 h'))]
theorem valL_at {ws:List ByteArray} {k:Nat} (hk:k<ws.length):valL ws ws[k]=(fst ws[k] ws:Int):=by
 unfold valL;rw [if_pos (fst_lt.2 (List.getElem_mem hk))]
def pr (a b:ByteArray):ByteArray:=a ++ ⟨#[43]⟩ ++ b
def paired (xs ys:List ByteArray):List ByteArray:=if xs.length=ys.length then List.zipWith pr xs ys else []
def wat (ws:List ByteArray) (j:Int):ByteArray:=ws.getD j.toNat ⟨#[]⟩
def lat (ls:List Int) (j:Int):Int:=ls.getD j.toNat 0
theorem wat_get {ws:List ByteArray} {j:Int} (h:j.toNat<ws.length):wat ws j=ws[j.toNat]:=by simp [wat,List.getD_eq_getElem?_getD,List.getElem?_eq_getElem h]
theorem lat_get {ls:List Int} {j:Int} (h:j.toNat<ls.length):lat ls j=ls[j.toNat]:=by simp [lat,List.getD_eq_getElem?_getD,List.getElem?_eq_getElem h]
def tr (ws:List ByteArray) (s:ByteArray):List Int→Int
 | []=>0
 | j :: r=>(if wat ws j=s then 1 else 0)+tr ws s r
def tl (ws:List ByteArray) (ls:List Int) (s:ByteArray):List Int→Int
 | []=>0
 | j :: r=>(if wat ws j=s then lat ls j else 0)+tl ws ls s r
theorem tr_snoc (ws:List ByteArray) (s:ByteArray) (x:Int):∀ js,tr ws s (js ++ [x])=tr ws s js+(if wat ws x=s then 1 else 0)
 | []=>by simp [tr]
 | j :: r=>by simp only [List.cons_append,tr];rw [tr_snoc ws s x r];omega
theorem tl_snoc (ws:List ByteArray) (ls:List Int) (s:ByteArray) (x:Int):∀ js,tl ws ls s (js ++ [x])=tl ws ls s js+(if wat ws x=s then lat ls x else 0)
 | []=>by simp [tl]
 | j :: r=>by simp only [List.cons_append,tl];rw [tl_snoc ws ls s x r];omega
theorem tr_bd (ws:List ByteArray) (s:ByteArray):∀ js,0≤tr ws s js∧tr ws s js≤(js.length:Int)
 | []=>by simp [tr]
 | j :: r=>by have:=tr_bd ws s r;simp only [tr,List.length_cons];split <;> omega
def Sml (ls:List Int):Prop:=∀ j:Int,-1000000≤lat ls j∧lat ls j≤1000000
theorem tl_bd {ws:List ByteArray} {ls:List Int} (h:Sml ls) (s:ByteArray):∀ js,-1000000 * tr ws s js≤tl ws ls s js∧tl ws ls s js≤1000000 * tr ws s js
 | []=>by simp [tr,tl]
 | j :: r=>by have:=tl_bd (ws:=ws) h s r;have:=h j;simp only [tr,tl];split <;> omega
theorem sml_of {ls:List Int} (h:∀ x ∈ ls,-1000000≤x∧x≤1000000):Sml ls:=by
 intro j
 unfold lat
 rw [List.getD_eq_getElem?_getD]
 cases e:ls[j.toNat]? with
 | none=>simp
 | some x=>exact h x (List.mem_of_getElem? e)
def tal (ws:List ByteArray) (ls js:List Int) (s:ByteArray):Int × Int:=(tr ws s js,tl ws ls s js)
def idx (n:Nat):List Int:=(List.range n).map fun (i:Nat)=>(i:Int)
theorem idx_len (n:Nat):(idx n).length=n:=by simp [idx]
end Go.Proofs.YtaojoamldoofpaaGreatDoor.Wd
