/-
  Contracts that the proof leans on, put together in the order in which they build.
-/
import Derived.Handed
import Derived.Test.YtaojoamldoofpaaGreatDoorRows
import Derived.WalkKit
import Derived.Deep.QuietTactic
import Derived.BigQuiet
import Derived.Below
import Derived.OpenShut
import Derived.WalkSmall
import Derived.Lib.Strings
import Derived.Deep.RegionWith
set_option linter.unusedVariables false
namespace Go.Proofs.YtaojoamldoofpaaGreatDoor
variable {H:Type} {enc:TypeId × Value→H}
theorem wrap_listed {a:Assume} {C:Checked} {os:Os} {f:FuncId} {fn:Func} {s:ChangeSpec} {conds:List PathCond} {apart fresh handsOn again:Bool} {X:World→Array Value→Prop}
  (hX:∀ (w w':World) (args:Array Value),w.heap=w'.heap→X w args→X w' args)
  (own:ownKnob C.prog.godebug=none) (started:os.Started) (noInit:C.prog.inits.idxOf? f=none) (hfn:C.prog.funcs[f]? = some fn)
  (start : ∃ (w : World) (tape : Tape) (i : Input), w.os = os ∧ (w.forCall tape i).Shaped C.prog ∧ i.vars = [] ∧ Input.okWide C.prog (w.forCall tape i) .any w.heap.size f i ∧
   ((s.pre enc C.prog fn conds apart (w.forCall tape i).memory i.args∧X (w.forCall tape i).memory i.args)∧sizedMet enc C.prog fn (OpenSpec.ofChange s) apart (w.forCall tape i).memory i.args)∧a.holds C.prog (lone (Frame.enter C.prog f i.args .normal) [] (w.forCall tape i)))
  (told : ∀ (W : World) (base : Nat) (args : Array Value) (ds gs : List (DataW H)) (before : List MemPlace),
   (∀ (j:Nat) t v,fn.params[j]? = some t→args[j]? = some v→Value.okWide C.prog W .any base t v) →
   DataW.Whole enc C.prog fn.params.toList s.vars apart W args.toList ds gs before→X W args→W.ShapedOpen C.prog →
   Calls C.prog f args W fun e W'=>∃ v,e=.returned v∧s.post enc C.prog fn apart fresh handsOn again W args v W') :
  ReturnsInHanded a C os f .any (fun w args=>(s.pre enc C.prog fn conds apart w args∧X w args)∧sizedMet enc C.prog fn (OpenSpec.ofChange s) apart w args) (s.post enc C.prog fn apart fresh handsOn again):=by
 refine returnsInHanded_of_calls own started noInit start ?_
 intro w tape i _ hsh _ hok hpre _
 obtain ⟨_,_,_,fn',hfn',_,_,_,_,hval⟩:=hok
 obtain rfl:fn'=fn:=Option.some.inj (hfn'.symm.trans hfn)
 obtain ⟨⟨⟨ds,gs,before,hw,_⟩,hx⟩,_⟩:=hpre
 refine (told (w.forCall tape i) w.heap.size i.args ds gs before hval (DataW.Whole.of_heap (w':=w.forCall tape i) (by rfl) hw) (hX _ _ _ (by rfl) hx) hsh).mono fun e W' ⟨v,he,hp⟩=>?_
 subst he
 exact ChangeSpec.post_blind hp
end Go.Proofs.YtaojoamldoofpaaGreatDoor
namespace Go.Proofs.YtaojoamldoofpaaGreatDoor.Li
open Go.RowKit
theorem ret_int {k:IntKind} {a b:Int} (h:a=b):Ending.returned (.int k a)=.returned (.int k b):=by rw [h]
theorem ret_bool {a b:Bool} (h:a=b):Ending.returned (.bool a)=.returned (.bool b):=by rw [h]
def iv (xs:List Int):List Value:=xs.map (Value.int .i64)
theorem iv_length (xs:List Int):(iv xs).length=xs.length:=by simp [iv]
theorem iv_get (xs:List Int) (j:Nat) (h:j<xs.length):(iv xs)[j]? = some (.int .i64 xs[j]):=by simp [iv,List.getElem?_eq_getElem h]
theorem iv_set (xs:List Int) (j:Nat) (x:Int):(iv xs).set j (.int .i64 x)=iv (xs.set j x):=by simp [iv,List.map_set]
theorem iv_append (xs ys:List Int):iv xs ++ iv ys=iv (xs ++ ys):=by simp [iv]
theorem iv_one (xs:List Int):∀ u ∈ iv xs,u.oneCell'=true:=by
 intro u hu
 simp only [iv,List.mem_map] at hu
 obtain ⟨c,_,rfl⟩:=hu
 rfl
theorem iv_zero (n:Nat):List.replicate n (Value.int .i64 0)=iv (List.replicate n 0):=by simp [iv]
def IsL (w:World) (a:Option Addr) (xs:List Int):Prop :=
 xs=[] ∨ ∃ b off,a=some ⟨b,off,none⟩∧b<w.heap.size∧∀ j (hj:j<xs.length),w.cell? ⟨b,off+j,none⟩=some (.int .i64 xs[j])
theorem IsL.keptAt {w w1:World} {a:Option Addr} {xs:List Int} (h:IsL w a xs) (hs:w.heap.size≤w1.heap.size) (hk:∀ x,a=some x→x.block<w.heap.size→w1.heap[x.block]? = w.heap[x.block]?):IsL w1 a xs:=by
 rcases h with h | ⟨b,off,rfl,hb,hc⟩
 ·
  exact .inl h
 ·
  refine .inr ⟨b,off,rfl,by omega,fun j hj=>?_⟩
  rw [World.cell?_of_block (w:=w) (a:=⟨b,off+j,none⟩) (hk ⟨b,off,none⟩ rfl hb)]
  exact hc j hj
theorem IsL.below {w w1:World} {a:Option Addr} {xs:List Int} (h:IsL w a xs) (hb:Below w.heap.size w w1):IsL w1 a xs :=
 h.keptAt hb.size (fun _ _ hx=>hb.block _ hx)
theorem IsL.drewN {w:World} {a:Option Addr} {xs:List Int} (h:IsL w a xs) (n:Nat):IsL (w.drewN n) a xs:=h
def Own (w:World) (base:Nat) (v:Value) (xs:List Int):Prop:=w.ownsRow base 3 1 v xs.length (iv xs)
theorem Own.nil (w:World) (base:Nat):Own w base (.slice none 0 0) []:=World.ownsRow_nil _ _ _ _
theorem Own.isl {w:World} {base:Nat} {v:Value} {xs:List Int} (h:Own w base v xs):∃ a cap,v=.slice a xs.length cap∧IsL w a xs:=by
 have h':=h
 rcases h.2 with ⟨rfl,h0⟩ | ⟨g,cap,cur,rfl,hb,hh,_⟩
 ·
  obtain rfl:=List.length_eq_zero_iff.1 h0
  exact ⟨none,0,rfl,.inl rfl⟩
 ·
  refine ⟨_,cap,rfl,.inr ⟨g,0,rfl,(Array.getElem?_eq_some_iff.1 hh).1,fun j hj=>?_⟩⟩
  rw [Nat.zero_add,World.ownsRow.cellAt h' j (by omega),iv_get xs j hj]
theorem Own.kept {w w1:World} {base:Nat} {v:Value} {xs:List Int} {row:Option Nat} (h:Own w base v xs) (hg:w.grownBy w1 row) (hne:v.ownBlock=none ∨ v.ownBlock≠row):Own w1 base v xs:=World.ownsRow.kept h hg hne
theorem Own.below {w w1:World} {base:Nat} {v:Value} {xs:List Int} (h:Own w base v xs) (hb:Below w.heap.size w w1):Own w1 base v xs :=
 World.ownsRow.kept (row:=none) h ⟨hb.os,hb.tape,hb.output,hb.size,fun k hk _=>hb.block k hk⟩ (by cases hv:v.ownBlock <;> simp)
theorem Own.mono {w:World} {base base':Nat} {v:Value} {xs:List Int} (h:Own w base v xs) (hb:base'≤base):Own w base' v xs:=by
 refine ⟨h.1,?_⟩
 rcases h.2 with h | ⟨g,cap,cur,e,hb',r⟩
 ·
  exact .inl h
 ·
  exact .inr ⟨g,cap,cur,e,by omega,r⟩
theorem Own.ge {w:World} {base:Nat} {v:Value} {xs:List Int} (h:Own w base v xs):∀ k,v.ownBlock=some k→base≤k∧k<w.heap.size:=World.ownsRow.lt h
theorem Own.drewN {w:World} {base:Nat} {v:Value} {xs:List Int} (h:Own w base v xs) (n:Nat):Own (w.drewN n) base v xs:=h
theorem own_made {w:World} {base n:Nat} {v:Value} (h:w.ownsRow base 3 1 v n (madeCells (Value.int .i64 0).cells (n * 1)).toList):Own w base v (List.replicate n 0):=by
 unfold Own
 have e:(madeCells (Value.int .i64 0).cells (n * 1)).toList=iv (List.replicate n 0):=by
  rw [Nat.mul_one,← iv_zero];exact toList_madeCells_one _ _
 rw [e] at h
 simpa using h
theorem Own.cell {w:World} {base g cap n:Nat} {xs:List Int} (h:Own w base (.slice (some ⟨g,0,none⟩) n cap) xs) (hn:xs.length=n) (j:Nat) (hj:j<xs.length):w.cell? ⟨g,j,none⟩=some (.int .i64 xs[j]):=by
 subst hn
 rw [World.ownsRow.cellAt h j (by omega),iv_get xs j hj]
theorem Own.frozen {w:World} {base g cap n:Nat} {xs:List Int} (h:Own w base (.slice (some ⟨g,0,none⟩) n cap) xs) (hn:xs.length=n) (j:Nat):w.frozen? ⟨g,j,none⟩=false:=by
 subst hn
 exact World.ownsRow.frozenAt h j
theorem Own.set {w:World} {base g cap n:Nat} {xs:List Int} (h:Own w base (.slice (some ⟨g,0,none⟩) n cap) xs) (hn:xs.length=n) (j:Nat) (x:Int) :
  Own (w.setCell ⟨g,j,none⟩ (.int .i64 x)) base (.slice (some ⟨g,0,none⟩) n cap) (xs.set j x):=by
 subst hn
 have:=(World.ownsRow.stored h j (.int .i64 x)).1
 rw [iv_set] at this
 unfold Own
 rwa [List.length_set]
theorem grown_trans {w w1 w2:World} {r:Option Nat} (h:w.grownBy w1 r) (h':w1.grownBy w2 r):w.grownBy w2 r :=
 ⟨h'.os.trans h.os,h'.tape.trans h.tape,h'.output.trans h.output,Nat.le_trans h.size h'.size,fun k hk hr=>(h'.block k (Nat.lt_of_lt_of_le hk h.size) hr).trans (h.block k hk hr)⟩
theorem grown_set (w:World) (b:Nat) (o:Nat) (v:Value):w.grownBy (w.setCell ⟨b,o,none⟩ v) (some b) :=
 ⟨rfl,rfl,rfl,by simp [World.setCell],fun k _ hr=>Below.heap_setCell _ _ _ _ (fun e=>hr (by rw [e]))⟩
theorem below_none {w w1:World} (h:w.grownBy w1 none):Below w.heap.size w w1:=⟨h.os,h.tape,h.output,h.size,fun k hk=>h.block k hk (by simp)⟩
theorem below_own {w w1:World} {B:Nat} {v:Value} (h:w.grownBy w1 v.ownBlock) (hv:∀ k,v.ownBlock=some k→B≤k) (hB:B≤w.heap.size):Below B w w1 :=
 ⟨h.os,h.tape,h.output,h.size,fun k hk=>h.block k (by omega) (fun e=>by have:=hv k e.symm;omega)⟩
theorem info_int:(Tryz.prog.info? 3).map (fun i=>(i.zero,i.size,i.bytes))=some (some (.int .i64 0),1,8):=by kernel_rfl
def Like (xs ys:List Int) (k:Nat):Prop:=∀ j,j<k→xs[j]? = ys[j]?
theorem like_all {xs ys:List Int} (h:Like ys xs xs.length) (hl:ys.length=xs.length):ys=xs:=by
 apply List.ext_getElem?
 intro j
 by_cases hj:j<xs.length
 ·
  exact h j hj
 ·
  rw [List.getElem?_eq_none (by omega),List.getElem?_eq_none (by omega)]
def btw (n lo hi:Int):Bool:=decide (lo≤n∧n≤hi)
set_option maxHeartbeats 400000 in
theorem between_any (n lo hi:Int) (w:World) :
  Calls Tryz.prog 33 #[.int .i64 n,.int .i64 lo,.int .i64 hi] w fun e w'=>e=.returned (.bool (btw n lo hi))∧w'=w:=by
 go_enter Tryz.func33,Tryz.ntmps33
 go_wp2
 all_goals go_ret
 all_goals refine ⟨ret_bool ?_,rfl⟩
 all_goals unfold btw
 all_goals simp
 all_goals omega
def eqs (xs ys:List Int):Bool:=decide (xs=ys)
theorem eqs_len {xs ys:List Int} (h:¬ xs.length=ys.length):eqs xs ys=false:=by unfold eqs;simp;intro e;exact h (by rw [e])
theorem eqs_all {xs ys:List Int} (h:Like xs ys ys.length) (hl:xs.length=ys.length):eqs xs ys=true:=by unfold eqs;simp;exact like_all h hl
theorem eqs_no {xs ys:List Int} {k:Nat} (hx:k<xs.length) (hy:k<ys.length) (h:¬ xs[k]=ys[k]):eqs xs ys=false:=by
 unfold eqs;simp;intro e;subst e;exact h rfl
theorem like_step {xs ys:List Int} {k:Nat} (h:Like xs ys k) (hx:k<xs.length) (hy:k<ys.length) (e:xs[k]=ys[k]):Like xs ys (k+1):=by
 intro j hj
 by_cases hjk:j=k
 ·
  subst hjk;rw [List.getElem?_eq_getElem hx,List.getElem?_eq_getElem hy,e]
 ·
  exact h j (by omega)
theorem eqs_self (xs:List Int):eqs xs xs=true:=by simp [eqs]
set_option maxHeartbeats 1000000 in
theorem same_len (w:World) (a b:Option Addr) (n m ca cb:Nat) (h:¬ n=m) (_hn:n≤1048576) (_hm:m≤1048576) :
  Calls Tryz.prog 30 #[.slice a n ca,.slice b m cb] w fun e w'=>e=.returned (.bool false)∧w'=w:=by
 go_enter Tryz.func30,Tryz.ntmps30
 go_wp2
 go_ret
 exact ⟨rfl,rfl⟩
set_option maxHeartbeats 1000000 in
theorem same_walk (w:World) (a b:Option Addr) (ca cb:Nat) (xs ys:List Int) (hx:IsL w a xs) (hy:IsL w b ys) (he:xs.length=ys.length) (hl:xs.length≤1048576) :
  Calls Tryz.prog 30 #[.slice a xs.length ca,.slice b ys.length cb] w fun e w'=>e=.returned (.bool (eqs xs ys))∧∃ n,w'=w.drewN n:=by
 have hb:((xs.length:Int) != (ys.length:Int))=false:=by simp;omega
 go_enter Tryz.func30,Tryz.ntmps30
 go_wp2
 go_loopw [5] (fun i wr=>∃ k:Nat,k≤xs.length∧i=.int .i64 k∧Like xs ys k∧∃ n,wr=w.drewN n) (fun i _=>xs.length-(intOf i).toNat)
 case atStart=>exact ⟨0,Nat.zero_le _,rfl,fun j hj=>by omega,0,rfl⟩
 case round =>
  obtain ⟨k,hk,rfl,hlike,n,rfl⟩:=hrel
  by_cases hlt:k<xs.length
  ·
   rcases hx with rfl | ⟨xb,xo,rfl,hxb,hxc⟩
   ·
    simp at hlt
   ·
    rcases hy with rfl | ⟨yb,yo,rfl,hyb,hyc⟩
    ·
     simp at he;simp [he] at hlt
    ·
     have hlt':k<ys.length:=by omega
     have hcx:=hxc k hlt
     have hcy:=hyc k hlt'
     have HL:Hid (Like xs ys k):=hlike
     clear hxc hyc hlike
     by_cases hv:xs[k]=ys[k]
     ·
      have hv':(xs[k] != ys[k])=false:=by simpa using hv
      have HV:Hid (xs[k]=ys[k]):=hv
      clear hv
      go_wp2
      go_quiet (fail)
      go_wp2
      go_roundw
      case rel=>exact ⟨k+1,by omega,by go_num,like_step HL.out hlt hlt' HV.out,_,rfl⟩
      case measure=>simp [intOf];omega
     ·
      have hv':(xs[k] != ys[k])=true:=by simpa using hv
      have HV:Hid (¬ xs[k]=ys[k]):=hv
      clear hv
      go_wp2
      go_quiet (fail)
      go_wp2
      go_ret
      exact ⟨by rw [eqs_no hlt hlt' HV.out];rfl,_,World.drewN_drewN _ _ _⟩
  ·
   have hk':k=ys.length:=by omega
   have HR:Hid (eqs xs ys=true):=eqs_all (hk' ▸ hlike) he
   clear hk'
   go_wp2
   go_ret
   exact ⟨by rw [HR.out];rfl,_,rfl⟩
theorem same_any (w:World) (a b:Option Addr) (ca cb:Nat) (xs ys:List Int) (hx:IsL w a xs) (hy:IsL w b ys) (hl:xs.length≤1048576) (hl':ys.length≤1048576) :
  Calls Tryz.prog 30 #[.slice a xs.length ca,.slice b ys.length cb] w fun e w'=>e=.returned (.bool (eqs xs ys))∧∃ n,w'=w.drewN n:=by
 by_cases he:xs.length=ys.length
 ·
  exact same_walk w a b ca cb xs ys hx hy he hl
 ·
  refine (same_len w a b _ _ ca cb he hl hl').mono ?_
  rintro e w' ⟨rfl,rfl⟩
  exact ⟨by rw [eqs_len he],0,rfl⟩
theorem same_bel (w:World) (a b:Option Addr) (ca cb:Nat) (xs ys:List Int) (hx:IsL w a xs) (hy:IsL w b ys) (hl:xs.length≤1048576) (hl':ys.length≤1048576) :
  Calls Tryz.prog 30 #[.slice a xs.length ca,.slice b ys.length cb] w fun e w'=>e=.returned (.bool (eqs xs ys))∧Below w.heap.size w w':=by
 refine (same_any w a b ca cb xs ys hx hy hl hl').mono ?_
 rintro e w' ⟨rfl,n,rfl⟩
 exact ⟨rfl,Go.below_drewN (Below.refl _ _) _⟩
end Go.Proofs.YtaojoamldoofpaaGreatDoor.Li
namespace Go.Proofs.YtaojoamldoofpaaGreatDoor.Ls
open Go.RowKit
open Li (below_none ret_bool ret_int grown_trans grown_set)
def sv (xs:List ByteArray):List Value:=xs.map Value.string
theorem sv_get (xs:List ByteArray) (j:Nat) (h:j<xs.length):(sv xs)[j]? = some (.string xs[j]):=by simp [sv,List.getElem?_eq_getElem h]
theorem sv_set (xs:List ByteArray) (j:Nat) (x:ByteArray):(sv xs).set j (.string x)=sv (xs.set j x):=by simp [sv,List.map_set]
theorem sv_append (xs ys:List ByteArray):sv xs ++ sv ys=sv (xs ++ ys):=by simp [sv]
theorem sv_zero (n:Nat):List.replicate n (Value.string ⟨#[]⟩)=sv (List.replicate n ⟨#[]⟩):=by simp [sv]
def IsS (w:World) (a:Option Addr) (xs:List ByteArray):Prop :=
 xs=[] ∨ ∃ b off,a=some ⟨b,off,none⟩∧b<w.heap.size∧∀ j (hj:j<xs.length),w.cell? ⟨b,off+j,none⟩=some (.string xs[j])
theorem IsS.keptAt {w w1:World} {a:Option Addr} {xs:List ByteArray} (h:IsS w a xs) (hs:w.heap.size≤w1.heap.size) (hk:∀ x,a=some x→x.block<w.heap.size→w1.heap[x.block]? = w.heap[x.block]?):IsS w1 a xs:=by
 rcases h with h | ⟨b,off,rfl,hb,hc⟩
 ·
  exact .inl h
 ·
  refine .inr ⟨b,off,rfl,by omega,fun j hj=>?_⟩
  rw [World.cell?_of_block (w:=w) (a:=⟨b,off+j,none⟩) (hk ⟨b,off,none⟩ rfl hb)]
  exact hc j hj
theorem IsS.below {w w1:World} {a:Option Addr} {xs:List ByteArray} (h:IsS w a xs) (hb:Below w.heap.size w w1):IsS w1 a xs :=
 h.keptAt hb.size (fun _ _ hx=>hb.block _ hx)
def Own (w:World) (base:Nat) (v:Value) (xs:List ByteArray):Prop:=w.ownsRow base 9 1 v xs.length (sv xs)
theorem Own.nil (w:World) (base:Nat):Own w base (.slice none 0 0) []:=World.ownsRow_nil _ _ _ _
theorem Own.iss {w:World} {base:Nat} {v:Value} {xs:List ByteArray} (h:Own w base v xs):∃ a cap,v=.slice a xs.length cap∧IsS w a xs:=by
 have h':=h
 rcases h.2 with ⟨rfl,h0⟩ | ⟨g,cap,cur,rfl,hb,hh,_⟩
 ·
  obtain rfl:=List.length_eq_zero_iff.1 h0
  exact ⟨none,0,rfl,.inl rfl⟩
 ·
  refine ⟨_,cap,rfl,.inr ⟨g,0,rfl,(Array.getElem?_eq_some_iff.1 hh).1,fun j hj=>?_⟩⟩
  rw [Nat.zero_add,World.ownsRow.cellAt h' j (by omega),sv_get xs j hj]
theorem Own.kept {w w1:World} {base:Nat} {v:Value} {xs:List ByteArray} {row:Option Nat} (h:Own w base v xs) (hg:w.grownBy w1 row) (hne:v.ownBlock=none ∨ v.ownBlock≠row):Own w1 base v xs:=World.ownsRow.kept h hg hne
theorem Own.below {w w1:World} {base:Nat} {v:Value} {xs:List ByteArray} (h:Own w base v xs) (hb:Below w.heap.size w w1):Own w1 base v xs :=
 World.ownsRow.kept (row:=none) h ⟨hb.os,hb.tape,hb.output,hb.size,fun k hk _=>hb.block k hk⟩ (by cases hv:v.ownBlock <;> simp)
theorem Own.mono {w:World} {base base':Nat} {v:Value} {xs:List ByteArray} (h:Own w base v xs) (hb:base'≤base):Own w base' v xs:=by
 refine ⟨h.1,?_⟩
 rcases h.2 with h | ⟨g,cap,cur,e,hb',r⟩
 ·
  exact .inl h
 ·
  exact .inr ⟨g,cap,cur,e,by omega,r⟩
theorem Own.ge {w:World} {base:Nat} {v:Value} {xs:List ByteArray} (h:Own w base v xs):∀ k,v.ownBlock=some k→base≤k∧k<w.heap.size:=World.ownsRow.lt h
theorem own_made {w:World} {base n:Nat} {v:Value} (h:w.ownsRow base 9 1 v n (madeCells (Value.string ⟨#[]⟩).cells (n * 1)).toList):Own w base v (List.replicate n ⟨#[]⟩):=by
 unfold Own
 have e:(madeCells (Value.string ⟨#[]⟩).cells (n * 1)).toList=sv (List.replicate n ⟨#[]⟩):=by
  rw [Nat.mul_one,← sv_zero];exact toList_madeCells_one _ _
 rw [e] at h
 simpa using h
theorem Own.cell {w:World} {base g cap n:Nat} {xs:List ByteArray} (h:Own w base (.slice (some ⟨g,0,none⟩) n cap) xs) (hn:xs.length=n) (j:Nat) (hj:j<xs.length):w.cell? ⟨g,j,none⟩=some (.string xs[j]):=by
 subst hn
 rw [World.ownsRow.cellAt h j (by omega),sv_get xs j hj]
theorem Own.frozen {w:World} {base g cap n:Nat} {xs:List ByteArray} (h:Own w base (.slice (some ⟨g,0,none⟩) n cap) xs) (hn:xs.length=n) (j:Nat):w.frozen? ⟨g,j,none⟩=false:=by
 subst hn
 exact World.ownsRow.frozenAt h j
theorem Own.set {w:World} {base g cap n:Nat} {xs:List ByteArray} (h:Own w base (.slice (some ⟨g,0,none⟩) n cap) xs) (hn:xs.length=n) (j:Nat) (x:ByteArray) :
  Own (w.setCell ⟨g,j,none⟩ (.string x)) base (.slice (some ⟨g,0,none⟩) n cap) (xs.set j x):=by
 subst hn
 have:=(World.ownsRow.stored h j (.string x)).1
 rw [sv_set] at this
 unfold Own
 rwa [List.length_set]
theorem info_str:(Tryz.prog.info? 9).map (fun i=>(i.zero,i.size,i.bytes))=some (some (.string ⟨#[]⟩),1,16):=by kernel_rfl
def Like (xs ys:List ByteArray) (k:Nat):Prop:=∀ j,j<k→xs[j]? = ys[j]?
theorem like_set {xs ys:List ByteArray} {k:Nat} (h:Like ys xs k) (hk:k<xs.length) (hl:ys.length=xs.length):Like (ys.set k xs[k]) xs (k+1):=by
 intro j hj
 rw [List.getElem?_set]
 split
 ·
  rename_i e
  subst e
  rw [if_pos (by omega),List.getElem?_eq_getElem hk]
 ·
  exact h j (by omega)
theorem like_all {xs ys:List ByteArray} (h:Like ys xs xs.length) (hl:ys.length=xs.length):ys=xs:=by
 apply List.ext_getElem?
 intro j
 by_cases hj:j<xs.length
 ·
  exact h j hj
 ·
  rw [List.getElem?_eq_none (by omega),List.getElem?_eq_none (by omega)]
theorem tl_inj {s t:ByteArray} (h:s.toList=t.toList):s=t:=by
 rw [Lib.toList_data,Lib.toList_data] at h
 obtain ⟨⟨l⟩⟩:=s
 obtain ⟨⟨r⟩⟩:=t
 simp at h
 rw [h]
theorem tl_eq {s t:ByteArray} (h:s=t):(s.toList == t.toList)=true:=by rw [h];simp
theorem tl_ne {s t:ByteArray} (h:¬ s=t):(s.toList == t.toList)=false:=by
 simp only [beq_eq_false_iff_ne]
 exact fun e=>h (tl_inj e)
def eqs (xs ys:List ByteArray):Bool:=decide (xs=ys)
theorem eqs_len {xs ys:List ByteArray} (h:¬ xs.length=ys.length):eqs xs ys=false:=by unfold eqs;simp;intro e;exact h (by rw [e])
theorem eqs_all {xs ys:List ByteArray} (h:Like xs ys ys.length) (hl:xs.length=ys.length):eqs xs ys=true:=by unfold eqs;simp;exact like_all h hl
theorem eqs_no {xs ys:List ByteArray} {k:Nat} (hx:k<xs.length) (hy:k<ys.length) (h:¬ xs[k]=ys[k]):eqs xs ys=false:=by
 unfold eqs;simp;intro e;subst e;exact h rfl
theorem like_step {xs ys:List ByteArray} {k:Nat} (h:Like xs ys k) (hx:k<xs.length) (hy:k<ys.length) (e:xs[k]=ys[k]):Like xs ys (k+1):=by
 intro j hj
 by_cases hjk:j=k
 ·
  subst hjk;rw [List.getElem?_eq_getElem hx,List.getElem?_eq_getElem hy,e]
 ·
  exact h j (by omega)
theorem eqs_self (xs:List ByteArray):eqs xs xs=true:=by simp [eqs]
set_option maxHeartbeats 1000000 in
theorem same_len (w:World) (a b:Option Addr) (n m ca cb:Nat) (h:¬ n=m) (_hn:n≤1048576) (_hm:m≤1048576) :
  Calls Tryz.prog 29 #[.slice a n ca,.slice b m cb] w fun e w'=>e=.returned (.bool false)∧w'=w:=by
 go_enter Tryz.func29,Tryz.ntmps29
 go_wp2
 go_ret
 exact ⟨rfl,rfl⟩
set_option maxHeartbeats 1000000 in
theorem same_walk (w:World) (a b:Option Addr) (ca cb:Nat) (xs ys:List ByteArray) (hx:IsS w a xs) (hy:IsS w b ys) (he:xs.length=ys.length) (hl:xs.length≤1048576) :
  Calls Tryz.prog 29 #[.slice a xs.length ca,.slice b ys.length cb] w fun e w'=>e=.returned (.bool (eqs xs ys))∧∃ n,w'=w.drewN n:=by
 have hb:((xs.length:Int) != (ys.length:Int))=false:=by simp;omega
 go_enter Tryz.func29,Tryz.ntmps29
 go_wp2
 go_loopw [5] (fun i wr=>∃ k:Nat,k≤xs.length∧i=.int .i64 k∧Like xs ys k∧∃ n,wr=w.drewN n) (fun i _=>xs.length-(intOf i).toNat)
 case atStart=>exact ⟨0,Nat.zero_le _,rfl,fun j hj=>by omega,0,rfl⟩
 case round =>
  obtain ⟨k,hk,rfl,hlike,n,rfl⟩:=hrel
  by_cases hlt:k<xs.length
  ·
   rcases hx with rfl | ⟨xb,xo,rfl,hxb,hxc⟩
   ·
    simp at hlt
   ·
    rcases hy with rfl | ⟨yb,yo,rfl,hyb,hyc⟩
    ·
     simp at he;simp [he] at hlt
    ·
     have hlt':k<ys.length:=by omega
     have hcx:=hxc k hlt
     have hcy:=hyc k hlt'
     have HL:Hid (Like xs ys k):=hlike
     clear hxc hyc hlike
     by_cases hv:xs[k]=ys[k]
     ·
      have hv':(xs[k].toList == ys[k].toList)=true:=tl_eq hv
      have HV:Hid (xs[k]=ys[k]):=hv
      clear hv
      go_wp2
      go_quiet (fail)
      go_wp2
      go_roundw
      case rel=>exact ⟨k+1,by omega,by go_num,like_step HL.out hlt hlt' HV.out,_,rfl⟩
      case measure=>simp [intOf];omega
     ·
      have hv':(xs[k].toList == ys[k].toList)=false:=tl_ne hv
      have HV:Hid (¬ xs[k]=ys[k]):=hv
      clear hv
      go_wp2
      go_quiet (fail)
      go_wp2
      go_ret
      exact ⟨by rw [eqs_no hlt hlt' HV.out];rfl,_,World.drewN_drewN _ _ _⟩
  ·
   have hk':k=ys.length:=by omega
   have HR:Hid (eqs xs ys=true):=eqs_all (hk' ▸ hlike) he
   clear hk'
   go_wp2
   go_ret
   exact ⟨by rw [HR.out];rfl,_,rfl⟩
theorem same_any (w:World) (a b:Option Addr) (ca cb:Nat) (xs ys:List ByteArray) (hx:IsS w a xs) (hy:IsS w b ys) (hl:xs.length≤1048576) (hl':ys.length≤1048576) :
  Calls Tryz.prog 29 #[.slice a xs.length ca,.slice b ys.length cb] w fun e w'=>e=.returned (.bool (eqs xs ys))∧∃ n,w'=w.drewN n:=by
 by_cases he:xs.length=ys.length
 ·
  exact same_walk w a b ca cb xs ys hx hy he hl
 ·
  refine (same_len w a b _ _ ca cb he hl hl').mono ?_
  rintro e w' ⟨rfl,rfl⟩
  exact ⟨by rw [eqs_len he],0,rfl⟩
end Go.Proofs.YtaojoamldoofpaaGreatDoor.Ls
namespace Go.Proofs.YtaojoamldoofpaaGreatDoor.Tb
open Go.RowKit
open Li (ret_bool ret_int below_none)
def lets:List ByteArray→Nat
 | []=>0
 | s :: r=>s.size+lets r
theorem lets_take (ws:List ByteArray) (k:Nat) (h:k<ws.length):lets (ws.take (k+1))=lets (ws.take k)+ws[k].size:=by
 induction ws generalizing k with
 | nil=>simp at h
 | cons s r ih =>
  cases k with
  | zero=>simp [lets]
  | succ k =>
   simp only [List.take_succ_cons,lets,List.getElem_cons_succ]
   rw [ih k (by simpa using h)]
   omega
theorem lets_le (ws:List ByteArray) (k:Nat):lets (ws.take k)≤lets ws:=by
 induction ws generalizing k with
 | nil=>simp
 | cons s r ih =>
  cases k with
  | zero=>simp [lets]
  | succ k=>simp only [List.take_succ_cons,lets];have:=ih k;omega
def Fits (ws:List ByteArray):Prop:=∀ j (hj:j<ws.length),ws[j].size≤9223372036854775807
theorem lets_at (ws:List ByteArray) (k:Nat) (h:k<ws.length):ws[k].size≤lets ws:=by
 have h1:=lets_take ws k h
 have h2:=lets_le ws (k+1)
 omega
end Go.Proofs.YtaojoamldoofpaaGreatDoor.Tb
namespace Go.Proofs.YtaojoamldoofpaaGreatDoor.Sv
open Go.RowKit
open Li (iv ret_bool ret_int below_none IsL)
structure Fr (B:Nat→Prop) (w w1:World):Prop where
 os:w1.os=w.os
 tape:w1.tape=w.tape
 output:w1.output=w.output
 size:w.heap.size≤w1.heap.size
 block:∀ k,k<w.heap.size→¬ B k→w1.heap[k]? = w.heap[k]?
theorem Fr.refl (B:Nat→Prop) (w:World):Fr B w w:=⟨rfl,rfl,rfl,Nat.le_refl _,fun _ _ _=>rfl⟩
theorem Fr.trans {B:Nat→Prop} {w w1 w2:World} (h:Fr B w w1) (h':Fr B w1 w2):Fr B w w2 :=
 ⟨h'.os.trans h.os,h'.tape.trans h.tape,h'.output.trans h.output,Nat.le_trans h.size h'.size,fun k hk hb=>(h'.block k (Nat.lt_of_lt_of_le hk h.size) hb).trans (h.block k hk hb)⟩
theorem Fr.mono {B B':Nat→Prop} {w w1:World} (h:Fr B w w1) (hb:∀ k,B k→B' k):Fr B' w w1:=⟨h.os,h.tape,h.output,h.size,fun k hk hn=>h.block k hk (fun e=>hn (hb k e))⟩
theorem fr_below {B:Nat→Prop} {w w1:World} (h:Below w.heap.size w w1):Fr B w w1:=⟨h.os,h.tape,h.output,h.size,fun k hk _=>h.block k hk⟩
theorem fr_grown {B:Nat→Prop} {w w1:World} {g:Nat} (h:w.grownBy w1 (some g)) (hg:B g):Fr B w w1:=⟨h.os,h.tape,h.output,h.size,fun k hk hn=>h.block k hk (fun e=>by cases e;exact hn hg)⟩
theorem Fr.bel {B:Nat→Prop} {w w1:World} {n:Nat} (h:Fr B w w1) (hb:∀ k,B k→n≤k) (hn:n≤w.heap.size):Below n w w1:=⟨h.os,h.tape,h.output,h.size,fun k hk=>h.block k (by omega) (fun e=>by have:=hb k e;omega)⟩
def Wr (w:World) (g off:Nat) (vs:List Value):Prop:=g<w.heap.size∧∀ j (hj:j<vs.length),w.cell? ⟨g,off+j,none⟩=some vs[j]∧w.frozen? ⟨g,off+j,none⟩=false
theorem Wr.keptAt {w w1:World} {g off:Nat} {vs:List Value} (h:Wr w g off vs) (hs:w.heap.size≤w1.heap.size) (hb:w1.heap[g]? = w.heap[g]?):Wr w1 g off vs:=by
 refine ⟨by have:=h.1;omega,fun j hj=>⟨?_,?_⟩⟩
 ·
  rw [World.cell?_of_block (w:=w) (a:=⟨g,off+j,none⟩) hb];exact (h.2 j hj).1
 ·
  rw [World.frozen?_of_block (w:=w) (a:=⟨g,off+j,none⟩) hb];exact (h.2 j hj).2
theorem Wr.set {w:World} {g off:Nat} {vs:List Value} (h:Wr w g off vs) (j:Nat) (hj:j<vs.length) (v:Value):Wr (w.setCell ⟨g,off+j,none⟩ v) g off (vs.set j v):=by
 refine ⟨by simpa [World.setCell] using h.1,fun i hi=>⟨?_,?_⟩⟩
 ·
  have hi':i<vs.length:=by simpa using hi
  by_cases e:i=j
  ·
   subst e
   rw [World.cell?_setCell_same _ _ _ (h.2 i hj).1]
   simp
  ·
   rw [World.cell?_setCell_other _ _ _ _ (by intro e';injection e' with _ e';omega),(h.2 i hi').1]
   rw [List.getElem_set_ne (by omega)]
 ·
  have hi':i<vs.length:=by simpa using hi
  rw [World.frozen?_setCell];exact (h.2 i hi').2
theorem own_wr {w:World} {base g n cap:Nat} {xs:List Int} (h:Li.Own w base (.slice (some ⟨g,0,none⟩) n cap) xs) (hn:xs.length=n):Wr w g 0 (iv xs):=by
 refine ⟨(h.ge g rfl).2,fun j hj=>?_⟩
 have hj':j<xs.length:=by simpa [iv] using hj
 rw [Nat.zero_add]
 refine ⟨?_,h.frozen hn j⟩
 rw [h.cell hn j hj']
 simp [iv]
def OwI (w:World) (B:Nat→Prop) (v:Value) (xs:List Int):Prop:=∃ a cap,v=.slice a xs.length cap∧(xs=[] ∨ ∃ g off,a=some ⟨g,off,none⟩∧B g∧Wr w g off (iv xs))
theorem OwI.isl {w:World} {B:Nat→Prop} {v:Value} {xs:List Int} (h:OwI w B v xs):∃ a cap,v=.slice a xs.length cap∧IsL w a xs:=by
 obtain ⟨a,cap,e,h⟩:=h
 refine ⟨a,cap,e,?_⟩
 rcases h with h | ⟨g,off,rfl,_,hw⟩
 ·
  exact .inl h
 ·
  refine .inr ⟨g,off,rfl,hw.1,fun j hj=>?_⟩
  have:=(hw.2 j (by simpa [iv] using hj)).1
  simpa [iv] using this
theorem OwI.fr {w w1:World} {B B':Nat→Prop} {v:Value} {xs:List Int} (h:OwI w B v xs) (hf:Fr B' w w1) (hd:∀ k,B k→¬ B' k):OwI w1 B v xs:=by
 obtain ⟨a,cap,e,h⟩:=h
 refine ⟨a,cap,e,?_⟩
 rcases h with h | ⟨g,off,ha,hb,hw⟩
 ·
  exact .inl h
 ·
  exact .inr ⟨g,off,ha,hb,hw.keptAt hf.size (hf.block g hw.1 (hd g hb))⟩
theorem OwI.below {w w1:World} {B:Nat→Prop} {v:Value} {xs:List Int} (h:OwI w B v xs) (hb:Below w.heap.size w w1):OwI w1 B v xs:=h.fr (fr_below (B:=fun _=>False) hb) (fun _ _ e=>e)
theorem owi_of {w:World} {base g n cap:Nat} {B:Nat→Prop} {xs:List Int} (h:Li.Own w base (.slice (some ⟨g,0,none⟩) n cap) xs) (hn:xs.length=n) (hb:B g):OwI w B (.slice (some ⟨g,0,none⟩) n cap) xs:=by
 subst hn
 exact ⟨_,cap,rfl,.inr ⟨g,0,rfl,hb,own_wr h rfl⟩⟩
def IsV (w:World) (a:Option Addr) (xs:List (List Int)):Prop :=
 xs=[] ∨ ∃ b off,a=some ⟨b,off,none⟩∧b<w.heap.size∧∀ j (hj:j<xs.length),∃ a' c',w.cell? ⟨b,off+j,none⟩=some (.slice a' xs[j].length c')∧IsL w a' xs[j]
theorem IsV.below {w w1:World} {a:Option Addr} {xs:List (List Int)} (h:IsV w a xs) (hB:Below w.heap.size w w1):IsV w1 a xs:=by
 rcases h with h | ⟨b,off,rfl,hb,hc⟩
 ·
  exact .inl h
 ·
  refine .inr ⟨b,off,rfl,Nat.lt_of_lt_of_le hb hB.size,fun j hj=>?_⟩
  obtain ⟨a',c',hx,hi⟩:=hc j hj
  exact ⟨a',c',(hB.cell (by exact hb)).trans hx,hi.below hB⟩
def tot:List (List Int)→Nat
 | []=>0
 | x :: xs=>x.length+tot xs
theorem tot_take (xs:List (List Int)) (k:Nat) (h:k<xs.length):tot (xs.take (k+1))=tot (xs.take k)+xs[k].length:=by
 induction xs generalizing k with
 | nil=>simp at h
 | cons s r ih =>
  cases k with
  | zero=>simp [tot]
  | succ k =>
   simp only [List.take_succ_cons,tot,List.getElem_cons_succ]
   rw [ih k (by simpa using h)]
   omega
theorem tot_le (xs:List (List Int)) (k:Nat):tot (xs.take k)≤tot xs:=by
 induction xs generalizing k with
 | nil=>simp
 | cons s r ih =>
  cases k with
  | zero=>simp [tot]
  | succ k=>simp only [List.take_succ_cons,tot];have:=ih k;omega
theorem tot_at (xs:List (List Int)) (k:Nat) (h:k<xs.length):xs[k].length≤tot xs:=by
 have h1:=tot_take xs k h
 have h2:=tot_le xs (k+1)
 omega
theorem Wr.below {w w1:World} {g off:Nat} {vs:List Value} (h:Wr w g off vs) (hb:Below w.heap.size w w1):Wr w1 g off vs:=h.keptAt hb.size (hb.block g h.1)
theorem Wr.alloc {w:World} {g off:Nat} {vs:List Value} (h:Wr w g off vs) (o:Obj):Wr (w.alloc o) g off vs:=h.below ((Below.refl _ _).alloc (Nat.le_refl _) _)
theorem Wr.setOther {w:World} {g off b o:Nat} {vs:List Value} {v:Value} (h:Wr w g off vs) (hne:¬ g=b):Wr (w.setCell ⟨b,o,none⟩ v) g off vs :=
 h.keptAt (by simp [World.setCell]) (Below.heap_setCell _ _ _ _ (fun e=>hne (by simpa using e)))
theorem wr_new (w:World) (vs:List Value) (T:TypeId):Wr (w.alloc (.cells vs.toArray T)) w.heap.size 0 vs :=
 ⟨by simp,fun j hj=>⟨by rw [Nat.zero_add];simp [World.cell?_alloc_new,hj],by simp⟩⟩
theorem size_alloc (w:World) (o:Obj):(w.alloc o).heap.size=w.heap.size+1:=by simp
theorem wr1 {w:World} {b:Nat} {v0:Value} (h:Wr w b 0 [v0]):b<w.heap.size∧w.cell? ⟨b,0,none⟩=some v0∧w.frozen? ⟨b,0,none⟩=false :=
 ⟨h.1,(h.2 0 (by simp)).1,(h.2 0 (by simp)).2⟩
theorem wr2 {w:World} {b:Nat} {v0 v1:Value} (h:Wr w b 0 [v0,v1]):b<w.heap.size∧(w.cell? ⟨b,0,none⟩=some v0∧w.cell? ⟨b,1,none⟩=some v1)∧w.frozen? ⟨b,0,none⟩=false∧w.frozen? ⟨b,1,none⟩=false :=
 ⟨h.1,⟨(h.2 0 (by simp)).1,(h.2 1 (by simp)).1⟩,(h.2 0 (by simp)).2,(h.2 1 (by simp)).2⟩
theorem wr5 {w:World} {b:Nat} {v0 v1 v2 v3 v4:Value} (h:Wr w b 0 [v0,v1,v2,v3,v4]) :
  b<w.heap.size∧(w.cell? ⟨b,0,none⟩=some v0∧w.cell? ⟨b,1,none⟩=some v1∧w.cell? ⟨b,2,none⟩=some v2∧w.cell? ⟨b,3,none⟩=some v3∧w.cell? ⟨b,4,none⟩=some v4) ∧
  w.frozen? ⟨b,0,none⟩=false∧w.frozen? ⟨b,1,none⟩=false∧w.frozen? ⟨b,2,none⟩=false∧w.frozen? ⟨b,3,none⟩=false∧w.frozen? ⟨b,4,none⟩=false :=
 ⟨h.1,⟨(h.2 0 (by simp)).1,(h.2 1 (by simp)).1,(h.2 2 (by simp)).1,(h.2 3 (by simp)).1,(h.2 4 (by simp)).1⟩,(h.2 0 (by simp)).2,(h.2 1 (by simp)).2,(h.2 2 (by simp)).2,(h.2 3 (by simp)).2,(h.2 4 (by simp)).2⟩
theorem new1 (w:World) (vs:List Value) (T:TypeId):∃ W,w.alloc (.cells vs.toArray T)=W∧W.heap.size=w.heap.size+1∧Below w.heap.size w W∧Wr W w.heap.size 0 vs :=
 ⟨_,rfl,by simp,(Below.refl _ _).alloc (Nat.le_refl _) _,wr_new _ _ _⟩
theorem new2 (w:World) (vs us:List Value) (T U:TypeId):∃ W,(w.alloc (.cells vs.toArray T)).alloc (.cells us.toArray U)=W∧W.heap.size=w.heap.size+2∧Below w.heap.size w W∧Wr W w.heap.size 0 vs∧Wr W (w.heap.size+1) 0 us:=by
 refine ⟨_,rfl,by simp,((Below.refl _ _).alloc (Nat.le_refl _) _).alloc (by simp) _,?_,?_⟩
 ·
  exact (wr_new _ _ _).alloc _
 ·
  have:=wr_new (w.alloc (.cells vs.toArray T)) us U
  rwa [size_alloc] at this
theorem new3 (w:World) (vs us xs:List Value) (T U X:TypeId):∃ W,((w.alloc (.cells vs.toArray T)).alloc (.cells us.toArray U)).alloc (.cells xs.toArray X)=W∧W.heap.size=w.heap.size+3∧Below w.heap.size w W∧Wr W w.heap.size 0 vs∧Wr W (w.heap.size+1) 0 us∧Wr W (w.heap.size+2) 0 xs:=by
 refine ⟨_,rfl,by simp,(((Below.refl _ _).alloc (Nat.le_refl _) _).alloc (by simp) _).alloc (by simp;omega) _,?_,?_,?_⟩
 ·
  exact ((wr_new _ _ _).alloc _).alloc _
 ·
  have:=(wr_new (w.alloc (.cells vs.toArray T)) us U).alloc (.cells xs.toArray X)
  rwa [size_alloc] at this
 ·
  have:=wr_new ((w.alloc (.cells vs.toArray T)).alloc (.cells us.toArray U)) xs X
  rwa [size_alloc,size_alloc] at this
end Go.Proofs.YtaojoamldoofpaaGreatDoor.Sv
namespace Go.Proofs.YtaojoamldoofpaaGreatDoor.Sv
open Go.RowKit
open Li (iv ret_bool ret_int below_none IsL)
def OwV (w:World) (B:Nat→Prop) (v:Value) (xs:List (List Int)):Prop :=
 ∃ a cap,v=.slice a xs.length cap∧(xs=[] ∨ ∃ (g off:Nat) (V:Nat→Value) (bl:Nat→Nat),a=some ⟨g,off,none⟩∧B g∧g<w.heap.size∧(∀ j (hj:j<xs.length),w.cell? ⟨g,off+j,none⟩=some (V j)∧OwI w (fun k=>k=bl j) (V j) xs[j])∧(∀ j,j<xs.length→B (bl j)∧¬ bl j=g)∧∀ i j,i<xs.length→j<xs.length→¬ i=j→¬ bl i=bl j)
theorem OwV.isv {w:World} {B:Nat→Prop} {v:Value} {xs:List (List Int)} (h:OwV w B v xs):∃ a cap,v=.slice a xs.length cap∧IsV w a xs:=by
 obtain ⟨a,cap,e,h⟩:=h
 refine ⟨a,cap,e,?_⟩
 rcases h with h | ⟨g,off,V,bl,rfl,_,hg,hc,_⟩
 ·
  exact .inl h
 ·
  refine .inr ⟨g,off,rfl,hg,fun j hj=>?_⟩
  obtain ⟨h1,h2⟩:=hc j hj
  obtain ⟨a',c',e',hi⟩:=h2.isl
  exact ⟨a',c',by rw [h1,e'],hi⟩
theorem OwV.fr {w w1:World} {B B':Nat→Prop} {v:Value} {xs:List (List Int)} (h:OwV w B v xs) (hf:Fr B' w w1) (hd:∀ k,B k→¬ B' k):OwV w1 B v xs:=by
 obtain ⟨a,cap,e,h⟩:=h
 refine ⟨a,cap,e,?_⟩
 rcases h with h | ⟨g,off,V,bl,ha,hb,hg,hc,hn,hi⟩
 ·
  exact .inl h
 ·
  refine .inr ⟨g,off,V,bl,ha,hb,Nat.lt_of_lt_of_le hg hf.size,fun j hj=>?_,hn,hi⟩
  obtain ⟨h1,h2⟩:=hc j hj
  refine ⟨?_,h2.fr hf (fun k e=>by subst e;exact hd _ (hn j hj).1)⟩
  rw [World.cell?_of_block (w:=w) (a:=⟨g,off+j,none⟩) (hf.block g hg (hd g hb))];exact h1
theorem OwV.below {w w1:World} {B:Nat→Prop} {v:Value} {xs:List (List Int)} (h:OwV w B v xs) (hb:Below w.heap.size w w1):OwV w1 B v xs:=h.fr (fr_below (B:=fun _=>False) hb) (fun _ _ e=>e)
theorem OwV.mono {w:World} {B B':Nat→Prop} {v:Value} {xs:List (List Int)} (h:OwV w B v xs) (hb:∀ k,B k→B' k):OwV w B' v xs:=by
 obtain ⟨a,cap,e,h⟩:=h
 refine ⟨a,cap,e,?_⟩
 rcases h with h | ⟨g,off,V,bl,ha,hg,r1,r2,hn,hi⟩
 ·
  exact .inl h
 ·
  exact .inr ⟨g,off,V,bl,ha,hb g hg,r1,r2,fun j hj=>⟨hb _ (hn j hj).1,(hn j hj).2⟩,hi⟩
theorem info_vec:(Tryz.prog.info? 139).map (fun i=>(i.zero,i.size,i.bytes))=some (some (.agg #[.slice none 0 0]),1,24):=by kernel_rfl
end Go.Proofs.YtaojoamldoofpaaGreatDoor.Sv
namespace Go.Proofs.YtaojoamldoofpaaGreatDoor.Sv
open Go.RowKit
open Li (iv ret_bool ret_int below_none IsL Like)
end Go.Proofs.YtaojoamldoofpaaGreatDoor.Sv
namespace Go.Proofs.YtaojoamldoofpaaGreatDoor.Se
structure R where
 x:List (List Int)
 g:List Int
 ids:List Int
 lv:Int
 l2:Int
abbrev rowok (r:R) (i:Nat):Prop:=(r.x.getD i []).length=6∧(-2000000≤r.g.getD i 0∧r.g.getD i 0≤2000000)∧(0≤r.ids.getD i 0∧r.ids.getD i 0<r.lv)
abbrev shape (r:R):Prop:=r.x.length≤40∧r.g.length=r.x.length∧r.ids.length=r.x.length∧(1≤r.lv∧r.lv≤16)∧(1≤r.l2∧r.l2≤1000)
abbrev ROk (r:R):Prop:=shape r∧∀ i,i<r.x.length→rowok r i
def rok (r:R):Bool:=decide (ROk r)
theorem rok_iff {r:R} : rok r=true↔ROk r:=by simp [rok]
theorem rok_shape {r:R} (h:¬ shape r):rok r=false:=by simp [rok,ROk,h]
theorem rok_row {r:R} {i:Nat} (hi:i<r.x.length) (h:¬ rowok r i):rok r=false:=by
 simp only [rok,decide_eq_false_iff_not]
 exact fun h'=>h (h'.2 i hi)
theorem rok_all {r:R} (hs:shape r) (h:∀ i,i<r.x.length→rowok r i):rok r=true:=rok_iff.2 ⟨hs,h⟩
def bump (cs:List (Int × Int)) (id g:Int):List (Int × Int):=cs.set id.toNat ((cs.getD id.toNat (0,0)).1+1,(cs.getD id.toNat (0,0)).2+g)
theorem bump_length (cs:List (Int × Int)) (id g:Int):(bump cs id g).length=cs.length:=by simp [bump]
def tally (ids gs:List Int) (cs:List (Int × Int)):Nat→List (Int × Int)
 | 0=>cs
 | j+1=>bump (tally ids gs cs j) (ids.getD j 0) (gs.getD j 0)
theorem tally_length (ids gs:List Int) (cs:List (Int × Int)) (j:Nat):(tally ids gs cs j).length=cs.length:=by
 induction j with
 | zero=>rfl
 | succ j ih=>simp [tally,bump_length,ih]
def none0 (n:Nat):List (Int × Int):=List.replicate n (0,0)
theorem none0_length (n:Nat):(none0 n).length=n:=by simp [none0]
def cells (r:R):List (Int × Int):=if rok r=true then tally r.ids r.g (none0 r.lv.toNat) r.ids.length else []
theorem cells_ok {r:R} (h:rok r=true):cells r=tally r.ids r.g (none0 r.lv.toNat) r.ids.length:=if_pos h
theorem cells_no {r:R} (h:rok r=false):cells r=[]:=if_neg (by simp [h])
def cnt (ids:List Int) (k:Nat):Nat→Int
 | 0=>0
 | j+1=>cnt ids k j+(if (ids.getD j 0).toNat=k then 1 else 0)
def smg (ids gs:List Int) (k:Nat):Nat→Int
 | 0=>0
 | j+1=>smg ids gs k j+(if (ids.getD j 0).toNat=k then gs.getD j 0 else 0)
theorem tally_get (ids gs:List Int) (cs:List (Int × Int)) (j k:Nat) (hk:k<cs.length):(tally ids gs cs j).getD k (0,0)=((cs.getD k (0,0)).1+cnt ids k j,(cs.getD k (0,0)).2+smg ids gs k j):=by
 induction j with
 | zero=>simp [tally,cnt,smg]
 | succ j ih =>
  have hl:=tally_length ids gs cs j
  simp only [tally,bump,List.getD_eq_getElem?_getD,List.getElem?_set] at ih ⊢
  by_cases e:(ids[j]?.getD 0).toNat=k
  ·
   subst e
   simp only [if_true,hl,hk,Option.getD_some,cnt,smg,List.getD_eq_getElem?_getD]
   rw [ih]
   simp
   omega
  ·
   simp only [e,if_false,cnt,smg,List.getD_eq_getElem?_getD]
   rw [ih]
   simp
theorem none0_get (n k:Nat):(none0 n).getD k (0,0)=(0,0):=by
 simp [none0,List.getD_eq_getElem?_getD,List.getElem?_replicate]
 split <;> rfl
theorem tally0_get (ids gs:List Int) (n j k:Nat) (hk:k<n):(tally ids gs (none0 n) j).getD k (0,0)=(cnt ids k j,smg ids gs k j):=by
 rw [tally_get _ _ _ _ _ (by rw [none0_length];exact hk),none0_get];simp
theorem cnt_range (ids:List Int) (k j:Nat):0≤cnt ids k j∧cnt ids k j≤j:=by
 induction j with
 | zero=>simp [cnt]
 | succ j ih=>simp only [cnt];split <;> omega
theorem smg_range (ids gs:List Int) (k j:Nat) (h:∀ i,i<j→-2000000≤gs.getD i 0∧gs.getD i 0≤2000000) : -2000000 * (j:Int)≤smg ids gs k j∧smg ids gs k j≤2000000 * (j:Int):=by
 induction j with
 | zero=>simp [smg]
 | succ j ih =>
  have h1:=ih (fun i hi=>h i (by omega))
  have h2:=h j (by omega)
  simp only [smg];split <;> omega
abbrev cok (c:Int × Int):Prop:=(0≤c.1∧c.1≤40)∧(-80000000≤c.2∧c.2≤80000000)
def one (c:Int × Int) (l2:Int):Int:=(c.2 * c.2).tdiv (c.1+l2)
def ssum (l2:Int):List (Int × Int)→Int
 | []=>0
 | c :: cs=>one c l2+ssum l2 cs
def scok (cs:List (Int × Int)) (l2:Int):Bool:=decide (cs.length≤16∧(1≤l2∧l2≤1000)∧∀ c ∈ cs,cok c)
def score (cs:List (Int × Int)) (l2:Int):Int:=if scok cs l2=true then ssum l2 cs else 0
theorem scok_iff {cs:List (Int × Int)} {l2:Int} : scok cs l2=true↔cs.length≤16∧(1≤l2∧l2≤1000)∧∀ c ∈ cs,cok c:=by simp [scok]
theorem score_ok {cs:List (Int × Int)} {l2:Int} (h:scok cs l2=true):score cs l2=ssum l2 cs:=if_pos h
theorem score_no {cs:List (Int × Int)} {l2:Int} (h:scok cs l2=false):score cs l2=0:=if_neg (by simp [h])
theorem scok_head {cs:List (Int × Int)} {l2:Int} (h:¬ (cs.length≤16∧(1≤l2∧l2≤1000))):scok cs l2=false:=by
 simp only [scok,decide_eq_false_iff_not];exact fun h'=>h ⟨h'.1,h'.2.1⟩
theorem scok_bad {cs:List (Int × Int)} {l2:Int} {k:Nat} (hk:k<cs.length) (h:¬ cok cs[k]):scok cs l2=false:=by
 simp only [scok,decide_eq_false_iff_not];exact fun h'=>h (h'.2.2 _ (List.getElem_mem hk))
theorem scok_all {cs:List (Int × Int)} {l2:Int} (h1:cs.length≤16) (h2:1≤l2∧l2≤1000) (h:∀ k (hk:k<cs.length),cok cs[k]):scok cs l2=true :=
 scok_iff.2 ⟨h1,h2,fun c hc=>by obtain ⟨k,hk,rfl⟩:=List.mem_iff_getElem.1 hc;exact h k hk⟩
theorem one_range {c:Int × Int} {l2:Int} (hc:cok c) (h2:1≤l2∧l2≤1000):0≤one c l2∧one c l2≤6400000000000000:=by
 obtain ⟨⟨n0,n1⟩,g0,g1⟩:=hc
 have hsq:0≤c.2 * c.2∧c.2 * c.2≤6400000000000000:=by
  constructor
  ·
   rcases Int.le_total 0 c.2 with h | h
   ·
    exact Int.mul_nonneg h h
   ·
    exact Int.mul_nonneg_of_nonpos_of_nonpos h h
  ·
   have h1:(80000000-c.2) * (80000000+c.2) ≥ 0:=Int.mul_nonneg (by omega) (by omega)
   have h2:(80000000-c.2) * (80000000+c.2)=6400000000000000-c.2 * c.2:=by
    rw [Int.sub_mul,Int.mul_add,Int.mul_add,Int.mul_comm c.2 80000000];omega
   omega
 unfold one
 obtain ⟨s,hs⟩:∃ s,c.2 * c.2=s:=⟨_,rfl⟩
 rw [hs] at hsq ⊢
 rw [Int.tdiv_eq_ediv_of_nonneg hsq.1]
 constructor
 ·
  exact Int.ediv_nonneg hsq.1 (by omega)
 ·
  exact Int.le_trans (Int.ediv_le_self _ hsq.1) hsq.2
theorem sq_range {c:Int × Int} (hc:cok c):0≤c.2 * c.2∧c.2 * c.2≤6400000000000000:=by
 obtain ⟨⟨n0,n1⟩,g0,g1⟩:=hc
 constructor
 ·
  rcases Int.le_total 0 c.2 with h | h
  ·
   exact Int.mul_nonneg h h
  ·
   exact Int.mul_nonneg_of_nonpos_of_nonpos h h
 ·
  have h1:(80000000-c.2) * (80000000+c.2) ≥ 0:=Int.mul_nonneg (by omega) (by omega)
  have h2:(80000000-c.2) * (80000000+c.2)=6400000000000000-c.2 * c.2:=by
   rw [Int.sub_mul,Int.mul_add,Int.mul_add,Int.mul_comm c.2 80000000];omega
  omega
theorem ssum_take (cs:List (Int × Int)) (l2:Int) (k:Nat) (h:k<cs.length):ssum l2 (cs.take (k+1))=ssum l2 (cs.take k)+one cs[k] l2:=by
 induction cs generalizing k with
 | nil=>simp at h
 | cons c cs ih =>
  cases k with
  | zero=>simp [ssum]
  | succ k =>
   simp only [List.take_succ_cons,ssum,List.getElem_cons_succ]
   rw [ih k (by simpa using h)]
   omega
theorem ssum_range (cs:List (Int × Int)) (l2:Int) (h2:1≤l2∧l2≤1000) (k:Nat) (hk:k≤cs.length) (h:∀ j (hj:j<cs.length),j<k→cok cs[j]):0≤ssum l2 (cs.take k)∧ssum l2 (cs.take k)≤6400000000000000 * (k:Int):=by
 induction k with
 | zero=>simp [ssum]
 | succ k ih =>
  have h1:=ih (by omega) (fun j hj hjk=>h j hj (by omega))
  have h3:=one_range (h k (by omega) (by omega)) h2
  rw [ssum_take cs l2 k (by omega)]
  omega
theorem tally_cok (ids gs:List Int) (n j:Nat) (hj:j≤40) (h:∀ i,i<j→-2000000≤gs.getD i 0∧gs.getD i 0≤2000000):∀ k (hk:k<(tally ids gs (none0 n) j).length),cok (tally ids gs (none0 n) j)[k]:=by
 intro k hk
 have hk':k<n:=by rw [tally_length,none0_length] at hk;exact hk
 have h1:=tally0_get ids gs n j k hk'
 rw [List.getD_eq_getElem?_getD,List.getElem?_eq_getElem hk,Option.getD_some] at h1
 rw [h1]
 have h2:=cnt_range ids k j
 have h3:=smg_range ids gs k j h
 exact ⟨⟨h2.1,by simp only;omega⟩,by simp only;omega,by simp only;omega⟩
def can (r:R) (f:Int):Bool:=rok r && decide (r.lv≤8) && Li.btw f 0 5
abbrev says (r:R) (f b:Int) (i:Nat):Prop:=b<(r.x.getD i []).getD f.toNat 0
def idA (r:R) (f b:Int) (i:Nat):Int:=if says r f b i then r.ids.getD i 0+r.lv else r.ids.getD i 0
def idsA (r:R) (f b:Int):List Int:=(List.range r.x.length).map (idA r f b)
theorem idsA_length (r:R) (f b:Int):(idsA r f b).length=r.x.length:=by simp [idsA]
theorem idsA_at (r:R) (f b:Int) (i:Nat) (h:i<(idsA r f b).length):(idsA r f b)[i]=idA r f b i:=by simp [idsA]
def asked (r:R) (f b:Int):R:=if can r f=true then ⟨r.x,r.g,idsA r f b,2 * r.lv,r.l2⟩ else ⟨[],[],[],0,0⟩
theorem asked_ok {r:R} {f:Int} (b:Int) (h:can r f=true):asked r f b=⟨r.x,r.g,idsA r f b,2 * r.lv,r.l2⟩:=if_pos h
theorem asked_no {r:R} {f:Int} (b:Int) (h:can r f=false):asked r f b=⟨[],[],[],0,0⟩:=if_neg (by simp [h])
theorem can_iff {r:R} {f:Int} : can r f=true↔ROk r∧r.lv≤8∧0≤f∧f≤5:=by
 simp [can,rok_iff,Li.btw,and_assoc]
def gain (r:R) (f b:Int):Int:=score (cells (asked r f b)) (asked r f b).l2
end Go.Proofs.YtaojoamldoofpaaGreatDoor.Se
namespace Go.Proofs.YtaojoamldoofpaaGreatDoor.Sv
open Go.RowKit
open Li (iv ret_bool ret_int below_none IsL)
open Se (R)
def Rd (w:World) (a0 a1 a2:Option Addr) (r:R):Prop:=IsV w a0 r.x∧IsL w a1 r.g∧IsL w a2 r.ids
theorem Rd.below {w w1:World} {a0 a1 a2:Option Addr} {r:R} (h:Rd w a0 a1 a2 r) (hb:Below w.heap.size w w1):Rd w1 a0 a1 a2 r:=⟨h.1.below hb,h.2.1.below hb,h.2.2.below hb⟩
theorem Rd.drew {w:World} {a0 a1 a2:Option Addr} {r:R} (h:Rd w a0 a1 a2 r):Rd w.drew a0 a1 a2 r:=h
def OwR (w:World) (B:Nat→Prop) (v0 v1 v2:Value) (r:R):Prop :=
 ∃ B0 B1 B2:Nat→Prop,OwV w B0 v0 r.x∧OwI w B1 v1 r.g∧OwI w B2 v2 r.ids∧(∀ k,B0 k→B k∧¬ B1 k∧¬ B2 k)∧(∀ k,B1 k→B k∧¬ B2 k)∧∀ k,B2 k→B k
theorem OwR.fr {w w1:World} {B B':Nat→Prop} {v0 v1 v2:Value} {r:R} (h:OwR w B v0 v1 v2 r) (hf:Fr B' w w1) (hd:∀ k,B k→¬ B' k):OwR w1 B v0 v1 v2 r:=by
 obtain ⟨B0,B1,B2,h0,h1,h2,d0,d1,d2⟩:=h
 exact ⟨B0,B1,B2,h0.fr hf (fun k hk=>hd k (d0 k hk).1),h1.fr hf (fun k hk=>hd k (d1 k hk).1),h2.fr hf (fun k hk=>hd k (d2 k hk)),d0,d1,d2⟩
theorem OwR.mono {w:World} {B B':Nat→Prop} {v0 v1 v2:Value} {r:R} (h:OwR w B v0 v1 v2 r) (hb:∀ k,B k→B' k):OwR w B' v0 v1 v2 r:=by
 obtain ⟨B0,B1,B2,h0,h1,h2,d0,d1,d2⟩:=h
 exact ⟨B0,B1,B2,h0,h1,h2,fun k hk=>⟨hb k (d0 k hk).1,(d0 k hk).2⟩,fun k hk=>⟨hb k (d1 k hk).1,(d1 k hk).2⟩,fun k hk=>hb k (d2 k hk)⟩
theorem OwR.rd {w:World} {B:Nat→Prop} {v0 v1 v2:Value} {r:R} (h:OwR w B v0 v1 v2 r):∃ a0 c0 a1 c1 a2 c2,v0=.slice a0 r.x.length c0∧v1=.slice a1 r.g.length c1∧v2=.slice a2 r.ids.length c2∧Rd w a0 a1 a2 r:=by
 obtain ⟨B0,B1,B2,h0,h1,h2,_⟩:=h
 obtain ⟨a0,c0,e0,i0⟩:=h0.isv
 obtain ⟨a1,c1,e1,i1⟩:=h1.isl
 obtain ⟨a2,c2,e2,i2⟩:=h2.isl
 exact ⟨a0,c0,a1,c1,a2,c2,e0,e1,e2,i0,i1,i2⟩
end Go.Proofs.YtaojoamldoofpaaGreatDoor.Sv
namespace Go.Proofs.YtaojoamldoofpaaGreatDoor.Bo
open Go.RowKit
def fok (x:Int):Bool:=decide (-1000000000≤x∧x≤1000000000)
def aok (l:List Int):Bool:=l.all fok
theorem aok_iff {l:List Int} : aok l=true↔∀ x ∈ l,fok x=true:=by simp [aok]
theorem aok_to {l:List Int} (h:∀ j (hj:j<l.length),fok l[j]=true):aok l=true:=by
 rw [aok_iff];intro x hx
 obtain ⟨j,hj,rfl⟩:=List.getElem_of_mem hx
 exact h j hj
theorem aok_at {l:List Int} (h:aok l=true) (j:Nat) (hj:j<l.length):fok l[j]=true:=aok_iff.1 h _ (List.getElem_mem hj)
theorem aok_no {l:List Int} {j:Nat} (hj:j<l.length) (h:fok l[j]=false):aok l=false:=by
 cases e:aok l with
 | false=>rfl
 | true=>rw [aok_at e j hj] at h;cases h
def ins:List Int→Int→List Int
 | [],x=>[x]
 | y :: r,x=>if y<x then y :: ins r x else if y=x then y :: r else x :: y :: r
theorem ins_at {l:List Int} {x:Int} : ∀ (p:Nat),p≤l.length→(∀ j (h:j<l.length),j<p→l[j]<x)→(∀ h:p<l.length,¬ l[p]<x) →
  ins l x=if (∃ h:p<l.length,l[p]=x) then l else l.take p ++ [x] ++ l.drop p:=by
 induction l with
 | nil=>intro p hp _ _;simp [ins]
 | cons a r ih =>
  intro p hp h1 h2
  cases p with
  | zero =>
   have h0:=h2 (by simp)
   simp only [List.getElem_cons_zero] at h0
   unfold ins
   rw [if_neg h0]
   by_cases e:a=x
   ·
    rw [if_pos e,if_pos ⟨by simp,by simpa using e⟩]
   ·
    rw [if_neg e,if_neg (by rintro ⟨_,e'⟩;exact e (by simpa using e'))];simp
  | succ p =>
   have h0:=h1 0 (by simp) (by omega)
   simp only [List.getElem_cons_zero] at h0
   unfold ins
   rw [if_pos h0,ih p (by simpa using hp) (fun j h hj=>by have:=h1 (j+1) (by simpa using h) (by omega);simpa using this) (fun h=>by have:=h2 (by simpa using h);simpa using this)]
   by_cases e:∃ h:p<r.length,r[p]=x
   ·
    rw [if_pos e,if_pos (by obtain ⟨h,e⟩:=e;exact ⟨by simpa using h,by simpa using e⟩)]
   ·
    rw [if_neg e,if_neg (by rintro ⟨h,e'⟩;exact e ⟨by simpa using h,by simpa using e'⟩)];simp
def srt (l:List Int):List Int:=l.foldl ins []
theorem srt_take {l:List Int} {k:Nat} (h:k<l.length):srt (l.take (k+1))=ins (srt (l.take k)) l[k]:=by
 unfold srt
 rw [List.take_succ_eq_append_getElem h,List.foldl_append];rfl
theorem ins_len (l:List Int) (x:Int):(ins l x).length≤l.length+1:=by
 induction l with
 | nil=>simp [ins]
 | cons a r ih=>unfold ins;split <;> (try split) <;> simp <;> omega
theorem foldl_len (l:List Int):∀ (m:List Int),(l.foldl ins m).length≤m.length+l.length:=by
 induction l with
 | nil=>simp
 | cons a r ih=>intro m;rw [List.foldl_cons];have:=ih (ins m a);have:=ins_len m a;simp only [List.length_cons];omega
theorem srt_len (l:List Int):(srt l).length≤l.length:=by have:=foldl_len l [];simpa [srt] using this
def plc (m most j:Nat):Nat:=(j+1) * m / (most+1)-1
theorem plc_pos {m most j:Nat} (h:most+1<m):0<(j+1) * m / (most+1):=by
 apply Nat.div_pos _ (by omega)
 have:1 * m≤(j+1) * m:=Nat.mul_le_mul_right _ (by omega)
 omega
theorem plc_lt {m most j:Nat} (h:most+1<m) (hj:j<most):(j+1) * m / (most+1)<m:=by
 apply (Nat.div_lt_iff_lt_mul (by omega)).2
 rw [Nat.mul_comm m (most+1)]
 exact Nat.mul_lt_mul_of_pos_right (by omega) (by omega)
def cut (v:List Int) (most:Nat):List Int:=if v.length≤most+1 then v.take (v.length-1) else (List.range most).map fun j=>v.getD (plc v.length most j) 0
def bor (l:List Int) (most:Int):List Int:=if l.length≤1000∧0≤most∧most≤12∧aok l=true then cut (srt l) most.toNat else []
theorem cut_few {v:List Int} {most:Nat} (h:v.length≤most+1):cut v most=v.take (v.length-1):=if_pos h
theorem cut_many {v:List Int} {most:Nat} (h:¬ v.length≤most+1):cut v most=(List.range most).map fun j=>v.getD (plc v.length most j) 0:=if_neg h
theorem cut_len (v:List Int) (most:Nat):(cut v most).length≤most:=by
 unfold cut;split
 ·
  simp;omega
 ·
  simp
theorem bor_yes {l:List Int} {most:Int} (h:l.length≤1000∧0≤most∧most≤12∧aok l=true):bor l most=cut (srt l) most.toNat:=if_pos h
theorem bor_no {l:List Int} {most:Int} (h:¬ (l.length≤1000∧0≤most∧most≤12∧aok l=true)):bor l most=[]:=if_neg h
theorem bor_len12 (l:List Int) (most:Int):(bor l most).length≤12:=by
 by_cases h:l.length≤1000∧0≤most∧most≤12∧aok l=true
 ·
  rw [bor_yes h];have:=cut_len (srt l) most.toNat;omega
 ·
  rw [bor_no h];simp
end Go.Proofs.YtaojoamldoofpaaGreatDoor.Bo
namespace Go.Proofs.YtaojoamldoofpaaGreatDoor.Tr
open Go.RowKit
open Bo (fok aok)
structure T where
 sp:List (Int × Int)
 lv:List Int
def spok (s:Int × Int):Bool:=decide (0≤s.1∧s.1≤5) && fok s.2
def tok (t:T):Bool:=decide (t.sp.length≤4∧t.lv.length=2 ^ t.sp.length) && (t.sp.all spok && aok t.lv)
theorem tok_iff {t:T} : tok t=true↔(t.sp.length≤4∧t.lv.length=2 ^ t.sp.length)∧t.sp.all spok=true∧aok t.lv=true:=by simp [tok,and_assoc]
theorem tok_long {t:T} (h:4<t.sp.length):tok t=false:=by
 cases e:tok t with
 | false=>rfl
 | true=>have:=(tok_iff.1 e).1.1;omega
theorem tok_leaves {t:T} (h:¬ t.lv.length=2 ^ t.sp.length):tok t=false:=by
 cases e:tok t with
 | false=>rfl
 | true=>exact absurd (tok_iff.1 e).1.2 h
theorem tok_bad {t:T} {k:Nat} (hk:k<t.sp.length) (h:spok t.sp[k]=false):tok t=false:=by
 cases e:tok t with
 | false=>rfl
 | true =>
  have:=(tok_iff.1 e).2.1
  rw [List.all_eq_true] at this
  rw [this _ (List.getElem_mem hk)] at h
  cases h
theorem tok_leaf {t:T} (h:aok t.lv=false):tok t=false:=by
 cases e:tok t with
 | false=>rfl
 | true=>rw [(tok_iff.1 e).2.2] at h;cases h
theorem tok_all {t:T} (h1:t.sp.length≤4) (h2:t.lv.length=2 ^ t.sp.length) (h3:∀ j (hj:j<t.sp.length),spok t.sp[j]=true) (h4:aok t.lv=true):tok t=true:=by
 refine tok_iff.2 ⟨⟨h1,h2⟩,?_,h4⟩
 rw [List.all_eq_true]
 intro s hs
 obtain ⟨j,hj,rfl⟩:=List.getElem_of_mem hs
 exact h3 j hj
theorem tok_sp {t:T} (h:tok t=true) (j:Nat) (hj:j<t.sp.length):spok t.sp[j]=true:=by
 have:=(tok_iff.1 h).2.1
 rw [List.all_eq_true] at this
 exact this _ (List.getElem_mem hj)
theorem spok_iff {s:Int × Int} : spok s=true↔(0≤s.1∧s.1≤5)∧fok s.2=true:=by simp [spok]
def yes (sp:List (Int × Int)) (x:List Int) (k:Nat):Bool:=decide ((sp.getD k (0,0)).2<x.getD (sp.getD k (0,0)).1.toNat 0)
theorem yes_at {sp:List (Int × Int)} {x:List Int} {k:Nat} (hk:k<sp.length) (hx:sp[k].1.toNat<x.length):yes sp x k=decide (sp[k].2<x[sp[k].1.toNat]):=by
 unfold yes
 simp [List.getD_eq_getElem?_getD,List.getElem?_eq_getElem hk,List.getElem?_eq_getElem hx]
def lf (y:Nat→Bool):Nat→Nat
 | 0=>0
 | k+1=>lf y k+(if y k then 2 ^ k else 0)
theorem lf_yes {y:Nat→Bool} {k:Nat} (h:y k=true):lf y (k+1)=lf y k+2 ^ k:=by simp [lf,h]
theorem lf_no {y:Nat→Bool} {k:Nat} (h:y k=false):lf y (k+1)=lf y k:=by simp [lf,h]
theorem lf_lt (y:Nat→Bool) (k:Nat):lf y k<2 ^ k:=by
 induction k with
 | zero=>simp [lf]
 | succ k ih=>simp only [lf,Nat.pow_succ];split <;> omega
def askb (t:T) (x:List Int):Bool:=tok t && decide (x.length=6)
def leafOf (t:T) (x:List Int):Nat:=if askb t x then lf (yes t.sp x) t.sp.length else 0
def eval (t:T) (x:List Int):Int:=if askb t x then t.lv.getD (lf (yes t.sp x) t.sp.length) 0 else 0
theorem askb_iff {t:T} {x:List Int} : askb t x=true↔tok t=true∧x.length=6:=by simp [askb]
theorem askb_tok {t:T} {x:List Int} (h:tok t=false):askb t x=false:=by simp [askb,h]
theorem askb_len {t:T} {x:List Int} (h:¬ x.length=6):askb t x=false:=by simp [askb,h]
theorem leafOf_no {t:T} {x:List Int} (h:askb t x=false):leafOf t x=0:=by simp [leafOf,h]
theorem leafOf_yes {t:T} {x:List Int} (h:askb t x=true):leafOf t x=lf (yes t.sp x) t.sp.length:=by simp [leafOf,h]
theorem eval_no {t:T} {x:List Int} (h:askb t x=false):eval t x=0:=by simp [eval,h]
theorem eval_yes {t:T} {x:List Int} (h:askb t x=true):eval t x=t.lv.getD (lf (yes t.sp x) t.sp.length) 0:=by simp [eval,h]
theorem lf_in {t:T} {x:List Int} (h:tok t=true):lf (yes t.sp x) t.sp.length<t.lv.length:=by
 rw [(tok_iff.1 h).1.2];exact lf_lt _ _
theorem eval_at {t:T} {x:List Int} (h:askb t x=true):eval t x=t.lv[lf (yes t.sp x) t.sp.length]'(lf_in (askb_iff.1 h).1):=by
 rw [eval_yes h,List.getD_eq_getElem?_getD,List.getElem?_eq_getElem (lf_in (askb_iff.1 h).1)];rfl
theorem leaf_le (t:T) (x:List Int) (h:tok t=true):leafOf t x<t.lv.length:=by
 unfold leafOf
 split
 ·
  exact lf_in h
 ·
  rw [(tok_iff.1 h).1.2];exact Nat.pow_pos (by decide)
end Go.Proofs.YtaojoamldoofpaaGreatDoor.Tr
namespace Go.Proofs.YtaojoamldoofpaaGreatDoor.Tm
open Go.RowKit
open Li (ret_bool ret_int below_none)
def pv:List (Int × Int)→List Value
 | []=>[]
 | p :: ps=>.int .i64 p.1 :: .int .i64 p.2 :: pv ps
theorem pv_length (ps:List (Int × Int)):(pv ps).length=ps.length * 2:=by
 induction ps with
 | nil=>rfl
 | cons p ps ih=>simp only [pv,List.length_cons,ih];omega
theorem pv_get (ps:List (Int × Int)) (j:Nat) (h:j<ps.length):(pv ps)[j * 2]? = some (.int .i64 ps[j].1)∧(pv ps)[j * 2+1]? = some (.int .i64 ps[j].2):=by
 induction ps generalizing j with
 | nil=>simp at h
 | cons p ps ih =>
  cases j with
  | zero=>exact ⟨rfl,rfl⟩
  | succ j =>
   have:=ih j (by simpa using h)
   rw [show (j+1) * 2=j * 2+1+1 by omega]
   simpa [pv] using this
theorem pv_set (ps:List (Int × Int)) (j:Nat) (x y:Int):((pv ps).set (j * 2) (.int .i64 x)).set (j * 2+1) (.int .i64 y)=pv (ps.set j (x,y)):=by
 induction ps generalizing j with
 | nil=>simp [pv]
 | cons p ps ih =>
  cases j with
  | zero=>simp [pv]
  | succ j =>
   rw [show (j+1) * 2=j * 2+1+1 by omega]
   simp only [pv,List.set_cons_succ,ih]
theorem pv_append (ps qs:List (Int × Int)):pv ps ++ pv qs=pv (ps ++ qs):=by
 induction ps with
 | nil=>rfl
 | cons p ps ih=>simp [pv,ih]
def IsP (w:World) (a:Option Addr) (ps:List (Int × Int)):Prop :=
 ps=[] ∨ ∃ b off,a=some ⟨b,off,none⟩∧b<w.heap.size∧∀ j (hj:j<ps.length),w.cell? ⟨b,off+j * 2,none⟩=some (.int .i64 ps[j].1)∧w.cell? ⟨b,off+j * 2+1,none⟩=some (.int .i64 ps[j].2)
theorem IsP.keptAt {w w1:World} {a:Option Addr} {ps:List (Int × Int)} (h:IsP w a ps) (hs:w.heap.size≤w1.heap.size) (hk:∀ x,a=some x→x.block<w.heap.size→w1.heap[x.block]? = w.heap[x.block]?):IsP w1 a ps:=by
 rcases h with h | ⟨b,off,rfl,hb,hc⟩
 ·
  exact .inl h
 ·
  refine .inr ⟨b,off,rfl,by omega,fun j hj=>⟨?_,?_⟩⟩
  ·
   rw [World.cell?_of_block (w:=w) (a:=⟨b,off+j * 2,none⟩) (hk ⟨b,off,none⟩ rfl hb)];exact (hc j hj).1
  ·
   rw [World.cell?_of_block (w:=w) (a:=⟨b,off+j * 2+1,none⟩) (hk ⟨b,off,none⟩ rfl hb)];exact (hc j hj).2
theorem IsP.below {w w1:World} {a:Option Addr} {ps:List (Int × Int)} (h:IsP w a ps) (hb:Below w.heap.size w w1):IsP w1 a ps :=
 h.keptAt hb.size (fun _ _ hx=>hb.block _ hx)
theorem IsP.drewN {w:World} {a:Option Addr} {ps:List (Int × Int)} (h:IsP w a ps) (n:Nat):IsP (w.drewN n) a ps:=h
def OwnP (w:World) (base:Nat) (v:Value) (ps:List (Int × Int)):Prop:=w.ownsRow base 58 2 v ps.length (pv ps)
theorem OwnP.isp {w:World} {base:Nat} {v:Value} {ps:List (Int × Int)} (h:OwnP w base v ps):∃ a cap,v=.slice a ps.length cap∧ps.length≤cap∧IsP w a ps:=by
 have h':=h
 rcases h.2 with ⟨rfl,h0⟩ | ⟨g,cap,cur,rfl,hb,hh,hc,_⟩
 ·
  obtain rfl:=List.length_eq_zero_iff.1 h0
  exact ⟨none,0,rfl,Nat.le_refl _,.inl rfl⟩
 ·
  refine ⟨_,cap,rfl,hc,.inr ⟨g,0,rfl,(Array.getElem?_eq_some_iff.1 hh).1,fun j hj=>?_⟩⟩
  have:=pv_get ps j hj
  rw [Nat.zero_add]
  exact ⟨by rw [World.ownsRow.cellAt h' (j * 2) (by omega),this.1],by rw [World.ownsRow.cellAt h' (j * 2+1) (by omega),this.2]⟩
theorem OwnP.kept {w w1:World} {base:Nat} {v:Value} {ps:List (Int × Int)} {row:Option Nat} (h:OwnP w base v ps) (hg:w.grownBy w1 row) (hne:v.ownBlock=none ∨ v.ownBlock≠row):OwnP w1 base v ps:=World.ownsRow.kept h hg hne
theorem OwnP.below {w w1:World} {base:Nat} {v:Value} {ps:List (Int × Int)} (h:OwnP w base v ps) (hb:Below w.heap.size w w1):OwnP w1 base v ps :=
 World.ownsRow.kept (row:=none) h ⟨hb.os,hb.tape,hb.output,hb.size,fun k hk _=>hb.block k hk⟩ (by cases hv:v.ownBlock <;> simp)
theorem ownsRow_mono {w:World} {base base' s n:Nat} {t:TypeId} {v:Value} {xs:List Value} (h:w.ownsRow base t s v n xs) (hb:base'≤base):w.ownsRow base' t s v n xs:=by
 refine ⟨h.1,?_⟩
 rcases h.2 with h | ⟨g,cap,cur,e,hb',r⟩
 ·
  exact .inl h
 ·
  exact .inr ⟨g,cap,cur,e,by omega,r⟩
theorem OwnP.mono {w:World} {base base':Nat} {v:Value} {ps:List (Int × Int)} (h:OwnP w base v ps) (hb:base'≤base):OwnP w base' v ps:=ownsRow_mono h hb
theorem OwnP.ge {w:World} {base:Nat} {v:Value} {ps:List (Int × Int)} (h:OwnP w base v ps):∀ k,v.ownBlock=some k→base≤k∧k<w.heap.size:=World.ownsRow.lt h
theorem OwnP.cell {w:World} {base g cap n:Nat} {ps:List (Int × Int)} (h:OwnP w base (.slice (some ⟨g,0,none⟩) n cap) ps) (hn:ps.length=n) (j:Nat) (hj:j<ps.length):w.cell? ⟨g,j * 2,none⟩=some (.int .i64 ps[j].1)∧w.cell? ⟨g,j * 2+1,none⟩=some (.int .i64 ps[j].2):=by
 subst hn
 have:=pv_get ps j hj
 exact ⟨by rw [World.ownsRow.cellAt h (j * 2) (by omega),this.1],by rw [World.ownsRow.cellAt h (j * 2+1) (by omega),this.2]⟩
theorem OwnP.frozen {w:World} {base g cap n:Nat} {ps:List (Int × Int)} (h:OwnP w base (.slice (some ⟨g,0,none⟩) n cap) ps) (hn:ps.length=n) (j:Nat):w.frozen? ⟨g,j,none⟩=false:=by
 subst hn
 exact World.ownsRow.frozenAt h j
theorem info_spl:(Tryz.prog.info? 58).map (fun i=>(i.zero,i.size,i.bytes))=some (some (.agg #[.int .i64 0,.int .i64 0]),2,16):=by kernel_rfl
theorem results_cell {fn:Func} {p:Tmp} {ty:TypeId} (h:fn.results=#[.cell p ty]) (tmps:Array Value) (P:Program) (w:World) :
  (results fn tmps).run P w=((asAddr (tmps.getD p undef)).run P w).andThen fun a w₁=>(loadVar ty a).run P w₁:=by
 simp only [results,h]
 simp [Sem.run_bind,Result.andThen]
theorem below_drewN' (w:World) (n:Nat):Below w.heap.size w (w.drewN n):=⟨rfl,rfl,rfl,Nat.le_refl _,fun _ _=>rfl⟩
end Go.Proofs.YtaojoamldoofpaaGreatDoor.Tm
