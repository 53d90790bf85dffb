/-
  Contracts that the proof leans on, put together in the order in which they build.
-/
import Derived.Shelf.Strings.Builder1
import Derived.Shelf.Strings.BuilderK
import Derived.Shelf.LaysM
import Derived.Shelf.Strconv.Itoa3
import Derived.Shelf.Strconv.Clone
import Derived.Shelf.LaysC
import Derived.Shelf.Strconv.ErrVarAll
import Derived.Shelf.Strings.Cut
import Derived.Shelf.Strings.Shaped
import Derived.Shelf.Strings.Split
import Derived.Shelf.Strings.SplitShaped
import Derived.Shelf.Strings.FieldsAny
import Derived.Test.YtifemdjookmboaaGreatDoorProg
import Derived.Test.YtifemdjookmboaaGreatDoorPart13
import Derived.Lay
import Derived.Lib.LaidTab
import Derived.Lib.LaidU8
import Derived.Stop.LaidErr
import Derived.Stop.Joined
import Derived.LaidMore
import Derived.Test.YtifemdjookmboaaGreatDoorPart7
/-
  The contracts of Go's library that this proof takes, laid at this translation by the kit's two commands (lay-shelf, lay-plain) and cut down to what is used: each laying is a table of numbers and one theorem, each contract one application.
-/
namespace Go.Proofs
open Go.Shelf
def Tryz.lays199_ren : Go.Shelf.Ren := ⟨fun | 199 => 102 | 261 => 116 | 311 => 123 | 312 => 124 | n => n, fun | 21 => 21 | 4 => 4 | 51 => 95 | 141 => 147 | 0 => 0 | 196 => 164 | 193 => 161 | 3 => 3 | 198 => 167 | 49 => 165 | 194 => 162 | 201 => 170 | 226 => 178 | 46 => 114 | 227 => 179 | n => n, fun | 6 => 4 | n => n⟩
theorem Tryz.lays199 : Go.Proofs.Lays.n199 Tryz.prog Tryz.lays199_ren := {
  mixed := by kernel_rfl
  f199 := Tryz.func102.trans (congrArg some (by kernel_rfl))
  f261 := Tryz.func116.trans (congrArg some (by kernel_rfl))
  f311 := Tryz.func123.trans (congrArg some (by kernel_rfl))
  f312 := Tryz.func124.trans (congrArg some (by kernel_rfl))
  t0 := Tryz.underlying0
  a0 := Tryz.isAgg0
  z0 := Tryz.sizeOf0
  v0 := Tryz.zeroValue0
  t3 := Tryz.underlying3
  a3 := Tryz.isAgg3
  z3 := Tryz.sizeOf3
  v3 := Tryz.zeroValue3
  t4 := Tryz.underlying4
  a4 := Tryz.isAgg4
  z4 := Tryz.sizeOf4
  v4 := Tryz.zeroValue4
  t21 := Tryz.underlying21
  a21 := Tryz.isAgg21
  z21 := Tryz.sizeOf21
  v21 := Tryz.zeroValue21
  t46 := Tryz.underlying114
  a46 := Tryz.isAgg114
  z46 := Tryz.sizeOf114
  v46 := Tryz.zeroValue114
  t49 := Tryz.underlying165
  a49 := Tryz.isAgg165
  z49 := Tryz.sizeOf165
  v49 := Tryz.zeroValue165
  t51 := Tryz.underlying95
  a51 := Tryz.isAgg95
  z51 := Tryz.sizeOf95
  v51 := Tryz.zeroValue95
  t141 := Tryz.underlying147
  a141 := Tryz.isAgg147
  z141 := Tryz.sizeOf147
  v141 := Tryz.zeroValue147
  t193 := Tryz.underlying161
  a193 := Tryz.isAgg161
  z193 := Tryz.sizeOf161
  v193 := Tryz.zeroValue161
  t194 := Tryz.underlying162
  a194 := Tryz.isAgg162
  z194 := Tryz.sizeOf162
  v194 := Tryz.zeroValue162
  t196 := Tryz.underlying164
  a196 := Tryz.isAgg164
  z196 := Tryz.sizeOf164
  v196 := Tryz.zeroValue164
  t198 := Tryz.underlying167
  a198 := Tryz.isAgg167
  z198 := Tryz.sizeOf167
  v198 := Tryz.zeroValue167
  t201 := Tryz.underlying170
  a201 := Tryz.isAgg170
  z201 := Tryz.sizeOf170
  v201 := Tryz.zeroValue170
  t226 := Tryz.underlying178
  a226 := Tryz.isAgg178
  z226 := Tryz.sizeOf178
  v226 := Tryz.zeroValue178
  t227 := Tryz.underlying179
  a227 := Tryz.isAgg179
  z227 := Tryz.sizeOf179
  v227 := Tryz.zeroValue179
  g6 := by kernel_rfl }
end Go.Proofs
/-
  What the row's listed variables give (FnExactModelRead): the tables that numbers and blanks are read by, the two errors' values; and a world that meets the row's condition.
-/
namespace Go.Proofs.YtifemdjookmboaaGreatDoor.Vr
set_option maxRecDepth 100000
open Go.RowKit Go.ChangeShapes Go.WideShapes
theorem star : "*" ++ "errors.errorString" = "*errors.errorString" := by decide
theorem rowErr (u : TypeId) (h : Tryz.prog.typeName? 3 u = some "*errors.errorString") : u = 158 :=
  typeName_ptr_named (nm := "errors.errorString") (by rw [star]; kernel_rfl) (by kernel_rfl) (by decide) u (by rw [star]; exact h)
theorem tER : (Tryz.prog.globals[3]?).map (·.type) = some 80 := by kernel_rfl
theorem tES : (Tryz.prog.globals[2]?).map (·.type) = some 80 := by kernel_rfl
theorem tAS : (Tryz.prog.globals[1]?).map (·.type) = some 126 := by kernel_rfl
def lst : List (String × DataW Unit) := Rows.fnExactModelReadRow.laid
theorem vs_of {w : World} (hL : laidMet Tryz.prog lst w) (hsh : w.ShapedOpen Tryz.prog) : Rm.Vs w := by
  have hL : laidMet Tryz.prog [("math/bits.deBruijn32tab", Rows.laid_math_bits_deBruijn32tab), ("math/bits.deBruijn64tab", Rows.laid_math_bits_deBruijn64tab), ("internal/strconv.uint64pow10", Rows.laid_internal_strconv_uint64pow10), ("unicode/utf8.acceptRanges", Rows.laid_unicode_utf8_acceptRanges), ("strconv.ErrRange", Rows.laid_strconv_ErrRange), ("strconv.ErrSyntax", Rows.laid_strconv_ErrSyntax), ("unicode.White_Space", Rows.laid_unicode_White_Space), ("strings.asciiSpace", Rows.laid_strings_asciiSpace), ("unicode/utf8.first", Rows.laid_unicode_utf8_first)] w := hL
  have hM : ∃ m, w.cell? ⟨0, 0, none⟩ = some (.int .i64 m) := Go.Proofs.cell_of_shapedOpen_int (zero := #[.int .i64 0]) (t := 3) hsh (of_decide_eq_true (by kernel_rfl)) (by kernel_rfl) rfl (by kernel_rfl) (by kernel_rfl) Tryz.underlying3
  have hT : Nu.Tab w := Lib.tabIs_of_head Nu.gTab Nu.tTab Tryz.underlying181 Tryz.underlying137 (by kernel_rfl) (by kernel_rfl) (laidMet.tail (laidMet.tail hL))
  have hL3 := laidMet.tail (laidMet.tail (laidMet.tail (laidMet.tail hL)))
  obtain ⟨a0, s0, hv0, -, -, -⟩ := laid_sentinel hL3 Rm.gER tER Tryz.underlying80 rowErr Tryz.underlying158 Tryz.underlying160 rfl rfl Tryz.underlying9 (by kernel_rfl) (by kernel_rfl)
  obtain ⟨a1, s1, hv1, -, -, -⟩ := laid_sentinel (laidMet.tail hL3) Rm.gES tES Tryz.underlying80 rowErr Tryz.underlying158 Tryz.underlying160 rfl rfl Tryz.underlying9 (by kernel_rfl) (by kernel_rfl)
  have hL5 := laidMet.tail (laidMet.tail hL3)
  have hAS : Lib.TabIs Tryz.prog w "strings.asciiSpace" .u8 Lib.asciiSpaceTab := Lib.tabIs_of_head Rm.gAS tAS Tryz.underlying126 Tryz.underlying5 (by kernel_rfl) (by kernel_rfl) (laidMet.tail hL5)
  have hWS : Lib.WhiteTab 4 w := whiteTab_of_reads Tryz.lays199 ⟨by kernel_rfl, by kernel_rfl, by kernel_rfl, by kernel_rfl, by kernel_rfl, by kernel_rfl, by kernel_rfl, by kernel_rfl⟩ (Lib.laidMet.reads hL5 (.head _))
  exact ⟨hT, hM, ⟨_, _, hv1⟩, ⟨_, _, hv0⟩, hAS, hWS⟩
/-! ### A world that meets the condition: the data laid behind a world that holds nothing -/
noncomputable def wit (os : Os) : World := (World.holding Tryz.prog os ⟨#[], #[], []⟩).layVars Tryz.prog lst
theorem wit_os (os : Os) : (wit os).os = os := World.layVars_os _ _ _
theorem met_over {P : Program} {w0 : World} {laid : List (String × DataW Unit)} (hf : w0.layFits P laid [] = true) (hi : w0.layIfaces P laid (w0.layVars P laid) = true) : laidMet P laid (w0.layVars P laid) := by
  have e1 : (laid.filter fun x => (laid.map (·.1)).contains x.1) = laid := List.filter_eq_self.2 fun x hx => List.contains_iff_mem.2 (List.mem_map.2 ⟨x, hx, rfl⟩)
  have e2 : (laid.filter fun x => !(laid.map (·.1)).contains x.1) = [] := List.filter_eq_nil_iff.2 fun x hx => by rw [List.contains_iff_mem.2 (List.mem_map.2 ⟨x, hx, rfl⟩)]; simp
  exact laidMet_layVars (w0 := w0) (laid.map (·.1)) [] (by rw [e1]) (by rw [e1]; exact hf) (by rw [e1]; exact hi) (by rw [e2]; exact LaidIn.none)
theorem wit_dat (os : Os) : laidMet Tryz.prog lst (wit os) := met_over (by kernel_rfl) (by kernel_rfl)
theorem wit_met (os : Os) (args : Array Value) : laidMetH Tryz.prog lst ((wit os).forCall (fun _ _ => 0) ⟨#[], args, []⟩).memory := by
  rw [MakeChecks.laidMetH_plain _ _ _ (by kernel_rfl)]
  exact (wit_dat os).of_heap (by simp [World.memory, World.forCall, Input.heap])
end Go.Proofs.YtifemdjookmboaaGreatDoor.Vr
/-
  Models, further: the marks that the laws write, and whether they are held.
-/
namespace Go.Proofs.YtifemdjookmboaaGreatDoor.Md
set_option maxRecDepth 20000
open Go.RowKit
open Go.Proofs.YtifemdjookmboaaGreatDoor.Tm (IsT szT)
open Go.Proofs.YtifemdjookmboaaGreatDoor.Kt (Kv IsK OwK ksz)
open Go.Proofs.YtifemdjookmboaaGreatDoor.To (OwT)
open Go.Proofs.YtifemdjookmboaaGreatDoor.Sv (Fr fr_below fr_grown new1 Wr)
set_option linter.unusedVariables false
def mm (q : Int) (m : M) : M := ⟨m.n, m.c, m.prior, m.base, Kt.kmarks q m.ks, To.kmarks (q + Kt.ktot m.ks) m.ts⟩
def wt (m : M) : Nat := Kt.ktot m.ks + To.ktot m.ts
theorem wt_le (m : M) : wt m ≤ 2 * m.sz := by
  unfold wt M.sz
  have := Kt.ktot_ksz m.ks
  have := To.ktot_sz m.ts
  omega
set_option maxHeartbeats 2000000 in
theorem markModel (w : World) (B : Nat → Prop) (vk vt : Value) (q : Int) (m : M) (h : OwM w B vk vt m) (hl : m.sz ≤ 1048576) (k0 : 0 ≤ q) (k1 : q ≤ 10000000000) :
    Calls Tryz.prog 7 #[.agg #[.int .i64 m.n, .int .i64 m.c, .int .i64 m.prior, .int .i64 m.base, vk, vt], .int .i64 q] w fun e w' => e = .returned (.int .i64 (q + wt m)) ∧ OwM w' B vk vt (mm q m) ∧ Fr B w w' := by
  have hwt : (wt m : Int) = (Kt.ktot m.ks : Int) + (To.ktot m.ts : Int) := by unfold wt; omega
  have HWT : Hid (type_of% hwt) := hwt
  unfold M.sz at hl
  have hks := Kt.ktot_ksz m.ks
  have hts := To.ktot_sz m.ts
  clear hwt
  obtain ⟨ak, ck, ax, ct, rfl, rfl, _⟩ := h.rm
  obtain ⟨P, h0, h1⟩ := h.bound
  go_enter Tryz.func7, Tryz.ntmps7
  go_wp2_with fail
  obtain ⟨W, hW, hsz, hB, bx⟩ := new1 w [.int .i64 m.n, .int .i64 m.c, .int .i64 m.prior, .int .i64 m.base, .slice ak m.ks.length ck, .slice ax m.ts.length ct] 27
  rw [hW]
  clear hW
  refine (Kt.markTabs _ _ _ _ m.ks (h0.below hB) (by omega) k0 (by omega)).mono ?_
  rintro e w1 ⟨rfl, o0, hf⟩
  have bx := bx.keptAt hf.size (hf.block _ bx.1 (fun e => by omega))
  have h1 := (h1.below hB).fr hf (fun k e e' => e.2 e'.2)
  have hF : Fr B w w1 := (fr_below hB).trans (hf.mono (fun k e => e.1.1))
  clear hf hsz hB h0
  obtain ⟨_, ⟨x0, x1, x2, x3, x4, x5⟩, _⟩ := wr6 bx
  obtain ⟨Q, hQ⟩ : ∃ Q : Int, q + (Kt.ktot m.ks : Int) = Q := ⟨_, rfl⟩
  have HQ : Hid (q + (Kt.ktot m.ks : Int) = Q) := hQ
  rw [hQ]
  have hQ0 : 0 ≤ Q := by omega
  have hQ1 : Q ≤ 20000000000 := by omega
  clear hQ
  go_wp2_with fail
  refine (To.markTreesO _ _ _ _ m.ts h1 (by omega) hQ0 (by omega)).mono ?_
  rintro e w2 ⟨rfl, o1, hf⟩
  have o0 := o0.fr hf (fun k e e' => e'.2 e.2)
  have hF : Fr B w w2 := hF.trans (hf.mono (fun k e => e.1.1))
  have HO : Hid (OwM w2 B (.slice ak m.ks.length ck) (.slice ax m.ts.length ct) (mm q m)) := by
    refine ⟨P, o0.mono (fun k e => ⟨e.1.1, e.2⟩), ?_⟩
    unfold mm
    rw [HQ.out]
    exact o1.mono (fun k e => ⟨e.1.1, e.2⟩)
  have HN : Hid (Q + (To.ktot m.ts : Int) = q + (wt m : Int)) := by show _ = _; rw [HWT.out]; have := HQ.out; omega
  clear hf o0 o1 h1 bx x0 x1 x2 x3 x4 x5
  rw [HN.out]
  go_wp2
  go_ret
  exact ⟨rfl, HO.out, hF⟩
set_option maxHeartbeats 2000000 in
theorem heldModel (w : World) (ak ax : Option Addr) (ck ct : Nat) (q : Int) (m : M) (h : Rm w ak ax (mm q m)) (hl : m.sz ≤ 1048576) (k0 : 0 ≤ q) (k1 : q ≤ 10000000000) :
    Calls Tryz.prog 8 #[.agg #[.int .i64 m.n, .int .i64 m.c, .int .i64 m.prior, .int .i64 m.base, .slice ak m.ks.length ck, .slice ax m.ts.length ct], .int .i64 q] w fun e w' => e = .returned (.int .i64 (q + wt m)) ∧ Below w.heap.size w w' := by
  have hwt : (wt m : Int) = (Kt.ktot m.ks : Int) + (To.ktot m.ts : Int) := by unfold wt; omega
  have HWT : Hid (type_of% hwt) := hwt
  unfold M.sz at hl
  have hks := Kt.ktot_ksz m.ks
  have hts := To.ktot_sz m.ts
  clear hwt
  have h0 : IsK w ak (Kt.kmarks q m.ks) := h.k
  have h1 : IsT w ax (To.kmarks (q + Kt.ktot m.ks) m.ts) := h.t
  clear h
  go_enter Tryz.func8, Tryz.ntmps8
  go_wp2_with fail
  obtain ⟨W, hW, hsz, hB, bx⟩ := new1 w [.int .i64 m.n, .int .i64 m.c, .int .i64 m.prior, .int .i64 m.base, .slice ak m.ks.length ck, .slice ax m.ts.length ct] 27
  rw [hW]
  clear hW
  refine (Kt.heldTabs _ _ _ _ _ m.ks rfl (h0.below hB) (by omega) k0 (by omega)).mono ?_
  rintro e w1 ⟨rfl, hb⟩
  have bx := bx.below hb
  have hB := hB.trans (hb.mono hB.size)
  clear hb hsz h0
  obtain ⟨_, ⟨x0, x1, x2, x3, x4, x5⟩, _⟩ := wr6 bx
  obtain ⟨Q, hQ⟩ : ∃ Q : Int, q + (Kt.ktot m.ks : Int) = Q := ⟨_, rfl⟩
  have HQ : Hid (q + (Kt.ktot m.ks : Int) = Q) := hQ
  rw [hQ] at h1 ⊢
  have hQ0 : 0 ≤ Q := by omega
  have hQ1 : Q ≤ 20000000000 := by omega
  clear hQ
  have hneg : ¬ Q < 0 := by omega
  go_wp2_with fail
  refine (To.heldTreesO _ _ _ _ _ m.ts rfl (h1.below hB) (by omega) hQ0 (by omega)).mono ?_
  rintro e w2 ⟨rfl, hb⟩
  have hB := hB.trans (hb.mono hB.size)
  have HN : Hid (Q + (To.ktot m.ts : Int) = q + (wt m : Int)) := by show _ = _; rw [HWT.out]; have := HQ.out; omega
  clear hb h1 bx x0 x1 x2 x3 x4 x5
  rw [HN.out]
  have hneg2 : ¬ q + (wt m : Int) < 0 := by omega
  go_wp2
  go_ret
  exact ⟨rfl, hB⟩
end Go.Proofs.YtifemdjookmboaaGreatDoor.Md
