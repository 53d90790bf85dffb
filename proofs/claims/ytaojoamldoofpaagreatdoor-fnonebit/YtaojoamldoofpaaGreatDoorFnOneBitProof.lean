/-
  Proved here: the Go function laws.FnOneBit, called with any arguments that can be read, returns true, and each argument reads afterwards as it read before ('Rows.FnOneBitCardSaid'): the row lists package-level variables of Go's library (see the row) with what they hold; the card ties that to the program's text (the tie is given). The cards tie the listed variables to the pruned copy of the project alone.
-/
import Derived.Test.YtaojoamldoofpaaGreatDoorRows
import Derived.Test.YtaojoamldoofpaaGreatDoorTie
import Derived.Test.YtaojoamldoofpaaGreatDoorCards
import Derived.WalkKit
import Derived.ProofKit
import Derived.OpenShut
import Derived.ShutString
import Derived.ChangeOld
import Derived.Below
import Derived.LaidMore
import Derived.Stop.Joined
import Derived.SevenTiedAt
import Derived.Test.YtaojoamldoofpaaGreatDoorPart1
import Derived.Test.YtaojoamldoofpaaGreatDoorPart22
import Derived.Test.YtaojoamldoofpaaGreatDoorPart29
import Derived.Test.YtaojoamldoofpaaGreatDoorPart30
import Derived.Test.YtaojoamldoofpaaGreatDoorPart3
import Derived.Test.YtaojoamldoofpaaGreatDoorPart5
import Derived.Deep.RegionHeld3
import Derived.Deep.QuietTactic
namespace Go.Proofs.YtaojoamldoofpaaGreatDoor.fnOneBit
open Go.ChangeShapes Go.WideShapes Go.ChangeAt Go.RowKit
open Go.ChangeMaps (open_string shut_string)
set_option linter.unusedVariables false

theorem own : ownKnob Tryz.prog.godebug = none := by kernel_rfl
theorem laidOut : laidOutB Tryz.prog = true := by kernel_rfl

def IsRow (k : IntKind) (w : World) (a : Option Addr) (len cap : Nat) (zs : List Int) : Prop :=
  (a = none ∧ len = 0 ∧ cap = 0 ∧ zs = []) ∨
  ∃ x, a = some x ∧ len ≤ cap ∧ cap ≤ maxLen ∧ zs.length = cap ∧ (∀ i, i < zs.length → w.cell? (x.add i) = some (.int k (zs.getD i 0))) ∧ ∀ n ∈ zs, (Lit.int k n).wf = true

theorem laid_same : Rows.fnOneBitRow.laid = Vr.lst := rfl
theorem xor_u8 (c d : UInt8) : bits .xor .u8 (c.toNat : Int) (d.toNat : Int) = ((c ^^^ d).toNat : Int) := by
  have h := (c ^^^ d).toNat_lt
  show IntKind.u8.wrap ((BitVec.ofInt 8 (c.toNat : Int) ^^^ BitVec.ofInt 8 (d.toNat : Int)).toNat : Int) = _
  rw [BitVec.toNat_xor, BitVec.ofInt_natCast, BitVec.toNat_ofNat, BitVec.ofInt_natCast, BitVec.toNat_ofNat, Nat.mod_eq_of_lt (by have := c.toNat_lt; omega), Nat.mod_eq_of_lt (by have := d.toNat_lt; omega), ← UInt8.toNat_xor]
  have e : (2 : Int) ^ IntKind.u8.bits = 256 := by decide
  have h8 := (c ^^^ d).toNat_lt
  simp only [IntKind.wrap]
  generalize (c ^^^ d).toNat = z at h8 ⊢
  first | (rw [e]; omega) | (simp [IntKind.bits, IntKind.signed]; omega)
theorem xor_other {c d : UInt8} (hd : ¬ d = 0) : ¬ c ^^^ d = c := by
  intro e
  apply hd
  have h1 : c ^^^ (c ^^^ d) = c ^^^ c := by rw [e]
  rw [← UInt8.xor_assoc, UInt8.xor_self, UInt8.zero_xor] at h1
  exact h1
theorem shl8 (j : Int) (h0 : 0 ≤ j) (h1 : j < 8) : ∃ d : UInt8, IntKind.u8.wrap (2 ^ j.toNat) = (d.toNat : Int) ∧ ¬ d = 0 := by
  have hj : j = 0 ∨ j = 1 ∨ j = 2 ∨ j = 3 ∨ j = 4 ∨ j = 5 ∨ j = 6 ∨ j = 7 := by omega
  rcases hj with rfl | rfl | rfl | rfl | rfl | rfl | rfl | rfl
  · exact ⟨1, by decide, by decide⟩
  · exact ⟨2, by decide, by decide⟩
  · exact ⟨4, by decide, by decide⟩
  · exact ⟨8, by decide, by decide⟩
  · exact ⟨16, by decide, by decide⟩
  · exact ⟨32, by decide, by decide⟩
  · exact ⟨64, by decide, by decide⟩
  · exact ⟨128, by decide, by decide⟩

/-! ### THE WALK: the Go text returns true, and writes nothing that was there -/
set_option maxRecDepth 100000 in
set_option maxHeartbeats 4000000 in
theorem walk (w : World) (a0 : Option Addr) (len0 cap0 : Nat) (z0 : List Int) (w0 : IsRow .u8 w a0 len0 cap0 z0) (a1 : Option Addr) (len1 cap1 : Nat) (z1 : List Int) (w1 : IsRow .u8 w a1 len1 cap1 z1) (hL : laidMetH Tryz.prog Rows.fnOneBitRow.laid w) (hsh : w.ShapedOpen Tryz.prog) :
    Calls Tryz.prog 4 #[.slice a0 len0 cap0, .slice a1 len1 cap1] w fun e w' => e = .returned (.bool true) ∧ Below w.heap.size w w' := by
  have HV : Hid (Rm.Vs w) := by
    rw [laid_same, MakeChecks.laidMetH_plain _ _ _ (by kernel_rfl)] at hL
    exact Vr.vs_of hL hsh
  clear hL hsh
  have key : ∀ (a : Option Addr) (len cap : Nat) (z : List Int), IsRow .u8 w a len cap z → Cu.Bytes w w.heap.size a len := by
    intro a len cap z h
    rcases h with ⟨rfl, rfl, rfl, rfl⟩ | ⟨x, rfl, hl, _, hz, hc, hw⟩
    · exact .inl rfl
    · exact Cu.bytes_of _ (Nat.le_refl _) hl hz hc hw
  have B0 := key _ _ _ _ w0
  have B1 := key _ _ _ _ w1
  clear key w0 w1
  by_cases hb0 : 1048576 < len0
  · have e0 : decide (1048576 < len0) = true := by simpa using hb0
    go_enter Tryz.func4, Tryz.ntmps4
    go_wp2_with (go_at_call 5; refine (Cu.big_any _ _ _ _).mono ?_; rintro e w' ⟨rfl, hw⟩; subst w')
    go_ret
    exact ⟨rfl, Below.refl _ _⟩
  have e0 : decide (1048576 < len0) = false := by simpa using hb0
  by_cases hb1 : 1048576 < len1
  · have e1 : decide (1048576 < len1) = true := by simpa using hb1
    go_enter Tryz.func4, Tryz.ntmps4
    go_wp2_with (go_at_call 5; refine (Cu.big_any _ _ _ _).mono ?_; rintro e w' ⟨rfl, hw⟩; subst w')
    go_ret
    exact ⟨rfl, Below.refl _ _⟩
  have e1 : decide (1048576 < len1) = false := by simpa using hb1
  go_enter Tryz.func4, Tryz.ntmps4
  go_wp2_with (go_at_call 5; refine (Cu.big_any _ _ _ _).mono ?_; rintro e w' ⟨rfl, hw⟩; subst w')
  refine (Dm.drawModelText_any _ _ _ _ B0 (by omega)).mono ?_
  rintro e x1 ⟨m, vk, vt, rfl, hsz, om, hB⟩
  obtain ⟨ak, ck, ax, ct, rfl, rfl, rm⟩ := om.rm
  have hb1' : (len1 : Int) ≤ 1048576 := by omega
  have HB1 : Hid (Cu.Bytes w w.heap.size a1 len1) := B1
  clear B0 B1 hb0 e0 e1 hb1 om
  go_wp2_with fail
  refine (Mt.smtext x1 _ _ _ _ m rm (by omega)).mono ?_
  rintro e x2 ⟨rfl, hb2⟩
  have HB2 : Hid (Below w.heap.size w x2) := hB.trans (hb2.mono hB.size)
  obtain ⟨s, hs⟩ : ∃ s : ByteArray, (⟨(Mt.mtext m).toArray⟩ : ByteArray) = s := ⟨_, rfl⟩
  have HSL : Hid (s.data.toList = Mt.mtext m) := by show _ = _; rw [← hs]
  rw [hs]
  clear hs hB hb2 rm hsz
  by_cases hs0 : s = ⟨#[]⟩
  · subst hs0
    go_wp2_with fail
    go_ret
    exact ⟨rfl, HB2.out⟩
  have hGood : Rm.Good m := Classical.byContradiction fun h => hs0 (by
    have h1 := HSL.out
    rw [Rm.mtext_bad h] at h1
    exact ByteArray.ext (Array.toList_inj.1 h1))
  have HSW : Hid (s.data.toList = Mt.whole m) := by show _ = _; rw [HSL.out, Rm.mtext_good hGood]
  have hsz : s.size = (Mt.whole m).length := by rw [← HSW.out]; simp
  have hle := Rm.whole_le hGood
  have hge : 5 ≤ (Mt.whole m).length := by rw [On.whole_tl, List.length_append, On.tl_len]; omega
  have hne : (s.toList == (⟨#[]⟩ : ByteArray).toList) = false := Ls.tl_ne hs0
  rw [show (⟨#[]⟩ : ByteArray).toList = [] by kernel_rfl] at hne
  have HG : Hid (Rm.Good m) := hGood
  obtain ⟨hox, hbx⟩ := Ob.ox_conv x2 s (by rw [hsz]; unfold maxLen; omega)
  have hcv := Lib.run_convert_string_bytes (P := Tryz.prog) x2 9 22 5 s Tryz.underlying9 Tryz.underlying22 Tryz.underlying5
  rw [HSW.out] at hox
  obtain ⟨n, hn⟩ : ∃ n, (Mt.whole m).length = n := ⟨_, rfl⟩
  have HN : Hid ((Mt.whole m).length = n) := hn
  rw [hn] at hsz hle hge
  rw [hsz] at hcv hox
  have HBX : Hid (Below w.heap.size w (Lib.bytesWorld x2 5 s)) := HB2.out.trans (hbx.mono HB2.out.size)
  have hg2 : x2.heap.size < (Lib.bytesWorld x2 5 s).heap.size := hox.lt
  generalize Lib.bytesWorld x2 5 s = x3 at hcv hox HBX hg2
  generalize grownCap x2 n 0 5 = C3 at hcv hox
  have HOX : Hid (Ob.Ox x3 x2.heap.size C3 (Mt.whole m)) := hox
  have hs2 := HB2.out.size
  have HB1x : Hid (Cu.Bytes x3 x3.heap.size a1 len1) := HB1.out.keptB HBX.out.size (fun k hk => HBX.out.block k hk)
  have hss : s.size = n := hsz
  clear hs0 hGood hn hox hbx
  go_wp2_with fail
  refine (Pk.lpick x3 _ a1 len1 _ HB1x.out hb1' 1 (by omega) (by omega) (n : Int) (by omega) (by omega)).mono ?_
  rintro e x4 ⟨k', rfl, k0, k1, rfl⟩
  obtain ⟨k, rfl⟩ : ∃ k : Nat, k' = (k : Int) := ⟨k'.toNat, by omega⟩
  have hkn : k < n := by omega
  have hkl : k < (Mt.whole m).length := by rw [HN.out]; exact hkn
  have hck := HOX.out.cell k hkl
  have hcf := HOX.out.free k (by have := HOX.out.le; rw [HN.out] at this; omega)
  obtain ⟨c, hc⟩ : ∃ c, (Mt.whole m)[k] = c := ⟨_, rfl⟩
  have HC : Hid ((Mt.whole m)[k] = c) := hc
  rw [hc] at hck
  have HB1d : Hid (Cu.Bytes x4.drew x4.drew.heap.size a1 len1) := HB1x.out
  have HLP : Hid (∀ X, X.heap.size = x4.heap.size → (∀ q, q < x4.heap.size → X.heap[q]? = x4.heap[q]?) → Calls Tryz.prog 14 #[.slice a1 len1 cap1, .int .i64 5, .int .i64 8] X fun e w' => ∃ j : Int, e = .returned (.int .i64 j) ∧ 0 ≤ j ∧ j < 8 ∧ w' = X) := fun X h1 h2 => Pk.lpick X X.heap.size a1 len1 cap1 (HB1x.out.keptB (Nat.le_of_eq h1.symm) h2) hb1' 5 (by omega) (by omega) 8 (by omega) (by omega)
  clear hcv hc
  go_wp2_with fail
  obtain ⟨G, hGG⟩ : ∃ G, x2.heap.size = G := ⟨_, rfl⟩
  have HGG : Hid (x2.heap.size = G) := hGG
  rw [hGG] at hck hcf hg2 HOX ⊢
  have hki : (k : Int) < n := by omega
  clear hGG
  have hS : x4.drew.cell? ⟨G, k, none⟩ = some (.int .u8 (c.toNat : Int)) := hck
  have hcf0 : x4.drew.frozen? ⟨G, k, none⟩ = false := hcf
  have HLP0 : Hid (type_of% (HLP.out x4.drew rfl (fun q hq => rfl))) := HLP.out x4.drew rfl (fun q hq => rfl)
  have HBX0 : Hid (Below w.heap.size w x4.drew) := HBX.out.drew
  have HOX0 : Hid (Ob.Ox x4.drew G C3 (Mt.whole m)) := ⟨HOX.out.lt, HOX.out.le, HOX.out.max, HOX.out.cell, HOX.out.some, HOX.out.free⟩
  clear hck hcf HLP HBX HOX HB1d HB1x
  refine Hd.start (fun X => X.cell? ⟨G, k, none⟩ = some (.int .u8 (c.toNat : Int))) 11 (by kernel_rfl) ?_
  generalize x4.drew = w0 at hS hcf0 HLP0 HBX0 HOX0 ⊢
  refine Hd.After.pureD (i := 0) (some 27) (.slice (some ⟨G, 0, none⟩) n C3) rfl rfl (by kernel_rfl) (by decide) (by kernel_rfl) (by kernel_rfl) (fun _ _ _ h => h) (hS) (Or.inl ⟨by rfl, ?_⟩) ?_
  · intro X; go_simp; try with_reducible rfl
  (first | simp only [Act.put, List.setIfInBounds_toArray, List.set_cons_zero, List.set_cons_succ] | skip)
  refine Hd.After.pureD (i := 1) (some 28) (.int .i64 (k : Int)) rfl rfl (by kernel_rfl) (by decide) (by kernel_rfl) (by kernel_rfl) (fun _ _ _ h => h) (hS) (Or.inl ⟨by rfl, ?_⟩) ?_
  · intro X; go_simp; try with_reducible rfl
  (first | simp only [Act.put, List.setIfInBounds_toArray, List.set_cons_zero, List.set_cons_succ] | skip)
  refine Hd.After.pureD (i := 2) (some 29) (.slice (some ⟨G, 0, none⟩) n C3) rfl rfl (by kernel_rfl) (by decide) (by kernel_rfl) (by kernel_rfl) (fun _ _ _ h => h) (hS) (Or.inl ⟨by rfl, ?_⟩) ?_
  · intro X; go_simp; try with_reducible rfl
  (first | simp only [Act.put, List.setIfInBounds_toArray, List.set_cons_zero, List.set_cons_succ] | skip)
  refine Hd.After.pureD (i := 3) (some 30) (.int .i64 (k : Int)) rfl rfl (by kernel_rfl) (by decide) (by kernel_rfl) (by kernel_rfl) (fun _ _ _ h => h) (hS) (Or.inl ⟨by rfl, ?_⟩) ?_
  · intro X; go_simp; try with_reducible rfl
  (first | simp only [Act.put, List.setIfInBounds_toArray, List.set_cons_zero, List.set_cons_succ] | skip)
  refine Hd.After.pureD (i := 4) (some 31) (.pointer (some ⟨G, k, none⟩)) rfl rfl (by kernel_rfl) (by decide) (by kernel_rfl) (by kernel_rfl) (fun _ _ _ h => h) (hS) (Or.inl ⟨by rfl, ?_⟩) ?_
  · intro X; go_simp; try with_reducible rfl
  (first | simp only [Act.put, List.setIfInBounds_toArray, List.set_cons_zero, List.set_cons_succ] | skip)
  refine Hd.After.takeD (i := 5) (some 32) (.int .u8 (c.toNat : Int)) rfl rfl (by kernel_rfl) (by kernel_rfl) (by kernel_rfl) (by kernel_rfl) (by kernel_rfl) (fun _ _ _ h => h) (hS) (Or.inl ⟨by rfl, ?_⟩) ?_
  · rintro X s0_; go_simp; try with_reducible rfl
  (first | simp only [Act.put, List.setIfInBounds_toArray, List.set_cons_zero, List.set_cons_succ] | skip)
  refine Hd.After.pureD (i := 6) (some 33) (.slice a1 len1 cap1) rfl rfl (by kernel_rfl) (by decide) (by kernel_rfl) (by kernel_rfl) (fun _ _ _ h => h) (hS) (Or.inl ⟨by rfl, ?_⟩) ?_
  · intro X; go_simp; try with_reducible rfl
  (first | simp only [Act.put, List.setIfInBounds_toArray, List.set_cons_zero, List.set_cons_succ] | skip)
  refine Hd.After.one (i := 7) (by kernel_rfl) rfl rfl ?_
  intro K hK
  go_simp
  go_wp2_with (go_at_call 14; refine HLP0.out.mono ?_; rintro e x5 ⟨j, rfl, j0, j1, rfl⟩)
  refine hK _ _ (fun _ => hS) ?_
  clear hK K
  (first | simp only [Act.put, List.setIfInBounds_toArray, List.set_cons_zero, List.set_cons_succ] | skip)
  refine Hd.After.pureD (i := 8) (some 35) (.int .u8 (IntKind.u8.wrap (2 ^ j.toNat))) rfl rfl (by kernel_rfl) (by decide) (by kernel_rfl) (by kernel_rfl) (fun _ _ _ h => h) (hS) (Or.inl ⟨by rfl, ?_⟩) ?_
  · intro X; go_simp; try with_reducible rfl
  (first | simp only [Act.put, List.setIfInBounds_toArray, List.set_cons_zero, List.set_cons_succ] | skip)
  refine Hd.After.pureD (i := 9) (some 36) (.int .u8 (bits .xor .u8 (c.toNat : Int) (IntKind.u8.wrap (2 ^ j.toNat)))) rfl rfl (by kernel_rfl) (by decide) (by kernel_rfl) (by kernel_rfl) (fun _ _ _ h => h) (hS) (Or.inl ⟨by rfl, ?_⟩) ?_
  · intro X; go_simp; try with_reducible rfl
  (first | simp only [Act.put, List.setIfInBounds_toArray, List.set_cons_zero, List.set_cons_succ] | skip)
  refine Hd.After.pureD (i := 10) (some 37) (.pointer (some ⟨G, k, none⟩)) rfl rfl (by kernel_rfl) (by decide) (by kernel_rfl) (by kernel_rfl) (fun _ _ _ h => h) (hS) (Or.inl ⟨by rfl, ?_⟩) ?_
  · intro X; go_simp; try with_reducible rfl
  (first | simp only [Act.put, List.setIfInBounds_toArray, List.set_cons_zero, List.set_cons_succ] | skip)
  refine Hd.After.one (i := 11) (by kernel_rfl) rfl rfl ?_
  intro K hK
  go_simp
  refine hK _ _ (fun h => by cases h) ?_
  clear hK K
  refine Hd.After.done (by kernel_rfl) ?_ _
  obtain ⟨d, hd, hd0⟩ := shl8 j j0 j1
  rw [hd, xor_u8]
  have hz : ¬ c ^^^ d = c := xor_other hd0
  generalize c ^^^ d = z at hz ⊢
  clear hd hd0 j0 j1 hS
  have HZ : Hid (¬ z = (Mt.whole m)[k]) := by show ¬ _; rw [HC.out]; exact hz
  obtain ⟨Y, hY⟩ : ∃ Y, (Mt.whole m).set k z = Y := ⟨_, rfl⟩
  have HY : Hid ((Mt.whole m).set k z = Y) := hY
  have HYL : Hid (Y.length = n) := by show _ = _; rw [← hY, List.length_set, HN.out]
  have hGl := HOX0.out.lt
  have HB5 : Hid (Below w.heap.size w (x5.setCell ⟨G, k, none⟩ (.int .u8 (z.toNat : Int)))) := HBX0.out.setCell (p := ⟨G, k, none⟩) (by have := HGG.out; show w.heap.size ≤ G; omega) _
  have hcells : ∀ q (hq : q < Y.length), (x5.setCell ⟨G, k, none⟩ (.int .u8 (z.toNat : Int))).cell? ⟨G, q, none⟩ = some (.int .u8 (Y[q].toNat : Int)) := fun q hq => by
    have hq2 : q < (Mt.whole m).length := by rw [HYL.out] at hq; rw [HN.out]; exact hq
    have hgq := HOX0.out.cell q hq2
    have e : Y[q] = if k = q then z else (Mt.whole m)[q] := by
      have h1 := List.getElem_set (l := Mt.whole m) (i := k) (j := q) (a := z) (by simpa using hq2)
      rw [← h1]
      congr 1
      exact hY.symm
    rw [e]
    by_cases hqk : k = q
    · subst hqk
      rw [if_pos rfl]
      exact World.cell?_setCell_same _ _ _ hgq
    · rw [if_neg hqk, World.cell?_setCell_other _ _ _ _ (by simp <;> omega)]
      exact hgq
  have hcv2 := run_convert_bytes_back (P := Tryz.prog) (x5.setCell ⟨G, k, none⟩ (.int .u8 (z.toNat : Int))) 22 9 5 ⟨G, 0, none⟩ C3 Y Tryz.underlying22 Tryz.underlying5 Tryz.underlying9 (fun q hq => by rw [Go.WideShapes.add_plain, Nat.zero_add]; exact hcells q hq)
  rw [HYL.out] at hcv2
  obtain ⟨x6, hx6⟩ : ∃ X, x5.setCell ⟨G, k, none⟩ (.int .u8 (z.toNat : Int)) = X := ⟨_, rfl⟩
  rw [hx6] at hcv2 HB5 ⊢
  clear hx6 hcells hY HOX0 HLP0 HBX0 hz hGl hg2 hcf0
  go_wp2_with fail
  refine (Rm.imread x6 ⟨Y.toArray⟩ (by show Y.toArray.size ≤ _; rw [List.size_toArray, HYL.out]; omega) (HV.out.below HB5.out)).mono ?_
  rintro e x7 ⟨m7, ok, vk7, vt7, hr, rfl, og, _, hb7⟩
  have hok : ok = false := by
    have hr2 : Rm.Reads ((Mt.whole m).set k z) m7 ok := by rw [HY.out]; exact hr
    exact On.turned_no (by rw [HN.out]; exact hkn) HZ.out hr2
  subst hok
  obtain ⟨_, _, _, _, ek, et, _⟩ := og.rm
  subst ek et
  have HB7 : Hid (Below w.heap.size w x7) := HB5.out.trans (hb7.mono HB5.out.size)
  clear hr og hb7 hcv2
  have hic := Cr.icrc s
  have hsc := Cr.scrc s
  have hss2 : s.size ≤ 1048576 := by omega
  have hqq : (((Cr.crc s.data.toList : Nat) : Int) == ((Cr.crc s.data.toList : Nat) : Int)) = true := by simp
  go_wp2_with (first | (go_at_call 15; refine (hic _ hss2).mono ?_; rintro e w' ⟨rfl, hw'⟩; subst w') | (go_at_call 16; refine (hsc _ hss2).mono ?_; rintro e w' ⟨rfl, hw'⟩; subst w'))
  go_ret
  exact ⟨rfl, HB7.out.alloc HB7.out.size _⟩

/-! ### THE ROW's STEP -/

set_option maxRecDepth 100000 in
theorem lifted (os : Os) (started : os.Started) (H : Type) (enc : TypeId × Value → H) :
    ReturnsInHanded {} Tryz.checked os 4 .any (fun w args => (Rows.fnOneBitSpec.pre enc Tryz.prog Tryz.f4 [] false w args ∧ laidMetH Tryz.prog Rows.fnOneBitRow.laid w) ∧ sizedMet enc Tryz.prog Tryz.f4 (OpenSpec.ofChange Rows.fnOneBitSpec) false w args)
      (Rows.fnOneBitSpec.post enc Tryz.prog Tryz.f4 false true false false) := by
  refine wrap_listed (C := Tryz.checked) (X := fun w _ => laidMetH Tryz.prog Rows.fnOneBitRow.laid w) (fun _ _ _ hh h => h.of_heap hh) own started (by kernel_rfl) Tryz.func4
    (ChangeSpec.witness_shaped (enc := enc) (C := Tryz.checked) (os := os) (X := fun w _ => laidMetH Tryz.prog Rows.fnOneBitRow.laid w) false (Vr.wit os) #[.slice none 0 0, .slice none 0 0] 8 (Vr.wit_os os) (World.shaped_of_ZipB (by kernel_rfl) (by kernel_rfl)) (by kernel_rfl) (by kernel_rfl) (by kernel_rfl) (Vr.wit_met os _)) ?_
  intro W base args ds gs before hval0 hW hL hsh
  have hval : ∀ (j : Nat) t v, Tryz.f4.params[j]? = some t → args[j]? = some v → Value.okWide Tryz.prog W .any base t v := hval0
  have hW' := hW
  obtain ⟨p, q, hA0, hV, rfl, hfz, hnd⟩ := hW
  have hA : DataW.TrodAll enc Tryz.prog W 0 (fun _ => true) true Tryz.f4.params.toList args.toList ds p := hA0
  rw [Tryz.params4] at hA hval
  obtain ⟨v0, vs0, d0, ds0, p0, q0, hargs, rfl, rfl, h0, r0⟩ := trodAll_cons hA
  obtain ⟨v1, vs1, d1, ds1, p1, q1, rfl, rfl, rfl, h1, r1⟩ := trodAll_cons r0
  obtain ⟨rfl, rfl, rfl⟩ := trodAll_nil r1
  obtain rfl : args = #[v0, v1] := by cases args; simp_all
  obtain ⟨rfl, rfl⟩ := trodVars_none hV
  obtain ⟨a0, len0, cap0, rfl⟩ := okWide_slice Tryz.underlying22 (hval 0 22 v0 rfl rfl)
  have k0 := h0
  have lt0 : ∀ x ∈ p0, x.block < W.heap.size := by obtain ⟨m, hm⟩ := k0; exact DataW.trod_lt m _ _ _ hm
  obtain ⟨z0, w0⟩ : ∃ zs, IsRow .u8 W a0 len0 cap0 zs := by
    obtain ⟨fuel, hf⟩ := h0
    rcases open_ints Tryz.underlying22 Tryz.underlying5 (by kernel_rfl) hf with ⟨hcs, _⟩ | ⟨x, l, c, zs, hcs, _, hl, hm, hz, _, hcell, hwz⟩
    · simp [Value.cells] at hcs
      obtain ⟨rfl, rfl, rfl⟩ := hcs
      exact ⟨[], .inl ⟨rfl, rfl, rfl, rfl⟩⟩
    · simp [Value.cells] at hcs
      obtain ⟨rfl, rfl, rfl⟩ := hcs
      exact ⟨zs, .inr ⟨_, rfl, hl, hm, by simpa using hz, hcell, hwz⟩⟩
  obtain ⟨a1, len1, cap1, rfl⟩ := okWide_slice Tryz.underlying22 (hval 1 22 v1 rfl rfl)
  have k1 := h1
  have lt1 : ∀ x ∈ p1, x.block < W.heap.size := by obtain ⟨m, hm⟩ := k1; exact DataW.trod_lt m _ _ _ hm
  obtain ⟨z1, w1⟩ : ∃ zs, IsRow .u8 W a1 len1 cap1 zs := by
    obtain ⟨fuel, hf⟩ := h1
    rcases open_ints Tryz.underlying22 Tryz.underlying5 (by kernel_rfl) hf with ⟨hcs, _⟩ | ⟨x, l, c, zs, hcs, _, hl, hm, hz, _, hcell, hwz⟩
    · simp [Value.cells] at hcs
      obtain ⟨rfl, rfl, rfl⟩ := hcs
      exact ⟨[], .inl ⟨rfl, rfl, rfl, rfl⟩⟩
    · simp [Value.cells] at hcs
      obtain ⟨rfl, rfl, rfl⟩ := hcs
      exact ⟨zs, .inr ⟨_, rfl, hl, hm, by simpa using hz, hcell, hwz⟩⟩
  clear hA0 hval0
  refine (walk W a0 len0 cap0 z0 w0 a1 len1 cap1 z1 w1 hL hsh).mono fun e W' ⟨he, bel⟩ => ?_
  subst he
  exact ⟨_, rfl, _, _, _, [], _, [], hW', trodAll_mk1 (shut_bool Tryz.underlying4 _), (trodAll_cons_mk (Below.trod laidOut (by kernel_rfl) (of_decide_eq_true (by kernel_rfl)) k0 bel lt0) (trodAll_cons_mk (Below.trod laidOut (by kernel_rfl) (of_decide_eq_true (by kernel_rfl)) k1 bel lt1) trodAll_mk0)), rfl, bel.frame _, fun h => by cases h⟩

theorem over : Rows.fnOneBitRow.holds Tryz.pinned (OpenSpec.ofChange Rows.fnOneBitSpec) :=
  OpenClaim.holds_of_wide 4 Tryz.f4 rfl rfl rfl rfl rfl rfl rfl ⟨rfl, rfl, rfl, rfl, rfl⟩ rfl rfl rfl rfl rfl (by kernel_rfl) Tryz.func4 (by kernel_rfl)
    (of_decide_eq_true (by kernel_rfl)) (by unfold Func.isWrapper; first | (rw [if_pos (by decide +kernel)]; kernel_rfl) | (rw [if_neg (by decide +kernel)]; exact ⟨rfl, rfl⟩))
    (fun os started H enc _ => lifted os started H enc)

theorem proved : Rows.FnOneBitCardSaid :=
  Claim7.holds_tied_plain_at .later [] [.data, .data, .data, .data, .sentinel, .sentinel, .listed, .data, .pinned] true (true, "a741bda0c8f48fed2c94718601f2a419d44240aca8e6160dc8aaf7a3322a75f5") true
    over (fun _ h => by cases h) (by kernel_rfl) (fun _ h => by cases h) fnOneBit_row_tie rfl ⟨rfl, rfl⟩ (by kernel_rfl) rfl
    (fun f fn hf hfn => by
      obtain rfl : f = 4 := Option.some.inj ((show Tryz.prog.funcNamed Rows.fnOneBitRow.func = some 4 by kernel_rfl).symm.trans hf) |>.symm
      obtain rfl : fn = Tryz.f4 := (Option.some.inj (Tryz.func4.symm.trans hfn)).symm
      exact ⟨by kernel_rfl, fun j t ht => by
        rw [Tryz.params4] at ht
        have hm : t ∈ [22, 22] := by simpa using Array.mem_of_getElem? ht
        have hall : ([22, 22].all fun u => !Tryz.prog.wantsStandIn u) = true := by kernel_rfl
        exact (show Tryz.prog.wantsStandIn t = false by simpa using List.all_eq_true.1 hall t hm)⟩)
    (by kernel_rfl)
#print axioms proved
end Go.Proofs.YtaojoamldoofpaaGreatDoor.fnOneBit
