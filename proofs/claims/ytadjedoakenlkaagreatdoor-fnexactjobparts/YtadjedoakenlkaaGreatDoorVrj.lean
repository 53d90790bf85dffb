/-
  What the row's listed variables give: the tables that numbers and blanks are read by, the two errors' values.
-/
import Derived.Test.YtadjedoakenlkaaGreatDoorRmv
import Derived.Lib.LaidTab
import Derived.Lib.LaidU8
import Derived.Stop.LaidErr
import Derived.Stop.Joined
import Derived.LaidMore
namespace Go.Proofs.YtadjedoakenlkaaGreatDoor.Vr
set_option maxRecDepth 100000
open Go.RowKit Go.ChangeShapes Go.WideShapes
theorem star : "*" ++ "errors.errorString" = "*errors.errorString" := by decide
theorem rowErr (u : TypeId) (h : Tryz.prog.typeName? 3 u = some "*errors.errorString") : u = 202 :=
  typeName_ptr_named (nm := "errors.errorString") (by rw [star]; kernel_rfl) (by kernel_rfl) (by decide) u (by rw [star]; exact h)
theorem tER : (Tryz.prog.globals[4]?).map (·.type) = some 64 := by kernel_rfl
theorem tES : (Tryz.prog.globals[3]?).map (·.type) = some 64 := by kernel_rfl
theorem tAS : (Tryz.prog.globals[1]?).map (·.type) = some 90 := by kernel_rfl
theorem vs_of {w : World} (hL : laidMet Tryz.prog [("math/bits.deBruijn32tab", Rows.laid_math_bits_deBruijn32tab), ("math/bits.deBruijn64tab", Rows.laid_math_bits_deBruijn64tab), ("internal/strconv.uint64pow10", Rows.laid_internal_strconv_uint64pow10), ("strconv.ErrRange", Rows.laid_strconv_ErrRange), ("strconv.ErrSyntax", Rows.laid_strconv_ErrSyntax), ("unicode.White_Space", Rows.laid_unicode_White_Space), ("strings.asciiSpace", Rows.laid_strings_asciiSpace)] w) (hsh : w.ShapedOpen Tryz.prog) : Rm.Vs w := by
  have hM : ∃ m, w.cell? ⟨0, 0, none⟩ = some (.int .i64 m) := Go.Proofs.cell_of_shapedOpen_int (zero := #[.int .i64 0]) (t := 3) hsh (of_decide_eq_true (by kernel_rfl)) (by kernel_rfl) rfl (by kernel_rfl) (by kernel_rfl) Tryz.underlying3
  have hT : Nu.Tab w := Lib.tabIs_of_head Nu.gTab Nu.tTab Tryz.underlying226 Tryz.underlying170 (by kernel_rfl) (by kernel_rfl) (laidMet.tail (laidMet.tail hL))
  have hL3 := laidMet.tail (laidMet.tail (laidMet.tail hL))
  obtain ⟨a0, s0, hv0, -, -, -⟩ := laid_sentinel hL3 Rm.gER tER Tryz.underlying64 rowErr Tryz.underlying202 Tryz.underlying204 rfl rfl Tryz.underlying9 (by kernel_rfl) (by kernel_rfl)
  obtain ⟨a1, s1, hv1, -, -, -⟩ := laid_sentinel (laidMet.tail hL3) Rm.gES tES Tryz.underlying64 rowErr Tryz.underlying202 Tryz.underlying204 rfl rfl Tryz.underlying9 (by kernel_rfl) (by kernel_rfl)
  have hL5 := laidMet.tail (laidMet.tail hL3)
  have hAS : Lib.TabIs Tryz.prog w "strings.asciiSpace" .u8 Lib.asciiSpaceTab := Lib.tabIs_of_head Rm.gAS tAS Tryz.underlying90 Tryz.underlying5 (by kernel_rfl) (by kernel_rfl) (laidMet.tail hL5)
  have hWS : Lib.WhiteTab 2 w := whiteTab_of_reads Tryz.lays199 ⟨by kernel_rfl, by kernel_rfl, by kernel_rfl, by kernel_rfl, by kernel_rfl, by kernel_rfl, by kernel_rfl, by kernel_rfl⟩ (Lib.laidMet.reads hL5 (.head _))
  exact ⟨hT, hM, ⟨_, _, hv1⟩, ⟨_, _, hv0⟩, hAS, hWS⟩
end Go.Proofs.YtadjedoakenlkaaGreatDoor.Vr
