/-
  Proved here: the Go function laws.FnExactOffOf, called with any arguments that can be read, returns true, and each argument reads afterwards as it read before ('Rows.FnExactOffOfSaid', no condition beyond the row's own).
-/
import Derived.Test.YtkfjlldlbknepaaGreatRows
import Derived.WalkKit
import Derived.ProofKit
import Derived.OpenShut
import Derived.ShutString
import Derived.ChangeOld
import Derived.Below
import Derived.Test.YtkfjlldlbknepaaGreatPart3
import Derived.Test.YtkfjlldlbknepaaGreatPart9
import Derived.Test.YtkfjlldlbknepaaGreatPart16
import Derived.Test.YtkfjlldlbknepaaGreatPart4
namespace Go.Proofs.YtkfjlldlbknepaaGreat.fnExactOffOf
open Go.ChangeShapes Go.WideShapes Go.ChangeAt Go.RowKit
set_option linter.unusedVariables false
set_option maxRecDepth 100000

theorem own : ownKnob Tryz.prog.godebug = none := by kernel_rfl
theorem laidOut : laidOutB Tryz.prog = true := by kernel_rfl


/-! ### THE WALK: the Go text returns true, and writes nothing that was there -/
set_option maxRecDepth 100000 in
set_option maxHeartbeats 4000000 in
theorem walk (w : World) (m0 : Md.M) (p0k p0t : Option Addr) (s0k s0t : Nat) (hm0 : Md.Rm w p0k p0t m0) (hf0 : Md.FitsM m0) (n1 c1 : Int) (a1 : Option Addr) (rs1 : List Tb.Row) (cap1 : Nat) (b1 : (-9223372036854775808 ≤ n1 ∧ n1 ≤ 9223372036854775807) ∧ (-9223372036854775808 ≤ c1 ∧ c1 ≤ 9223372036854775807)) (hx1 : Tb.IsR w a1 rs1) (hf1 : Tb.FitsR rs1) (hb1 : Op.Labs rs1) :
    Calls Tryz.prog 3 #[.agg #[.int .i64 m0.n, .int .i64 m0.c, .int .i64 m0.prior, .int .i64 m0.base, .slice p0k m0.ks.length s0k, .slice p0t m0.ts.length s0t], .agg #[.int .i64 n1, .int .i64 c1, .slice a1 rs1.length cap1]] w fun e w' => e = .returned (.bool true) ∧ Below w.heap.size w w' := by
  go_enter Tryz.func3, Tryz.ntmps3
  go_wp2_with fail
  obtain ⟨W, hW, hsz, hB, bm, bs⟩ := Sv.new2 w [.int .i64 m0.n, .int .i64 m0.c, .int .i64 m0.prior, .int .i64 m0.base, .slice p0k m0.ks.length s0k, .slice p0t m0.ts.length s0t] [.int .i64 n1, .int .i64 c1, .slice a1 rs1.length cap1] 27 30
  rw [hW]
  clear hW hsz
  refine (Md.szModel _ _ _ _ _ _ m0 (hm0.below hB) hf0 (by omega) (by omega)).mono ?_
  rintro e w1 ⟨rfl, hb⟩
  have bm := bm.below hb
  have bs := bs.below hb
  have hB := hB.trans (hb.mono hB.size)
  clear hb
  by_cases hl : (m0.sz : Int) ≤ 1048576
  rotate_left
  · rw [Tb.sub_no hl]
    go_wp2
    go_ret
    exact ⟨rfl, hB⟩
  rw [Tb.sub_yes hl]
  have hl0 : m0.sz ≤ 1048576 := by omega
  obtain ⟨q, hq⟩ : ∃ q : Int, 1048576 - (m0.sz : Int) = q := ⟨_, rfl⟩
  rw [hq]
  have q0 : 0 ≤ q := by omega
  have q1 : q ≤ 1048576 := by omega
  clear hq hl
  obtain ⟨_, ⟨cx0, cx1, cx2⟩, _⟩ := Md.wr3 (bs)
  go_wp2_with fail
  refine (Tb.szTab _ _ _ _ _ _ rs1 (hx1.below hB) hf1 q0 q1).mono ?_
  rintro e w1s ⟨rfl, hb⟩
  have bm := bm.below hb
  have bs := bs.below hb
  have hB := hB.trans (hb.mono hB.size)
  clear hb cx0 cx1 cx2
  by_cases hl : ((rs1.length + Tb.szR rs1 : Nat) : Int) ≤ q
  rotate_left
  · rw [Tb.sub_no hl]
    go_wp2
    go_ret
    exact ⟨rfl, hB⟩
  rw [Tb.sub_yes hl]
  have hl1 : rs1.length + Tb.szR rs1 ≤ 1048576 := by omega
  obtain ⟨qq, hqq⟩ : ∃ qq : Int, q - ((rs1.length + Tb.szR rs1 : Nat) : Int) = qq := ⟨_, rfl⟩
  rw [hqq]
  have q2 : 0 ≤ qq := by omega
  have q3 : qq ≤ 1048576 := by omega
  clear hqq hl
  obtain ⟨vv, hvv⟩ : ∃ vv : Int, Md.ofo m0 n1 c1 rs1 = vv := ⟨_, rfl⟩
  have HVV : Hid (Md.ofo m0 n1 c1 rs1 = vv) := hvv
  have hvn : (vv != vv) = false := by simp
  clear hvv
  obtain ⟨bv, hbv⟩ : ∃ bv : Bool, Md.pok m0 n1 c1 rs1 = bv := ⟨_, rfl⟩
  have HBV : Hid (Md.pok m0 n1 c1 rs1 = bv) := hbv
  have hbb : (bv != bv) = false := by simp
  clear hbv
  obtain ⟨_, ⟨r1bm0, r1bm1, r1bm2, r1bm3, r1bm4, r1bm5⟩, _⟩ := Md.wr6 (bm)
  obtain ⟨_, ⟨r1bs0, r1bs1, r1bs2⟩, _⟩ := Md.wr3 (bs)
  have H_bm : Hid (type_of% bm) := bm
  have H_bs : Hid (type_of% bs) := bs
  have HHB : Hid (type_of% hB) := hB
  have HBD : Hid (Below w1s.heap.size w1s w1s.drew) := (Below.refl w1s.heap.size w1s).drew
  clear hB bm bs
  go_wp2_with fail
  go_region_held3 (fun w' => w'.cell? ⟨w.heap.size, 0, none⟩ = some (.int .i64 m0.n) ∧ w'.cell? ⟨w.heap.size, 1, none⟩ = some (.int .i64 m0.c) ∧ w'.cell? ⟨w.heap.size, 2, none⟩ = some (.int .i64 m0.prior) ∧ w'.cell? ⟨w.heap.size, 3, none⟩ = some (.int .i64 m0.base) ∧ w'.cell? ⟨w.heap.size, 4, none⟩ = some (.slice p0k m0.ks.length s0k) ∧ w'.cell? ⟨w.heap.size, 5, none⟩ = some (.slice p0t m0.ts.length s0t) ∧ w'.cell? ⟨w.heap.size + 1, 0, none⟩ = some (.int .i64 n1) ∧ w'.cell? ⟨w.heap.size + 1, 1, none⟩ = some (.int .i64 c1) ∧ w'.cell? ⟨w.heap.size + 1, 2, none⟩ = some (.slice a1 rs1.length cap1)) (go_keep) (first
    | (go_at_call 9
       refine (Md.toModel w1s.drew _ _ _ _ m0 (hm0.below (HHB.out.trans (HBD.out.mono HHB.out.size))) hl0).mono ?_
       rintro e w1a ⟨vk1, vt1, rfl, om, hb⟩
       have HY0 : Hid (Below w1s.heap.size w1s w1a) := HBD.out.trans hb
       obtain ⟨_, ⟨s10bm0, s10bm1, s10bm2, s10bm3, s10bm4, s10bm5⟩, _⟩ := Md.wr6 (H_bm.out.below HY0.out)
       obtain ⟨_, ⟨s10bs0, s10bs1, s10bs2⟩, _⟩ := Md.wr3 (H_bs.out.below HY0.out)
       obtain ⟨ak1, ck1, ax1, ct1, ek, et, rm⟩ := om.rm
       subst ek et
       have HR1 : Hid (Md.Rm w1a ak1 ax1 m0) := rm
       clear om rm
       clear hb)
    | (go_at_call 10
       refine (Tb.toTab _ _ _ _ _ rs1 (hx1.below (HHB.out.trans (HY0.out.mono HHB.out.size))) hl1).mono ?_
       rintro e w1b ⟨u1, rfl, oo1, hb⟩
       have HY1 : Hid (Below w1s.heap.size w1s w1b) := HY0.out.trans (hb.mono HY0.out.size)
       obtain ⟨_, ⟨s11bm0, s11bm1, s11bm2, s11bm3, s11bm4, s11bm5⟩, _⟩ := Md.wr6 (H_bm.out.below HY1.out)
       obtain ⟨_, ⟨s11bs0, s11bs1, s11bs2⟩, _⟩ := Md.wr3 (H_bs.out.below HY1.out)
       have HR1b : Hid (Md.Rm w1b ak1 ax1 m0) := HR1.out.below hb
       obtain ⟨d1, k1, ed1, id1⟩ := Md.ownT_isrc oo1
       subst ed1
       have HJ1 : Hid (Md.IsRC w1b d1 rs1) := id1
       clear oo1 id1
       clear hb)
    | (go_at_call 8
       refine (Md.sofo _ _ _ _ _ m0 HR1b.out hl0 _ _ _ _ rs1 HJ1.out hl1).mono ?_
       rintro e w1c ⟨rfl, hb⟩
       have HY2 : Hid (Below w1s.heap.size w1s w1c) := HY1.out.trans (hb.mono HY1.out.size)
       obtain ⟨_, ⟨s12bm0, s12bm1, s12bm2, s12bm3, s12bm4, s12bm5⟩, _⟩ := Md.wr6 (H_bm.out.below HY2.out)
       obtain ⟨_, ⟨s12bs0, s12bs1, s12bs2⟩, _⟩ := Md.wr3 (H_bs.out.below HY2.out)
       rw [HBV.out]
       rw [HVV.out]
       clear hb))
  have hB := HHB.out
  have bm := H_bm.out
  have bs := H_bs.out
  have hb := HY2.out
  clear HHB HBD H_bm H_bs
  try clear r1bm0 r1bm1 r1bm2 r1bm3 r1bm4 r1bm5
  try clear s10bm0 s10bm1 s10bm2 s10bm3 s10bm4 s10bm5
  try clear s11bm0 s11bm1 s11bm2 s11bm3 s11bm4 s11bm5
  try clear s12bm0 s12bm1 s12bm2 s12bm3 s12bm4 s12bm5
  try clear r1bs0 r1bs1 r1bs2
  try clear s10bs0 s10bs1 s10bs2
  try clear s11bs0 s11bs1 s11bs2
  try clear s12bs0 s12bs1 s12bs2
  have bm := bm.below hb
  have bs := bs.below hb
  have hB := hB.trans (hb.mono hB.size)
  clear HR1 HR1b HJ1
  clear HY0 HY1 HY2
  obtain ⟨_, ⟨cx0, cx1, cx2, cx3, cx4, cx5⟩, _⟩ := Md.wr6 (bm)
  go_wp2_with fail
  refine (Md.toModel _ _ _ _ _ m0 (hm0.below hB) hl0).mono ?_
  rintro e w2 ⟨vk2, vt2, rfl, om, hb⟩
  have bm := bm.below hb
  have bs := bs.below hb
  have hB := hB.trans (hb.mono hB.size)
  have h12 := hb.size
  clear hb cx0 cx1 cx2 cx3 cx4 cx5
  obtain ⟨ak2, ck2, ax2, ct2, ek, et, _⟩ := om.rm
  subst ek et
  obtain ⟨_, ⟨cy0, cy1, cy2⟩, _⟩ := Md.wr3 (bs)
  go_wp2_with fail
  clear cy0 cy1 cy2
  obtain ⟨w3, hW3, hsz3, hb, b0⟩ := Sv.new1 w2 [.int .i64 m0.n, .int .i64 m0.c, .int .i64 m0.prior, .int .i64 m0.base, .slice ak2 m0.ks.length ck2, .slice ax2 m0.ts.length ct2] 39
  rw [hW3]
  clear hW3
  have h23 : w2.heap.size < w3.heap.size := by omega
  have bm := bm.below hb
  have bs := bs.below hb
  have om := om.below hb
  have hB := hB.trans (hb.mono hB.size)
  clear hb hsz3
  refine (Tb.toTab _ _ _ _ _ rs1 (hx1.below hB) hl1).mono ?_
  rintro e w4 ⟨u3, rfl, oo, hb⟩
  have bm := bm.below hb
  have bs := bs.below hb
  have b0 := b0.below hb
  have om := om.below hb
  have hB := hB.trans (hb.mono hB.size)
  have h34 := hb.size
  clear hb
  obtain ⟨d3, k3, ed3, id3⟩ := Md.ownT_isrc oo
  subst ed3
  obtain ⟨_, ⟨cy0, cy1, cy2, cy3, cy4, cy5⟩, _⟩ := Md.wr6 (b0)
  go_wp2_with fail
  clear cy0 cy1 cy2 cy3 cy4 cy5
  obtain ⟨w5, hW5, hsz5, hb, b1⟩ := Sv.new1 w4 [.int .i64 n1, .int .i64 c1, .slice d3 rs1.length k3] 43
  rw [hW5]
  clear hW5
  have h45 : w4.heap.size < w5.heap.size := by omega
  have bm := bm.below hb
  have bs := bs.below hb
  have b0 := b0.below hb
  have om := om.below hb
  have oo := oo.below hb
  have id3 := id3.below hb
  have hB := hB.trans (hb.mono hB.size)
  clear hb hsz5
  obtain ⟨_, ⟨cx0, cx1, cx2, cx3, cx4, cx5⟩, _⟩ := Md.wr6 (b0)
  obtain ⟨_, ⟨cy0, cy1, cy2⟩, _⟩ := Md.wr3 (b1)
  obtain ⟨_, _, _, _, ek, et, rm⟩ := om.rm
  cases ek
  cases et
  refine (Md.iofo _ _ _ _ _ m0 rm hl0 _ _ _ _ rs1 id3 hl1).mono ?_
  rintro e w6 ⟨rfl, hb⟩
  rw [HBV.out]
  rw [HVV.out]
  have bm := bm.below hb
  have bs := bs.below hb
  have b0 := b0.below hb
  have b1 := b1.below hb
  have om := om.below hb
  have oo := oo.below hb
  have id3 := id3.below hb
  have hB := hB.trans (hb.mono hB.size)
  have h56 := hb.size
  clear hb rm cx0 cx1 cx2 cx3 cx4 cx5 cy0 cy1 cy2
  obtain ⟨_, ⟨r8b00, r8b01, r8b02, r8b03, r8b04, r8b05⟩, _⟩ := Md.wr6 (b0)
  obtain ⟨_, ⟨r8bm0, r8bm1, r8bm2, r8bm3, r8bm4, r8bm5⟩, _⟩ := Md.wr6 (bm)
  have H_bm : Hid (type_of% bm) := bm
  have H_bs : Hid (type_of% bs) := bs
  have H_b0 : Hid (type_of% b0) := b0
  have H_b1 : Hid (type_of% b1) := b1
  have H_om : Hid (type_of% om) := om
  have H_oo : Hid (type_of% oo) := oo
  have H_id3 : Hid (type_of% id3) := id3
  have HHB : Hid (type_of% hB) := hB
  have HBD : Hid (Below w6.heap.size w6 w6.drew) := (Below.refl w6.heap.size w6).drew
  clear hB bm bs b0 b1 om oo id3
  go_wp2_with fail
  go_region_held3 (fun w' => w'.cell? ⟨w2.heap.size, 0, none⟩ = some (.int .i64 m0.n) ∧ w'.cell? ⟨w2.heap.size, 1, none⟩ = some (.int .i64 m0.c) ∧ w'.cell? ⟨w2.heap.size, 2, none⟩ = some (.int .i64 m0.prior) ∧ w'.cell? ⟨w2.heap.size, 3, none⟩ = some (.int .i64 m0.base) ∧ w'.cell? ⟨w2.heap.size, 4, none⟩ = some (.slice ak2 m0.ks.length ck2) ∧ w'.cell? ⟨w2.heap.size, 5, none⟩ = some (.slice ax2 m0.ts.length ct2) ∧ w'.cell? ⟨w.heap.size, 0, none⟩ = some (.int .i64 m0.n) ∧ w'.cell? ⟨w.heap.size, 1, none⟩ = some (.int .i64 m0.c) ∧ w'.cell? ⟨w.heap.size, 2, none⟩ = some (.int .i64 m0.prior) ∧ w'.cell? ⟨w.heap.size, 3, none⟩ = some (.int .i64 m0.base) ∧ w'.cell? ⟨w.heap.size, 4, none⟩ = some (.slice p0k m0.ks.length s0k) ∧ w'.cell? ⟨w.heap.size, 5, none⟩ = some (.slice p0t m0.ts.length s0t)) (go_keep) (first
    | (go_at_call 9
       refine (Md.toModel w6.drew _ _ _ _ m0 (hm0.below (HHB.out.trans (HBD.out.mono HHB.out.size))) hl0).mono ?_
       rintro e w8a ⟨vk8, vt8, rfl, om8, hb⟩
       have HY0 : Hid (Below w6.heap.size w6 w8a) := HBD.out.trans hb
       obtain ⟨_, ⟨s80b00, s80b01, s80b02, s80b03, s80b04, s80b05⟩, _⟩ := Md.wr6 (H_b0.out.below HY0.out)
       obtain ⟨_, ⟨s80bm0, s80bm1, s80bm2, s80bm3, s80bm4, s80bm5⟩, _⟩ := Md.wr6 (H_bm.out.below HY0.out)
       obtain ⟨ak8, ck8, ax8, ct8, ek, et, rm⟩ := om8.rm
       subst ek et
       have HR8 : Hid (Md.Rm w8a ak8 ax8 m0) := rm
       have HR9 : Hid (Md.Rm w8a ak2 ax2 m0) := by obtain ⟨_, _, _, _, ek, et, rm⟩ := (H_om.out.below HY0.out).rm; cases ek; cases et; exact rm
       clear om8 rm
       clear hb)
    | (go_at_call 12
       refine (Md.eqModel _ _ _ _ _ _ _ _ _ m0 HR9.out HR8.out hl0).mono ?_
       rintro e w8b ⟨rfl, hb⟩
       have HY1 : Hid (Below w6.heap.size w6 w8b) := HY0.out.trans (hb.mono HY0.out.size)
       obtain ⟨_, ⟨s81b00, s81b01, s81b02, s81b03, s81b04, s81b05⟩, _⟩ := Md.wr6 (H_b0.out.below HY1.out)
       obtain ⟨_, ⟨s81bm0, s81bm1, s81bm2, s81bm3, s81bm4, s81bm5⟩, _⟩ := Md.wr6 (H_bm.out.below HY1.out)
       clear hb))
  have hB := HHB.out
  have bm := H_bm.out
  have bs := H_bs.out
  have b0 := H_b0.out
  have b1 := H_b1.out
  have om := H_om.out
  have oo := H_oo.out
  have id3 := H_id3.out
  have hb := HY1.out
  clear HHB HBD H_bm H_bs H_b0 H_b1 H_om H_oo H_id3
  try clear r8b00 r8b01 r8b02 r8b03 r8b04 r8b05
  try clear s80b00 s80b01 s80b02 s80b03 s80b04 s80b05
  try clear s81b00 s81b01 s81b02 s81b03 s81b04 s81b05
  try clear r8bm0 r8bm1 r8bm2 r8bm3 r8bm4 r8bm5
  try clear s80bm0 s80bm1 s80bm2 s80bm3 s80bm4 s80bm5
  try clear s81bm0 s81bm1 s81bm2 s81bm3 s81bm4 s81bm5
  have bm := bm.below hb
  have bs := bs.below hb
  have b0 := b0.below hb
  have b1 := b1.below hb
  have om := om.below hb
  have oo := oo.below hb
  have id3 := id3.below hb
  have hB := hB.trans (hb.mono hB.size)
  clear hb HY0 HY1 HR8 HR9
  obtain ⟨_, ⟨r9b10, r9b11, r9b12⟩, _⟩ := Md.wr3 (b1)
  obtain ⟨_, ⟨r9bs0, r9bs1, r9bs2⟩, _⟩ := Md.wr3 (bs)
  have H_bm : Hid (type_of% bm) := bm
  have H_bs : Hid (type_of% bs) := bs
  have H_b0 : Hid (type_of% b0) := b0
  have H_b1 : Hid (type_of% b1) := b1
  have H_om : Hid (type_of% om) := om
  have H_oo : Hid (type_of% oo) := oo
  have H_id3 : Hid (type_of% id3) := id3
  have HHB : Hid (type_of% hB) := hB
  have HBD : Hid (Below w8b.heap.size w8b w8b.drew) := (Below.refl w8b.heap.size w8b).drew
  clear hB bm bs b0 b1 om oo id3
  go_wp2_with fail
  go_region_held3 (fun w' => w'.cell? ⟨w4.heap.size, 0, none⟩ = some (.int .i64 n1) ∧ w'.cell? ⟨w4.heap.size, 1, none⟩ = some (.int .i64 c1) ∧ w'.cell? ⟨w4.heap.size, 2, none⟩ = some (.slice d3 rs1.length k3) ∧ w'.cell? ⟨w.heap.size + 1, 0, none⟩ = some (.int .i64 n1) ∧ w'.cell? ⟨w.heap.size + 1, 1, none⟩ = some (.int .i64 c1) ∧ w'.cell? ⟨w.heap.size + 1, 2, none⟩ = some (.slice a1 rs1.length cap1)) (go_keep) (first
    | (go_at_call 10
       refine (Tb.toTab w8b.drew _ _ _ _ rs1 (hx1.below (HHB.out.trans (HBD.out.mono HHB.out.size))) hl1).mono ?_
       rintro e w9a ⟨u9, rfl, o9, hb⟩
       have HY0 : Hid (Below w8b.heap.size w8b w9a) := HBD.out.trans hb
       obtain ⟨_, ⟨s90b10, s90b11, s90b12⟩, _⟩ := Md.wr3 (H_b1.out.below HY0.out)
       obtain ⟨_, ⟨s90bs0, s90bs1, s90bs2⟩, _⟩ := Md.wr3 (H_bs.out.below HY0.out)
       obtain ⟨d9, k9, ed9, id9⟩ := o9.isr
       subst ed9
       have HR8 : Hid (Tb.IsR w9a d9 rs1) := id9
       clear o9 id9
       clear hb)
    | (go_at_call 13
       refine (Tb.eqTables _ _ _ _ _ _ _ _ _ rs1 rs1 (H_id3.out.below HY0.out).isr HR8.out hl1 hl1).mono ?_
       rintro e w9b ⟨qe, rfl, hqe, hb⟩
       have HY1 : Hid (Below w8b.heap.size w8b w9b) := HY0.out.trans (hb.mono HY0.out.size)
       obtain ⟨_, ⟨s91b10, s91b11, s91b12⟩, _⟩ := Md.wr3 (H_b1.out.below HY1.out)
       obtain ⟨_, ⟨s91bs0, s91bs1, s91bs2⟩, _⟩ := Md.wr3 (H_bs.out.below HY1.out)
       obtain rfl : qe = true := hqe.2 ⟨rfl, rfl, rfl⟩
       clear hqe
       clear hb))
  have hB := HHB.out
  have bm := H_bm.out
  have bs := H_bs.out
  have b0 := H_b0.out
  have b1 := H_b1.out
  have om := H_om.out
  have oo := H_oo.out
  have id3 := H_id3.out
  have hb := HY1.out
  clear HHB HBD H_bm H_bs H_b0 H_b1 H_om H_oo H_id3
  try clear r9b10 r9b11 r9b12
  try clear s90b10 s90b11 s90b12
  try clear s91b10 s91b11 s91b12
  try clear r9bs0 r9bs1 r9bs2
  try clear s90bs0 s90bs1 s90bs2
  try clear s91bs0 s91bs1 s91bs2
  have bm := bm.below hb
  have bs := bs.below hb
  have b0 := b0.below hb
  have b1 := b1.below hb
  have om := om.below hb
  have oo := oo.below hb
  have id3 := id3.below hb
  have hB := hB.trans (hb.mono hB.size)
  clear hb HY0 HY1 HR8
  go_wp2
  go_ret
  exact ⟨rfl, hB⟩

/-! ### THE ROW's STEP -/
theorem lifted (os : Os) (started : os.Started) (H : Type) (enc : TypeId × Value → H) :
    ReturnsInHanded {} Tryz.checked os 3 .any (Rows.fnExactOffOfSpec.pre6 enc Tryz.prog Tryz.f3 Rows.fnExactOffOfRow.domain false) (Rows.fnExactOffOfSpec.post enc Tryz.prog Tryz.f3 false true false false) := by
  refine returnsInHanded_of_change (C := Tryz.checked) own started (by kernel_rfl) Tryz.func3
    (ChangeSpec.witness6 (enc := enc) (C := Tryz.checked) false ⟨#[], #[.agg #[.int .i64 0, .int .i64 0, .int .i64 0, .int .i64 0, .slice none 0 0, .slice none 0 0], .agg #[.int .i64 0, .int .i64 0, .slice none 0 0]], []⟩ 8 (by kernel_rfl) (by kernel_rfl) (by kernel_rfl) (by kernel_rfl)) ?_
  intro W base args ds gs before hval0 hW hcnd _
  have hval : ∀ (j : Nat) t v, Tryz.f3.params[j]? = some t → args[j]? = some v → Value.okWide Tryz.prog W .any base t v := hval0
  have hW' := hW
  obtain ⟨p, q, hA0, hV, rfl, hfz, hnd⟩ := hW
  have hA : DataW.TrodAll enc Tryz.prog W 0 (fun _ => true) true Tryz.f3.params.toList args.toList ds p := hA0
  rw [Tryz.params3] at hA hval
  obtain ⟨v0, vs0, d0, ds0, p0, q0, hargs, rfl, rfl, h0, rest0⟩ := trodAll_cons hA
  obtain ⟨v1, vs1, d1, ds1, p1, q1, rfl, rfl, rfl, h1, rest1⟩ := trodAll_cons rest0
  obtain ⟨rfl, rfl, rfl⟩ := trodAll_nil rest1
  obtain rfl : args = #[v0, v1] := by cases args; simp_all
  obtain ⟨rfl, rfl⟩ := trodVars_none hV
  have k0 := h0
  have lt0 : ∀ x ∈ p0, x.block < W.heap.size := by obtain ⟨m, hm⟩ := k0; exact DataW.trod_lt m _ _ _ hm
  have k1 := h1
  have lt1 : ∀ x ∈ p1, x.block < W.heap.size := by obtain ⟨m, hm⟩ := k1; exact DataW.trod_lt m _ _ _ hm
  obtain ⟨m0, p0k, s0k, p0t, s0t, rfl, hm0, hf0⟩ := Op.model_open (hval 0 27 v0 rfl rfl) h0
  obtain ⟨n1, c1, a1, rs1, cap1, rfl, bn1, bc1, hx1, hf1, hb1⟩ := Op.table_open (hval 1 30 v1 rfl rfl) h1
  clear hA0 hval0
  refine (walk W m0 p0k p0t s0k s0t hm0 hf0 n1 c1 a1 rs1 cap1 ⟨bn1, bc1⟩ hx1 hf1 hb1).mono fun e W' ⟨he, bel⟩ => ?_
  subst he
  exact ⟨_, rfl, _, _, _, [], _, [], hW', trodAll_mk1 (shut_bool Tryz.underlying4 _), (trodAll_cons_mk (Below.trod laidOut (by kernel_rfl) (of_decide_eq_true (by kernel_rfl)) k0 bel lt0) (trodAll_cons_mk (Below.trod laidOut (by kernel_rfl) (of_decide_eq_true (by kernel_rfl)) k1 bel lt1) trodAll_mk0)), rfl, bel.frame _, fun h => by cases h⟩

theorem over : Rows.fnExactOffOfRow.holds Tryz.pinned (OpenSpec.ofChange Rows.fnExactOffOfSpec) :=
  OpenClaim.holds_of_wide 3 Tryz.f3 rfl rfl rfl rfl rfl rfl rfl ⟨rfl, rfl, rfl, rfl, rfl⟩ rfl rfl rfl rfl rfl (by kernel_rfl) Tryz.func3 (by kernel_rfl)
    (of_decide_eq_true (by kernel_rfl)) (by unfold Func.isWrapper; first | (rw [if_pos (by decide +kernel)]; kernel_rfl) | (rw [if_neg (by decide +kernel)]; exact ⟨rfl, rfl⟩))
    (fun os started H enc _ => lifted os started H enc)

/-- THE STATEMENT -/
theorem proved : Rows.FnExactOffOfSaid := over
#print axioms proved
end Go.Proofs.YtkfjlldlbknepaaGreat.fnExactOffOf
