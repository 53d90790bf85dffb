/-
  A job's text taken apart by the model of the document: the whole.
-/
import Derived.Test.YtadjedoakenlkaaGreatDoorJpf
import Derived.Deep.Cut
namespace Go.Proofs.YtadjedoakenlkaaGreatDoor.Jp
set_option maxRecDepth 100000
open Go.RowKit
open Go.Proofs.YtadjedoakenlkaaGreatDoor.Mt (nums ba_ext ba_size i64)
set_option linter.unusedVariables false
theorem nb_ok {w w' : World} {word l : List UInt8} {k : Nat} {e : Ending} (h : Nb w w' word l k e) : ∃ v ok, e = .returned (.tuple #[v, .bool ok]) ∧ (ok = true → ∃ xs a c, v = .slice a xs.length c ∧ NL word k l xs ∧ Li.Own w' w.heap.size v xs) ∧ (ok = false → ∀ xs, ¬ NL word k l xs) := by
  rcases h with ⟨xs, a, c, h1, h2, h3⟩ | ⟨h1, v, h2⟩
  · exact ⟨_, true, h2, fun _ => ⟨xs, a, c, rfl, h1, h3⟩, fun h => by cases h⟩
  · exact ⟨v, false, h2, (fun h => by cases h), fun _ => h1⟩
theorem sp_nil_no {f l F L : List UInt8} : ¬ sp [] false f l = (true, F, L) := by
  intro h
  simp [sp] at h
/-- Lines of which the last is empty, four at least ahead of it. -/
theorem five {P : List (List UInt8)} (h5 : 5 ≤ P.length) (hl : P[P.length - 1]'(by omega) = []) : ∃ l0 l1 md Ls, P = l0 :: l1 :: md :: (Ls ++ [[]]) ∧ P.length = Ls.length + 4 := by
  match P, h5, hl with
  | l0 :: l1 :: md :: r :: R, h5, hl =>
    have hne : ¬ (r :: R) = [] := by simp
    refine ⟨l0, l1, md, (r :: R).dropLast, ?_, ?_⟩
    · have h1 : (r :: R).getLast hne = [] := by
        rw [List.getLast_eq_getElem]
        have : (l0 :: l1 :: md :: r :: R)[(l0 :: l1 :: md :: r :: R).length - 1]'(by omega) = (r :: R)[(r :: R).length - 1]'(by simp) := by
          simp [List.getElem_cons]
        rw [← this]; exact hl
      have h2 := List.dropLast_concat_getLast hne
      rw [h1] at h2
      rw [h2]
    · simp
theorem jp_five {s : List UInt8} {xs ys : List Int} {F L : List UInt8} (h : Jp s xs ys F L) : 5 ≤ (Pc.pieces 10 s).length ∧ ∀ (hn : (Pc.pieces 10 s).length - 1 < (Pc.pieces 10 s).length), (Pc.pieces 10 s)[(Pc.pieces 10 s).length - 1]'hn = [] := by
  obtain ⟨_, l0, l1, md, Ls, hp, _, _, _, hs⟩ := h
  have hne : ¬ Ls = [] := fun e => by subst e; exact sp_nil_no hs
  have hl : 0 < Ls.length := List.length_pos_iff.2 hne
  refine ⟨?_, fun hn => ?_⟩
  · rw [hp]; simp; omega
  · simp [hp]
theorem jp_iff {s l0 l1 md : List UInt8} {Ls : List (List UInt8)} (h9 : s.length ≤ 9000) (hp : Pc.pieces 10 s = l0 :: l1 :: md :: (Ls ++ [[]])) {xs ys : List Int} {F L : List UInt8} : Jp s xs ys F L ↔ NL wSchema 2 l0 xs ∧ NL wConf 7 l1 ys ∧ md ∈ modes ∧ sp Ls false (md ++ [10]) [] = (true, F, L) := by
  constructor
  · rintro ⟨_, a, b, c, d, e, h1, h2, h3, h4⟩
    rw [hp] at e
    simp only [List.cons.injEq] at e
    obtain ⟨rfl, rfl, rfl, e⟩ := e
    have := List.append_cancel_right e
    subst this
    exact ⟨h1, h2, h3, h4⟩
  · rintro ⟨h1, h2, h3, h4⟩
    exact ⟨h9, l0, l1, md, Ls, hp, h1, h2, h3, h4⟩
/-- What is answered of a job's text. -/
def AnsP (s : List UInt8) (e : Ending) : Prop :=
  (∃ a b x0 x1 x2 x3 x4 x5 x6 F L, Jp s [a, b] [x0, x1, x2, x3, x4, x5, x6] F L ∧ e = .returned (.tuple #[.agg #[.int .i64 a, .int .i64 b], .agg #[.int .i64 x0, .int .i64 x1, .int .i64 x2, .int .i64 x3, .int .i64 x4, .int .i64 x5, .int .i64 x6], .string ⟨F.toArray⟩, .string ⟨L.toArray⟩, .bool true])) ∨
  ((∀ xs ys F L, ¬ Jp s xs ys F L) ∧ e = .returned (.tuple #[.agg #[.int .i64 0, .int .i64 0], .agg #[.int .i64 0, .int .i64 0, .int .i64 0, .int .i64 0, .int .i64 0, .int .i64 0, .int .i64 0], .string ⟨#[]⟩, .string ⟨#[]⟩, .bool false]))
def z3 (w : World) : World := ((w.alloc (.cells #[.int .i64 0, .int .i64 0] 23)).alloc (.cells #[.int .i64 0, .int .i64 0, .int .i64 0, .int .i64 0, .int .i64 0, .int .i64 0, .int .i64 0] 25)).alloc (.cells #[.int .i64 0, .int .i64 0] 23)
theorem z3_below (w : World) : Below w.heap.size w (z3 w) := (((Below.refl _ _).alloc (Nat.le_refl _) _).alloc (by simp) _).alloc (by simp; omega) _
theorem z3_1 (w : World) : Wb (z3 w) w.heap.size [.int .i64 0, .int .i64 0] := ((wb_new w [.int .i64 0, .int .i64 0] 23).below ((Below.refl _ _).alloc (Nat.le_refl _) _)).below ((Below.refl _ _).alloc (Nat.le_refl _) _)
theorem z3_2 (w : World) : Wb (z3 w) (w.heap.size + 1) [.int .i64 0, .int .i64 0, .int .i64 0, .int .i64 0, .int .i64 0, .int .i64 0, .int .i64 0] := by
  have h := wb_new (w.alloc (.cells #[.int .i64 0, .int .i64 0] 23)) [.int .i64 0, .int .i64 0, .int .i64 0, .int .i64 0, .int .i64 0, .int .i64 0, .int .i64 0] 25
  rw [World.size_alloc] at h
  exact h.below ((Below.refl _ _).alloc (Nat.le_refl _) _)
theorem z3_3 (w : World) : Wb (z3 w) (w.heap.size + 2) [.int .i64 0, .int .i64 0] := by
  have h := wb_new ((w.alloc (.cells #[.int .i64 0, .int .i64 0] 23)).alloc (.cells #[.int .i64 0, .int .i64 0, .int .i64 0, .int .i64 0, .int .i64 0, .int .i64 0, .int .i64 0] 25)) [.int .i64 0, .int .i64 0] 23
  rw [World.size_alloc, World.size_alloc] at h
  exact h
set_option maxHeartbeats 4000000 in
theorem sjob (w : World) (s : ByteArray) (hs : s.size ≤ 281474976710656) :
    Calls Tryz.prog 4 #[.string s] w fun e w' => AnsP s.data.toList e ∧ Below w.heap.size w w' := by
  have hsz : s.data.toList.length = s.size := by simp
  obtain ⟨R, hR⟩ : ∃ R, w.heap.size = R := ⟨_, rfl⟩
  have HR : Hid (w.heap.size = R) := hR
  have HZ : Hid (Below w.heap.size w (z3 w) ∧ Wb (z3 w) R [.int .i64 0, .int .i64 0] ∧ Wb (z3 w) (R + 1) [.int .i64 0, .int .i64 0, .int .i64 0, .int .i64 0, .int .i64 0, .int .i64 0, .int .i64 0] ∧ Wb (z3 w) (R + 2) [.int .i64 0, .int .i64 0]) := ⟨z3_below w, by rw [← hR]; exact z3_1 w, by rw [← hR]; exact z3_2 w, by rw [← hR]; exact z3_3 w⟩
  clear hR
  by_cases hbig : 9000 < s.size
  · have HNO : Hid (∀ xs ys F L, ¬ Jp s.data.toList xs ys F L) := fun _ _ _ _ h => by have := h.1; omega
    clear hsz
    go_enter Tryz.func4, Tryz.ntmps4
    go_wp2
    refine bodyPost_ret (v := .tuple #[.agg #[.int .i64 0, .int .i64 0], .agg #[.int .i64 0, .int .i64 0, .int .i64 0, .int .i64 0, .int .i64 0, .int .i64 0, .int .i64 0], .string ⟨#[]⟩, .string ⟨#[]⟩, .bool false]) (by rw [results_j _ _ _ _ _ _ _ _ rfl]; go_simp) rfl ⟨.inr ⟨HNO.out, rfl⟩, ?_⟩
    exact HZ.out.1
  go_enter Tryz.func4, Tryz.ntmps4
  go_wp2_with fail
  refine (Sp.parts (z3 w) s 10 (by omega)).mono ?_
  rintro e w1 ⟨v, rfl, ho, hB⟩
  obtain ⟨ad, cp, rfl, his⟩ := ho.iss
  rw [pcs_len, HR.out]
  have HCE : Hid (∀ (X : World), Below w1.heap.size w1 X → ∀ j (hj : j < (Pc.pieces 10 s.data.toList).length), ∃ b o, ad = some ⟨b, o, none⟩ ∧ b < X.heap.size ∧ X.cell? ⟨b, o + j, none⟩ = some (.string (Pc.ba (Pc.pieces 10 s.data.toList)[j]))) := fun X hX j hj => by
    rcases his with h0 | ⟨b, o, e, hbl, hc⟩
    · have := pcs_len 10 s.data.toList; rw [h0] at this; simp at this; omega
    · refine ⟨b, o, e, Nat.lt_of_lt_of_le hbl hX.size, ?_⟩
      rw [hX.cell (p := ⟨b, o + j, none⟩) hbl, hc j (by rw [pcs_len]; exact hj)]
      simp [Pc.pcs]
  have hR1 : w.heap.size ≤ R := by rw [HR.out]; exact Nat.le_refl _
  have hR2 : w.heap.size ≤ R + 1 := Nat.le_succ_of_le hR1
  have HB1 : Hid (Below w.heap.size w w1) := HZ.out.1.trans (hB.mono HZ.out.1.size)
  have HW : Hid (Wb w1 R [.int .i64 0, .int .i64 0] ∧ Wb w1 (R + 1) [.int .i64 0, .int .i64 0, .int .i64 0, .int .i64 0, .int .i64 0, .int .i64 0, .int .i64 0] ∧ Wb w1 (R + 2) [.int .i64 0, .int .i64 0]) := ⟨HZ.out.2.1.below hB, HZ.out.2.2.1.below hB, HZ.out.2.2.2.below hB⟩
  have HWL : Hid (R + 2 < w1.heap.size) := HW.out.2.2.1
  have hpl := Pc.pieces_len 10 s.data.toList
  have HPM : Hid (∀ p ∈ Pc.pieces 10 s.data.toList, p.length ≤ 9000) := fun p hp => by have := Pc.pieces_mem 10 _ p hp; omega
  have d9 : ¬ R + 1 = R := by omega
  have d10 : ¬ R = R + 1 := by omega
  have d11 : ¬ R + 2 = R := by omega
  have d12 : ¬ R + 2 = R + 1 := by omega
  have hs9 : s.data.toList.length ≤ 9000 := by omega
  clear ho his hB HZ hs
  by_cases h5 : (Pc.pieces 10 s.data.toList).length < 5
  · have HNO : Hid (∀ xs ys F L, ¬ Jp s.data.toList xs ys F L) := fun _ _ _ _ h => by have := (jp_five h).1; omega
    obtain ⟨b1, ⟨q0, q1⟩, u0, u1⟩ := wb2 HW.out.1
    obtain ⟨b2, ⟨p0, p1, p2, p3, p4, p5, p6⟩, v0, v1, v2, v3, v4, v5, v6⟩ := wb7 HW.out.2.1
    obtain ⟨b3, ⟨s0, s1⟩, _⟩ := wb2 HW.out.2.2
    clear hsz hpl hs9 hbig
    obtain ⟨n, hn⟩ : ∃ n, (Pc.pieces 10 s.data.toList).length = n := ⟨_, rfl⟩
    rw [hn] at h5
    rw [hn]
    clear hn
    go_wp2
    refine bodyPost_ret (v := .tuple #[.agg #[.int .i64 0, .int .i64 0], .agg #[.int .i64 0, .int .i64 0, .int .i64 0, .int .i64 0, .int .i64 0, .int .i64 0, .int .i64 0], .string ⟨#[]⟩, .string ⟨#[]⟩, .bool false]) (by rw [results_j _ _ _ _ _ _ _ _ rfl]; go_simp) rfl ⟨.inr ⟨HNO.out, rfl⟩, ?_⟩
    exact bel9 HB1.out hR1 hR2 _ _ _ _ _ _ _ _ _
  have h5 : 5 ≤ (Pc.pieces 10 s.data.toList).length := by omega
  obtain ⟨n, hn⟩ : ∃ n, (Pc.pieces 10 s.data.toList).length = n := ⟨_, rfl⟩
  have HN : Hid ((Pc.pieces 10 s.data.toList).length = n) := hn
  rw [hn] at h5 hpl
  rw [hn]
  clear hn
  have HNL : n - 1 < (Pc.pieces 10 s.data.toList).length := by rw [HN.out]; omega
  obtain ⟨bk, of, rfl, hbl, hcl⟩ := HCE.out w1 (Below.refl _ _) (n - 1) HNL
  have HLA : Hid (∀ hx, (Pc.ba ((Pc.pieces 10 s.data.toList)[n - 1]'hx)).data.toList = (Pc.pieces 10 s.data.toList)[n - 1]'hx) := fun hx => Pc.ba_data _
  have hwr : IntKind.i64.wrap ((n : Int) - 1) = ((n - 1 : Nat) : Int) := by rw [IntKind.wrap_i64]; omega
  have hn0 : ((n - 1 : Nat) : Int) < (n : Int) := by omega
  have hn5 : ¬ (n : Int) < 5 := by omega
  have hnw : n ≤ 9001 := by omega
  clear hbig hsz
  by_cases hla : Pc.ba ((Pc.pieces 10 s.data.toList)[n - 1]'HNL) = ⟨#[]⟩
  rotate_left
  · have HNO : Hid (∀ xs ys F L, ¬ Jp s.data.toList xs ys F L) := fun _ _ _ _ h => by
      obtain ⟨_, h2⟩ := jp_five h
      apply hla
      have e1 : (Pc.pieces 10 s.data.toList)[n - 1]'HNL = [] := by
        have := h2 (by rw [HN.out]; omega)
        simp only [HN.out] at this
        exact this
      rw [e1]
      rfl
    obtain ⟨b1, ⟨q0, q1⟩, u0, u1⟩ := wb2 HW.out.1
    obtain ⟨b2, ⟨p0, p1, p2, p3, p4, p5, p6⟩, v0, v1, v2, v3, v4, v5, v6⟩ := wb7 HW.out.2.1
    obtain ⟨b3, ⟨s0, s1⟩, _⟩ := wb2 HW.out.2.2
    have hq := Ls.tl_ne hla
    rw [show (ByteArray.mk #[]).toList = [] by kernel_rfl] at hq
    generalize Pc.ba ((Pc.pieces 10 s.data.toList)[n - 1]'HNL) = q at hcl hq hla
    clear HNL
    go_wp2
    refine bodyPost_ret (v := .tuple #[.agg #[.int .i64 0, .int .i64 0], .agg #[.int .i64 0, .int .i64 0, .int .i64 0, .int .i64 0, .int .i64 0, .int .i64 0, .int .i64 0], .string ⟨#[]⟩, .string ⟨#[]⟩, .bool false]) (by rw [results_j _ _ _ _ _ _ _ _ rfl]; go_simp) rfl ⟨.inr ⟨HNO.out, rfl⟩, ?_⟩
    exact bel9 HB1.out hR1 hR2 _ _ _ _ _ _ _ _ _
  have hla0 : (Pc.pieces 10 s.data.toList)[n - 1]'HNL = [] := by
    rw [← HLA.out HNL, hla]
  obtain ⟨l0, l1, md, Lx, hp, hlen⟩ := five (P := Pc.pieces 10 s.data.toList) (by rw [HN.out]; exact h5) (by simp only [HN.out]; exact hla0)
  obtain ⟨m, hm⟩ : ∃ m, Lx.length = m := ⟨_, rfl⟩
  have HM : Hid (Lx.length = m) := hm
  have HNM : Hid (n = m + 4) := by show _ = _; rw [← HN.out, hlen, hm]
  have HIF : Hid (∀ xs ys F L, Jp s.data.toList xs ys F L ↔ NL wSchema 2 l0 xs ∧ NL wConf 7 l1 ys ∧ md ∈ modes ∧ sp Lx false (md ++ [10]) [] = (true, F, L)) := fun xs ys F L => jp_iff hs9 hp
  have HCJ : Hid (∀ (X : World), Below w1.heap.size w1 X → ∀ j p, (l0 :: l1 :: md :: (Lx ++ [[]]))[j]? = some p → X.cell? ⟨bk, of + j, none⟩ = some (.string (Pc.ba p))) := fun X hX j p hj => by
    rw [← hp] at hj
    obtain ⟨hjl, hje⟩ := List.getElem?_eq_some_iff.1 hj
    obtain ⟨b', o', e', _, hc⟩ := HCE.out X hX j hjl
    injection e' with e'
    injection e' with e1 e2
    subst e1; subst e2
    rw [hc, hje]
  have HSZ : Hid (∀ p ∈ l0 :: l1 :: md :: (Lx ++ [[]]), (Pc.ba p).size ≤ 9000) := fun p h => by rw [Pc.ba_size]; exact HPM.out p (by rw [hp]; exact h)
  rw [hla] at hcl
  clear hp hlen hm hla0 hla HNL HCE HPM HLA HN hs9
  have c0 := HCJ.out w1 (Below.refl _ _) 0 l0 rfl
  have z0 := HSZ.out l0 (by simp)
  have z1 := HSZ.out l1 (by simp)
  have z2 := HSZ.out md (by simp)
  rw [Nat.add_zero] at c0
  go_wp2_with fail
  refine (snl w1 wS (Pc.ba l0) 2 (by decide) (by decide) z0 (by decide)).mono ?_
  rintro e w2 ⟨he, hB2⟩
  obtain ⟨va, ok1, rfl, hy1, hn1⟩ := nb_ok he
  rw [Pc.ba_data] at hy1 hn1
  have HYS : Hid (type_of% hy1) := hy1
  have HNS : Hid (type_of% hn1) := hn1
  have HI2 : Hid (Below w1.heap.size w1 w2) := hB2
  have hbl2 : bk < w2.heap.size := Nat.lt_of_lt_of_le hbl hB2.size
  have c1' := HCJ.out w2 hB2 1 l1 rfl
  have c2' := HCJ.out w2 hB2 2 md rfl
  clear he hy1 hn1 hB2 c0 hcl
  go_wp2_with fail
  refine (snl w2 wC (Pc.ba l1) 7 (by decide) (by decide) z1 (by decide)).mono ?_
  rintro e w3 ⟨he, hB3⟩
  obtain ⟨vb, ok2, rfl, hy2, hn2⟩ := nb_ok he
  rw [Pc.ba_data] at hy2 hn2
  have HYC : Hid (type_of% hy2) := hy2
  have HNC : Hid (type_of% hn2) := hn2
  have HJ3 : Hid (Below w2.heap.size w2 w3) := hB3
  have HI3 : Hid (Below w1.heap.size w1 w3) := HI2.out.trans (hB3.mono HI2.out.size)
  have hbl3 : bk < w3.heap.size := Nat.lt_of_lt_of_le hbl2 hB3.size
  have c2' := HCJ.out w3 HI3.out 2 md rfl
  have HB3 : Hid (Below w.heap.size w w3) := HB1.out.trans (HI3.out.mono HB1.out.size)
  have HW3 : Hid (Wb w3 R [.int .i64 0, .int .i64 0] ∧ Wb w3 (R + 1) [.int .i64 0, .int .i64 0, .int .i64 0, .int .i64 0, .int .i64 0, .int .i64 0, .int .i64 0] ∧ Wb w3 (R + 2) [.int .i64 0, .int .i64 0]) := ⟨HW.out.1.below HI3.out, HW.out.2.1.below HI3.out, HW.out.2.2.below HI3.out⟩
  obtain ⟨b1, ⟨q0, q1⟩, u0, u1⟩ := wb2 (HW.out.1.below HI3.out)
  obtain ⟨b2, ⟨p0, p1, p2, p3, p4, p5, p6⟩, v0, v1, v2, v3, v4, v5, v6⟩ := wb7 (HW.out.2.1.below HI3.out)
  obtain ⟨b3, ⟨s0, s1⟩, _⟩ := wb2 (HW.out.2.2.below HI3.out)
  clear he hy2 hn2 hB3 c1' hbl hbl2 HW
  have HMD : Hid ((Pc.ba md).data.toList = md) := Pc.ba_data md
  generalize Pc.ba md = mb at c2' z2 HMD
  have hmem : mb = nModel ∨ mb = nTell ∨ mb = nJudge ∨ mb = nCross ↔ md ∈ modes := by
    rw [← HMD.out]
    have key : ∀ (n : ByteArray) (l : List UInt8), n.data.toList = l → (mb = n ↔ mb.data.toList = l) := fun n l h => by
      subst h
      exact ⟨fun e => by rw [e], fun e => ba_ext e⟩
    rw [key nModel _ rfl, key nTell _ rfl, key nJudge _ rfl, key nCross _ rfl]
    simp [modes, nModel, nTell, nJudge, nCross]
  have HMM : Hid (type_of% hmem) := hmem
  clear hmem
  go_upto_region 10 with fail
  obtain ⟨gd, hgd⟩ : ∃ gd : Bool, (gd = true ↔ ok1 = true ∧ ok2 = true ∧ md ∈ modes) := by
    by_cases h : ok1 = true ∧ ok2 = true ∧ md ∈ modes
    · exact ⟨true, by simp [h]⟩
    · exact ⟨false, by simp; intro h1 h2 h3; exact h ⟨h1, h2, h3⟩⟩
  have HGD : Hid (type_of% hgd) := hgd
  have HGY : Hid (ok1 = true → ok2 = true → md ∈ modes → gd = true) := fun a b c => hgd.2 ⟨a, b, c⟩
  have HGN : Hid (¬ (ok1 = true ∧ ok2 = true ∧ md ∈ modes) → gd = false) := fun h => by
    cases gd
    · rfl
    · exact absurd (hgd.1 rfl) h
  clear hgd
  go_cut [78] from 57 (fun c wx => c = .bool (!gd) ∧ wx = w3)
  case first =>
    cases ok1
    · have hv : gd = false := HGN.out (fun h => by cases h.1)
      go_wp2
      go_meet
      exact ⟨by rw [hv]; rfl, rfl⟩
    cases ok2
    · have hv : gd = false := HGN.out (fun h => by cases h.2.1)
      go_wp2
      go_meet
      exact ⟨by rw [hv]; rfl, rfl⟩
    by_cases h_nModel : mb = nModel
    · have hv : gd = true := HGY.out rfl rfl (HMM.out.1 (.inl h_nModel))
      have eq_nModel := Ls.tl_eq h_nModel; rw [show (nModel).toList = [109, 111, 100, 101, 108] by kernel_rfl] at eq_nModel
      clear h_nModel
      go_wp2
      go_meet
      exact ⟨by rw [hv]; rfl, rfl⟩
    have ne_nModel := Ls.tl_ne h_nModel; rw [show (nModel).toList = [109, 111, 100, 101, 108] by kernel_rfl] at ne_nModel
    by_cases h_nTell : mb = nTell
    · have hv : gd = true := HGY.out rfl rfl (HMM.out.1 (.inr (.inl h_nTell)))
      have eq_nTell := Ls.tl_eq h_nTell; rw [show (nTell).toList = [116, 101, 108, 108] by kernel_rfl] at eq_nTell
      clear h_nTell
      go_wp2
      go_meet
      exact ⟨by rw [hv]; rfl, rfl⟩
    have ne_nTell := Ls.tl_ne h_nTell; rw [show (nTell).toList = [116, 101, 108, 108] by kernel_rfl] at ne_nTell
    by_cases h_nJudge : mb = nJudge
    · have hv : gd = true := HGY.out rfl rfl (HMM.out.1 (.inr (.inr (.inl h_nJudge))))
      have eq_nJudge := Ls.tl_eq h_nJudge; rw [show (nJudge).toList = [106, 117, 100, 103, 101] by kernel_rfl] at eq_nJudge
      clear h_nJudge
      go_wp2
      go_meet
      exact ⟨by rw [hv]; rfl, rfl⟩
    have ne_nJudge := Ls.tl_ne h_nJudge; rw [show (nJudge).toList = [106, 117, 100, 103, 101] by kernel_rfl] at ne_nJudge
    by_cases h_nCross : mb = nCross
    · have hv : gd = true := HGY.out rfl rfl (HMM.out.1 (.inr (.inr (.inr h_nCross))))
      have eq_nCross := Ls.tl_eq h_nCross; rw [show (nCross).toList = [99, 114, 111, 115, 115] by kernel_rfl] at eq_nCross
      clear h_nCross
      go_wp2
      go_meet
      exact ⟨by rw [hv]; rfl, rfl⟩
    have ne_nCross := Ls.tl_ne h_nCross; rw [show (nCross).toList = [99, 114, 111, 115, 115] by kernel_rfl] at ne_nCross
    have hv : gd = false := HGN.out (fun h => by rcases HMM.out.2 h.2.2 with h | h | h | h; exact h_nModel h; exact h_nTell h; exact h_nJudge h; exact h_nCross h)
    go_wp2
    go_meet
    exact ⟨by rw [hv]; rfl, rfl⟩
  case rest =>
    obtain ⟨rfl, rfl⟩ := hcut
    cases gd
    · have HNO : Hid (∀ xs ys F L, ¬ Jp s.data.toList xs ys F L) := fun xs ys F L h => by
        obtain ⟨h1, h2, h3, h4⟩ := (HIF.out xs ys F L).1 h
        cases ok1
        · exact HNS.out rfl xs h1
        cases ok2
        · exact HNC.out rfl ys h2
        exact absurd (HGD.out.2 ⟨rfl, rfl, h3⟩) (by simp)
      go_wp2
      refine bodyPost_ret (v := .tuple #[.agg #[.int .i64 0, .int .i64 0], .agg #[.int .i64 0, .int .i64 0, .int .i64 0, .int .i64 0, .int .i64 0, .int .i64 0, .int .i64 0], .string ⟨#[]⟩, .string ⟨#[]⟩, .bool false]) (by rw [results_j _ _ _ _ _ _ _ _ rfl]; go_simp) rfl ⟨.inr ⟨HNO.out, rfl⟩, ?_⟩
      exact bel9 HB3.out hR1 hR2 _ _ _ _ _ _ _ _ _
    obtain ⟨g1, g2, g3⟩ := HGD.out.1 rfl
    subst g1; subst g2
    obtain ⟨xs, aa, ca, rfl, hnx, hox⟩ := HYS.out rfl
    obtain ⟨ys, ab, cb, rfl, hny, hoy⟩ := HYC.out rfl
    obtain ⟨xa, xb, rfl⟩ := two hnx.2.1
    obtain ⟨y0, y1, y2, y3, y4, y5, y6, rfl⟩ := seven hny.2.1
    have HJP : Hid (∀ F L, sp Lx false (md ++ [10]) [] = (true, F, L) → Jp s.data.toList [xa, xb] [y0, y1, y2, y3, y4, y5, y6] F L) := fun F L h => (HIF.out _ _ F L).2 ⟨hnx, hny, g3, h⟩
    have HJN : Hid ((sp Lx false (md ++ [10]) []).1 = false → ∀ xs ys F L, ¬ Jp s.data.toList xs ys F L) := fun h xs ys F L hj => by
      have := ((HIF.out xs ys F L).1 hj).2.2.2
      rw [this] at h
      cases h
    have hox := hox.below HJ3.out
    have HOX : Hid (type_of% hox) := hox
    have HOY : Hid (type_of% hoy) := hoy
    clear hnx hny hox hoy HYS HYC HNS HNC HGD HGY HGN HIF HMM g3
    have HMB : Hid ((mb ++ (⟨#[10]⟩ : ByteArray)).data.toList = md ++ [10]) := by show _ = _; rw [← HMD.out]; simp
    have HSM : Hid ((mb ++ (⟨#[10]⟩ : ByteArray)).size ≤ 10000) := by show _ ≤ _; rw [ByteArray.size_append]; have : (ByteArray.mk #[10]).size = 1 := rfl; omega
    clear c2' q0 q1 u0 u1 p0 p1 p2 p3 p4 p5 p6 v0 v1 v2 v3 v4 v5 v6 s0 s1
    go_wp2
    go_loopw [14, 15, 16, 17] (fun f l b i wr => ∃ (k : Nat) (F L : ByteArray) (sb : Bool), k ≤ m ∧ f = .string F ∧ l = .string L ∧ b = .bool sb ∧ i = .int .i64 ((k : Int) + 3) ∧ wr = wc ∧ F.size ≤ 10000 * (k + 1) ∧ L.size ≤ 10000 * (k + 1) ∧ sp Lx false (md ++ [10]) [] = sp (Lx.drop k) sb F.data.toList L.data.toList) (fun _ _ _ i _ => m + 3 - (intOf i).toNat)
    case atStart => exact ⟨0, _, _, false, Nat.zero_le _, rfl, rfl, rfl, rfl, rfl, by have := HSM.out; omega, by decide, by rw [List.drop_zero, HMB.out]⟩
    case round =>
      obtain ⟨k, F, L, sb, hk, rfl, rfl, rfl, rfl, rfl, hf9, hl9, hsp⟩ := hrel
      have HSP : Hid (type_of% hsp) := hsp
      have hw4 : IntKind.i64.wrap ((k : Int) + 3 + 1) = (k : Int) + 4 := by rw [IntKind.wrap_i64]; have := HNM.out; omega
      have hw4' : IntKind.i64.wrap ((k : Int) + 3 + 1) = ((k + 1 : Nat) : Int) + 3 := by rw [IntKind.wrap_i64]; have := HNM.out; omega
      clear hsp
      by_cases hlt : k < m
      · have HK : Hid (k < Lx.length) := by rw [HM.out]; exact hlt
        have hck := HCJ.out wr HI3.out (k + 3) (Lx[k]'HK.out) (by
          rw [List.getElem?_cons_succ, List.getElem?_cons_succ, List.getElem?_cons_succ, List.getElem?_append_left HK.out]
          exact List.getElem?_eq_getElem HK.out)
        have hzk := HSZ.out (Lx[k]'HK.out) (by simp)
        have HDR : Hid (Lx.drop k = (Lx[k]'HK.out) :: Lx.drop (k + 1)) := List.drop_eq_getElem_cons HK.out
        have HPD : Hid ((Pc.ba (Lx[k]'HK.out)).data.toList = Lx[k]'HK.out) := Pc.ba_data _
        rw [← HPD.out] at HDR
        generalize Pc.ba (Lx[k]'HK.out) = q at hck hzk HDR
        have hkn : (k : Int) + 4 < (n : Int) := by have := HNM.out; omega
        have hk3 : (k : Int) + 3 < (n : Int) := by omega
        have hk0 : (0 : Int) ≤ (k : Int) + 3 := by omega
        have hkt : ((k : Int) + 3).toNat = k + 3 := by omega
        have hkm : k ≤ 9001 := by omega
        by_cases hq : q = ⟨#[45, 45]⟩
        · have hq1 := Ls.tl_eq hq
          rw [show (ByteArray.mk #[45, 45]).toList = [45, 45] by kernel_rfl] at hq1
          have HQ : Hid (q.data.toList = dd) := by show _ = _; rw [hq]; rfl
          clear hq
          cases sb
          · have HS1 : Hid (sp Lx false (md ++ [10]) [] = sp (Lx.drop (k + 1)) true F.data.toList L.data.toList) := by
              show _ = _
              rw [HSP.out, HDR.out, sp, if_pos ⟨HQ.out, rfl⟩]
            go_wp2
            go_roundw
            case rel => exact ⟨k + 1, F, L, true, by omega, rfl, rfl, rfl, by go_num, by first | rfl | trivial, by omega, by omega, HS1.out⟩
            case measure => simp [intOf]; omega
          · have HS1 : Hid (sp Lx false (md ++ [10]) [] = sp (Lx.drop (k + 1)) true F.data.toList (L ++ q ++ (⟨#[10]⟩ : ByteArray)).data.toList) := by
              show _ = _
              rw [HSP.out, HDR.out, sp, if_neg (fun h => by cases h.2), if_pos rfl]
              simp
            go_wp2
            go_roundw
            case rel => exact ⟨k + 1, F, _, true, by omega, rfl, rfl, rfl, by go_num, by first | rfl | trivial, by omega, by rw [ByteArray.size_append, ByteArray.size_append]; have : (ByteArray.mk #[10]).size = 1 := rfl; omega, HS1.out⟩
            case measure => simp [intOf]; omega
        · have hq1 := Ls.tl_ne hq
          rw [show (ByteArray.mk #[45, 45]).toList = [45, 45] by kernel_rfl] at hq1
          have HQ : Hid (¬ q.data.toList = dd) := fun e => hq (ba_ext e)
          clear hq
          cases sb
          · have HS1 : Hid (sp Lx false (md ++ [10]) [] = sp (Lx.drop (k + 1)) false (F ++ q ++ (⟨#[10]⟩ : ByteArray)).data.toList L.data.toList) := by
              show _ = _
              rw [HSP.out, HDR.out, sp, if_neg (fun h => HQ.out h.1), if_neg (by simp)]
              simp
            go_wp2
            go_roundw
            case rel => exact ⟨k + 1, _, L, false, by omega, rfl, rfl, rfl, by go_num, by first | rfl | trivial, by rw [ByteArray.size_append, ByteArray.size_append]; have : (ByteArray.mk #[10]).size = 1 := rfl; omega, by omega, HS1.out⟩
            case measure => simp [intOf]; omega
          · have HS1 : Hid (sp Lx false (md ++ [10]) [] = sp (Lx.drop (k + 1)) true F.data.toList (L ++ q ++ (⟨#[10]⟩ : ByteArray)).data.toList) := by
              show _ = _
              rw [HSP.out, HDR.out, sp, if_neg (fun h => by cases h.2), if_pos rfl]
              simp
            go_wp2
            go_roundw
            case rel => exact ⟨k + 1, F, _, true, by omega, rfl, rfl, rfl, by go_num, by first | rfl | trivial, by omega, by rw [ByteArray.size_append, ByteArray.size_append]; have : (ByteArray.mk #[10]).size = 1 := rfl; omega, HS1.out⟩
            case measure => simp [intOf]; omega
      · obtain rfl : k = m := by omega
        have hge : ¬ (k : Int) + 4 < (n : Int) := by have := HNM.out; omega
        have HEN : Hid (sp Lx false (md ++ [10]) [] = (sb, F.data.toList, L.data.toList)) := by
          show _ = _
          rw [HSP.out, List.drop_of_length_le (by rw [HM.out]; exact Nat.le_refl _)]
          rfl
        obtain ⟨b1, ⟨q0, q1⟩, u0, u1⟩ := wb2 HW3.out.1
        obtain ⟨b2, ⟨p0, p1, p2, p3, p4, p5, p6⟩, v0, v1, v2, v3, v4, v5, v6⟩ := wb7 HW3.out.2.1
        obtain ⟨b3, ⟨s0, s1⟩, _⟩ := wb2 HW3.out.2.2
        cases sb
        · have HNO : Hid (∀ xs ys F L, ¬ Jp s.data.toList xs ys F L) := HJN.out (by rw [HEN.out])
          go_wp2
          refine bodyPost_ret (v := .tuple #[.agg #[.int .i64 0, .int .i64 0], .agg #[.int .i64 0, .int .i64 0, .int .i64 0, .int .i64 0, .int .i64 0, .int .i64 0, .int .i64 0], .string ⟨#[]⟩, .string ⟨#[]⟩, .bool false]) (by rw [results_j _ _ _ _ _ _ _ _ rfl]; go_simp) rfl ⟨.inr ⟨HNO.out, rfl⟩, ?_⟩
          exact bel9 HB3.out hR1 hR2 _ _ _ _ _ _ _ _ _
        · have HJ : Hid (type_of% (HJP.out _ _ HEN.out)) := HJP.out _ _ HEN.out
          have hox := HOX.out
          have hoy := HOY.out
          rcases hox.2 with ⟨e, h0⟩ | ⟨A, cap, cur, e, hA, _⟩
          · simp at h0
          cases e
          rcases hoy.2 with ⟨e, h0⟩ | ⟨B, cap2, cur2, e, hB, _⟩
          · simp at h0
          cases e
          have i0 := hox.cell rfl 0 (by simp)
          have i1 := hox.cell rfl 1 (by simp)
          simp only [List.getElem_cons_zero, List.getElem_cons_succ] at i0 i1
          have j0 := hoy.cell rfl 0 (by simp)
          have j1 := hoy.cell rfl 1 (by simp)
          have j2 := hoy.cell rfl 2 (by simp)
          have j3 := hoy.cell rfl 3 (by simp)
          have j4 := hoy.cell rfl 4 (by simp)
          have j5 := hoy.cell rfl 5 (by simp)
          have j6 := hoy.cell rfl 6 (by simp)
          simp only [List.getElem_cons_zero, List.getElem_cons_succ] at j0 j1 j2 j3 j4 j5 j6
          have hAl := (hox.ge A rfl).2
          have hBl := (hoy.ge B rfl).2
          have hA1 : R + 2 < A := by have h1 := (hox.ge A rfl).1; have h2 := HWL.out; omega
          have hB1 : R + 2 < B := by have h1 := (hoy.ge B rfl).1; have h2 := HWL.out; have h3 := HI2.out.size; omega
          have d1 : ¬ A = R := by omega
          have d2 : ¬ A = R + 1 := by omega
          have d3 : ¬ B = R := by omega
          have d4 : ¬ B = R + 1 := by omega
          have d5 : ¬ R = A := by omega
          have d6 : ¬ R + 1 = A := by omega
          have d7 : ¬ R = B := by omega
          have d8 : ¬ R + 1 = B := by omega
          clear hox hoy s0 s1 hA hB hA1 hB1 HSP
          go_wp2_with fail
          go_region_held3 (fun w' => w'.cell? ⟨A, 0, none⟩ = some (.int .i64 xa) ∧ w'.cell? ⟨A, 1, none⟩ = some (.int .i64 xb) ∧ w'.cell? ⟨B, 0, none⟩ = some (.int .i64 y0) ∧ w'.cell? ⟨B, 1, none⟩ = some (.int .i64 y1) ∧ w'.cell? ⟨B, 2, none⟩ = some (.int .i64 y2) ∧ w'.cell? ⟨B, 3, none⟩ = some (.int .i64 y3) ∧ w'.cell? ⟨B, 4, none⟩ = some (.int .i64 y4) ∧ w'.cell? ⟨B, 5, none⟩ = some (.int .i64 y5) ∧ w'.cell? ⟨B, 6, none⟩ = some (.int .i64 y6)) (go_keep) (fail)
          go_wp2
          refine bodyPost_ret (v := .tuple #[.agg #[.int .i64 xa, .int .i64 xb], .agg #[.int .i64 y0, .int .i64 y1, .int .i64 y2, .int .i64 y3, .int .i64 y4, .int .i64 y5, .int .i64 y6], .string F, .string L, .bool true]) (by rw [results_j _ _ _ _ _ _ _ _ rfl]; go_simp) rfl ⟨.inl ⟨xa, xb, y0, y1, y2, y3, y4, y5, y6, _, _, HJ.out, rfl⟩, ?_⟩
          exact (bel9 HB3.out hR1 hR2 _ _ _ _ _ _ _ _ _).drew
end Go.Proofs.YtadjedoakenlkaaGreatDoor.Jp
