/-
  A table's text and what is read of it, there and back (plain lists).
-/
import Derived.Test.YtajfldjhbgilmaaGreatDoorSpecTxt
import Derived.Test.YtajfldjhbgilmaaGreatDoorPcs
namespace Go.Proofs.YtajfldjhbgilmaaGreatDoor.Rt
set_option maxRecDepth 100000
open Go.RowKit
open Go.Proofs.YtajfldjhbgilmaaGreatDoor.Tb
open Go.Proofs.YtajfldjhbgilmaaGreatDoor.Tk
open Go.Proofs.YtajfldjhbgilmaaGreatDoor.Tt

/-- Neither comma nor line's end. -/
def Cl (l : List UInt8) : Prop := ∀ c ∈ l, c ≠ 44 ∧ c ≠ 10
theorem cl_dig {c : UInt8} (h : Ma.isDig c) : c ≠ 44 ∧ c ≠ 10 := by
  unfold Ma.isDig at h
  constructor <;> (intro e; subst e; revert h; decide)
theorem cl_pos (y : Nat) : Cl (Ma.pos y) := by
  intro c hc
  unfold Ma.pos at hc
  rcases List.mem_append.1 hc with h | h
  · exact cl_dig (Ma.dec_all _ c h)
  · rcases List.mem_cons.1 h with rfl | h
    · decide
    · exact cl_dig (Ma.tail_all _ c h)
theorem cl_ftext (x : Int) : Cl (Tx.ftext x) := by
  by_cases hf : Tx.fok x = true
  · by_cases h : x < 0
    · rw [Re.ftext_neg hf h]
      intro c hc
      rcases List.mem_cons.1 hc with rfl | hc
      · decide
      · exact cl_pos _ c hc
    · rw [Re.ftext_pos hf (by omega)]; exact cl_pos _
  · rw [Re.ftext_no hf]; intro c hc; cases hc
theorem cl_word {s : ByteArray} (h : wok s = true) : Cl s.data.toList := by
  intro c hc
  unfold wok at h
  rw [Bool.and_eq_true] at h
  have hb := List.all_eq_true.1 h.2 c hc
  unfold wbyte at hb
  constructor <;> (intro e; subst e; revert hb; decide)
theorem fb_data (x : Int) : (fb x).data.toList = Tx.ftext x := by simp [fb]
/-! ### Pieces, there and back -/
theorem pieces_flat (c : UInt8) (q : List UInt8) (hq : c ∉ q) : ∀ (ps : List (List UInt8)), (∀ p ∈ ps, c ∉ p) → Pc.pieces c ((ps.map (· ++ [c])).flatten ++ q) = ps ++ [q]
  | [], _ => by simpa using Pc.pieces_no c q hq
  | p :: ps, h => by
    rw [List.map_cons, List.flatten_cons, List.append_assoc, List.append_assoc, List.singleton_append, Pc.pieces_cut c _ p (h p (by simp)), pieces_flat c q hq ps (fun p' hp' => h p' (by simp [hp']))]
    rfl
theorem pieces_back (c : UInt8) : ∀ (l : List UInt8), ∃ ps q, Pc.pieces c l = ps ++ [q] ∧ l = (ps.map (· ++ [c])).flatten ++ q
  | [] => ⟨[], [], rfl, rfl⟩
  | x :: l => by
    obtain ⟨ps, q, h1, h2⟩ := pieces_back c l
    unfold Pc.pieces
    by_cases hx : x = c
    · rw [if_pos hx, h1]
      exact ⟨[] :: ps, q, rfl, by rw [hx]; simp only [List.map_cons, List.nil_append, List.flatten_cons, List.cons_append]; rw [← h2]⟩
    · rw [if_neg hx, h1]
      cases ps with
      | nil => exact ⟨[], x :: q, rfl, by rw [h2]; rfl⟩
      | cons p ps => exact ⟨(x :: p) :: ps, q, rfl, by rw [h2]; simp⟩
/-! ### A row -/
def line (r : Row) : List UInt8 := Lib.join ((rparts r).map (·.data.toList)) [44]
theorem rtext_line (r : Row) : rtext r = line r ++ [10] := rfl
theorem parts_cl {n c : Int} {r : Row} (h : rok n c r = true) : ∀ p ∈ rparts r, Cl p.data.toList := by
  intro p hp
  obtain ⟨_, _, _, _, hc, _⟩ := rok_iff.1 h
  unfold rparts nparts at hp
  rcases List.mem_append.1 hp with hp | hp
  · rcases List.mem_append.1 hp with hp | hp
    · obtain ⟨x, _, rfl⟩ := List.mem_map.1 hp
      rw [fb_data]; exact cl_ftext x
    · exact cl_word (List.all_eq_true.1 hc p hp)
  · obtain rfl := List.mem_singleton.1 hp
    rw [fb_data]; exact cl_ftext _
theorem rparts_split (r : Row) : ∃ ps q, rparts r = ps ++ [q] := ⟨nparts r.nums ++ r.cats, fb r.label, rfl⟩
theorem line_pieces {n c : Int} {r : Row} (h : rok n c r = true) : Pc.pcs 44 (line r) = rparts r := by
  have hcl := parts_cl h
  obtain ⟨ps, q, e⟩ := rparts_split r
  unfold Pc.pcs line
  rw [e] at hcl ⊢
  rw [List.map_append, List.map_cons, List.map_nil, join_snoc, pieces_flat 44 _ (fun hm => (hcl q (by simp) 44 hm).1 rfl) _ (fun p hp hm => ?_)]
  · rw [List.map_append, List.map_map]
    congr 1
    · conv => rhs; rw [← List.map_id ps]
      exact List.map_congr_left (fun x _ => Pc.ba_of x)
  · obtain ⟨s, hs, rfl⟩ := List.mem_map.1 hp
    exact (hcl s (by simp [hs]) 44 hm).1 rfl
theorem line_cl {n c : Int} {r : Row} (h : rok n c r = true) : (10 : UInt8) ∉ line r := by
  intro hm
  have hcl := parts_cl h
  obtain ⟨ps, q, e⟩ := rparts_split r
  unfold line at hm
  rw [e] at hcl hm
  rw [List.map_append, List.map_cons, List.map_nil, join_snoc] at hm
  rcases List.mem_append.1 hm with hm | hm
  · obtain ⟨l, hl, hc⟩ := List.mem_flatten.1 hm
    obtain ⟨p, hp, rfl⟩ := List.mem_map.1 hl
    obtain ⟨s, hs, rfl⟩ := List.mem_map.1 hp
    rcases List.mem_append.1 hc with hc | hc
    · exact (hcl s (by simp [hs]) 10 hc).2 rfl
    · revert hc; decide
  · exact (hcl q (by simp) 10 hm).2 rfl
theorem txfok {x : Int} : Tx.fok x = Tk.fok x := rfl
theorem tx_fb {x : Int} (h : Tk.fok x = true) : Pc.tx (fb x) = true ∧ Pc.val (fb x) = x := by
  have hf : Tx.fok x = true := h
  have hg : Re.guess (fb x).data.toList = x := by rw [fb_data]; exact Re.guess_of hf
  refine ⟨(Pc.tx_iff _).2 ⟨x, hf, (fb_data x).symm⟩, hg⟩
theorem fb_val {p : ByteArray} (h : Pc.tx p = true) : Tk.fok (Pc.val p) = true ∧ fb (Pc.val p) = p := by
  have := Re.text_guess ((Pc.tx_iff p).1 h)
  refine ⟨this.1, ?_⟩
  unfold fb Pc.val
  rw [this.2]
/-- A row that is right, read from its parts. -/
theorem rread_row {N C : Nat} {r : Row} (h : rok N C r = true) : Pc.rread N C (rparts r) = (0, r) := by
  obtain ⟨_, hn, hc, hno, hco, hlo⟩ := rok_iff.1 h
  have hn' : r.nums.length = N := by omega
  have hc' : r.cats.length = C := by omega
  have hnl : (nparts r.nums).length = N := by rw [nparts_length]; exact hn'
  have e1 : (rparts r).take N = nparts r.nums := by
    unfold rparts
    rw [List.append_assoc, List.take_left' hnl]
  have e2 : ((rparts r).drop N).take C = r.cats := by
    unfold rparts
    rw [List.append_assoc, List.drop_left' hnl, List.take_left' hc']
  have e3 : (rparts r).getD (N + C) ⟨#[]⟩ = fb r.label := by
    unfold rparts
    rw [List.getD_eq_getElem?_getD, List.getElem?_append_right (by rw [List.length_append, hnl, hc']; omega), List.length_append, hnl, hc', Nat.sub_self]
    rfl
  have hl : (rparts r).length = N + C + 1 := by rw [rparts_length, hn', hc']
  have a1 : (nparts r.nums).all Pc.tx = true := by
    rw [List.all_eq_true]
    intro p hp
    obtain ⟨x, hx, rfl⟩ := List.mem_map.1 hp
    exact (tx_fb (List.all_eq_true.1 hno x hx)).1
  have a2 : (nparts r.nums).map Pc.val = r.nums := by
    unfold nparts
    rw [List.map_map]
    conv => rhs; rw [← List.map_id r.nums]
    exact List.map_congr_left (fun x hx => (tx_fb (List.all_eq_true.1 hno x hx)).2)
  have hlf : Tk.fok r.label = true := by
    have := hlo
    unfold lok at this
    simp at this
    unfold Tk.fok
    simp; omega
  have a3 := tx_fb hlf
  have a4 : Pc.lb (fb r.label) = true := by
    unfold Pc.lb
    rw [a3.1, a3.2, hlo]; rfl
  have hco' : r.cats.all wok = true := hco
  unfold Pc.rread
  rw [if_pos hl, e1, if_pos a1, e2, if_pos hco', e3, if_pos a4, a2, a3.2]
/-- What is read of a row is right, and has these parts. -/
theorem rread_back {N C : Nat} {ps : List ByteArray} (hs : sok N C = true) (h : (Pc.rread N C ps).1 = 0) : rok N C (Pc.rread N C ps).2 = true ∧ rparts (Pc.rread N C ps).2 = ps := by
  unfold Pc.rread at h ⊢
  by_cases h1 : ps.length = N + C + 1
  · rw [if_pos h1] at h ⊢
    by_cases h2 : (ps.take N).all Pc.tx = true
    · rw [if_pos h2] at h ⊢
      by_cases h3 : ((ps.drop N).take C).all wok = true
      · rw [if_pos h3] at h ⊢
        by_cases h4 : Pc.lb (ps.getD (N + C) ⟨#[]⟩) = true
        · rw [if_pos h4]
          have hlb := h4
          unfold Pc.lb at hlb
          rw [Bool.and_eq_true] at hlb
          have hv := fb_val hlb.1
          have en : nparts ((ps.take N).map Pc.val) = ps.take N := by
            unfold nparts
            rw [List.map_map]
            conv => rhs; rw [← List.map_id (ps.take N)]
            exact List.map_congr_left (fun x hx => (fb_val (List.all_eq_true.1 h2 x hx)).2)
          refine ⟨rok_all hs (by simp; omega) (by simp; omega) ?_ h3 hlb.2, ?_⟩
          · unfold nok
            rw [List.all_eq_true]
            intro x hx
            obtain ⟨p, hp, rfl⟩ := List.mem_map.1 hx
            exact (fb_val (List.all_eq_true.1 h2 p hp)).1
          · show nparts ((ps.take N).map Pc.val) ++ (ps.drop N).take C ++ [fb (Pc.val (ps.getD (N + C) ⟨#[]⟩))] = ps
            rw [en, hv.2]
            have hlt : N + C < ps.length := by omega
            have eg : ps.getD (N + C) ⟨#[]⟩ = ps[N + C] := by rw [List.getD_eq_getElem?_getD, List.getElem?_eq_getElem hlt]; rfl
            rw [eg]
            have e5 : ps.take N ++ (ps.drop N).take C = ps.take (N + C) := by rw [List.take_add]
            rw [e5, ← List.take_succ_eq_append_getElem hlt, List.take_of_length_le (by omega)]
        · rw [if_neg h4] at h; exact absurd h (by decide)
      · rw [if_neg h3] at h; exact absurd h (by decide)
    · rw [if_neg h2] at h; exact absurd h (by decide)
  · rw [if_neg h1] at h; exact absurd h (by decide)
/-! ### The rows -/
theorem lmore (N C k : Nat) (l : List UInt8) (ls : List (List UInt8)) (h : ls ≠ []) : Pc.lread N C k (l :: ls) = if (Pc.rread N C (Pc.pcs 44 l)).1 = 0 then if 40 ≤ k then ((k : Int) + 1, 7, []) else Pc.more [(Pc.rread N C (Pc.pcs 44 l)).2] (Pc.lread N C (k + 1) ls) else ((k : Int) + 1, (Pc.rread N C (Pc.pcs 44 l)).1, []) := by
  cases ls with
  | nil => exact absurd rfl h
  | cons q qs => rfl
theorem lread_rows (N C : Nat) : ∀ (rs : List Row) (k : Nat), (∀ r ∈ rs, rok N C r = true) → k + rs.length ≤ 40 → Pc.lread N C k (rs.map line ++ [[]]) = (0, 0, rs)
  | [], k, _, _ => rfl
  | r :: rs, k, h, hk => by
    simp only [List.length_cons] at hk
    have hr := h r (by simp)
    have ih := lread_rows N C rs (k + 1) (fun r' h' => h r' (by simp [h'])) (by omega)
    rw [List.map_cons, List.cons_append, lmore N C k _ _ (by simp), line_pieces hr, rread_row hr, if_pos rfl, if_neg (by omega), ih]
    unfold Pc.more
    rw [if_pos rfl]; rfl
theorem ttext_lines (rs : List Row) : ttext rs = ((rs.map line).map (· ++ [10])).flatten ++ [] := by
  unfold ttext
  rw [List.append_nil, List.map_map]
  rfl
theorem pieces_text {n c : Int} {rs : List Row} (h : ∀ r ∈ rs, rok n c r = true) : Pc.pieces 10 (ttext rs) = rs.map line ++ [[]] := by
  rw [ttext_lines]
  refine pieces_flat 10 [] (by simp) _ (fun p hp => ?_)
  obtain ⟨r, hr, rfl⟩ := List.mem_map.1 hp
  exact line_cl (h r hr)
/-- A table that is right is read from its text as it was. -/
theorem tread_text {n c : Int} {rs : List Row} (h : tok n c rs = true) (hl : (ttext rs).length ≤ 6000) : Pc.tread n c (ttext rs) = (0, 0, rs) := by
  obtain ⟨hs, h40, hall⟩ := tok_iff.1 h
  have hnc := sok_iff.1 hs
  obtain ⟨N, rfl⟩ : ∃ N : Nat, n = (N : Int) := ⟨n.toNat, by omega⟩
  obtain ⟨C, rfl⟩ : ∃ C : Nat, c = (C : Int) := ⟨c.toNat, by omega⟩
  have hr : ∀ r ∈ rs, rok N C r = true := List.all_eq_true.1 hall
  unfold Pc.tread
  rw [if_pos hs, if_pos hl, pieces_text hr]
  exact lread_rows N C rs 0 hr (by omega)
theorem tread_long {n c : Int} {t : List UInt8} (h : sok n c = true) (hl : ¬ t.length ≤ 6000) : Pc.tread n c t = (0, 1, []) := by
  unfold Pc.tread
  rw [if_pos h, if_neg hl]
theorem lread_back (N C : Nat) (hs : sok N C = true) : ∀ (ls : List (List UInt8)) (k : Nat), ls ≠ [] → (Pc.lread N C k ls).2.1 = 0 → ∃ rs, Pc.lread N C k ls = (0, 0, rs) ∧ (∀ r ∈ rs, rok N C r = true) ∧ (rs.length + k ≤ 40 ∨ rs = []) ∧ (∃ lr, ls = lr ++ [[]] ∧ lr.map (Pc.pcs 44) = rs.map rparts)
  | [], k, h, _ => absurd rfl h
  | [l], k, _, h0 => by
    unfold Pc.lread at h0 ⊢
    by_cases he : l = []
    · rw [if_pos he]; exact ⟨[], rfl, by simp, .inr rfl, [], by rw [he]; rfl, rfl⟩
    · rw [if_neg he] at h0; exact absurd (show (2 : Int) = 0 from h0) (by decide)
  | l :: l2 :: ls, k, _, h0 => by
    rw [lmore N C k l (l2 :: ls) (by simp)] at h0 ⊢
    by_cases hr : (Pc.rread N C (Pc.pcs 44 l)).1 = 0
    · rw [if_pos hr] at h0 ⊢
      by_cases hk : 40 ≤ k
      · rw [if_pos hk] at h0; exact absurd (show (7 : Int) = 0 from h0) (by decide)
      · rw [if_neg hk] at h0 ⊢
        have hb := rread_back hs hr
        have h0' : (Pc.lread N C (k + 1) (l2 :: ls)).2.1 = 0 := by
          unfold Pc.more at h0
          split at h0
          · assumption
          · exact h0
        obtain ⟨rs, e, h1, h2, lr, h3, h4⟩ := lread_back N C hs (l2 :: ls) (k + 1) (by simp) h0'
        refine ⟨(Pc.rread N C (Pc.pcs 44 l)).2 :: rs, ?_, ?_, .inl ?_, l :: lr, by rw [h3]; rfl, ?_⟩
        · rw [e]; unfold Pc.more; rw [if_pos rfl]; rfl
        · intro r hr'
          rcases List.mem_cons.1 hr' with rfl | hr'
          · exact hb.1
          · exact h1 r hr'
        · rcases h2 with h2 | h2
          · simp only [List.length_cons]; omega
          · rw [h2]; simp only [List.length_cons, List.length_nil]; omega
        · rw [List.map_cons, List.map_cons, h4, hb.2]
    · rw [if_neg hr] at h0
      exact absurd h0 hr
theorem line_of {l : List UInt8} {r : Row} (h : Pc.pcs 44 l = rparts r) : line r = l := by
  obtain ⟨ps, q, h1, h2⟩ := pieces_back 44 l
  unfold line
  rw [← h]
  unfold Pc.pcs
  rw [List.map_map, h1]
  have e : ((fun x : ByteArray => x.data.toList) ∘ Pc.ba) = id := funext fun x => Pc.ba_data x
  rw [e, List.map_id, join_snoc]
  exact h2.symm
theorem lines_of : ∀ {lr : List (List UInt8)} {rs : List Row}, lr.map (Pc.pcs 44) = rs.map rparts → rs.map line = lr
  | [], [], _ => rfl
  | [], _ :: _, h => by simp at h
  | _ :: _, [], h => by simp at h
  | l :: lr, r :: rs, h => by
    simp only [List.map_cons, List.cons.injEq] at h ⊢
    exact ⟨line_of h.1, lines_of h.2⟩
/-- What is read is right, and has just this text. -/
theorem tread_back {n c : Int} {t : List UInt8} (h : (Pc.tread n c t).2.1 = 0) : tok n c (Pc.tread n c t).2.2 = true ∧ ttext (Pc.tread n c t).2.2 = t ∧ (Pc.tread n c t).1 = 0 := by
  unfold Pc.tread at h ⊢
  by_cases hs : sok n c = true
  · rw [if_pos hs] at h ⊢
    by_cases hl : t.length ≤ 6000
    · rw [if_pos hl] at h ⊢
      have hnc := sok_iff.1 hs
      obtain ⟨N, rfl⟩ : ∃ N : Nat, n = (N : Int) := ⟨n.toNat, by omega⟩
      obtain ⟨C, rfl⟩ : ∃ C : Nat, c = (C : Int) := ⟨c.toNat, by omega⟩
      obtain ⟨rs, e, h1, h2, lr, h3, h4⟩ := lread_back N C hs (Pc.pieces 10 t) 0 (Pc.pieces_ne _ _) h
      simp only [Int.toNat_natCast] at h ⊢
      rw [e]
      refine ⟨tok_all hs ?_ (List.all_eq_true.2 h1), ?_, rfl⟩
      · show rs.length ≤ 40
        rcases h2 with h2 | h2
        · omega
        · rw [h2]; simp
      · show ttext rs = t
        obtain ⟨ps, q, g1, g2⟩ := pieces_back 10 t
        rw [h3] at g1
        obtain ⟨e1, e2⟩ := List.append_inj' g1 rfl
        rw [ttext_lines, lines_of h4, e1, g2]
        simp at e2
        rw [← e2]
    · rw [if_neg hl] at h; exact absurd h (by decide)
  · rw [if_neg hs] at h; exact absurd h (by decide)
end Go.Proofs.YtajfldjhbgilmaaGreatDoor.Rt
