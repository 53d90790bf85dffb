/-
  FixRead of the program and of the model: both find the number of which the text is the text, or say that there is none; they make new blocks alone.
-/
import Derived.Test.YtajfldjhbgilmaaGreatDoorTxt
import Derived.Test.YtajfldjhbgilmaaGreatDoorMath
import Derived.Stop.LaidErr
import Derived.Lib.LaidTab
namespace Go.Proofs.YtajfldjhbgilmaaGreatDoor.Re
set_option maxRecDepth 100000
open Go.RowKit

theorem fpos_eq (x : Int) (h : 0 ≤ x) : Tx.fpos x = Ma.pos x.toNat := by
  unfold Tx.fpos Ma.pos Lib.itoa
  rw [if_neg (by omega), if_neg (by omega), show (x / 1000).toNat = x.toNat / 1000 by omega, show (1000 + x % 1000).toNat = 1000 + x.toNat % 1000 by omega]

theorem take_snoc (s : ByteArray) (k : Nat) (h : k < s.size) : s.data.toList.take (k + 1) = s.data.toList.take k ++ [s[k]] := by
  rw [List.take_succ_eq_append_getElem (by simpa using h)]; rfl
theorem scan_snoc (l : List UInt8) (c : UInt8) : Ma.scan (l ++ [c]) = Ma.step (Ma.scan l) c := by unfold Ma.scan; rw [List.foldl_append]; rfl
theorem scan_bd : ∀ (k : Nat) (l : List UInt8), l.length ≤ k → Ma.scan l < 10 ^ k := by
  intro k l h
  have : ∀ (l : List UInt8) (n m : Nat), n < 10 ^ m → l.foldl Ma.step n < 10 ^ (m + l.length) := by
    intro l
    induction l with
    | nil => intro n m h; simpa using h
    | cons c l ih =>
      intro n m h
      rw [List.foldl_cons, List.length_cons]
      have := ih (Ma.step n c) (m + 1) (by
        unfold Ma.step
        rw [Nat.pow_succ]
        split <;> omega)
      rwa [show m + (l.length + 1) = m + 1 + l.length by omega]
  have h1 := this l 0 0 (by simp)
  have h2 : 10 ^ (0 + l.length) ≤ 10 ^ k := Nat.pow_le_pow_right (by omega) (by omega)
  exact Nat.lt_of_lt_of_le h1 h2

theorem blist (s : ByteArray) : s.toList = s.data.toList := Lib.toList_data s
theorem btw_dig (c : UInt8) : Tx.btw (wrap64 (c.toNat : Int)) 48 57 = decide (48 ≤ c.toNat ∧ c.toNat ≤ 57) := by
  have : c.toNat < 256 := c.toNat_lt
  have e : wrap64 (c.toNat : Int) = (c.toNat : Int) := by unfold wrap64; omega
  unfold Tx.btw
  rw [e]
  congr 1
  apply propext
  omega

/-- What the scan hands on: the digits' number, below 0 behind a minus. -/
def guess (l : List UInt8) : Int := if l.head? = some 45 then -(Ma.scan l : Int) else (Ma.scan l : Int)

set_option maxHeartbeats 1000000 in
theorem sread_walk (s : ByteArray) (w : World) (hl : s.size ≤ 16) (hne : 0 < s.size) (b : Bool) (hb : (Tx.ftext (guess s.data.toList) == s.data.toList) = b) :
    Calls Tryz.prog 20 #[.string s] w fun e w' => e = .returned (.tuple #[.int .i64 (if b then guess s.data.toList else 0), .bool b]) ∧ Below w.heap.size w w' := by
  have HB : Hid ((Tx.ftext (guess s.data.toList) == s.data.toList) = b) := hb
  clear hb
  go_enter Tryz.func20, Tryz.ntmps20
  go_wp2
  go_loop [4, 5] (fun n i => ∃ k : Nat, k ≤ s.size ∧ i = .int .i64 k ∧ n = .int .i64 (Ma.scan (s.data.toList.take k) : Int)) (fun _ i => s.size - (intOf i).toNat)
  case atStart => exact ⟨0, Nat.zero_le _, rfl, rfl⟩
  case round =>
    obtain ⟨k, hk, rfl, rfl⟩ := hrel
    have hbd := scan_bd 16 (s.data.toList.take k) (by have := List.length_take_le k s.data.toList; omega)
    by_cases hlt : k < s.size
    · have HS : Hid (Ma.scan (s.data.toList.take (k + 1)) = Ma.step (Ma.scan (s.data.toList.take k)) s[k]) := by rw [take_snoc s k hlt]; exact scan_snoc _ _
      have hbt := btw_dig s[k]
      go_wp2_with (go_at_call 38; refine (Tx.between_any _ _ _ _).mono ?_; rintro e w' ⟨rfl, hw⟩; subst w')
      all_goals
        go_round
        case rel =>
          refine ⟨k + 1, by omega, by go_num, ?_⟩
          rw [HS.out]
          unfold Ma.step
          first | rw [if_pos ‹_›] | rw [if_neg (by omega)]
          all_goals go_num
        case measure => simp [intOf]; omega
    · obtain rfl : k = s.size := by omega
      have ht : s.data.toList.take s.size = s.data.toList := List.take_of_length_le (by simp)
      rw [ht] at hbd
      obtain ⟨m, hm⟩ : ∃ m, Ma.scan s.data.toList = m := ⟨_, rfl⟩
      rw [hm] at hbd
      have hem : s.toList.isEmpty = false := by
        rw [blist, List.isEmpty_eq_false_iff]
        intro e
        have : s.data.toList.length = 0 := by rw [e]; rfl
        have : s.size = 0 := by simpa using this
        omega
      have hd : s.data.toList.head? = some s[0] := by
        rw [List.head?_eq_getElem?, List.getElem?_eq_getElem (by simpa using hne)]; rfl
      by_cases h0 : s[0].toNat = 45
      · have HG : Hid (guess s.data.toList = -(m : Int)) := by
          show guess _ = _
          unfold guess
          rw [hd, if_pos (by rw [show s[0] = 45 from UInt8.toNat_inj.1 h0]), hm]
        have hb : (Tx.ftext (-(m : Int)) == s.toList) = b := by rw [blist, ← HG.out]; exact HB.out
        clear hd
        cases b
        · go_wp2_with fail
          refine (Tx.stext _ _).mono ?_
          rintro e w1 ⟨rfl, hB1⟩
          go_wp2
          go_ret2
          exact ⟨rfl, hB1⟩
        · go_wp2_with fail
          refine (Tx.stext _ _).mono ?_
          rintro e w1 ⟨rfl, hB1⟩
          go_wp2
          go_ret2
          exact ⟨by rw [HG.out]; rfl, hB1⟩
      · have HG : Hid (guess s.data.toList = (m : Int)) := by
          show guess _ = _
          unfold guess
          rw [hd, if_neg (by intro e; apply h0; rw [Option.some.inj e]; rfl), hm]
        have hb : (Tx.ftext (m : Int) == s.toList) = b := by rw [blist, ← HG.out]; exact HB.out
        have h0' : ((s[0].toNat : Int) == 45) = false := by simp; omega
        clear hd
        cases b
        · go_wp2_with fail
          refine (Tx.stext _ _).mono ?_
          rintro e w1 ⟨rfl, hB1⟩
          go_wp2
          go_ret2
          exact ⟨rfl, hB1⟩
        · go_wp2_with fail
          refine (Tx.stext _ _).mono ?_
          rintro e w1 ⟨rfl, hB1⟩
          go_wp2
          go_ret2
          exact ⟨by rw [HG.out]; rfl, hB1⟩

set_option maxHeartbeats 1000000 in
theorem sread_long (s : ByteArray) (w : World) (hl : 16 < s.size) (hm : s.size ≤ 1048576) :
    Calls Tryz.prog 20 #[.string s] w fun e w' => e = .returned (.tuple #[.int .i64 0, .bool false]) ∧ w' = w := by
  go_enter Tryz.func20, Tryz.ntmps20
  go_wp2
  go_ret2
  exact ⟨rfl, rfl⟩

set_option maxHeartbeats 1000000 in
theorem sread_nil (w : World) :
    Calls Tryz.prog 20 #[.string ⟨#[]⟩] w fun e w' => e = .returned (.tuple #[.int .i64 0, .bool false]) ∧ w' = w := by
  go_enter Tryz.func20, Tryz.ntmps20
  go_wp2
  go_loop [4, 5] (fun n i => n = .int .i64 0 ∧ i = .int .i64 0) (fun _ _ => 0)
  case atStart => exact ⟨rfl, rfl⟩
  case round =>
    obtain ⟨rfl, rfl⟩ := hrel
    go_wp2
    go_ret2
    exact ⟨rfl, rfl⟩

/-! ### What the two have in common -/
theorem ftext_neg {x : Int} (hf : Tx.fok x = true) (h : x < 0) : Tx.ftext x = 45 :: Ma.pos (-x).toNat := by
  unfold Tx.ftext; rw [if_pos hf, if_pos h, fpos_eq _ (by omega)]
theorem ftext_pos {x : Int} (hf : Tx.fok x = true) (h : 0 ≤ x) : Tx.ftext x = Ma.pos x.toNat := by
  unfold Tx.ftext; rw [if_pos hf, if_neg (by omega), fpos_eq _ h]
theorem ftext_no {x : Int} (hf : ¬ Tx.fok x = true) : Tx.ftext x = [] := by
  unfold Tx.ftext; rw [if_neg hf]
theorem pos_head (y : Nat) : (Ma.pos y).head? ≠ some 45 := by
  unfold Ma.pos
  cases h : Lib.decDigits (y / 1000) with
  | nil => exact absurd h (Ma.dec_ne _)
  | cons c r =>
    have hc : Ma.isDig c := Ma.dec_all (y / 1000) c (by rw [h]; simp)
    intro e
    simp at e
    subst e
    unfold Ma.isDig at hc
    revert hc; decide
theorem pos_ne (y : Nat) : Ma.pos y ≠ [] := by unfold Ma.pos; simp
theorem guess_of {x : Int} (hf : Tx.fok x = true) : guess (Tx.ftext x) = x := by
  unfold guess
  by_cases h : x < 0
  · rw [ftext_neg hf h, if_pos (by simp)]
    unfold Ma.scan
    rw [Ma.neg_scan]; omega
  · rw [ftext_pos hf (by omega), if_neg (pos_head _)]
    unfold Ma.scan
    rw [Ma.pos_scan]; omega
theorem ftext_len {x : Int} (hf : Tx.fok x = true) : 0 < (Tx.ftext x).length ∧ (Tx.ftext x).length ≤ 12 := by
  have hb := Tx.fok_iff hf
  by_cases h : x < 0
  · rw [ftext_neg hf h]
    have := Ma.pos_len (-x).toNat (by omega)
    simp; omega
  · rw [ftext_pos hf (by omega)]
    have := Ma.pos_len x.toNat (by omega)
    have hp := List.length_pos_iff.2 (pos_ne x.toNat)
    omega
theorem atoi_of {x : Int} (hf : Tx.fok x = true) : Lib.atoiAll (Lib.replace (Tx.ftext x) [46] [] 1) = .ok x := by
  have hb := Tx.fok_iff hf
  by_cases h : x < 0
  · rw [ftext_neg hf h, Ma.strike_neg, Ma.atoi_neg _ (by omega)]
    congr 1; omega
  · rw [ftext_pos hf (by omega), Ma.strike_pos, Ma.atoi_pos _ (by omega)]
    congr 1; omega
/-- Is there a number of which this is the text? -/
def Text (l : List UInt8) : Prop := ∃ x, Tx.fok x = true ∧ Tx.ftext x = l
theorem text_guess {l : List UInt8} (h : Text l) : Tx.fok (guess l) = true ∧ Tx.ftext (guess l) = l := by
  obtain ⟨x, hf, rfl⟩ := h
  rw [guess_of hf]
  exact ⟨hf, rfl⟩

theorem sread (s : ByteArray) (w : World) (hm : s.size ≤ 1048576) :
    Calls Tryz.prog 20 #[.string s] w fun e w' => ((Text s.data.toList ∧ e = .returned (.tuple #[.int .i64 (guess s.data.toList), .bool true])) ∨ (¬ Text s.data.toList ∧ e = .returned (.tuple #[.int .i64 0, .bool false]))) ∧ Below w.heap.size w w' := by
  have hsz : s.data.toList.length = s.size := by simp
  by_cases hl : 16 < s.size
  · refine (sread_long s w hl hm).mono ?_
    rintro e w' ⟨rfl, rfl⟩
    refine ⟨.inr ⟨?_, rfl⟩, Below.refl _ _⟩
    rintro ⟨x, hf, hx⟩
    have := ftext_len hf
    rw [hx] at this
    omega
  · by_cases h0 : s.size = 0
    · have hs : s = ⟨#[]⟩ := by
        apply Tx.ba_ext
        exact List.length_eq_zero_iff.1 (by omega)
      subst hs
      refine (sread_nil w).mono ?_
      rintro e w' ⟨rfl, rfl⟩
      refine ⟨.inr ⟨?_, rfl⟩, Below.refl _ _⟩
      rintro ⟨x, hf, hx⟩
      have := ftext_len hf
      rw [hx] at this
      simp at this
    · refine (sread_walk s w (by omega) (by omega) _ rfl).mono ?_
      rintro e w' ⟨rfl, hB⟩
      refine ⟨?_, hB⟩
      by_cases ht : Text s.data.toList
      · refine .inl ⟨ht, ?_⟩
        rw [(text_guess ht).2]
        simp
      · refine .inr ⟨ht, ?_⟩
        have : (Tx.ftext (guess s.data.toList) == s.data.toList) = false := by
          rw [beq_eq_false_iff_ne]
          intro e
          by_cases hf : Tx.fok (guess s.data.toList) = true
          · exact ht ⟨_, hf, e⟩
          · rw [ftext_no hf] at e
            rw [← e] at hsz
            simp at hsz
            omega
        rw [this]
        rfl

/-! ### The program's FixRead -/
/-- What the walk asks of the library's variables. -/
def Vars (w : World) : Prop := Nu.Tab w ∧ (∃ m, w.cell? ⟨1, 0, none⟩ = some (.int .i64 m)) ∧ (∃ tp p, w.var? Tryz.prog "strconv.ErrSyntax" = some #[.iface tp p]) ∧ (∃ tp p, w.var? Tryz.prog "strconv.ErrRange" = some #[.iface tp p])
theorem var_lt {n : String} {g : Nat} {v : Value} {w : World} (hg : Tryz.prog.globalNamed n = some g) (hv : w.var? Tryz.prog n = some #[v]) : g < w.heap.size :=
  World.block_lt_of_cell? w ⟨g, 0, none⟩ (u := v) (by have := World.var?_cell hg hv 0; simpa using this)
theorem gES : Tryz.prog.globalNamed "strconv.ErrSyntax" = some 2 := by kernel_rfl
theorem gER : Tryz.prog.globalNamed "strconv.ErrRange" = some 3 := by kernel_rfl
theorem tES : (Tryz.prog.globals[(2 : Nat)]?).map (·.type) = some 44 := by kernel_rfl
theorem tER : (Tryz.prog.globals[(3 : Nat)]?).map (·.type) = some 44 := by kernel_rfl
theorem Vars.below {w w' : World} (h : Vars w) (hb : Below w.heap.size w w') : Vars w' := by
  obtain ⟨h1, ⟨m, hm⟩, ⟨t2, p2, h2⟩, ⟨t3, p3, h3⟩⟩ := h
  refine ⟨h1.below hb, ⟨m, ?_⟩, ⟨t2, p2, var?_below hb gES (var_lt gES h2) h2⟩, ⟨t3, p3, var?_below hb gER (var_lt gER h3) h3⟩⟩
  rw [hb.cell (p := ⟨1, 0, none⟩) (World.block_lt_of_cell? w _ hm)]
  exact hm

/-- What Atoi does at what is left: it finds the number, or it tells an error. -/
theorem atoi_any (t : ByteArray) (w : World) (ht : t.size ≤ 281474976710656) (hV : Vars w) :
    Calls Tryz.prog 76 #[.string t] w fun e w' => ((∃ v, Lib.atoiAll t.data.toList = .ok v ∧ e = .returned (.tuple #[.int .i64 v, .nilIface])) ∨ ((∀ v, Lib.atoiAll t.data.toList ≠ .ok v) ∧ ∃ (v : Int) (N : Nat), e = .returned (.tuple #[.int .i64 v, .iface 133 (.pointer (some ⟨N, 0, none⟩))]))) ∧ Below w.heap.size w w' := by
  obtain ⟨_, _, ⟨t2, p2, h2⟩, ⟨t3, p3, h3⟩⟩ := hV
  have hs : ∀ h, Calls Tryz.prog 76 #[.string t] w fun e w' => ∃ N, e = .returned (.tuple #[.int .i64 0, .iface 133 (.pointer (some ⟨N, 0, none⟩))]) ∧ w.heap.size ≤ N ∧ w'.heap[N]? = some (.cells #[.string ⟨#[65, 116, 111, 105]⟩, .string t, .iface t2 p2] 148 (0, 0)) ∧ Below w.heap.size w w' :=
    fun h => Any.strconv_Atoi_syntax_var Tryz.laysC172 t ht h t2 p2 w h2
  cases h : Lib.atoiAll t.data.toList
  · rename_i v
    refine (Tryz.strconv_Atoi_ok t (by omega) v h w).mono ?_
    rintro e w' ⟨rfl, hw⟩
    refine ⟨.inl ⟨v, rfl, rfl⟩, ?_⟩
    rcases hw with rfl | ⟨u, rfl⟩
    · exact Below.refl _ _
    · exact Lib.bytesWorld_below _ _ _
  · refine (hs h).mono ?_
    rintro e w' ⟨N, rfl, _, _, hB⟩
    exact ⟨.inr ⟨(fun v e => by cases e), _, N, rfl⟩, hB⟩
  · refine (Tryz.strconv_Atoi_range_var t ht h t3 p3 w h3).mono ?_
    rintro e w' ⟨N, rfl, _, _, hB⟩
    exact ⟨.inr ⟨(fun v e => by cases e), _, N, rfl⟩, hB⟩

set_option maxHeartbeats 1000000 in
theorem iread (s : ByteArray) (w : World) (hs : s.size ≤ 1048576) (hV : Vars w) :
    Calls Tryz.prog 70 #[.string s] w fun e w' => ((Text s.data.toList ∧ e = .returned (.tuple #[.int .i64 (guess s.data.toList), .bool true])) ∨ (¬ Text s.data.toList ∧ e = .returned (.tuple #[.int .i64 0, .bool false]))) ∧ Below w.heap.size w w' := by
  obtain ⟨m, hm⟩ := hV.2.1
  go_enter Tryz.func70, Tryz.ntmps70
  go_wp2_with fail
  refine (Tryz.strings_Replace s ⟨#[46]⟩ ⟨#[]⟩ 1 m w (by omega) hm (by decide) (by rw [show (ByteArray.mk #[]).size = 0 from rfl]; omega)).mono ?_
  rintro e w1 ⟨rfl, hB1⟩
  have hV1 := hV.below hB1
  have HL : Hid ((Lib.replace s.data.toList [46] [] 1).length ≤ 1048577) := by
    have := Ma.replace_len s.data.toList
    have hz : s.data.toList.length = s.size := by simp
    show _ ≤ _
    omega
  clear hm hV
  go_wp2_with fail
  refine (atoi_any ⟨(Lib.replace s.data.toList [46] [] 1).toArray⟩ _ (by have := HL.out; rw [show (ByteArray.mk (Lib.replace s.data.toList [46] [] 1).toArray).size = (Lib.replace s.data.toList [46] [] 1).length by simp [ByteArray.size]]; omega) hV1).mono ?_
  rintro e w2 ⟨he, hB2⟩
  have hV2 := hV1.below hB2
  rw [show (ByteArray.mk (Lib.replace s.data.toList [46] [] 1).toArray).data.toList = Lib.replace s.data.toList [46] [] 1 by simp] at he
  rcases he with ⟨v, hv, rfl⟩ | ⟨hno, v, N, rfl⟩
  · have HV := Nu.hide hv
    clear hv
    by_cases hx : (Tx.ftext v == s.toList) = true
    · go_wp2_with fail
      refine (Tx.itext _ _ hV2.1).mono ?_
      rintro e w3 ⟨rfl, hB3⟩
      go_wp2
      go_ret2
      have hft : Tx.ftext v = s.data.toList := by rw [← blist]; exact beq_iff_eq.1 hx
      have hf : Tx.fok v = true := by
        refine Classical.byContradiction fun hf => ?_
        have h0 := HV.out
        rw [← hft, ftext_no hf, Ma.strike_nil] at h0
        cases h0
      have hg : guess s.data.toList = v := by rw [← hft]; exact guess_of hf
      exact ⟨.inl ⟨⟨v, hf, hft⟩, by rw [hg]; rfl⟩, hB1.trans ((hB2.trans (hB3.mono hB2.size)).mono hB1.size)⟩
    · have hx' : (Tx.ftext v == s.toList) = false := by simpa using hx
      go_wp2_with fail
      refine (Tx.itext _ _ hV2.1).mono ?_
      rintro e w3 ⟨rfl, hB3⟩
      go_wp2
      go_ret2
      refine ⟨.inr ⟨?_, rfl⟩, hB1.trans ((hB2.trans (hB3.mono hB2.size)).mono hB1.size)⟩
      rintro ⟨x, hf, hxs⟩
      have h0 := HV.out
      rw [← hxs, atoi_of hf] at h0
      injection h0 with h0
      subst h0
      rw [blist, hxs] at hx'
      simp at hx'
  · have HV := Nu.hide hno
    clear hno
    go_wp2
    go_ret2
    refine ⟨.inr ⟨?_, rfl⟩, hB1.trans (hB2.mono hB1.size)⟩
    rintro ⟨x, hf, hxs⟩
    have h0 := HV.out x
    rw [← hxs, atoi_of hf] at h0
    exact h0 rfl
end Go.Proofs.YtajfldjhbgilmaaGreatDoor.Re
