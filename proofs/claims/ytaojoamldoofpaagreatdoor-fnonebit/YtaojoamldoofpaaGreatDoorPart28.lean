/-
  Contracts that the proof leans on, put together in the order in which they build.
-/
import Derived.Test.YtaojoamldoofpaaGreatDoorPart27
import Derived.WalkMore
import Derived.Test.YtaojoamldoofpaaGreatDoorPart12
import Derived.Shelf.Strings.BuilderK
import Derived.Shelf.Strings.Builder1
import Derived.WalkKit
import Derived.Below
import Derived.Test.YtaojoamldoofpaaGreatDoorPart25
import Derived.Test.YtaojoamldoofpaaGreatDoorPart10
import Derived.Deep.Cut
/-
  The program's reader of a model: line by line; how large the guess may grow.
-/
namespace Go.Proofs.YtaojoamldoofpaaGreatDoor.Rm
set_option maxRecDepth 100000
open Go.RowKit
open Go.Proofs.YtaojoamldoofpaaGreatDoor.Md (M OwM)
open Go.Proofs.YtaojoamldoofpaaGreatDoor.Kt (Kv OwK ksz)
open Go.Proofs.YtaojoamldoofpaaGreatDoor.To (OwT)
open Go.Proofs.YtaojoamldoofpaaGreatDoor.Tm (szT szt)
open Go.Proofs.YtaojoamldoofpaaGreatDoor.Tb (lets)
open Go.Proofs.YtaojoamldoofpaaGreatDoor.Sv (Fr fr_below fr_grown Wr)
set_option linter.unusedVariables false
theorem cut_len (l : List UInt8) (c : UInt8) : (Lib.cut l [c]).1.length + (Lib.cut l [c]).2.1.length ≤ l.length := by
  rcases Pc.first_cut c l with h | ⟨a, r, rfl, h⟩
  · rw [Pc.cut_no c l h]; simp
  · rw [Pc.cut_at c a r h]; simp
theorem ksz_app : ∀ (ks : List Kv) (t : Kv), ksz (ks ++ [t]) = ksz ks + (t.ws.length + lets t.ws + t.vs.length)
  | [], t => by simp [ksz]
  | k :: ks, t => by simp only [List.cons_append, ksz, ksz_app ks t]; omega
theorem szT_app : ∀ (ts : List Tr.T) (t : Tr.T), szT (ts ++ [t]) = szT ts + szt t
  | [], t => by simp [szT]
  | k :: ks, t => by simp only [List.cons_append, szT, szT_app ks t]; omega
theorem lets_app : ∀ (ws : List ByteArray) (s : ByteArray), lets (ws ++ [s]) = lets ws + s.size
  | [], s => by simp [lets]
  | x :: ws, s => by simp only [List.cons_append, lets, lets_app ws s]; omega
theorem ksz_set : ∀ (ks : List Kv) (q : Nat) (s : ByteArray) (v : Int), ksz (ks.set q ⟨(ks.getD q ⟨[], []⟩).ws ++ [s], (ks.getD q ⟨[], []⟩).vs ++ [v]⟩) ≤ ksz ks + s.size + 2
  | [], q, s, v => by simp [ksz]
  | k :: ks, 0, s, v => by
    simp only [List.set_cons_zero, ksz, List.getD_cons_zero, List.length_append, lets_app, List.length_singleton]
    omega
  | k :: ks, q + 1, s, v => by
    have := ksz_set ks q s v
    simp only [List.set_cons_succ, ksz, List.getD_cons_succ]
    omega
def Ok (st : St) (n : Nat) : Prop := st.m.sz ≤ n ∧ (0 < st.left → 0 < st.m.ks.length)
theorem ok_line {st st' : St} {l : List UInt8} {n : Nat} (h : Ok st n) (e : dLine st l = some st') : Ok st' (n + l.length + 3) := by
  obtain ⟨h1, h2⟩ := h
  have hc := cut_len l 32
  unfold dLine at e
  by_cases hl : 0 < st.left
  · rw [if_pos hl] at e
    unfold dWord at e
    cases hn : num (first l) with
    | none => rw [hn] at e; cases e
    | some v =>
      rw [hn] at e
      injection e with e
      subst e
      have := ksz_set st.m.ks (st.m.ks.length - 1) ⟨(rest l).toArray⟩ v
      have hr : (ByteArray.mk (rest l).toArray).size = (rest l).length := by simp [ByteArray.size]
      rw [hr] at this
      unfold rest at this hr
      refine ⟨?_, fun _ => ?_⟩
      · unfold M.sz at h1 ⊢
        simp only [addW, List.length_set]
        unfold rest
        omega
      · simp only [addW, List.length_set]
        exact h2 hl
  · rw [if_neg hl] at e
    by_cases hm : first l = wModel
    · rw [if_pos hm] at e
      unfold dHead at e
      split at e
      · injection e with e
        subst e
        exact ⟨by unfold M.sz at h1 ⊢; show _ ≤ _; simp only; omega, fun hx => absurd hx hl⟩
      · cases e
    · rw [if_neg hm] at e
      by_cases hk : first l = wCtr
      · rw [if_pos hk] at e
        unfold dCtr at e
        split at e
        · injection e with e
          subst e
          refine ⟨?_, fun _ => by simp⟩
          unfold M.sz at h1 ⊢
          simp only [ksz_app, List.length_append, List.length_singleton, List.length_nil, lets]
          omega
        · cases e
      · rw [if_neg hk] at e
        by_cases ht : first l = wTree
        · rw [if_pos ht] at e
          unfold dTree at e
          split at e
          · rename_i a b ha hb
            split at e
            · injection e with e
              subst e
              have h3 := inums_len ha
              have h4 := inums_len hb
              have h5 := cut_len (rest l) 58
              have h6 := pairs_len a
              unfold rest at h3 h4 h5
              refine ⟨?_, fun hx => absurd hx hl⟩
              unfold M.sz at h1 ⊢
              simp only [szT_app, List.length_append, List.length_singleton, szt]
              omega
            · cases e
          · cases e
        · rw [if_neg ht] at e; cases e
def tot (k : Nat) : List (List UInt8) → Nat
  | [] => 0
  | l :: ls => match k with
    | 0 => 0
    | k + 1 => l.length + 3 + tot k ls
theorem tot_succ : ∀ (ls : List (List UInt8)) (k : Nat) (h : k < ls.length), tot (k + 1) ls = tot k ls + ls[k].length + 3
  | l :: ls, 0, _ => by simp [tot]; cases ls <;> simp [tot]
  | l :: ls, k + 1, h => by
    have := tot_succ ls k (by simpa using h)
    rw [tot, this]
    simp only [tot, List.getElem_cons_succ]
    omega
theorem tot_le : ∀ (ls : List (List UInt8)) (k : Nat), tot k ls ≤ tot ls.length ls
  | [], k => by simp [tot]
  | l :: ls, 0 => by simp [tot]
  | l :: ls, k + 1 => by
    have := tot_le ls k
    simp only [tot, List.length_cons]
    omega
theorem pieces_tot (c : UInt8) : ∀ l : List UInt8, tot (Pc.pieces c l).length (Pc.pieces c l) ≤ 3 * l.length + 3 ∧ (Pc.pieces c l).length ≤ l.length + 1
  | [] => by simp [Pc.pieces, tot]
  | x :: l => by
    obtain ⟨h1, h2⟩ := pieces_tot c l
    have hne := Pc.pieces_ne c l
    unfold Pc.pieces
    split
    · simp only [List.length_cons, List.length_nil, tot]
      omega
    · cases hp : Pc.pieces c l with
      | nil => exact absurd hp hne
      | cons y ys =>
        rw [hp] at h1 h2
        simp only [List.length_cons, tot, List.headD_cons, List.tail_cons] at h1 h2 ⊢
        omega
theorem piece_len (c : UInt8) : ∀ (l : List UInt8), ∀ x ∈ Pc.pieces c l, x.length ≤ l.length
  | [], x, hx => by simp [Pc.pieces] at hx; subst hx; simp
  | y :: l, x, hx => by
    have ih := piece_len c l
    have hne := Pc.pieces_ne c l
    unfold Pc.pieces at hx
    split at hx
    · rcases List.mem_cons.1 hx with rfl | h
      · simp
      · have := ih x h; simp; omega
    · cases hp : Pc.pieces c l with
      | nil => exact absurd hp hne
      | cons z zs =>
        rw [hp] at hx ih
        simp only [List.headD_cons, List.tail_cons] at hx
        rcases List.mem_cons.1 hx with rfl | h
        · have := ih z (by simp); simp; omega
        · have := ih x (by simp [h]); simp; omega
theorem splitd (w : World) (s : ByteArray) (hs : s.size ≤ 1048576) (hV : Vs w) :
    Calls Tryz.prog 58 #[.string s, .string ⟨#[10]⟩] w fun e w' => ∃ cap, e = .returned (.slice (some ⟨w.heap.size, 0, none⟩) (Pc.pieces 10 s.data.toList).length cap) ∧ w.heap.size < w'.heap.size ∧ (∀ j (hj : j < (Pc.pieces 10 s.data.toList).length), w'.cell? ⟨w.heap.size, j, none⟩ = some (.string (Pc.ba ((Pc.pieces 10 s.data.toList)[j])))) ∧ Below w.heap.size w w' := by
  obtain ⟨m, hm⟩ := hV.2.1
  refine (Tryz.strings_Split s ⟨#[10]⟩ m w (by omega) hm (by decide)).mono ?_
  rintro e w' ⟨rfl, rfl⟩
  have hl : (Pc.pcs 10 s.data.toList).length = Lib.countB s ⟨#[10]⟩ + 1 := by
    rw [← Pc.splitB_pcs]; exact Lib.splitB_all ⟨#[10]⟩ (by decide) 0 _ s rfl
  have hl2 : (Pc.pieces 10 s.data.toList).length = Lib.countB s ⟨#[10]⟩ + 1 := by
    rw [← hl, Pc.pcs, List.length_map]
  rw [Pc.splitB_pcs]
  refine ⟨_, by rw [hl2], by simp, fun j hj => ?_, (Below.refl _ _).alloc (Nat.le_refl _) _⟩
  simp [World.cell?_alloc_new, Pc.pcs, hj]
theorem fx_bel {b lo : Nat} {w0 w w1 : World} (hf : Fr (Fx b lo) w w1) (hb : w0.heap.size ≤ b) (hl : w0.heap.size ≤ lo) (h : Below w0.heap.size w0 w) : Below w0.heap.size w0 w1 :=
  h.trans ⟨hf.os, hf.tape, hf.output, hf.size, fun k hk => hf.block k (by have := h.size; omega) (by unfold Fx; omega)⟩
theorem rd_some {st st' : St} {l : List UInt8} {ls : List (List UInt8)} (h : dLine st l = some st') (hs : 0 < st.left ∨ ¬ first l = wSum) : rd (l :: ls) st = rd ls st' := by
  rw [rd, h]
  by_cases h1 : 0 < st.left
  · rw [if_pos h1]
  · rw [if_neg h1, if_neg (hs.resolve_left h1)]
theorem rd_none {st : St} {l : List UInt8} {ls : List (List UInt8)} (h : dLine st l = none) (hs : 0 < st.left ∨ ¬ first l = wSum) : rd (l :: ls) st = none := by
  rw [rd, h]
  by_cases h1 : 0 < st.left
  · rw [if_pos h1]
  · rw [if_neg h1, if_neg (hs.resolve_left h1)]
theorem rd_sum {st : St} {l : List UInt8} {ls : List (List UInt8)} (h1 : ¬ 0 < st.left) (h2 : first l = wSum) : rd (l :: ls) st = some st := by
  rw [rd, if_neg h1, if_pos h2]
theorem ba_is {f : ByteArray} {l x : List UInt8} (h : f.data.toList = l) : f = ⟨x.toArray⟩ ↔ l = x := by
  subst h
  constructor
  · intro e; rw [e]
  · intro e; rw [← e]
theorem zero_sz : (⟨zero, 0⟩ : St).m.sz = 0 := rfl
set_option maxHeartbeats 8000000 in
theorem iread (w0 w : World) (b : Nat) (s : ByteArray) (hV : Vs w0) (hB0 : Below w0.heap.size w0 w) (hb0 : w0.heap.size ≤ b) (bx : Wr w b 0 (gcells ⟨zero, 0⟩ none 0 none 0)) (hs : s.size ≤ 30000) :
    Calls Tryz.prog 28 #[.pointer (some ⟨b, 0, none⟩), .string s] w fun e w' => ((∃ st lo ak ck ax ct, rdt s.data.toList ⟨zero, 0⟩ = some st ∧ e = .returned (.bool true) ∧ w.heap.size ≤ lo ∧ Gs w' b lo st ak ck ax ct ∧ st.m.sz ≤ 100000) ∨ (rdt s.data.toList ⟨zero, 0⟩ = none ∧ e = .returned (.bool false))) ∧ Fr (Fx b w.heap.size) w w' := by
  have HPT := pieces_tot 10 s.data.toList
  have hne := Pc.pieces_ne 10 s.data.toList
  have hsz : s.data.toList.length = s.size := by simp
  have HRT : Hid (rdt s.data.toList ⟨zero, 0⟩ = rd (Pc.pieces 10 s.data.toList) ⟨zero, 0⟩) := rfl
  have hpm : ∀ x ∈ Pc.pieces 10 s.data.toList, x.length ≤ 30000 := fun x hx => by
    obtain ⟨j, hj, rfl⟩ := List.getElem_of_mem hx
    have h1 := tot_succ (Pc.pieces 10 s.data.toList) j hj
    have h2 := tot_le (Pc.pieces 10 s.data.toList) (j + 1)
    have h3 := piece_len 10 s.data.toList _ (List.getElem_mem hj)
    omega
  go_enter Tryz.func28, Tryz.ntmps28
  go_wp2_with fail
  go_step3
  go_wp2_with fail
  go_step3
  go_wp2_with fail
  refine (splitd w s (by omega) (hV.below hB0)).mono ?_
  rintro e w1 ⟨cap, rfl, hxb, hxc, hB⟩
  generalize Pc.pieces 10 s.data.toList = L at HPT hxc HRT hpm hne ⊢
  obtain ⟨n, hn⟩ : ∃ n, L.length = n := ⟨_, rfl⟩
  rw [hn]
  obtain ⟨xb, hxe⟩ : ∃ xb, w.heap.size = xb := ⟨_, rfl⟩
  have HXN : Hid (w.heap.size = xb) := hxe
  rw [hxe] at hxb hxc ⊢
  obtain ⟨lo, hlo⟩ : ∃ lo, w1.heap.size = lo := ⟨_, rfl⟩
  have HG0 : Hid (Gs w1 b lo ⟨zero, 0⟩ none 0 none 0) := ⟨bx.below hB, ⟨fun _ => True, OwK.nil _ _, OwT.nil _ _⟩, by have := bx.1; have := hB.size; omega, by omega, by decide⟩
  have HXB : Hid (xb < w1.heap.size ∧ ∀ j (hj : j < L.length), w1.cell? ⟨xb, j, none⟩ = some (.string (Pc.ba (L[j]'hj)))) := ⟨hxb, hxc⟩
  have HNX : Hid (¬ xb = b) := fun e => by have h1 := bx.1; have h2 := HXN.out; omega
  have HFW : Hid (Fr (Fx b w.heap.size) w w1) := fx_below hB
  have HFX : Hid (∀ y, Fx b lo y → Fx b w.heap.size y) := fun y hy => by have := hB.size; unfold Fx at hy ⊢; omega
  have HLO : Hid (w.heap.size ≤ lo) := by have := hB.size; show _ ≤ _; omega
  have HB01 : Hid (Below w0.heap.size w0 w1) := hB0.trans (hB.mono hB0.size)
  have HL0 : Hid (w0.heap.size ≤ lo) := by have := HB01.out.size; show _ ≤ _; omega
  have HB0 : Hid (w0.heap.size ≤ b) := hb0
  have HL1 : Hid (w1.heap.size = lo) := hlo
  have HV : Hid (type_of% hV) := hV
  have HLN : Hid (L.length = n) := hn
  have HTO : Hid (∀ k, tot k L ≤ 3 * s.size + 3) := fun k => by have h1 := tot_le L k; have h2 := HPT.1; omega
  have HPM : Hid (type_of% hpm) := hpm
  have hn3 : n ≤ 30001 := by omega
  clear hxe hxb hxc hV hn hlo hb0 hB0 hB bx hne HPT hpm hsz
  go_wp2_with fail
  go_loopw [14] (fun i wr => ∃ (k : Nat) (st : St) (ak : Option Addr) (ck : Nat) (ax : Option Addr) (ct : Nat), k ≤ n ∧ i = .int .i64 k ∧ Gs wr b lo st ak ck ax ct ∧ rd L ⟨zero, 0⟩ = rd (L.drop k) st ∧ Ok st (tot k L) ∧ Fr (Fx b lo) w1 wr) (fun i _ => n - (intOf i).toNat)
  case atStart => exact ⟨0, ⟨zero, 0⟩, none, 0, none, 0, Nat.zero_le _, rfl, HG0.out, rfl, ⟨by rw [zero_sz]; omega, fun h => absurd h (by decide)⟩, Fr.refl _ _⟩
  case round =>
    clear HG0
    obtain ⟨k, st, ak, ck, ax, ct, hk, rfl, hg, hrd, hok, hf⟩ := hrel
    have HRD : Hid (type_of% hrd) := hrd
    have HOK : Hid (type_of% hok) := hok
    have HF : Hid (type_of% hf) := hf
    have HG : Hid (type_of% hg) := hg
    have HSZ : Hid (st.m.sz ≤ 100000) := by have h1 := hok.1; have h2 := HTO.out k; show _ ≤ _; omega
    have hlw : xb < wr.heap.size := Nat.lt_of_lt_of_le HXB.out.1 hf.size
    clear hrd hok hg
    by_cases hlt : k < n
    · have HKL : Hid (k < L.length) := by have := HLN.out; show _ < _; omega
      have d : wr.cell? ⟨xb, k, none⟩ = some (.string (Pc.ba (L[k]'HKL.out))) := (World.cell?_of_block (a := ⟨xb, k, none⟩) (hf.block xb HXB.out.1 (fun e => by rcases e with e | e; exact HNX.out e; have h1 := HXB.out.1; have h2 := HL1.out; omega))).trans (HXB.out.2 k HKL.out)
      have HDR : Hid (L.drop k = L[k]'HKL.out :: L.drop (k + 1)) := by show _ = _; exact List.drop_eq_getElem_cons HKL.out
      have HTS : Hid (tot (k + 1) L = tot k L + (L[k]'HKL.out).length + 3) := tot_succ L k HKL.out
      have hll := HPM.out _ (List.getElem_mem HKL.out)
      generalize L[k]'HKL.out = l at d HDR HTS hll
      clear hf
      go_wp2_with fail
      have hbs : (Pc.ba l).size = l.length := Pc.ba_size l
      have hcl := cut_len l 32
      have HV5 : Hid (Vs wr) := HV.out.below (fx_bel HF.out HB0.out HL0.out HB01.out)
      refine (cutc wr (Pc.ba l) 32 (by omega) HV5.out).mono ?_
      rintro e w5 ⟨rfl, hB5⟩
      rw [Pc.ba_data]
      have HB5 : Hid (type_of% hB5) := hB5
      have HV6 : Hid (Vs w5) := HV5.out.below hB5
      have hfd : (Pc.ba (Lib.cut l [32]).1).data.toList = first l := Pc.ba_data _
      have hrs : (Pc.ba (Lib.cut l [32]).2.1).data.toList = rest l := Pc.ba_data _
      have hf1 : (Pc.ba (Lib.cut l [32]).1).size ≤ 30000 := by rw [Pc.ba_size]; omega
      have hr1 : (Pc.ba (Lib.cut l [32]).2.1).size ≤ 30000 := by rw [Pc.ba_size]; omega
      generalize Pc.ba (Lib.cut l [32]).1 = f at hfd hf1 ⊢
      generalize Pc.ba (Lib.cut l [32]).2.1 = r at hrs hr1 ⊢
      generalize (Lib.cut l [32]).2.2 = cc
      have HFD : Hid (f.data.toList = first l) := hfd
      have HRS : Hid (r.data.toList = rest l) := hrs
      have HG5 : Hid (Gs w5 b lo st ak ck ax ct) := HG.out.below hB5
      obtain ⟨hbl5, ⟨c0, c1, c2, c3, c4, c5, c6⟩, _⟩ := wr7 HG5.out.bx
      clear hB5 hfd hrs hcl hbs d c0 c1 c2 c3 c4 c5 hll
      by_cases hl : 0 < st.left
      · have HKW : Hid (∀ t ∈ st.m.ks, t.ws.length ≤ 1000000 ∧ t.vs.length ≤ 1000000) := fun t ht => by obtain ⟨q, hq, rfl⟩ := List.getElem_of_mem ht; have h1 := Kt.ksz_at st.m.ks q hq; have h2 := HSZ.out; unfold M.sz at h2; omega
        have HDL : Hid (dLine st l = dWord st f.data.toList r.data.toList) := by show _ = _; rw [HFD.out, HRS.out]; unfold dLine; rw [if_pos hl]
        have HNS : Hid (0 < st.left ∨ ¬ first l = wSum) := .inl hl
        go_wp2_with fail
        refine (iword w5 b lo st ak ax ck ct HG5.out HV6.out f r hf1 hr1 (HOK.out.2 hl) (by have h1 := HSZ.out; unfold M.sz at h1; omega) HKW.out hl).mono ?_
        rintro e w6 ⟨he, hF6⟩
        have HF6 : Hid (Fr (Fx b lo) w1 w6) := (HF.out.trans (fx_below HB5.out)).trans hF6
        clear hF6
        rcases he with ⟨st', hd, rfl, hg6⟩ | ⟨hd, rfl⟩
        · have HG6 : Hid (type_of% hg6) := hg6
          have HRD6 : Hid (rd L ⟨zero, 0⟩ = rd (L.drop (k + 1)) st') := by
            show _ = _
            rw [HRD.out, HDR.out, rd_some (HDL.out.trans hd) HNS.out]
          have HOK6 : Hid (Ok st' (tot (k + 1) L)) := by
            show Ok _ _
            rw [HTS.out]
            exact ok_line HOK.out (HDL.out.trans hd)
          clear hd hg6 c6
          go_wp2
          go_roundw
          case rel => exact ⟨k + 1, st', ak, ck, ax, ct, by omega, by go_num, HG6.out, HRD6.out, HOK6.out, HF6.out⟩
          case measure => simp [intOf]; omega
        · have HRD6 : Hid (rd L ⟨zero, 0⟩ = none) := by
            show _ = _
            rw [HRD.out, HDR.out, rd_none (HDL.out.trans hd) HNS.out]
          clear hd c6
          go_wp2
          rw [Exit.noGoto_ret]
          go_ret
          exact ⟨.inr ⟨HRT.out.trans HRD6.out, rfl⟩, HFW.out.trans (HF6.out.mono HFX.out)⟩
      · have hl' : st.left ≤ 0 := by omega
        by_cases h1 : f = ⟨#[109, 111, 100, 101, 108]⟩
        · have HM : Hid (first l = wModel) := (ba_is HFD.out).1 h1
          have qh1 := Ls.tl_eq h1
          have HDL : Hid (dLine st l = dHead st r.data.toList) := by show _ = _; rw [HRS.out]; unfold dLine; rw [if_neg hl];  rw [if_pos HM.out]
          have HNS : Hid (0 < st.left ∨ ¬ first l = wSum) := .inr (by rw [HM.out]; decide)
          go_wp2_with fail
          refine (ihead w5 b lo st ak ax ck ct HG5.out HV6.out r hr1).mono ?_
          rintro e w6 ⟨he, hF6⟩
          have HF6 : Hid (Fr (Fx b lo) w1 w6) := (HF.out.trans (fx_below HB5.out)).trans hF6
          clear hF6
          rcases he with ⟨st', hd, rfl, hg6⟩ | ⟨hd, rfl⟩
          · have HG6 : Hid (type_of% hg6) := hg6
            have HRD6 : Hid (rd L ⟨zero, 0⟩ = rd (L.drop (k + 1)) st') := by
              show _ = _
              rw [HRD.out, HDR.out, rd_some (HDL.out.trans hd) HNS.out]
            have HOK6 : Hid (Ok st' (tot (k + 1) L)) := by
              show Ok _ _
              rw [HTS.out]
              exact ok_line HOK.out (HDL.out.trans hd)
            clear hd hg6 c6
            go_wp2
            go_roundw
            case rel => exact ⟨k + 1, st', ak, ck, ax, ct, by omega, by go_num, HG6.out, HRD6.out, HOK6.out, HF6.out⟩
            case measure => simp [intOf]; omega
          · have HRD6 : Hid (rd L ⟨zero, 0⟩ = none) := by
              show _ = _
              rw [HRD.out, HDR.out, rd_none (HDL.out.trans hd) HNS.out]
            clear hd c6
            go_wp2
            rw [Exit.noGoto_ret]
            go_ret
            exact ⟨.inr ⟨HRT.out.trans HRD6.out, rfl⟩, HFW.out.trans (HF6.out.mono HFX.out)⟩
        have q1 := Ls.tl_ne h1
        by_cases h2 : f = ⟨#[99, 116, 114]⟩
        · have HM : Hid (first l = wCtr) := (ba_is HFD.out).1 h2
          have qh2 := Ls.tl_eq h2
          have HDL : Hid (dLine st l = dCtr st r.data.toList) := by show _ = _; rw [HRS.out]; unfold dLine; rw [if_neg hl]; rw [if_neg (by rw [HM.out]; decide)]; rw [if_pos HM.out]
          have HNS : Hid (0 < st.left ∨ ¬ first l = wSum) := .inr (by rw [HM.out]; decide)
          go_wp2_with fail
          refine (ictr w5 b lo st ak ax ck ct HG5.out HV6.out r hr1 (by have h1 := HSZ.out; unfold M.sz at h1; omega)).mono ?_
          rintro e w6 ⟨he, hF6⟩
          have HF6 : Hid (Fr (Fx b lo) w1 w6) := (HF.out.trans (fx_below HB5.out)).trans hF6
          clear hF6
          rcases he with ⟨st', ak', ck', hd, rfl, hg6⟩ | ⟨hd, rfl⟩
          · have HG6 : Hid (type_of% hg6) := hg6
            have HRD6 : Hid (rd L ⟨zero, 0⟩ = rd (L.drop (k + 1)) st') := by
              show _ = _
              rw [HRD.out, HDR.out, rd_some (HDL.out.trans hd) HNS.out]
            have HOK6 : Hid (Ok st' (tot (k + 1) L)) := by
              show Ok _ _
              rw [HTS.out]
              exact ok_line HOK.out (HDL.out.trans hd)
            clear hd hg6 c6
            go_wp2
            go_roundw
            case rel => exact ⟨k + 1, st', ak', ck', ax, ct, by omega, by go_num, HG6.out, HRD6.out, HOK6.out, HF6.out⟩
            case measure => simp [intOf]; omega
          · have HRD6 : Hid (rd L ⟨zero, 0⟩ = none) := by
              show _ = _
              rw [HRD.out, HDR.out, rd_none (HDL.out.trans hd) HNS.out]
            clear hd c6
            go_wp2
            rw [Exit.noGoto_ret]
            go_ret
            exact ⟨.inr ⟨HRT.out.trans HRD6.out, rfl⟩, HFW.out.trans (HF6.out.mono HFX.out)⟩
        have q2 := Ls.tl_ne h2
        by_cases h3 : f = ⟨#[116, 114, 101, 101]⟩
        · have HM : Hid (first l = wTree) := (ba_is HFD.out).1 h3
          have qh3 := Ls.tl_eq h3
          have HDL : Hid (dLine st l = dTree st r.data.toList) := by show _ = _; rw [HRS.out]; unfold dLine; rw [if_neg hl]; rw [if_neg (by rw [HM.out]; decide)]; rw [if_neg (by rw [HM.out]; decide)]; rw [if_pos HM.out]
          have HNS : Hid (0 < st.left ∨ ¬ first l = wSum) := .inr (by rw [HM.out]; decide)
          go_wp2_with fail
          refine (itree w5 b lo st ak ax ck ct HG5.out HV6.out r hr1 (by have h1 := HSZ.out; unfold M.sz at h1; omega)).mono ?_
          rintro e w6 ⟨he, hF6⟩
          have HF6 : Hid (Fr (Fx b lo) w1 w6) := (HF.out.trans (fx_below HB5.out)).trans hF6
          clear hF6
          rcases he with ⟨st', ax', ct', hd, rfl, hg6⟩ | ⟨hd, rfl⟩
          · have HG6 : Hid (type_of% hg6) := hg6
            have HRD6 : Hid (rd L ⟨zero, 0⟩ = rd (L.drop (k + 1)) st') := by
              show _ = _
              rw [HRD.out, HDR.out, rd_some (HDL.out.trans hd) HNS.out]
            have HOK6 : Hid (Ok st' (tot (k + 1) L)) := by
              show Ok _ _
              rw [HTS.out]
              exact ok_line HOK.out (HDL.out.trans hd)
            clear hd hg6 c6
            go_wp2
            go_roundw
            case rel => exact ⟨k + 1, st', ak, ck, ax', ct', by omega, by go_num, HG6.out, HRD6.out, HOK6.out, HF6.out⟩
            case measure => simp [intOf]; omega
          · have HRD6 : Hid (rd L ⟨zero, 0⟩ = none) := by
              show _ = _
              rw [HRD.out, HDR.out, rd_none (HDL.out.trans hd) HNS.out]
            clear hd c6
            go_wp2
            rw [Exit.noGoto_ret]
            go_ret
            exact ⟨.inr ⟨HRT.out.trans HRD6.out, rfl⟩, HFW.out.trans (HF6.out.mono HFX.out)⟩
        have q3 := Ls.tl_ne h3
        by_cases h4 : f = ⟨#[115, 117, 109]⟩
        · have HM : Hid (first l = wSum) := (ba_is HFD.out).1 h4
          have q4 := Ls.tl_eq h4
          have HE : Hid (rdt s.data.toList ⟨zero, 0⟩ = some st) := by
            show _ = _
            rw [HRT.out, HRD.out, HDR.out, rd_sum hl HM.out]
          have HF5 : Hid (Fr (Fx b lo) w1 w5) := HF.out.trans (fx_below HB5.out)
          go_wp2
          rw [Exit.noGoto_ret]
          go_ret
          exact ⟨.inl ⟨st, lo, ak, ck, ax, ct, HE.out, rfl, HLO.out, HG5.out, HSZ.out⟩, HFW.out.trans (HF5.out.mono HFX.out)⟩
        · have q4 := Ls.tl_ne h4
          rw [show (ByteArray.mk #[109, 111, 100, 101, 108]).toList = [109, 111, 100, 101, 108] by kernel_rfl] at q1
          rw [show (ByteArray.mk #[99, 116, 114]).toList = [99, 116, 114] by kernel_rfl] at q2
          rw [show (ByteArray.mk #[116, 114, 101, 101]).toList = [116, 114, 101, 101] by kernel_rfl] at q3
          rw [show (ByteArray.mk #[115, 117, 109]).toList = [115, 117, 109] by kernel_rfl] at q4
          have HE : Hid (rdt s.data.toList ⟨zero, 0⟩ = none) := by
            have n1 : ¬ first l = wModel := mt (ba_is HFD.out).2 h1
            have n2 : ¬ first l = wCtr := mt (ba_is HFD.out).2 h2
            have n3 : ¬ first l = wTree := mt (ba_is HFD.out).2 h3
            have n4 : ¬ first l = wSum := mt (ba_is HFD.out).2 h4
            show _ = _
            rw [HRT.out, HRD.out, HDR.out, rd_none (by unfold dLine; rw [if_neg hl, if_neg n1, if_neg n2, if_neg n3]) (.inr n4)]
          have HF5 : Hid (Fr (Fx b lo) w1 w5) := HF.out.trans (fx_below HB5.out)
          go_wp2
          rw [Exit.noGoto_ret]
          go_ret
          exact ⟨.inr ⟨HE.out, rfl⟩, HFW.out.trans (HF5.out.mono HFX.out)⟩
    · obtain rfl : k = n := by omega
      have HE : Hid (rdt s.data.toList ⟨zero, 0⟩ = some st) := by
        show _ = _
        rw [HRT.out, HRD.out, List.drop_of_length_le (by have := HLN.out; omega)]
        rfl
      clear hf
      go_wp2
      rw [Exit.noGoto_ret]
      go_ret
      exact ⟨.inl ⟨st, lo, ak, ck, ax, ct, HE.out, rfl, HLO.out, HG.out, HSZ.out⟩, HFW.out.trans (HF.out.mono HFX.out)⟩
end Go.Proofs.YtaojoamldoofpaaGreatDoor.Rm
/-
  A strings.Builder's WriteString by the library's contract, laid by hand (the kit's laying leaves it out where the translation has no strings.Join).
-/
namespace Go.Proofs.YtaojoamldoofpaaGreatDoor.Bd
open Go.RowKit
def ren : Go.Shelf.Ren := ⟨fun | 166 => 47 | 240 => 78 | 276 => 106 | n => n, fun | 9 => 9 | 3 => 3 | 4 => 4 | 0 => 0 | 20 => 20 | 72 => 90 | 76 => 93 | 70 => 88 | 37 => 22 | 75 => 92 | 164 => 157 | 5 => 5 | 80 => 97 | n => n, fun | n => n⟩
theorem lays : Go.Proofs.Lays.n166 Tryz.prog ren := {
  mixed := by kernel_rfl
  f166 := Tryz.func47.trans (congrArg some (by kernel_rfl))
  f240 := Tryz.func78.trans (congrArg some (by kernel_rfl))
  f276 := Tryz.func106.trans (congrArg some (by kernel_rfl))
  t0 := Tryz.underlying0, a0 := Tryz.isAgg0, z0 := Tryz.sizeOf0, v0 := Tryz.zeroValue0
  t3 := Tryz.underlying3, a3 := Tryz.isAgg3, z3 := Tryz.sizeOf3, v3 := Tryz.zeroValue3
  t4 := Tryz.underlying4, a4 := Tryz.isAgg4, z4 := Tryz.sizeOf4, v4 := Tryz.zeroValue4
  t9 := Tryz.underlying9, a9 := Tryz.isAgg9, z9 := Tryz.sizeOf9, v9 := Tryz.zeroValue9
  t20 := Tryz.underlying20, a20 := Tryz.isAgg20, z20 := Tryz.sizeOf20, v20 := Tryz.zeroValue20
  t37 := Tryz.underlying22, a37 := Tryz.isAgg22, z37 := Tryz.sizeOf22, v37 := Tryz.zeroValue22
  t70 := Tryz.underlying88, a70 := Tryz.isAgg88, z70 := Tryz.sizeOf88, v70 := Tryz.zeroValue88
  t72 := Tryz.underlying90, a72 := Tryz.isAgg90, z72 := Tryz.sizeOf90, v72 := Tryz.zeroValue90
  t75 := Tryz.underlying92, a75 := Tryz.isAgg92, z75 := Tryz.sizeOf92, v75 := Tryz.zeroValue92
  t164 := Tryz.underlying157, a164 := Tryz.isAgg157, z164 := Tryz.sizeOf157, v164 := Tryz.zeroValue157 }
theorem extra : Builder.Extra Tryz.prog ren := {
  sizeBuilder := by kernel_rfl
  liesBuilder := by kernel_rfl
  t5 := Tryz.underlying5
  a5 := Tryz.isAgg5
  z5 := Tryz.sizeOf5
  v5 := Tryz.zeroValue5
  infoByte := by kernel_rfl
  cellsByte := by kernel_rfl
  sizeByte := by kernel_rfl
  neB5 := by decide }
theorem write (B b : Nat) (bs : List Value) (s : ByteArray) (w : World) (h : Lib.IsBuilder 90 5 B b bs w) (hlen : bs.length + s.size ≤ 140737488355328) (hBw : B ≤ w.heap.size) :
    Calls Tryz.prog 47 #[.pointer (some ⟨b, 0, none⟩), .string s] w fun e w' => e = .returned (.tuple #[.int .i64 s.size, .nilIface]) ∧ (Lib.BuilderAt 90 5 B b (.pointer (some ⟨b, 0, none⟩)) (bs ++ Lib.strCells s) w' ∧ Below B w w') :=
  Any.Builder_WriteString lays extra B b bs s w h hlen hBw
end Go.Proofs.YtaojoamldoofpaaGreatDoor.Bd
/-
  Texts written into a builder of the call's own; numbers, each with a blank ahead, as the program writes them.
-/
namespace Go.Proofs.YtaojoamldoofpaaGreatDoor.Mt
set_option maxRecDepth 100000
open Go.RowKit
set_option linter.unusedVariables false
theorem ownsRow_atM {w w1 : World} {base : Nat} {e : TypeId} {size : Nat} {v : Value} {n : Nat} {xs : List Value} (h : w.ownsRow base e size v n xs) (hk : ∀ k, v.ownBlock = some k → w1.heap[k]? = w.heap[k]?) : w1.ownsRow base e size v n xs := by
  refine ⟨h.1, ?_⟩
  rcases h.2 with h | ⟨g, cap, cur, rfl, hb, hh, r⟩
  · exact .inl h
  · exact .inr ⟨g, cap, cur, rfl, hb, by rw [hk g rfl]; exact hh, r⟩
theorem builder_below {T e : TypeId} {B b : Nat} {bs : List Value} {w w' : World} (h : Lib.IsBuilder T e B b bs w) (hB : Below w.heap.size w w') : Lib.IsBuilder T e B b bs w' := by
  have one : ∀ {p : Value}, Lib.BuilderAt T e B b p bs w → Lib.BuilderAt T e B b p bs w' := fun {p} h => by
    obtain ⟨h1, v, hb, ho, hne⟩ := h
    have hlt : b < w.heap.size := (Array.getElem?_eq_some_iff.1 hb).1
    exact ⟨h1, v, by rw [hB.block b hlt]; exact hb, ownsRow_atM ho (fun k e => hB.block k (World.ownsRow.lt ho k e).2), hne⟩
  rcases h with h | h
  · exact .inl (one h)
  · exact .inr (one h)
def Bu (w : World) (B b : Nat) (l : List UInt8) : Prop := Lib.IsBuilder 90 5 B b (Lib.byteCells l) w
theorem Bu.below {w w' : World} {B b : Nat} {l : List UInt8} (h : Bu w B b l) (hB : Below w.heap.size w w') : Bu w' B b l := builder_below h hB
theorem bu_new (w : World) (b : Nat) (hb : b = w.heap.size) : ∃ W, w.alloc (.cells #[.pointer none, .slice none 0 0] 90) = W ∧ Below w.heap.size w W ∧ Bu W w.heap.size b [] ∧ W.heap.size = w.heap.size + 1 := by
  subst hb
  exact ⟨_, rfl, (Below.refl _ _).alloc (Nat.le_refl _) _, Lib.fresh_isBuilder _ _ _, by simp⟩
theorem wrote (w : World) (B b : Nat) (l : List UInt8) (s : ByteArray) (h : Bu w B b l) (hl : l.length + s.size ≤ 1000000) (hB : B ≤ w.heap.size) :
    Calls Tryz.prog 47 #[.pointer (some ⟨b, 0, none⟩), .string s] w fun e w' => e = .returned (.tuple #[.int .i64 s.size, .nilIface]) ∧ Bu w' B b (l ++ s.data.toList) ∧ Below B w w' := by
  refine (Bd.write _ _ _ _ _ h (by rw [bc_len]; omega) hB).mono ?_
  rintro e w' ⟨rfl, h1, h2⟩
  refine ⟨rfl, ?_, h2⟩
  unfold Bu
  rw [← cells_more]
  exact .inr h1
theorem told (w : World) (B b : Nat) (l : List UInt8) (h : Bu w B b l) (hB : B ≤ w.heap.size) :
    Calls Tryz.prog 51 #[.pointer (some ⟨b, 0, none⟩)] w fun e w' => e = .returned (.string ⟨l.toArray⟩) ∧ Below B w w' := by
  refine (Tryz.Builder_String_any _ _ _ _ h hB).mono ?_
  rintro e w' ⟨rfl, h2⟩
  exact ⟨rfl, h2⟩
set_option maxHeartbeats 2000000 in
theorem ispaced (w : World) (a : Option Addr) (c : Nat) (l : List Int) (h : Li.IsL w a l) (hb : ∀ x ∈ l, i64 x) (hl : l.length ≤ 1000) (hT : Nu.Tab w) :
    Calls Tryz.prog 23 #[.slice a l.length c] w fun e w' => e = .returned (.string ⟨(nums l).toArray⟩) ∧ Below w.heap.size w w' := by
  go_enter Tryz.func23, Tryz.ntmps23
  go_wp2
  obtain ⟨W, hW, hB0, hbu, hsz⟩ := bu_new w _ rfl
  rw [hW]
  clear hW hsz
  go_loopw [8] (fun i wr => ∃ k : Nat, k ≤ l.length ∧ i = .int .i64 k ∧ Bu wr w.heap.size w.heap.size (nums (l.take k)) ∧ Below w.heap.size w wr) (fun i _ => l.length - (intOf i).toNat)
  case atStart => exact ⟨0, Nat.zero_le _, rfl, hbu, hB0⟩
  case round =>
    obtain ⟨k, hk, rfl, hbl, hBr⟩ := hrel
    by_cases hlt : k < l.length
    · rcases h.below hBr with h0 | ⟨xb, xo, rfl, hxb, hxc⟩
      · rw [h0] at hlt; simp at hlt
      have hcx := hxc k hlt
      have hx := hb l[k] (List.getElem_mem hlt)
      have HN : Hid (nums (l.take (k + 1)) = nums (l.take k) ++ 32 :: Lib.itoa l[k]) := nums_take l k hlt
      have hnl : (nums (l.take k)).length ≤ 22000 := by
        have h1 := nums_len (l.take k) (take_mem hb k)
        have h2 := List.length_take_le k l
        omega
      obtain ⟨x, hx0⟩ : ∃ x, l[k] = x := ⟨_, rfl⟩
      rw [hx0] at HN hx hcx
      clear hxc hx0
      have hil := Nu.itoa_len x hx.1 hx.2
      go_wp2_with fail
      refine (Nu.inum _ _ hx.1 hx.2 (hT.below hBr)).mono ?_
      rintro e w1 ⟨rfl, hB1⟩
      have hbl := hbl.below hB1
      have hBr := hBr.trans (hB1.mono hBr.size)
      clear hB1 hcx hxb
      go_wp2_with fail
      refine (wrote _ _ _ _ _ hbl (by rw [ByteArray.size_append, ba_size]; simp only [ByteArray.size]; simp; omega) hBr.size).mono ?_
      rintro e w2 ⟨rfl, hb2, hB2⟩
      have hBr := hBr.trans hB2
      have HB : Hid (Bu w2 w.heap.size w.heap.size (nums (l.take (k + 1)))) := by
        show Bu _ _ _ _
        rw [HN.out]
        simpa using hb2
      clear hb2 hB2 hbl
      go_wp2
      go_roundw
      case rel => exact ⟨k + 1, by omega, by go_num, HB.out, hBr⟩
      case measure => simp [intOf]; omega
    · have hbl : Bu wr w.heap.size w.heap.size (nums l) := by rwa [List.take_of_length_le (by omega)] at hbl
      go_wp2_with fail
      refine (told _ _ _ _ hbl hBr.size).mono ?_
      rintro e w3 ⟨rfl, hB3⟩
      have hBr := hBr.trans hB3
      go_wp2
      go_ret
      exact ⟨rfl, hBr⟩
end Go.Proofs.YtaojoamldoofpaaGreatDoor.Mt
/-
  The text of a model, as the program writes it: numbers, the head, words, trees, all of it.
-/
namespace Go.Proofs.YtaojoamldoofpaaGreatDoor.Mt
set_option maxRecDepth 100000
open Go.RowKit
open Go.Proofs.YtaojoamldoofpaaGreatDoor.Md (M mok mok_parts kok kok_parts Rm wr6)
open Go.Proofs.YtaojoamldoofpaaGreatDoor.Kt (Kv IsK)
open Go.Proofs.YtaojoamldoofpaaGreatDoor.Tm (IsT IsP)
open Go.Proofs.YtaojoamldoofpaaGreatDoor.Sv (new1 Wr wr2)
set_option linter.unusedVariables false

set_option maxHeartbeats 2000000 in
theorem ihead (w : World) (ak ax : Option Addr) (ck ct : Nat) (m : M) (hm : Mn m) (hT : Nu.Tab w) :
    Calls Tryz.prog 48 #[.agg #[.int .i64 m.n, .int .i64 m.c, .int .i64 m.prior, .int .i64 m.base, .slice ak m.ks.length ck, .slice ax m.ts.length ct]] w fun e w' => e = .returned (.string ⟨(head m).toArray⟩) ∧ Below w.heap.size w w' := by
  have HH : Hid (head m = [109, 111, 100, 101, 108] ++ nums [m.n, m.c, m.prior, m.base] ++ [10]) := rfl
  have hnl : (nums [m.n, m.c, m.prior, m.base]).length ≤ 88 := nums_len _ hm.h
  go_enter Tryz.func48, Tryz.ntmps48
  go_wp2_with fail
  obtain ⟨W, hW, hsz, hB, bm⟩ := new1 w [.int .i64 m.n, .int .i64 m.c, .int .i64 m.prior, .int .i64 m.base, .slice ak m.ks.length ck, .slice ax m.ts.length ct] 29
  rw [hW]
  clear hW
  have hB1 : Below w.heap.size w (W.alloc (.cells #[.int .i64 m.n, .int .i64 m.c, .int .i64 m.prior, .int .i64 m.base] 3)) := hB.alloc hB.size _
  refine (ispaced _ _ _ [m.n, m.c, m.prior, m.base] (isl_lit W [m.n, m.c, m.prior, m.base] 3 _ _ hsz.symm rfl) hm.h (by simp) (hT.below hB1)).mono ?_
  rintro e w1 ⟨rfl, hB2⟩
  have hB := hB1.trans (hB2.mono hB1.size)
  clear hB1 hB2
  go_wp2
  go_ret
  exact ⟨ret_str (ba_ext (by rw [HH.out]; simp)), hB⟩
set_option maxHeartbeats 2000000 in
theorem ictxt (w : World) (a0 a1 : Option Addr) (c0 c1 : Nat) (t : Kv) (h0 : Ls.IsS w a0 t.ws) (h1 : Li.IsL w a1 t.vs) (hk : Kn t) (hT : Nu.Tab w) :
    Calls Tryz.prog 49 #[.agg #[.slice a0 t.ws.length c0, .slice a1 t.vs.length c1]] w fun e w' => e = .returned (.string ⟨(ctxt t).toArray⟩) ∧ Below w.heap.size w w' := by
  obtain ⟨k1, k2, k3, k4⟩ := hk
  have HH : Hid (ctxt t = [99, 116, 114] ++ nums [(t.ws.length : Int)] ++ [10] ++ wlines t.vs t.ws) := rfl
  obtain ⟨n, hn⟩ : ∃ n, t.ws.length = n := ⟨_, rfl⟩
  have hi : ∀ x ∈ [(n : Int)], i64 x := by intro x hx; simp at hx; subst hx; unfold i64; omega
  have hnl := nums_len _ hi
  rw [hn] at k1 k2 HH
  rw [k2, hn]
  have HK2 : Hid (t.vs.length = n) := k2
  have HKN : Hid (t.ws.length = n) := hn
  clear k2 hn
  simp only [List.length_cons, List.length_nil] at hnl
  go_enter Tryz.func49, Tryz.ntmps49
  go_wp2_with fail
  obtain ⟨W, hW, hsz, hB, bm⟩ := new1 w [.slice a0 n c0, .slice a1 n c1] 47
  rw [hW]
  obtain ⟨W1, hW1, hBb, hbu, hs1⟩ := bu_new W (w.heap.size + 1) hsz.symm
  rw [hW1]
  clear hW hW1
  have hB2 : Below W1.heap.size W1 (W1.alloc (.cells #[.int .i64 n] 3)) := (Below.refl _ _).alloc (Nat.le_refl _) _
  have hB1 := hBb.trans (hB2.mono hBb.size)
  have hT := hT.below hB
  refine (ispaced _ _ _ [(n : Int)] (isl_lit W1 [(n : Int)] 3 _ _ (by omega) rfl) hi (by simp) (hT.below hB1)).mono ?_
  rintro e w2 ⟨rfl, hB3⟩
  have hbu := (hbu.below hB2).below hB3
  have hBr := hB1.trans (hB3.mono hB1.size)
  clear hB1 hB2 hB3 hBb hs1 hsz
  obtain ⟨_, ⟨x0, x1⟩, _⟩ := wr2 (bm.below hBr)
  go_wp2_with fail
  refine (wrote _ _ _ _ _ hbu (by rw [ByteArray.size_append, ByteArray.size_append, ba_size]; simp only [ByteArray.size]; simp; omega) hBr.size).mono ?_
  rintro e w3 ⟨rfl, hbu, hB3⟩
  have hBr := hBr.trans hB3
  clear hB3 x0 x1
  obtain ⟨_, ⟨x0, x1⟩, _⟩ := wr2 (bm.below hBr)
  obtain ⟨X, hX⟩ : ∃ X, [99, 116, 114] ++ nums [(n : Int)] ++ [10] = X := ⟨_, rfl⟩
  have hXl : X.length ≤ 26 := by rw [← hX]; simp; omega
  have HBU : Hid (Bu w3 W.heap.size (w.heap.size + 1) (X ++ wlines (t.vs.take 0) (t.ws.take 0))) := by show Bu _ _ _ _; simpa [← hX, wlines] using hbu
  rw [hX] at HH
  clear hX hbu
  go_wp2
  go_loopw [17] (fun i wr => ∃ k : Nat, k ≤ n ∧ i = .int .i64 k ∧ Bu wr W.heap.size (w.heap.size + 1) (X ++ wlines (t.vs.take k) (t.ws.take k)) ∧ Below W.heap.size W wr) (fun i _ => n - (intOf i).toNat)
  case atStart => exact ⟨0, Nat.zero_le _, rfl, HBU.out, hBr⟩
  case round =>
    obtain ⟨k, hk, rfl, hbl, hBr⟩ := hrel
    clear HBU x0 x1
    obtain ⟨_, ⟨x0, x1⟩, _⟩ := wr2 (bm.below hBr)
    have hBe := hB.trans (hBr.mono hB.size)
    by_cases hlt : k < n
    · have hlw : k < t.ws.length := by rw [HKN.out]; exact hlt
      have hlv : k < t.vs.length := by rw [HK2.out]; exact hlt
      rcases h0.below hBe with e0 | ⟨xb, xo, rfl, hxb, hxc⟩
      · rw [e0] at hlw; simp at hlw
      rcases h1.below hBe with e0 | ⟨yb, yo, rfl, hyb, hyc⟩
      · rw [e0] at hlv; simp at hlv
      have hcx := hxc k hlw
      have hcy := hyc k hlv
      have hx := k3 t.vs[k] (List.getElem_mem hlv)
      have hs := k4 t.ws[k] (List.getElem_mem hlw)
      have HN : Hid (wlines (t.vs.take (k + 1)) (t.ws.take (k + 1)) = wlines (t.vs.take k) (t.ws.take k) ++ wline t.vs[k] t.ws[k]) := wlines_take t.vs t.ws k hlw hlv
      have hnl2 : (wlines (t.vs.take k) (t.ws.take k)).length ≤ 1920 := by
        have q1 := wlines_len (t.vs.take k) (t.ws.take k) (take_mem k3 k) (take_mem k4 k)
        have q2 := List.length_take_le k t.ws
        omega
      obtain ⟨x, hx0⟩ : ∃ x, t.vs[k] = x := ⟨_, rfl⟩
      obtain ⟨s, hs0⟩ : ∃ s, t.ws[k] = s := ⟨_, rfl⟩
      rw [hx0, hs0] at HN
      rw [hx0] at hx hcy
      rw [hs0] at hs hcx
      clear hxc hyc hx0 hs0 hlw hlv
      have hil := Nu.itoa_len x hx.1 hx.2
      go_wp2_with fail
      refine (Nu.inum _ _ hx.1 hx.2 (hT.below hBr)).mono ?_
      rintro e w1 ⟨rfl, hB1⟩
      have hbl := hbl.below hB1
      have hBr := hBr.trans (hB1.mono hBr.size)
      clear hB1 hcx hcy hxb hyb x0 x1
      go_wp2_with fail
      refine (wrote _ _ _ _ _ hbl (by rw [ByteArray.size_append, ByteArray.size_append, ByteArray.size_append, ba_size, List.length_append]; simp only [ByteArray.size]; simp; show _ + (_ + 1 + s.size + 1) ≤ _; omega) hBr.size).mono ?_
      rintro e w2 ⟨rfl, hb2, hB2⟩
      have hBr := hBr.trans hB2
      have HB : Hid (Bu w2 W.heap.size (w.heap.size + 1) (X ++ wlines (t.vs.take (k + 1)) (t.ws.take (k + 1)))) := by
        show Bu _ _ _ _
        rw [HN.out]
        simpa [wline] using hb2
      clear hb2 hB2 hbl
      go_wp2
      go_roundw
      case rel => exact ⟨k + 1, by omega, by go_num, HB.out, hBr⟩
      case measure => simp [intOf]; omega
    · have e1 : t.vs.take k = t.vs := List.take_of_length_le (by rw [HK2.out]; omega)
      have e2 : t.ws.take k = t.ws := List.take_of_length_le (by rw [HKN.out]; omega)
      rw [e1, e2] at hbl
      clear e1 e2
      go_wp2_with fail
      refine (told _ _ _ _ hbl hBr.size).mono ?_
      rintro e w3 ⟨rfl, hB3⟩
      have hBe := hBe.trans (hB3.mono hB.size)
      go_wp2
      go_ret
      exact ⟨by rw [HH.out]; rfl, hBe⟩
end Go.Proofs.YtaojoamldoofpaaGreatDoor.Mt
/-
  The text of a model, as the program writes it: trees, words with an end of a line, all of it.
-/
namespace Go.Proofs.YtaojoamldoofpaaGreatDoor.Mt
set_option maxRecDepth 100000
open Go.RowKit
open Go.Proofs.YtaojoamldoofpaaGreatDoor.Md (M mok mok_parts kok kok_parts Rm wr6 imok)
open Go.Proofs.YtaojoamldoofpaaGreatDoor.Kt (Kv IsK)
open Go.Proofs.YtaojoamldoofpaaGreatDoor.Tm (IsT IsP)
open Go.Proofs.YtaojoamldoofpaaGreatDoor.Sv (new1 Wr wr2)
open Go.Proofs.YtaojoamldoofpaaGreatDoor.Li (ret_bool)
set_option linter.unusedVariables false

set_option maxHeartbeats 2000000 in
theorem ittxt (w : World) (a0 a1 : Option Addr) (c0 c1 : Nat) (t : Tr.T) (h0 : IsP w a0 t.sp) (h1 : Li.IsL w a1 t.lv) (hk : Tn t) (hT : Nu.Tab w) :
    Calls Tryz.prog 50 #[.agg #[.slice a0 t.sp.length c0, .slice a1 t.lv.length c1]] w fun e w' => e = .returned (.string ⟨(ttxt t).toArray⟩) ∧ Below w.heap.size w w' := by
  obtain ⟨k1, k2, k3, k4⟩ := hk
  have HH : Hid (ttxt t = [116, 114, 101, 101] ++ spt t.sp ++ ([32, 58] ++ nums t.lv ++ [10])) := rfl
  have hnl := nums_len _ k4
  go_enter Tryz.func50, Tryz.ntmps50
  go_wp2_with fail
  obtain ⟨W, hW, hsz, hB, bm⟩ := new1 w [.slice a0 t.sp.length c0, .slice a1 t.lv.length c1] 56
  rw [hW]
  obtain ⟨W1, hW1, hBr, hbu, hs1⟩ := bu_new W (w.heap.size + 1) hsz.symm
  rw [hW1]
  clear hW hW1 hs1 hsz
  have hT := hT.below hB
  refine (wrote _ _ _ _ _ hbu (by simp [ByteArray.size]) hBr.size).mono ?_
  rintro e w3 ⟨rfl, hbu, hB3⟩
  have hBr := hBr.trans hB3
  clear hB3
  obtain ⟨_, ⟨x0, x1⟩, _⟩ := wr2 (bm.below hBr)
  have HBU : Hid (Bu w3 W.heap.size (w.heap.size + 1) ([116, 114, 101, 101] ++ spt (t.sp.take 0))) := by show Bu _ _ _ _; simpa [spt] using hbu
  clear hbu
  go_wp2
  go_loopw [10] (fun i wr => ∃ k : Nat, k ≤ t.sp.length ∧ i = .int .i64 k ∧ Bu wr W.heap.size (w.heap.size + 1) ([116, 114, 101, 101] ++ spt (t.sp.take k)) ∧ Below W.heap.size W wr) (fun i _ => t.sp.length - (intOf i).toNat)
  case atStart => exact ⟨0, Nat.zero_le _, rfl, HBU.out, hBr⟩
  case round =>
    obtain ⟨k, hk, rfl, hbl, hBr⟩ := hrel
    clear HBU x0 x1
    obtain ⟨_, ⟨x0, x1⟩, _⟩ := wr2 (bm.below hBr)
    have hBe := hB.trans (hBr.mono hB.size)
    have hnl2 : (spt (t.sp.take k)).length ≤ 176 := by
      have q1 := spt_len (t.sp.take k) (take_mem k3 k)
      have q2 := List.length_take_le k t.sp
      omega
    by_cases hlt : k < t.sp.length
    · rcases h0.below hBe with e0 | ⟨xb, xo, rfl, hxb, hxc⟩
      · rw [e0] at hlt; simp at hlt
      obtain ⟨d0, d1⟩ := hxc k hlt
      have hx := k3 t.sp[k] (List.getElem_mem hlt)
      have HN : Hid (spt (t.sp.take (k + 1)) = spt (t.sp.take k) ++ nums [t.sp[k].1, t.sp[k].2]) := spt_take t.sp k hlt
      obtain ⟨x, hx0⟩ : ∃ x, t.sp[k].1 = x := ⟨_, rfl⟩
      obtain ⟨y, hy0⟩ : ∃ x, t.sp[k].2 = x := ⟨_, rfl⟩
      rw [hx0, hy0] at HN hx
      rw [hx0] at d0
      rw [hy0] at d1
      clear hxc hx0 hy0
      have hi : ∀ z ∈ [x, y], i64 z := by intro z hz; simp at hz; rcases hz with rfl | rfl; exact hx.1; exact hx.2
      have hil := nums_len _ hi
      simp only [List.length_cons, List.length_nil] at hil
      go_wp2_with fail
      have hB1 : Below wr.heap.size wr ((wr.alloc (.cells #[.int .i64 x, .int .i64 y] 58)).alloc (.cells #[.int .i64 x, .int .i64 y] 3)) := ((Below.refl _ _).alloc (Nat.le_refl _) _).alloc (by simp) _
      have hbl := hbl.below hB1
      have hBr := hBr.trans (hB1.mono hBr.size)
      refine (ispaced _ _ _ [x, y] (isl_lit (wr.alloc (.cells #[.int .i64 x, .int .i64 y] 58)) [x, y] 3 _ _ (by simp) rfl) hi (by simp) (hT.below hBr)).mono ?_
      rintro e w1 ⟨rfl, hB2⟩
      have hbl := hbl.below hB2
      have hBr := hBr.trans (hB2.mono hBr.size)
      clear hB1 hB2 d0 d1 hxb x0 x1
      go_wp2_with fail
      refine (wrote _ _ _ _ _ hbl (by rw [ba_size]; simp; omega) hBr.size).mono ?_
      rintro e w2 ⟨rfl, hb2, hB2⟩
      have hBr := hBr.trans hB2
      have HB : Hid (Bu w2 W.heap.size (w.heap.size + 1) ([116, 114, 101, 101] ++ spt (t.sp.take (k + 1)))) := by
        show Bu _ _ _ _
        rw [HN.out]
        simpa using hb2
      clear hb2 hB2 hbl
      go_wp2
      go_roundw
      case rel => exact ⟨k + 1, by omega, by go_num, HB.out, hBr⟩
      case measure => simp [intOf]; omega
    · have e1 : t.sp.take k = t.sp := List.take_of_length_le (by omega)
      rw [e1] at hbl hnl2
      clear e1
      go_wp2_with fail
      refine (ispaced _ _ _ t.lv (h1.below hBe) k4 (by omega) (hT.below hBr)).mono ?_
      rintro e w1 ⟨rfl, hB2⟩
      have hbl := hbl.below hB2
      have hBr := hBr.trans (hB2.mono hBr.size)
      clear hB2 x0 x1 hBe
      go_wp2_with fail
      refine (wrote _ _ _ _ _ hbl (by rw [ByteArray.size_append, ByteArray.size_append, ba_size]; simp only [ByteArray.size]; simp; omega) hBr.size).mono ?_
      rintro e w2 ⟨rfl, hb2, hB2⟩
      have hBr := hBr.trans hB2
      have HB : Hid (Bu w2 W.heap.size (w.heap.size + 1) ([116, 114, 101, 101] ++ spt t.sp ++ ([32, 58] ++ nums t.lv ++ [10]))) := by
        show Bu _ _ _ _
        simpa using hb2
      rw [← HH.out] at HB
      clear hb2 hbl hB2
      go_wp2_with fail
      refine (told _ _ _ _ HB.out hBr.size).mono ?_
      rintro e w3 ⟨rfl, hB3⟩
      have hBe := hB.trans ((hBr.trans hB3).mono hB.size)
      go_wp2
      go_ret
      exact ⟨rfl, hBe⟩
theorem idx_has : ∀ (l : List UInt8) (c : UInt8), decide (0 ≤ Lib.indexByte l c) = l.contains c
  | [], c => by simp [Lib.indexByte]
  | b :: l, c => by
    have ih := idx_has l c
    have hg := Lib.indexByte_ge l c
    unfold Lib.indexByte
    by_cases h : b = c
    · subst h; simp
    · have h1 : (b == c) = false := by simpa using h
      have h2 : (c == b) = false := by simpa using fun e => h e.symm
      simp only [h1, List.contains_cons, h2, Bool.false_or, ← ih]
      by_cases h3 : Lib.indexByte l c = -1
      · simp [h3]
      · have h4 : (Lib.indexByte l c == -1) = false := by simpa using h3
        simp only [h4]
        simp
        omega
theorem contains_lf (s : ByteArray) (w : World) : Calls Tryz.prog 46 #[.string s, .string ⟨#[10]⟩] w fun e w' => e = .returned (.bool (hasLf s)) ∧ w' = w := by
  refine (Tryz.strings_Contains_one s 10 w).mono ?_
  rintro e w' ⟨rfl, rfl⟩
  exact ⟨by rw [idx_has]; rfl, rfl⟩
set_option maxHeartbeats 2000000 in
theorem ianylf (w : World) (a : Option Addr) (ca : Nat) (ks : List Kv) (h : IsK w a ks) (hl : ks.length ≤ 1048576) (hw : ∀ t ∈ ks, t.ws.length ≤ 1048576) :
    Calls Tryz.prog 21 #[.slice a ks.length ca] w fun e w' => e = .returned (.bool (anyLf ks)) ∧ Below w.heap.size w w' := by
  go_enter Tryz.func21, Tryz.ntmps21
  go_wp2
  go_loopw [9] (fun i wr => ∃ k : Nat, k ≤ ks.length ∧ i = .int .i64 k ∧ (∀ j (hj : j < ks.length), j < k → (ks[j].ws.any hasLf) = false) ∧ Below w.heap.size w wr) (fun i _ => ks.length - (intOf i).toNat)
  case atStart => exact ⟨0, Nat.zero_le _, rfl, fun j _ hj => by omega, Below.refl _ _⟩
  case round =>
    obtain ⟨k, hk, rfl, hno, hB⟩ := hrel
    have HNO : Hid (∀ j (hj : j < ks.length), j < k → (ks[j].ws.any hasLf) = false) := hno
    clear hno
    by_cases hlt : k < ks.length
    · rcases h.below hB with e0 | ⟨xb, xo, rfl, hxb, hxc⟩
      · rw [e0] at hlt; simp at hlt
      obtain ⟨a0, c0, a1, c1, ⟨d0, d1⟩, hs, hv⟩ := hxc k hlt
      have hwl := hw ks[k] (List.getElem_mem hlt)
      have HYES : Hid ((ks[k].ws.any hasLf) = true → anyLf ks = true) := fun e => any_yes (p := fun t : Kv => t.ws.any hasLf) hlt e
      have HNX : Hid ((ks[k].ws.any hasLf) = false → ∀ j (hj : j < ks.length), j < k + 1 → (ks[j].ws.any hasLf) = false) := fun e => at_snoc (p := fun t : Kv => t.ws.any hasLf) HNO.out hlt e
      clear hxc HNO
      obtain ⟨ws, hws⟩ : ∃ ws, ks[k].ws = ws := ⟨_, rfl⟩
      obtain ⟨nv, hnv⟩ : ∃ ws, ks[k].vs.length = ws := ⟨_, rfl⟩
      rw [hws] at HYES HNX d0 hs hwl
      rw [hnv] at d1
      clear hws hv hnv
      go_wp2
      obtain ⟨W, hW, hsz, hB1, bm⟩ := new1 wr [.slice a0 ws.length c0, .slice a1 nv c1] 47
      rw [hW]
      have hBr := hB.trans (hB1.mono hB.size)
      have hs := hs.below hB1
      clear hW hsz d0 d1 hB1 bm
      go_loopw [16] (fun i wq => ∃ q : Nat, q ≤ ws.length ∧ i = .int .i64 q ∧ (∀ j (hj : j < ws.length), j < q → hasLf ws[j] = false) ∧ wq = W) (fun i _ => ws.length - (intOf i).toNat)
      case atStart => exact ⟨0, Nat.zero_le _, rfl, fun j _ hj => by omega, rfl⟩
      case round =>
        obtain ⟨q, hq, rfl, hno, rfl⟩ := hrel
        have HNO : Hid (∀ j (hj : j < ws.length), j < q → hasLf ws[j] = false) := hno
        clear hno
        by_cases hql : q < ws.length
        · rcases id hs with e0 | ⟨yb, yo, rfl, hyb, hyc⟩
          · rw [e0] at hql; simp at hql
          have hcy := hyc q hql
          clear hyc
          cases hh : hasLf ws[q] with
          | true =>
            have HR : Hid (anyLf ks = true) := HYES.out (any_yes (p := hasLf) hql hh)
            go_wp2_with (go_at_call 46; refine (contains_lf _ _).mono ?_; rintro e w' ⟨rfl, hw'⟩; subst w'; rw [hh])
            go_ret
            exact ⟨ret_bool HR.out.symm, hBr⟩
          | false =>
            have HR : Hid (∀ j (hj : j < ws.length), j < q + 1 → hasLf ws[j] = false) := at_snoc (p := hasLf) HNO.out hql hh
            go_wp2_with (go_at_call 46; refine (contains_lf _ _).mono ?_; rintro e w' ⟨rfl, hw'⟩; subst w'; rw [hh])
            go_roundw
            case rel => exact ⟨q + 1, by omega, by go_num, HR.out, by first | rfl | trivial⟩
            case measure => simp [intOf]; omega
        · have HR : Hid (∀ j (hj : j < ks.length), j < k + 1 → (ks[j].ws.any hasLf) = false) := HNX.out (any_no fun j hj => HNO.out j hj (by omega))
          go_wp2
          go_roundw
          case rel => exact ⟨k + 1, by omega, by go_num, HR.out, hBr⟩
          case measure => simp [intOf]; omega
    · have HR : Hid (anyLf ks = false) := any_no (p := fun t : Kv => t.ws.any hasLf) fun j hj => HNO.out j hj (by omega)
      go_wp2
      go_ret
      exact ⟨ret_bool HR.out.symm, hB⟩
set_option maxHeartbeats 2000000 in
theorem isummed (w : World) (ak ax : Option Addr) (ck ct : Nat) (m : M) (h : Rm w ak ax m) (hm : Mn m) (hT : Nu.Tab w) :
    Calls Tryz.prog 22 #[.agg #[.int .i64 m.n, .int .i64 m.c, .int .i64 m.prior, .int .i64 m.base, .slice ak m.ks.length ck, .slice ax m.ts.length ct]] w fun e w' => e = .returned (.string ⟨(body m).toArray⟩) ∧ Below w.heap.size w w' := by
  have HH : Hid (body m = head m ++ ctxts m.ks ++ ttxts m.ts) := rfl
  have hhl := head_len hm
  have hkl := hm.k
  have htl := hm.t
  go_enter Tryz.func22, Tryz.ntmps22
  go_wp2_with fail
  obtain ⟨W, hW, hsz, hB, bm⟩ := new1 w [.int .i64 m.n, .int .i64 m.c, .int .i64 m.prior, .int .i64 m.base, .slice ak m.ks.length ck, .slice ax m.ts.length ct] 29
  rw [hW]
  obtain ⟨W1, hW1, hBr, hbu, hs1⟩ := bu_new W (w.heap.size + 1) hsz.symm
  rw [hW1]
  clear hW hW1 hs1 hsz
  have hT := hT.below hB
  have h := h.below hB
  refine (ihead _ _ _ _ _ m hm (hT.below hBr)).mono ?_
  rintro e w2 ⟨rfl, hB2⟩
  have hbu := hbu.below hB2
  have hBr := hBr.trans (hB2.mono hBr.size)
  clear hB2
  go_wp2_with fail
  refine (wrote _ _ _ _ _ hbu (by rw [ba_size]; simp; omega) hBr.size).mono ?_
  rintro e w3 ⟨rfl, hbu, hB3⟩
  have hBr := hBr.trans hB3
  clear hB3
  obtain ⟨_, ⟨x0, x1, x2, x3, x4, x5⟩, _⟩ := wr6 (bm.below hBr)
  have HBU : Hid (Bu w3 W.heap.size (w.heap.size + 1) (head m ++ ctxts (m.ks.take 0))) := by show Bu _ _ _ _; simpa [ctxts] using hbu
  clear hbu
  go_wp2
  go_loopw [14] (fun i wr => ∃ k : Nat, k ≤ m.ks.length ∧ i = .int .i64 k ∧ Bu wr W.heap.size (w.heap.size + 1) (head m ++ ctxts (m.ks.take k)) ∧ Below W.heap.size W wr) (fun i _ => m.ks.length - (intOf i).toNat)
  case atStart => exact ⟨0, Nat.zero_le _, rfl, HBU.out, hBr⟩
  case round =>
    obtain ⟨k, hk, rfl, hbl, hBr⟩ := hrel
    clear HBU x0 x1 x2 x3 x4 x5
    have hnl2 : (ctxts (m.ks.take k)).length ≤ 5838 := ctxts_len (by have := List.length_take_le k m.ks; omega) (take_mem hm.ks k)
    by_cases hlt : k < m.ks.length
    · rcases h.k.below hBr with e0 | ⟨xb, xo, rfl, hxb, hxc⟩
      · rw [e0] at hlt; simp at hlt
      obtain ⟨a0, c0, a1, c1, ⟨d0, d1⟩, hs, hv⟩ := hxc k hlt
      have HN : Hid (ctxts (m.ks.take (k + 1)) = ctxts (m.ks.take k) ++ ctxt m.ks[k]) := ctxts_take m.ks k hlt
      have hkn := hm.ks m.ks[k] (List.getElem_mem hlt)
      have hcl := ctxt_len hkn
      clear hxc
      generalize m.ks[k] = t at d0 d1 hs hv HN hkn hcl
      go_wp2_with fail
      obtain ⟨W2, hW2, hsz2, hB1, bt⟩ := new1 wr [.slice a0 t.ws.length c0, .slice a1 t.vs.length c1] 47
      rw [hW2]
      have hbl := hbl.below hB1
      have hBr := hBr.trans (hB1.mono hBr.size)
      refine (ictxt _ _ _ _ _ t (hs.below hB1) (hv.below hB1) hkn (hT.below hBr)).mono ?_
      rintro e w4 ⟨rfl, hB2⟩
      have hbl := hbl.below hB2
      have hBr := hBr.trans (hB2.mono hBr.size)
      clear hB1 hB2 hW2 hsz2 bt d0 d1 hs hv hxb
      go_wp2_with fail
      refine (wrote _ _ _ _ _ hbl (by rw [ba_size]; simp; omega) hBr.size).mono ?_
      rintro e w5 ⟨rfl, hb2, hB2⟩
      have hBr := hBr.trans hB2
      have HB : Hid (Bu w5 W.heap.size (w.heap.size + 1) (head m ++ ctxts (m.ks.take (k + 1)))) := by
        show Bu _ _ _ _
        rw [HN.out]
        simpa using hb2
      clear hb2 hB2 hbl
      go_wp2
      go_roundw
      case rel => exact ⟨k + 1, by omega, by go_num, HB.out, hBr⟩
      case measure => simp [intOf]; omega
    · have e1 : m.ks.take k = m.ks := List.take_of_length_le (by omega)
      rw [e1] at hbl hnl2
      clear e1
      obtain ⟨_, ⟨x0, x1, x2, x3, x4, x5⟩, _⟩ := wr6 (bm.below hBr)
      obtain ⟨X, hX⟩ : ∃ X, head m ++ ctxts m.ks = X := ⟨_, rfl⟩
      have hXl : X.length ≤ 5932 := by rw [← hX, List.length_append]; omega
      rw [hX] at hbl HH
      have HBU : Hid (Bu wr W.heap.size (w.heap.size + 1) (X ++ ttxts (m.ts.take 0))) := by show Bu _ _ _ _; simpa [ttxts] using hbl
      clear hX hbl
      go_wp2
      go_loopw [25] (fun i wr => ∃ k : Nat, k ≤ m.ts.length ∧ i = .int .i64 k ∧ Bu wr W.heap.size (w.heap.size + 1) (X ++ ttxts (m.ts.take k)) ∧ Below W.heap.size W wr) (fun i _ => m.ts.length - (intOf i).toNat)
      case atStart => exact ⟨0, Nat.zero_le _, rfl, HBU.out, hBr⟩
      case round =>
        obtain ⟨q, hq, rfl, hbl, hBr⟩ := hrel
        clear HBU x0 x1 x2 x3 x4 x5
        have hnl2 : (ttxts (m.ts.take q)).length ≤ 6420 := ttxts_len (by have := List.length_take_le q m.ts; omega) (take_mem hm.ts q)
        by_cases hlt2 : q < m.ts.length
        · rcases h.t.below hBr with e0 | ⟨xb, xo, rfl, hxb, hxc⟩
          · rw [e0] at hlt2; simp at hlt2
          obtain ⟨v0, v1, ⟨d0, d1⟩, htr⟩ := hxc q hlt2
          have HN : Hid (ttxts (m.ts.take (q + 1)) = ttxts (m.ts.take q) ++ ttxt m.ts[q]) := ttxts_take m.ts q hlt2
          have hkn := hm.ts m.ts[q] (List.getElem_mem hlt2)
          have hcl := ttxt_len hkn
          clear hxc
          generalize m.ts[q] = t at d0 d1 htr HN hkn hcl
          obtain ⟨a0, c0, a1, c1, rfl, rfl, hp, hv⟩ := htr
          go_wp2_with fail
          obtain ⟨W2, hW2, hsz2, hB1, bt⟩ := new1 wr [.slice a0 t.sp.length c0, .slice a1 t.lv.length c1] 56
          rw [hW2]
          have hbl := hbl.below hB1
          have hBr := hBr.trans (hB1.mono hBr.size)
          refine (ittxt _ _ _ _ _ t (hp.below hB1) (hv.below hB1) hkn (hT.below hBr)).mono ?_
          rintro e w4 ⟨rfl, hB2⟩
          have hbl := hbl.below hB2
          have hBr := hBr.trans (hB2.mono hBr.size)
          clear hB1 hB2 hW2 hsz2 bt d0 d1 hp hv hxb
          go_wp2_with fail
          refine (wrote _ _ _ _ _ hbl (by rw [ba_size]; simp; omega) hBr.size).mono ?_
          rintro e w5 ⟨rfl, hb2, hB2⟩
          have hBr := hBr.trans hB2
          have HB : Hid (Bu w5 W.heap.size (w.heap.size + 1) (X ++ ttxts (m.ts.take (q + 1)))) := by
            show Bu _ _ _ _
            rw [HN.out]
            simpa using hb2
          clear hb2 hB2 hbl
          go_wp2
          go_roundw
          case rel => exact ⟨q + 1, by omega, by go_num, HB.out, hBr⟩
          case measure => simp [intOf]; omega
        · have e1 : m.ts.take q = m.ts := List.take_of_length_le (by omega)
          rw [e1, ← HH.out] at hbl
          clear e1
          go_wp2_with fail
          refine (told _ _ _ _ hbl hBr.size).mono ?_
          rintro e w3 ⟨rfl, hB3⟩
          have hBe := hB.trans ((hBr.trans hB3).mono hB.size)
          go_wp2
          go_ret
          exact ⟨rfl, hBe⟩
set_option maxHeartbeats 2000000 in
theorem imtext (w : World) (ak ax : Option Addr) (ck ct : Nat) (m : M) (h : Rm w ak ax m) (hl : m.sz ≤ 1048576) (hT : Nu.Tab w) :
    Calls Tryz.prog 7 #[.agg #[.int .i64 m.n, .int .i64 m.c, .int .i64 m.prior, .int .i64 m.base, .slice ak m.ks.length ck, .slice ax m.ts.length ct]] w fun e w' => e = .returned (.string ⟨(mtext m).toArray⟩) ∧ Below w.heap.size w w' := by
  go_enter Tryz.func7, Tryz.ntmps7
  go_wp2_with fail
  obtain ⟨W, hW, hsz, hB, bm⟩ := new1 w [.int .i64 m.n, .int .i64 m.c, .int .i64 m.prior, .int .i64 m.base, .slice ak m.ks.length ck, .slice ax m.ts.length ct] 29
  rw [hW]
  clear hW hsz
  refine (imok _ _ _ _ _ m (h.below hB) hl).mono ?_
  rintro e w1 ⟨rfl, hb⟩
  have bm := bm.below hb
  have hB := hB.trans (hb.mono hB.size)
  clear hb
  cases h1 : mok m with
  | false =>
    have HR : Hid (mtext m = []) := mtext_no h1
    go_wp2
    go_ret
    exact ⟨by rw [HR.out]; rfl, hB⟩
  | true =>
  have hm := mok_mn h1
  have HOK : Hid (mok m = true) := h1
  clear h1
  obtain ⟨_, ⟨x0, x1, x2, x3, x4, x5⟩, _⟩ := wr6 bm
  go_wp2_with fail
  refine (ianylf _ _ _ m.ks (h.below hB).k (by have := hm.k; omega) (fun t ht => by have := (hm.ks t ht).1; omega)).mono ?_
  rintro e w2 ⟨rfl, hb⟩
  have bm := bm.below hb
  have hB := hB.trans (hb.mono hB.size)
  clear hb x0 x1 x2 x3 x4 x5
  cases h1 : anyLf m.ks with
  | true =>
    have HR : Hid (mtext m = []) := mtext_lf h1
    go_wp2
    go_ret
    exact ⟨by rw [HR.out]; rfl, hB⟩
  | false =>
  have HR : Hid (mtext m = whole m) := mtext_yes HOK.out h1
  have HWH : Hid (whole m = body m ++ ([115, 117, 109] ++ nums [(Cr.crc (body m) : Int)] ++ [10])) := rfl
  have hbl := body_len hm
  have hwl := whole_len hm
  clear h1
  obtain ⟨_, ⟨x0, x1, x2, x3, x4, x5⟩, _⟩ := wr6 bm
  go_wp2_with fail
  refine (isummed _ _ _ _ _ m (h.below hB) hm (hT.below hB)).mono ?_
  rintro e w3 ⟨rfl, hb⟩
  have hB := hB.trans (hb.mono hB.size)
  have hi := crc_i64 (body m)
  obtain ⟨X, hX⟩ : ∃ X, body m = X := ⟨_, rfl⟩
  rw [hX] at HWH hi hbl ⊢
  rw [HWH.out] at hwl
  clear hb x0 x1 x2 x3 x4 x5 bm hX
  have hi' : ∀ x ∈ [(Cr.crc X : Int)], i64 x := by intro x hx; simp at hx; subst hx; exact hi
  have hnl := nums_len _ hi'
  have hcr := Cr.crc_lt X
  have hic := Cr.icrc ⟨X.toArray⟩ w3 (by rw [ba_size]; omega)
  simp only [List.length_cons, List.length_nil] at hnl
  have hdl : (ByteArray.mk X.toArray).data.toList = X := by simp
  rw [hdl] at hic
  clear hdl
  have hlen : X.length + 3 + (nums [(Cr.crc X : Int)]).length + 1 ≤ 12400 := by simp at hwl; omega
  clear hwl
  go_wp2_with (go_at_call 15; refine hic.mono ?_; rintro e w' ⟨rfl, hw'⟩; subst w')
  have hB1 : Below w.heap.size w (w3.alloc (.cells #[.int .i64 (Cr.crc X : Nat)] 3)) := hB.alloc hB.size _
  refine (ispaced _ _ _ [(Cr.crc X : Int)] (isl_lit w3 [(Cr.crc X : Int)] 3 _ _ rfl rfl) hi' (by simp) (hT.below hB1)).mono ?_
  rintro e w4 ⟨rfl, hB2⟩
  have hB := hB1.trans (hB2.mono hB1.size)
  clear hB1 hB2 hic hi hi' hcr
  generalize nums [(Cr.crc X : Int)] = Y at hnl hlen HWH ⊢
  go_upto_region 5 with fail
  have HE : Hid ((⟨X.toArray⟩ : ByteArray) ++ ⟨#[115, 117, 109]⟩ ++ ⟨Y.toArray⟩ ++ ⟨#[10]⟩ = ⟨(X ++ ([115, 117, 109] ++ Y ++ [10])).toArray⟩) := ba_ext (by simp)
  rw [HE.out]
  have hZ : (X ++ ([115, 117, 109] ++ Y ++ [10])).length ≤ 12400 := by simp; omega
  generalize X ++ ([115, 117, 109] ++ Y ++ [10]) = Z at hZ HWH ⊢
  clear hlen hnl hbl HE
  go_wp2
  go_ret
  exact ⟨by rw [HR.out, HWH.out]; rfl, hB⟩
end Go.Proofs.YtaojoamldoofpaaGreatDoor.Mt
