/-
  The value of least depth: the program's function. No statement is proved here.
-/
import Derived.Test.YteoopmogklpnoaaU19
import Derived.Test.YteoopmogklpnoaaU14
import Derived.Test.YteoopmogklpnoaaU18
import Derived.Test.YteoopmogklpnoaaU17
namespace Go.Proofs.Yteoopmogklpnoaa
open Go.RowKit Go.Sort Go.Deep
set_option maxRecDepth 100000
set_option linter.unusedVariables false
theorem inh_pos {l : List Da} (hw : WorldOK l) : ∀ t ∈ tysN 4, Inh l t → 0 < ldep l t ∧ ldep l t ≤ 5000 := fun t _ h => by
  obtain ⟨h1, k, h2⟩ := h
  have h3 := ldep_le (Dk_bound (mkF_tys hw) h1 h2)
  rw [tysN_len] at h3
  have := hw.1
  exact ⟨ldep_pos h2, by omega⟩
set_option maxHeartbeats 1600000 in
theorem isLeast_any (pw pt pm : Nat) (A : Option Addr) (l : List Da) (cap : Nat) (t : Ty) (x : Int) (mb : Nat) (w : World) (h : M3 w pw pt pm A l cap t mb 400 (ldep l) (Inh l)) (hx : x ∈ ctR l t) (hx4 : ∀ a ∈ agR l t x, a ∈ tysN 4) (ht4 : t ∈ tysN 4) (hi : Inh l t) (hw : WorldOK l) (b : Bool) (hb : dec (mdp l (agR l t x) = ldep l t) = b) :
    Calls Try.prog 95 #[.int .i64 x, .pointer (some ⟨pw, 0, none⟩), .pointer (some ⟨pt, 0, none⟩), .pointer (some ⟨pm, 0, none⟩)] w fun e w' => e = .returned (.bool b) ∧ Below w.heap.size w w' := by
  have H := Lib.hid h
  have HX := Lib.hid hx
  have HX4 := Lib.hid hx4
  have HL : Hid (∀ w', Below w.heap.size w w' → (Instr.lookup 96 (.map (some mb)) (.agg #[.int .i64 t.data, .int .i64 t.index]) false).run Try.prog w' = .ok (.int .i64 (ldep l t)) w') := fun w' hw => by
    have := (h.map.at_ hw).look ht4
    rw [dec_t hi] at this
    exact this
  have HQ : Hid ((dpR (ldep l) (Inh l) (agR l t x) == ldep l t) = b) := by
    unfold Hid
    rw [← hb]
    by_cases e : mdp l (agR l t x) = ldep l t
    · rw [dec_t e]; exact beq_iff_eq.2 e
    · rw [dec_f e]; exact beq_eq_false_iff_ne.2 e
  have HSC := Lib.hid h.cells
  have HP := Lib.hid (inh_pos hw)
  have HBD : Hid (Below w.heap.size w w.drew) := (fun h => ⟨h.os, h.tape, h.output, h.size, h.block⟩) (Below.refl w.heap.size w)
  have hl0 := HL.out w.drew HBD.out
  clear h hx hx4 hi ht4 hb hw
  go_enter Try.func95, Try.ntmps95
  obtain ⟨s0, s1, s2, s3⟩ := HSC.out
  go_wp2_with fail
  go_region_held3 (fun w' => w'.cell? ⟨pw, 0, none⟩ = some (.slice A l.length cap) ∧ w'.cell? ⟨pt, 0, none⟩ = some (.int .i64 t.data) ∧ w'.cell? ⟨pt, 1, none⟩ = some (.int .i64 t.index) ∧ w'.cell? ⟨pm, 0, none⟩ = some (.map (some mb))) (first | exact HSC.out | exact S1.out | exact S2.out | go_keep) (first | (go_at_call 51; refine (argTypes_all _ l _ t x _ (H.out.at_ HBD.out).rd HX.out).mono ?_; rintro e w2 ⟨v, rfl, ho, hb2⟩; obtain ⟨A2, cap2, rfl, hr2⟩ := ho.form (agR_max l t x); have hbw := HBD.out.trans hb2; have hl2 := HL.out _ hbw; have M2 := Lib.hid (H.out.at_ hbw); have S1 := Lib.hid (M2.out.cells); have R2 := Lib.hid hr2; clear ho hr2 hb2) | (go_at_call 96; refine (depA_any _ _ _ _ 400 (ldep l) (Inh l) _ R2.out HX4.out M2.out.map HP.out).mono ?_; rintro e w3 ⟨rfl, hb3⟩; have hbz := hbw.trans (hb3.mono hbw.size); have hl3 := HL.out _ hbz; have S2 := Lib.hid ((H.out.at_ hbz).cells); clear hb3))
  all_goals
    go_wp2_with fail
    go_ret
    exact ⟨ret_bool HQ.out, hbz⟩
set_option maxHeartbeats 1600000 in
theorem indexL_any (A1 : Option Addr) (cap1 pw pt pm : Nat) (A : Option Addr) (l : List Da) (cap : Nat) (t : Ty) (mb : Nat) (w : World) (hr : RInts w A1 (ctR l t)) (h : M3 w pw pt pm A l cap t mb 400 (ldep l) (Inh l)) (hx4 : ∀ x ∈ ctR l t, ∀ a ∈ agR l t x, a ∈ tysN 4) (ht4 : t ∈ tysN 4) (hok : TyOK l t) (hd : ¬ t.data = -1) (hi : Inh l t) :
    Calls Try.prog 97 #[.slice A1 (ctR l t).length cap1, .func (.func 95) #[] #[.pointer (some ⟨pw, 0, none⟩), .pointer (some ⟨pt, 0, none⟩), .pointer (some ⟨pm, 0, none⟩)]] w fun e w' => ∃ (k : Nat) (hk : k < (ctR l t).length), e = .returned (.int .i64 k) ∧ fstC l t = some (ctR l t)[k] ∧ mdp l (agR l t (ctR l t)[k]) = ldep l t ∧ Below w.heap.size w w' := by
  have hRl := ctR_len l t
  have Hr := Lib.hid hr
  have H := Lib.hid h
  have HX4 := Lib.hid hx4
  have HA : Hid (∀ k, NoC l t k → k < (ctR l t).length) := fun k h => h.all hok hd hi
  have HIN := Lib.hid (And.intro ht4 hi)
  have HWO := Lib.hid hok.1
  clear hr h hx4 ht4 hok hd hi
  go_enter Try.func97, Try.ntmps97
  go_wp2_with fail
  go_loopw [8] (fun i wr => ∃ k : Nat, k ≤ (ctR l t).length ∧ i = .int .i64 k ∧ Hid (NoC l t k) ∧ Below w.heap.size w wr) (fun i _ => (ctR l t).length - (intOf i).toNat)
  case atStart => exact ⟨0, by omega, rfl, NoC.zero _ _, Below.refl _ _⟩
  case round =>
    obtain ⟨k, hk, rfl, HN, hb⟩ := hrel
    have hlt := HA.out k HN.out
    obtain ⟨b, off, rfl, hbB, c0⟩ := (Hr.out.at_ hb).2 k hlt
    have hkI : (k : Int) < ((ctR l t).length : Int) := by omega
    have HXM : Hid ((ctR l t)[k] ∈ ctR l t) := List.getElem_mem hlt
    have HM := Lib.hid (H.out.at_ hb)
    by_cases he : mdp l (agR l t (ctR l t)[k]) = ldep l t
    · have HFD := Lib.hid (HN.out.found hlt he)
      have HE := Lib.hid he
      have HIS := Lib.hid (isLeast_any pw pt pm A l cap t (ctR l t)[k] mb wr HM.out HXM.out (HX4.out _ HXM.out) HIN.out.1 HIN.out.2 HWO.out true (dec_t he))
      clear he
      go_wp2_with fail
      refine HIS.out.mono ?_
      rintro e w1 ⟨rfl, hb1⟩
      have hb2 := hb.trans (hb1.mono hb.size)
      go_wp2_with fail
      go_ret
      exact ⟨k, hlt, rfl, HFD.out, HE.out, hb2⟩
    · have HNS := Lib.hid (HN.out.step hlt he)
      have HIS := Lib.hid (isLeast_any pw pt pm A l cap t (ctR l t)[k] mb wr HM.out HXM.out (HX4.out _ HXM.out) HIN.out.1 HIN.out.2 HWO.out false (dec_f he))
      clear he
      go_wp2_with fail
      refine HIS.out.mono ?_
      rintro e w1 ⟨rfl, hb1⟩
      have hb2 := hb.trans (hb1.mono hb.size)
      go_wp2_with fail
      go_roundw
      case rel => exact ⟨k + 1, by omega, by go_num, HNS.out, hb2⟩
      case measure => simp [intOf]; omega
end Go.Proofs.Yteoopmogklpnoaa
/-
  Vl trees in blocks of their own: no part has a block of another part. No statement is proved here.
-/
namespace Go.Proofs.Yteoopmogklpnoaa
open Go.RowKit
set_option maxRecDepth 100000
set_option linter.unusedVariables false
/-- Trees in blocks of P; no part has a block of another part. -/
def OVc : Nat → World → (Nat → Prop) → Option Addr → List Vl → Prop
  | 0, _, _, _, _ => False
  | d + 1, w, P, A, l => l.length ≤ maxLen ∧ (0 < l.length → ∃ (g : Nat) (cs : Array Value) (Q : Nat → Nat → Prop), A = some ⟨g, 0, none⟩ ∧ P g ∧ w.heap[g]? = some (.cells cs 28 (0, 0)) ∧ (∀ k b, k < l.length → Q k b → P b ∧ b ≠ g ∧ ∀ j, j < l.length → j ≠ k → ¬ Q j b) ∧ ∀ k (h : k < l.length), ∃ A' cap, cs[k * 3]? = some (.int .i64 l[k].ctor) ∧ cs[k * 3 + 1]? = some (.int .i64 l[k].n) ∧ (cs[k * 3 + 2]? = some (.slice A' l[k].kids.length cap) ∧ l[k].kids.length ≤ cap ∧ cap ≤ maxLen) ∧ OVc d w (Q k) A' l[k].kids)
def OVpc (d : Nat) (w : World) (P : Nat → Prop) (g : Nat) (cs : Array Value) (Q : Nat → Nat → Prop) (l : List Vl) : Prop := P g ∧ w.heap[g]? = some (.cells cs 28 (0, 0)) ∧ (∀ k b, k < l.length → Q k b → P b ∧ b ≠ g ∧ ∀ j, j < l.length → j ≠ k → ¬ Q j b) ∧ ∀ k (h : k < l.length), ∃ A' cap, cs[k * 3]? = some (.int .i64 l[k].ctor) ∧ cs[k * 3 + 1]? = some (.int .i64 l[k].n) ∧ (cs[k * 3 + 2]? = some (.slice A' l[k].kids.length cap) ∧ l[k].kids.length ≤ cap ∧ cap ≤ maxLen) ∧ OVc d w (Q k) A' l[k].kids
theorem OVc.parts {d : Nat} {w : World} {P : Nat → Prop} {A : Option Addr} {l : List Vl} (h : OVc d w P A l) : ∃ d', d = d' + 1 ∧ l.length ≤ maxLen ∧ (0 < l.length → ∃ g cs Q, A = some ⟨g, 0, none⟩ ∧ OVpc d' w P g cs Q l) := by
  cases d with
  | zero => exact h.elim
  | succ d => exact ⟨d, rfl, h⟩
theorem OVc.mk {d : Nat} {w : World} {P : Nat → Prop} {A : Option Addr} {l : List Vl} (hl : l.length ≤ maxLen) (h : 0 < l.length → ∃ g cs Q, A = some ⟨g, 0, none⟩ ∧ OVpc d w P g cs Q l) : OVc (d + 1) w P A l := ⟨hl, h⟩
theorem OVc.nil (d : Nat) (w : World) (P : Nat → Prop) (A : Option Addr) : OVc (d + 1) w P A [] := ⟨Nat.zero_le _, fun h => absurd h (Nat.not_lt_zero _)⟩
theorem OVc.wide : ∀ (d : Nat) {w : World} {P P' : Nat → Prop} {A : Option Addr} {l : List Vl}, OVc d w P A l → (∀ b, P b → P' b) → OVc d w P' A l
  | 0, _, _, _, _, _, h, _ => h.elim
  | d + 1, _, _, _, _, _, ⟨h1, h2⟩, hp => ⟨h1, fun hl => by
    obtain ⟨g, cs, Q, e, hg, hh, hq, hc⟩ := h2 hl
    exact ⟨g, cs, Q, e, hp g hg, hh, fun k b hk hb => ⟨hp b (hq k b hk hb).1, (hq k b hk hb).2⟩, hc⟩⟩
theorem OVc.fr : ∀ (d : Nat) {w w' : World} {P P' : Nat → Prop} {A : Option Addr} {l : List Vl}, OVc d w P A l → Fr P' w w' → (∀ b, P b → ¬ P' b) → OVc d w' P A l
  | 0, _, _, _, _, _, _, h, _, _ => h.elim
  | d + 1, _, _, _, _, _, _, ⟨h1, h2⟩, hf, hp => ⟨h1, fun hl => by
    obtain ⟨g, cs, Q, e, hg, hh, hq, hc⟩ := h2 hl
    refine ⟨g, cs, Q, e, hg, hf.block hh (hp g hg), hq, fun k hk => ?_⟩
    obtain ⟨A', cap, e0, e1, e8, e9⟩ := hc k hk
    exact ⟨A', cap, e0, e1, e8, OVc.fr d e9 hf (fun b hb => hp b (hq k b hk hb).1)⟩⟩
theorem OVc.up : ∀ (d : Nat) {w : World} {P : Nat → Prop} {A : Option Addr} {l : List Vl}, OVc d w P A l → OVc (d + 1) w P A l
  | 0, _, _, _, _, h => h.elim
  | d + 1, _, _, _, _, ⟨h1, h2⟩ => ⟨h1, fun hl => by
    obtain ⟨g, cs, Q, e, hg, hh, hq, hc⟩ := h2 hl
    refine ⟨g, cs, Q, e, hg, hh, hq, fun k hk => ?_⟩
    obtain ⟨A', cap, e0, e1, e8, e9⟩ := hc k hk
    exact ⟨A', cap, e0, e1, e8, OVc.up d e9⟩⟩
theorem OVc.more {d d' : Nat} {w : World} {P : Nat → Prop} {A : Option Addr} {l : List Vl} (h : OVc d w P A l) (hd : d ≤ d') : OVc d' w P A l := by
  obtain ⟨e, rfl⟩ := Nat.exists_eq_add_of_le hd
  clear hd
  induction e with
  | zero => exact h
  | succ e ih => exact OVc.up _ ih
theorem OVc.reads : ∀ (d : Nat) {w : World} {P : Nat → Prop} {A : Option Addr} {l : List Vl}, OVc (d + 1) w P A l → RVs d w w.heap.size A l
  | d, w, P, A, l, ⟨h1, h2⟩ => ⟨h1, fun k hk => by
    obtain ⟨g, cs, Q, e, hg, hh, hq, hc⟩ := h2 (by omega)
    obtain ⟨A', cap, e0, e1, e8, e9⟩ := hc k hk
    refine ⟨g, 0, e, heap_lt hh, ?_⟩
    cases d with
    | zero => exact e9.elim
    | succ d =>
      obtain ⟨q1, q2⟩ := OVc.reads d e9
      exact ⟨A', cap, by rw [cell_of_blk hh, Nat.zero_add]; exact e0, by rw [cell_of_blk hh, Nat.zero_add]; exact e1, by rw [cell_of_blk hh, Nat.zero_add]; exact e8.1, q1, q2⟩⟩
/-- The row of a list while it is made: k parts are there, each with blocks of its own, from lo on. -/
def RowVc (d : Nat) (w : World) (lo : Nat) (og : Option Nat) (Q : Nat → Nat → Prop) (l : List Vl) (xs : List Value) (k : Nat) : Prop := ∀ j (h : j < l.length), j < k → (∀ b, Q j b → lo ≤ b ∧ b < w.heap.size ∧ some b ≠ og ∧ ∀ i, i < k → i ≠ j → ¬ Q i b) ∧ ∃ A' cap, xs[j * 3]? = some (.int .i64 l[j].ctor) ∧ xs[j * 3 + 1]? = some (.int .i64 l[j].n) ∧ (xs[j * 3 + 2]? = some (.slice A' l[j].kids.length cap) ∧ l[j].kids.length ≤ cap ∧ cap ≤ maxLen) ∧ OVc d w (Q j) A' l[j].kids
theorem RowVc.zero (d : Nat) (w : World) (lo : Nat) (og : Option Nat) (Q : Nat → Nat → Prop) (l : List Vl) (xs : List Value) : RowVc d w lo og Q l xs 0 := fun j _ h => absurd h (by omega)
theorem RowVc.fr {d : Nat} {w w' : World} {lo : Nat} {og : Option Nat} {Q : Nat → Nat → Prop} {l : List Vl} {xs : List Value} {k : Nat} {P' : Nat → Prop} (h : RowVc d w lo og Q l xs k) (hf : Fr P' w w') (hp : ∀ b, lo ≤ b → some b ≠ og → b < w.heap.size → ¬ P' b) : RowVc d w' lo og Q l xs k := fun j hj hjk => by
  obtain ⟨h1, A', cap, e0, e1, e8, e9⟩ := h j hj hjk
  refine ⟨fun b hb => ?_, A', cap, e0, e1, e8, e9.fr d hf (fun b hb => ?_)⟩
  · obtain ⟨a1, a2, a3, a4⟩ := h1 b hb
    exact ⟨a1, Nat.lt_of_lt_of_le a2 hf.size, a3, a4⟩
  · obtain ⟨a1, a2, a3, a4⟩ := h1 b hb
    exact hp b a1 a3 a2
/-- One part more: its blocks are new. -/
theorem RowVc.more {d : Nat} {w w' : World} {lo : Nat} {og : Option Nat} {Q : Nat → Nat → Prop} {l : List Vl} {xs xs' : List Value} {k cap : Nat} {A' : Option Addr} (h : RowVc d w lo og Q l xs k) (hb : Below w.heap.size w w') (hk : k < l.length) (hlo : lo ≤ w.heap.size) (hog : ∀ g, og = some g → g < w.heap.size)
    (ho : OVc d w' (Nw w w') A' l[k].kids) (hx : ∀ j c, j < k → c < 3 → xs'[j * 3 + c]? = xs[j * 3 + c]?) (e0 : xs'[k * 3]? = some (.int .i64 l[k].ctor)) (e1 : xs'[k * 3 + 1]? = some (.int .i64 l[k].n)) (e8 : xs'[k * 3 + 2]? = some (.slice A' l[k].kids.length cap) ∧ l[k].kids.length ≤ cap ∧ cap ≤ maxLen) :
    RowVc d w' lo og (fun i => if i = k then Nw w w' else Q i) l xs' (k + 1) := by
  have h' := h.fr (P' := fun _ => False) (Fr.below hb) (fun _ _ _ _ h => h)
  intro j hj hjk
  by_cases e : j = k
  · subst e
    refine ⟨fun b hq => ?_, A', cap, e0, e1, e8, ?_⟩
    · replace hq : (if j = j then Nw w w' else Q j) b := hq
      rw [if_pos rfl] at hq
      refine ⟨Nat.le_trans hlo hq.1, hq.2, fun e => ?_, fun i hi hij hqi => ?_⟩
      · have := hog b e.symm; have := hq.1; omega
      · replace hqi : (if i = j then Nw w w' else Q i) b := hqi
        rw [if_neg hij] at hqi
        have := ((h i (by omega) (by omega)).1 b hqi).2.1
        have := hq.1
        omega
    · show OVc d w' (if j = j then Nw w w' else Q j) A' l[j].kids
      rw [if_pos rfl]; exact ho
  · obtain ⟨h1, A2, c2, f0, f1, f8, f9⟩ := h' j hj (by omega)
    refine ⟨fun b hq => ?_, A2, c2, (hx j 0 (by omega) (by omega)).trans f0, (hx j 1 (by omega) (by omega)).trans f1, ⟨(hx j 2 (by omega) (by omega)).trans f8.1, f8.2⟩, ?_⟩
    · replace hq : (if j = k then Nw w w' else Q j) b := hq
      rw [if_neg e] at hq
      obtain ⟨a1, a2, a3, a4⟩ := h1 b hq
      refine ⟨a1, a2, a3, fun i hi hij hqi => ?_⟩
      replace hqi : (if i = k then Nw w w' else Q i) b := hqi
      by_cases e2 : i = k
      · rw [if_pos e2] at hqi
        have := ((h j hj (by omega)).1 b hq).2.1
        have := hqi.1
        omega
      · rw [if_neg e2] at hqi
        exact a4 i (by omega) hij hqi
    · show OVc d w' (if j = k then Nw w w' else Q j) A2 l[j].kids
      rw [if_neg e]; exact f9
theorem OVc.of_row {d : Nat} {w : World} {lo : Nat} {v : Value} {l : List Vl} {xs : List Value} {Q : Nat → Nat → Prop} (h : w.ownsRow lo 28 3 v l.length xs) (hx : RowVc d w lo v.ownBlock Q l xs l.length) (hn : l.length ≤ 1048576) : ∃ A cap, v = .slice A l.length cap ∧ OVc (d + 1) w (fun b => lo ≤ b ∧ b < w.heap.size) A l := by
  rcases h.2 with ⟨h', h0⟩ | ⟨g, cap, cur, h', hb, hg, hnc, hcm, hcs, htake⟩
  · refine ⟨none, 0, by rw [h0]; exact h', by unfold maxLen; omega, fun hl => absurd hl (by omega)⟩
  · subst h'
    refine ⟨_, cap, rfl, by unfold maxLen; omega, fun _ => ⟨g, cur, Q, rfl, ⟨hb, heap_lt hg⟩, hg, fun k b hk hq => ?_, fun k hk => ?_⟩⟩
    · obtain ⟨a1, a2, a3, a4⟩ := (hx k hk hk).1 b hq
      exact ⟨⟨a1, a2⟩, fun e => a3 (by rw [e]; rfl), a4⟩
    · obtain ⟨_, A', c', e0, e1, e8, e9⟩ := hx k hk hk
      have hat : ∀ i, i < l.length * 3 → cur[i]? = xs[i]? := fun i hi => by
        rw [← htake, List.getElem?_take_of_lt hi, Array.getElem?_toList]
      exact ⟨A', c', (hat _ (by omega)).trans e0, (hat _ (by omega)).trans e1, ⟨(hat _ (by omega)).trans e8.1, e8.2⟩, e9⟩
end Go.Proofs.Yteoopmogklpnoaa
