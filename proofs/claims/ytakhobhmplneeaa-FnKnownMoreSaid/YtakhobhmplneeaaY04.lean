/-
  When the names of data types and constructors differ: the program's function. No statement is proved here.
-/
import Derived.Test.YtakhobhmplneeaaY03
import Derived.BigQuiet
import Derived.Deep.QuietTactic
namespace Go.Proofs.Ytakhobhmplneeaa
open Go.RowKit
set_option maxRecDepth 100000
set_option linter.unusedVariables false
abbrev bs (s : ByteArray) : List UInt8 := s.data.toList
/-- The names of the data types before place k; the names of the constructors before place j of data type k. -/
def SD (l : List Da) (k : Nat) (t : List UInt8) : Prop := ∃ i, ∃ h : i < l.length, i < k ∧ bs l[i].name = t
def SC (l : List Da) (k j : Nat) (t : List UInt8) : Prop := ∃ i, ∃ h : i < l.length, ∃ m, ∃ hm : m < l[i].ctors.length, (i < k ∨ (i = k ∧ m < j)) ∧ bs l[i].ctors[m].name = t
theorem SD.zero (l : List Da) (t : List UInt8) : False ↔ SD l 0 t := ⟨False.elim, fun ⟨i, _, h, _⟩ => absurd h (by omega)⟩
theorem SC.zero (l : List Da) (t : List UInt8) : False ↔ SC l 0 0 t := ⟨False.elim, fun ⟨i, _, m, _, h, _⟩ => by omega⟩
theorem SD.succ (l : List Da) (k : Nat) (hk : k < l.length) (t : List UInt8) : (t = bs l[k].name ∨ SD l k t) ↔ SD l (k + 1) t := by
  constructor
  · rintro (rfl | ⟨i, h, h1, h2⟩)
    · exact ⟨k, hk, by omega, rfl⟩
    · exact ⟨i, h, by omega, h2⟩
  · rintro ⟨i, h, h1, h2⟩
    by_cases e : i = k
    · subst e; exact .inl h2.symm
    · exact .inr ⟨i, h, by omega, h2⟩
theorem SC.succ (l : List Da) (k j : Nat) (hk : k < l.length) (hj : j < l[k].ctors.length) (t : List UInt8) : (t = bs l[k].ctors[j].name ∨ SC l k j t) ↔ SC l k (j + 1) t := by
  constructor
  · rintro (rfl | ⟨i, h, m, hm, h1, h2⟩)
    · exact ⟨k, hk, j, hj, .inr ⟨rfl, by omega⟩, rfl⟩
    · exact ⟨i, h, m, hm, by omega, h2⟩
  · rintro ⟨i, h, m, hm, h1, h2⟩
    by_cases e : i = k ∧ m = j
    · obtain ⟨rfl, rfl⟩ := e; exact .inl h2.symm
    · exact .inr ⟨i, h, m, hm, by omega, h2⟩
theorem SC.next (l : List Da) (k : Nat) (hk : k < l.length) (t : List UInt8) : SC l k l[k].ctors.length t ↔ SC l (k + 1) 0 t := by
  constructor
  · rintro ⟨i, h, m, hm, h1, h2⟩
    exact ⟨i, h, m, hm, by omega, h2⟩
  · rintro ⟨i, h, m, hm, h1, h2⟩
    refine ⟨i, h, m, hm, ?_, h2⟩
    by_cases e : i = k
    · subst e; exact .inr ⟨rfl, hm⟩
    · omega
/-- The names from data type d on that are new. -/
def NewC (l : List Da) (d : Nat) (hd : d < l.length) (k : Nat) : Prop := ∀ j (h : j < l[d].ctors.length), j < k → ¬ SC l d j (bs l[d].ctors[j].name)
def NewD (l : List Da) (k : Nat) : Prop := ∀ d (h : d < l.length), d < k → ¬ SD l d (bs l[d].name) ∧ NewC l d h l[d].ctors.length
def Differ (l : List Da) : Prop := NewD l l.length
theorem NewC.zero (l : List Da) (d : Nat) (hd : d < l.length) : NewC l d hd 0 := fun j _ h => absurd h (by omega)
theorem NewC.step {l : List Da} {d : Nat} {hd : d < l.length} {k : Nat} (h : NewC l d hd k) (hk : k < l[d].ctors.length) (e : ¬ SC l d k (bs l[d].ctors[k].name)) : NewC l d hd (k + 1) := by
  intro j hj hjk
  by_cases e' : j = k
  · subst e'; exact e
  · exact h j hj (by omega)
theorem NewD.zero (l : List Da) : NewD l 0 := fun j _ h => absurd h (by omega)
theorem NewD.step {l : List Da} {k : Nat} (h : NewD l k) (hk : k < l.length) (e : ¬ SD l k (bs l[k].name)) (e2 : NewC l k hk l[k].ctors.length) : NewD l (k + 1) := by
  intro d hd hdk
  by_cases e' : d = k
  · subst e'; exact ⟨e, e2⟩
  · exact h d hd (by omega)
theorem not_differ_d {l : List Da} {k : Nat} (hk : k < l.length) (e : SD l k (bs l[k].name)) : ¬ Differ l := fun h => (h k hk hk).1 e
theorem not_differ_c {l : List Da} {k j : Nat} (hk : k < l.length) (hj : j < l[k].ctors.length) (e : SC l k j (bs l[k].ctors[j].name)) : ¬ Differ l := fun h => (h k hk hk).2 j hj hj e
theorem MapSet.at_ {w w' : World} {b n : Nat} {S : List UInt8 → Prop} (h : MapSet w b n S) (hb : Below w.heap.size w w') : MapSet w' b n S := h.keep (hb.block b h.lt) (Nat.le_refl _) (fun _ => Iff.rfl)
set_option maxHeartbeats 1600000 in
theorem namesDiffer_any (A : Option Addr) (l : List Da) (cap : Nat) (w : World) (hr : RDas w w.heap.size A l) (h4 : l.length ≤ 4) (h44 : ∀ d (h : d < l.length), l[d].ctors.length ≤ 4) :
    Calls Try.prog 79 #[.slice A l.length cap] w fun e w' => e = .returned (.bool (dec (Differ l))) ∧ Below w.heap.size w w' := by
  have Hr := Lib.hid hr
  have H44 := Lib.hid h44
  clear hr h44
  have hmm := @run_makeMap Try.prog
  go_enter Try.func79, Try.ntmps79
  go_wp2_with fail
  go_loopw [13] (fun i wr => ∃ k : Nat, k ≤ l.length ∧ i = .int .i64 k ∧ NewD l k ∧ MapSet wr w.heap.size k (SD l k) ∧ MapSet wr (w.heap.size + 1) (4 * k) (SC l k 0) ∧ Below w.heap.size w wr) (fun i _ => l.length - (intOf i).toNat)
  case atStart =>
    have m1 : MapSet ((w.alloc (.map #[] 0)).alloc (.map #[] 0)) w.heap.size 0 (SD l 0) := (MapSet.made w).keep (Below.heap_alloc _ _ _ (by simp)) (Nat.le_refl _) (SD.zero l)
    have m2 : MapSet ((w.alloc (.map #[] 0)).alloc (.map #[] 0)) (w.heap.size + 1) 0 (SC l 0 0) := by
      have := (MapSet.made (w.alloc (.map #[] 0))).keep (w' := (w.alloc (.map #[] 0)).alloc (.map #[] 0)) (S' := SC l 0 0) rfl (Nat.le_refl _) (SC.zero l)
      rwa [World.size_alloc] at this
    exact ⟨0, by omega, rfl, NewD.zero l, m1, m2, ((Below.refl _ _).alloc (Nat.le_refl _) _).alloc (by simp) _⟩
  case round =>
    obtain ⟨k, hk, rfl, hnew, hs1, hs2, hb⟩ := hrel
    clear hmm
    by_cases hlt : k < l.length
    · obtain ⟨b, off, rfl, hbB, A', cp, c0, c1, hsz, hm⟩ := (Hr.out.below hb (Nat.le_refl _)).2 k hlt
      have hk4 := H44.out k hlt
      have Hm := Lib.hid (hm.keep (w' := w) (fun p hp => (hb.cell hp).symm) (Nat.le_refl _))
      clear hm
      have hbs := hb.size
      have hl0 := hs1.lt
      have hl1 := hs2.lt
      have HS1 := Lib.hid hs1
      have HS2 := Lib.hid hs2
      clear hs1 hs2
      have hlook : ∀ o : Obj, (Instr.lookup 121 (.map (some w.heap.size)) (.string l[k].name) false).run Try.prog (wr.alloc o) = .ok (.bool (dec (SD l k (bs l[k].name)))) (wr.alloc o) := fun o => (HS1.out.keep (w' := wr.alloc o) (Below.heap_alloc wr o _ HS1.out.lt) (Nat.le_refl _) (fun _ => Iff.rfl)).look hsz
      by_cases hin : SD l k (bs l[k].name)
      · have hd := dec_t hin
        have HI := Lib.hid hin
        clear hin
        go_wp2_with fail
        go_ret
        exact ⟨ret_bool (dec_f (not_differ_d hlt HI.out)).symm, hb.alloc (by omega) _⟩
      · have hd := dec_f hin
        have HI := Lib.hid hin
        clear hin
        obtain ⟨D, ho, hmD, hat⟩ := HS1.out
        have HA := Lib.hid hat
        have HO := Lib.hid ho
        have HM := Lib.hid hmD
        clear hat ho hmD
        have hkm : k < maxLen := by unfold maxLen; omega
        go_wp2_with (at_mapUpdate; refine wpList_mapUpdate_own _ rfl _ _ _ 121 rfl 9 4 (Go.Maps.string_keyed Try.underlying9) Try.underlying121 (plainElem Try.prog 4) w.heap.size k D rfl (HO.out.alloc _) hkm _ _ (.string (bs l[k].name)) rfl rfl (keyStr hsz) (.lit (.bool true)) [] (plainElem_bool Try.underlying4 true) ?_; intro w1 ho1 hg1; have e1 : w1.cell? ⟨wr.heap.size, 1, none⟩ = some (.slice A' l[k].ctors.length cp) := (World.cell?_of_block (a := ⟨wr.heap.size, 1, none⟩) (hg1.block wr.heap.size (by simp) (fun e => by injection e with e; omega))).trans (by simp [go_sem]))
        have hb1 : Below w.heap.size w w1 := (hb.alloc (by omega) _).grown hg1 (by simp; omega) (fun g e => by injection e with e; omega)
        have s1 := (MapSet.put ho1 HM.out HA.out).keep (w' := w1) rfl (Nat.le_refl _) (SD.succ l k hlt)
        have s2 : MapSet w1 (w.heap.size + 1) (4 * k) (SC l k 0) := HS2.out.keep (by have hl2 := HS2.out.lt; exact (hg1.block (w.heap.size + 1) (by simp; omega) (fun e => by injection e with e; omega)).trans (Below.heap_alloc _ _ _ hl2)) (Nat.le_refl _) (fun _ => Iff.rfl)
        have HS1' := Lib.hid s1
        have HS2' := Lib.hid s2
        have HN := Lib.hid hnew
        clear s1 s2 ho1 hlook hd hnew HS1 HS2 HA HO HM hg1 c0 c1
        go_loopw [27] (fun i wi => ∃ j : Nat, j ≤ l[k].ctors.length ∧ i = .int .i64 j ∧ NewC l k hlt j ∧ MapSet wi w.heap.size (k + 1) (SD l (k + 1)) ∧ MapSet wi (w.heap.size + 1) (4 * k + j) (SC l k j) ∧ Below w.heap.size w wi) (fun i _ => l[k].ctors.length - (intOf i).toNat)
        case atStart => exact ⟨0, by omega, rfl, NewC.zero l k hlt, HS1'.out, HS2'.out, hb1⟩
        case round =>
          obtain ⟨j, hj, rfl, hnc, hs1, hs2, hbi⟩ := hrel
          clear hb hb1 hbs HS1' HS2'
          by_cases hjt : j < l[k].ctors.length
          · obtain ⟨g, o, rfl, hgB, D1, ep, f0, f1, f2, hsz2, _⟩ := (Hm.out.below hbi (Nat.le_refl _)).2 j hjt
            have hbs := hbi.size
            have HS1 := Lib.hid hs1
            have HS2 := Lib.hid hs2
            clear hs1 hs2
            have hlook : ∀ o : Obj, (Instr.lookup 121 (.map (some (w.heap.size + 1))) (.string l[k].ctors[j].name) false).run Try.prog (wr.alloc o) = .ok (.bool (dec (SC l k j (bs l[k].ctors[j].name)))) (wr.alloc o) := fun o => (HS2.out.keep (w' := wr.alloc o) (Below.heap_alloc wr o _ HS2.out.lt) (Nat.le_refl _) (fun _ => Iff.rfl)).look hsz2
            by_cases hin : SC l k j (bs l[k].ctors[j].name)
            · have hd := dec_t hin
              have HI2 := Lib.hid hin
              clear hin
              go_wp2_with fail
              go_ret
              exact ⟨ret_bool (dec_f (not_differ_c hlt hjt HI2.out)).symm, hbi.alloc (by omega) _⟩
            · have hd := dec_f hin
              have HI2 := Lib.hid hin
              clear hin
              obtain ⟨D, ho, hmD, hat⟩ := HS2.out
              have HA := Lib.hid hat
              have HO := Lib.hid ho
              have HM := Lib.hid hmD
              clear hat ho hmD
              have hkm : 4 * k + j < maxLen := by unfold maxLen; omega
              go_wp2_with (at_mapUpdate; refine wpList_mapUpdate_own _ rfl _ _ _ 121 rfl 9 4 (Go.Maps.string_keyed Try.underlying9) Try.underlying121 (plainElem Try.prog 4) (w.heap.size + 1) (4 * k + j) D rfl (HO.out.alloc _) hkm _ _ (.string (bs l[k].ctors[j].name)) rfl rfl (keyStr hsz2) (.lit (.bool true)) [] (plainElem_bool Try.underlying4 true) ?_; intro w1 ho1 hg1)
              have hb1 : Below w.heap.size w w1 := (hbi.alloc (by omega) _).grown hg1 (by simp; omega) (fun g e => by injection e with e; omega)
              have s2 := (MapSet.put ho1 HM.out HA.out).keep (w' := w1) (n' := 4 * k + (j + 1)) rfl (by omega) (SC.succ l k j hlt hjt)
              have s1 : MapSet w1 w.heap.size (k + 1) (SD l (k + 1)) := HS1.out.keep (by have hl2 := HS1.out.lt; exact (hg1.block w.heap.size (by simp; omega) (fun e => by injection e with e; omega)).trans (Below.heap_alloc _ _ _ hl2)) (Nat.le_refl _) (fun _ => Iff.rfl)
              clear ho1 hlook hd HS1 HS2 HA HO HM hg1
              go_roundw
              case rel => exact ⟨j + 1, by omega, by go_num, hnc.step hjt HI2.out, s1, s2, hb1⟩
              case measure => simp [intOf]; omega
          · have hje : j = l[k].ctors.length := by omega
            have s2 : MapSet wr (w.heap.size + 1) (4 * (k + 1)) (SC l (k + 1) 0) := hs2.keep rfl (by omega) (fun t => by rw [hje]; exact SC.next l k hlt t)
            have HJ : Hid (NewC l k hlt l[k].ctors.length) := by unfold Hid; rw [← hje]; exact hnc
            clear hje hs2
            go_wp2_with fail
            go_roundw
            case rel => exact ⟨k + 1, by omega, by go_num, HN.out.step hlt HI.out HJ.out, hs1, s2, hbi⟩
            case measure => simp [intOf]; omega
    · go_wp2_with fail
      go_ret
      exact ⟨ret_bool (dec_t (fun d h _ => hnew d h (by omega))).symm, hb⟩
end Go.Proofs.Ytakhobhmplneeaa
/-
  When a name stands twice: the document's function. No statement is proved here.
-/
namespace Go.Proofs.Ytakhobhmplneeaa
open Go.RowKit
set_option maxRecDepth 100000
set_option linter.unusedVariables false
theorem toList_inj {a b : ByteArray} (h : a.toList = b.toList) : a = b := Go.WideShapes.bytes_inj (by rw [← ByteArray.toList_eq, ← ByteArray.toList_eq]; exact h)
theorem str_eq_f {a b : ByteArray} (h : ¬ a = b) : (a.toList == b.toList) = false := beq_eq_false_iff_ne.2 (fun e => h (toList_inj e))
theorem below_drawn {B : Nat} {w wr : World} (h : Below B w wr) (n : Nat) : Below B w (wr.drewN n) := ⟨h.os, h.tape, h.output, h.size, h.block⟩
def Tw (l : List Da) (d k : Nat) : Prop := ∃ h : d < l.length, SD l d (bs l[d].name) ∨ ∃ hk : k < l[d].ctors.length, SC l d k (bs l[d].ctors[k].name)
/-- Nothing before data type i is a twin; nothing of it before place j. -/
def NoT (l : List Da) (d : Nat) (hd : d < l.length) (k : Nat) (hk : k < l[d].ctors.length) (i : Nat) : Prop :=
  ∀ a (h : a < l.length), a < i → (a < d → ¬ l[a].name = l[d].name) ∧ ∀ m (hm : m < l[a].ctors.length), (a < d ∨ (a = d ∧ m < k)) → ¬ l[a].ctors[m].name = l[d].ctors[k].name
def NoTI (l : List Da) (d : Nat) (hd : d < l.length) (k : Nat) (hk : k < l[d].ctors.length) (i : Nat) (hi : i < l.length) (j : Nat) : Prop :=
  ∀ m (hm : m < l[i].ctors.length), m < j → (i < d ∨ (i = d ∧ m < k)) → ¬ l[i].ctors[m].name = l[d].ctors[k].name
section
variable {l : List Da} {d : Nat} {hd : d < l.length} {k : Nat} {hk : k < l[d].ctors.length} {i : Nat} {hi : i < l.length} {j : Nat}
theorem NoT.zero : NoT l d hd k hk 0 := fun a _ h => absurd h (by omega)
theorem NoTI.zero : NoTI l d hd k hk i hi 0 := fun a _ h => absurd h (by omega)
theorem NoT.step (h : NoT l d hd k hk i) (h1 : i < d → ¬ l[i].name = l[d].name) (h2 : ∀ m (hm : m < l[i].ctors.length), (i < d ∨ (i = d ∧ m < k)) → ¬ l[i].ctors[m].name = l[d].ctors[k].name) : NoT l d hd k hk (i + 1) := by
  intro a ha hai
  by_cases e : a = i
  · subst e; exact ⟨h1, h2⟩
  · exact h a ha (by omega)
theorem NoTI.step (h : NoTI l d hd k hk i hi j) (hj : j < l[i].ctors.length) (e : ¬ l[i].ctors[j].name = l[d].ctors[k].name) : NoTI l d hd k hk i hi (j + 1) := by
  intro m hm hmj hc
  by_cases e' : m = j
  · subst e'; exact e
  · exact h m hm (by omega) hc
theorem NoT.done (h : NoT l d hd k hk (d + 1)) : ¬ Tw l d k := by
  rintro ⟨_, ⟨a, ha, had, e⟩ | ⟨_, a, ha, m, hm, hc, e⟩⟩
  · exact (h a ha (by omega)).1 had (Go.WideShapes.bytes_inj e)
  · exact (h a ha (by omega)).2 m hm hc (Go.WideShapes.bytes_inj e)
theorem tw_d (hid : i < d) (hi : i < l.length) (hd : d < l.length) (e : l[i].name = l[d].name) : Tw l d k := ⟨hd, .inl ⟨i, hi, hid, by rw [e]⟩⟩
theorem tw_c (hi : i < l.length) (hd : d < l.length) (hk : k < l[d].ctors.length) (hj : j < l[i].ctors.length) (hc : i < d ∨ (i = d ∧ j < k)) (e : l[i].ctors[j].name = l[d].ctors[k].name) : Tw l d k :=
  ⟨hd, .inr ⟨hk, i, hi, j, hj, hc, by rw [e]⟩⟩
end
set_option maxHeartbeats 2000000 in
theorem twice_any (A : Option Addr) (l : List Da) (cap : Nat) (d k : Nat) (hd : d < l.length) (hk : k < l[d].ctors.length) (w : World) (hr : RDas w w.heap.size A l) :
    Calls Try.prog 73 #[.slice A l.length cap, .int .i64 d, .int .i64 k] w fun e w' => e = .returned (.bool (dec (Tw l d k))) ∧ Below w.heap.size w w' := by
  have hn := hr.1
  unfold maxLen at hn
  obtain ⟨b, off, rfl, hbB, A', cp, c0, c1, hszd, hmd⟩ := hr.2 d hd
  have hnd := hmd.1
  unfold maxLen at hnd
  obtain ⟨g, o, rfl, hgB, D1, ep, f0, f1, f2, hszk, _⟩ := hmd.2 k hk
  have Hr := Lib.hid hr
  have HMD := Lib.hid hmd
  clear hr hmd
  have HC0 := Lib.hid c0
  have HC1 := Lib.hid c1
  have HF0 := Lib.hid f0
  clear c0 c1 f0 f1 f2
  have hdI : (d : Int) < (l.length : Int) := by omega
  have hkI : (k : Int) < (l[d].ctors.length : Int) := by omega
  go_enter Try.func73, Try.ntmps73
  go_wp2_with fail
  go_loopw [7] (fun x wr => ∃ i : Nat, i ≤ d + 1 ∧ x = .int .i64 i ∧ NoT l d hd k hk i ∧ Below w.heap.size w wr) (fun x _ => d + 1 - (intOf x).toNat)
  case atStart => exact ⟨0, by omega, rfl, NoT.zero, Below.refl _ _⟩
  case round =>
    obtain ⟨i, hi, rfl, hno, hb⟩ := hrel
    have c0 := (hb.cell (p := ⟨b, off + d * 2, none⟩) hbB).trans HC0.out
    have c1 := (hb.cell (p := ⟨b, off + d * 2 + 1, none⟩) hbB).trans HC1.out
    have f0 := (hb.cell (p := ⟨g, o + k * 3, none⟩) hgB).trans HF0.out
    have HB2 : Hid (∀ n, Below w.heap.size w (wr.drewN n)) := fun n => below_drawn hb n
    by_cases hid : i < d
    · have hil : i < l.length := by omega
      have hiI : (i : Int) < (l.length : Int) := by omega
      obtain ⟨b', off', e', hbB', Ai, cpi, p0, p1, hszi, hmi⟩ := (Hr.out.below hb (Nat.le_refl _)).2 i hil
      cases e'
      have hni := hmi.1
      unfold maxLen at hni
      have Hmi := Lib.hid (hmi.keep (w' := w) (fun p hp => (hb.cell hp).symm) (Nat.le_refl _))
      have HP1 := Lib.hid ((hb.cell (p := ⟨b, off + i * 2 + 1, none⟩) hbB).symm.trans p1)
      clear hmi
      by_cases hne : l[i].name = l[d].name
      · have HT := Lib.hid (tw_d (k := k) hid hil hd hne)
        rw [hne] at p0
        clear hne
        go_wp2_with fail
        go_quiet (fail)
        go_wp2_with fail
        go_ret
        exact ⟨ret_bool (dec_t HT.out).symm, HB2.out _⟩
      · have s1 := str_eq_f hne
        have s1' : ¬ l[i].name.toList = l[d].name.toList := fun e => hne (toList_inj e)
        have HN := Lib.hid hne
        clear hne
        go_wp2_with fail
        go_quiet (fail)
        go_wp2_with fail
        go_loopw [8] (fun x wi => ∃ j : Nat, j ≤ l[i].ctors.length ∧ x = .int .i64 j ∧ NoTI l d hd k hk i hil j ∧ Below w.heap.size w wi) (fun x _ => l[i].ctors.length - (intOf x).toNat)
        case atStart => exact ⟨0, by omega, rfl, NoTI.zero, HB2.out _⟩
        case round =>
          obtain ⟨j, hj, rfl, hni2, hbi⟩ := hrel
          clear c0 c1 f0 p0 p1 HB2 hb s1 s1'
          have c1 := (hbi.cell (p := ⟨b, off + d * 2 + 1, none⟩) hbB).trans HC1.out
          have p1 := (hbi.cell (p := ⟨b, off + i * 2 + 1, none⟩) hbB).trans HP1.out
          have f0 := (hbi.cell (p := ⟨g, o + k * 3, none⟩) hgB).trans HF0.out
          have HB3 : Hid (∀ n, Below w.heap.size w (wr.drewN n)) := fun n => below_drawn hbi n
          by_cases hjt : j < l[i].ctors.length
          · have hjI : (j : Int) < (l[i].ctors.length : Int) := by omega
            obtain ⟨g', o', rfl, hgB', D2, ep2, e0, e1, e2, _, _⟩ := (Hmi.out.below hbi (Nat.le_refl _)).2 j hjt
            clear e1 e2
            by_cases hne : l[i].ctors[j].name = l[d].ctors[k].name
            · have HT := Lib.hid (tw_c hil hd hk hjt (.inl hid) hne)
              rw [hne] at e0
              clear hne
              go_wp2_with fail
              go_quiet (fail)
              go_wp2_with fail
              go_ret
              exact ⟨ret_bool (dec_t HT.out).symm, HB3.out _⟩
            · have s1 := str_eq_f hne
              have s1' : ¬ l[i].ctors[j].name.toList = l[d].ctors[k].name.toList := fun e => hne (toList_inj e)
              have HN2 := Lib.hid hne
              clear hne
              go_wp2_with fail
              go_quiet (fail)
              go_wp2_with fail
              go_roundw
              case rel => exact ⟨j + 1, by omega, by go_num, hni2.step hjt HN2.out, HB3.out _⟩
              case measure => simp [intOf]; omega
          · go_wp2_with fail
            go_roundw
            case rel => exact ⟨i + 1, by omega, by go_num, hno.step (fun _ => HN.out) (fun m hm hc => hni2 m hm (by omega) hc), hbi⟩
            case measure => simp [intOf]; omega
    · by_cases hie : i = d
      · obtain rfl : d = i := hie.symm
        clear hie
        have hdd : decide ((d : Int) < (d : Int)) = false := by simp
        clear c0 f0
        go_wp2_with fail
        go_quiet (fail)
        go_wp2_with fail
        go_loopw [8] (fun x wi => ∃ j : Nat, j ≤ k ∧ x = .int .i64 j ∧ NoTI l d hd k hk d hd j ∧ Below w.heap.size w wi) (fun x _ => k - (intOf x).toNat)
        case atStart => exact ⟨0, by omega, rfl, NoTI.zero, HB2.out _⟩
        case round =>
          obtain ⟨j, hj, rfl, hni2, hbi⟩ := hrel
          clear HB2 hb c1
          have f0 := (hbi.cell (p := ⟨g, o + k * 3, none⟩) hgB).trans HF0.out
          have c1 := (hbi.cell (p := ⟨b, off + d * 2 + 1, none⟩) hbB).trans HC1.out
          have HB3 : Hid (∀ n, Below w.heap.size w (wr.drewN n)) := fun n => below_drawn hbi n
          by_cases hjt : j < k
          · have hjl : j < l[d].ctors.length := by omega
            have hjI : (j : Int) < (l[d].ctors.length : Int) := by omega
            have hjK : (j : Int) < (k : Int) := by omega
            obtain ⟨g', o', e', hgB', D2, ep2, e0, e1, e2, _, _⟩ := (HMD.out.below hbi (Nat.le_refl _)).2 j hjl
            cases e'
            clear e1 e2
            by_cases hne : l[d].ctors[j].name = l[d].ctors[k].name
            · have HT := Lib.hid (tw_c (i := d) hd hd hk hjl (.inr ⟨rfl, hjt⟩) hne)
              rw [hne] at e0
              clear hne
              go_wp2_with fail
              go_quiet (fail)
              go_wp2_with fail
              go_ret
              exact ⟨ret_bool (dec_t HT.out).symm, HB3.out _⟩
            · have s1 := str_eq_f hne
              have s1' : ¬ l[d].ctors[j].name.toList = l[d].ctors[k].name.toList := fun e => hne (toList_inj e)
              have HN2 := Lib.hid hne
              clear hne
              go_wp2_with fail
              go_quiet (fail)
              go_wp2_with fail
              go_roundw
              case rel => exact ⟨j + 1, by omega, by go_num, hni2.step hjl HN2.out, HB3.out _⟩
              case measure => simp [intOf]; omega
          · have hjI : (j : Int) < (l[d].ctors.length : Int) := by omega
            have hjK : decide ((j : Int) < (k : Int)) = false := by simp; omega
            go_wp2_with fail
            go_roundw
            case rel => exact ⟨d + 1, by omega, by go_num, hno.step (fun h => absurd h (by omega)) (fun m hm hc => hni2 m hm (by omega) hc), hbi⟩
            case measure => simp [intOf]
      · have hi1 : i = d + 1 := by omega
        have HD : Hid (NoT l d hd k hk (d + 1)) := by rw [← hi1]; exact hno
        have hgt : (d : Int) < (i : Int) := by omega
        clear hi1 c0 c1 f0
        go_wp2_with fail
        go_ret
        exact ⟨ret_bool (dec_f HD.out.done).symm, hb⟩
end Go.Proofs.Ytakhobhmplneeaa
