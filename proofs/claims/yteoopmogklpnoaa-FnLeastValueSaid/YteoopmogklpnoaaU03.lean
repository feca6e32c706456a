/-
  A map from strings to bools that the call itself has made, as a set of strings. No statement is proved here.
-/
import Derived.Test.YteoopmogklpnoaaU00
import Derived.Test.YteoopmogklpnoaaU02
import Derived.Maps.Own
import Derived.Maps.OwnOps
import Derived.Maps.Views
namespace Go.Proofs.Yteoopmogklpnoaa
open Go.RowKit Go.Maps
set_option maxRecDepth 100000
set_option linter.unusedVariables false
/-- Does it hold? -/
noncomputable def dec (p : Prop) : Bool := @decide p (Classical.propDecidable _)
theorem dec_t {p : Prop} (h : p) : dec p = true := by unfold dec; simp [h]
theorem dec_f {p : Prop} (h : ¬ p) : dec p = false := by unfold dec; simp [h]
theorem dec_congr {p q : Prop} (h : p ↔ q) : dec p = dec q := by
  by_cases hp : p
  · rw [dec_t hp, dec_t (h.1 hp)]
  · rw [dec_f hp, dec_f (fun hq => hp (h.2 hq))]
def MapSet (w : World) (b n : Nat) (S : List UInt8 → Prop) : Prop :=
  ∃ D : DataW Unit, w.ownsMap Try.prog 9 (plainElem Try.prog 4) b n D ∧ IsMap D ∧ ∀ s : List UInt8, D.atKey (.string s) (.lit (.bool false)) = .lit (.bool (dec (S s)))
theorem zero4 (w : World) : (zeroValue 4).run Try.prog w = .ok (.bool false) w := by kernel_rfl
theorem keyStr {s : ByteArray} (h : s.size ≤ maxLen) : keyOf Try.prog 9 (.string s) = some (.string s.data.toList) := Go.WideMaps.keyOf_string_mk Try.underlying9 h
theorem MapSet.made (w : World) : MapSet (w.alloc (.map #[] 0)) w.heap.size 0 (fun _ => False) :=
  ⟨.map [], World.ownsMap_made _ _ _ _, ⟨[], rfl⟩, fun s => by rw [dec_f (fun h => h)]; rfl⟩
theorem MapSet.lt {w : World} {b n : Nat} {S : List UInt8 → Prop} (h : MapSet w b n S) : b < w.heap.size := by
  obtain ⟨D, ho, _⟩ := h; exact ho.lt
theorem MapSet.keep {w w' : World} {b n n' : Nat} {S S' : List UInt8 → Prop} (h : MapSet w b n S) (hb : w'.heap[b]? = w.heap[b]?) (hn : n ≤ n') (hS : ∀ s, S s ↔ S' s) : MapSet w' b n' S' := by
  obtain ⟨D, ⟨es, clock, h1, h2, h3, h4⟩, hm, hat⟩ := h
  exact ⟨D, ⟨es, clock, hb.trans h1, h2, by omega, h4⟩, hm, fun s => by rw [hat s, dec_congr (hS s)]⟩
theorem MapSet.look {w : World} {b n : Nat} {S : List UInt8 → Prop} (h : MapSet w b n S) {s : ByteArray} (hs : s.size ≤ maxLen) : (Instr.lookup 192 (.map (some b)) (.string s) false).run Try.prog w = .ok (.bool (dec (S s.data.toList))) w := by
  obtain ⟨D, ho, hm, hat⟩ := h
  obtain ⟨v, ps, hrun, hv⟩ := ho.lookup (string_keyed Try.underlying9) Try.underlying192 (zero4 w) (zd := .lit (.bool false)) (zp := []) (plainElem_bool Try.underlying4 false) (keyStr hs)
  rw [hat] at hv
  have : v = .bool (dec (S s.data.toList)) := by
    unfold plainElem at hv
    rw [Try.underlying4] at hv
    cases v <;> simp at hv
    rw [hv.1]
  rw [hrun, this]
theorem MapSet.put {w : World} {b n : Nat} {D : DataW Unit} {S : List UInt8 → Prop} {s : List UInt8} (ho : w.ownsMap Try.prog 9 (plainElem Try.prog 4) b n (D.put (.string s) (.lit (.bool true)))) (hm : IsMap D) (hat : ∀ s : List UInt8, D.atKey (.string s) (.lit (.bool false)) = .lit (.bool (dec (S s)))) :
    MapSet w b n (fun t => t = s ∨ S t) := by
  refine ⟨_, ho, ?_, fun t => ?_⟩
  · obtain ⟨es, rfl⟩ := hm
    exact ⟨_, rfl⟩
  · by_cases e : t = s
    · subst e
      rw [atKey_put_same (k := .string t) hm True.intro, dec_t (Or.inl rfl)]
    · rw [atKey_put_other (by intro e'; injection e' with e''; exact e e''), hat, dec_congr (show S t ↔ (t = s ∨ S t) from ⟨Or.inr, fun h => h.resolve_left e⟩)]
end Go.Proofs.Yteoopmogklpnoaa
/-
  When the names of data types and constructors differ: the program's function. No statement is proved here.
-/
namespace Go.Proofs.Yteoopmogklpnoaa
open Go.RowKit
set_option maxRecDepth 100000
set_option linter.unusedVariables false
abbrev bs (s : ByteArray) : List UInt8 := s.data.toList
/-- The names of the data types before place k; the names of the constructors before place j of data type k. -/
def SD (l : List Da) (k : Nat) (t : List UInt8) : Prop := ∃ i, ∃ h : i < l.length, i < k ∧ bs l[i].name = t
def SC (l : List Da) (k j : Nat) (t : List UInt8) : Prop := ∃ i, ∃ h : i < l.length, ∃ m, ∃ hm : m < l[i].ctors.length, (i < k ∨ (i = k ∧ m < j)) ∧ bs l[i].ctors[m].name = t
theorem SD.zero (l : List Da) (t : List UInt8) : False ↔ SD l 0 t := ⟨False.elim, fun ⟨i, _, h, _⟩ => absurd h (by omega)⟩
theorem SC.zero (l : List Da) (t : List UInt8) : False ↔ SC l 0 0 t := ⟨False.elim, fun ⟨i, _, m, _, h, _⟩ => by omega⟩
theorem SD.succ (l : List Da) (k : Nat) (hk : k < l.length) (t : List UInt8) : (t = bs l[k].name ∨ SD l k t) ↔ SD l (k + 1) t := by
  constructor
  · rintro (rfl | ⟨i, h, h1, h2⟩)
    · exact ⟨k, hk, by omega, rfl⟩
    · exact ⟨i, h, by omega, h2⟩
  · rintro ⟨i, h, h1, h2⟩
    by_cases e : i = k
    · subst e; exact .inl h2.symm
    · exact .inr ⟨i, h, by omega, h2⟩
theorem SC.succ (l : List Da) (k j : Nat) (hk : k < l.length) (hj : j < l[k].ctors.length) (t : List UInt8) : (t = bs l[k].ctors[j].name ∨ SC l k j t) ↔ SC l k (j + 1) t := by
  constructor
  · rintro (rfl | ⟨i, h, m, hm, h1, h2⟩)
    · exact ⟨k, hk, j, hj, .inr ⟨rfl, by omega⟩, rfl⟩
    · exact ⟨i, h, m, hm, by omega, h2⟩
  · rintro ⟨i, h, m, hm, h1, h2⟩
    by_cases e : i = k ∧ m = j
    · obtain ⟨rfl, rfl⟩ := e; exact .inl h2.symm
    · exact .inr ⟨i, h, m, hm, by omega, h2⟩
theorem SC.next (l : List Da) (k : Nat) (hk : k < l.length) (t : List UInt8) : SC l k l[k].ctors.length t ↔ SC l (k + 1) 0 t := by
  constructor
  · rintro ⟨i, h, m, hm, h1, h2⟩
    exact ⟨i, h, m, hm, by omega, h2⟩
  · rintro ⟨i, h, m, hm, h1, h2⟩
    refine ⟨i, h, m, hm, ?_, h2⟩
    by_cases e : i = k
    · subst e; exact .inr ⟨rfl, hm⟩
    · omega
/-- The names from data type d on that are new. -/
def NewC (l : List Da) (d : Nat) (hd : d < l.length) (k : Nat) : Prop := ∀ j (h : j < l[d].ctors.length), j < k → ¬ SC l d j (bs l[d].ctors[j].name)
def NewD (l : List Da) (k : Nat) : Prop := ∀ d (h : d < l.length), d < k → ¬ SD l d (bs l[d].name) ∧ NewC l d h l[d].ctors.length
def Differ (l : List Da) : Prop := NewD l l.length
theorem NewC.zero (l : List Da) (d : Nat) (hd : d < l.length) : NewC l d hd 0 := fun j _ h => absurd h (by omega)
theorem NewC.step {l : List Da} {d : Nat} {hd : d < l.length} {k : Nat} (h : NewC l d hd k) (hk : k < l[d].ctors.length) (e : ¬ SC l d k (bs l[d].ctors[k].name)) : NewC l d hd (k + 1) := by
  intro j hj hjk
  by_cases e' : j = k
  · subst e'; exact e
  · exact h j hj (by omega)
theorem NewD.zero (l : List Da) : NewD l 0 := fun j _ h => absurd h (by omega)
theorem NewD.step {l : List Da} {k : Nat} (h : NewD l k) (hk : k < l.length) (e : ¬ SD l k (bs l[k].name)) (e2 : NewC l k hk l[k].ctors.length) : NewD l (k + 1) := by
  intro d hd hdk
  by_cases e' : d = k
  · subst e'; exact ⟨e, e2⟩
  · exact h d hd (by omega)
theorem not_differ_d {l : List Da} {k : Nat} (hk : k < l.length) (e : SD l k (bs l[k].name)) : ¬ Differ l := fun h => (h k hk hk).1 e
theorem not_differ_c {l : List Da} {k j : Nat} (hk : k < l.length) (hj : j < l[k].ctors.length) (e : SC l k j (bs l[k].ctors[j].name)) : ¬ Differ l := fun h => (h k hk hk).2 j hj hj e
theorem MapSet.at_ {w w' : World} {b n : Nat} {S : List UInt8 → Prop} (h : MapSet w b n S) (hb : Below w.heap.size w w') : MapSet w' b n S := h.keep (hb.block b h.lt) (Nat.le_refl _) (fun _ => Iff.rfl)
set_option maxHeartbeats 1600000 in
theorem namesDiffer_any (A : Option Addr) (l : List Da) (cap : Nat) (w : World) (hr : RDas w w.heap.size A l) (h4 : l.length ≤ 4) (h44 : ∀ d (h : d < l.length), l[d].ctors.length ≤ 4) :
    Calls Try.prog 104 #[.slice A l.length cap] w fun e w' => e = .returned (.bool (dec (Differ l))) ∧ Below w.heap.size w w' := by
  have Hr := Lib.hid hr
  have H44 := Lib.hid h44
  clear hr h44
  have hmm := @run_makeMap Try.prog
  go_enter Try.func104, Try.ntmps104
  go_wp2_with fail
  go_loopw [13] (fun i wr => ∃ k : Nat, k ≤ l.length ∧ i = .int .i64 k ∧ NewD l k ∧ MapSet wr w.heap.size k (SD l k) ∧ MapSet wr (w.heap.size + 1) (4 * k) (SC l k 0) ∧ Below w.heap.size w wr) (fun i _ => l.length - (intOf i).toNat)
  case atStart =>
    have m1 : MapSet ((w.alloc (.map #[] 0)).alloc (.map #[] 0)) w.heap.size 0 (SD l 0) := (MapSet.made w).keep (Below.heap_alloc _ _ _ (by simp)) (Nat.le_refl _) (SD.zero l)
    have m2 : MapSet ((w.alloc (.map #[] 0)).alloc (.map #[] 0)) (w.heap.size + 1) 0 (SC l 0 0) := by
      have := (MapSet.made (w.alloc (.map #[] 0))).keep (w' := (w.alloc (.map #[] 0)).alloc (.map #[] 0)) (S' := SC l 0 0) rfl (Nat.le_refl _) (SC.zero l)
      rwa [World.size_alloc] at this
    exact ⟨0, by omega, rfl, NewD.zero l, m1, m2, ((Below.refl _ _).alloc (Nat.le_refl _) _).alloc (by simp) _⟩
  case round =>
    obtain ⟨k, hk, rfl, hnew, hs1, hs2, hb⟩ := hrel
    clear hmm
    by_cases hlt : k < l.length
    · obtain ⟨b, off, rfl, hbB, A', cp, c0, c1, hsz, hm⟩ := (Hr.out.below hb (Nat.le_refl _)).2 k hlt
      have hk4 := H44.out k hlt
      have Hm := Lib.hid (hm.keep (w' := w) (fun p hp => (hb.cell hp).symm) (Nat.le_refl _))
      clear hm
      have hbs := hb.size
      have hl0 := hs1.lt
      have hl1 := hs2.lt
      have HS1 := Lib.hid hs1
      have HS2 := Lib.hid hs2
      clear hs1 hs2
      have hlook : ∀ o : Obj, (Instr.lookup 192 (.map (some w.heap.size)) (.string l[k].name) false).run Try.prog (wr.alloc o) = .ok (.bool (dec (SD l k (bs l[k].name)))) (wr.alloc o) := fun o => (HS1.out.keep (w' := wr.alloc o) (Below.heap_alloc wr o _ HS1.out.lt) (Nat.le_refl _) (fun _ => Iff.rfl)).look hsz
      by_cases hin : SD l k (bs l[k].name)
      · have hd := dec_t hin
        have HI := Lib.hid hin
        clear hin
        go_wp2_with fail
        go_ret
        exact ⟨ret_bool (dec_f (not_differ_d hlt HI.out)).symm, hb.alloc (by omega) _⟩
      · have hd := dec_f hin
        have HI := Lib.hid hin
        clear hin
        obtain ⟨D, ho, hmD, hat⟩ := HS1.out
        have HA := Lib.hid hat
        have HO := Lib.hid ho
        have HM := Lib.hid hmD
        clear hat ho hmD
        have hkm : k < maxLen := by unfold maxLen; omega
        go_wp2_with (at_mapUpdate; refine wpList_mapUpdate_own _ rfl _ _ _ 192 rfl 9 4 (Go.Maps.string_keyed Try.underlying9) Try.underlying192 (plainElem Try.prog 4) w.heap.size k D rfl (HO.out.alloc _) hkm _ _ (.string (bs l[k].name)) rfl rfl (keyStr hsz) (.lit (.bool true)) [] (plainElem_bool Try.underlying4 true) ?_; intro w1 ho1 hg1; have e1 : w1.cell? ⟨wr.heap.size, 1, none⟩ = some (.slice A' l[k].ctors.length cp) := (World.cell?_of_block (a := ⟨wr.heap.size, 1, none⟩) (hg1.block wr.heap.size (by simp) (fun e => by injection e with e; omega))).trans (by simp [go_sem]))
        have hb1 : Below w.heap.size w w1 := (hb.alloc (by omega) _).grown hg1 (by simp; omega) (fun g e => by injection e with e; omega)
        have s1 := (MapSet.put ho1 HM.out HA.out).keep (w' := w1) rfl (Nat.le_refl _) (SD.succ l k hlt)
        have s2 : MapSet w1 (w.heap.size + 1) (4 * k) (SC l k 0) := HS2.out.keep (by have hl2 := HS2.out.lt; exact (hg1.block (w.heap.size + 1) (by simp; omega) (fun e => by injection e with e; omega)).trans (Below.heap_alloc _ _ _ hl2)) (Nat.le_refl _) (fun _ => Iff.rfl)
        have HS1' := Lib.hid s1
        have HS2' := Lib.hid s2
        have HN := Lib.hid hnew
        clear s1 s2 ho1 hlook hd hnew HS1 HS2 HA HO HM hg1 c0 c1
        go_loopw [27] (fun i wi => ∃ j : Nat, j ≤ l[k].ctors.length ∧ i = .int .i64 j ∧ NewC l k hlt j ∧ MapSet wi w.heap.size (k + 1) (SD l (k + 1)) ∧ MapSet wi (w.heap.size + 1) (4 * k + j) (SC l k j) ∧ Below w.heap.size w wi) (fun i _ => l[k].ctors.length - (intOf i).toNat)
        case atStart => exact ⟨0, by omega, rfl, NewC.zero l k hlt, HS1'.out, HS2'.out, hb1⟩
        case round =>
          obtain ⟨j, hj, rfl, hnc, hs1, hs2, hbi⟩ := hrel
          clear hb hb1 hbs HS1' HS2'
          by_cases hjt : j < l[k].ctors.length
          · obtain ⟨g, o, rfl, hgB, D1, ep, f0, f1, f2, hsz2, _⟩ := (Hm.out.below hbi (Nat.le_refl _)).2 j hjt
            have hbs := hbi.size
            have HS1 := Lib.hid hs1
            have HS2 := Lib.hid hs2
            clear hs1 hs2
            have hlook : ∀ o : Obj, (Instr.lookup 192 (.map (some (w.heap.size + 1))) (.string l[k].ctors[j].name) false).run Try.prog (wr.alloc o) = .ok (.bool (dec (SC l k j (bs l[k].ctors[j].name)))) (wr.alloc o) := fun o => (HS2.out.keep (w' := wr.alloc o) (Below.heap_alloc wr o _ HS2.out.lt) (Nat.le_refl _) (fun _ => Iff.rfl)).look hsz2
            by_cases hin : SC l k j (bs l[k].ctors[j].name)
            · have hd := dec_t hin
              have HI2 := Lib.hid hin
              clear hin
              go_wp2_with fail
              go_ret
              exact ⟨ret_bool (dec_f (not_differ_c hlt hjt HI2.out)).symm, hbi.alloc (by omega) _⟩
            · have hd := dec_f hin
              have HI2 := Lib.hid hin
              clear hin
              obtain ⟨D, ho, hmD, hat⟩ := HS2.out
              have HA := Lib.hid hat
              have HO := Lib.hid ho
              have HM := Lib.hid hmD
              clear hat ho hmD
              have hkm : 4 * k + j < maxLen := by unfold maxLen; omega
              go_wp2_with (at_mapUpdate; refine wpList_mapUpdate_own _ rfl _ _ _ 192 rfl 9 4 (Go.Maps.string_keyed Try.underlying9) Try.underlying192 (plainElem Try.prog 4) (w.heap.size + 1) (4 * k + j) D rfl (HO.out.alloc _) hkm _ _ (.string (bs l[k].ctors[j].name)) rfl rfl (keyStr hsz2) (.lit (.bool true)) [] (plainElem_bool Try.underlying4 true) ?_; intro w1 ho1 hg1)
              have hb1 : Below w.heap.size w w1 := (hbi.alloc (by omega) _).grown hg1 (by simp; omega) (fun g e => by injection e with e; omega)
              have s2 := (MapSet.put ho1 HM.out HA.out).keep (w' := w1) (n' := 4 * k + (j + 1)) rfl (by omega) (SC.succ l k j hlt hjt)
              have s1 : MapSet w1 w.heap.size (k + 1) (SD l (k + 1)) := HS1.out.keep (by have hl2 := HS1.out.lt; exact (hg1.block w.heap.size (by simp; omega) (fun e => by injection e with e; omega)).trans (Below.heap_alloc _ _ _ hl2)) (Nat.le_refl _) (fun _ => Iff.rfl)
              clear ho1 hlook hd HS1 HS2 HA HO HM hg1
              go_roundw
              case rel => exact ⟨j + 1, by omega, by go_num, hnc.step hjt HI2.out, s1, s2, hb1⟩
              case measure => simp [intOf]; omega
          · have hje : j = l[k].ctors.length := by omega
            have s2 : MapSet wr (w.heap.size + 1) (4 * (k + 1)) (SC l (k + 1) 0) := hs2.keep rfl (by omega) (fun t => by rw [hje]; exact SC.next l k hlt t)
            have HJ : Hid (NewC l k hlt l[k].ctors.length) := by unfold Hid; rw [← hje]; exact hnc
            clear hje hs2
            go_wp2_with fail
            go_roundw
            case rel => exact ⟨k + 1, by omega, by go_num, HN.out.step hlt HI.out HJ.out, hs1, s2, hbi⟩
            case measure => simp [intOf]; omega
    · go_wp2_with fail
      go_ret
      exact ⟨ret_bool (dec_t (fun d h _ => hnew d h (by omega))).symm, hb⟩
end Go.Proofs.Yteoopmogklpnoaa
