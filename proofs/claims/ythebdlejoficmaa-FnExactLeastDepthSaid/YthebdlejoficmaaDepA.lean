/-
  The least depth of a value with arguments of given types, read off the program's map of least depths. No statement is proved here.
-/
import Derived.Test.YthebdlejoficmaaMapTy
import Derived.Test.YthebdlejoficmaaArgs4
import Derived.WalkLawsBesides
namespace Go.Proofs.Ythebdlejoficmaa
open Go.RowKit
set_option maxRecDepth 100000
set_option linter.unusedVariables false

/-- A map of positive numbers, behind a pointer. -/
structure MP (w : World) (bp mb n : Nat) (F : Ty → Int) (S : Ty → Prop) : Prop where
  ptr : w.cell? ⟨bp, 0, none⟩ = some (.map (some mb))
  map : MapTy w mb n F S
  pos : ∀ t ∈ tysN 4, S t → 0 < F t
theorem MP.at_ {w w' : World} {bp mb n : Nat} {F : Ty → Int} {S : Ty → Prop} (h : MP w bp mb n F S) (hb : Below w.heap.size w w') : MP w' bp mb n F S :=
  ⟨(hb.cell (p := ⟨bp, 0, none⟩) (Go.block_lt_of_cell h.ptr)).trans h.ptr, h.map.at_ hb, h.pos⟩
theorem MP.alloc {w : World} {bp mb n : Nat} {F : Ty → Int} {S : Ty → Prop} (h : MP w bp mb n F S) (o : Obj) : MP (w.alloc o) bp mb n F S :=
  h.at_ ((Below.refl _ _).alloc (Nat.le_refl _) o)
def AllTo' (S : Ty → Prop) (L : List Ty) (k : Nat) : Prop := ∀ j (h : j < L.length), j < k → S L[j]
theorem AllTo'.zero (S : Ty → Prop) (L : List Ty) : AllTo' S L 0 := fun j _ h => absurd h (by omega)
theorem AllTo'.step {S : Ty → Prop} {L : List Ty} {k : Nat} (h : AllTo' S L k) (hk : k < L.length) (e : S L[k]) : AllTo' S L (k + 1) := by
  intro j hj hjk
  by_cases e' : j = k
  · subst e'; exact e
  · exact h j hj (by omega)
theorem AllTo'.all {S : Ty → Prop} {L : List Ty} {k : Nat} (h : AllTo' S L k) (hk : L.length ≤ k) : ∀ a ∈ L, S a := fun a ha => by
  obtain ⟨j, hj, rfl⟩ := List.getElem_of_mem ha
  exact h j hj (by omega)

/-- The greatest of the numbers of the first k types. -/
def mxT (F : Ty → Int) (L : List Ty) : Nat → Int
  | 0 => 0
  | k + 1 => max (mxT F L k) (F (L.getD k default))
theorem mxT_succ {F : Ty → Int} {L : List Ty} {k : Nat} (h : k < L.length) : mxT F L (k + 1) = max (mxT F L k) (F L[k]) := by
  show max _ (F (L.getD k default)) = _
  rw [List.getD_eq_getElem?_getD, List.getElem?_eq_getElem h]; rfl
/-- 0 if a type has no number, and otherwise 1 more than the greatest number. -/
noncomputable def dpR (F : Ty → Int) (S : Ty → Prop) (L : List Ty) : Int := if dec (∀ a ∈ L, S a) then mxT F L L.length + 1 else 0
theorem dpR_yes {F : Ty → Int} {S : Ty → Prop} {L : List Ty} (h : ∀ a ∈ L, S a) : dpR F S L = mxT F L L.length + 1 := by unfold dpR; rw [dec_t h]; rfl
theorem dpR_no {F : Ty → Int} {S : Ty → Prop} {L : List Ty} (h : ¬ ∀ a ∈ L, S a) : dpR F S L = 0 := by unfold dpR; rw [dec_f h]; rfl

set_option maxHeartbeats 1600000 in
theorem depA_any (A : Option Addr) (L : List Ty) (cap mb n : Nat) (F : Ty → Int) (S : Ty → Prop) (w : World) (hr : RTys w w.heap.size A L) (hL : ∀ a ∈ L, a ∈ tysN 4) (hm : MapTy w mb n F S) (hpos : ∀ t ∈ tysN 4, S t → 0 < F t ∧ F t ≤ 5000) :
    Calls Try.prog 90 #[.slice A L.length cap, .map (some mb)] w fun e w' => e = .returned (.int .i64 (dpR F S L)) ∧ Below w.heap.size w w' := by
  have hn := hr.1
  unfold maxLen at hn
  have HR := Lib.hid hr
  have HL := Lib.hid hL
  have HM := Lib.hid hm
  have HP := Lib.hid hpos
  clear hr hL hm hpos
  go_enter Try.func90, Try.ntmps90
  go_wp2_with fail
  go_loopw [5, 10] (fun g i wr => ∃ k : Nat, k ≤ L.length ∧ i = .int .i64 k ∧ ∃ q : Int, 0 ≤ q ∧ q ≤ 5000 ∧ g = .int .i64 q ∧ Hid (q = mxT F L k) ∧ Hid (AllTo' S L k) ∧ Below w.heap.size w wr) (fun _ i _ => L.length - (intOf i).toNat)
  case atStart => exact ⟨0, by omega, rfl, 0, by omega, by omega, rfl, rfl, AllTo'.zero _ _, Below.refl _ _⟩
  case round =>
    obtain ⟨k, hk, rfl, q, hq0, hq1, rfl, HQ, HA, hb⟩ := hrel
    by_cases hlt : k < L.length
    · have hi : (k : Int) < (L.length : Int) := by omega
      obtain ⟨b, off, rfl, hbB, c0, c1⟩ := (HR.out.below hb (Nat.le_refl _)).2 k hlt
      have ha4 := HL.out _ (List.getElem_mem hlt)
      have hmr := HM.out.at_ hb
      have HMX := Lib.hid (mxT_succ (F := F) hlt)
      have hb2 : ∀ o, Below w.heap.size w (wr.alloc o) := fun o => hb.alloc hb.size o
      have HB2 := Lib.hid hb2
      clear hb2
      by_cases hs : S L[k]
      · have hl : ∀ o : Obj, (Instr.lookup 74 (.map (some mb)) (.agg #[.int .i64 L[k].data, .int .i64 L[k].index]) false).run Try.prog (wr.alloc o) = .ok (.int .i64 (F L[k])) (wr.alloc o) := fun o => by
          have := (hmr.at_ ((Below.refl _ _).alloc (Nat.le_refl _) o)).look ha4
          rw [dec_t hs] at this
          exact this
        obtain ⟨hf0, hf1⟩ := HP.out _ ha4 hs
        have HA2 := Lib.hid (HA.out.step hlt hs)
        clear hs hmr ha4
        generalize hfa : F L[k] = f at hl hf0 hf1 HMX
        have q0 : (f == 0) = false := beq_eq_false_iff_ne.2 (by omega)
        clear hfa
        go_wp2_with fail
        go_roundw
        case rel => exact ⟨k + 1, by omega, by go_num, (if q < f then f else q), by split <;> omega, by split <;> omega, rfl, (by unfold Hid; rw [HMX.out, ← HQ.out]; split <;> omega), HA2.out, HB2.out _⟩
        case measure => simp [intOf]; omega
      · have hl : ∀ o : Obj, (Instr.lookup 74 (.map (some mb)) (.agg #[.int .i64 L[k].data, .int .i64 L[k].index]) false).run Try.prog (wr.alloc o) = .ok (.int .i64 0) (wr.alloc o) := fun o => by
          have := (hmr.at_ ((Below.refl _ _).alloc (Nat.le_refl _) o)).look ha4
          rw [dec_f hs] at this
          exact this
        have HN := Lib.hid (dpR_no (F := F) (S := S) (L := L) (fun h => hs (h _ (List.getElem_mem hlt))))
        clear hs hmr ha4
        go_wp2_with fail
        go_ret
        exact ⟨ret_i64 HN.out.symm, HB2.out _⟩
    · have he : k = L.length := by omega
      have HY := Lib.hid (dpR_yes (F := F) (HA.out.all (by omega)))
      have HE : Hid (q = mxT F L L.length) := by unfold Hid; rw [← he]; exact HQ.out
      clear he
      go_wp2_with fail
      go_ret
      exact ⟨ret_i64 (by rw [HY.out, HE.out]), hb⟩
end Go.Proofs.Ythebdlejoficmaa
