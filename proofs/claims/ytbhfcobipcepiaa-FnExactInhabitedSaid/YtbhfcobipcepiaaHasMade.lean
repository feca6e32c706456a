/-
  Whether a type has a value with arguments of known types: the program's closure, the library's function over it, the program's function. No statement is proved here.
-/
import Derived.Test.YtbhfcobipcepiaaMapTy
import Derived.Test.YtbhfcobipcepiaaArgs4
import Derived.Outline
namespace Go.Proofs.Ytbhfcobipcepiaa
open Go.RowKit
set_option maxRecDepth 100000
set_option linter.unusedVariables false

/-- A map of positive numbers, behind a pointer. -/
structure MP (w : World) (bp mb n : Nat) (F : Ty → Int) (S : Ty → Prop) : Prop where
  ptr : w.cell? ⟨bp, 0, none⟩ = some (.map (some mb))
  map : MapTy w mb n F S
  pos : ∀ t ∈ tysN 4, S t → 0 < F t
theorem MP.at_ {w w' : World} {bp mb n : Nat} {F : Ty → Int} {S : Ty → Prop} (h : MP w bp mb n F S) (hb : Below w.heap.size w w') : MP w' bp mb n F S :=
  ⟨(hb.cell (p := ⟨bp, 0, none⟩) (Go.block_lt_of_cell h.ptr)).trans h.ptr, h.map.at_ hb, h.pos⟩
theorem MP.alloc {w : World} {bp mb n : Nat} {F : Ty → Int} {S : Ty → Prop} (h : MP w bp mb n F S) (o : Obj) : MP (w.alloc o) bp mb n F S :=
  h.at_ ((Below.refl _ _).alloc (Nat.le_refl _) o)

theorem isOpen_yes (a : Ty) (bp mb n : Nat) (F : Ty → Int) (S : Ty → Prop) (w : World) (ha : a ∈ tysN 4) (h : MP w bp mb n F S) (hs : S a) :
    Calls Try.prog 88 #[.agg #[.int .i64 a.data, .int .i64 a.index], .pointer (some ⟨bp, 0, none⟩)] w fun e w' => e = .returned (.bool false) ∧ Below w.heap.size w w' := by
  have hp : ∀ o : Obj, (w.alloc o).cell? ⟨bp, 0, none⟩ = some (.map (some mb)) := fun o => (h.alloc o).ptr
  have hl : ∀ o : Obj, (Instr.lookup 74 (.map (some mb)) (.agg #[.int .i64 a.data, .int .i64 a.index]) false).run Try.prog (w.alloc o) = .ok (.int .i64 (F a)) (w.alloc o) := fun o => by
    have := (h.alloc o).map.look ha
    rw [dec_t hs] at this
    exact this
  have hf := h.pos a ha hs
  have q : (F a == 0) = false := beq_eq_false_iff_ne.2 (by omega)
  have HB : Hid (∀ o : Obj, Below w.heap.size w (w.alloc o)) := fun o => (Below.refl _ _).alloc (Nat.le_refl _) _
  clear h hs
  go_enter Try.func88, Try.ntmps88
  go_wp2_with fail
  go_ret
  exact ⟨rfl, HB.out _⟩
theorem isOpen_no (a : Ty) (bp mb n : Nat) (F : Ty → Int) (S : Ty → Prop) (w : World) (ha : a ∈ tysN 4) (h : MP w bp mb n F S) (hs : ¬ S a) :
    Calls Try.prog 88 #[.agg #[.int .i64 a.data, .int .i64 a.index], .pointer (some ⟨bp, 0, none⟩)] w fun e w' => e = .returned (.bool true) ∧ Below w.heap.size w w' := by
  have hp : ∀ o : Obj, (w.alloc o).cell? ⟨bp, 0, none⟩ = some (.map (some mb)) := fun o => (h.alloc o).ptr
  have hl : ∀ o : Obj, (Instr.lookup 74 (.map (some mb)) (.agg #[.int .i64 a.data, .int .i64 a.index]) false).run Try.prog (w.alloc o) = .ok (.int .i64 0) (w.alloc o) := fun o => by
    have := (h.alloc o).map.look ha
    rw [dec_f hs] at this
    exact this
  have HB : Hid (∀ o : Obj, Below w.heap.size w (w.alloc o)) := fun o => (Below.refl _ _).alloc (Nat.le_refl _) _
  clear h hs
  go_enter Try.func88, Try.ntmps88
  go_wp2_with fail
  go_ret
  exact ⟨rfl, HB.out _⟩

def AllTo' (S : Ty → Prop) (L : List Ty) (k : Nat) : Prop := ∀ j (h : j < L.length), j < k → S L[j]
theorem AllTo'.zero (S : Ty → Prop) (L : List Ty) : AllTo' S L 0 := fun j _ h => absurd h (by omega)
theorem AllTo'.step {S : Ty → Prop} {L : List Ty} {k : Nat} (h : AllTo' S L k) (hk : k < L.length) (e : S L[k]) : AllTo' S L (k + 1) := by
  intro j hj hjk
  by_cases e' : j = k
  · subst e'; exact e
  · exact h j hj (by omega)
theorem AllTo'.all {S : Ty → Prop} {L : List Ty} {k : Nat} (h : AllTo' S L k) (hk : L.length ≤ k) : ∀ a ∈ L, S a := fun a ha => by
  obtain ⟨j, hj, rfl⟩ := List.getElem_of_mem ha
  exact h j hj (by omega)

set_option maxHeartbeats 800000 in
theorem indexFunc_any (A : Option Addr) (L : List Ty) (cap bp mb n : Nat) (F : Ty → Int) (S : Ty → Prop) (w : World) (hr : RTys w w.heap.size A L) (hL : ∀ a ∈ L, a ∈ tysN 4) (h : MP w bp mb n F S) :
    Calls Try.prog 90 #[.slice A L.length cap, .func (.func 88) #[] #[.pointer (some ⟨bp, 0, none⟩)]] w fun e w' => ∃ r : Int, e = .returned (.int .i64 r) ∧ decide (0 ≤ r) = dec (¬ ∀ a ∈ L, S a) ∧ Below w.heap.size w w' := by
  have hn := hr.1
  unfold maxLen at hn
  have Hr := Lib.hid hr
  have H := Lib.hid h
  have HL := Lib.hid hL
  clear hr h hL
  go_enter Try.func90, Try.ntmps90
  go_wp2_with fail
  go_loopw [8] (fun i wr => ∃ k : Nat, k ≤ L.length ∧ i = .int .i64 k ∧ AllTo' S L k ∧ Below w.heap.size w wr) (fun i _ => L.length - (intOf i).toNat)
  case atStart => exact ⟨0, by omega, rfl, AllTo'.zero _ _, Below.refl _ _⟩
  case round =>
    obtain ⟨k, hk, rfl, hall, hb⟩ := hrel
    by_cases hlt : k < L.length
    · obtain ⟨b, off, rfl, hbB, c0, c1⟩ := (Hr.out.below hb (Nat.le_refl _)).2 k hlt
      have hkI : (k : Int) < (L.length : Int) := by omega
      have HT := Lib.hid (HL.out L[k] (List.getElem_mem hlt))
      have HM := Lib.hid (H.out.at_ hb)
      by_cases hs : S L[k]
      · have HS := Lib.hid hs
        clear hs
        go_wp2_with fail
        refine (isOpen_yes _ _ _ _ _ _ _ HT.out HM.out HS.out).mono ?_
        rintro e w1 ⟨rfl, hb1⟩
        have hb2 := hb.trans (hb1.mono hb.size)
        go_wp2_with fail
        go_roundw
        case rel => exact ⟨k + 1, by omega, by go_num, hall.step hlt HS.out, hb2⟩
        case measure => simp [intOf]; omega
      · have HS := Lib.hid hs
        have HN : Hid (¬ ∀ a ∈ L, S a) := fun h => hs (h _ (List.getElem_mem hlt))
        clear hs
        go_wp2_with fail
        refine (isOpen_no _ _ _ _ _ _ _ HT.out HM.out HS.out).mono ?_
        rintro e w1 ⟨rfl, hb1⟩
        have hb2 := hb.trans (hb1.mono hb.size)
        go_wp2_with fail
        go_ret
        exact ⟨_, rfl, by rw [dec_t HN.out]; simp, hb2⟩
    · go_wp2_with fail
      go_ret
      exact ⟨_, rfl, by rw [dec_f (fun hn => hn (hall.all (by omega)))]; rfl, hb⟩

theorem containsFunc_any (A : Option Addr) (L : List Ty) (cap bp mb n : Nat) (F : Ty → Int) (S : Ty → Prop) (w : World) (hr : RTys w w.heap.size A L) (hL : ∀ a ∈ L, a ∈ tysN 4) (h : MP w bp mb n F S) :
    Calls Try.prog 89 #[.slice A L.length cap, .func (.func 88) #[] #[.pointer (some ⟨bp, 0, none⟩)]] w fun e w' => e = .returned (.bool (dec (¬ ∀ a ∈ L, S a))) ∧ Below w.heap.size w w' := by
  have Hr := Lib.hid hr
  have H := Lib.hid h
  have HL := Lib.hid hL
  clear hr h hL
  go_enter Try.func89, Try.ntmps89
  go_wp2_with fail
  refine (indexFunc_any _ _ _ _ _ _ _ _ _ Hr.out HL.out H.out).mono ?_
  rintro e w1 ⟨r, rfl, hd, hb⟩
  have HD := Lib.hid hd
  clear hd
  go_wp2_with fail
  go_ret
  exact ⟨ret_bool HD.out, hb⟩
end Go.Proofs.Ytbhfcobipcepiaa
