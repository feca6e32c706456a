/-
  The table of depths: the document's function. No statement is proved here.
-/
import Derived.Test.YthebdlejoficmaaDoorTable3
import Derived.Lib.QuietBelow
import Derived.Deep.QuietTactic
import Derived.Outline
namespace Go.Proofs.YthebdlejoficmaaDoor
open Go.RowKit Go.Sort
set_option maxRecDepth 100000
set_option linter.unusedVariables false

/-- A table of integers in the block B. -/
def Tab (w : World) (B N : Nat) (T : List Int) : Prop := w.ownsRow B 3 1 (.slice (some ⟨B, 0, none⟩) N N) N (T.map (Value.int .i64))
theorem Tab.cell_ {w : World} {B N : Nat} {T : List Int} (h : Tab w B N T) {s : Nat} (hs : s < N) (hl : s < T.length) : w.cell? ⟨B, s, none⟩ = some (.int .i64 T[s]) := by
  have h' : w.ownsRow B 3 1 (.slice (some ⟨B, 0, none⟩) N N) N (T.map (Value.int .i64)) := h
  rw [h'.cellAt s (by omega), List.getElem?_map, List.getElem?_eq_getElem hl]; rfl
theorem Tab.reads {w : World} {B N : Nat} {T : List Int} (h : Tab w B N T) (hl : T.length = N) (hm : N ≤ 100) : RInts w (some ⟨B, 0, none⟩) T :=
  ⟨by unfold maxLen; omega, fun k hk => ⟨B, 0, rfl, own_lt h, by rw [Nat.zero_add]; exact h.cell_ (by omega) hk⟩⟩
theorem Tab.below {w w' : World} {B N : Nat} {T : List Int} (h : Tab w B N T) (hb : Below w.heap.size w w') : Tab w' B N T := own_below h hb
theorem Tab.set {w : World} {B N s : Nat} {T : List Int} (h : Tab w B N T) (v : Int) : Tab (w.setCell ⟨B, s, none⟩ (.int .i64 v)) B N (T.set s v) := by
  have h2 := (World.ownsRow.stored h s (.int .i64 v)).1
  unfold Tab
  rw [List.map_set]
  exact h2
theorem OInts.form2 {w : World} {lo : Nat} {v : Value} {xs : List Int} (h : OInts w lo v xs) (hx : xs.length ≤ 4) : ∃ A cap, v = .slice A xs.length cap ∧ RInts w A xs ∧ ∀ b off, A = some ⟨b, off, none⟩ → lo ≤ b := by
  have hm : xs.length ≤ maxLen := by unfold maxLen; omega
  obtain ⟨A, cap, rfl, hr⟩ := h.form hm
  have h' : w.ownsRow lo 3 1 (.slice A xs.length cap) xs.length (xs.map (Value.int .i64)) := h
  refine ⟨A, cap, rfl, hr, fun b off e => ?_⟩
  rcases h'.2 with ⟨e1, _⟩ | ⟨g, cap', cur, e1, hb, _⟩
  · rw [e] at e1; simp at e1
  · rw [e] at e1; cases e1; exact hb

theorem ctor_of {l : List Da} {s : Nat} {x : Int} (h : x ∈ ctR l (tyAt s)) : ∃ (d : Nat) (hd : d < l.length) (m : Nat) (hm : m < l[d].ctors.length), (tyAt s).data = d ∧ x = m ∧ fitsB l[d].ctors[m].index (tyAt s).index = true ∧ agR l (tyAt s) x = argT l[d].ctors[m] (tyAt s).index := by
  obtain ⟨ht, d, m, hd, h1, h2, hm⟩ := mem_ctR h
  have e : tyAt s = ⟨(d : Int), (tyAt s).index⟩ := by rw [← h1]
  have h' := h
  have ht' := ht
  rw [e] at h' ht'
  rw [ctR_data ht' hd] at h'
  obtain ⟨m', hm', h3, h4⟩ := fits_of_mem _ (Nat.le_refl _) h'
  refine ⟨d, hd, m', hm', h1, h3, h4, ?_⟩
  rw [h3] at h ⊢
  rw [e] at h ⊢
  exact agR_yes h hd hm'
theorem St.step2 {l : List Da} {T T' : List Int} {n s i : Nat} {x : Int} (h : St l T n s i) (hw : WorldOK l) (hs : s < l.length * 4) (hn : n ≤ 16) (hi : i ≤ 4) (hx : (ctR l (tyAt s))[i]? = some x)
    (hT : (T' = T ∧ (mostL T (agR l (tyAt s) x) = 0 ∨ (¬ dep T (tyAt s) = 0 ∧ dep T (tyAt s) ≤ mostL T (agR l (tyAt s) x)))) ∨
      (T' = T.set s (mostL T (agR l (tyAt s) x)) ∧ 0 < mostL T (agR l (tyAt s) x) ∧ (dep T (tyAt s) = 0 ∨ mostL T (agR l (tyAt s) x) < dep T (tyAt s)))) : St l T' n s (i + 1) := by
  obtain ⟨d, hd, m, hm, h1, h2, h3, h4⟩ := ctor_of (List.mem_of_getElem? hx)
  rw [h4] at hT
  rw [h2] at hx
  exact h.step hw hs hn hi hd hm h1 hx h3 hT
theorem dep_at {T : List Int} {s : Nat} (hs : s < T.length) : dep T (tyAt s) = T[s] := by
  have e := dep_data (T := T) (tyAt_data s) (by rw [tyAt_slot]; exact hs)
  rw [e]; congr 1; exact tyAt_slot s
theorem most_nonneg {T : List Int} (hT : ∀ x ∈ T, 0 ≤ x ∧ x ≤ 5000) (L : List Ty) : 0 ≤ mostL T L := by
  have := maxTo_bd hT L L.length
  unfold mostL
  split <;> omega

theorem cell_far {w : World} {p a : Addr} {v : Value} (h : ¬ p.block = a.block) : (w.setCell p v).cell? a = w.cell? a :=
  World.cell?_setCell_other _ _ _ _ (fun e => h (by rw [e]))
end Go.Proofs.YthebdlejoficmaaDoor
