/-
  The texts of worlds that the document's draws begin with: each is the text of a valid world. No statement is proved here.
-/
import Derived.Test.YteoopmogklpnoaaU28
namespace Go.Proofs.Yteoopmogklpnoaa
open Go.RowKit Go.Deep
set_option maxRecDepth 100000
set_option linter.unusedVariables false
def texts : List ByteArray := [⟨#[76, 61, 78, 105, 108, 124, 67, 111, 110, 115, 40, 73, 44, 76, 41]⟩,
  ⟨#[66, 61, 84, 114, 117, 124, 70, 108, 115, 59, 84, 61, 76, 101, 97, 102, 124, 78, 111, 100, 101, 40, 84, 44, 66, 44, 84, 41]⟩,
  ⟨#[69, 61, 78, 117, 109, 40, 73, 41, 58, 49, 124, 66, 111, 108, 40, 66, 41, 58, 50, 124, 65, 100, 100, 40, 69, 49, 44, 69, 49, 41, 58, 49, 124, 73, 102, 40, 69, 50, 44, 69, 42, 44, 69, 42, 41, 59, 66, 61, 84, 114, 117, 124, 70, 108, 115]⟩,
  ⟨#[79, 61, 78, 111, 110, 124, 83, 111, 109, 40, 73, 41, 59, 80, 61, 80, 97, 105, 114, 40, 79, 44, 79, 41]⟩,
  ⟨#[86, 61, 69, 110, 100, 58, 49, 124, 83, 111, 109, 101, 40, 73, 44, 86, 49, 41, 58, 50, 124, 84, 119, 111, 40, 86, 42, 41]⟩,
  ⟨#[78, 61, 78, 101, 118, 101, 114, 40, 78, 41, 59, 66, 61, 84, 114, 117, 124, 70, 108, 115, 124, 77, 97, 121, 40, 78, 41]⟩,
  ⟨#[83, 61, 82, 101, 100, 124, 71, 114, 101, 101, 110, 124, 66, 108, 117, 101, 124, 77, 105, 120, 40, 83, 44, 83, 41]⟩,
  ⟨#[]⟩]
/-- The names differ, by a count. -/
def diffB (l : List Da) : Bool := (List.range l.length).all fun d =>
  (List.range d).all (fun i => !decide (bs (l.getD i default).name = bs (l.getD d default).name)) &&
  (List.range (l.getD d default).ctors.length).all fun j => (List.range l.length).all fun i => (List.range (l.getD i default).ctors.length).all fun m =>
    !(decide (i < d ∨ (i = d ∧ m < j)) && decide (bs ((l.getD i default).ctors.getD m default).name = bs ((l.getD d default).ctors.getD j default).name))
theorem getD_in {α : Type} [Inhabited α] {l : List α} {k : Nat} (h : k < l.length) : l.getD k default = l[k] := by
  rw [List.getD_eq_getElem?_getD, List.getElem?_eq_getElem h]; rfl
theorem differ_of {l : List Da} (h : diffB l = true) : Differ l := fun d hd _ => by
  unfold diffB at h
  rw [List.all_eq_true] at h
  have h1 := h d (List.mem_range.2 hd)
  rw [Bool.and_eq_true, List.all_eq_true, List.all_eq_true] at h1
  constructor
  · rintro ⟨i, hi, hlt, e⟩
    have := h1.1 i (List.mem_range.2 hlt)
    rw [getD_in hi, getD_in hd] at this
    simp [e] at this
  · intro j hj _
    rintro ⟨i, hi, m, hm, hlt, e⟩
    have h2 := h1.2 j (List.mem_range.2 (by rw [getD_in hd]; exact hj))
    rw [List.all_eq_true] at h2
    have h3 := h2 i (List.mem_range.2 hi)
    rw [List.all_eq_true] at h3
    have h4 := h3 m (List.mem_range.2 (by rw [getD_in hi]; exact hm))
    rw [getD_in hi, getD_in hd, getD_in hm, getD_in hj] at h4
    simp [hlt, e] at h4
def goodB (s : ByteArray) : Bool := (headsW s).all (fun h => decide ((cutB h 61).length = 2)) && (decide ((outW s).length ≤ 4) && ((outW s).all (dataB (outW s).length) && (diffB (outW s) && decide ((wT (outW s)).data.toList = s.data.toList))))
theorem good_of {s : ByteArray} (h : goodB s = true) : GoodW s := by
  unfold goodB at h
  simp only [Bool.and_eq_true, decide_eq_true_eq, List.all_eq_true] at h
  obtain ⟨h1, h2, h3, h4, h5⟩ := h
  exact ⟨fun j hj => h1 _ (List.getElem_mem hj), ⟨h2, fun j hj _ => h3 _ (List.getElem_mem hj), differ_of h4⟩, Go.WideShapes.bytes_inj h5⟩
def textB (s : ByteArray) : Bool := goodB s && decide (0 < (outW s).length) && decide (s.size ≤ 100) && decide (0 < s.size)
theorem texts_ok : ((texts.take 7).all textB) = true := by decide +kernel
theorem texts_len : texts.length = 8 := rfl
/-- One of the first seven. -/
theorem text_good {k : Nat} (hk : k < 7) : ∃ h : k < texts.length, GoodW texts[k] ∧ 0 < (outW texts[k]).length ∧ texts[k].size ≤ 100 ∧ ¬ texts[k].size = 0 := by
  have hl : k < texts.length := by rw [texts_len]; omega
  have h := texts_ok
  rw [List.all_eq_true] at h
  have h1 : texts[k] ∈ texts.take 7 := by
    rw [List.mem_take_iff_getElem]
    exact ⟨k, by rw [texts_len]; omega, rfl⟩
  have h2 := h _ h1
  unfold textB at h2
  simp only [Bool.and_eq_true, decide_eq_true_eq] at h2
  exact ⟨hl, good_of h2.1.1.1, h2.1.1.2, h2.1.2, by have := h2.2; omega⟩
end Go.Proofs.Yteoopmogklpnoaa
