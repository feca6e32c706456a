/-
  A world out of its text, as plain data; a constructor out of its text, whatever the text. No statement is proved here.
-/
import Derived.Test.YtholdmdkhbhokabSParseC3
import Derived.Test.YtholdmdkhbhokabSParseC4
import Derived.Test.YtholdmdkhbhokabSParseC5
import Derived.Test.YtholdmdkhbhokabG02
namespace Go.Proofs.Ytholdmdkhbhokab
open Go.RowKit Go.Deep
set_option maxRecDepth 100000
set_option linter.unusedVariables false

theorem parseCtor_any (A : Option Addr) (l : List ByteArray) (cap : Nat) (s : ByteArray) (w : World) (hr : RStrs w A l) (hs : s.size ≤ 1048576) :
    Calls Try.prog 93 #[.slice A l.length cap, .string s] w fun e w' => RetCt w w.heap.size e w' (ctP l s) := by
  by_cases h2 : 2 < s.size
  · by_cases hc : ((s[s.size - 2]'(by omega)).toNat : Int) = 58
    · have e : ctP l s = ctQ l (s.extract 0 (s.size - 2)) (((s[s.size - 1]'(by omega)).toNat : Int) - 48) := by
        unfold ctP
        rw [getD_byte (by omega : s.size - 2 < s.size), if_pos ⟨h2, hc⟩, getD_byte (by omega : s.size - 1 < s.size)]
      rw [e]; exact parseCtor_colon A l cap s w hr hs h2 hc
    · have e : ctP l s = ctQ l s 0 := by
        unfold ctP
        rw [getD_byte (by omega : s.size - 2 < s.size), if_neg (fun h => hc h.2)]
      rw [e]; exact parseCtor_plain A l cap s w hr hs h2 hc
  · have e : ctP l s = ctQ l s 0 := by
      unfold ctP
      rw [if_neg (fun h => h2 h.1)]
    rw [e]; exact parseCtor_short A l cap s w hr hs h2
theorem cutB_get_size (s : ByteArray) (c : Int) (k : Nat) : ((cutB s c).getD k ByteArray.empty).size ≤ s.size := by
  by_cases h : k < (cutB s c).length
  · rw [getD_at h]; exact cutB_size (List.getElem_mem h)
  · rw [List.getD_eq_getElem?_getD, List.getElem?_eq_none (by omega)]; exact Nat.zero_le _
theorem ctQ_small (l : List ByteArray) (s : ByteArray) (ix : Int) : (ctQ l s ix).name.size ≤ s.size ∧ (ctQ l s ix).args.length ≤ 4 := by
  unfold ctQ
  split
  · exact ⟨cutB_get_size _ _ _, Nat.zero_le _⟩
  · exact ⟨cutB_get_size _ _ _, by simp only [List.length_map, List.length_take]; omega⟩
theorem ctP_small (l : List ByteArray) (s : ByteArray) : (ctP l s).name.size ≤ s.size ∧ (ctP l s).args.length ≤ 4 := by
  unfold ctP
  split
  · have h := ctQ_small l (s.extract 0 (s.size - 2)) (((s.data.toList.getD (s.size - 1) 0).toNat : Int) - 48)
    have := ext_size s 0 (s.size - 2)
    exact ⟨by omega, h.2⟩
  · exact ctQ_small l s 0

def headsW (s : ByteArray) : List ByteArray := if s.size = 0 then [] else (cutB s 59).take 5
def nameW (L : ByteArray) : ByteArray := (cutB L 61).getD 0 ByteArray.empty
def bodyW (L : ByteArray) : ByteArray := (cutB L 61).getD 1 ByteArray.empty
def ctsW (N : List ByteArray) (L : ByteArray) : List Ct := ((cutB (bodyW L) 124).take 5).map (ctP N)
def daW (N : List ByteArray) (L : ByteArray) : Da := ⟨nameW L, ctsW N L⟩
def outL (H : List ByteArray) : List Da := H.map (daW (H.map nameW))
def outW (s : ByteArray) : List Da := outL (headsW s)
def TwoW (H : List ByteArray) : Prop := ∀ j (h : j < H.length), (cutB H[j] 61).length = 2
def GoodW (s : ByteArray) : Prop := TwoW (headsW s) ∧ WorldOK (outW s) ∧ wT (outW s) = s
noncomputable def pwR (s : ByteArray) : List Da := if dec (GoodW s) then outW s else []
theorem pwR_yes {s : ByteArray} (h : GoodW s) : pwR s = outW s := by unfold pwR; rw [dec_t h]; rfl
theorem pwR_no {s : ByteArray} (h : ¬ GoodW s) : pwR s = [] := by unfold pwR; rw [dec_f h]; rfl
/-- What is returned: a world in rows of the call's own, and whether there is one. -/
def RetW (w : World) (s : ByteArray) (e : Ending) (w' : World) : Prop := ∃ v, e = .returned (.tuple #[v, .bool (dec (GoodW s))]) ∧ ODas w' w.heap.size v (pwR s) ∧ Below w.heap.size w w'
theorem ODas.lit (w : World) (lo : Nat) (h : lo ≤ w.heap.size) : ODas (w.alloc (.cells #[] 28)) lo (.slice (some ⟨w.heap.size, 0, none⟩) 0 0) [] :=
  ⟨[], by simpa using World.ownsRow_lit (base := lo) (e := 28) (size := 2) w #[] 0 h (by simp) rfl, DRow.nil _ _ _⟩
theorem OStrs.lit (w : World) (lo : Nat) (h : lo ≤ w.heap.size) : OStrs (w.alloc (.cells #[] 9)) lo (.slice (some ⟨w.heap.size, 0, none⟩) 0 0) [] := by
  have := World.ownsRow_lit (base := lo) (e := 9) (size := 1) w #[] 0 h (by simp) rfl
  unfold OStrs
  simpa using this
theorem retW_no {w : World} {s : ByteArray} (h : ¬ GoodW s) (w1 : World) (hb : Below w.heap.size w w1) : RetW w s (.returned (.tuple #[.slice (some ⟨w1.heap.size, 0, none⟩) 0 0, .bool false])) (w1.alloc (.cells #[] 28)) :=
  ⟨_, by rw [dec_f h], by rw [pwR_no h]; exact ODas.lit _ _ hb.size, hb.alloc hb.size _⟩
theorem retW_yes {w : World} {s : ByteArray} (h : GoodW s) (v : Value) (w1 : World) (ho : ODas w1 w.heap.size v (outW s)) (hb : Below w.heap.size w w1) : RetW w s (.returned (.tuple #[v, .bool true])) w1 :=
  ⟨_, by rw [dec_t h], by rw [pwR_yes h]; exact ho, hb⟩
theorem take_map_succ {α β : Type} (f : α → β) (L : List α) {k : Nat} (h : k < L.length) : (L.take (k + 1)).map f = (L.take k).map f ++ [f L[k]] := by
  rw [List.take_succ_eq_append_getElem h, List.map_append]; rfl
theorem nameW_at {L : ByteArray} (h : (cutB L 61).length = 2) : nameW L = (cutB L 61)[0]'(by omega) := getD_at (by omega)
theorem bodyW_at {L : ByteArray} (h : (cutB L 61).length = 2) : bodyW L = (cutB L 61)[1]'(by omega) := getD_at (by omega)
end Go.Proofs.Ytholdmdkhbhokab
/-
  The texts of worlds that the document's draws begin with: each is the text of a valid world. No statement is proved here.
-/
namespace Go.Proofs.Ytholdmdkhbhokab
open Go.RowKit Go.Deep
set_option maxRecDepth 100000
set_option linter.unusedVariables false

def texts : List ByteArray := [⟨#[76, 61, 78, 105, 108, 124, 67, 111, 110, 115, 40, 73, 44, 76, 41]⟩,
  ⟨#[66, 61, 84, 114, 117, 124, 70, 108, 115, 59, 84, 61, 76, 101, 97, 102, 124, 78, 111, 100, 101, 40, 84, 44, 66, 44, 84, 41]⟩,
  ⟨#[69, 61, 78, 117, 109, 40, 73, 41, 58, 49, 124, 66, 111, 108, 40, 66, 41, 58, 50, 124, 65, 100, 100, 40, 69, 49, 44, 69, 49, 41, 58, 49, 124, 73, 102, 40, 69, 50, 44, 69, 42, 44, 69, 42, 41, 59, 66, 61, 84, 114, 117, 124, 70, 108, 115]⟩,
  ⟨#[79, 61, 78, 111, 110, 124, 83, 111, 109, 40, 73, 41, 59, 80, 61, 80, 97, 105, 114, 40, 79, 44, 79, 41]⟩,
  ⟨#[86, 61, 69, 110, 100, 58, 49, 124, 83, 111, 109, 101, 40, 73, 44, 86, 49, 41, 58, 50, 124, 84, 119, 111, 40, 86, 42, 41]⟩,
  ⟨#[78, 61, 78, 101, 118, 101, 114, 40, 78, 41, 59, 66, 61, 84, 114, 117, 124, 70, 108, 115, 124, 77, 97, 121, 40, 78, 41]⟩,
  ⟨#[83, 61, 82, 101, 100, 124, 71, 114, 101, 101, 110, 124, 66, 108, 117, 101, 124, 77, 105, 120, 40, 83, 44, 83, 41]⟩,
  ⟨#[]⟩]

/-- The names differ, by a count. -/
def diffB (l : List Da) : Bool := (List.range l.length).all fun d =>
  (List.range d).all (fun i => !decide (bs (l.getD i default).name = bs (l.getD d default).name)) &&
  (List.range (l.getD d default).ctors.length).all fun j => (List.range l.length).all fun i => (List.range (l.getD i default).ctors.length).all fun m =>
    !(decide (i < d ∨ (i = d ∧ m < j)) && decide (bs ((l.getD i default).ctors.getD m default).name = bs ((l.getD d default).ctors.getD j default).name))
theorem getD_in {α : Type} [Inhabited α] {l : List α} {k : Nat} (h : k < l.length) : l.getD k default = l[k] := by
  rw [List.getD_eq_getElem?_getD, List.getElem?_eq_getElem h]; rfl
theorem differ_of {l : List Da} (h : diffB l = true) : Differ l := fun d hd _ => by
  unfold diffB at h
  rw [List.all_eq_true] at h
  have h1 := h d (List.mem_range.2 hd)
  rw [Bool.and_eq_true, List.all_eq_true, List.all_eq_true] at h1
  constructor
  · rintro ⟨i, hi, hlt, e⟩
    have := h1.1 i (List.mem_range.2 hlt)
    rw [getD_in hi, getD_in hd] at this
    simp [e] at this
  · intro j hj _
    rintro ⟨i, hi, m, hm, hlt, e⟩
    have h2 := h1.2 j (List.mem_range.2 (by rw [getD_in hd]; exact hj))
    rw [List.all_eq_true] at h2
    have h3 := h2 i (List.mem_range.2 hi)
    rw [List.all_eq_true] at h3
    have h4 := h3 m (List.mem_range.2 (by rw [getD_in hi]; exact hm))
    rw [getD_in hi, getD_in hd, getD_in hm, getD_in hj] at h4
    simp [hlt, e] at h4
def goodB (s : ByteArray) : Bool := (headsW s).all (fun h => decide ((cutB h 61).length = 2)) && (decide ((outW s).length ≤ 4) && ((outW s).all (dataB (outW s).length) && (diffB (outW s) && decide ((wT (outW s)).data.toList = s.data.toList))))
theorem good_of {s : ByteArray} (h : goodB s = true) : GoodW s := by
  unfold goodB at h
  simp only [Bool.and_eq_true, decide_eq_true_eq, List.all_eq_true] at h
  obtain ⟨h1, h2, h3, h4, h5⟩ := h
  exact ⟨fun j hj => h1 _ (List.getElem_mem hj), ⟨h2, fun j hj _ => h3 _ (List.getElem_mem hj), differ_of h4⟩, Go.WideShapes.bytes_inj h5⟩
def textB (s : ByteArray) : Bool := goodB s && decide (0 < (outW s).length) && decide (s.size ≤ 100) && decide (0 < s.size)
theorem texts_ok : ((texts.take 7).all textB) = true := by decide +kernel
theorem texts_len : texts.length = 8 := rfl
/-- One of the first seven. -/
theorem text_good {k : Nat} (hk : k < 7) : ∃ h : k < texts.length, GoodW texts[k] ∧ 0 < (outW texts[k]).length ∧ texts[k].size ≤ 100 ∧ ¬ texts[k].size = 0 := by
  have hl : k < texts.length := by rw [texts_len]; omega
  have h := texts_ok
  rw [List.all_eq_true] at h
  have h1 : texts[k] ∈ texts.take 7 := by
    rw [List.mem_take_iff_getElem]
    exact ⟨k, by rw [texts_len]; omega, rfl⟩
  have h2 := h _ h1
  unfold textB at h2
  simp only [Bool.and_eq_true, decide_eq_true_eq] at h2
  exact ⟨hl, good_of h2.1.1.1, h2.1.1.2, h2.1.2, by have := h2.2; omega⟩
end Go.Proofs.Ytholdmdkhbhokab
