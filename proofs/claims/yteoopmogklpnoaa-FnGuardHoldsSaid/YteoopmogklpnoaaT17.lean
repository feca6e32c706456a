/-
  A world out of its text, as plain data; a constructor out of its text, whatever the text. No statement is proved here.
-/
import Derived.Test.YteoopmogklpnoaaT12
import Derived.Test.YteoopmogklpnoaaT13
import Derived.Test.YteoopmogklpnoaaT14
import Derived.Test.YteoopmogklpnoaaT16
import Derived.Test.YteoopmogklpnoaaT10
import Derived.Test.YteoopmogklpnoaaT02
import Derived.Test.YteoopmogklpnoaaT07
import Derived.Test.YteoopmogklpnoaaT09
namespace Go.Proofs.Yteoopmogklpnoaa
open Go.RowKit Go.Deep
set_option maxRecDepth 100000
set_option linter.unusedVariables false
theorem parseCtor_any (A : Option Addr) (l : List ByteArray) (cap : Nat) (s : ByteArray) (w : World) (hr : RStrs w A l) (hs : s.size ≤ 1048576) :
    Calls Try.prog 137 #[.slice A l.length cap, .string s] w fun e w' => RetCt w w.heap.size e w' (ctP l s) := by
  by_cases h2 : 2 < s.size
  · by_cases hc : ((s[s.size - 2]'(by omega)).toNat : Int) = 58
    · have e : ctP l s = ctQ l (s.extract 0 (s.size - 2)) (((s[s.size - 1]'(by omega)).toNat : Int) - 48) := by
        unfold ctP
        rw [getD_byte (by omega : s.size - 2 < s.size), if_pos ⟨h2, hc⟩, getD_byte (by omega : s.size - 1 < s.size)]
      rw [e]; exact parseCtor_colon A l cap s w hr hs h2 hc
    · have e : ctP l s = ctQ l s 0 := by
        unfold ctP
        rw [getD_byte (by omega : s.size - 2 < s.size), if_neg (fun h => hc h.2)]
      rw [e]; exact parseCtor_plain A l cap s w hr hs h2 hc
  · have e : ctP l s = ctQ l s 0 := by
      unfold ctP
      rw [if_neg (fun h => h2 h.1)]
    rw [e]; exact parseCtor_short A l cap s w hr hs h2
theorem cutB_get_size (s : ByteArray) (c : Int) (k : Nat) : ((cutB s c).getD k ByteArray.empty).size ≤ s.size := by
  by_cases h : k < (cutB s c).length
  · rw [getD_at h]; exact cutB_size (List.getElem_mem h)
  · rw [List.getD_eq_getElem?_getD, List.getElem?_eq_none (by omega)]; exact Nat.zero_le _
theorem ctQ_small (l : List ByteArray) (s : ByteArray) (ix : Int) : (ctQ l s ix).name.size ≤ s.size ∧ (ctQ l s ix).args.length ≤ 4 := by
  unfold ctQ
  split
  · exact ⟨cutB_get_size _ _ _, Nat.zero_le _⟩
  · exact ⟨cutB_get_size _ _ _, by simp only [List.length_map, List.length_take]; omega⟩
theorem ctP_small (l : List ByteArray) (s : ByteArray) : (ctP l s).name.size ≤ s.size ∧ (ctP l s).args.length ≤ 4 := by
  unfold ctP
  split
  · have h := ctQ_small l (s.extract 0 (s.size - 2)) (((s.data.toList.getD (s.size - 1) 0).toNat : Int) - 48)
    have := ext_size s 0 (s.size - 2)
    exact ⟨by omega, h.2⟩
  · exact ctQ_small l s 0
def headsW (s : ByteArray) : List ByteArray := if s.size = 0 then [] else (cutB s 59).take 5
def nameW (L : ByteArray) : ByteArray := (cutB L 61).getD 0 ByteArray.empty
def bodyW (L : ByteArray) : ByteArray := (cutB L 61).getD 1 ByteArray.empty
def ctsW (N : List ByteArray) (L : ByteArray) : List Ct := ((cutB (bodyW L) 124).take 5).map (ctP N)
def daW (N : List ByteArray) (L : ByteArray) : Da := ⟨nameW L, ctsW N L⟩
def outL (H : List ByteArray) : List Da := H.map (daW (H.map nameW))
def outW (s : ByteArray) : List Da := outL (headsW s)
def TwoW (H : List ByteArray) : Prop := ∀ j (h : j < H.length), (cutB H[j] 61).length = 2
def GoodW (s : ByteArray) : Prop := TwoW (headsW s) ∧ WorldOK (outW s) ∧ wT (outW s) = s
noncomputable def pwR (s : ByteArray) : List Da := if dec (GoodW s) then outW s else []
theorem pwR_yes {s : ByteArray} (h : GoodW s) : pwR s = outW s := by unfold pwR; rw [dec_t h]; rfl
theorem pwR_no {s : ByteArray} (h : ¬ GoodW s) : pwR s = [] := by unfold pwR; rw [dec_f h]; rfl
/-- What is returned: a world in rows of the call's own, and whether there is one. -/
def RetW (w : World) (s : ByteArray) (e : Ending) (w' : World) : Prop := ∃ v, e = .returned (.tuple #[v, .bool (dec (GoodW s))]) ∧ ODas w' w.heap.size v (pwR s) ∧ Below w.heap.size w w'
theorem ODas.lit (w : World) (lo : Nat) (h : lo ≤ w.heap.size) : ODas (w.alloc (.cells #[] 144)) lo (.slice (some ⟨w.heap.size, 0, none⟩) 0 0) [] :=
  ⟨[], by simpa using World.ownsRow_lit (base := lo) (e := 144) (size := 2) w #[] 0 h (by simp) rfl, DRow.nil _ _ _⟩
theorem OStrs.lit (w : World) (lo : Nat) (h : lo ≤ w.heap.size) : OStrs (w.alloc (.cells #[] 9)) lo (.slice (some ⟨w.heap.size, 0, none⟩) 0 0) [] := by
  have := World.ownsRow_lit (base := lo) (e := 9) (size := 1) w #[] 0 h (by simp) rfl
  unfold OStrs
  simpa using this
theorem retW_no {w : World} {s : ByteArray} (h : ¬ GoodW s) (w1 : World) (hb : Below w.heap.size w w1) : RetW w s (.returned (.tuple #[.slice (some ⟨w1.heap.size, 0, none⟩) 0 0, .bool false])) (w1.alloc (.cells #[] 144)) :=
  ⟨_, by rw [dec_f h], by rw [pwR_no h]; exact ODas.lit _ _ hb.size, hb.alloc hb.size _⟩
theorem retW_yes {w : World} {s : ByteArray} (h : GoodW s) (v : Value) (w1 : World) (ho : ODas w1 w.heap.size v (outW s)) (hb : Below w.heap.size w w1) : RetW w s (.returned (.tuple #[v, .bool true])) w1 :=
  ⟨_, by rw [dec_t h], by rw [pwR_yes h]; exact ho, hb⟩
theorem take_map_succ {α β : Type} (f : α → β) (L : List α) {k : Nat} (h : k < L.length) : (L.take (k + 1)).map f = (L.take k).map f ++ [f L[k]] := by
  rw [List.take_succ_eq_append_getElem h, List.map_append]; rfl
theorem nameW_at {L : ByteArray} (h : (cutB L 61).length = 2) : nameW L = (cutB L 61)[0]'(by omega) := getD_at (by omega)
theorem bodyW_at {L : ByteArray} (h : (cutB L 61).length = 2) : bodyW L = (cutB L 61)[1]'(by omega) := getD_at (by omega)
end Go.Proofs.Yteoopmogklpnoaa
/-
  The texts of worlds that the document's draws begin with: each is the text of a valid world. No statement is proved here.
-/
namespace Go.Proofs.Yteoopmogklpnoaa
open Go.RowKit Go.Deep
set_option maxRecDepth 100000
set_option linter.unusedVariables false
def texts : List ByteArray := [⟨#[76, 61, 78, 105, 108, 124, 67, 111, 110, 115, 40, 73, 44, 76, 41]⟩,
  ⟨#[66, 61, 84, 114, 117, 124, 70, 108, 115, 59, 84, 61, 76, 101, 97, 102, 124, 78, 111, 100, 101, 40, 84, 44, 66, 44, 84, 41]⟩,
  ⟨#[69, 61, 78, 117, 109, 40, 73, 41, 58, 49, 124, 66, 111, 108, 40, 66, 41, 58, 50, 124, 65, 100, 100, 40, 69, 49, 44, 69, 49, 41, 58, 49, 124, 73, 102, 40, 69, 50, 44, 69, 42, 44, 69, 42, 41, 59, 66, 61, 84, 114, 117, 124, 70, 108, 115]⟩,
  ⟨#[79, 61, 78, 111, 110, 124, 83, 111, 109, 40, 73, 41, 59, 80, 61, 80, 97, 105, 114, 40, 79, 44, 79, 41]⟩,
  ⟨#[86, 61, 69, 110, 100, 58, 49, 124, 83, 111, 109, 101, 40, 73, 44, 86, 49, 41, 58, 50, 124, 84, 119, 111, 40, 86, 42, 41]⟩,
  ⟨#[78, 61, 78, 101, 118, 101, 114, 40, 78, 41, 59, 66, 61, 84, 114, 117, 124, 70, 108, 115, 124, 77, 97, 121, 40, 78, 41]⟩,
  ⟨#[83, 61, 82, 101, 100, 124, 71, 114, 101, 101, 110, 124, 66, 108, 117, 101, 124, 77, 105, 120, 40, 83, 44, 83, 41]⟩,
  ⟨#[]⟩]
/-- The names differ, by a count. -/
def diffB (l : List Da) : Bool := (List.range l.length).all fun d =>
  (List.range d).all (fun i => !decide (bs (l.getD i default).name = bs (l.getD d default).name)) &&
  (List.range (l.getD d default).ctors.length).all fun j => (List.range l.length).all fun i => (List.range (l.getD i default).ctors.length).all fun m =>
    !(decide (i < d ∨ (i = d ∧ m < j)) && decide (bs ((l.getD i default).ctors.getD m default).name = bs ((l.getD d default).ctors.getD j default).name))
theorem getD_in {α : Type} [Inhabited α] {l : List α} {k : Nat} (h : k < l.length) : l.getD k default = l[k] := by
  rw [List.getD_eq_getElem?_getD, List.getElem?_eq_getElem h]; rfl
theorem differ_of {l : List Da} (h : diffB l = true) : Differ l := fun d hd _ => by
  unfold diffB at h
  rw [List.all_eq_true] at h
  have h1 := h d (List.mem_range.2 hd)
  rw [Bool.and_eq_true, List.all_eq_true, List.all_eq_true] at h1
  constructor
  · rintro ⟨i, hi, hlt, e⟩
    have := h1.1 i (List.mem_range.2 hlt)
    rw [getD_in hi, getD_in hd] at this
    simp [e] at this
  · intro j hj _
    rintro ⟨i, hi, m, hm, hlt, e⟩
    have h2 := h1.2 j (List.mem_range.2 (by rw [getD_in hd]; exact hj))
    rw [List.all_eq_true] at h2
    have h3 := h2 i (List.mem_range.2 hi)
    rw [List.all_eq_true] at h3
    have h4 := h3 m (List.mem_range.2 (by rw [getD_in hi]; exact hm))
    rw [getD_in hi, getD_in hd, getD_in hm, getD_in hj] at h4
    simp [hlt, e] at h4
def goodB (s : ByteArray) : Bool := (headsW s).all (fun h => decide ((cutB h 61).length = 2)) && (decide ((outW s).length ≤ 4) && ((outW s).all (dataB (outW s).length) && (diffB (outW s) && decide ((wT (outW s)).data.toList = s.data.toList))))
theorem good_of {s : ByteArray} (h : goodB s = true) : GoodW s := by
  unfold goodB at h
  simp only [Bool.and_eq_true, decide_eq_true_eq, List.all_eq_true] at h
  obtain ⟨h1, h2, h3, h4, h5⟩ := h
  exact ⟨fun j hj => h1 _ (List.getElem_mem hj), ⟨h2, fun j hj _ => h3 _ (List.getElem_mem hj), differ_of h4⟩, Go.WideShapes.bytes_inj h5⟩
def textB (s : ByteArray) : Bool := goodB s && decide (0 < (outW s).length) && decide (s.size ≤ 100) && decide (0 < s.size)
theorem texts_ok : ((texts.take 7).all textB) = true := by decide +kernel
theorem texts_len : texts.length = 8 := rfl
/-- One of the first seven. -/
theorem text_good {k : Nat} (hk : k < 7) : ∃ h : k < texts.length, GoodW texts[k] ∧ 0 < (outW texts[k]).length ∧ texts[k].size ≤ 100 ∧ ¬ texts[k].size = 0 := by
  have hl : k < texts.length := by rw [texts_len]; omega
  have h := texts_ok
  rw [List.all_eq_true] at h
  have h1 : texts[k] ∈ texts.take 7 := by
    rw [List.mem_take_iff_getElem]
    exact ⟨k, by rw [texts_len]; omega, rfl⟩
  have h2 := h _ h1
  unfold textB at h2
  simp only [Bool.and_eq_true, decide_eq_true_eq] at h2
  exact ⟨hl, good_of h2.1.1.1, h2.1.1.2, h2.1.2, by have := h2.2; omega⟩
end Go.Proofs.Yteoopmogklpnoaa
/-
  The least depths of all types that have values, in a map: the program's function. No statement is proved here.
-/
namespace Go.Proofs.Yteoopmogklpnoaa
open Go.RowKit Go.Maps
set_option maxRecDepth 100000
set_option linter.unusedVariables false
/-- The types that are made within k rounds, and those that are not, yet. -/
def Mk (l : List Da) (k : Nat) (t : Ty) : Prop := t ∈ tysN l.length ∧ Dk (mkF l) k t
noncomputable def opn (l : List Da) (k : Nat) : List Ty := (tysN l.length).filter (fun t => dec (¬ Dk (mkF l) k t))
/-- The types that have values. -/
def Inh (l : List Da) (t : Ty) : Prop := t ∈ tysN l.length ∧ ∃ k, Dk (mkF l) k t
/-- What is made in round k + 1. -/
noncomputable def new (l : List Da) (k : Nat) : List Ty := fil (mkF l (Mk l k)) (opn l k) (opn l k).length
theorem ldep_le {l : List Da} {t : Ty} {k : Nat} (h : Dk (mkF l) k t) : ldep l t ≤ k := by
  rcases ldep_is l t with ⟨h1, _⟩ | ⟨h1, _, h3⟩
  · omega
  · have : ¬ k < (ldep l t).toNat := fun hk => h3 k hk h
    omega
end Go.Proofs.Yteoopmogklpnoaa
/-
  The least depth of a type, and whether it has values: the program's functions and the document's. No statement is proved here.
-/
namespace Go.Proofs.Yteoopmogklpnoaa
open Go.RowKit Go.Deep
set_option maxRecDepth 100000
set_option linter.unusedVariables false
theorem ldep_no {l : List Da} {t : Ty} (ht : t ∈ tysN l.length) (h : ¬ Inh l t) : ldep l t = 0 := by
  rcases ldep_is l t with ⟨h1, _⟩ | ⟨_, h2, _⟩
  · exact h1
  · exact absurd ⟨ht, _, h2⟩ h
theorem ldep_yes {l : List Da} {t : Ty} (h : Inh l t) : 0 < ldep l t := by
  obtain ⟨_, k, hk⟩ := h
  exact ldep_pos hk
theorem depth_l (A : Option Addr) (l : List Da) (T : List Int) (cap N : Nat) (t : Ty) (hNT : T.length = N) (w : World) (hr : RInts w A T) (hw : WorldOK l) (hS : St l T (l.length * 4 + 1) 0 0) (ht : t ∈ tysN l.length) :
    Calls Try.prog 82 #[.slice A N cap, .agg #[.int .i64 t.data, .int .i64 t.index]] w fun e w' => e = .returned (.int .i64 (ldep l t)) ∧ Below w.heap.size w w' := by
  subst hNT
  rw [← dep_ldep hw hS ht]
  exact depth_any A T cap l.length t w hr hS.len hw.1 (tys_in ht)
end Go.Proofs.Yteoopmogklpnoaa
/-
  When a tree is a value of a type: plain mathematics. No statement is proved here.
-/
namespace Go.Proofs.Yteoopmogklpnoaa
open Go.RowKit
set_option maxRecDepth 100000
set_option linter.unusedVariables false
theorem agR_ok {l : List Da} {t : Ty} {x : Int} (h : x ∈ ctR l t) : ∀ a ∈ agR l t x, TyOK l a := by
  obtain ⟨ht, d, m, hd, h1, rfl, hm⟩ := mem_ctR h
  obtain ⟨td, ti⟩ := t
  simp only at h1
  subst h1
  rw [agR_yes h hd hm]
  intro a ha
  refine ⟨ht.1, ?_⟩
  obtain ⟨hi, hargs⟩ := ctor_parts (world_ctor ht.1 hd hm)
  have hti : 0 ≤ ti ∧ ti ≤ 3 := by
    have h2 := ht.2
    rw [argB_data (by simp only; omega)] at h2
    have := of_decide_eq_true h2
    simp only at this
    omega
  unfold argT at ha
  obtain ⟨b, hb, rfl⟩ := List.mem_map.1 ha
  have hB := hargs b hb
  by_cases hb1 : b.data = -1
  · rw [argB_int hb1] at hB
    have h0 : b.index = 0 := of_decide_eq_true hB
    rw [argOf_other (by omega), argB_int hb1]
    exact decide_eq_true h0
  · rw [argB_data hb1] at hB
    have hp := of_decide_eq_true hB
    by_cases hs : b.index = -1
    · rw [argOf_same hs]
      have h5 : ¬ (Ty.mk b.data (resI l[d].ctors[m].index ti)).data = -1 := hb1
      rw [argB_data h5]
      refine decide_eq_true ?_
      unfold resI
      simp only
      split <;> omega
    · rw [argOf_other hs, argB_data hb1]
      exact decide_eq_true (by omega)
def upto (f : Nat → Bool) : Nat → Bool
  | 0 => true
  | k + 1 => upto f k && f k
theorem upto_le {f : Nat → Bool} {k : Nat} (e : Nat) (h : upto f k = false) : upto f (k + e) = false := by
  induction e with
  | zero => exact h
  | succ e ih => show (upto f (k + e) && f (k + e)) = false; rw [ih]; rfl
theorem upto_f {f : Nat → Bool} {n k : Nat} (hk : k < n) (h : f k = false) : upto f n = false := by
  have := upto_le (f := f) (k := k + 1) (n - (k + 1)) (by show (upto f k && f k) = false; rw [h]; simp)
  rwa [show k + 1 + (n - (k + 1)) = n by omega] at this
theorem upto_t {f : Nat → Bool} {k : Nat} (h : upto f k = true) (h' : f k = true) : upto f (k + 1) = true := by
  show (upto f k && f k) = true; rw [h, h']; rfl
theorem upto_get {f : Nat → Bool} {n k : Nat} (h : upto f n = true) (hk : k < n) : f k = true := by
  by_cases e : f k = true
  · exact e
  · have := upto_f hk (by simpa using e); rw [h] at this; cases this
noncomputable def fitV (l : List Da) : Nat → Ty → Vl → Bool
  | 0, _, _ => false
  | d + 1, t, v => if t.data = -1 then decide (v.ctor = -1) && (decide (0 ≤ v.n) && (decide (v.n ≤ 9) && decide (v.kids.length = 0)))
      else decide (v.n = 0) && (dec (v.ctor ∈ ctR l t) && (decide (v.kids.length = (agR l t v.ctor).length) && upto (fun i => fitV l d ((agR l t v.ctor).getD i default) (v.kids.getD i default)) (agR l t v.ctor).length))
/-- Which of the parts fit. -/
noncomputable def kidV (l : List Da) (d : Nat) (ats : List Ty) (ks : List Vl) (i : Nat) : Bool := fitV l d (ats.getD i default) (ks.getD i default)
section
variable {l : List Da} {d : Nat} {t : Ty} {v : Vl}
theorem fit_zero : fitV l 0 t v = false := rfl
theorem fit_int (h : t.data = -1) : fitV l (d + 1) t v = (decide (v.ctor = -1) && (decide (0 ≤ v.n) && (decide (v.n ≤ 9) && decide (v.kids.length = 0)))) := if_pos h
theorem fit_n (h : ¬ t.data = -1) (hn : ¬ v.n = 0) : fitV l (d + 1) t v = false := by
  show (if t.data = -1 then _ else _) = _
  rw [if_neg h, decide_eq_false hn]; rfl
theorem fit_len (h : ¬ t.data = -1) (hc : ¬ v.kids.length = (agR l t v.ctor).length) : fitV l (d + 1) t v = false := by
  show (if t.data = -1 then _ else _) = _
  rw [if_neg h, decide_eq_false hc]; simp
theorem fit_go (h : ¬ t.data = -1) (hn : v.n = 0) (hc : v.ctor ∈ ctR l t) (hl : v.kids.length = (agR l t v.ctor).length) : fitV l (d + 1) t v = upto (kidV l d (agR l t v.ctor) v.kids) (agR l t v.ctor).length := by
  show (if t.data = -1 then _ else _) = _
  rw [if_neg h, decide_eq_true hn, dec_t hc, decide_eq_true hl]; rfl
theorem kidV_at {ats : List Ty} {ks : List Vl} {i : Nat} (h : i < ats.length) (h' : i < ks.length) : kidV l d ats ks i = fitV l d ats[i] ks[i] := by
  unfold kidV
  rw [List.getD_eq_getElem?_getD, List.getD_eq_getElem?_getD, List.getElem?_eq_getElem h, List.getElem?_eq_getElem h']; rfl
end
end Go.Proofs.Yteoopmogklpnoaa
/-
  The value of least depth of a type: plain mathematics. No statement is proved here.
-/
namespace Go.Proofs.Yteoopmogklpnoaa
open Go.RowKit
set_option maxRecDepth 100000
set_option linter.unusedVariables false
theorem inh_dk {l : List Da} {t : Ty} (h : Inh l t) : Dk (mkF l) (ldep l t).toNat t := by
  rcases ldep_is l t with ⟨_, h2⟩ | ⟨_, h2, _⟩
  · obtain ⟨_, k, hk⟩ := h; exact absurd hk (h2 k)
  · exact h2
/-- One more than the greatest least depth, or 0. -/
noncomputable def mdp (l : List Da) (L : List Ty) : Int := dpR (ldep l) (Inh l) L
theorem mxT_le {F : Ty → Int} {L : List Ty} {b : Int} (h0 : 0 ≤ b) (h : ∀ a ∈ L, F a ≤ b) : ∀ k, k ≤ L.length → mxT F L k ≤ b
  | 0, _ => h0
  | k + 1, hk => by
    rw [mxT_succ hk]
    have h1 := mxT_le h0 h k (by omega)
    have h2 := h _ (List.getElem_mem hk)
    omega
theorem mxT_ge {F : Ty → Int} {L : List Ty} : ∀ k, k ≤ L.length → ∀ j (hj : j < L.length), j < k → F L[j] ≤ mxT F L k
  | 0, _, _, _, h => absurd h (Nat.not_lt_zero _)
  | k + 1, hk, j, hj, hjk => by
    rw [mxT_succ hk]
    by_cases e : j = k
    · subst e; omega
    · have := mxT_ge (F := F) k (by omega) j hj (by omega); omega
theorem mdp_no {l : List Da} {L : List Ty} (h : ¬ ∀ a ∈ L, Inh l a) : mdp l L = 0 := dpR_no h
theorem mdp_yes {l : List Da} {L : List Ty} (h : ∀ a ∈ L, Inh l a) : mdp l L = mxT (ldep l) L L.length + 1 := dpR_yes h
theorem mdp_pos {l : List Da} {L : List Ty} (h : 0 < mdp l L) : ∀ a ∈ L, Inh l a ∧ ldep l a < mdp l L := by
  by_cases hi : ∀ a ∈ L, Inh l a
  · intro a ha
    refine ⟨hi a ha, ?_⟩
    rw [mdp_yes hi]
    obtain ⟨j, hj, rfl⟩ := List.getElem_of_mem ha
    have := mxT_ge (F := ldep l) L.length (Nat.le_refl _) j hj hj
    omega
  · rw [mdp_no hi] at h; omega
theorem least_ctor {l : List Da} {t : Ty} (hok : TyOK l t) (hd : ¬ t.data = -1) (h : Inh l t) : ∃ x ∈ ctR l t, mdp l (agR l t x) = ldep l t := by
  have h1 := inh_dk h
  have hp := ldep_yes h
  obtain ⟨m, hm⟩ : ∃ m : Nat, (ldep l t).toNat = m + 1 := ⟨(ldep l t).toNat - 1, by omega⟩
  rw [hm] at h1
  have h1' : mkF l (Dk (mkF l) m) t := h1
  obtain ⟨x, hx, ha⟩ := (mkF_iff hok hd).1 h1'
  have hin : ∀ a ∈ agR l t x, a ∈ tysN l.length := fun a ha => ok_tys (agR_ok hx a ha)
  have hall : ∀ a ∈ agR l t x, Inh l a := fun a h' => ⟨hin a h', m, ha a h'⟩
  refine ⟨x, hx, ?_⟩
  rw [mdp_yes hall]
  have hle := mxT_le (F := ldep l) (L := agR l t x) (b := m) (by omega) (fun a h' => ldep_le (ha a h')) _ (Nat.le_refl _)
  have hge := mxT_ge (F := ldep l) (L := agR l t x) _ (Nat.le_refl _)
  have h0 := mxT_nonneg (ldep l) (agR l t x) (agR l t x).length
  generalize mxT (ldep l) (agR l t x) (agR l t x).length = M at hle hge h0
  have hdk : Dk (mkF l) (M.toNat + 1) t := by
    refine (mkF_iff hok hd).2 ⟨x, hx, fun a h' => ?_⟩
    obtain ⟨j, hj, rfl⟩ := List.getElem_of_mem h'
    have h2 := hge j hj hj
    have h3 := inh_dk (hall _ h')
    have h4 := ldep_nonneg l (agR l t x)[j]
    exact Dk_up_le (by omega) _ h3
  have := ldep_le hdk
  omega
end Go.Proofs.Yteoopmogklpnoaa
/-
  The seven worlds that the document's draws begin with: no type of theirs that has values has a least depth above 2. No statement is proved here.
-/
namespace Go.Proofs.Yteoopmogklpnoaa
open Go.RowKit Go.Deep
set_option maxRecDepth 100000
set_option linter.unusedVariables false
/-- One of the seven. -/
def Seven (l : List Da) : Prop := ∃ k, ∃ h : k < texts.length, k < 7 ∧ l = outW texts[k]
def mkB (l : List Da) (S : Ty → Bool) (t : Ty) : Bool := decide (t.data = -1) || (List.range l.length).any fun d => decide (t.data = d) && (l.getD d default).ctors.any fun c => fitsB c.index t.index && (argT c t.index).all S
theorem mkB_iff {l : List Da} {S : Ty → Bool} {P : Ty → Prop} (h : ∀ a, S a = true ↔ P a) (t : Ty) : mkB l S t = true ↔ mkF l P t := by
  unfold mkB mkF
  rw [Bool.or_eq_true, decide_eq_true_eq, List.any_eq_true]
  constructor
  · rintro (h0 | ⟨d, hd, hx⟩)
    · exact .inl h0
    · have hd' := List.mem_range.1 hd
      rw [Bool.and_eq_true, decide_eq_true_eq, List.any_eq_true] at hx
      obtain ⟨h1, c, hc, h2⟩ := hx
      rw [getD_in hd'] at hc
      obtain ⟨m, hm, rfl⟩ := List.getElem_of_mem hc
      rw [Bool.and_eq_true, List.all_eq_true] at h2
      exact .inr ⟨d, hd', m, hm, h1, h2.1, fun a ha => (h a).1 (h2.2 a ha)⟩
  · rintro (h0 | ⟨d, hd, m, hm, h1, h2, h3⟩)
    · exact .inl h0
    · refine .inr ⟨d, List.mem_range.2 hd, ?_⟩
      rw [Bool.and_eq_true, decide_eq_true_eq, List.any_eq_true]
      refine ⟨h1, l[d].ctors[m], by rw [getD_in hd]; exact List.getElem_mem hm, ?_⟩
      rw [Bool.and_eq_true, List.all_eq_true]
      exact ⟨h2, fun a ha => (h a).2 (h3 a ha)⟩
def dkB (l : List Da) : Nat → Ty → Bool
  | 0 => fun _ => false
  | k + 1 => mkB l (dkB l k)
theorem dkB_iff (l : List Da) : ∀ k t, dkB l k t = true ↔ Dk (mkF l) k t
  | 0, t => by unfold dkB Dk; simp
  | k + 1, t => mkB_iff (dkB_iff l k) t
def restB (l : List Da) : Bool := (tysN l.length).all fun t => !dkB l 3 t || dkB l 2 t
theorem texts_rest : ((texts.take 7).all fun s => restB (outW s)) = true := by decide +kernel
theorem Seven.ok {l : List Da} (h : Seven l) : WorldOK l ∧ 0 < l.length ∧ restB l = true := by
  obtain ⟨k, hk, h7, rfl⟩ := h
  obtain ⟨_, hg, h0, _, _⟩ := text_good h7
  refine ⟨hg.2.1, h0, ?_⟩
  have h := texts_rest
  rw [List.all_eq_true] at h
  exact h _ (by rw [List.mem_take_iff_getElem]; exact ⟨k, by rw [texts_len]; omega, rfl⟩)
theorem Seven.dep {l : List Da} (h : Seven l) {t : Ty} (hi : Inh l t) : ldep l t ≤ 2 := by
  obtain ⟨hw, _, hr⟩ := h.ok
  obtain ⟨ht, k, hk⟩ := hi
  unfold restB at hr
  rw [List.all_eq_true] at hr
  have hs : ∀ t ∈ tysN l.length, Dk (mkF l) 3 t → Dk (mkF l) 2 t := fun t ht h3 => by
    have := hr t ht
    rw [(dkB_iff l 3 t).2 h3] at this
    exact (dkB_iff l 2 t).1 (by simpa using this)
  have h2 : Dk (mkF l) 2 t := by
    by_cases h2 : 2 ≤ k
    · exact Dk_rest (mkF_tys hw) hs k h2 t ht hk
    · exact Dk_up_le (by omega) t hk
  exact ldep_le h2
end Go.Proofs.Yteoopmogklpnoaa
/-
  Rows of the call's own by their kinds alone: what remains true of them when a cell is overwritten by one of its kind. No statement is proved here.
-/
namespace Go.Proofs.Yteoopmogklpnoaa
open Go.RowKit Go.Deep
set_option linter.unusedVariables false
section
variable {w w' : World} {lo N N' n : Nat} {v : Value}
theorem T33_not31 : ¬ T33 148 := by unfold T33; decide
theorem T31_not28 : ¬ T31 144 := by unfold T31; decide
end
end Go.Proofs.Yteoopmogklpnoaa
