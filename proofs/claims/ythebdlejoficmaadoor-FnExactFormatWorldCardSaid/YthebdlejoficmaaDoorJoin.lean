/-
  Texts with something between them: plain mathematics, and strings.Join. No statement is proved here.
-/
import Derived.Test.YthebdlejoficmaaDoorFTy
namespace Go.Proofs.YthebdlejoficmaaDoor
open Go.RowKit Go.Deep
set_option maxRecDepth 100000
set_option linter.unusedVariables false

theorem ba_ext {a b : ByteArray} (h : a.data.toList = b.data.toList) : a = b := by
  cases a; cases b
  simp only at h
  congr 1
  exact Array.ext' h
theorem ba_append (a b : ByteArray) : (a ++ b).data.toList = a.data.toList ++ b.data.toList := by simp
def joinB (ts : List ByteArray) (sep : ByteArray) : ByteArray := ⟨(Lib.join (ts.map (·.data.toList)) sep.data.toList).toArray⟩
theorem joinB_list (ts : List ByteArray) (sep : ByteArray) : (joinB ts sep).data.toList = Lib.join (ts.map (·.data.toList)) sep.data.toList := by simp [joinB]
theorem joinB_nil (sep : ByteArray) : joinB [] sep = ⟨#[]⟩ := rfl
theorem joinB_one (x sep : ByteArray) : joinB [x] sep = x := ba_ext (by rw [joinB_list]; exact Lib.join_one _ _)
theorem join_snoc (ts : List (List UInt8)) (y sep : List UInt8) (h : ts ≠ []) : Lib.join (ts ++ [y]) sep = Lib.join ts sep ++ (sep ++ y) := by
  cases ts with
  | nil => exact absurd rfl h
  | cons x r =>
    rw [List.cons_append, Lib.join_cons, Lib.join_cons]
    simp [Lib.joinTail, List.append_assoc]
theorem joinB_snoc (ts : List ByteArray) (y sep : ByteArray) (h : ts ≠ []) : joinB (ts ++ [y]) sep = (joinB ts sep ++ sep) ++ y := by
  refine ba_ext ?_
  rw [ba_append, ba_append, joinB_list, joinB_list, List.map_append, List.map_cons, List.map_nil, join_snoc _ _ _ (by simpa using h), List.append_assoc]
theorem joinB_size (sep : ByteArray) (m : Nat) : ∀ ts : List ByteArray, (∀ t ∈ ts, t.size ≤ m) → (joinB ts sep).size ≤ ts.length * (m + sep.size) := by
  have key : ∀ ts : List ByteArray, (∀ t ∈ ts, t.size ≤ m) → (Lib.join (ts.map (·.data.toList)) sep.data.toList).length ≤ ts.length * (m + sep.size) := by
    intro ts h
    cases ts with
    | nil => simp [Lib.join_nil]
    | cons x r =>
      rw [List.map_cons, Lib.join_cons, List.length_append]
      have hx := h x (List.mem_cons_self)
      have hr : (Lib.joinTail sep.data.toList (r.map (·.data.toList))).length ≤ r.length * (m + sep.size) := by
        have h' : ∀ t ∈ r, t.size ≤ m := fun t ht => h t (List.mem_cons_of_mem _ ht)
        clear h hx
        induction r with
        | nil => simp [Lib.joinTail]
        | cons y r ih =>
          have h1 := ih (fun t ht => h' t (List.mem_cons_of_mem _ ht))
          have h2 := h' y (List.mem_cons_self)
          have e : Lib.joinTail sep.data.toList ((y :: r).map (·.data.toList)) = (sep.data.toList ++ y.data.toList) ++ Lib.joinTail sep.data.toList (r.map (·.data.toList)) := by simp [Lib.joinTail]
          rw [e, List.length_append, List.length_append, List.length_cons, Nat.add_mul, Nat.one_mul]
          have e1 : sep.data.toList.length = sep.size := by simp
          have e2 : y.data.toList.length = y.size := by simp
          omega
      have e2 : x.data.toList.length = x.size := by simp
      rw [List.length_cons, Nat.add_mul, Nat.one_mul]
      omega
  intro ts h
  have e : (joinB ts sep).size = (Lib.join (ts.map (·.data.toList)) sep.data.toList).length := by simp [joinB, ByteArray.size]
  rw [e]
  exact key ts h

/-! The document's texts, told by joins. -/
theorem argAcc_join {l : List Da} {c : Ct} : ∀ k, k < c.args.length → argAcc l c (k + 1) = (c.name ++ ⟨#[40]⟩) ++ joinB ((c.args.take (k + 1)).map (tyT l)) ⟨#[44]⟩
  | 0, h => by
    rw [argAcc_at h, if_pos rfl, List.take_succ_eq_append_getElem h]
    show _ = _ ++ joinB [tyT l c.args[0]] _
    rw [joinB_one]; rfl
  | k + 1, h => by
    rw [argAcc_at h, if_neg (by omega), argAcc_join k (by omega), List.take_succ_eq_append_getElem h, List.map_append, List.map_cons, List.map_nil, joinB_snoc _ _ _ (by
      intro e
      have h1 := congrArg List.length e
      rw [List.length_map, List.length_take] at h1
      simp only [List.length_nil] at h1
      omega)]
    simp only [ByteArray.append_assoc]
theorem ctT2_join {l : List Da} {c : Ct} (h : 0 < c.args.length) : ctT2 l c = ((c.name ++ ⟨#[40]⟩) ++ joinB (c.args.map (tyT l)) ⟨#[44]⟩) ++ ⟨#[41]⟩ := by
  unfold ctT2
  rw [if_pos h]
  have := argAcc_join (l := l) (c := c) (c.args.length - 1) (by omega)
  rw [show c.args.length - 1 + 1 = c.args.length by omega, List.take_length] at this
  rw [this]
theorem ctT2_none {l : List Da} {c : Ct} (h : c.args.length = 0) : ctT2 l c = c.name := by
  unfold ctT2
  rw [if_neg (by omega), h]; rfl
theorem ctsAcc_join {l : List Da} {base : ByteArray} {cs : List Ct} : ∀ k, k ≤ cs.length → ctsAcc l base cs k = base ++ joinB ((cs.take k).map (ctT l)) ⟨#[124]⟩
  | 0, _ => by
    show base = base ++ joinB [] _
    rw [joinB_nil]; exact (ba_ext (by rw [ba_append]; simp)).symm
  | k + 1, h => by
    rw [ctsAcc_at (by omega), ctsAcc_join k (by omega), List.take_succ_eq_append_getElem (by omega), List.map_append, List.map_cons, List.map_nil]
    by_cases h0 : k = 0
    · subst h0
      rw [if_pos rfl]
      show (base ++ joinB [] _) ++ _ = base ++ joinB [ctT l cs[0]] _
      rw [joinB_one, joinB_nil]
      exact ba_ext (by rw [ba_append, ba_append, ba_append]; simp)
    · rw [if_neg h0, joinB_snoc _ _ _ (by
        intro e
        have h1 := congrArg List.length e
        rw [List.length_map, List.length_take] at h1
        simp only [List.length_nil] at h1
        omega)]
      simp only [ByteArray.append_assoc]
def daT (l : List Da) (d : Da) : ByteArray := (d.name ++ ⟨#[61]⟩) ++ joinB (d.ctors.map (ctT l)) ⟨#[124]⟩
theorem wAcc_join {l : List Da} : ∀ k, k ≤ l.length → wAcc l k = joinB ((l.take k).map (daT l)) ⟨#[59]⟩
  | 0, _ => rfl
  | k + 1, h => by
    rw [wAcc_at (by omega), ctsAcc_join _ (Nat.le_refl _), List.take_length, wAcc_join k (by omega), List.take_succ_eq_append_getElem (by omega), List.map_append, List.map_cons, List.map_nil]
    unfold headT daT
    by_cases h0 : k = 0
    · subst h0
      rw [if_pos rfl]
      show ((joinB [] _ ++ _) ++ _) ++ _ = joinB [_] _
      rw [joinB_one, joinB_nil]
      exact ba_ext (by simp only [ba_append]; simp)
    · rw [if_neg h0, joinB_snoc _ _ _ (by
        intro e
        have h1 := congrArg List.length e
        rw [List.length_map, List.length_take] at h1
        simp only [List.length_nil] at h1
        omega)]
      simp only [ByteArray.append_assoc]
theorem wT_join (l : List Da) : wT l = joinB (l.map (daT l)) ⟨#[59]⟩ := by
  unfold wT
  rw [wAcc_join _ (Nat.le_refl _), List.take_length]

/-- What the first k rounds have left in a row of texts. -/
def StRow (ts : List ByteArray) (xs : List Value) (k : Nat) : Prop := ∀ j (h : j < ts.length), j < k → xs[j]? = some (.string ts[j])
theorem StRow.zero (ts : List ByteArray) (xs : List Value) : StRow ts xs 0 := fun j _ h => absurd h (by omega)
theorem StRow.step {ts : List ByteArray} {xs : List Value} {k : Nat} (h : StRow ts xs k) (hk : k < ts.length) (hx : xs.length = ts.length) : StRow ts (xs.set k (.string ts[k])) (k + 1) := by
  intro j hj hjk
  by_cases e : j = k
  · subst e
    rw [List.getElem?_set_self (by omega)]
  · rw [List.getElem?_set_ne (by omega)]
    exact h j hj (by omega)
/-- strings.Join of a row of the call's own. -/
theorem join_row (ts : List ByteArray) (sep : ByteArray) (g lo cap : Nat) (xs : List Value) (w : World) (hown : w.ownsRow lo 9 1 (.slice (some ⟨g, 0, none⟩) ts.length cap) ts.length xs) (hrow : StRow ts xs ts.length) (hcap : ts.length ≤ cap) (hn : ts.length ≤ 1000) (hm : ∀ t ∈ ts, t.size ≤ 100000) (hsep : sep.size ≤ 10) :
    Calls Tryd.prog 29 #[.slice (some ⟨g, 0, none⟩) ts.length cap, .string sep] w fun e w' => e = .returned (.string (joinB ts sep)) ∧ Below w.heap.size w w' := by
  have hz := joinB_size sep 100000 ts hm
  have hz2 : ts.length * (100000 + sep.size) ≤ 1000 * (100000 + 10) := Nat.mul_le_mul hn (by omega)
  have e : (joinB ts sep).size = (Lib.join (ts.map (·.data.toList)) sep.data.toList).length := by simp [joinB, ByteArray.size]
  refine (Tryd.strings_Join g 0 cap ts sep w ?_ (own_lt hown) (by omega) hcap (by omega)).mono ?_
  · intro j x hj
    obtain ⟨hjl, rfl⟩ := List.getElem?_eq_some_iff.1 hj
    have := hown.cellAt j (by omega)
    rw [Nat.zero_add, this]
    exact hrow j hjl hjl
  · rintro e w1 ⟨rfl, hb⟩
    exact ⟨rfl, hb⟩
end Go.Proofs.YthebdlejoficmaaDoor
